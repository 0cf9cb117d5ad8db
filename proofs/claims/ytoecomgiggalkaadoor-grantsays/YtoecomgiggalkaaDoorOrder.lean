/- Whether a closed relation is an order (isOrder). -/
import Derived.RangeFuncNested
import Derived.RangeFuncBound
import Derived.RangeFuncCalls
import Derived.RangeFuncLeaves
import Derived.RangeFuncFrom
import Derived.Shelf.Abstract
import Derived.Shelf.RegionOpen
import Derived.WalkKit
import Derived.OwnWalkIn
import Derived.TacticsInMore
import Derived.LoopNIn
import Derived.LoopIn
import Derived.Test.YtoecomgiggalkaaDoorSelf
namespace Go.Proofs.YtoecomgiggalkaaDoor
open Go.RowKit Go.Shelf
attribute [local go_sem] Oper.semAt_some

/-- The marks that loops over functions leave among a function's deferred calls. -/
def marks (Ds : List Nat) : List Deferred := Ds.map fun D => { target := .collected D, args := #[] }
/-- Each mark's block has nothing to hand over. -/
structure Marked (w : World) (B : Nat) (Ds : List Nat) : Prop where
  low : ∀ D, D ∈ Ds → B ≤ D
  lie : ∀ D, D ∈ Ds → w.heap[D]? = some (.deferred (some []))
  once : Ds.Nodup

theorem Marked.none (w : World) (B : Nat) : Marked w B [] := ⟨by simp, by simp, by simp⟩
theorem Marked.lt {w : World} {B : Nat} {Ds : List Nat} (h : Marked w B Ds) {D : Nat} (hD : D ∈ Ds) : D < w.heap.size := (Array.getElem?_eq_some_iff.1 (h.lie D hD)).1
theorem Marked.kept {w w' : World} {B : Nat} {Ds : List Nat} (h : Marked w B Ds) (hk : KeepsOthers w w') : Marked w' B Ds :=
  ⟨h.low, fun D hD => hk.same D _ (h.lie D hD) rfl, h.once⟩

theorem leaves_marks {F : Fence} {n : Nat} {P : Program} {fn : Func} {tmps : Array Value} {R : Ending → World → Prop} {B : Nat} :
    ∀ (Ds : List Nat) (w : World), Marked w B Ds → (∀ w', Below B w w' → (∀ a v, w.cell? a = some v → w'.cell? a = some v) → LeavesInM F n P fn tmps R [] .returning w') →
      LeavesInM F n P fn tmps R (marks Ds) .returning w
  | [], w, _, h => h w (Below.refl _ _) fun _ _ hc => hc
  | D :: Ds, w, hM, h => by
    have hK := hM.lie D (by simp)
    have hlow := hM.low D (by simp)
    have hon := List.nodup_cons.1 hM.once
    refine ⟨by simp, .inl ⟨D, _, rfl, run_takeDeferred hK, ?_⟩⟩
    have hb : Below B w (w.putObj D (.deferred Option.none)) := (Below.refl B w).grown (grownBy_putObj' w D _) (by have := hM.lt (D := D) (by simp); omega) (fun k e => by cases e; omega)
    refine leaves_marks Ds _ ⟨fun E hE => hM.low E (by simp [hE]), fun E hE => ?_, hon.2⟩ ?_
    · have hne : E ≠ D := fun e => hon.1 (e ▸ hE)
      rw [World.putObj_heap_other hne]
      exact hM.lie E (by simp [hE])
    · intro w' hb' hc'
      exact h w' (hb.trans hb') fun a v hc => hc' a v (cell_kept hc (grownBy_putObj' w D _) (fun r e => by cases e; exact ⟨_, hK, rfl⟩))

/-- No two things lead to each other. -/
def noRing (m : Nat) (C : Nat → Nat) : Bool := (List.range m).all fun i => (List.range m).all fun k => (i == k) || !(C i).testBit k || !(C k).testBit i
theorem noRing_iff (m : Nat) (C : Nat → Nat) : noRing m C = true ↔ ∀ i k, i < m → k < m → i ≠ k → (C i).testBit k = true → (C k).testBit i = false := by
  simp only [noRing, List.all_eq_true, List.mem_range, Bool.or_eq_true, beq_iff_eq, Bool.not_eq_true']
  constructor
  · intro h i k hi hk hne hb
    rcases h i hi k hk with (h | h) | h
    · exact absurd h hne
    · rw [hb] at h; cases h
    · exact h
  · intro h i hi k hk
    by_cases e : i = k
    · exact .inl (.inl e)
    · cases hb : (C i).testBit k with
      | false => exact .inl (.inr rfl)
      | true => exact .inr (h i k hi hk e hb)
theorem less_self_bit (x i k : Nat) : (less x (2 ^ i)).testBit k = true ↔ x.testBit k = true ∧ i ≠ k := by
  rw [less_bit, Nat.testBit_two_pow]
  simp

/-- How memory stands between two rounds. -/
structure Between (w wr : World) (B m cap k : Nat) (C : Nat → Nat) (Ds : List Nat) : Prop where
  le : k ≤ m
  box : wr.cell? ⟨w.heap.size, 0, Option.none⟩ = some (.slice (some ⟨B, 0, Option.none⟩) m cap)
  res : wr.cell? ⟨w.heap.size + 1, 0, Option.none⟩ = some (.bool false)
  free : wr.frozen? ⟨w.heap.size + 1, 0, Option.none⟩ = false
  own : Own wr (w.heap.size + 1 + 1) m (fun j => less (C j) (2 ^ j))
  bel : Below w.heap.size w wr
  marked : Marked wr w.heap.size Ds
  past : ∀ i, i < k → ∀ q, (less (C i) (2 ^ i)).testBit q = true → (C q).testBit i = false

theorem Between.below {w wr wz : World} {B m cap k : Nat} {C : Nat → Nat} {Ds : List Nat} (h : Between w wr B m cap k C Ds) (hb : Below wr.heap.size wr wz) : Between w wz B m cap k C Ds := by
  have h1 := h.own.lt
  have c1 : ∀ b o, b < wr.heap.size → wz.cell? ⟨b, o, Option.none⟩ = wr.cell? ⟨b, o, Option.none⟩ := fun b o hlt => hb.cell (p := ⟨b, o, Option.none⟩) hlt
  have f1 : ∀ b o, b < wr.heap.size → wz.frozen? ⟨b, o, Option.none⟩ = wr.frozen? ⟨b, o, Option.none⟩ := fun b o hlt => hb.frozen (p := ⟨b, o, Option.none⟩) hlt
  exact ⟨h.le, (c1 _ _ (by omega)).trans h.box, (c1 _ _ (by omega)).trans h.res, (f1 _ _ (by omega)).trans h.free, h.own.below hb, h.bel.trans (hb.mono h.bel.size),
    ⟨h.marked.low, fun D hD => (hb.block D (h.marked.lt hD)).trans (h.marked.lie D hD), h.marked.once⟩, h.past⟩

theorem Marked.cons {w : World} {B D : Nat} {Ds : List Nat} (h : Marked w B Ds) (hB : B ≤ D) (hn : ∀ E, E ∈ Ds → E < D) (hK : w.heap[D]? = some (.deferred (some []))) : Marked w B (D :: Ds) := by
  refine ⟨fun E hE => ?_, fun E hE => ?_, List.nodup_cons.2 ⟨fun hD => absurd (hn D hD) (by omega), h.once⟩⟩
  · rcases List.mem_cons.1 hE with rfl | hE
    · exact hB
    · exact h.low E hE
  · rcases List.mem_cons.1 hE with rfl | hE
    · exact hK
    · exact h.lie E hE

end Go.Proofs.YtoecomgiggalkaaDoor
