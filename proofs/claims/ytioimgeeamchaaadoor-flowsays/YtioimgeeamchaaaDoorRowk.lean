/- Rows of numbers of one's own, as they grow, and whether a relation has a row for a number (IsThing). -/
import Derived.WalkKit
import Derived.LoopTactic
import Derived.OpenShut
import Derived.OwnWalk
import Derived.Maps.AppendAt
import Derived.Test.YtioimgeeamchaaaDoorMid
namespace Go.Proofs.YtioimgeeamchaaaDoor
open Go.RowKit

theorem Own.drawn {w : World} {B m : Nat} {f : Nat → Nat} (h : Own w B m f) (n : Nat) : Own (w.drewN n) B m f := ⟨h.lt, h.cell, h.free⟩
theorem calls_of_some {α : Type} {P : Program} {f : FuncId} {args : Array Value} {W : World} {Q : Ending → World → Prop} {p : α → Prop} {R : α → Ending → World → Prop}
    (h : ∃ Y, p Y ∧ Calls P f args W (R Y)) (k : ∀ Y, p Y → ∀ e w', R Y e w' → Q e w') : Calls P f args W Q := by
  obtain ⟨Y, hp, hc⟩ := h
  exact hc.mono fun e w' hr => k Y hp e w' hr
/-- The first numbers of a function, as they lie in memory. -/
def row (m : Nat) (D : Nat → Nat) : List Value := (List.range m).map fun i => Value.int .i64 (D i : Nat)
theorem Own.grown {w w' : World} {B m : Nat} {f : Nat → Nat} (h : Own w B m f) (hg : w.grownBy w' none) : Own w' B m f :=
  h.below ((Below.refl _ _).grown hg (Nat.le_refl _) (fun k e => by cases e))
theorem row_len (m : Nat) (D : Nat → Nat) : (row m D).length = m * 1 := by simp [row]
theorem row_cells {w : World} {B m : Nat} {D : Nat → Nat} (h : Own w B m D) (n : Nat) : ∀ j u, (row m D)[j]? = some u → (w.drewN n).cell? (Addr.add ⟨B, 0, none⟩ j) = some u := by
  intro j u hu
  have hj : j < m := by
    have := (List.getElem?_eq_some_iff.1 hu).1
    simpa [row] using this
  have e : u = .int .i64 (D j : Nat) := by
    simp [row, hj] at hu
    exact hu.symm
  rw [e]
  show w.cell? _ = _
  rw [Go.WideShapes.add_plain, Nat.zero_add]
  exact h.cell j hj
theorem row_one (m : Nat) (D : Nat → Nat) : ∀ u, u ∈ row m D → u.oneCell' = true := by
  intro u hu
  simp only [row, List.mem_map] at hu
  obtain ⟨_, _, rfl⟩ := hu
  rfl
theorem own_of_row {w : World} {base m : Nat} {v : Value} {D : Nat → Nat} (h0 : 0 < m) (h : w.ownsRow base 3 1 v m (row m D)) :
    ∃ g cap, v = .slice (some ⟨g, 0, none⟩) m cap ∧ base ≤ g ∧ Own w g m D := by
  obtain ⟨_, h | ⟨g, cap, cur, hv, hb, hh, hn, hc, hs, ht⟩⟩ := h
  · omega
  · refine ⟨g, cap, hv, hb, (Array.getElem?_eq_some_iff.1 hh).1, fun j hj => ?_, fun j hj => ?_⟩
    · have e : cur[j]? = some (.int .i64 (D j : Nat)) := by
        have := congrArg (fun l : List Value => l[j]?) ht
        simp only [Nat.mul_one, List.getElem?_take, if_pos hj] at this
        rw [← Array.getElem?_toList, this]
        simp [row, hj]
      simp only [World.cell?, hh]
      exact e
    · simp [World.frozen?, hh]
theorem Own.like {w : World} {B m : Nat} {f g : Nat → Nat} (h : Own w B m f) (e : ∀ j, j < m → f j = g j) : Own w B m g := ⟨h.lt, fun j hj => by rw [h.cell j hj, e j hj], h.free⟩
theorem row_snoc (t : Nat) (L : Nat → Nat) (v : Nat) : row t L ++ [.int .i64 (v : Nat)] = row (t + 1) (upd L t v) := by
  unfold row
  rw [List.range_succ, List.map_append]
  congr 1
  · refine List.map_congr_left fun i hi => ?_
    rw [upd_other _ (by have := List.mem_range.1 hi; omega)]
  · simp [upd_same]
theorem ownsRow_below {w w' : World} {base n : Nat} {v : Value} {xs : List Value} (h : w.ownsRow base 3 1 v n xs) (hb : Below w.heap.size w w') : w'.ownsRow base 3 1 v n xs := by
  obtain ⟨h1, h2 | ⟨g, cap, cur, hv, hg, hh, r⟩⟩ := h
  · exact ⟨h1, .inl h2⟩
  · exact ⟨h1, .inr ⟨g, cap, cur, hv, hg, (hb.block g (Array.getElem?_eq_some_iff.1 hh).1).trans hh, r⟩⟩
theorem ownsRow_block {w : World} {base n : Nat} {v : Value} {xs : List Value} (h : w.ownsRow base 3 1 v n xs) : ∀ k, v.ownBlock = some k → base ≤ k := by
  intro k hk
  obtain ⟨_, ⟨hv, _⟩ | ⟨g, cap, cur, hv, hg, _⟩⟩ := h
  · rw [hv] at hk; cases hk
  · rw [hv] at hk; cases hk; exact hg
end Go.Proofs.YtioimgeeamchaaaDoor
