/- What a step, a spread and a closure of package rel return. -/
import Derived.RangeFuncNested
import Derived.RangeFuncBound
import Derived.RangeFuncCalls
import Derived.RangeFuncLeaves
import Derived.RangeFuncFrom
import Derived.Shelf.Abstract
import Derived.Shelf.RegionOpen
import Derived.WalkKit
import Derived.OwnWalkIn
import Derived.TacticsInMore
import Derived.LoopNIn
import Derived.LoopIn
import Derived.Outline
import Derived.Test.YtioimgeeamchaaaDoorLeaf
import Derived.Test.YtioimgeeamchaaaDoorGen
namespace Go.Proofs.YtioimgeeamchaaaDoor
open Go.RowKit Go.Shelf
attribute [local go_sem] Oper.semAt_some

theorem cell_new_l (W : World) (v : Value) (t : TypeId) : (W.alloc (.cells #[v] t)).cell? ⟨W.heap.size, 0, none⟩ = some v ∧ (W.alloc (.cells #[v] t)).frozen? ⟨W.heap.size, 0, none⟩ = false := by
  constructor <;> simp [go_sem]
theorem cell_alloc_l {W : World} {a : Addr} {v : Value} (o : Obj) (h : W.cell? a = some v) : (W.alloc o).cell? a = some v := cell_kept h (World.grownBy_alloc W o none) (fun r e => by cases e)
theorem frozen_alloc_l {W : World} {a : Addr} {v : Value} (o : Obj) (h : W.cell? a = some v) (hf : W.frozen? a = false) : (W.alloc o).frozen? a = false := (frozen_kept h (World.grownBy_alloc W o none) (fun r e => by cases e)).trans hf

/-- A relation lies in memory. -/
structure Lies (w : World) (b off m : Nat) (rows : List Nat) : Prop where
  old : b < w.heap.size
  cell : ∀ i, i < m → w.cell? ⟨b, off + i, none⟩ = some (.int .i64 (rows.getD i 0 : Nat))

theorem Lies.below {w w' : World} {b off m : Nat} {rows : List Nat} (h : Lies w b off m rows) (hb : Below w.heap.size w w') : Lies w' b off m rows :=
  ⟨Nat.lt_of_lt_of_le h.old hb.size, fun i hi => (hb.cell (p := ⟨b, off + i, none⟩) h.old).trans (h.cell i hi)⟩

/-- A slice of m numbers holds a relation; of no thing at all it may lie anywhere. -/
def At (w : World) (a : Option Addr) (m : Nat) (rows : List Nat) : Prop := m = 0 ∨ ∃ b off, a = some ⟨b, off, none⟩ ∧ Lies w b off m rows
theorem At.below {w w' : World} {a : Option Addr} {m : Nat} {rows : List Nat} (h : At w a m rows) (hb : Below w.heap.size w w') : At w' a m rows :=
  h.elim .inl fun ⟨b, off, e, l⟩ => .inr ⟨b, off, e, l.below hb⟩

set_option maxRecDepth 100000 in
set_option maxHeartbeats 1000000 in
theorem step_in (n m : Nat) (hn : 3 ≤ n) (hm : m ≤ 12) (a : Option Addr) (cap set : Nat) (rows : List Nat) (hr : ∀ i, rows.getD i 0 < 4096) (hs : set < 2 ^ m) (w : World) (hl : At w a m rows) (hT : Tab w) :
    CallsIn Fence.wide n Tryd.prog 68 #[.slice a m cap, .int .i64 set] w fun e w' => e = .returned (.int .i64 (stepN m rows set : Nat)) ∧ Below w.heap.size w w' := by
  have h1 : 1 ≤ n := by omega
  have hsz := hT.size
  refine callsIn_of_wp_marks Tryd.func68 rfl trivial ?_ rfl
  simp only [Tryd.ntmps68, List.size_toArray, List.length_cons, List.length_nil, Nat.reduceAdd, Nat.reduceSub, Array.replicate_succ, Array.replicate_zero, List.push_toArray, List.append_toArray, List.nil_append, List.cons_append]
  gi_wp2_with (refine ⟨trivial, ?_⟩; gi_at_call 49; refine (things_in (n - 1) _ _).mono ?_; rintro e w' ⟨rfl, rfl⟩)
  have c0 := cell_new_l w (.slice a m cap) 23
  have c1 := cell_new_l (w.alloc (.cells #[.slice a m cap] 23)) (.int .i64 0) 3
  have c2 := cell_new_l ((w.alloc (.cells #[.slice a m cap] 23)).alloc (.cells #[.int .i64 0] 3)) (.int .i64 (set : Int)) 3
  simp only [World.size_alloc] at c1 c2
  have hB0 : Below w.heap.size w (((w.alloc (.cells #[.slice a m cap] 23)).alloc (.cells #[.int .i64 0] 3)).alloc (.cells #[.int .i64 (set : Int)] 3)) := (((Below.refl _ w).alloc (Nat.le_refl _) _).alloc (by simp) _).alloc (by simp; omega) _
  refine wpIn_rangeFunc_ownF rfl h1 (gf := 65) (lb := #[.pointer (some ⟨w.heap.size + 1 + 1, 0, none⟩)]) rfl trivial (enters_of Tryd.func65 (by kernel_rfl) rfl)
    (things_stops (n - 1) m hm (by omega) (w.heap.size + 1 + 1) w.heap.size set hs _ (by simp) (by simp; omega) hsz c2.1 (hT.below hB0 hsz)) belowK_t (belowK_b (by simp; omega)) (Below.refl _ _) (fun _ => rfl)
    (fun pre W => (W.cell? ⟨w.heap.size, 0, none⟩ = some (.slice a m cap) ∧ W.cell? ⟨w.heap.size + 1, 0, none⟩ = some (.int .i64 (orAll rows pre : Nat)) ∧ W.frozen? ⟨w.heap.size + 1, 0, none⟩ = false) ∧ Below w.heap.size w W)
    (fun _ _ _ => False)
    (OwnFrom.and (Own.from (fun s A B row hs hg hr => ⟨cell_kept hs.1 hg hr, cell_kept hs.2.1 hg hr, (frozen_kept hs.2.1 hg hr).trans hs.2.2⟩) _) (ownFrom_below (Nat.le_refl _) (by simp; omega)))
    (fun _ _ _ _ _ hs _ _ => hs)
    ⟨⟨cell_alloc_l _ (cell_alloc_l _ c0.1), cell_alloc_l _ c1.1, frozen_alloc_l _ c1.1 c1.2⟩, hB0⟩
    (fun x => { tmps := #[.slice a m cap, .int .i64 set, .pointer (some ⟨w.heap.size, 0, none⟩), undef, .int .i64 0, .pointer (some ⟨w.heap.size + 1, 0, none⟩), .int .i64 (x.1 : Int), .int .i64 set, .func (.func 65) #[] #[.pointer (some ⟨w.heap.size + 1 + 1, 0, none⟩)], .int .i64 (x.1 : Int), undef, undef, undef, undef, undef, undef, undef], defers := [] }) ?assign ?body ?done ?stop
  case assign =>
    intro l x W K hK
    gi_wp2
    exact hK
  case body =>
    rintro l pre ⟨i, hi⟩ W ⟨⟨hc0, hc1, hf1⟩, hB⟩ _
    obtain ⟨b, off, rfl, hb, hc⟩ : ∃ b off, a = some ⟨b, off, none⟩ ∧ Lies w b off m rows := hl.resolve_left (by omega)
    have hri : W.cell? ⟨b, off + i, none⟩ = some (.int .i64 (rows.getD i 0 : Nat)) := (hB.cell (p := ⟨b, off + i, none⟩) hb).trans (hc i hi)
    have hor := or_i64 (orAll rows pre) (rows.getD i 0) (orAll_lt12 hr pre) (hr i)
    have hsn := orAll_snoc rows pre ⟨i, hi⟩
    dsimp only at hsn ⊢
    have HS : Hid (orAll rows (pre ++ [⟨i, hi⟩]) = orAll rows pre ||| rows.getD i 0) := hsn
    clear hsn hc
    have hi' : (i : Int) < (m : Int) := by omega
    have hmx : Tryd.prog.follows .mixedOrders = true := by kernel_rfl
    gi_wp2
    gi_region_o
    all_goals gi_wp2
    all_goals exact ⟨(KeepsOthers.setCell _ _ _).trans (KeepsOthers.drew _), ((Below.refl _ W).setCell (p := ⟨w.heap.size + 1, 0, none⟩) (by simp) _).drew,
      ⟨(World.cell?_setCell_other _ _ _ _ (by simp)).trans hc0, (World.cell?_setCell_same' _ _ _ (by rw [hc1]; rfl)).trans (congrArg some (congrArg (Value.int .i64) (hor.trans (congrArg Nat.cast HS.out.symm)))), (World.frozen?_setCell _ _ _ _).trans hf1⟩,
      (hB.setCell (p := ⟨w.heap.size + 1, 0, none⟩) (by simp) _).drew⟩
  case done =>
    rintro D ys W hD rfl ⟨⟨_, hcr, _⟩, hB⟩ hK
    gi_wp2
    refine ⟨by simp, .inl ⟨_, _, rfl, run_takeDeferred hK, ?_⟩⟩
    exact ⟨_, results_tmp rfl _ _ _, rfl, hB.trans (belowK_b (w := w) (Nat.le_refl _) W D _ _ (by simp at hD; omega) hK rfl rfl)⟩
  case stop =>
    rintro D c pre W _ _ h _
    exact h.elim
end Go.Proofs.YtioimgeeamchaaaDoor
