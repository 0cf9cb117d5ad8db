/- The closed fact on flows: b flows into a, by what is asked. -/
import Derived.WalkKit
import Derived.LoopTactic
import Derived.KernelRfl
import Derived.Test.YtioimgeeamchaaaDoorFloO
namespace Go.Proofs.YtioimgeeamchaaaDoor
open Go.RowKit
set_option maxRecDepth 100000
set_option linter.unusedVariables false

theorem lst_newF (w : World) (x0 x1 x2 x3 x4 x5 : Int) (t : TypeId) : Lst (w.alloc (.cells #[.int .i64 x0, .int .i64 x1, .int .i64 x2, .int .i64 x3, .int .i64 x4, .int .i64 x5] t)) (.slice (some ⟨w.heap.size, 0, none⟩) 6 6) 6 (fun i => ([x0, x1, x2, x3, x4, x5] : List Int).getD i 0) := by
  have h1 := World.alloc_heap_new w (.cells #[.int .i64 x0, .int .i64 x1, .int .i64 x2, .int .i64 x3, .int .i64 x4, .int .i64 x5] t)
  refine ⟨_, 6, rfl, .inr ⟨w.heap.size, 0, rfl, by simp, fun i hi => ?_⟩⟩
  simp only [World.cell?]
  rw [h1]
  match i, hi with
  | 0, _ => rfl
  | 1, _ => rfl
  | 2, _ => rfl
  | 3, _ => rfl
  | 4, _ => rfl
  | 5, _ => rfl
/-- The closed fact's program. -/
def leakL : List Nod := [⟨1, 1, 0, 0, 0⟩, ⟨0, 1, 0, 0, 0⟩, ⟨6, 0, 1, 0, 0⟩, ⟨5, 0, 0, 0, 0⟩, ⟨8, 0, 0, 2, 3⟩]
def leakA : Nat → Int := fun i => ([0, 1, 0, 0, 0, 0] : List Int).getD i 0
def leakB : Nat → Int := fun i => ([1, 1, 0, 0, 0, 0] : List Int).getD i 0
theorem leak_pro : proC leakL = 0 := by kernel_rfl
theorem leak_no : fitsB (cF leakL) leakA = false := by kernel_rfl
theorem leak_yes : fitsB (cF leakL) leakB = true := by kernel_rfl
theorem leak_fa : fitC leakL 6 leakA 0 = 0 := by kernel_rfl
theorem leak_fb : fitC leakL 6 leakB 0 = 0 := by kernel_rfl
theorem leak_any (w : World) : Calls Tryd.prog 34 #[] w fun e w' => ∃ g, e = .returned (.slice (some ⟨g, 0, none⟩) 5 5) ∧ Hid (AtNods w' (some ⟨g, 0, none⟩) 5 (nthD leakL)) ∧ Below w.heap.size w w' := by
  have hN : AtNods (w.alloc (.cells #[.int .i64 1, .int .i64 1, .int .i64 0, .int .i64 0, .int .i64 0, .int .i64 0, .int .i64 1, .int .i64 0, .int .i64 0, .int .i64 0, .int .i64 6, .int .i64 0, .int .i64 1, .int .i64 0, .int .i64 0, .int .i64 5, .int .i64 0, .int .i64 0, .int .i64 0, .int .i64 0, .int .i64 8, .int .i64 0, .int .i64 0, .int .i64 2, .int .i64 3] 47)) (some ⟨w.heap.size, 0, none⟩) 5 (nthD leakL) := by
    have h1 := World.alloc_heap_new w (.cells #[.int .i64 1, .int .i64 1, .int .i64 0, .int .i64 0, .int .i64 0, .int .i64 0, .int .i64 1, .int .i64 0, .int .i64 0, .int .i64 0, .int .i64 6, .int .i64 0, .int .i64 1, .int .i64 0, .int .i64 0, .int .i64 5, .int .i64 0, .int .i64 0, .int .i64 0, .int .i64 0, .int .i64 8, .int .i64 0, .int .i64 0, .int .i64 2, .int .i64 3] 47)
    refine .inr ⟨w.heap.size, 0, rfl, by simp, fun i hi => ?_, fun i hi => ?_, fun i hi => ?_, fun i hi => ?_, fun i hi => ?_⟩ <;>
    · simp only [World.cell?]
      rw [h1]
      match i, hi with
      | 0, _ => rfl
      | 1, _ => rfl
      | 2, _ => rfl
      | 3, _ => rfl
      | 4, _ => rfl
  have hB := (Below.refl w.heap.size w).alloc (Nat.le_refl _) (.cells #[.int .i64 1, .int .i64 1, .int .i64 0, .int .i64 0, .int .i64 0, .int .i64 0, .int .i64 1, .int .i64 0, .int .i64 0, .int .i64 0, .int .i64 6, .int .i64 0, .int .i64 1, .int .i64 0, .int .i64 0, .int .i64 5, .int .i64 0, .int .i64 0, .int .i64 0, .int .i64 0, .int .i64 8, .int .i64 0, .int .i64 0, .int .i64 2, .int .i64 3] 47)
  have HN := Hid.mkI hN
  clear hN
  go_enter Tryd.func34, Tryd.ntmps34
  go_wp2
  go_ret
  exact ⟨_, rfl, HN.out, hB⟩
set_option maxHeartbeats 4000000 in
theorem flowFact_any (w : World) (hT : Tab w) :
    Calls Tryd.prog 18 #[] w fun e w' => e = .returned (.bool true) ∧ Below w.heap.size w w' := by
  have t1 := leak_any w
  have t2 := Hid.mkI (fun (w1 : World) (g : Nat) (hB : Below w.heap.size w w1) (h : AtNods w1 (some ⟨g, 0, none⟩) 5 (nthD leakL)) => ffits_ok (l := leakL) (some ⟨g, 0, none⟩) 5 (.slice (some ⟨w1.heap.size, 0, none⟩) 6 6) 6 leakA leak_fa (w1.alloc (.cells #[.int .i64 0, .int .i64 1, .int .i64 0, .int .i64 0, .int .i64 0, .int .i64 0] 3)) (h.below ((Below.refl _ w1).alloc (Nat.le_refl _) _)) (lst_newF w1 0 1 0 0 0 0 3) (hT.below (hB.alloc hB.size _) hT.size))
  have t3 := fun (w1 : World) => leak_any w1
  have t4 := Hid.mkI (fun (w1 : World) (g : Nat) (hB : Below w.heap.size w w1) (h : AtNods w1 (some ⟨g, 0, none⟩) 5 (nthD leakL)) => ffits_ok (l := leakL) (some ⟨g, 0, none⟩) 5 (.slice (some ⟨w1.heap.size, 0, none⟩) 6 6) 6 leakB leak_fb (w1.alloc (.cells #[.int .i64 1, .int .i64 1, .int .i64 0, .int .i64 0, .int .i64 0, .int .i64 0] 3)) (h.below ((Below.refl _ w1).alloc (Nat.le_refl _) _)) (lst_newF w1 1 1 0 0 0 0 3) (hT.below (hB.alloc hB.size _) hT.size))
  rw [leak_no] at t2
  rw [leak_yes] at t4
  clear hT
  go_enter Tryd.func18, Tryd.ntmps18
  go_wp2_with fail
  refine t1.mono ?_
  clear t1
  rintro e w1 ⟨g, rfl, hN, hB1⟩
  have t2 := t2.out w1 g hB1 hN.out
  go_wp2_with fail
  refine t2.mono ?_
  clear t2
  rintro e w2 ⟨rfl, hx2⟩
  have hB2 := hB1.trans (((Below.refl _ w1).alloc (Nat.le_refl _) _).trans (hx2.mono (by simp)) |>.mono hB1.size)
  have t3 := t3 w2
  go_wp2_with fail
  refine t3.mono ?_
  clear t3
  rintro e w3 ⟨g3, rfl, hN3, hx3⟩
  have hB3 := hB2.trans (hx3.mono hB2.size)
  have t4 := t4.out w3 g3 hB3 hN3.out
  go_wp2_with fail
  refine t4.mono ?_
  clear t4
  rintro e w4 ⟨rfl, hx4⟩
  have hB4 := hB3.trans (((Below.refl _ w3).alloc (Nat.le_refl _) _).trans (hx4.mono (by simp)) |>.mono hB3.size)
  go_wp2_with fail
  go_ret
  exact ⟨rfl, hB4⟩
end Go.Proofs.YtioimgeeamchaaaDoor
