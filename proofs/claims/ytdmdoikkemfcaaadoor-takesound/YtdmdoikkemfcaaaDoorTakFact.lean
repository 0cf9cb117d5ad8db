/- The closed fact of the laws on rights (takeFact). -/
import Derived.WalkKit
import Derived.LoopTactic
import Derived.Test.YtdmdoikkemfcaaaDoorTakCan
namespace Go.Proofs.YtdmdoikkemfcaaaDoor
open Go.RowKit
set_option maxRecDepth 100000

/-- The two graphs: with Take of 0 over 1, or without. -/
def factF (q : Int) (i j : Nat) : Int := if i = 0 ∧ j = 1 then q else if i = 1 ∧ j = 2 then 4 else 0
theorem fact_code1 : graphCode 3 (fun _ => 3) (factF 1) = 0 := by decide
theorem fact_code0 : graphCode 3 (fun _ => 3) (factF 0) = 0 := by decide
theorem fact_can : CanP (grOf 3 (factF 1)) 4 0 2 := ⟨1, 1, by decide, by show Nat.testBit _ _ = true; decide⟩
theorem fact_not : ¬ CanP (grOf 3 (factF 0)) 4 0 2 := by
  rintro ⟨n, h⟩
  cases n with
  | zero =>
    have h : (holdN (grOf 3 (factF 0)) 4 2).testBit 0 = true := h
    exact absurd h (by decide)
  | succ n =>
    obtain ⟨y, hy, _⟩ := h
    have e : (lkRows (grOf 3 (factF 0))).getD 0 0 = 0 := by decide
    rw [e] at hy
    simp at hy
/-- A graph of three that was just built. -/
theorem fact_grd (q : Int) (w : World) : Grd ((((w.alloc (.cells #[.int .i64 0, .int .i64 q, .int .i64 0] 3)).alloc (.cells #[.int .i64 0, .int .i64 0, .int .i64 4] 3)).alloc (.cells #[.int .i64 0, .int .i64 0, .int .i64 0] 3)).alloc (.cells #[.slice (some ⟨w.heap.size, 0, none⟩) 3 3, .slice (some ⟨w.heap.size + 1, 0, none⟩) 3 3, .slice (some ⟨w.heap.size + 1 + 1, 0, none⟩) 3 3] 34))
    (.slice (some ⟨w.heap.size + 1 + 1 + 1, 0, none⟩) 3 3) 3 (fun _ => 3) (factF q) := by
  refine ⟨_, _, rfl, .inr ⟨w.heap.size + 1 + 1 + 1, 0, fun i => some ⟨w.heap.size + i, 0, none⟩, fun _ => 3, rfl, by simp, fun i hi => ?_, fun i hi => .inr ⟨w.heap.size + i, 0, rfl, by simp; omega, fun j hj => ?_⟩⟩⟩
  · rcases (show i = 0 ∨ i = 1 ∨ i = 2 by omega) with rfl | rfl | rfl <;> simp [go_sem]
  · rcases (show i = 0 ∨ i = 1 ∨ i = 2 by omega) with rfl | rfl | rfl <;> rcases (show j = 0 ∨ j = 1 ∨ j = 2 by omega) with rfl | rfl | rfl <;> simp [go_sem, factF]
theorem takeFact_any (w : World) (hT : Tab w) : Calls Tryd.prog 9 #[] w fun e w' => e = .returned (.bool true) ∧ Below w.heap.size w w' := by
  have b4 : ∀ (W : World) (o1 o2 o3 o4 : Obj), Below W.heap.size W ((((W.alloc o1).alloc o2).alloc o3).alloc o4) := fun W o1 o2 o3 o4 => ((((Below.refl _ W).alloc (Nat.le_refl _) _).alloc (by simp) _).alloc (by simp; omega) _).alloc (by simp; omega) _
  have t1 := can_ok (fact_grd 1 w) (hT.below (b4 w _ _ _ _) hT.size) fact_code1 4 0 2 (by decide) (by decide) (by decide) (by decide)
  have t2 := fun w1 (hB : Below w.heap.size w w1) => can_ok (fact_grd 0 w1) ((hT.below hB hT.size).below (b4 w1 _ _ _ _) (Nat.lt_of_lt_of_le hT.size hB.size)) fact_code0 4 0 2 (by decide) (by decide) (by decide) (by decide)
  have hb1 := b4 w (.cells #[.int .i64 0, .int .i64 1, .int .i64 0] 3) (.cells #[.int .i64 0, .int .i64 0, .int .i64 4] 3) (.cells #[.int .i64 0, .int .i64 0, .int .i64 0] 3) (.cells #[.slice (some ⟨w.heap.size, 0, none⟩) 3 3, .slice (some ⟨w.heap.size + 1, 0, none⟩) 3 3, .slice (some ⟨w.heap.size + 1 + 1, 0, none⟩) 3 3] 34)
  have HB4 := Hid.mkI b4
  clear b4
  have HF := Hid.mkI (And.intro fact_can fact_not)
  go_enter Tryd.func9, Tryd.ntmps9
  go_wp2_with fail
  refine t1.mono ?_
  clear t1
  rintro e w1 ⟨⟨b, he, hb⟩, hB1⟩
  have hbt : b = true := hb.2 HF.out.1
  clear hb
  subst hbt
  subst he
  have hBw := hb1.trans (hB1.mono hb1.size)
  have t2 := t2 w1 hBw
  go_wp2_with fail
  refine t2.mono ?_
  clear t2
  rintro e w2 ⟨⟨b, he, hb2⟩, hB2⟩
  have hbf : b = false := by
    cases b with
    | false => rfl
    | true => exact absurd (hb2.1 rfl) HF.out.2
  clear hb2
  subst hbf
  subst he
  go_wp2_with fail
  go_ret
  exact ⟨rfl, hBw.trans (((HB4.out w1 _ _ _ _).mono hBw.size).trans (hB2.mono (Nat.le_trans hBw.size (HB4.out w1 _ _ _ _).size)))⟩
end Go.Proofs.YtdmdoikkemfcaaaDoor
