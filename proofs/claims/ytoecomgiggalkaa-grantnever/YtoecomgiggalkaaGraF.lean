/- The closed fact of the laws on grants (grantFact). -/
import Derived.WalkKit
import Derived.LoopTactic
import Derived.Test.YtoecomgiggalkaaGraC
namespace Go.Proofs.Ytoecomgiggalkaa
open Go.RowKit
set_option maxRecDepth 100000

/-- 0 to 1, 1 to 2. -/
def chainL : List Giv := [⟨0, 1, 1⟩, ⟨1, 2, 2⟩]
theorem chain_facts : revC 3 chainL 0 1 = 0 ∧ revL 0 1 chainL = [] ∧ givC 3 chainL = 0 ∧ hasV 3 chainL = 7 ∧ chainL.length = 2 := by decide
theorem chainOf_any (w : World) : Calls Try.prog 9 #[] w fun e w' => ∃ a c, e = .returned (.slice a 2 c) ∧ AtGivs w' a 2 (nthV chainL) ∧ Below w.heap.size w w' := by
  have h : Givs (w.alloc (.cells #[.int .i64 0, .int .i64 1, .int .i64 1, .int .i64 1, .int .i64 2, .int .i64 2] 29)) w.heap.size 0 2 (nthV chainL) := by
    refine ⟨by simp, fun i hi => ?_, fun i hi => ?_, fun i hi => ?_⟩
    all_goals rcases (show i = 0 ∨ i = 1 by omega) with rfl | rfl <;> simp [go_sem, nthV, chainL]
  have hB : Below w.heap.size w (w.alloc (.cells #[.int .i64 0, .int .i64 1, .int .i64 1, .int .i64 1, .int .i64 2, .int .i64 2] 29)) := (Below.refl _ w).alloc (Nat.le_refl _) _
  go_enter Try.func9, Try.ntmps9
  go_wp2
  go_ret
  exact ⟨_, _, rfl, .inr ⟨_, _, rfl, h⟩, hB⟩
set_option maxHeartbeats 1000000 in
theorem grantFact_any (w : World) : Calls Try.prog 4 #[] w fun e w' => e = .returned (.bool true) ∧ Below w.heap.size w w' := by
  have HF := Hid.mkI chain_facts
  have t1 := fun W a c (h : AtGivs W a 2 (nthV chainL)) => revoke_any 3 a c chainL 0 1 W (by rw [HF.out.2.2.2.2]; exact h)
  have t2 := fun W a c (h : AtGivs W a 2 (nthV chainL)) => holds_any 3 a c chainL W (by rw [HF.out.2.2.2.2]; exact h)
  rw [HF.out.2.2.2.2, HF.out.1] at t1
  rw [HF.out.2.2.2.2, HF.out.2.2.1, HF.out.2.2.2.1] at t2
  have HR : Hid (∀ w v, RevV w v 3 chainL 0 1 → ∃ a c, v = .slice a 0 c) := fun w v h => by
    rcases h with ⟨h, _⟩ | ⟨_, a, c, e, _⟩
    · exact absurd HF.out.1 h
    · rw [HF.out.2.1] at e; exact ⟨a, c, e⟩
  go_enter Try.func4, Try.ntmps4
  go_wp2_with fail
  refine (chainOf_any _).mono ?_
  rintro e w1 ⟨a1, c1, rfl, h1, hB1⟩
  have t1 := t1 w1 a1 c1 h1
  rw [errV_zero] at t1
  clear h1
  go_wp2_with fail
  refine t1.mono ?_
  clear t1
  rintro e w2 ⟨v, rfl, hv, hB2⟩
  obtain ⟨a2, c2, rfl⟩ := HR.out _ _ hv
  have hB3 := hB1.trans (hB2.mono hB1.size)
  clear hv HR
  go_wp2_with fail
  refine (chainOf_any _).mono ?_
  rintro e w3 ⟨a3, c3, rfl, h3, hB4⟩
  have hB5 := hB3.trans (hB4.mono hB3.size)
  have t2 := t2 w3 a3 c3 h3
  rw [errV_zero] at t2
  clear h3
  go_wp2_with fail
  refine t2.mono ?_
  clear t2
  rintro e w4 ⟨rfl, hB6⟩
  have hB7 := hB5.trans (hB6.mono hB5.size)
  go_wp2_with fail
  go_ret
  exact ⟨rfl, hB7⟩
end Go.Proofs.Ytoecomgiggalkaa
