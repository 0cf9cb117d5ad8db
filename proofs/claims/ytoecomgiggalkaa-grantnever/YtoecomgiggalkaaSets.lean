/- What the document's small functions on sets return: whether a set has a thing, and whether a set is in another one. -/
import Derived.WalkKit
import Derived.LoopTactic
import Derived.Test.YtoecomgiggalkaaMath
import Derived.Test.YtoecomgiggalkaaChecked
import Derived.Test.YtoecomgiggalkaaGen
namespace Go.Proofs.Ytoecomgiggalkaa
open Go.RowKit

theorem bit_end (s i k : Nat) (hk : k ≤ i) (h : k = i ∨ s / 2 ^ k = 0) : (((s / 2 ^ k : Nat) : Int) % 2 == 1) = s.testBit i := by
  have e : s / 2 ^ k % 2 = s / 2 ^ i % 2 := by
    rcases h with rfl | h
    · rfl
    · have h1 : s < 2 ^ k := by
        rcases Nat.div_eq_zero_iff.1 h with h | h
        · exact absurd h (by have := Nat.two_pow_pos k; omega)
        · exact h
      have h2 : s < 2 ^ i := Nat.lt_of_lt_of_le h1 (Nat.pow_le_pow_right (by decide) hk)
      rw [h, Nat.div_eq_of_lt h2]
  rw [Nat.testBit_eq_decide_div_mod_eq, Bool.eq_iff_iff]
  simp only [beq_iff_eq, decide_eq_true_eq]
  omega

set_option maxHeartbeats 400000 in
theorem bit_any (s i : Nat) (hs : s < 4096) (hi : i < 4096) (w : World) :
    Calls Try.prog 7 #[.int .i64 s, .int .i64 i] w fun e w' => e = .returned (.bool (s.testBit i)) ∧ w' = w := by
  go_enter Try.func7, Try.ntmps7
  go_wp2
  go_loop [0, 5] (fun x k => ∃ (y j : Nat), y ≤ s ∧ j ≤ i ∧ x = .int .i64 y ∧ k = .int .i64 j ∧ Hid (y = s / 2 ^ j)) (fun _ k => i - (intOf k).toNat)
  case atStart => exact ⟨s, 0, by omega, by omega, rfl, rfl, by show s = s / 2 ^ 0; simp⟩
  case round =>
    obtain ⟨y, j, hy, hj, rfl, rfl, he⟩ := hrel
    by_cases hlt : j < i
    · by_cases h0 : y = 0
      · have hend : Hid (((y : Int) % 2 == 1) = s.testBit i) := by rw [he.out]; exact bit_end s i j hj (.inr (by rw [← he.out, h0]))
        subst h0
        go_wp2
        go_ret
        exact ⟨ret_bool hend.out, rfl⟩
      · have hne : ((y : Int) != 0) = true := by simp; omega
        go_wp2
        go_round
        case rel => exact ⟨y / 2, j + 1, by omega, by omega, by go_num, by go_num, by show y / 2 = s / 2 ^ (j + 1); rw [he.out, Nat.div_div_eq_div_mul, Nat.pow_succ]⟩
        case measure => simp [intOf]; omega
    · have hend : Hid (((y : Int) % 2 == 1) = s.testBit i) := by rw [he.out]; exact bit_end s i j hj (.inl (by omega))
      go_wp2
      go_ret
      exact ⟨ret_bool hend.out, rfl⟩

/-- Is a set in another one? -/
def subB (a b : Nat) : Bool := (a &&& b) == a
theorem subB_iff (a b : Nat) : subB a b = true ↔ ∀ j, a.testBit j = true → b.testBit j = true := by
  unfold subB
  rw [beq_iff_eq]
  constructor
  · intro h j ha
    have := congrArg (fun x => x.testBit j) h
    simp only [Nat.testBit_and, ha, Bool.true_and] at this
    exact this
  · intro h
    refine Nat.eq_of_testBit_eq fun j => ?_
    rw [Nat.testBit_and]
    have := h j
    cases ha : a.testBit j <;> simp_all
theorem subB_zero (b : Nat) : subB 0 b = true := by simp [subB]
theorem subB_half (a b : Nat) : subB a b = ((decide (a % 2 = 1 → b % 2 = 1)) && subB (a / 2) (b / 2)) := by
  rw [Bool.eq_iff_iff, Bool.and_eq_true, subB_iff, subB_iff, decide_eq_true_eq]
  constructor
  · intro h
    refine ⟨fun ha => ?_, fun j => ?_⟩
    · have := h 0
      simp only [Nat.testBit_zero, decide_eq_true_eq] at this
      exact this ha
    · have := h (j + 1)
      rwa [Nat.testBit_succ, Nat.testBit_succ] at this
  · rintro ⟨h0, h1⟩ j
    cases j with
    | zero => simpa only [Nat.testBit_zero, decide_eq_true_eq] using h0
    | succ j => rw [Nat.testBit_succ, Nat.testBit_succ]; exact h1 j

end Go.Proofs.Ytoecomgiggalkaa
