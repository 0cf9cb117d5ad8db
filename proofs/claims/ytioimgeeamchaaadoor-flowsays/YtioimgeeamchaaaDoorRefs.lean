/- What the document's small functions on sets and relations return: whether a number is a set of so many things (Mask), what two sets have (Both), what one of two has (Either), what is wrong with a relation (Rel). -/
import Derived.WalkKit
import Derived.LoopTactic
import Derived.Test.YtioimgeeamchaaaDoorWith
namespace Go.Proofs.YtioimgeeamchaaaDoor
open Go.RowKit

/-- One bit more of what two sets have. -/
theorem both_step (a b k : Nat) : (a &&& b) % 2 ^ (k + 1) = (a &&& b) % 2 ^ k + (if a / 2 ^ k % 2 = 1 ∧ b / 2 ^ k % 2 = 1 then 2 ^ k else 0) := by
  have h := Nat.mod_pow_succ (b := 2) (x := a &&& b) (k := k)
  have e : (a &&& b) / 2 ^ k % 2 = if a / 2 ^ k % 2 = 1 ∧ b / 2 ^ k % 2 = 1 then 1 else 0 := by
    have ht := Nat.testBit_and a b k
    rw [Nat.testBit_eq_decide_div_mod_eq, Nat.testBit_eq_decide_div_mod_eq, Nat.testBit_eq_decide_div_mod_eq, ← Bool.decide_and] at ht
    have hi := decide_eq_decide.1 ht
    split
    · rename_i h; exact hi.2 h
    · rename_i h
      have := mt hi.1 h
      omega
  rw [h, e]
  split <;> simp
theorem both_end (a b k : Nat) (h : a / 2 ^ k = 0 ∨ b / 2 ^ k = 0) : (a &&& b) % 2 ^ k = a &&& b := by
  refine Nat.mod_eq_of_lt ?_
  have lt : ∀ x : Nat, x / 2 ^ k = 0 → x < 2 ^ k := fun x hx => by
    rcases Nat.div_eq_zero_iff.1 hx with h | h
    · exact absurd h (by have := Nat.two_pow_pos k; omega)
    · exact h
  rcases h with h | h
  · exact Nat.lt_of_le_of_lt Nat.and_le_left (lt a h)
  · exact Nat.lt_of_le_of_lt Nat.and_le_right (lt b h)

/-- Where the loop over two sets stands. -/
structure Halves (a b x y o p k : Nat) : Prop where
  hx : x = a / 2 ^ k
  hy : y = b / 2 ^ k
  ho : o = (a &&& b) % 2 ^ k
  hp : p = 2 ^ k

set_option maxHeartbeats 400000 in
theorem both_any (a b : Nat) (ha : a < 4096) (hb : b < 4096) (w : World) :
    Calls Tryd.prog 41 #[.int .i64 a, .int .i64 b] w fun e w' => e = .returned (.int .i64 (a &&& b : Nat)) ∧ w' = w := by
  go_enter Tryd.func41, Tryd.ntmps41
  go_wp2
  go_loop [0, 1, 5, 6] (fun u v s q => ∃ (x y o p : Nat), x < 4096 ∧ y < 4096 ∧ o < 4096 ∧ p ≤ 4096 ∧ u = .int .i64 x ∧ v = .int .i64 y ∧ s = .int .i64 o ∧ q = .int .i64 p ∧ Hid (∃ k, Halves a b x y o p k)) (fun u _ _ _ => (intOf u).toNat)
  case atStart => exact ⟨a, b, 0, 1, ha, hb, by omega, by omega, rfl, rfl, rfl, rfl, 0, by simp, by simp, by simp [Nat.mod_one], rfl⟩
  case round =>
    obtain ⟨x, y, o, p, hx, hy, ho, hp, rfl, rfl, rfl, rfl, HH⟩ := hrel
    by_cases hx0 : x = 0
    · have HE : Hid (o = a &&& b) := by
        obtain ⟨k, h⟩ := HH.out
        rw [Hid, h.ho]; exact both_end a b k (.inl (by rw [← h.hx, hx0]))
      subst hx0
      go_wp2
      go_ret
      exact ⟨ret_nat HE.out, rfl⟩
    · by_cases hy0 : y = 0
      · have HE : Hid (o = a &&& b) := by
          obtain ⟨k, h⟩ := HH.out
          rw [Hid, h.ho]; exact both_end a b k (.inr (by rw [← h.hy, hy0]))
        have hxp : 0 < (x : Int) := by omega
        subst hy0
        go_wp2
        go_ret
        exact ⟨ret_nat HE.out, rfl⟩
      · have hxp : 0 < (x : Int) := by omega
        have hyp : 0 < (y : Int) := by omega
        have hp2 : p * 2 ≤ 4096 ∧ o + p < 4096 := by
          obtain ⟨k, h⟩ := HH.out
          have hk : k < 12 := by
            by_cases hk : k < 12
            · exact hk
            · have : 2 ^ 12 ≤ 2 ^ k := Nat.pow_le_pow_right (by decide) (by omega)
              have := Nat.div_eq_of_lt (show a < 2 ^ k by omega)
              rw [← h.hx] at this; omega
          have h1 : 2 ^ (k + 1) ≤ 2 ^ 12 := Nat.pow_le_pow_right (by decide) (by omega)
          rw [Nat.pow_succ] at h1
          have h2 := Nat.mod_lt (a &&& b) (Nat.two_pow_pos k)
          rw [← h.ho, ← h.hp] at h2
          rw [← h.hp] at h1
          omega
        have hdiv : ∀ c k : Nat, c / 2 ^ k / 2 = c / 2 ^ (k + 1) := fun c k => by rw [Nat.div_div_eq_div_mul, Nat.pow_succ]
        have hnext : ∀ o', o' = o + (if x % 2 = 1 ∧ y % 2 = 1 then p else 0) → ∃ k, Halves a b (x / 2) (y / 2) o' (p * 2) k := fun o' he => by
          obtain ⟨k, h⟩ := HH.out
          refine ⟨k + 1, by rw [h.hx, hdiv], by rw [h.hy, hdiv], ?_, by rw [h.hp, Nat.pow_succ]⟩
          rw [he, both_step, h.ho, h.hx, h.hy, h.hp]
        clear hdiv
        by_cases hx2 : x % 2 = 1
        · have ht : ((x : Int) % 2 == 1) = true := by simp; omega
          by_cases hy2 : y % 2 = 1
          · have hf : ((y : Int) % 2 == 1) = true := by simp; omega
            have HN : Hid (∃ k, Halves a b (x / 2) (y / 2) (o + p) (p * 2) k) := hnext _ (by simp [hx2, hy2])
            clear hnext hx2 hy2
            go_wp2
            go_round
            case rel => exact ⟨x / 2, y / 2, o + p, p * 2, by omega, by omega, by omega, by omega, by go_num, by go_num, by go_num, by go_num, HN⟩
            case measure => simp [intOf]; omega
          · have hf : ((y : Int) % 2 == 1) = false := by simp; omega
            have HN : Hid (∃ k, Halves a b (x / 2) (y / 2) o (p * 2) k) := hnext _ (by simp [hy2])
            clear hnext hx2 hy2
            go_wp2
            go_round
            case rel => exact ⟨x / 2, y / 2, o, p * 2, by omega, by omega, by omega, by omega, by go_num, by go_num, rfl, by go_num, HN⟩
            case measure => simp [intOf]; omega
        · have ht : ((x : Int) % 2 == 1) = false := by simp; omega
          have HN : Hid (∃ k, Halves a b (x / 2) (y / 2) o (p * 2) k) := hnext _ (by simp [hx2])
          clear hnext hx2
          go_wp2
          go_round
          case rel => exact ⟨x / 2, y / 2, o, p * 2, by omega, by omega, by omega, by omega, by go_num, by go_num, rfl, by go_num, HN⟩
          case measure => simp [intOf]; omega

theorem or_and_sum : ∀ (n a b : Nat), a < 2 ^ n → (a ||| b) + (a &&& b) = a + b
  | 0, a, b, h => by
    obtain rfl : a = 0 := by simp at h; omega
    simp
  | n + 1, a, b, h => by
    have ih := or_and_sum n (a / 2) (b / 2) (by rw [Nat.pow_succ] at h; omega)
    have o1 : (a ||| b) / 2 = a / 2 ||| b / 2 := Nat.eq_of_testBit_eq fun j => by rw [← Nat.testBit_succ, Nat.testBit_or, Nat.testBit_or, Nat.testBit_succ, Nat.testBit_succ]
    have o2 : (a &&& b) / 2 = a / 2 &&& b / 2 := Nat.eq_of_testBit_eq fun j => by rw [← Nat.testBit_succ, Nat.testBit_and, Nat.testBit_and, Nat.testBit_succ, Nat.testBit_succ]
    have t1 := Nat.testBit_or a b 0
    have t2 := Nat.testBit_and a b 0
    simp only [Nat.testBit_zero, ← Bool.decide_or, ← Bool.decide_and, decide_eq_decide] at t1 t2
    rw [← o1, ← o2] at ih
    by_cases ha : a % 2 = 1 <;> by_cases hb : b % 2 = 1 <;> simp only [ha, hb, or_true, or_false, and_true, and_false, iff_true, iff_false] at t1 t2 <;> omega

theorem either_any (a b : Nat) (ha : a < 4096) (hb : b < 4096) (w : World) :
    Calls Tryd.prog 27 #[.int .i64 a, .int .i64 b] w fun e w' => e = .returned (.int .i64 (a ||| b : Nat)) ∧ w' = w := by
  have hbo := both_any a b ha hb w
  have hs := or_and_sum 12 a b (by omega)
  have hle : a &&& b ≤ a := Nat.and_le_left
  obtain ⟨x, hx⟩ : ∃ x, a &&& b = x := ⟨_, rfl⟩
  rw [hx] at hbo hs hle
  have HE : Hid (Value.int .i64 ((a : Int) + b - x) = .int .i64 ((a ||| b : Nat) : Int)) := by rw [Hid]; congr 1; omega
  clear hx hs
  go_enter Tryd.func27, Tryd.ntmps27
  go_wp2_with (go_at_call 41; refine hbo.mono ?_; rintro e w' ⟨rfl, rfl⟩)
  go_ret
  exact ⟨congrArg Ending.returned HE.out, rfl⟩

end Go.Proofs.YtioimgeeamchaaaDoor
