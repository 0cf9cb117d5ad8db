/- What the document's small functions on sets and relations return: whether a number is a set of so many things (Mask), what two sets have (Both), what one of two has (Either), what is wrong with a relation (Rel). -/
import Derived.WalkKit
import Derived.LoopTactic
import Derived.Test.YtdmdoikkemfcaaaDoorWith
namespace Go.Proofs.YtdmdoikkemfcaaaDoor
open Go.RowKit

theorem mask_any (z : Int) (n : Nat) (hn : n ≤ 12) (w : World) :
    Calls Tryd.prog 21 #[.int .i64 z, .int .i64 n] w fun e w' => e = .returned (.bool (goodB n z)) ∧ w' = w := by
  have hp := pow2_any n hn w
  have hpl := pow12 hn
  obtain ⟨p, hpe⟩ : ∃ p, 2 ^ n = p := ⟨_, rfl⟩
  rw [hpe] at hp hpl
  by_cases h0 : z < 0
  · have HE : Hid (goodB n z = false) := goodB_no fun h => by have := h.1; omega
    clear hpe
    go_enter Tryd.func21, Tryd.ntmps21
    go_wp2_with (go_at_call 26; refine hp.mono ?_; rintro e w' ⟨rfl, rfl⟩)
    go_ret
    exact ⟨ret_bool HE.out.symm, rfl⟩
  · by_cases h1 : z < (p : Int)
    · have HE : Hid (goodB n z = true) := goodB_yes ⟨by omega, by rw [hpe]; exact h1⟩
      clear hpe
      have h0' : 0 ≤ z := by omega
      go_enter Tryd.func21, Tryd.ntmps21
      go_wp2_with (go_at_call 26; refine hp.mono ?_; rintro e w' ⟨rfl, rfl⟩)
      go_ret
      exact ⟨ret_bool HE.out.symm, rfl⟩
    · have HE : Hid (goodB n z = false) := goodB_no fun h => by have := h.2; rw [hpe] at this; omega
      clear hpe
      have h0' : 0 ≤ z := by omega
      go_enter Tryd.func21, Tryd.ntmps21
      go_wp2_with (go_at_call 26; refine hp.mono ?_; rintro e w' ⟨rfl, rfl⟩)
      go_ret
      exact ⟨ret_bool (by rw [HE.out]; exact decide_eq_false (by omega)), rfl⟩

/-- One bit more of what two sets have. -/
theorem both_step (a b k : Nat) : (a &&& b) % 2 ^ (k + 1) = (a &&& b) % 2 ^ k + (if a / 2 ^ k % 2 = 1 ∧ b / 2 ^ k % 2 = 1 then 2 ^ k else 0) := by
  have h := Nat.mod_pow_succ (b := 2) (x := a &&& b) (k := k)
  have e : (a &&& b) / 2 ^ k % 2 = if a / 2 ^ k % 2 = 1 ∧ b / 2 ^ k % 2 = 1 then 1 else 0 := by
    have ht := Nat.testBit_and a b k
    rw [Nat.testBit_eq_decide_div_mod_eq, Nat.testBit_eq_decide_div_mod_eq, Nat.testBit_eq_decide_div_mod_eq, ← Bool.decide_and] at ht
    have hi := decide_eq_decide.1 ht
    split
    · rename_i h; exact hi.2 h
    · rename_i h
      have := mt hi.1 h
      omega
  rw [h, e]
  split <;> simp
theorem both_end (a b k : Nat) (h : a / 2 ^ k = 0 ∨ b / 2 ^ k = 0) : (a &&& b) % 2 ^ k = a &&& b := by
  refine Nat.mod_eq_of_lt ?_
  have lt : ∀ x : Nat, x / 2 ^ k = 0 → x < 2 ^ k := fun x hx => by
    rcases Nat.div_eq_zero_iff.1 hx with h | h
    · exact absurd h (by have := Nat.two_pow_pos k; omega)
    · exact h
  rcases h with h | h
  · exact Nat.lt_of_le_of_lt Nat.and_le_left (lt a h)
  · exact Nat.lt_of_le_of_lt Nat.and_le_right (lt b h)

/-- Where the loop over two sets stands. -/
structure Halves (a b x y o p k : Nat) : Prop where
  hx : x = a / 2 ^ k
  hy : y = b / 2 ^ k
  ho : o = (a &&& b) % 2 ^ k
  hp : p = 2 ^ k

set_option maxHeartbeats 400000 in
theorem both_any (a b : Nat) (ha : a < 4096) (hb : b < 4096) (w : World) :
    Calls Tryd.prog 37 #[.int .i64 a, .int .i64 b] w fun e w' => e = .returned (.int .i64 (a &&& b : Nat)) ∧ w' = w := by
  go_enter Tryd.func37, Tryd.ntmps37
  go_wp2
  go_loop [0, 1, 5, 6] (fun u v s q => ∃ (x y o p : Nat), x < 4096 ∧ y < 4096 ∧ o < 4096 ∧ p ≤ 4096 ∧ u = .int .i64 x ∧ v = .int .i64 y ∧ s = .int .i64 o ∧ q = .int .i64 p ∧ Hid (∃ k, Halves a b x y o p k)) (fun u _ _ _ => (intOf u).toNat)
  case atStart => exact ⟨a, b, 0, 1, ha, hb, by omega, by omega, rfl, rfl, rfl, rfl, 0, by simp, by simp, by simp [Nat.mod_one], rfl⟩
  case round =>
    obtain ⟨x, y, o, p, hx, hy, ho, hp, rfl, rfl, rfl, rfl, HH⟩ := hrel
    by_cases hx0 : x = 0
    · have HE : Hid (o = a &&& b) := by
        obtain ⟨k, h⟩ := HH.out
        rw [Hid, h.ho]; exact both_end a b k (.inl (by rw [← h.hx, hx0]))
      subst hx0
      go_wp2
      go_ret
      exact ⟨ret_nat HE.out, rfl⟩
    · by_cases hy0 : y = 0
      · have HE : Hid (o = a &&& b) := by
          obtain ⟨k, h⟩ := HH.out
          rw [Hid, h.ho]; exact both_end a b k (.inr (by rw [← h.hy, hy0]))
        have hxp : 0 < (x : Int) := by omega
        subst hy0
        go_wp2
        go_ret
        exact ⟨ret_nat HE.out, rfl⟩
      · have hxp : 0 < (x : Int) := by omega
        have hyp : 0 < (y : Int) := by omega
        have hp2 : p * 2 ≤ 4096 ∧ o + p < 4096 := by
          obtain ⟨k, h⟩ := HH.out
          have hk : k < 12 := by
            by_cases hk : k < 12
            · exact hk
            · have : 2 ^ 12 ≤ 2 ^ k := Nat.pow_le_pow_right (by decide) (by omega)
              have := Nat.div_eq_of_lt (show a < 2 ^ k by omega)
              rw [← h.hx] at this; omega
          have h1 : 2 ^ (k + 1) ≤ 2 ^ 12 := Nat.pow_le_pow_right (by decide) (by omega)
          rw [Nat.pow_succ] at h1
          have h2 := Nat.mod_lt (a &&& b) (Nat.two_pow_pos k)
          rw [← h.ho, ← h.hp] at h2
          rw [← h.hp] at h1
          omega
        have hdiv : ∀ c k : Nat, c / 2 ^ k / 2 = c / 2 ^ (k + 1) := fun c k => by rw [Nat.div_div_eq_div_mul, Nat.pow_succ]
        have hnext : ∀ o', o' = o + (if x % 2 = 1 ∧ y % 2 = 1 then p else 0) → ∃ k, Halves a b (x / 2) (y / 2) o' (p * 2) k := fun o' he => by
          obtain ⟨k, h⟩ := HH.out
          refine ⟨k + 1, by rw [h.hx, hdiv], by rw [h.hy, hdiv], ?_, by rw [h.hp, Nat.pow_succ]⟩
          rw [he, both_step, h.ho, h.hx, h.hy, h.hp]
        clear hdiv
        by_cases hx2 : x % 2 = 1
        · have ht : ((x : Int) % 2 == 1) = true := by simp; omega
          by_cases hy2 : y % 2 = 1
          · have hf : ((y : Int) % 2 == 1) = true := by simp; omega
            have HN : Hid (∃ k, Halves a b (x / 2) (y / 2) (o + p) (p * 2) k) := hnext _ (by simp [hx2, hy2])
            clear hnext hx2 hy2
            go_wp2
            go_round
            case rel => exact ⟨x / 2, y / 2, o + p, p * 2, by omega, by omega, by omega, by omega, by go_num, by go_num, by go_num, by go_num, HN⟩
            case measure => simp [intOf]; omega
          · have hf : ((y : Int) % 2 == 1) = false := by simp; omega
            have HN : Hid (∃ k, Halves a b (x / 2) (y / 2) o (p * 2) k) := hnext _ (by simp [hy2])
            clear hnext hx2 hy2
            go_wp2
            go_round
            case rel => exact ⟨x / 2, y / 2, o, p * 2, by omega, by omega, by omega, by omega, by go_num, by go_num, rfl, by go_num, HN⟩
            case measure => simp [intOf]; omega
        · have ht : ((x : Int) % 2 == 1) = false := by simp; omega
          have HN : Hid (∃ k, Halves a b (x / 2) (y / 2) o (p * 2) k) := hnext _ (by simp [hx2])
          clear hnext hx2
          go_wp2
          go_round
          case rel => exact ⟨x / 2, y / 2, o, p * 2, by omega, by omega, by omega, by omega, by go_num, by go_num, rfl, by go_num, HN⟩
          case measure => simp [intOf]; omega

theorem or_and_sum : ∀ (n a b : Nat), a < 2 ^ n → (a ||| b) + (a &&& b) = a + b
  | 0, a, b, h => by
    obtain rfl : a = 0 := by simp at h; omega
    simp
  | n + 1, a, b, h => by
    have ih := or_and_sum n (a / 2) (b / 2) (by rw [Nat.pow_succ] at h; omega)
    have o1 : (a ||| b) / 2 = a / 2 ||| b / 2 := Nat.eq_of_testBit_eq fun j => by rw [← Nat.testBit_succ, Nat.testBit_or, Nat.testBit_or, Nat.testBit_succ, Nat.testBit_succ]
    have o2 : (a &&& b) / 2 = a / 2 &&& b / 2 := Nat.eq_of_testBit_eq fun j => by rw [← Nat.testBit_succ, Nat.testBit_and, Nat.testBit_and, Nat.testBit_succ, Nat.testBit_succ]
    have t1 := Nat.testBit_or a b 0
    have t2 := Nat.testBit_and a b 0
    simp only [Nat.testBit_zero, ← Bool.decide_or, ← Bool.decide_and, decide_eq_decide] at t1 t2
    rw [← o1, ← o2] at ih
    by_cases ha : a % 2 = 1 <;> by_cases hb : b % 2 = 1 <;> simp only [ha, hb, or_true, or_false, and_true, and_false, iff_true, iff_false] at t1 t2 <;> omega

theorem either_any (a b : Nat) (ha : a < 4096) (hb : b < 4096) (w : World) :
    Calls Tryd.prog 41 #[.int .i64 a, .int .i64 b] w fun e w' => e = .returned (.int .i64 (a ||| b : Nat)) ∧ w' = w := by
  have hbo := both_any a b ha hb w
  have hs := or_and_sum 12 a b (by omega)
  have hle : a &&& b ≤ a := Nat.and_le_left
  obtain ⟨x, hx⟩ : ∃ x, a &&& b = x := ⟨_, rfl⟩
  rw [hx] at hbo hs hle
  have HE : Hid (Value.int .i64 ((a : Int) + b - x) = .int .i64 ((a ||| b : Nat) : Int)) := by rw [Hid]; congr 1; omega
  clear hx hs
  go_enter Tryd.func41, Tryd.ntmps41
  go_wp2_with (go_at_call 37; refine hbo.mono ?_; rintro e w' ⟨rfl, rfl⟩)
  go_ret
  exact ⟨congrArg Ending.returned HE.out, rfl⟩

theorem rel_full (a : Option Addr) (m cap : Nat) (hm : 12 < m) (w : World) :
    Calls Tryd.prog 34 #[.slice a m cap] w fun e w' => e = .returned (.int .i64 4) ∧ w' = w := by
  go_enter Tryd.func34, Tryd.ntmps34
  go_wp2
  go_ret
  exact ⟨rfl, rfl⟩
theorem rel_none (a : Option Addr) (cap : Nat) (w : World) :
    Calls Tryd.prog 34 #[.slice a 0 cap] w fun e w' => e = .returned (.int .i64 0) ∧ w' = w := by
  go_enter Tryd.func34, Tryd.ntmps34
  go_wp2
  go_loop [3] (fun i => i = .int .i64 0) (fun _ => 0)
  case atStart => rfl
  case round =>
    obtain rfl := hrel
    go_wp2
    go_ret
    exact ⟨rfl, rfl⟩
theorem rel_some (b off m cap : Nat) (zs : List Int) (hm : m ≤ 12) (w : World) (hn : Nums w b off m zs) :
    Calls Tryd.prog 34 #[.slice (some ⟨b, off, none⟩) m cap] w fun e w' =>
      ((e = .returned (.int .i64 0) ∧ ∀ i, i < m → Good m (zs[i]?.getD 0)) ∨ (e = .returned (.int .i64 1) ∧ ∃ i, i < m ∧ ¬ Good m (zs[i]?.getD 0))) ∧ w' = w := by
  have hmk := fun z => mask_any z m hm w
  go_enter Tryd.func34, Tryd.ntmps34
  go_wp2
  go_loop [3] (fun i => ∃ k : Nat, k ≤ m ∧ i = .int .i64 k ∧ Hid (∀ i, i < k → Good m (zs[i]?.getD 0))) (fun i => m - (intOf i).toNat)
  case atStart => exact ⟨0, by omega, rfl, fun i h => absurd h (by omega)⟩
  case round =>
    obtain ⟨k, hk, rfl, HG⟩ := hrel
    by_cases hlt : k < m
    · have hc := hn.cell k hlt
      have hi : (k : Int) < (m : Int) := by omega
      have hmz := hmk (zs[k]?.getD 0)
      clear hmk
      by_cases hg : Good m (zs[k]?.getD 0)
      · rw [goodB_yes hg] at hmz
        have HZ : Hid (Good m (zs[k]?.getD 0)) := hg
        clear hg
        go_wp2_with (go_at_call 21; refine hmz.mono ?_; rintro e w' ⟨rfl, rfl⟩)
        go_round
        case rel => exact ⟨k + 1, by omega, by go_num, fun i hi => by
            by_cases e : i = k
            · subst e; exact HZ.out
            · exact HG.out i (by omega)⟩
        case measure => simp [intOf]; omega
      · rw [goodB_no hg] at hmz
        have HZ : Hid (¬ Good m (zs[k]?.getD 0)) := hg
        clear hg
        go_wp2_with (go_at_call 21; refine hmz.mono ?_; rintro e w' ⟨rfl, rfl⟩)
        go_ret
        exact ⟨.inr ⟨rfl, k, hlt, HZ.out⟩, rfl⟩
    · clear hmk
      go_wp2
      go_ret
      exact ⟨.inl ⟨rfl, fun i hi => HG.out i (by omega)⟩, rfl⟩

theorem rel_fine (a : Option Addr) (m cap : Nat) (zs : List Int) (w : World) (hn : AtNums w a m zs) (hf : Fine m zs) :
    Calls Tryd.prog 34 #[.slice a m cap] w fun e w' => e = .returned (.int .i64 0) ∧ w' = w := by
  rcases hn with rfl | ⟨b, off, rfl, hn⟩
  · exact rel_none a cap w
  · refine (rel_some b off m cap zs hf.1 w hn).mono fun e w' ⟨h, hw⟩ => ?_
    rcases h with ⟨he, _⟩ | ⟨_, i, hi, hg⟩
    · exact ⟨he, hw⟩
    · exact absurd (hf.2 i hi) hg
theorem rel_wrong (a : Option Addr) (m cap : Nat) (zs : List Int) (w : World) (hn : AtNums w a m zs) (hf : ¬ Fine m zs) :
    Calls Tryd.prog 34 #[.slice a m cap] w fun e w' => e = .returned (.int .i64 (wrongN m)) ∧ w' = w := by
  by_cases hm : 12 < m
  · have : wrongN m = 4 := by simp [wrongN, hm]
    rw [this]
    exact rel_full a m cap hm w
  · have : wrongN m = 1 := by simp [wrongN, hm]
    rw [this]
    rcases hn with rfl | ⟨b, off, rfl, hn⟩
    · exact absurd ⟨by omega, fun i hi => absurd hi (by omega)⟩ hf
    · refine (rel_some b off m cap zs (by omega) w hn).mono fun e w' ⟨h, hw⟩ => ?_
      rcases h with ⟨_, hg⟩ | ⟨he, _⟩
      · exact absurd ⟨by omega, hg⟩ hf
      · exact ⟨he, hw⟩
end Go.Proofs.YtdmdoikkemfcaaaDoor
