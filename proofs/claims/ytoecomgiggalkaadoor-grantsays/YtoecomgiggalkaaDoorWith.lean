/- What the document's functions on sets return: a power of two (Pow2), a set with a thing more (With), whether any number has a thing (Bit); and whether numbers of one's own are an order. -/
import Derived.WalkKit
import Derived.LoopTactic
import Derived.Test.YtoecomgiggalkaaDoorOrder
namespace Go.Proofs.YtoecomgiggalkaaDoor
open Go.RowKit

set_option maxHeartbeats 400000 in
theorem pow2_any (i : Nat) (hi : i ≤ 12) (w : World) :
    Calls Tryd.prog 32 #[.int .i64 i] w fun e w' => e = .returned (.int .i64 (2 ^ i : Nat)) ∧ w' = w := by
  go_enter Tryd.func32, Tryd.ntmps32
  go_wp2
  go_loop [3, 4] (fun p k => ∃ (x j : Nat), x ≤ 4096 ∧ j ≤ i ∧ p = .int .i64 x ∧ k = .int .i64 j ∧ Hid (x = 2 ^ j)) (fun _ k => i - (intOf k).toNat)
  case atStart => exact ⟨1, 0, by omega, by omega, rfl, rfl, rfl⟩
  case round =>
    obtain ⟨x, j, hx, hj, rfl, rfl, he⟩ := hrel
    by_cases hlt : j < i
    · have hx2 : x * 2 ≤ 4096 := by
        rw [he.out, ← Nat.pow_succ]
        exact pow12 (by omega)
      go_wp2
      go_round
      case rel => exact ⟨x * 2, j + 1, by omega, by omega, by go_num, by go_num, by show x * 2 = 2 ^ (j + 1); rw [he.out, Nat.pow_succ]⟩
      case measure => simp [intOf]; omega
    · have hend : Hid (x = 2 ^ i) := by
        have : j = i := by omega
        rw [Hid, he.out, this]
      go_wp2
      go_ret
      exact ⟨ret_nat hend.out, rfl⟩

theorem with_bits (s i : Nat) (h : s.testBit i = false) : s + 2 ^ i = s ||| 2 ^ i := by
  induction i generalizing s with
  | zero =>
    have h2 : s % 2 = 0 := by
      rw [Nat.testBit_zero] at h
      have := of_decide_eq_false h
      omega
    refine Nat.eq_of_testBit_eq fun j => ?_
    rw [Nat.testBit_or, Nat.testBit_two_pow]
    cases j with
    | zero =>
      have e : (s + 2 ^ 0) % 2 = 1 := by rw [Nat.pow_zero]; omega
      rw [Nat.testBit_zero, e]; simp
    | succ j =>
      have e : (s + 2 ^ 0) / 2 = s / 2 := by rw [Nat.pow_zero]; omega
      rw [Nat.testBit_succ, e, Nat.testBit_succ]; simp
  | succ i ih =>
    have ih' := ih (s / 2) (by rw [← Nat.testBit_succ]; exact h)
    have ep : 2 ^ (i + 1) = 2 * 2 ^ i := by rw [Nat.pow_succ]; omega
    refine Nat.eq_of_testBit_eq fun j => ?_
    rw [Nat.testBit_or, Nat.testBit_two_pow]
    cases j with
    | zero =>
      have e : (s + 2 ^ (i + 1)) % 2 = s % 2 := by rw [ep]; omega
      rw [Nat.testBit_zero, e, Nat.testBit_zero]; simp
    | succ j =>
      have e : (s + 2 ^ (i + 1)) / 2 = s / 2 + 2 ^ i := by rw [ep]; omega
      rw [Nat.testBit_succ, e, ih', Nat.testBit_or, Nat.testBit_two_pow, Nat.testBit_succ]
      simp
theorem with_same (s i : Nat) (h : s.testBit i = true) : s = s ||| 2 ^ i := by
  refine Nat.eq_of_testBit_eq fun j => ?_
  rw [Nat.testBit_or, Nat.testBit_two_pow]
  by_cases e : i = j
  · subst e; rw [h]; simp
  · simp [e]

set_option maxHeartbeats 400000 in
theorem with_any (s i : Nat) (hs : s < 4096) (hi : i < 12) (w : World) :
    Calls Tryd.prog 23 #[.int .i64 s, .int .i64 i] w fun e w' => e = .returned (.int .i64 (s ||| 2 ^ i : Nat)) ∧ w' = w := by
  have hb := bit_any s i hs (by omega) w
  have hp := pow2_any i (by omega) w
  have hpl : 2 ^ i ≤ 4096 := pow12 (by omega)
  obtain ⟨p, hpe⟩ : ∃ p, 2 ^ i = p := ⟨_, rfl⟩
  cases hbt : s.testBit i with
  | true =>
    rw [hbt] at hb
    have HE : Hid (s = s ||| 2 ^ i) := with_same s i hbt
    clear hbt hpe
    go_enter Tryd.func23, Tryd.ntmps23
    go_wp2_with (go_at_call 20; refine hb.mono ?_; rintro e w' ⟨rfl, rfl⟩)
    go_ret
    exact ⟨ret_nat HE.out, rfl⟩
  | false =>
    rw [hbt] at hb
    have HE : Hid (s + p = s ||| 2 ^ i) := by rw [← hpe]; exact with_bits s i hbt
    rw [hpe] at hp hpl
    clear hbt hpe
    go_enter Tryd.func23, Tryd.ntmps23
    go_wp2_with (first | (go_at_call 20; refine hb.mono ?_; rintro e w' ⟨rfl, rfl⟩) | (go_at_call 32; refine hp.mono ?_; rintro e w' ⟨rfl, rfl⟩))
    go_ret
    exact ⟨ret_nat HE.out, rfl⟩

set_option maxHeartbeats 400000 in
theorem bit_keep (s i : Nat) (hs : (s : Int) ≤ 9223372036854775807) (hi : i < 4096) (w : World) :
    Calls Tryd.prog 20 #[.int .i64 s, .int .i64 i] w fun e w' => e = .returned (.bool (s.testBit i)) ∧ w' = w := by
  go_enter Tryd.func20, Tryd.ntmps20
  go_wp2
  go_loop [0, 5] (fun x k => ∃ (y j : Nat), y ≤ s ∧ j ≤ i ∧ x = .int .i64 y ∧ k = .int .i64 j ∧ Hid (y = s / 2 ^ j)) (fun _ k => i - (intOf k).toNat)
  case atStart => exact ⟨s, 0, by omega, by omega, rfl, rfl, by show s = s / 2 ^ 0; simp⟩
  case round =>
    obtain ⟨y, j, hy, hj, rfl, rfl, he⟩ := hrel
    by_cases hlt : j < i
    · by_cases h0 : y = 0
      · have hend : Hid (((y : Int) % 2 == 1) = s.testBit i) := by rw [he.out]; exact bit_end s i j hj (.inr (by rw [← he.out, h0]))
        subst h0
        go_wp2
        go_ret
        exact ⟨ret_bool hend.out, rfl⟩
      · have hne : ((y : Int) != 0) = true := by simp; omega
        go_wp2
        go_round
        case rel => exact ⟨y / 2, j + 1, by omega, by omega, by go_num, by go_num, by show y / 2 = s / 2 ^ (j + 1); rw [he.out, Nat.div_div_eq_div_mul, Nat.pow_succ]⟩
        case measure => simp [intOf]; omega
    · have hend : Hid (((y : Int) % 2 == 1) = s.testBit i) := by rw [he.out]; exact bit_end s i j hj (.inl (by omega))
      go_wp2
      go_ret
      exact ⟨ret_bool hend.out, rfl⟩

/-- The list of a function's first numbers. -/
def listOf (m : Nat) (f : Nat → Nat) : List Nat := (List.range m).map f
theorem listOf_get {m : Nat} (f : Nat → Nat) {i : Nat} (h : i < m) : (listOf m f).getD i 0 = f i := by simp [listOf, h]
theorem listOf_right {m : Nat} {f : Nat → Nat} (hm : m ≤ 12) (hf : ∀ i, i < m → f i < 2 ^ m) : Right m (listOf m f) := by
  refine ⟨hm, by simp [listOf], fun i => ?_⟩
  by_cases hi : i < m
  · rw [listOf_get f hi]; exact hf i hi
  · have : (listOf m f).getD i 0 = 0 := by simp [listOf, hi]
    rw [this]; exact Nat.two_pow_pos m

theorem own_at {m B : Nat} {f : Nat → Nat} {w : World} (ho : Own w B m f) : At w (some ⟨B, 0, none⟩) m (listOf m f) :=
  .inr ⟨B, 0, rfl, ho.lies fun _ hj => listOf_get f hj⟩

end Go.Proofs.YtoecomgiggalkaaDoor
