/- What the document's functions on labels answer: what is wrong with one (Label), whether one is below another one (Below), its text (Written). -/
import Derived.WalkKit
import Derived.LoopTactic
import Derived.Laws.Strings
import Derived.Laws.Strings2
import Derived.Laws.Concat
import Derived.Test.YtkdaaaloibdngaaDoorLabBack
import Derived.Test.YtkdaaaloibdngaaDoorRefs
namespace Go.Proofs.YtkdaaaloibdngaaDoor
open Go.RowKit
set_option maxRecDepth 100000

theorem in_yes (x a b : Int) (h1 : a ≤ x) (h2 : x ≤ b) (w : World) :
    Calls Tryd.prog 28 #[.int .i64 x, .int .i64 a, .int .i64 b] w fun e w' => e = .returned (.bool true) ∧ w' = w := by
  go_enter Tryd.func28, Tryd.ntmps28
  go_wp2
  go_ret
  exact ⟨rfl, rfl⟩
theorem in_low (x a b : Int) (h1 : x < a) (w : World) :
    Calls Tryd.prog 28 #[.int .i64 x, .int .i64 a, .int .i64 b] w fun e w' => e = .returned (.bool false) ∧ w' = w := by
  go_enter Tryd.func28, Tryd.ntmps28
  go_wp2
  go_ret
  exact ⟨rfl, rfl⟩
theorem in_high (x a b : Int) (h1 : a ≤ x) (h2 : b < x) (w : World) :
    Calls Tryd.prog 28 #[.int .i64 x, .int .i64 a, .int .i64 b] w fun e w' => e = .returned (.bool false) ∧ w' = w := by
  go_enter Tryd.func28, Tryd.ntmps28
  go_wp2
  go_ret
  exact ⟨by simp; omega, rfl⟩
theorem refLabel_ok (l s : Int) (h : IsLab l s) (w : World) :
    Calls Tryd.prog 8 #[lab l s] w fun e w' => e = .returned (.int .i64 0) ∧ Below w.heap.size w w' := by
  obtain ⟨h0, h1, h2, h3⟩ := h
  have t := fun W => in_yes l 0 7 h0 h1 W
  have u := fun W => mask_any s 8 (by decide) W
  rw [goodB_yes ⟨h2, by omega⟩] at u
  go_enter Tryd.func8, Tryd.ntmps8
  go_wp2_with (first | (go_at_call 28; refine (t _).mono ?_; rintro e w' ⟨rfl, rfl⟩) | (go_at_call 29; refine (u _).mono ?_; rintro e w' ⟨rfl, rfl⟩))
  go_ret
  exact ⟨rfl, (Below.refl _ w).alloc (Nat.le_refl _) _⟩
theorem refLabel_no (l s : Int) (h : NoLab l s) (w : World) :
    Calls Tryd.prog 8 #[lab l s] w fun e w' => e = .returned (.int .i64 1) ∧ Below w.heap.size w w' := by
  have ht : (∀ W, Calls Tryd.prog 28 #[.int .i64 l, .int .i64 0, .int .i64 7] W fun e w' => e = .returned (.bool false) ∧ w' = W) ∨ ((∀ W, Calls Tryd.prog 28 #[.int .i64 l, .int .i64 0, .int .i64 7] W fun e w' => e = .returned (.bool true) ∧ w' = W) ∧ (∀ W, Calls Tryd.prog 29 #[.int .i64 s, .int .i64 8] W fun e w' => e = .returned (.bool false) ∧ w' = W)) := by
    have u := fun W => mask_any s 8 (by decide) W
    rcases h with h0 | ⟨h0, h1⟩ | ⟨h0, h1, h2⟩ | ⟨h0, h1, h2, h3⟩
    · exact .inl fun W => in_low l 0 7 h0 W
    · exact .inl fun W => in_high l 0 7 h0 h1 W
    · rw [goodB_no fun h => by have := h.1; omega] at u
      exact .inr ⟨fun W => in_yes l 0 7 h0 h1 W, u⟩
    · rw [goodB_no fun h => by have := h.2; omega] at u
      exact .inr ⟨fun W => in_yes l 0 7 h0 h1 W, u⟩
  clear h
  rcases ht with t | ⟨t, u⟩
  · go_enter Tryd.func8, Tryd.ntmps8
    go_wp2_with (go_at_call 28; refine (t _).mono ?_; rintro e w' ⟨rfl, rfl⟩)
    go_ret
    exact ⟨rfl, (Below.refl _ w).alloc (Nat.le_refl _) _⟩
  · go_enter Tryd.func8, Tryd.ntmps8
    go_wp2_with (first | (go_at_call 28; refine (t _).mono ?_; rintro e w' ⟨rfl, rfl⟩) | (go_at_call 29; refine (u _).mono ?_; rintro e w' ⟨rfl, rfl⟩))
    go_ret
    exact ⟨rfl, (Below.refl _ w).alloc (Nat.le_refl _) _⟩
theorem refBelow_ok (l1 s1 l2 s2 : Nat) (b1 : s1 < 256) (b2 : s2 < 256) (w : World) :
    Calls Tryd.prog 13 #[lab l1 s1, lab l2 s2] w fun e w' => e = .returned (.bool (belB l1 s1 l2 s2)) ∧ Below w.heap.size w w' := by
  have u := fun W => within_any s1 s2 (by omega) (by omega) W
  by_cases hl : l1 ≤ l2
  · have HE : Hid (belB l1 s1 l2 s2 = subB s1 s2) := by rw [Hid, belB, decide_eq_true hl, Bool.true_and]
    have hl' : (l1 : Int) ≤ (l2 : Int) := by omega
    go_enter Tryd.func13, Tryd.ntmps13
    go_wp2_with (go_at_call 34; refine (u _).mono ?_; rintro e w' ⟨rfl, rfl⟩)
    go_ret
    exact ⟨ret_bool HE.out.symm, ((Below.refl _ w).alloc (Nat.le_refl _) _).alloc (by simp) _⟩
  · have HE : Hid (belB l1 s1 l2 s2 = false) := by rw [Hid, belB, decide_eq_false hl, Bool.false_and]
    have hl' : (l2 : Int) < (l1 : Int) := by omega
    go_enter Tryd.func13, Tryd.ntmps13
    go_wp2
    go_ret
    exact ⟨ret_bool (by first | exact HE.out.symm | (rw [HE.out]; simp; omega)), ((Below.refl _ w).alloc (Nat.le_refl _) _).alloc (by simp) _⟩

/-- A label's text with the letters below k alone. -/
def wrtK (l s k : Nat) : ByteArray := wrt l (s % 2 ^ k)
theorem lts_step : ((List.range 256).all fun s => (List.range 8).all fun k => lts (s % 2 ^ (k + 1)) == if s.testBit k then lts (s % 2 ^ k) ++ [97 + k] else lts (s % 2 ^ k)) = true := by decide +kernel
theorem lts_bit {s k : Nat} (hs : s < 256) (hk : k < 8) : lts (s % 2 ^ (k + 1)) = if s.testBit k then lts (s % 2 ^ k) ++ [97 + k] else lts (s % 2 ^ k) := by
  have a := List.all_eq_true.1 (List.all_eq_true.1 lts_step s (List.mem_range.2 hs)) k (List.mem_range.2 hk)
  simpa only [beq_iff_eq] using a
theorem nums_append (a b : ByteArray) : nums (a ++ b) = nums a ++ nums b := by
  rw [nums, ByteArray.data_append, Array.toList_append, List.map_append]; rfl
/-- A text of one byte. -/
def one1 (n : Nat) : ByteArray := ⟨#[UInt8.ofNat n]⟩
theorem nums_one {n : Nat} (h : n < 256) : nums (one1 n) = [n] := by
  show [(UInt8.ofNat n).toNat] = [n]
  rw [UInt8.toNat_ofNat', Nat.mod_eq_of_lt h]
theorem wrtK_zero {l s : Nat} (hl : l ≤ 7) : wrtK l s 0 = one1 (48 + l) := by
  refine nums_inj ?_
  rw [wrtK, nums_wrt hl, nums_one (by omega), Nat.pow_zero, Nat.mod_one, lts_zero]
theorem wrtK_yes {l s k : Nat} (hl : l ≤ 7) (hs : s < 256) (hk : k < 8) (h : s.testBit k = true) : wrtK l s k ++ one1 (97 + k) = wrtK l s (k + 1) := by
  refine nums_inj ?_
  rw [nums_append, wrtK, wrtK, nums_wrt hl, nums_wrt hl, nums_one (by omega), lts_bit hs hk, if_pos h]
  rfl
theorem wrtK_no {l s k : Nat} (hl : l ≤ 7) (hs : s < 256) (hk : k < 8) (h : s.testBit k = false) : wrtK l s k = wrtK l s (k + 1) := by
  refine nums_inj ?_
  rw [wrtK, wrtK, nums_wrt hl, nums_wrt hl, lts_bit hs hk, if_neg (by rw [h]; decide)]
theorem wrtK_all {l s : Nat} (hs : s < 256) : wrtK l s 8 = wrt l s := by rw [wrtK, Nat.mod_eq_of_lt hs]
theorem wrt_short (l s : Nat) : (wrt l s).size ≤ 13 := by
  rw [wrt, strOfNums_size, txt_length]
  have := memN_length 8 s
  omega
theorem digit_at : ((List.range 8).all fun l => nums ((ByteArray.mk #[48, 49, 50, 51, 52, 53, 54, 55]).extract l (l + 1)) == [48 + l]) = true := by decide +kernel
theorem letter_at : ((List.range 8).all fun l => nums ((ByteArray.mk #[97, 98, 99, 100, 101, 102, 103, 104]).extract l (l + 1)) == [97 + l]) = true := by decide +kernel
theorem digit_slice (l : Nat) (hl : l < 8) (W : World) : (Instr.slice 9 (.string ⟨#[48, 49, 50, 51, 52, 53, 54, 55]⟩) (some (.int .i64 (l : Int))) (some (.int .i64 ((l : Int) + 1))) none).run Tryd.prog W = .ok (.string (one1 (48 + l))) W := by
  rw [run_slice_string W 9 _ .i64 .i64 (l : Int) ((l : Int) + 1) Tryd.underlying9 (by omega) (by omega) (by show (l : Int) + 1 ≤ 8; omega), Int.toNat_natCast, show ((l : Int) + 1).toNat = l + 1 by omega]
  congr 2
  refine nums_inj ?_
  have a := List.all_eq_true.1 digit_at l (List.mem_range.2 hl)
  rw [nums_one (by omega)]
  simpa only [beq_iff_eq] using a
theorem letter_slice (l : Nat) (hl : l < 8) (W : World) : (Instr.slice 9 (.string ⟨#[97, 98, 99, 100, 101, 102, 103, 104]⟩) (some (.int .i64 (l : Int))) (some (.int .i64 ((l : Int) + 1))) none).run Tryd.prog W = .ok (.string (one1 (97 + l))) W := by
  rw [run_slice_string W 9 _ .i64 .i64 (l : Int) ((l : Int) + 1) Tryd.underlying9 (by omega) (by omega) (by show (l : Int) + 1 ≤ 8; omega), Int.toNat_natCast, show ((l : Int) + 1).toNat = l + 1 by omega]
  congr 2
  refine nums_inj ?_
  have a := List.all_eq_true.1 letter_at l (List.mem_range.2 hl)
  rw [nums_one (by omega)]
  simpa only [beq_iff_eq] using a
set_option maxHeartbeats 1000000 in
theorem written_ok (l s : Nat) (hl : l ≤ 7) (hs : s < 256) (w : World) :
    Calls Tryd.prog 11 #[lab l s] w fun e w' => e = .returned (.string (wrt l s)) ∧ Below w.heap.size w w' := by
  have hd := fun W => digit_slice l (by omega) W
  rw [← wrtK_zero (s := s) hl] at hd
  obtain ⟨T0, hT0⟩ : ∃ T, wrtK l s 0 = T := ⟨_, rfl⟩
  rw [hT0] at hd
  have HT : Hid (T0 = wrtK l s 0) := hT0.symm
  clear hT0
  go_enter Tryd.func11, Tryd.ntmps11
  go_wp2
  go_loop [3, 4] (fun t i => ∃ k : Nat, k ≤ 8 ∧ i = .int .i64 k ∧ t = .string (wrtK l s k)) (fun _ i => 8 - (intOf i).toNat)
  case atStart => exact ⟨0, Nat.zero_le _, rfl, by rw [HT.out]⟩
  case round =>
    obtain ⟨k, hk, rfl, rfl⟩ := hrel
    clear hd HT
    by_cases hlt : k < 8
    · have hlt' : (k : Int) < 8 := by omega
      have hb := fun W => bit_any s k (by omega) (by omega) W
      have hx := fun W => letter_slice k hlt W
      obtain ⟨T, hT⟩ : ∃ T, wrtK l s k = T := ⟨_, rfl⟩
      cases hbit : s.testBit k
      · as_aux_lemma =>
          have HE : Hid (wrtK l s k = wrtK l s (k + 1)) := wrtK_no hl hs hlt hbit
          rw [hbit] at hb
          clear hbit
          rw [hT] at HE ⊢
          clear hT
          go_wp2_with (go_at_call 32; refine (hb _).mono ?_; rintro e w' ⟨rfl, rfl⟩)
          go_round
          case rel => exact ⟨k + 1, by omega, by go_num, by rw [← HE.out]⟩
          case measure => simp [intOf]; omega
      · as_aux_lemma =>
          have HE : Hid (wrtK l s k ++ one1 (97 + k) = wrtK l s (k + 1)) := wrtK_yes hl hs hlt hbit
          have hsz : (wrtK l s k).size ≤ 13 := wrt_short _ _
          rw [hbit] at hb
          clear hbit
          rw [hT] at HE hsz ⊢
          clear hT
          have ha := fun W => run_string_add (P := Tryd.prog) W T (one1 (97 + k)) (by omega) (by show ((1 : Nat) : Int) ≤ 8388608; decide)
          obtain ⟨L, hL⟩ : ∃ L, one1 (97 + k) = L := ⟨_, rfl⟩
          rw [hL] at ha hx HE
          clear hL
          go_wp2_with (go_at_call 32; refine (hb _).mono ?_; rintro e w' ⟨rfl, rfl⟩)
          go_round
          case rel => exact ⟨k + 1, by omega, by go_num, by rw [← HE.out]⟩
          case measure => simp [intOf]; omega
    · have HE : Hid (wrtK l s k = wrt l s) := by
        obtain rfl : k = 8 := by omega
        exact wrtK_all hs
      have hge : (8 : Int) ≤ (k : Int) := by omega
      go_wp2
      go_ret
      exact ⟨by rw [HE.out]; rfl, (Below.refl _ w).alloc (Nat.le_refl _) _⟩
end Go.Proofs.YtkdaaaloibdngaaDoor
