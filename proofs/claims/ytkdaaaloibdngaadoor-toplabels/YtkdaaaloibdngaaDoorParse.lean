/- What letters and Parse of package label answer: the label that a text is, if it is one. -/
import Derived.WalkKit
import Derived.LoopTactic
import Derived.Laws.ResultCell
import Derived.Laws.Strings
import Derived.Lib.IndexBytes
import Derived.Test.YtkdaaaloibdngaaDoorText
import Derived.Test.YtkdaaaloibdngaaDoorLabel
namespace Go.Proofs.YtkdaaaloibdngaaDoor
open Go.RowKit
set_option maxRecDepth 100000

theorem shr_fact : ((List.range 256).all fun s => (List.range 8).all fun i => s >>> i == s / 2 ^ i) = true := by decide +kernel
theorem or_fact : ((List.range 256).all fun s => (List.range 8).all fun i => (!(s / 2 ^ i == 0)) || ((s ||| 2 ^ i) == s + 2 ^ i)) = true := by decide +kernel
theorem or_add {s i : Nat} (hs : s < 256) (hi : i < 8) (h : s / 2 ^ i = 0) : s ||| 2 ^ i = s + 2 ^ i := by
  have a := List.all_eq_true.1 (List.all_eq_true.1 or_fact s (List.mem_range.2 hs)) i (List.mem_range.2 hi)
  rw [h] at a
  simpa using a

/-- What letters answers. -/
def lettersIs (o : Option Nat) : Value := .tuple #[.int .i64 (o.getD 0 : Nat), .bool o.isSome]
theorem lets_none_of {y : ByteArray} {k : Nat} (hk : k < y.size) {t : Nat} (h : lets 0 ((nums y).take k) = some t) (hn : letN t y[k].toNat = none) : lets 0 (nums y) = none := by
  have e : nums y = (nums y).take (k + 1) ++ (nums y).drop (k + 1) := (List.take_append_drop _ _).symm
  rw [e, lets_app, nums_take y k hk, lets_snoc, h]
  simp [hn]
set_option maxHeartbeats 1000000 in
theorem letters_any (y : ByteArray) (hy : y.size ≤ maxLen) (w : World) :
    Calls Tryd.prog 37 #[.string y] w fun e w' => e = .returned (lettersIs (lets 0 (nums y))) ∧ w' = w := by
  have hy' : y.size < 9223372036854775808 := by unfold maxLen at hy; omega
  clear hy
  go_enter Tryd.func37, Tryd.ntmps37
  go_wp2
  go_loop [4, 9] (fun n i => ∃ k t : Nat, k ≤ y.size ∧ i = .int .i64 k ∧ t < 256 ∧ n = .int .i64 t ∧ Hid (lets 0 ((nums y).take k) = some t)) (fun _ i => y.size - (intOf i).toNat)
  case atStart => exact ⟨0, 0, Nat.zero_le _, rfl, by decide, rfl, rfl⟩
  case round =>
    obtain ⟨k, t, hk, rfl, ht, rfl, hl⟩ := hrel
    by_cases hlt : k < y.size
    · obtain ⟨c, hc⟩ : ∃ c, y[k].toNat = c := ⟨_, rfl⟩
      have hc8 : c < 256 := by rw [← hc]; exact y[k].toNat_lt
      have HN : letN t c = none → Hid (lets 0 (nums y) = none) := fun h => lets_none_of hlt hl.out (by rw [hc]; exact h)
      by_cases h1 : c < 97
      · as_aux_lemma =>
          have HE := HN (letN_no (.inl h1))
          clear HN hl
          go_wp2
          go_ret2
          exact ⟨by rw [HE.out]; rfl, rfl⟩
      · by_cases h2 : 105 ≤ c
        · as_aux_lemma =>
            have HE := HN (letN_no (.inr (.inl h2)))
            clear HN hl h1
            go_wp2
            go_ret2
            exact ⟨by rw [HE.out]; rfl, rfl⟩
        · obtain ⟨i, rfl⟩ : ∃ i, c = 97 + i := ⟨c - 97, by omega⟩
          have hi : i < 8 := by omega
          have ei : 97 + i - 97 = i := by omega
          have hc' : (y[k].toNat : Int) = 97 + (i : Int) := by omega
          by_cases h3 : t / 2 ^ i = 0
          · as_aux_lemma =>
              have hq : (t : Int) / 2 ^ i = 0 := by exact_mod_cast h3
              have HS : Hid (lets 0 ((nums y).take (k + 1)) = some (t + 2 ^ i)) := by
                unfold Hid
                rw [nums_take y k hlt, lets_snoc, hl.out, hc]
                show letN t (97 + i) = _
                rw [letN_ok (by omega) (by omega) (by rw [ei]; exact h3), ei]
              have hlt2 : t + 2 ^ i < 256 := (lets_some (by decide) HS.out).1
              have hor := or_i64 t (2 ^ i) (by omega) (by omega)
              rw [or_add ht hi h3] at hor
              have hp : wrap64 (2 ^ i) = ((2 ^ i : Nat) : Int) := by
                have e : (2 ^ i : Int) = ((2 ^ i : Nat) : Int) := by push_cast; rfl
                have h0 : 2 ^ i < 256 := by omega
                rw [e, wrap64]
                generalize 2 ^ i = q at h0 ⊢
                omega
              clear HN hl h1 h2 h3 hc
              obtain ⟨p, hpe⟩ : ∃ p, 2 ^ i = p := ⟨_, rfl⟩
              rw [hpe] at hor hp HS hlt2
              clear hpe
              go_wp2
              go_round
              case rel => exact ⟨k + 1, t + p, by omega, by go_num, hlt2, rfl, HS⟩
              case measure => simp [intOf]; omega
          · as_aux_lemma =>
              have HE := HN (letN_no (.inr (.inr (by rw [ei]; exact h3))))
              have hq : ((t : Int) / 2 ^ i != 0) = true := by
                have : ((t / 2 ^ i : Nat) : Int) ≠ 0 := by omega
                push_cast at this
                simpa using this
              clear HN hl h1 h2 h3 hc
              go_wp2
              go_ret2
              exact ⟨by rw [HE.out]; rfl, rfl⟩
    · have HE : Hid (lets 0 (nums y) = some t) := by
        unfold Hid
        rw [← hl.out, List.take_of_length_le (by rw [nums_length]; omega)]
      clear hl
      go_wp2
      go_ret2
      exact ⟨by rw [HE.out]; rfl, rfl⟩

/-- The label that a text is, if it is one. -/
def prsL : List Nat → Option (Nat × Nat)
  | [] => none
  | c :: l => if 48 ≤ c ∧ c ≤ 55 then (lets 0 l).map fun t => (c - 48, t) else none
def prs (y : ByteArray) : Option (Nat × Nat) := prsL (nums y)
theorem empty_yes {y : ByteArray} (h : y.size = 0) : y.toList.isEmpty = true := by
  rw [ByteArray.toList_eq, List.isEmpty_iff]
  exact List.length_eq_zero_iff.1 h
theorem empty_no {y : ByteArray} (h : 0 < y.size) : y.toList.isEmpty = false := by
  rw [ByteArray.toList_eq, List.isEmpty_eq_false_iff]
  intro e
  have : y.data.toList.length = 0 := by rw [e]; rfl
  exact absurd h (by show ¬ 0 < y.data.toList.length; omega)
theorem nums_cons {y : ByteArray} (h : 0 < y.size) : nums y = y[0].toNat :: nums (y.extract 1 y.size) := by
  have e : nums (y.extract 1 y.size) = (nums y).drop 1 := by rw [nums, Lib.extract_to_end, nums, List.map_drop]
  have h1 := nums_take y 0 h
  rw [e]
  conv => lhs; rw [← List.take_append_drop 1 (nums y), h1]
  rfl
theorem size_rest (y : ByteArray) : (y.extract 1 y.size).size ≤ y.size := by simp
/-- What letters answers of the rest of a text, from any world. -/
abbrev LetIs (y : ByteArray) (n : Int) (b : Bool) : Prop := ∀ W, Calls Tryd.prog 37 #[.string (y.extract 1 y.size)] W fun e w' => e = .returned (.tuple #[.int .i64 n, .bool b]) ∧ w' = W
set_option maxHeartbeats 1000000 in
theorem parse_empty (y : ByteArray) (h0 : y.size = 0) (w : World) :
    Calls Tryd.prog 20 #[.string y] w fun e w' => e = .returned (.tuple #[lab 0 0, .iface 57 (.int .i64 2)]) ∧ Below w.heap.size w w' := by
  have he := empty_yes h0
  clear h0
  go_enter Tryd.func20, Tryd.ntmps20
  go_wp2
  (try simp only [Exit.inBlock, Exit.then])
  refine bodyPost_ret (v := .tuple #[lab 0 0, .iface 57 (.int .i64 2)]) ?_ rfl ⟨rfl, (Below.refl _ w).alloc (Nat.le_refl _) _⟩
  rw [results_cell_tmp rfl]
  go_simp
set_option maxHeartbeats 1000000 in
theorem parse_low (y : ByteArray) (h0 : 0 < y.size) (hy : y.size < 9223372036854775808) (c : Nat) (hc : (y[0].toNat : Int) = (c : Int)) (hc8 : c < 256) (h1 : (c : Int) < 48) (n : Int) (b : Bool) (hL : LetIs y n b) (w : World) :
    Calls Tryd.prog 20 #[.string y] w fun e w' => e = .returned (.tuple #[lab 0 0, .iface 57 (.int .i64 2)]) ∧ Below w.heap.size w w' := by
  have he := empty_no h0
  go_enter Tryd.func20, Tryd.ntmps20
  go_wp2_with (first | (go_at_call 37; refine (hL _).mono ?_; clear hL; rintro e w' ⟨rfl, rfl⟩) | (go_at_call 31; refine (isLevel_low _ (by omega) _).mono ?_; rintro e w' ⟨rfl, rfl⟩))
  (try simp only [Exit.inBlock, Exit.then])
  refine bodyPost_ret (v := .tuple #[lab 0 0, .iface 57 (.int .i64 2)]) ?_ rfl ⟨rfl, (Below.refl _ w).alloc (Nat.le_refl _) _⟩
  rw [results_cell_tmp rfl]
  go_simp
set_option maxHeartbeats 1000000 in
theorem parse_high (y : ByteArray) (h0 : 0 < y.size) (hy : y.size < 9223372036854775808) (c : Nat) (hc : (y[0].toNat : Int) = (c : Int)) (hc8 : c < 256) (h1 : 55 < (c : Int)) (n : Int) (b : Bool) (hL : LetIs y n b) (w : World) :
    Calls Tryd.prog 20 #[.string y] w fun e w' => e = .returned (.tuple #[lab 0 0, .iface 57 (.int .i64 2)]) ∧ Below w.heap.size w w' := by
  have he := empty_no h0
  go_enter Tryd.func20, Tryd.ntmps20
  go_wp2_with (first | (go_at_call 37; refine (hL _).mono ?_; clear hL; rintro e w' ⟨rfl, rfl⟩) | (go_at_call 31; refine (isLevel_high _ (by omega) (by omega) _).mono ?_; rintro e w' ⟨rfl, rfl⟩))
  (try simp only [Exit.inBlock, Exit.then])
  refine bodyPost_ret (v := .tuple #[lab 0 0, .iface 57 (.int .i64 2)]) ?_ rfl ⟨rfl, (Below.refl _ w).alloc (Nat.le_refl _) _⟩
  rw [results_cell_tmp rfl]
  go_simp
set_option maxHeartbeats 1000000 in
theorem parse_bad (y : ByteArray) (h0 : 0 < y.size) (hy : y.size < 9223372036854775808) (c : Nat) (hc : (y[0].toNat : Int) = (c : Int)) (hc8 : c < 256) (h1 : 48 ≤ (c : Int)) (h2 : (c : Int) ≤ 55) (n : Int) (hL : LetIs y n false) (w : World) :
    Calls Tryd.prog 20 #[.string y] w fun e w' => e = .returned (.tuple #[lab 0 0, .iface 57 (.int .i64 2)]) ∧ Below w.heap.size w w' := by
  have he := empty_no h0
  go_enter Tryd.func20, Tryd.ntmps20
  go_wp2_with (first | (go_at_call 37; refine (hL _).mono ?_; clear hL; rintro e w' ⟨rfl, rfl⟩) | (go_at_call 31; refine (isLevel_yes _ (by omega) (by omega) _).mono ?_; rintro e w' ⟨rfl, rfl⟩))
  (try simp only [Exit.inBlock, Exit.then])
  refine bodyPost_ret (v := .tuple #[lab 0 0, .iface 57 (.int .i64 2)]) ?_ rfl ⟨rfl, (Below.refl _ w).alloc (Nat.le_refl _) _⟩
  rw [results_cell_tmp rfl]
  go_simp
set_option maxHeartbeats 1000000 in
theorem parse_good (y : ByteArray) (h0 : 0 < y.size) (hy : y.size < 9223372036854775808) (c : Nat) (hc : (y[0].toNat : Int) = (c : Int)) (hc8 : c < 256) (h1 : 48 ≤ (c : Int)) (h2 : (c : Int) ≤ 55) (n : Int) (hL : LetIs y n true) (w : World) :
    Calls Tryd.prog 20 #[.string y] w fun e w' => e = .returned (.tuple #[lab ((c : Int) - 48) n, .nilIface]) ∧ Below w.heap.size w w' := by
  have he := empty_no h0
  go_enter Tryd.func20, Tryd.ntmps20
  go_wp2_with (first | (go_at_call 37; refine (hL _).mono ?_; clear hL; rintro e w' ⟨rfl, rfl⟩) | (go_at_call 31; refine (isLevel_yes _ (by omega) (by omega) _).mono ?_; rintro e w' ⟨rfl, rfl⟩))
  (try simp only [Exit.inBlock, Exit.then])
  refine bodyPost_ret (v := .tuple #[lab ((c : Int) - 48) n, .nilIface]) ?_ rfl ⟨rfl, (Below.refl _ w).alloc (Nat.le_refl _) _⟩
  rw [results_cell_tmp rfl]
  go_simp

theorem letIs_of {y : ByteArray} (hy : y.size ≤ maxLen) : LetIs y (((lets 0 (nums (y.extract 1 y.size))).getD 0 : Nat) : Int) (lets 0 (nums (y.extract 1 y.size))).isSome :=
  fun W => letters_any _ (Nat.le_trans (size_rest y) hy) W
theorem parse_no (y : ByteArray) (hy : y.size ≤ maxLen) (h : prs y = none) (w : World) :
    Calls Tryd.prog 20 #[.string y] w fun e w' => e = .returned (.tuple #[lab 0 0, .iface 57 (.int .i64 2)]) ∧ Below w.heap.size w w' := by
  by_cases h0 : 0 < y.size
  · have hL := letIs_of hy
    have hy' : y.size < 9223372036854775808 := by unfold maxLen at hy; omega
    have hc8 : y[0].toNat < 256 := y[0].toNat_lt
    rw [prs, nums_cons h0, prsL] at h
    by_cases h1 : ((y[0].toNat : Nat) : Int) < 48
    · exact parse_low y h0 hy' _ rfl hc8 h1 _ _ hL w
    · by_cases h2 : 55 < ((y[0].toNat : Nat) : Int)
      · exact parse_high y h0 hy' _ rfl hc8 h2 _ _ hL w
      · rw [if_pos ⟨by omega, by omega⟩, Option.map_eq_none_iff] at h
        rw [h] at hL
        exact parse_bad y h0 hy' _ rfl hc8 (by omega) (by omega) _ hL w
  · exact parse_empty y (by omega) w
theorem prs_some {y : ByteArray} {l s : Nat} (h : prs y = some (l, s)) : l ≤ 7 ∧ s < 256 ∧ nums y = (48 + l) :: lts s := by
  rw [prs] at h
  cases hn : nums y with
  | nil => rw [hn] at h; cases h
  | cons c r =>
    rw [hn, prsL] at h
    split at h
    · rename_i hc
      rw [Option.map_eq_some_iff] at h
      obtain ⟨t, ht, e⟩ := h
      cases e
      obtain ⟨h1, h2⟩ := lets_iff.1 ht
      exact ⟨by omega, h1, by rw [h2]; congr 1; omega⟩
    · cases h
theorem prs_of {y : ByteArray} {l s : Nat} (hl : l ≤ 7) (hs : s < 256) (h : nums y = (48 + l) :: lts s) : prs y = some (l, s) := by
  rw [prs, h, prsL, if_pos ⟨by omega, by omega⟩, lets_lts hs]
  simp
theorem parse_yes (y : ByteArray) (hy : y.size ≤ maxLen) {l s : Nat} (h : prs y = some (l, s)) (w : World) :
    Calls Tryd.prog 20 #[.string y] w fun e w' => e = .returned (.tuple #[lab l s, .nilIface]) ∧ Below w.heap.size w w' := by
  obtain ⟨hl, hs, hn⟩ := prs_some h
  have h0 : 0 < y.size := by
    rw [← nums_length, hn]; simp
  have hL := letIs_of hy
  have hy' : y.size < 9223372036854775808 := by unfold maxLen at hy; omega
  have hc8 : y[0].toNat < 256 := y[0].toNat_lt
  have hn2 := nums_cons h0
  rw [hn] at hn2
  simp only [List.cons.injEq] at hn2
  rw [← hn2.2, lets_lts hs] at hL
  have := parse_good y h0 hy' (48 + l) (by rw [← hn2.1]) (by omega) (by omega) (by omega) _ hL w
  rw [show (((48 + l : Nat) : Int) - 48) = (l : Int) by omega] at this
  exact this
end Go.Proofs.YtkdaaaloibdngaaDoor
