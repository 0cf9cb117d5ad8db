/- What the document's functions on labels answer: what is wrong with one (Label), whether one is below another one (Below), its text (Written). -/
import Derived.WalkKit
import Derived.LoopTactic
import Derived.Laws.Strings
import Derived.Laws.Strings2
import Derived.Laws.Concat
import Derived.Test.YtomencagnppdcaaDoorLabBack
import Derived.Test.YtomencagnppdcaaDoorRefLb
namespace Go.Proofs.YtomencagnppdcaaDoor
open Go.RowKit
set_option maxRecDepth 100000

/-- A label's text with the letters below k alone. -/
def wrtK (l s k : Nat) : ByteArray := wrt l (s % 2 ^ k)
theorem lts_step : ((List.range 256).all fun s => (List.range 8).all fun k => lts (s % 2 ^ (k + 1)) == if s.testBit k then lts (s % 2 ^ k) ++ [97 + k] else lts (s % 2 ^ k)) = true := by decide +kernel
theorem lts_bit {s k : Nat} (hs : s < 256) (hk : k < 8) : lts (s % 2 ^ (k + 1)) = if s.testBit k then lts (s % 2 ^ k) ++ [97 + k] else lts (s % 2 ^ k) := by
  have a := List.all_eq_true.1 (List.all_eq_true.1 lts_step s (List.mem_range.2 hs)) k (List.mem_range.2 hk)
  simpa only [beq_iff_eq] using a
theorem nums_append (a b : ByteArray) : nums (a ++ b) = nums a ++ nums b := by
  rw [nums, ByteArray.data_append, Array.toList_append, List.map_append]; rfl
/-- A text of one byte. -/
def one1 (n : Nat) : ByteArray := ⟨#[UInt8.ofNat n]⟩
theorem nums_one {n : Nat} (h : n < 256) : nums (one1 n) = [n] := by
  show [(UInt8.ofNat n).toNat] = [n]
  rw [UInt8.toNat_ofNat', Nat.mod_eq_of_lt h]
theorem wrtK_zero {l s : Nat} (hl : l ≤ 7) : wrtK l s 0 = one1 (48 + l) := by
  refine nums_inj ?_
  rw [wrtK, nums_wrt hl, nums_one (by omega), Nat.pow_zero, Nat.mod_one, lts_zero]
theorem wrtK_yes {l s k : Nat} (hl : l ≤ 7) (hs : s < 256) (hk : k < 8) (h : s.testBit k = true) : wrtK l s k ++ one1 (97 + k) = wrtK l s (k + 1) := by
  refine nums_inj ?_
  rw [nums_append, wrtK, wrtK, nums_wrt hl, nums_wrt hl, nums_one (by omega), lts_bit hs hk, if_pos h]
  rfl
theorem wrtK_no {l s k : Nat} (hl : l ≤ 7) (hs : s < 256) (hk : k < 8) (h : s.testBit k = false) : wrtK l s k = wrtK l s (k + 1) := by
  refine nums_inj ?_
  rw [wrtK, wrtK, nums_wrt hl, nums_wrt hl, lts_bit hs hk, if_neg (by rw [h]; decide)]
theorem wrtK_all {l s : Nat} (hs : s < 256) : wrtK l s 8 = wrt l s := by rw [wrtK, Nat.mod_eq_of_lt hs]
theorem wrt_short (l s : Nat) : (wrt l s).size ≤ 13 := by
  rw [wrt, strOfNums_size, txt_length]
  have := memN_length 8 s
  omega
theorem digit_at : ((List.range 8).all fun l => nums ((ByteArray.mk #[48, 49, 50, 51, 52, 53, 54, 55]).extract l (l + 1)) == [48 + l]) = true := by decide +kernel
theorem letter_at : ((List.range 8).all fun l => nums ((ByteArray.mk #[97, 98, 99, 100, 101, 102, 103, 104]).extract l (l + 1)) == [97 + l]) = true := by decide +kernel
theorem digit_slice (l : Nat) (hl : l < 8) (W : World) : (Instr.slice 9 (.string ⟨#[48, 49, 50, 51, 52, 53, 54, 55]⟩) (some (.int .i64 (l : Int))) (some (.int .i64 ((l : Int) + 1))) none).run Tryd.prog W = .ok (.string (one1 (48 + l))) W := by
  rw [run_slice_string W 9 _ .i64 .i64 (l : Int) ((l : Int) + 1) Tryd.underlying9 (by omega) (by omega) (by show (l : Int) + 1 ≤ 8; omega), Int.toNat_natCast, show ((l : Int) + 1).toNat = l + 1 by omega]
  congr 2
  refine nums_inj ?_
  have a := List.all_eq_true.1 digit_at l (List.mem_range.2 hl)
  rw [nums_one (by omega)]
  simpa only [beq_iff_eq] using a
theorem letter_slice (l : Nat) (hl : l < 8) (W : World) : (Instr.slice 9 (.string ⟨#[97, 98, 99, 100, 101, 102, 103, 104]⟩) (some (.int .i64 (l : Int))) (some (.int .i64 ((l : Int) + 1))) none).run Tryd.prog W = .ok (.string (one1 (97 + l))) W := by
  rw [run_slice_string W 9 _ .i64 .i64 (l : Int) ((l : Int) + 1) Tryd.underlying9 (by omega) (by omega) (by show (l : Int) + 1 ≤ 8; omega), Int.toNat_natCast, show ((l : Int) + 1).toNat = l + 1 by omega]
  congr 2
  refine nums_inj ?_
  have a := List.all_eq_true.1 letter_at l (List.mem_range.2 hl)
  rw [nums_one (by omega)]
  simpa only [beq_iff_eq] using a
end Go.Proofs.YtomencagnppdcaaDoor
