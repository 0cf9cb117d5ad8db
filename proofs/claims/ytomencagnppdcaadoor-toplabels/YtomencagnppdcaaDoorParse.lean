/- What letters and Parse of package label answer: the label that a text is, if it is one. -/
import Derived.WalkKit
import Derived.LoopTactic
import Derived.Laws.ResultCell
import Derived.Laws.Strings
import Derived.Lib.IndexBytes
import Derived.Test.YtomencagnppdcaaDoorText
import Derived.Test.YtomencagnppdcaaDoorLabel
namespace Go.Proofs.YtomencagnppdcaaDoor
open Go.RowKit
set_option maxRecDepth 100000

theorem shr_fact : ((List.range 256).all fun s => (List.range 8).all fun i => s >>> i == s / 2 ^ i) = true := by decide +kernel
theorem or_fact : ((List.range 256).all fun s => (List.range 8).all fun i => (!(s / 2 ^ i == 0)) || ((s ||| 2 ^ i) == s + 2 ^ i)) = true := by decide +kernel
theorem or_add {s i : Nat} (hs : s < 256) (hi : i < 8) (h : s / 2 ^ i = 0) : s ||| 2 ^ i = s + 2 ^ i := by
  have a := List.all_eq_true.1 (List.all_eq_true.1 or_fact s (List.mem_range.2 hs)) i (List.mem_range.2 hi)
  rw [h] at a
  simpa using a

/-- What letters answers. -/
def lettersIs (o : Option Nat) : Value := .tuple #[.int .i64 (o.getD 0 : Nat), .bool o.isSome]
theorem lets_none_of {y : ByteArray} {k : Nat} (hk : k < y.size) {t : Nat} (h : lets 0 ((nums y).take k) = some t) (hn : letN t y[k].toNat = none) : lets 0 (nums y) = none := by
  have e : nums y = (nums y).take (k + 1) ++ (nums y).drop (k + 1) := (List.take_append_drop _ _).symm
  rw [e, lets_app, nums_take y k hk, lets_snoc, h]
  simp [hn]
/-- The label that a text is, if it is one. -/
def prsL : List Nat → Option (Nat × Nat)
  | [] => none
  | c :: l => if 48 ≤ c ∧ c ≤ 55 then (lets 0 l).map fun t => (c - 48, t) else none
def prs (y : ByteArray) : Option (Nat × Nat) := prsL (nums y)
theorem empty_yes {y : ByteArray} (h : y.size = 0) : y.toList.isEmpty = true := by
  rw [ByteArray.toList_eq, List.isEmpty_iff]
  exact List.length_eq_zero_iff.1 h
theorem empty_no {y : ByteArray} (h : 0 < y.size) : y.toList.isEmpty = false := by
  rw [ByteArray.toList_eq, List.isEmpty_eq_false_iff]
  intro e
  have : y.data.toList.length = 0 := by rw [e]; rfl
  exact absurd h (by show ¬ 0 < y.data.toList.length; omega)
theorem nums_cons {y : ByteArray} (h : 0 < y.size) : nums y = y[0].toNat :: nums (y.extract 1 y.size) := by
  have e : nums (y.extract 1 y.size) = (nums y).drop 1 := by rw [nums, Lib.extract_to_end, nums, List.map_drop]
  have h1 := nums_take y 0 h
  rw [e]
  conv => lhs; rw [← List.take_append_drop 1 (nums y), h1]
  rfl
theorem size_rest (y : ByteArray) : (y.extract 1 y.size).size ≤ y.size := by simp
theorem prs_some {y : ByteArray} {l s : Nat} (h : prs y = some (l, s)) : l ≤ 7 ∧ s < 256 ∧ nums y = (48 + l) :: lts s := by
  rw [prs] at h
  cases hn : nums y with
  | nil => rw [hn] at h; cases h
  | cons c r =>
    rw [hn, prsL] at h
    split at h
    · rename_i hc
      rw [Option.map_eq_some_iff] at h
      obtain ⟨t, ht, e⟩ := h
      cases e
      obtain ⟨h1, h2⟩ := lets_iff.1 ht
      exact ⟨by omega, h1, by rw [h2]; congr 1; omega⟩
    · cases h
theorem prs_of {y : ByteArray} {l s : Nat} (hl : l ≤ 7) (hs : s < 256) (h : nums y = (48 + l) :: lts s) : prs y = some (l, s) := by
  rw [prs, h, prsL, if_pos ⟨by omega, by omega⟩, lets_lts hs]
  simp
end Go.Proofs.YtomencagnppdcaaDoor
