/- The walk of the law LabelBack. -/
import Derived.WalkKit
import Derived.LoopTactic
import Derived.Test.YtomencagnppdcaaDoorLabBnd
import Derived.Test.YtomencagnppdcaaDoorParse
import Derived.Test.YtomencagnppdcaaDoorAs
namespace Go.Proofs.YtomencagnppdcaaDoor
open Go.RowKit
set_option maxRecDepth 100000

theorem byte_nat {n : Nat} (h : n < 256) : (UInt8.ofNat ((n : Int)).toNat).toNat = n := by
  rw [Int.toNat_natCast, UInt8.toNat_ofNat']
  exact Nat.mod_eq_of_lt h
theorem nums_wrt {l s : Nat} (hl : l ≤ 7) : nums (wrt l s) = (48 + l) :: lts s := by
  rw [nums, wrt, strOfNums_data, txt, List.map_map, List.map_cons, List.map_map, lts]
  congr 1
  · exact byte_nat (n := 48 + l) (by omega)
  · refine List.map_congr_left fun i _ => ?_
    have := i.2
    exact byte_nat (n := 97 + i.1) (by omega)
theorem prs_wrt {l s : Nat} (hl : l ≤ 7) (hs : s < 256) : prs (wrt l s) = some (l, s) := prs_of hl hs (nums_wrt hl)
theorem eq_wrt {y : ByteArray} {l s : Nat} (h : prs y = some (l, s)) : y = wrt l s := by
  obtain ⟨hl, _, hn⟩ := prs_some h
  exact nums_inj (by rw [hn, nums_wrt hl])
theorem wrt_size (l s : Nat) : (wrt l s).size ≤ maxLen := by
  rw [wrt, strOfNums_size, txt_length]
  have := memN_length 8 s
  unfold maxLen
  omega

abbrev ErrIs (w : World) (er : Value) (c : Int) : Prop := ∀ W, Below w.heap.size w W → Calls Tryd.prog 12 #[er, .int .i64 c] W fun e w' => e = .returned (.bool true) ∧ Below W.heap.size W w'

theorem errIs_of {w : World} (hT : Tab w) (hE : ErrT w) (c : Int) : ErrIs w (.iface 51 (.int .i64 c)) c := fun W hB =>
  (error_err c c W (hE.below hB (by have := hT.size; omega))).mono fun e w' ⟨he, hb⟩ => ⟨by rw [he]; simp, hb⟩
end Go.Proofs.YtomencagnppdcaaDoor
