/- The walk of the law LabelBack. -/
import Derived.WalkKit
import Derived.LoopTactic
import Derived.Test.YtkdaaaloibdngaaDoorLabBnd
import Derived.Test.YtkdaaaloibdngaaDoorParse
import Derived.Test.YtkdaaaloibdngaaDoorAs
namespace Go.Proofs.YtkdaaaloibdngaaDoor
open Go.RowKit
set_option maxRecDepth 100000

theorem byte_nat {n : Nat} (h : n < 256) : (UInt8.ofNat ((n : Int)).toNat).toNat = n := by
  rw [Int.toNat_natCast, UInt8.toNat_ofNat']
  exact Nat.mod_eq_of_lt h
theorem nums_wrt {l s : Nat} (hl : l ≤ 7) : nums (wrt l s) = (48 + l) :: lts s := by
  rw [nums, wrt, strOfNums_data, txt, List.map_map, List.map_cons, List.map_map, lts]
  congr 1
  · exact byte_nat (n := 48 + l) (by omega)
  · refine List.map_congr_left fun i _ => ?_
    have := i.2
    exact byte_nat (n := 97 + i.1) (by omega)
theorem prs_wrt {l s : Nat} (hl : l ≤ 7) (hs : s < 256) : prs (wrt l s) = some (l, s) := prs_of hl hs (nums_wrt hl)
theorem eq_wrt {y : ByteArray} {l s : Nat} (h : prs y = some (l, s)) : y = wrt l s := by
  obtain ⟨hl, _, hn⟩ := prs_some h
  exact nums_inj (by rw [hn, nums_wrt hl])
theorem wrt_size (l s : Nat) : (wrt l s).size ≤ maxLen := by
  rw [wrt, strOfNums_size, txt_length]
  have := memN_length 8 s
  unfold maxLen
  omega

/-- What a call of Write, or of Parse, answers, from any later world. -/
abbrev WriteIs (w : World) (l s : Int) (t : ByteArray) (er : Value) : Prop := ∀ W, Below w.heap.size w W → Calls Tryd.prog 12 #[lab l s] W fun e w' => e = .returned (.tuple #[.string t, er]) ∧ Below W.heap.size W w'
abbrev ParseIs (y : ByteArray) (l s : Int) (er : Value) : Prop := ∀ W, Calls Tryd.prog 20 #[.string y] W fun e w' => e = .returned (.tuple #[lab l s, er]) ∧ Below W.heap.size W w'
abbrev FactIs (w : World) : Prop := ∀ W, Below w.heap.size w W → Calls Tryd.prog 21 #[] W fun e w' => e = .returned (.bool true) ∧ Below W.heap.size W w'
abbrev ErrIs (w : World) (er : Value) (c : Int) : Prop := ∀ W, Below w.heap.size w W → Calls Tryd.prog 9 #[er, .int .i64 c] W fun e w' => e = .returned (.bool true) ∧ Below W.heap.size W w'

set_option maxHeartbeats 1000000 in
theorem labBack_bb (la sa c : Int) (y : ByteArray) (w : World) (hF : FactIs w) (hW : WriteIs w la sa ⟨#[]⟩ (.iface 57 (.int .i64 c)))
    (hP : ParseIs y 0 0 (.iface 57 (.int .i64 2))) (hE : ErrIs w (.iface 57 (.int .i64 2)) 2) :
    Calls Tryd.prog 6 #[lab la sa, .string y] w fun e w' => e = .returned (.bool true) ∧ Below w.heap.size w w' := by
  have hB0 := putW_below w la sa
  go_enter Tryd.func6, Tryd.ntmps6
  go_wp2_with (first | (go_at_call 21; refine (hF _ hB0).mono ?_; clear hF; rintro e w1 ⟨rfl, S⟩; obtain ⟨hX, hB⟩ := put_of S; clear S; obtain ⟨c1, c2, _⟩ := id hX) | (go_at_call 12; refine (hW _ hB).mono ?_; clear hW; rintro e w2 ⟨rfl, S⟩; replace hB := hB.trans (S.mono hB.size); replace hX := hX.below S; clear S c1 c2; obtain ⟨c1, c2, _⟩ := id hX) | (go_at_call 20; refine (hP _).mono ?_; clear hP; rintro e w3 ⟨rfl, S⟩; replace hB := hB.trans (S.mono hB.size); clear S c1 c2 hX) | (go_at_call 9; refine (hE _ (hB.alloc hB.size _)).mono ?_; clear hE; rintro e w4 ⟨rfl, S⟩; obtain ⟨hY, S'⟩ := put_of S; replace hB := hB.trans (S'.mono hB.size); obtain ⟨c1, c2, _⟩ := hY))
  go_ret
  exact ⟨rfl, hB⟩
set_option maxHeartbeats 1000000 in
theorem labBack_bg (la sa c lc sc : Int) (y : ByteArray) (w : World) (hF : FactIs w) (hW : WriteIs w la sa ⟨#[]⟩ (.iface 57 (.int .i64 c)))
    (hP : ParseIs y lc sc .nilIface) (hW2 : WriteIs w lc sc y .nilIface) :
    Calls Tryd.prog 6 #[lab la sa, .string y] w fun e w' => e = .returned (.bool true) ∧ Below w.heap.size w w' := by
  have hB0 := putW_below w la sa
  go_enter Tryd.func6, Tryd.ntmps6
  go_wp2_with (first | (go_at_call 21; refine (hF _ hB0).mono ?_; clear hF; rintro e w1 ⟨rfl, S⟩; obtain ⟨hX, hB⟩ := put_of S; clear S; obtain ⟨c1, c2, _⟩ := id hX) | (go_at_call 12; refine (hW _ hB).mono ?_; clear hW; rintro e w2 ⟨rfl, S⟩; replace hB := hB.trans (S.mono hB.size); replace hX := hX.below S; clear S c1 c2; obtain ⟨c1, c2, _⟩ := id hX) | (go_at_call 20; refine (hP _).mono ?_; clear hP; rintro e w3 ⟨rfl, S⟩; replace hB := hB.trans (S.mono hB.size); clear S c1 c2 hX) | (go_at_call 12; refine (hW2 _ (hB.alloc hB.size _)).mono ?_; clear hW2; rintro e w4 ⟨rfl, S⟩; obtain ⟨hY, S'⟩ := put_of S; replace hB := hB.trans (S'.mono hB.size); obtain ⟨c1, c2, _⟩ := hY))
  go_ret
  exact ⟨by simp, hB⟩
set_option maxHeartbeats 1000000 in
theorem labBack_gb (la sa : Int) (t y : ByteArray) (w : World) (hF : FactIs w) (hW : WriteIs w la sa t .nilIface) (hP1 : ParseIs t la sa .nilIface)
    (hP : ParseIs y 0 0 (.iface 57 (.int .i64 2))) (hE : ErrIs w (.iface 57 (.int .i64 2)) 2) :
    Calls Tryd.prog 6 #[lab la sa, .string y] w fun e w' => e = .returned (.bool true) ∧ Below w.heap.size w w' := by
  have hB0 := putW_below w la sa
  go_enter Tryd.func6, Tryd.ntmps6
  go_wp2_with (first | (go_at_call 21; refine (hF _ hB0).mono ?_; clear hF; rintro e w1 ⟨rfl, S⟩; obtain ⟨hX, hB⟩ := put_of S; clear S; obtain ⟨c1, c2, _⟩ := id hX) | (go_at_call 12; refine (hW _ hB).mono ?_; clear hW; rintro e w2 ⟨rfl, S⟩; replace hB := hB.trans (S.mono hB.size); replace hX := hX.below S; clear S c1 c2; obtain ⟨c1, c2, _⟩ := id hX) | (go_at_call 20; refine (hP1 _).mono ?_; clear hP1; rintro e w3 ⟨rfl, S⟩; replace hB := hB.trans (S.mono hB.size); replace hX := hX.below S; clear S c1 c2; obtain ⟨c1, c2, _⟩ := id hX; obtain ⟨d1, d2, _⟩ := hX.below (putW_below w3 la sa)) | (go_at_call 20; refine (hP _).mono ?_; clear hP; rintro e w4 ⟨rfl, S⟩; obtain ⟨_, S'⟩ := put_of S; replace hB := hB.trans (S'.mono hB.size); clear S S' c1 c2 d1 d2 hX) | (go_at_call 9; refine (hE _ (hB.alloc hB.size _)).mono ?_; clear hE; rintro e w5 ⟨rfl, S⟩; obtain ⟨hY, S'⟩ := put_of S; replace hB := hB.trans (S'.mono hB.size); obtain ⟨c1, c2, _⟩ := hY))
  go_ret
  exact ⟨rfl, hB⟩
set_option maxHeartbeats 1000000 in
theorem labBack_gg (la sa lc sc : Int) (t y : ByteArray) (w : World) (hF : FactIs w) (hW : WriteIs w la sa t .nilIface) (hP1 : ParseIs t la sa .nilIface)
    (hP : ParseIs y lc sc .nilIface) (hW2 : WriteIs w lc sc y .nilIface) :
    Calls Tryd.prog 6 #[lab la sa, .string y] w fun e w' => e = .returned (.bool true) ∧ Below w.heap.size w w' := by
  have hB0 := putW_below w la sa
  go_enter Tryd.func6, Tryd.ntmps6
  go_wp2_with (first | (go_at_call 21; refine (hF _ hB0).mono ?_; clear hF; rintro e w1 ⟨rfl, S⟩; obtain ⟨hX, hB⟩ := put_of S; clear S; obtain ⟨c1, c2, _⟩ := id hX) | (go_at_call 12; refine (hW _ hB).mono ?_; clear hW; rintro e w2 ⟨rfl, S⟩; replace hB := hB.trans (S.mono hB.size); replace hX := hX.below S; clear S c1 c2; obtain ⟨c1, c2, _⟩ := id hX) | (go_at_call 20; refine (hP1 _).mono ?_; clear hP1; rintro e w3 ⟨rfl, S⟩; replace hB := hB.trans (S.mono hB.size); replace hX := hX.below S; clear S c1 c2; obtain ⟨c1, c2, _⟩ := id hX; obtain ⟨d1, d2, _⟩ := hX.below (putW_below w3 la sa)) | (go_at_call 20; refine (hP _).mono ?_; clear hP; rintro e w4 ⟨rfl, S⟩; obtain ⟨_, S'⟩ := put_of S; replace hB := hB.trans (S'.mono hB.size); clear S S' c1 c2 d1 d2 hX) | (go_at_call 12; refine (hW2 _ (hB.alloc hB.size _)).mono ?_; clear hW2; rintro e w5 ⟨rfl, S⟩; obtain ⟨hY, S'⟩ := put_of S; replace hB := hB.trans (S'.mono hB.size); obtain ⟨c1, c2, _⟩ := hY))
  go_ret
  exact ⟨by simp, hB⟩

theorem factIs_of {w : World} (hT : Tab w) : FactIs w := fun W hB => labFact_any W (hT.below hB hT.size)
theorem writeIs_ok {w : World} (hT : Tab w) {l s : Nat} (hl : l ≤ 7) (hs : s < 256) : WriteIs w l s (wrt l s) .nilIface := fun W hB => write_ok l s hl hs W (hT.below hB hT.size)
theorem writeIs_no (w : World) {l s : Int} (h : NoLab l s) : WriteIs w l s ⟨#[]⟩ (.iface 57 (.int .i64 1)) := fun W _ => write_no l s h W
theorem errIs_of {w : World} (hT : Tab w) (hE : ErrT w) (c : Int) : ErrIs w (.iface 57 (.int .i64 c)) c := fun W hB =>
  (error_err c c W (hE.below hB (by have := hT.size; omega))).mono fun e w' ⟨he, hb⟩ => ⟨by rw [he]; simp, hb⟩
theorem labBack_any (la sa : Int) (y : ByteArray) (hy : y.size ≤ maxLen) (w : World) (hT : Tab w) (hE : ErrT w) :
    Calls Tryd.prog 6 #[lab la sa, .string y] w fun e w' => e = .returned (.bool true) ∧ Below w.heap.size w w' := by
  have hF := factIs_of hT
  cases hp : prs y with
  | none =>
    have hP : ParseIs y 0 0 (.iface 57 (.int .i64 2)) := fun W => parse_no y hy hp W
    rcases lab_or la sa with ha | ha
    · obtain ⟨l1, s1, rfl, rfl, a1, b1⟩ := ha.nat
      exact labBack_gb _ _ _ y w hF (writeIs_ok hT a1 b1) (fun W => parse_yes _ (wrt_size _ _) (prs_wrt a1 b1) W) hP (errIs_of hT hE 2)
    · exact labBack_bb _ _ 1 y w hF (writeIs_no w ha) hP (errIs_of hT hE 2)
  | some p =>
    obtain ⟨lc, sc⟩ := p
    obtain ⟨a2, b2, _⟩ := prs_some hp
    have hP : ParseIs y lc sc .nilIface := fun W => parse_yes y hy hp W
    have hW2 := writeIs_ok hT a2 b2
    rw [← eq_wrt hp] at hW2
    rcases lab_or la sa with ha | ha
    · obtain ⟨l1, s1, rfl, rfl, a1, b1⟩ := ha.nat
      exact labBack_gg _ _ _ _ _ y w hF (writeIs_ok hT a1 b1) (fun W => parse_yes _ (wrt_size _ _) (prs_wrt a1 b1) W) hP hW2
    · exact labBack_bg _ _ 1 _ _ y w hF (writeIs_no w ha) hP hW2
end Go.Proofs.YtkdaaaloibdngaaDoor
