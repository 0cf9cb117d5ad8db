/- The walk of the law RelReduces. -/
import Derived.WalkKit
import Derived.LoopTactic
import Derived.Deep.RegionWith
import Derived.OpenShut
import Derived.OwnWalk
import Derived.Test.YtfdappdcihljdaaDoorRowk
import Derived.Test.YtfdappdcihljdaaDoorReduce
import Derived.Test.YtfdappdcihljdaaDoorClosesAny
namespace Go.Proofs.YtfdappdcihljdaaDoor
open Go.RowKit

theorem reduces_err (a : Option Addr) (m cap : Nat) (xi xj c : Int) (w : World)
    (hfact : Calls Tryd.prog 20 #[] w fun e w' => e = .returned (.bool true) ∧ Below w.heap.size w w')
    (hred : ∀ w1, Below w.heap.size w w1 → Calls Tryd.prog 18 #[.slice a m cap] w1 fun e w' => e = .returned (.tuple #[.slice none 0 0, .iface 45 (.int .i64 c)]) ∧ Below w1.heap.size w1 w') :
    Calls Tryd.prog 5 #[.slice a m cap, .int .i64 xi, .int .i64 xj] w fun e w' => e = .returned (.bool true) ∧ Below w.heap.size w w' := by
  go_enter Tryd.func5, Tryd.ntmps5
  go_wp2_with (first | (go_at_call 20; refine hfact.mono ?_; rintro e w1 ⟨rfl, hB⟩; have hred1 := hred w1 hB; clear hred) | (go_at_call 18; refine hred1.mono ?_; rintro e w2 ⟨rfl, hB2⟩))
  go_ret
  exact ⟨rfl, hB.trans (hB2.mono hB.size)⟩

theorem ints_own (m B1 B2 c1 c2 : Nat) (f g : Nat → Nat) (b : Bool) (hm : m ≤ 12) (hb : sameB m (listOf m f) (listOf m g) = b) (w : World) (h1 : Own w B1 m f) (h2 : Own w B2 m g) :
    Calls Tryd.prog 16 #[.slice (some ⟨B1, 0, none⟩) m c1, .slice (some ⟨B2, 0, none⟩) m c2] w fun e w' => e = .returned (.bool b) ∧ ∃ n, w' = w.drewN n := by
  rw [← hb]
  exact ints_some B1 0 c1 B2 0 c2 m (by omega) (listOf m f) (listOf m g) w (h1.lies fun _ hj => listOf_get _ hj) (h2.lies fun _ hj => listOf_get _ hj)
/-- What the walk is told of an order and its steps. -/
structure Tells (w : World) (a : Option Addr) (m cap : Nat) (C D : Nat → Nat) : Prop where
  few : m ≤ 12
  lt : ∀ i, i < m → D i < 2 ^ m
  reduce : ∀ w1, Below w.heap.size w w1 → Calls Tryd.prog 18 #[.slice a m cap] w1 fun e w' => ∃ B, e = .returned (.tuple #[.slice (some ⟨B, 0, none⟩) m m, .nilIface]) ∧ w1.heap.size ≤ B ∧ Own w' B m D ∧ Below w1.heap.size w1 w'
  close : ∀ w1, Below w.heap.size w w1 → Calls Tryd.prog 15 #[.slice a m cap] w1 fun e w' => e = .returned (.tuple #[.slice (some ⟨w1.heap.size, 0, none⟩) m m, .nilIface]) ∧ Own w' w1.heap.size m C ∧ Below w1.heap.size w1 w'
  again : ∀ w1 B, Below w.heap.size w w1 → Own w1 B m D → Calls Tryd.prog 15 #[.slice (some ⟨B, 0, none⟩) m m] w1 fun e w' => e = .returned (.tuple #[.slice (some ⟨w1.heap.size, 0, none⟩) m m, .nilIface]) ∧ Own w' w1.heap.size m C ∧ Below w1.heap.size w1 w'
  spared : ∀ w1 B cp i j, Below w.heap.size w w1 → i < m → (D i).testBit j = true → Own w1 B m (upd D i (less (D i) (2 ^ j))) →
    ∃ Y, sameB m (listOf m Y) (listOf m C) = false ∧ Calls Tryd.prog 15 #[.slice (some ⟨B, 0, none⟩) m cp] w1 fun e w' => e = .returned (.tuple #[.slice (some ⟨w1.heap.size, 0, none⟩) m m, .nilIface]) ∧ Own w' w1.heap.size m Y ∧ Below w1.heap.size w1 w'

/-- Where the law asks for no step. -/
def Off (m : Nat) (D : Nat → Nat) (xi xj : Int) : Prop := xi < 0 ∨ (0 ≤ xi ∧ (m : Int) ≤ xi) ∨ (0 ≤ xi ∧ xi < m ∧ xj < 0) ∨ (0 ≤ xi ∧ xi < m ∧ 0 ≤ xj ∧ (m : Int) ≤ xj) ∨ ∃ i j : Nat, xi = i ∧ xj = j ∧ i < m ∧ j < m ∧ (D i).testBit j = false

set_option maxRecDepth 100000 in
set_option maxHeartbeats 1000000 in
theorem reduces_off (a : Option Addr) (m cap : Nat) (xi xj : Int) (w : World) (C D : Nat → Nat) (hK : Tells w a m cap C D) (hoff : Off m D xi xj)
    (hfact : Calls Tryd.prog 20 #[] w fun e w' => e = .returned (.bool true) ∧ Below w.heap.size w w') :
    Calls Tryd.prog 5 #[.slice a m cap, .int .i64 xi, .int .i64 xj] w fun e w' => e = .returned (.bool true) ∧ Below w.heap.size w w' := by
  have hm := hK.few
  have hsame : sameB m (listOf m C) (listOf m C) = true := (sameB_iff _ _ _).2 fun _ _ => rfl
  have HS : Hid (sameB m (listOf m C) (listOf m C) = true) := hsame
  clear hsame
  rcases hoff with h | ⟨h, h'⟩ | ⟨h, h', h2⟩ | ⟨h, h', h2, h2'⟩ | ⟨i, j, rfl, rfl, hi, hj, hb⟩
  case' inr.inr.inr.inr => have hl := Nat.lt_of_lt_of_le (hK.lt i hi) (pow12 hm)
  all_goals
    go_enter Tryd.func5, Tryd.ntmps5
    go_wp2_with (first | (go_at_call 20; refine hfact.mono ?_; rintro e w1 ⟨rfl, hB1⟩; have hred1 := hK.reduce w1 hB1) | (go_at_call 18; refine hred1.mono ?_; rintro e w2 ⟨B, rfl, hBB, hoD, hB2⟩; have hBb := hB1.trans (hB2.mono hB1.size); have hcl1 := hK.close w2 hBb) | (go_at_call 15; refine hcl1.mono ?_; clear hcl1; rintro e w3 ⟨rfl, hoC, hB3⟩; have hBc := hBb.trans (hB3.mono hBb.size); have hoD3 := hoD.below hB3; have hcd1 := hK.again w3 B hBc hoD3) | (go_at_call 15; refine hcd1.mono ?_; clear hcd1; rintro e w4 ⟨rfl, hoX, hB4⟩; have hBd := hBc.trans (hB4.mono hBc.size); have hin := ints_own m _ _ m m C C true hm HS.out w4 (hoC.below hB4) hoX; have hoD4 := hoD3.below hB4) | (go_at_call 16; refine hin.mono ?_; clear hin; rintro e w5 ⟨rfl, n, rfl⟩; first | have hcell := hoD4.cell i hi | skip) | (go_at_call 21; refine (bit_any _ _ (by omega) (by omega) _).mono ?_; rintro e w' ⟨rfl, rfl⟩))
    go_ret
    exact ⟨rfl, below_drawn hBd n⟩

set_option maxRecDepth 100000 in
set_option maxHeartbeats 1000000 in
theorem reduces_on (a : Option Addr) (m cap i j p L : Nat) (w : World) (C D : Nat → Nat) (hK : Tells w a m cap C D) (hi : i < m) (hj : j < m) (hb : (D i).testBit j = true) (hL : Hid (less (D i) (2 ^ j) = L)) (heq : (D i : Int) - (p : Int) = (L : Int))
    (hpow : ∀ w, Calls Tryd.prog 23 #[.int .i64 j] w fun e w' => e = .returned (.int .i64 (p : Nat)) ∧ w' = w)
    (hfact : Calls Tryd.prog 20 #[] w fun e w' => e = .returned (.bool true) ∧ Below w.heap.size w w') :
    Calls Tryd.prog 5 #[.slice a m cap, .int .i64 i, .int .i64 j] w fun e w' => e = .returned (.bool true) ∧ Below w.heap.size w w' := by
  have hm := hK.few
  have HS : Hid (sameB m (listOf m C) (listOf m C) = true) := (sameB_iff _ _ _).2 fun _ _ => rfl
  have HB : Hid ((D i).testBit j = true) := hb
  have hl := Nat.lt_of_lt_of_le (hK.lt i hi) (pow12 hm)
  obtain ⟨i0, hi0, hz0, hz1, hz2⟩ := info_parts info3
  have hc4 : 0 + m ≤ maxLen := by unfold maxLen; omega
  have h0m : 0 < m := by omega
  have hc5 : (0 + m) * 8 ≤ 140737488355328 := by omega
  go_enter Tryd.func5, Tryd.ntmps5
  go_wp2_with (first | (go_at_call 20; refine hfact.mono ?_; rintro e w1 ⟨rfl, hB1⟩; have hred1 := hK.reduce w1 hB1) | (go_at_call 18; refine hred1.mono ?_; rintro e w2 ⟨B, rfl, hBB, hoD, hB2⟩; have hBb := hB1.trans (hB2.mono hB1.size); have hcl1 := hK.close w2 hBb) | (go_at_call 15; refine hcl1.mono ?_; clear hcl1; rintro e w3 ⟨rfl, hoC, hB3⟩; have hBc := hBb.trans (hB3.mono hBb.size); have hoD3 := hoD.below hB3; have hcd1 := hK.again w3 B hBc hoD3) | (go_at_call 15; refine hcd1.mono ?_; clear hcd1; rintro e w4 ⟨rfl, hoX, hB4⟩; have hBd := hBc.trans (hB4.mono hBc.size); have hin := ints_own m _ _ m m C C true hm HS.out w4 (hoC.below hB4) hoX; have hoD4 := hoD3.below hB4) | (go_at_call 16; refine hin.mono ?_; clear hin; rintro e w5 ⟨rfl, n, rfl⟩; have hcell := hoD4.cell i hi) | (go_at_call 21; refine (bit_any _ _ (by omega) (by omega) _).mono ?_; rintro e w' ⟨rfl, rfl⟩) | (at_builtin; refine wpList_append_own _ rfl _ _ 22 rfl w4.heap.size 3 i0 (.int .i64 0) 1 8 Tryd.underlying22 hi0 hz0 hz1 hz2 rfl (by decide) _ _ _ rfl (World.ownsRow_nil _ _ _ _) ⟨B, 0, none⟩ m m (row m D) rfl (row_len m D) (row_cells hoD4 n) (row_one m D) hc4 hc5 (Nat.le_refl _) ?_; intro v' w6 hown hgrow hnil; clear hnil; rw [Nat.zero_add, List.nil_append] at hown; obtain ⟨g, cp, rfl, hg, hoG⟩ := own_of_row h0m hown; have hBe := (below_drawn hBd n).grown hgrow hBd.size (fun k e => by cases e); have hoC6 := ((hoC.below hB4).drawn n).grown hgrow; have hcg := hoG.cell i hi; have hfg := hoG.free i hi))
  have hii : (i : Int) < (m : Int) := by omega
  have hlw : IntKind.i64.wrap (L : Int) = (L : Int) := wraps62 _ (by omega) (by omega)
  go_region_with (go_at_call 23; refine (hpow _).mono ?_; rintro e w' ⟨rfl, rfl⟩)
  all_goals
    obtain ⟨w7, hw7⟩ : ∃ w7, (w6.setCell ⟨g, i, none⟩ (.int .i64 (L : Int))).drew = w7 := ⟨_, rfl⟩
    have n1 : w2.heap.size < w3.heap.size := hoC.lt
    have n2 := hB4.size
    have n3 := hBd.size
    have hB7 : Below w.heap.size w w7 := by rw [← hw7]; exact (hBe.setCell (p := ⟨g, i, none⟩) (by dsimp only; omega) _).drew
    have ho7 : Own w7 g m (upd D i (less (D i) (2 ^ j))) := by
      rw [← hw7]
      have := hoG.put hi (show upd D i (less (D i) (2 ^ j)) i = L by rw [upd_same]; exact hL.out) (fun x _ hne => upd_other _ hne)
      exact ⟨this.lt, this.cell, this.free⟩
    have hoC7 : Own w7 w2.heap.size m C := by
      rw [← hw7]
      have := hoC6.other (k := i) (v := .int .i64 (L : Int)) (show w2.heap.size ≠ g by omega)
      exact ⟨this.lt, this.cell, this.free⟩
    obtain ⟨Y, hY, hcy⟩ := hK.spared w7 g cp i j hB7 hi hb ho7
    have HY : Hid (sameB m (listOf m Y) (listOf m C) = false) := hY
    rw [hw7]
    clear hw7 hY hpow hb hcg hfg hcell
    go_wp2_with (first | (go_at_call 15; refine hcy.mono ?_; rintro e w8 ⟨rfl, hoY, hB8⟩; have hin2 := ints_own m _ _ m m Y C false hm HY.out w8 hoY (hoC7.below hB8)) | (go_at_call 16; refine hin2.mono ?_; rintro e w9 ⟨rfl, n9, rfl⟩))
    go_ret
    exact ⟨rfl, below_drawn (hB7.trans (hB8.mono hB7.size)) n9⟩

theorem tells_of (a : Option Addr) (m cap : Nat) (z : List Int) (hz : m ≤ z.length) (w : World) (h1 : AtNums w a m z) (hT : Tab w) (hf : Fine m z) (hn : noRing m (come m (rowsOf m z)) = true) :
    Tells w a m cap (come m (rowsOf m z)) (steps m (come m (rowsOf m z))) := by
  have hr := rowsOf_right hf.1 hz hf.2
  have hO := ord_of hr hn
  have hTb : ∀ w1, Below w.heap.size w w1 → Tab w1 := fun w1 hB => hT.below hB hT.size
  refine ⟨hf.1, hO.slt hf.1, fun w1 hB => ?_, fun w1 hB => Closure_fine a m cap z hz w1 (h1.below hB) (hTb w1 hB) hf, fun w1 B hB ho => ?_, fun w1 B cp i j hB hi hs ho => ?_⟩
  · exact Reduce_good a m cap _ hf.1 hO w1 (hTb w1 hB) (OrderClosure_yes a m cap z hz w1 (h1.below hB) (hTb w1 hB) hf hn)
  · exact (Closure_own m B m _ hf.1 (hO.slt hf.1) w1 ho (hTb w1 hB)).mono fun e w' ⟨he, ho', hB'⟩ => ⟨he, ho'.like fun j hj => hO.same hf.1 j hj, hB'⟩
  · have hl : ∀ x, x < m → upd (steps m (come m (rowsOf m z))) i (less (steps m (come m (rowsOf m z)) i) (2 ^ j)) x < 2 ^ m := fun x hx => by
      by_cases e : x = i
      · subst e
        rw [upd_same]
        exact lt_of_bits fun y hy => by
          rw [less_bit, Bool.and_eq_true] at hy
          exact bit_lt (hO.slt hf.1 x hx) hy.1
      · rw [upd_other _ e]; exact hO.slt hf.1 x hx
    refine ⟨_, ?_, Closure_own m B cp _ hf.1 hl w1 ho (hTb w1 hB)⟩
    cases hsb : sameB m (listOf m (come m (listOf m (upd (steps m (come m (rowsOf m z))) i (less (steps m (come m (rowsOf m z)) i) (2 ^ j)))))) (listOf m (come m (rowsOf m z))) with
    | false => rfl
    | true =>
      have h1 := (sameB_iff _ _ _).1 hsb i hi
      rw [listOf_get _ hi, listOf_get _ hi] at h1
      have h2 := hO.spared hf.1 i j hi hs
      rw [h1, hO.steps_sub hf.1 i hi j hs] at h2
      cases h2

theorem reduces_any (a : Option Addr) (m cap : Nat) (z : List Int) (xi xj : Int) (hz : m ≤ z.length) (w : World) (h1 : AtNums w a m z) (hT : Tab w) :
    Calls Tryd.prog 5 #[.slice a m cap, .int .i64 xi, .int .i64 xj] w fun e w' => e = .returned (.bool true) ∧ Below w.heap.size w w' := by
  have hfact := fact_any w hT
  have hTb : ∀ w1, Below w.heap.size w w1 → Tab w1 := fun w1 hB => hT.below hB hT.size
  by_cases hf : Fine m z
  · have hr := rowsOf_right hf.1 hz hf.2
    cases hn : noRing m (come m (rowsOf m z)) with
    | false =>
      exact reduces_err a m cap xi xj 6 w hfact fun w1 hB => Reduce_ring a m cap w1 (OrderClosure_no a m cap z hz w1 (h1.below hB) (hTb w1 hB) hf hn)
    | true =>
      have hK := tells_of a m cap z hz w h1 hT hf hn
      by_cases hoff : Off m (steps m (come m (rowsOf m z))) xi xj
      · exact reduces_off a m cap xi xj w _ _ hK hoff hfact
      · simp only [Off, not_or] at hoff
        obtain ⟨o1, o2, o3, o4, o5⟩ := hoff
        obtain ⟨i, rfl⟩ := Int.eq_ofNat_of_zero_le (show 0 ≤ xi by omega)
        obtain ⟨j, rfl⟩ := Int.eq_ofNat_of_zero_le (show 0 ≤ xj by omega)
        have hi : i < m := by omega
        have hj : j < m := by omega
        cases hb : (steps m (come m (rowsOf m z)) i).testBit j with
        | false => exact absurd ⟨i, j, rfl, rfl, hi, hj, hb⟩ o5
        | true =>
          have hsp := sub_pow _ _ hb
          refine reduces_on a m cap i j (2 ^ j) (less (steps m (come m (rowsOf m z)) i) (2 ^ j)) w _ _ hK hi hj hb rfl ?_ (fun w => pow2_any j (by have := hf.1; omega) w) hfact
          rw [← Int.ofNat_sub (by omega)]
          congr 1
          omega
  · exact reduces_err a m cap xi xj (wrongN m) w hfact fun w1 hB => (Reduce_bad a m cap (wrongN m) w1 (OrderClosure_wrong a m cap z w1 (h1.below hB) hf)).mono fun e w' ⟨he, hw⟩ => ⟨he, hw ▸ Below.refl _ _⟩
end Go.Proofs.YtfdappdcihljdaaDoor
