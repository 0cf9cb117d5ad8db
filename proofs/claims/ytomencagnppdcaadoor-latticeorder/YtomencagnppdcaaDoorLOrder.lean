/- The walk of the law LatticeOrder. -/
import Derived.WalkKit
import Derived.LoopTactic
import Derived.Test.YtomencagnppdcaaDoorLRules
namespace Go.Proofs.YtomencagnppdcaaDoor
open Go.RowKit

set_option maxRecDepth 100000 in
set_option maxHeartbeats 1000000 in
theorem lorder_skip (a : Option Addr) (m cap : Nat) (x y c : Int) (w : World)
    (hF : Calls Tryd.prog 15 #[] w fun e w' => e = .returned (.bool true) ∧ Below w.heap.size w w')
    (hC : ∀ w1, Below w.heap.size w w1 → Calls Tryd.prog 16 #[.slice a m cap] w1 fun e w' => e = .returned (.tuple #[.slice none 0 0, .iface 51 (.int .i64 c)]) ∧ Below w1.heap.size w1 w')
    (hO : ∀ w1, Below w.heap.size w w1 → Calls Tryd.prog 18 #[.slice a m cap] w1 fun e w' => e = .returned (.tuple #[.bool false, .iface 51 (.int .i64 c)]) ∧ Below w1.heap.size w1 w') :
    Calls Tryd.prog 6 #[.slice a m cap, .int .i64 x, .int .i64 y] w fun e w' => e = .returned (.bool true) ∧ Below w.heap.size w w' := by
  go_enter Tryd.func6, Tryd.ntmps6
  go_wp2_with (first | (go_at_call 15; refine hF.mono ?_; rintro e w1 ⟨rfl, hB⟩) | (go_at_call 16; refine (hC _ hB).mono ?_; rintro e w1 ⟨rfl, S⟩; replace hB := hB.trans (S.mono hB.size); clear S) | (go_at_call 18; refine (hO _ hB).mono ?_; rintro e w1 ⟨rfl, S⟩; replace hB := hB.trans (S.mono hB.size); clear S))
  go_ret
  exact ⟨rfl, hB⟩
set_option maxRecDepth 100000 in
set_option maxHeartbeats 1000000 in
theorem lorder_not (a : Option Addr) (m cap : Nat) (x y : Int) (C : Nat → Nat) (w : World)
    (hF : Calls Tryd.prog 15 #[] w fun e w' => e = .returned (.bool true) ∧ Below w.heap.size w w')
    (hC : ∀ w1, Below w.heap.size w w1 → Calls Tryd.prog 16 #[.slice a m cap] w1 fun e w' => ∃ g, e = .returned (.tuple #[.slice (some ⟨g, 0, none⟩) m m, .nilIface]) ∧ Own w' g m C ∧ Below w1.heap.size w1 w')
    (hO : ∀ w1, Below w.heap.size w w1 → Calls Tryd.prog 18 #[.slice a m cap] w1 fun e w' => e = .returned (.tuple #[.bool false, .nilIface]) ∧ Below w1.heap.size w1 w') :
    Calls Tryd.prog 6 #[.slice a m cap, .int .i64 x, .int .i64 y] w fun e w' => e = .returned (.bool true) ∧ Below w.heap.size w w' := by
  go_enter Tryd.func6, Tryd.ntmps6
  go_wp2_with (first | (go_at_call 15; refine hF.mono ?_; rintro e w1 ⟨rfl, hB⟩) | (go_at_call 16; refine (hC _ hB).mono ?_; rintro e w1 ⟨g, rfl, ho, S⟩; replace hB := hB.trans (S.mono hB.size); clear S) | (go_at_call 18; refine (hO _ hB).mono ?_; rintro e w1 ⟨rfl, S⟩; (try replace ho := ho.below S); replace hB := hB.trans (S.mono hB.size); clear S))
  go_ret
  exact ⟨rfl, hB⟩
/-- One of two numbers is no thing, as the law asks it. -/
def Out5 (m : Nat) (x y : Int) : Prop := x < 0 ∨ (0 ≤ x ∧ (m : Int) ≤ x) ∨ (0 ≤ x ∧ x < m ∧ y < 0) ∨ (0 ≤ x ∧ x < m ∧ 0 ≤ y ∧ (m : Int) ≤ y)
theorem out4_or (m : Nat) (x y : Int) : Out5 m x y ∨ ∃ i j : Nat, x = i ∧ y = j ∧ i < m ∧ j < m := by
  by_cases h : 0 ≤ x ∧ x < m ∧ 0 ≤ y ∧ y < m
  · obtain ⟨i, rfl⟩ := Int.eq_ofNat_of_zero_le h.1
    obtain ⟨j, rfl⟩ := Int.eq_ofNat_of_zero_le h.2.2.1
    exact .inr ⟨i, j, rfl, rfl, by omega, by omega⟩
  · refine .inl ?_
    unfold Out5
    omega
set_option maxRecDepth 100000 in
set_option maxHeartbeats 1000000 in
theorem lorder_out (a : Option Addr) (m cap : Nat) (x y : Int) (hout : Out5 m x y) (C : Nat → Nat) (w : World)
    (hF : Calls Tryd.prog 15 #[] w fun e w' => e = .returned (.bool true) ∧ Below w.heap.size w w')
    (hC : ∀ w1, Below w.heap.size w w1 → Calls Tryd.prog 16 #[.slice a m cap] w1 fun e w' => ∃ g, e = .returned (.tuple #[.slice (some ⟨g, 0, none⟩) m m, .nilIface]) ∧ Own w' g m C ∧ Below w1.heap.size w1 w')
    (hO : ∀ w1, Below w.heap.size w w1 → Calls Tryd.prog 18 #[.slice a m cap] w1 fun e w' => e = .returned (.tuple #[.bool true, .nilIface]) ∧ Below w1.heap.size w1 w') :
    Calls Tryd.prog 6 #[.slice a m cap, .int .i64 x, .int .i64 y] w fun e w' => e = .returned (.bool true) ∧ Below w.heap.size w w' := by
  rcases hout with h1 | ⟨h1, h2⟩ | ⟨h1, h2, h3⟩ | ⟨h1, h2, h3, h4⟩
  all_goals as_aux_lemma =>
    go_enter Tryd.func6, Tryd.ntmps6
    go_wp2_with (first | (go_at_call 15; refine hF.mono ?_; rintro e w1 ⟨rfl, hB⟩) | (go_at_call 16; refine (hC _ hB).mono ?_; rintro e w1 ⟨g, rfl, ho, S⟩; replace hB := hB.trans (S.mono hB.size); clear S) | (go_at_call 18; refine (hO _ hB).mono ?_; rintro e w1 ⟨rfl, S⟩; (try replace ho := ho.below S); replace hB := hB.trans (S.mono hB.size); clear S))
    go_ret
    exact ⟨rfl, hB⟩

/-- What Join and Meet answer where one is above the other one or not. -/
def Above2 (i j : Nat) (p : Bool) (o1 o2 : Option Nat) : Prop :=
  (p = true ∧ o1 = some j ∧ o2 = some i) ∨ (p = false ∧ (o1 = none ∨ ∃ x : Nat, o1 = some x ∧ ((x : Int) == (j : Int)) = false) ∧ (o2 = none ∨ ∃ y : Nat, o2 = some y ∧ ((y : Int) == (i : Int)) = false))
set_option maxRecDepth 100000 in
set_option maxHeartbeats 2000000 in
theorem lorder_on (a : Option Addr) (m cap i j : Nat) (C : Nat → Nat) (hm : m ≤ 12) (hC' : ∀ i, i < m → C i < 2 ^ m) (hi : i < m) (hj : j < m) (o1 o2 : Option Nat) (p : Bool) (hp : (C i).testBit j = p) (h : Above2 i j p o1 o2) (w : World)
    (hF : Calls Tryd.prog 15 #[] w fun e w' => e = .returned (.bool true) ∧ Below w.heap.size w w')
    (hC : ∀ w1, Below w.heap.size w w1 → Calls Tryd.prog 16 #[.slice a m cap] w1 fun e w' => ∃ g, e = .returned (.tuple #[.slice (some ⟨g, 0, none⟩) m m, .nilIface]) ∧ Own w' g m C ∧ Below w1.heap.size w1 w')
    (hO : ∀ w1, Below w.heap.size w w1 → Calls Tryd.prog 18 #[.slice a m cap] w1 fun e w' => e = .returned (.tuple #[.bool true, .nilIface]) ∧ Below w1.heap.size w1 w')
    (hJ : ∀ w1, Below w.heap.size w w1 → Calls Tryd.prog 13 #[.slice a m cap, .int .i64 i, .int .i64 j] w1 fun e w' => e = .returned (.tuple (bndRes o1)) ∧ Below w1.heap.size w1 w')
    (hM : ∀ w1, Below w.heap.size w w1 → Calls Tryd.prog 14 #[.slice a m cap, .int .i64 i, .int .i64 j] w1 fun e w' => e = .returned (.tuple (bndRes o2)) ∧ Below w1.heap.size w1 w') :
    Calls Tryd.prog 6 #[.slice a m cap, .int .i64 i, .int .i64 j] w fun e w' => e = .returned (.bool true) ∧ Below w.heap.size w w' := by
  have hii : (i : Int) < (m : Int) := by omega
  have hji : (j : Int) < (m : Int) := by omega
  have h12 := pow12 hm
  have t1 := fun W => bit_any (C i) j (Nat.lt_of_lt_of_le (hC' i hi) h12) (by omega) W
  rw [hp] at t1
  have HI : Hid (i < m) := hi
  have HQ : Hid (∀ W g, Own W g m C → W.cell? ⟨g, i, none⟩ = some (.int .i64 (C i : Nat))) := fun W g ho => ho.cell i hi
  obtain ⟨ci, hci⟩ : ∃ x, C i = x := ⟨_, rfl⟩
  rw [hci] at t1 HQ
  clear hp hci hC'
  rcases h with ⟨rfl, rfl, rfl⟩ | ⟨rfl, h1, h2⟩
  · as_aux_lemma =>
      simp only [bndRes] at hJ hM
      go_enter Tryd.func6, Tryd.ntmps6
      go_wp2_with (first | (go_at_call 15; refine hF.mono ?_; rintro e w1 ⟨rfl, hB⟩) | (go_at_call 16; refine (hC _ hB).mono ?_; rintro e w1 ⟨g, rfl, ho, S⟩; replace hB := hB.trans (S.mono hB.size); clear S) | (go_at_call 18; refine (hO _ hB).mono ?_; rintro e w1 ⟨rfl, S⟩; (try replace ho := ho.below S); replace hB := hB.trans (S.mono hB.size); clear S) | (go_at_call 13; refine (hJ _ hB).mono ?_; rintro e w1 ⟨rfl, S⟩; (try replace ho := ho.below S); replace hB := hB.trans (S.mono hB.size); clear S) | (go_at_call 14; refine (hM _ hB).mono ?_; rintro e w1 ⟨rfl, S⟩; (try replace ho := ho.below S); replace hB := hB.trans (S.mono hB.size); clear S; have hcell := HQ.out _ _ ho) | (go_at_call 17; refine (t1 _).mono ?_; rintro e w' ⟨rfl, rfl⟩))
      go_ret
      exact ⟨rfl, hB⟩
  · rcases h1 with rfl | ⟨x, rfl, hx⟩ <;> rcases h2 with rfl | ⟨y, rfl, hy⟩
    all_goals as_aux_lemma =>
      simp only [bndRes] at hJ hM
      go_enter Tryd.func6, Tryd.ntmps6
      go_wp2_with (first | (go_at_call 15; refine hF.mono ?_; rintro e w1 ⟨rfl, hB⟩) | (go_at_call 16; refine (hC _ hB).mono ?_; rintro e w1 ⟨g, rfl, ho, S⟩; replace hB := hB.trans (S.mono hB.size); clear S) | (go_at_call 18; refine (hO _ hB).mono ?_; rintro e w1 ⟨rfl, S⟩; (try replace ho := ho.below S); replace hB := hB.trans (S.mono hB.size); clear S) | (go_at_call 13; refine (hJ _ hB).mono ?_; rintro e w1 ⟨rfl, S⟩; (try replace ho := ho.below S); replace hB := hB.trans (S.mono hB.size); clear S) | (go_at_call 14; refine (hM _ hB).mono ?_; rintro e w1 ⟨rfl, S⟩; (try replace ho := ho.below S); replace hB := hB.trans (S.mono hB.size); clear S; have hcell := HQ.out _ _ ho) | (go_at_call 17; refine (t1 _).mono ?_; rintro e w' ⟨rfl, rfl⟩))
      go_ret
      exact ⟨rfl, hB⟩

theorem above2_of {m : Nat} {C : Nat → Nat} (hL : Lat m C) {i j : Nat} (hi : i < m) (hj : j < m) : Above2 i j ((C i).testBit j) (bnd m C i j) (bnd m (turnN m C) i j) := by
  cases hp : (C i).testBit j with
  | true => exact .inl ⟨rfl, bnd_of hL (IsBnd.beyond hL hj hp), bnd_of (lat_turn hL) (IsBnd.beyond (lat_turn hL) hi ((turnN_bit m C j i).2 ⟨hi, hp⟩)).swap⟩
  | false =>
    refine .inr ⟨rfl, ?_, ?_⟩
    · cases e : bnd m C i j with
      | none => exact .inl rfl
      | some x =>
        refine .inr ⟨x, rfl, ?_⟩
        have hb := (bnd_some e).one
        have : x ≠ j := fun h => by rw [h, hp] at hb; cases hb
        simp; omega
    · cases e : bnd m (turnN m C) i j with
      | none => exact .inl rfl
      | some y =>
        refine .inr ⟨y, rfl, ?_⟩
        have hb := ((turnN_bit m C j y).1 (bnd_some e).two).2
        have : y ≠ i := fun h => by rw [h, hp] at hb; cases hb
        simp; omega

theorem lorder_any (a : Option Addr) (m cap : Nat) (z : List Int) (x y : Int) (hz : m ≤ z.length) (w : World) (h1 : AtNums w a m z) (hT : Tab w) :
    Calls Tryd.prog 6 #[.slice a m cap, .int .i64 x, .int .i64 y] w fun e w' => e = .returned (.bool true) ∧ Below w.heap.size w w' := by
  have hF := lfact_any w hT
  have hTb : ∀ w1, Below w.heap.size w w1 → Tab w1 := fun w1 hB => hT.below hB hT.size
  by_cases hf : Fine m z
  · have hC := fun w1 (hB : Below w.heap.size w w1) => (Closure_fine a m cap z hz w1 (h1.below hB) (hTb w1 hB) hf).mono (R' := fun e w' => ∃ g, e = .returned (.tuple #[.slice (some ⟨g, 0, none⟩) m m, .nilIface]) ∧ Own w' g m (abv m z) ∧ Below w1.heap.size w1 w') fun e w' ⟨he, ho, hB'⟩ => ⟨_, he, ho, hB'⟩
    have hO := fun w1 (hB : Below w.heap.size w w1) => Order_fine a m cap z hz w1 (h1.below hB) (hTb w1 hB) hf
    cases hn : noRing m (come m (rowsOf m z)) with
    | false =>
      rw [hn] at hO
      exact lorder_not a m cap x y _ w hF hC hO
    | true =>
      rw [hn] at hO
      have hg : Good2 m z := ⟨hf, hn⟩
      have hL := hg.lat hz
      rcases out4_or m x y with ho | ⟨i, j, rfl, rfl, hi, hj⟩
      · exact lorder_out a m cap x y ho _ w hF hC hO
      · exact lorder_on a m cap i j (abv m z) hL.few hL.lt hi hj _ _ _ rfl (above2_of hL hi hj) w hF hC hO (fun w1 hB => Join_in a m cap i j z hz w1 (h1.below hB) (hTb w1 hB) hg hi hj) (fun w1 hB => Meet_in a m cap i j z hz w1 (h1.below hB) (hTb w1 hB) hg hi hj)
  · exact lorder_skip a m cap x y (wrongN m) w hF (fun w1 hB => (Closure_wrong a m cap z w1 (h1.below hB) hf).mono fun e w' ⟨he, hw⟩ => ⟨he, hw ▸ Below.refl _ _⟩) (fun w1 hB => (Order_wrong a m cap z w1 (h1.below hB) hf).mono fun e w' ⟨he, hw⟩ => ⟨he, hw ▸ Below.refl _ _⟩)
end Go.Proofs.YtomencagnppdcaaDoor
