/- The walk of the law LatticeRules. -/
import Derived.WalkKit
import Derived.LoopTactic
import Derived.Test.YtomencagnppdcaaDoorLatAny
namespace Go.Proofs.YtomencagnppdcaaDoor
open Go.RowKit

set_option maxRecDepth 100000 in
set_option maxHeartbeats 1000000 in
theorem lrules_err (a : Option Addr) (m cap : Nat) (x y z c : Int) (w : World)
    (hF : Calls Tryd.prog 15 #[] w fun e w' => e = .returned (.bool true) ∧ Below w.heap.size w w')
    (hI : ∀ w1, Below w.heap.size w w1 → Calls Tryd.prog 11 #[.slice a m cap] w1 fun e w' => e = .returned (.tuple #[.bool false, .iface 51 (.int .i64 c)]) ∧ Below w1.heap.size w1 w') :
    Calls Tryd.prog 5 #[.slice a m cap, .int .i64 x, .int .i64 y, .int .i64 z] w fun e w' => e = .returned (.bool true) ∧ Below w.heap.size w w' := by
  go_enter Tryd.func5, Tryd.ntmps5
  go_wp2_with (first | (go_at_call 15; refine hF.mono ?_; rintro e w1 ⟨rfl, hB⟩) | (go_at_call 11; refine (hI _ hB).mono ?_; rintro e w1 ⟨rfl, S⟩; replace hB := hB.trans (S.mono hB.size); clear S))
  go_ret
  exact ⟨rfl, hB⟩
set_option maxRecDepth 100000 in
set_option maxHeartbeats 1000000 in
theorem lrules_not (a : Option Addr) (m cap : Nat) (x y z : Int) (w : World)
    (hF : Calls Tryd.prog 15 #[] w fun e w' => e = .returned (.bool true) ∧ Below w.heap.size w w')
    (hI : ∀ w1, Below w.heap.size w w1 → Calls Tryd.prog 11 #[.slice a m cap] w1 fun e w' => e = .returned (.tuple #[.bool false, .nilIface]) ∧ Below w1.heap.size w1 w') :
    Calls Tryd.prog 5 #[.slice a m cap, .int .i64 x, .int .i64 y, .int .i64 z] w fun e w' => e = .returned (.bool true) ∧ Below w.heap.size w w' := by
  go_enter Tryd.func5, Tryd.ntmps5
  go_wp2_with (first | (go_at_call 15; refine hF.mono ?_; rintro e w1 ⟨rfl, hB⟩) | (go_at_call 11; refine (hI _ hB).mono ?_; rintro e w1 ⟨rfl, S⟩; replace hB := hB.trans (S.mono hB.size); clear S))
  go_ret
  exact ⟨rfl, hB⟩

/-- One of three numbers is no thing, as the law asks it. -/
def Out6 (m : Nat) (x y z : Int) : Prop := x < 0 ∨ (0 ≤ x ∧ (m : Int) ≤ x) ∨ (0 ≤ x ∧ x < m ∧ y < 0) ∨ (0 ≤ x ∧ x < m ∧ 0 ≤ y ∧ (m : Int) ≤ y) ∨
  (0 ≤ x ∧ x < m ∧ 0 ≤ y ∧ y < m ∧ z < 0) ∨ (0 ≤ x ∧ x < m ∧ 0 ≤ y ∧ y < m ∧ 0 ≤ z ∧ (m : Int) ≤ z)
theorem out6_or (m : Nat) (x y z : Int) : Out6 m x y z ∨ ∃ i j k : Nat, x = i ∧ y = j ∧ z = k ∧ i < m ∧ j < m ∧ k < m := by
  by_cases h : 0 ≤ x ∧ x < m ∧ 0 ≤ y ∧ y < m ∧ 0 ≤ z ∧ z < m
  · obtain ⟨i, rfl⟩ := Int.eq_ofNat_of_zero_le h.1
    obtain ⟨j, rfl⟩ := Int.eq_ofNat_of_zero_le h.2.2.1
    obtain ⟨k, rfl⟩ := Int.eq_ofNat_of_zero_le h.2.2.2.2.1
    exact .inr ⟨i, j, k, rfl, rfl, rfl, by omega, by omega, by omega⟩
  · refine .inl ?_
    unfold Out6
    omega
set_option maxRecDepth 100000 in
set_option maxHeartbeats 1000000 in
theorem lrules_out (a : Option Addr) (m cap : Nat) (x y z : Int) (hout : Out6 m x y z) (w : World)
    (hF : Calls Tryd.prog 15 #[] w fun e w' => e = .returned (.bool true) ∧ Below w.heap.size w w')
    (hI : ∀ w1, Below w.heap.size w w1 → Calls Tryd.prog 11 #[.slice a m cap] w1 fun e w' => e = .returned (.tuple #[.bool true, .nilIface]) ∧ Below w1.heap.size w1 w') :
    Calls Tryd.prog 5 #[.slice a m cap, .int .i64 x, .int .i64 y, .int .i64 z] w fun e w' => e = .returned (.bool true) ∧ Below w.heap.size w w' := by
  rcases hout with h1 | ⟨h1, h2⟩ | ⟨h1, h2, h3⟩ | ⟨h1, h2, h3, h4⟩ | ⟨h1, h2, h3, h4, h5⟩ | ⟨h1, h2, h3, h4, h5, h6⟩
  all_goals as_aux_lemma =>
    go_enter Tryd.func5, Tryd.ntmps5
    go_wp2_with (first | (go_at_call 15; refine hF.mono ?_; rintro e w1 ⟨rfl, hB⟩) | (go_at_call 11; refine (hI _ hB).mono ?_; rintro e w1 ⟨rfl, S⟩; replace hB := hB.trans (S.mono hB.size); clear S))
    go_ret
    exact ⟨rfl, hB⟩
set_option maxRecDepth 100000 in
set_option maxHeartbeats 1000000 in
theorem lrules_on (a : Option Addr) (m cap i j k x u p q : Nat) (hi : i < m) (hj : j < m) (hk : k < m) (w : World)
    (hF : Calls Tryd.prog 15 #[] w fun e w' => e = .returned (.bool true) ∧ Below w.heap.size w w')
    (h1 : ∀ w1, Below w.heap.size w w1 → Calls Tryd.prog 13 #[.slice a m cap, .int .i64 i, .int .i64 j] w1 fun e w' => e = .returned (.tuple #[.int .i64 x, .nilIface]) ∧ Below w1.heap.size w1 w')
    (h2 : ∀ w1, Below w.heap.size w w1 → Calls Tryd.prog 13 #[.slice a m cap, .int .i64 j, .int .i64 i] w1 fun e w' => e = .returned (.tuple #[.int .i64 x, .nilIface]) ∧ Below w1.heap.size w1 w')
    (h3 : ∀ w1, Below w.heap.size w w1 → Calls Tryd.prog 14 #[.slice a m cap, .int .i64 i, .int .i64 j] w1 fun e w' => e = .returned (.tuple #[.int .i64 u, .nilIface]) ∧ Below w1.heap.size w1 w')
    (h4 : ∀ w1, Below w.heap.size w w1 → Calls Tryd.prog 14 #[.slice a m cap, .int .i64 j, .int .i64 i] w1 fun e w' => e = .returned (.tuple #[.int .i64 u, .nilIface]) ∧ Below w1.heap.size w1 w')
    (h5 : ∀ w1, Below w.heap.size w w1 → Calls Tryd.prog 13 #[.slice a m cap, .int .i64 x, .int .i64 k] w1 fun e w' => e = .returned (.tuple #[.int .i64 p, .nilIface]) ∧ Below w1.heap.size w1 w')
    (h6 : ∀ w1, Below w.heap.size w w1 → Calls Tryd.prog 13 #[.slice a m cap, .int .i64 j, .int .i64 k] w1 fun e w' => e = .returned (.tuple #[.int .i64 q, .nilIface]) ∧ Below w1.heap.size w1 w')
    (h7 : ∀ w1, Below w.heap.size w w1 → Calls Tryd.prog 13 #[.slice a m cap, .int .i64 i, .int .i64 q] w1 fun e w' => e = .returned (.tuple #[.int .i64 p, .nilIface]) ∧ Below w1.heap.size w1 w')
    (h8 : ∀ w1, Below w.heap.size w w1 → Calls Tryd.prog 14 #[.slice a m cap, .int .i64 i, .int .i64 x] w1 fun e w' => e = .returned (.tuple #[.int .i64 i, .nilIface]) ∧ Below w1.heap.size w1 w')
    (h9 : ∀ w1, Below w.heap.size w w1 → Calls Tryd.prog 13 #[.slice a m cap, .int .i64 i, .int .i64 u] w1 fun e w' => e = .returned (.tuple #[.int .i64 i, .nilIface]) ∧ Below w1.heap.size w1 w')
    (h10 : ∀ w1, Below w.heap.size w w1 → Calls Tryd.prog 13 #[.slice a m cap, .int .i64 i, .int .i64 i] w1 fun e w' => e = .returned (.tuple #[.int .i64 i, .nilIface]) ∧ Below w1.heap.size w1 w')
    (hI : ∀ w1, Below w.heap.size w w1 → Calls Tryd.prog 11 #[.slice a m cap] w1 fun e w' => e = .returned (.tuple #[.bool true, .nilIface]) ∧ Below w1.heap.size w1 w') :
    Calls Tryd.prog 5 #[.slice a m cap, .int .i64 i, .int .i64 j, .int .i64 k] w fun e w' => e = .returned (.bool true) ∧ Below w.heap.size w w' := by
  have hii : (i : Int) < (m : Int) := by omega
  have hji : (j : Int) < (m : Int) := by omega
  have hki : (k : Int) < (m : Int) := by omega
  go_enter Tryd.func5, Tryd.ntmps5
  go_wp2_with (first | (go_at_call 15; refine hF.mono ?_; rintro e w1 ⟨rfl, hB⟩) | (go_at_call 11; refine (hI _ hB).mono ?_; rintro e w1 ⟨rfl, S⟩; replace hB := hB.trans (S.mono hB.size); clear S) | (go_at_call 13; refine (h1 _ hB).mono ?_; rintro e w1 ⟨rfl, S⟩; replace hB := hB.trans (S.mono hB.size); clear S h1) | (go_at_call 13; refine (h2 _ hB).mono ?_; rintro e w1 ⟨rfl, S⟩; replace hB := hB.trans (S.mono hB.size); clear S h2) | (go_at_call 14; refine (h3 _ hB).mono ?_; rintro e w1 ⟨rfl, S⟩; replace hB := hB.trans (S.mono hB.size); clear S h3) | (go_at_call 14; refine (h4 _ hB).mono ?_; rintro e w1 ⟨rfl, S⟩; replace hB := hB.trans (S.mono hB.size); clear S h4) | (go_at_call 13; refine (h5 _ hB).mono ?_; rintro e w1 ⟨rfl, S⟩; replace hB := hB.trans (S.mono hB.size); clear S h5) | (go_at_call 13; refine (h6 _ hB).mono ?_; rintro e w1 ⟨rfl, S⟩; replace hB := hB.trans (S.mono hB.size); clear S h6) | (go_at_call 13; refine (h7 _ hB).mono ?_; rintro e w1 ⟨rfl, S⟩; replace hB := hB.trans (S.mono hB.size); clear S h7) | (go_at_call 14; refine (h8 _ hB).mono ?_; rintro e w1 ⟨rfl, S⟩; replace hB := hB.trans (S.mono hB.size); clear S h8) | (go_at_call 13; refine (h9 _ hB).mono ?_; rintro e w1 ⟨rfl, S⟩; replace hB := hB.trans (S.mono hB.size); clear S h9) | (go_at_call 13; refine (h10 _ hB).mono ?_; rintro e w1 ⟨rfl, S⟩; replace hB := hB.trans (S.mono hB.size); clear S h10))
  go_ret
  exact ⟨rfl, hB⟩

/-- The rules of Join and Meet, told of bounds. -/
structure Rules (m : Nat) (C : Nat → Nat) (i j k x u p q : Nat) : Prop where
  lx : x < m
  lu : u < m
  lq : q < m
  h1 : bnd m C i j = some x
  h2 : bnd m C j i = some x
  h3 : bnd m (turnN m C) i j = some u
  h4 : bnd m (turnN m C) j i = some u
  h5 : bnd m C x k = some p
  h6 : bnd m C j k = some q
  h7 : bnd m C i q = some p
  h8 : bnd m (turnN m C) i x = some i
  h9 : bnd m C i u = some i
  h10 : bnd m C i i = some i
theorem isLat_some {m : Nat} {C : Nat → Nat} (h : isLat m C = true) {i j : Nat} (hi : i < m) (hj : j < m) : (∃ k, bnd m C i j = some k) ∧ ∃ k, bnd m (turnN m C) i j = some k := by
  unfold isLat at h
  rw [Bool.and_eq_true, Bool.and_eq_true] at h
  exact ⟨Option.isSome_iff_exists.1 ((allBnd_iff m C).1 h.1.2 i j hi hj), Option.isSome_iff_exists.1 ((allBnd_iff m _).1 h.2 i j hi hj)⟩
theorem rules_of {m : Nat} {C : Nat → Nat} (hL : Lat m C) (h : isLat m C = true) {i j k : Nat} (hi : i < m) (hj : j < m) (hk : k < m) : ∃ x u p q, Rules m C i j k x u p q := by
  obtain ⟨⟨x, hx⟩, ⟨u, hu⟩⟩ := isLat_some h hi hj
  have bx := bnd_some hx
  have bu := bnd_some hu
  obtain ⟨p, hp⟩ := (isLat_some h bx.lt hk).1
  obtain ⟨q, hq⟩ := (isLat_some h hj hk).1
  have bp := bnd_some hp
  have bq := bnd_some hq
  refine ⟨x, u, p, q, bx.lt, bu.lt, bq.lt, hx, (bnd_swap hL j i).trans hx, hu, (bnd_swap (lat_turn hL) j i).trans hu, hp, hq, bnd_of hL ⟨bp.lt, ?_, ?_, fun y hy h1 h2 => ?_⟩, ?_, ?_, bnd_self hL hi⟩
  · exact hL.trans i x p hi bx.lt bx.one bp.one
  · exact bq.all p bp.lt (hL.trans j x p hj bx.lt bx.two bp.one) bp.two
  · exact bp.all y hy (bx.all y hy h1 (hL.trans j q y hj bq.lt bq.one h2)) (hL.trans k q y hk bq.lt bq.two h2)
  · refine bnd_of (lat_turn hL) (IsBnd.beyond (lat_turn hL) hi ((turnN_bit m C x i).2 ⟨hi, bx.one⟩)).swap
  · exact bnd_of hL (IsBnd.beyond hL hi ((turnN_bit m C i u).1 bu.one).2).swap

theorem lrules_any (a : Option Addr) (m cap : Nat) (z : List Int) (x y v : Int) (hz : m ≤ z.length) (w : World) (h1 : AtNums w a m z) (hT : Tab w) :
    Calls Tryd.prog 5 #[.slice a m cap, .int .i64 x, .int .i64 y, .int .i64 v] w fun e w' => e = .returned (.bool true) ∧ Below w.heap.size w w' := by
  have hF := lfact_any w hT
  have hTb : ∀ w1, Below w.heap.size w w1 → Tab w1 := fun w1 hB => hT.below hB hT.size
  by_cases hf : Fine m z
  · cases hn : noRing m (abv m z) with
    | false => exact lrules_err a m cap x y v 6 w hF fun w1 hB => Is_bad a m cap z hz 6 w1 (h1.below hB) (hTb w1 hB) (.inr ⟨hf, hn, rfl⟩)
    | true =>
      have hg : Good2 m z := ⟨hf, hn⟩
      have hI := fun w1 (hB : Below w.heap.size w w1) => Is_in a m cap z hz w1 (h1.below hB) (hTb w1 hB) hg
      cases hl : isLat m (abv m z) with
      | false =>
        rw [hl] at hI
        exact lrules_not a m cap x y v w hF hI
      | true =>
        rw [hl] at hI
        rcases out6_or m x y v with ho | ⟨i, j, k, rfl, rfl, rfl, hi, hj, hk⟩
        · exact lrules_out a m cap x y v ho w hF hI
        · obtain ⟨s, u, p, q, R⟩ := rules_of (hg.lat hz) hl hi hj hk
          have hJ := fun (i j r : Nat) (hi : i < m) (hj : j < m) (e : bnd m (abv m z) i j = some r) w1 (hB : Below w.heap.size w w1) => (show Calls Tryd.prog 13 #[.slice a m cap, .int .i64 i, .int .i64 j] w1 fun e w' => e = .returned (.tuple #[.int .i64 r, .nilIface]) ∧ Below w1.heap.size w1 w' by
            have h := Join_in a m cap i j z hz w1 (h1.below hB) (hTb w1 hB) hg hi hj
            rw [e] at h; exact h)
          have hM := fun (i j r : Nat) (hi : i < m) (hj : j < m) (e : bnd m (turnN m (abv m z)) i j = some r) w1 (hB : Below w.heap.size w w1) => (show Calls Tryd.prog 14 #[.slice a m cap, .int .i64 i, .int .i64 j] w1 fun e w' => e = .returned (.tuple #[.int .i64 r, .nilIface]) ∧ Below w1.heap.size w1 w' by
            have h := Meet_in a m cap i j z hz w1 (h1.below hB) (hTb w1 hB) hg hi hj
            rw [e] at h; exact h)
          exact lrules_on a m cap i j k s u p q hi hj hk w hF (hJ _ _ _ hi hj R.h1) (hJ _ _ _ hj hi R.h2) (hM _ _ _ hi hj R.h3) (hM _ _ _ hj hi R.h4) (hJ _ _ _ R.lx hk R.h5) (hJ _ _ _ hj hk R.h6) (hJ _ _ _ hi R.lq R.h7) (hM _ _ _ hi R.lx R.h8) (hJ _ _ _ hi R.lu R.h9) (hJ _ _ _ hi hi R.h10) hI
  · exact lrules_err a m cap x y v (wrongN m) w hF fun w1 hB => Is_bad a m cap z hz _ w1 (h1.below hB) (hTb w1 hB) (.inl ⟨hf, rfl⟩)
end Go.Proofs.YtomencagnppdcaaDoor
