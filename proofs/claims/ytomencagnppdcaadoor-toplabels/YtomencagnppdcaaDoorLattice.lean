/- What the Join and the Meet of two things are (Join, Meet), and whether a relation is a lattice (Is). -/
import Derived.WalkKit
import Derived.LoopTactic
import Derived.Test.YtomencagnppdcaaDoorBounded
namespace Go.Proofs.YtomencagnppdcaaDoor
open Go.RowKit

theorem checked_err (a : Option Addr) (m cap : Nat) (x y c : Int) (w : World)
    (h : Calls Tryd.prog 27 #[.slice a m cap] w fun e w' => e = .returned (.tuple #[.slice none 0 0, .iface 51 (.int .i64 c)]) ∧ Below w.heap.size w w') :
    Calls Tryd.prog 31 #[.slice a m cap, .int .i64 x, .int .i64 y] w fun e w' => e = .returned (.tuple #[.slice none 0 0, .iface 51 (.int .i64 c)]) ∧ Below w.heap.size w w' := by
  go_enter Tryd.func31, Tryd.ntmps31
  go_wp2_with (go_at_call 27; refine h.mono ?_; rintro e w1 ⟨rfl, S⟩)
  go_ret2
  exact ⟨rfl, S⟩
/-- One of two numbers is no thing. -/
def Off2 (m : Nat) (x y : Int) : Prop := (x < 0 ∨ (m : Int) ≤ x) ∨ (∃ i : Nat, x = i ∧ i < m ∧ (y < 0 ∨ (m : Int) ≤ y))
theorem off2_or (m : Nat) (x y : Int) : Off2 m x y ∨ ∃ i j : Nat, x = i ∧ y = j ∧ i < m ∧ j < m := by
  by_cases h1 : x < 0 ∨ (m : Int) ≤ x
  · exact .inl (.inl h1)
  · obtain ⟨i, rfl⟩ := Int.eq_ofNat_of_zero_le (show 0 ≤ x by omega)
    by_cases h2 : y < 0 ∨ (m : Int) ≤ y
    · exact .inl (.inr ⟨i, rfl, by omega, h2⟩)
    · obtain ⟨j, rfl⟩ := Int.eq_ofNat_of_zero_le (show 0 ≤ y by omega)
      exact .inr ⟨i, j, rfl, rfl, by omega, by omega⟩
theorem checked_range (a : Option Addr) (m cap : Nat) (x y : Int) (hm : m ≤ 12) (hxy : Off2 m x y) (D : Nat → Nat) (w : World)
    (h : Calls Tryd.prog 27 #[.slice a m cap] w fun e w' => ∃ g, e = .returned (.tuple #[.slice (some ⟨g, 0, none⟩) m m, .nilIface]) ∧ Own w' g m D ∧ Below w.heap.size w w') :
    Calls Tryd.prog 31 #[.slice a m cap, .int .i64 x, .int .i64 y] w fun e w' => e = .returned (.tuple #[.slice none 0 0, .iface 51 (.int .i64 1)]) ∧ Below w.heap.size w w' := by
  rcases hxy with hx | ⟨i, rfl, hi, hy⟩
  · have t1 := fun W => isThing_no a m cap x hx W
    clear hx
    go_enter Tryd.func31, Tryd.ntmps31
    go_wp2_with (first | (go_at_call 27; refine h.mono ?_; rintro e w1 ⟨g, rfl, ho, S⟩) | (go_at_call 40; refine (t1 _).mono ?_; rintro e w' ⟨rfl, rfl⟩))
    go_ret2
    exact ⟨rfl, S⟩
  · have t1 := fun W => isThing_yes a m cap i hi hm W
    have t2 := fun W => isThing_no a m cap y hy W
    clear hy
    go_enter Tryd.func31, Tryd.ntmps31
    go_wp2_with (first | (go_at_call 27; refine h.mono ?_; rintro e w1 ⟨g, rfl, ho, S⟩) | (go_at_call 40; refine (t1 _).mono ?_; clear t1; rintro e w' ⟨rfl, rfl⟩) | (go_at_call 40; refine (t2 _).mono ?_; rintro e w' ⟨rfl, rfl⟩))
    go_ret2
    exact ⟨rfl, S⟩
theorem checked_fine (a : Option Addr) (m cap i j : Nat) (hm : m ≤ 12) (hi : i < m) (hj : j < m) (D : Nat → Nat) (w : World)
    (h : Calls Tryd.prog 27 #[.slice a m cap] w fun e w' => ∃ g, e = .returned (.tuple #[.slice (some ⟨g, 0, none⟩) m m, .nilIface]) ∧ Own w' g m D ∧ Below w.heap.size w w') :
    Calls Tryd.prog 31 #[.slice a m cap, .int .i64 i, .int .i64 j] w fun e w' => ∃ g, e = .returned (.tuple #[.slice (some ⟨g, 0, none⟩) m m, .nilIface]) ∧ Own w' g m D ∧ Below w.heap.size w w' := by
  have t1 := fun W => isThing_yes a m cap i hi hm W
  have t2 := fun W => isThing_yes a m cap j hj hm W
  go_enter Tryd.func31, Tryd.ntmps31
  go_wp2_with (first | (go_at_call 27; refine h.mono ?_; rintro e w1 ⟨g, rfl, ho, S⟩) | (go_at_call 40; refine (t1 _).mono ?_; clear t1; rintro e w' ⟨rfl, rfl⟩) | (go_at_call 40; refine (t2 _).mono ?_; rintro e w' ⟨rfl, rfl⟩))
  go_ret2
  exact ⟨_, rfl, ho, S⟩

theorem Join_err (a : Option Addr) (m cap : Nat) (x y c : Int) (w : World)
    (h : Calls Tryd.prog 31 #[.slice a m cap, .int .i64 x, .int .i64 y] w fun e w' => e = .returned (.tuple #[.slice none 0 0, .iface 51 (.int .i64 c)]) ∧ Below w.heap.size w w') :
    Calls Tryd.prog 13 #[.slice a m cap, .int .i64 x, .int .i64 y] w fun e w' => e = .returned (.tuple #[.int .i64 0, .iface 51 (.int .i64 c)]) ∧ Below w.heap.size w w' := by
  go_enter Tryd.func13, Tryd.ntmps13
  go_wp2_with (go_at_call 31; refine h.mono ?_; rintro e w1 ⟨rfl, S⟩)
  go_ret2
  exact ⟨rfl, S⟩
theorem Meet_err (a : Option Addr) (m cap : Nat) (x y c : Int) (w : World)
    (h : Calls Tryd.prog 31 #[.slice a m cap, .int .i64 x, .int .i64 y] w fun e w' => e = .returned (.tuple #[.slice none 0 0, .iface 51 (.int .i64 c)]) ∧ Below w.heap.size w w') :
    Calls Tryd.prog 14 #[.slice a m cap, .int .i64 x, .int .i64 y] w fun e w' => e = .returned (.tuple #[.int .i64 0, .iface 51 (.int .i64 c)]) ∧ Below w.heap.size w w' := by
  go_enter Tryd.func14, Tryd.ntmps14
  go_wp2_with (go_at_call 31; refine h.mono ?_; rintro e w1 ⟨rfl, S⟩)
  go_ret2
  exact ⟨rfl, S⟩
theorem Is_err (a : Option Addr) (m cap : Nat) (c : Int) (w : World)
    (h : Calls Tryd.prog 27 #[.slice a m cap] w fun e w' => e = .returned (.tuple #[.slice none 0 0, .iface 51 (.int .i64 c)]) ∧ Below w.heap.size w w') :
    Calls Tryd.prog 11 #[.slice a m cap] w fun e w' => e = .returned (.tuple #[.bool false, .iface 51 (.int .i64 c)]) ∧ Below w.heap.size w w' := by
  go_enter Tryd.func11, Tryd.ntmps11
  go_wp2_with (go_at_call 27; refine h.mono ?_; rintro e w1 ⟨rfl, S⟩)
  go_ret2
  exact ⟨rfl, S⟩

/-- The answer of a bound, as two values. -/
theorem bndRes_two (o : Option Nat) : ∃ v er, bndRes o = #[v, er] := by cases o <;> exact ⟨_, _, rfl⟩
theorem Join_fine (a : Option Addr) (m cap i j : Nat) (D : Nat → Nat) (hL : Lat m D) (hi : i < m) (hj : j < m) (w : World) (hT : Tab w)
    (h : Calls Tryd.prog 31 #[.slice a m cap, .int .i64 i, .int .i64 j] w fun e w' => ∃ g, e = .returned (.tuple #[.slice (some ⟨g, 0, none⟩) m m, .nilIface]) ∧ Own w' g m D ∧ Below w.heap.size w w') :
    Calls Tryd.prog 13 #[.slice a m cap, .int .i64 i, .int .i64 j] w fun e w' => e = .returned (.tuple (bndRes (bnd m D i j))) ∧ Below w.heap.size w w' := by
  have hb := fun g w1 (ho : Own w1 g m D) (S : Below w.heap.size w w1) => bound_any m g m i j D hL hi hj w1 ho (hT.below S hT.size)
  obtain ⟨v, er, hv⟩ := bndRes_two (bnd m D i j)
  rw [hv] at hb ⊢
  clear hv hL
  go_enter Tryd.func13, Tryd.ntmps13
  go_wp2_with (first | (go_at_call 31; refine h.mono ?_; rintro e w1 ⟨g, rfl, ho, S⟩) | (go_at_call 32; refine (hb _ _ ho S).mono ?_; rintro e w2 ⟨rfl, S2⟩))
  go_ret2
  exact ⟨rfl, S.trans (S2.mono S.size)⟩
theorem turned_own (m g : Nat) (D : Nat → Nat) (hL : Lat m D) (w : World) (ho : Own w g m D) :
    Calls Tryd.prog 29 #[.slice (some ⟨g, 0, none⟩) m m] w fun e w' => e = .returned (.slice (some ⟨w.heap.size, 0, none⟩) m m) ∧ Own w' w.heap.size m (turnN m D) ∧ Below w.heap.size w w' :=
  Turned_some m g 0 m D hL.few hL.lt w ho.lt fun i hi => by rw [Nat.zero_add]; exact ho.cell i hi
theorem Meet_fine (a : Option Addr) (m cap i j : Nat) (D : Nat → Nat) (hL : Lat m D) (hi : i < m) (hj : j < m) (w : World) (hT : Tab w)
    (h : Calls Tryd.prog 31 #[.slice a m cap, .int .i64 i, .int .i64 j] w fun e w' => ∃ g, e = .returned (.tuple #[.slice (some ⟨g, 0, none⟩) m m, .nilIface]) ∧ Own w' g m D ∧ Below w.heap.size w w') :
    Calls Tryd.prog 14 #[.slice a m cap, .int .i64 i, .int .i64 j] w fun e w' => e = .returned (.tuple (bndRes (bnd m (turnN m D) i j))) ∧ Below w.heap.size w w' := by
  have hb := fun g w1 (ho : Own w1 g m (turnN m D)) (S : Below w.heap.size w w1) => bound_any m g m i j (turnN m D) (lat_turn hL) hi hj w1 ho (hT.below S hT.size)
  have ht := fun g w1 (ho : Own w1 g m D) => turned_own m g D hL w1 ho
  obtain ⟨v, er, hv⟩ := bndRes_two (bnd m (turnN m D) i j)
  rw [hv] at hb ⊢
  clear hv hL
  go_enter Tryd.func14, Tryd.ntmps14
  go_wp2_with (first | (go_at_call 31; refine h.mono ?_; rintro e w1 ⟨g, rfl, ho, S⟩) | (go_at_call 29; refine (ht _ _ ho).mono ?_; rintro e w2 ⟨rfl, ho2, S1⟩; replace S := S.trans (S1.mono S.size)) | (go_at_call 32; refine (hb _ _ ho2 S).mono ?_; rintro e w3 ⟨rfl, S2⟩))
  go_ret2
  exact ⟨rfl, S.trans (S2.mono S.size)⟩
/-- Is a relation a lattice? -/
def isLat (m : Nat) (D : Nat → Nat) : Bool := decide (0 < m) && allBnd m D && allBnd m (turnN m D)
theorem Is_none (a : Option Addr) (cap : Nat) (D : Nat → Nat) (w : World)
    (h : Calls Tryd.prog 27 #[.slice a 0 cap] w fun e w' => ∃ g, e = .returned (.tuple #[.slice (some ⟨g, 0, none⟩) 0 0, .nilIface]) ∧ Own w' g 0 D ∧ Below w.heap.size w w') :
    Calls Tryd.prog 11 #[.slice a 0 cap] w fun e w' => e = .returned (.tuple #[.bool false, .nilIface]) ∧ Below w.heap.size w w' := by
  go_enter Tryd.func11, Tryd.ntmps11
  go_wp2_with (go_at_call 27; refine h.mono ?_; rintro e w1 ⟨g, rfl, ho, S⟩)
  go_ret2
  exact ⟨rfl, S⟩
theorem Is_some (a : Option Addr) (m cap : Nat) (D : Nat → Nat) (hL : Lat m D) (h0 : 0 < m) (w : World) (hT : Tab w)
    (h : Calls Tryd.prog 27 #[.slice a m cap] w fun e w' => ∃ g, e = .returned (.tuple #[.slice (some ⟨g, 0, none⟩) m m, .nilIface]) ∧ Own w' g m D ∧ Below w.heap.size w w') :
    Calls Tryd.prog 11 #[.slice a m cap] w fun e w' => e = .returned (.tuple #[.bool (isLat m D), .nilIface]) ∧ Below w.heap.size w w' := by
  have hm := hL.few
  have hb1 := fun g w1 (ho : Own w1 g m D) (S : Below w.heap.size w w1) => bounded_any m g m D hL w1 ho (hT.below S hT.size)
  have hb2 := fun g w1 (ho : Own w1 g m (turnN m D)) (S : Below w.heap.size w w1) => bounded_any m g m (turnN m D) (lat_turn hL) w1 ho (hT.below S hT.size)
  have ht := fun g w1 (ho : Own w1 g m D) => turned_own m g D hL w1 ho
  have hi0 : 0 < (m : Int) := by omega
  cases e1 : allBnd m D with
  | false =>
    rw [e1] at hb1
    have HE : Hid (isLat m D = false) := by rw [Hid, isLat, e1]; simp
    clear e1 hb2 ht hL
    go_enter Tryd.func11, Tryd.ntmps11
    go_wp2_with (first | (go_at_call 27; refine h.mono ?_; rintro e w1 ⟨g, rfl, ho, S⟩) | (go_at_call 28; refine (hb1 _ _ ho S).mono ?_; rintro e w2 ⟨rfl, S2⟩))
    go_ret2
    exact ⟨by rw [HE.out]; rfl, S.trans (S2.mono S.size)⟩
  | true =>
    rw [e1] at hb1
    have HE : Hid (isLat m D = allBnd m (turnN m D)) := by rw [Hid, isLat, e1]; simp [h0]
    obtain ⟨z, hz⟩ : ∃ z, allBnd m (turnN m D) = z := ⟨_, rfl⟩
    rw [hz] at hb2 HE
    clear e1 hz hL
    go_enter Tryd.func11, Tryd.ntmps11
    go_wp2_with (first | (go_at_call 27; refine h.mono ?_; rintro e w1 ⟨g, rfl, ho, S⟩) | (go_at_call 28; refine (hb1 _ _ ho S).mono ?_; clear hb1; rintro e w2 ⟨rfl, S2⟩; replace ho := ho.below S2; replace S := S.trans (S2.mono S.size)) | (go_at_call 29; refine (ht _ _ ho).mono ?_; rintro e w3 ⟨rfl, ho3, S3⟩; replace S := S.trans (S3.mono S.size)) | (go_at_call 28; refine (hb2 _ _ ho3 S).mono ?_; rintro e w4 ⟨rfl, S4⟩))
    go_ret2
    exact ⟨by rw [HE.out]; rfl, S.trans (S4.mono S.size)⟩
end Go.Proofs.YtomencagnppdcaaDoor
