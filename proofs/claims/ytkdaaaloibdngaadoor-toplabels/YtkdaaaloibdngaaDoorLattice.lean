/- What the Join and the Meet of two things are (Join, Meet), and whether a relation is a lattice (Is). -/
import Derived.WalkKit
import Derived.LoopTactic
import Derived.Test.YtkdaaaloibdngaaDoorBounded
namespace Go.Proofs.YtkdaaaloibdngaaDoor
open Go.RowKit

theorem lorder_err (a : Option Addr) (m cap : Nat) (c : Int) (w : World)
    (h : Calls Tryd.prog 24 #[.slice a m cap] w fun e w' => e = .returned (.tuple #[.bool false, .iface 57 (.int .i64 c)]) ∧ w' = w) :
    Calls Tryd.prog 50 #[.slice a m cap] w fun e w' => e = .returned (.tuple #[.slice none 0 0, .iface 57 (.int .i64 c)]) ∧ Below w.heap.size w w' := by
  go_enter Tryd.func50, Tryd.ntmps50
  go_wp2_with (go_at_call 24; refine h.mono ?_; rintro e w' ⟨rfl, rfl⟩)
  go_ret2
  exact ⟨rfl, Below.refl _ _⟩
theorem lorder_ring (a : Option Addr) (m cap : Nat) (w : World)
    (h : Calls Tryd.prog 24 #[.slice a m cap] w fun e w' => e = .returned (.tuple #[.bool false, .nilIface]) ∧ Below w.heap.size w w') :
    Calls Tryd.prog 50 #[.slice a m cap] w fun e w' => e = .returned (.tuple #[.slice none 0 0, .iface 57 (.int .i64 6)]) ∧ Below w.heap.size w w' := by
  go_enter Tryd.func50, Tryd.ntmps50
  go_wp2_with (go_at_call 24; refine h.mono ?_; rintro e w1 ⟨rfl, S⟩)
  go_ret2
  exact ⟨rfl, S⟩
theorem lorder_fine (a : Option Addr) (m cap : Nat) (D : Nat → Nat) (w : World)
    (h : Calls Tryd.prog 24 #[.slice a m cap] w fun e w' => e = .returned (.tuple #[.bool true, .nilIface]) ∧ Below w.heap.size w w')
    (hc : ∀ w1, Below w.heap.size w w1 → Calls Tryd.prog 23 #[.slice a m cap] w1 fun e w' => e = .returned (.tuple #[.slice (some ⟨w1.heap.size, 0, none⟩) m m, .nilIface]) ∧ Own w' w1.heap.size m D ∧ Below w1.heap.size w1 w') :
    Calls Tryd.prog 50 #[.slice a m cap] w fun e w' => ∃ g, e = .returned (.tuple #[.slice (some ⟨g, 0, none⟩) m m, .nilIface]) ∧ Own w' g m D ∧ Below w.heap.size w w' := by
  go_enter Tryd.func50, Tryd.ntmps50
  go_wp2_with (first | (go_at_call 24; refine h.mono ?_; rintro e w1 ⟨rfl, S⟩) | (go_at_call 23; refine (hc _ S).mono ?_; rintro e w2 ⟨rfl, ho, S2⟩))
  go_ret2
  exact ⟨_, rfl, ho, S.trans (S2.mono S.size)⟩

theorem checked_err (a : Option Addr) (m cap : Nat) (x y c : Int) (w : World)
    (h : Calls Tryd.prog 50 #[.slice a m cap] w fun e w' => e = .returned (.tuple #[.slice none 0 0, .iface 57 (.int .i64 c)]) ∧ Below w.heap.size w w') :
    Calls Tryd.prog 41 #[.slice a m cap, .int .i64 x, .int .i64 y] w fun e w' => e = .returned (.tuple #[.slice none 0 0, .iface 57 (.int .i64 c)]) ∧ Below w.heap.size w w' := by
  go_enter Tryd.func41, Tryd.ntmps41
  go_wp2_with (go_at_call 50; refine h.mono ?_; rintro e w1 ⟨rfl, S⟩)
  go_ret2
  exact ⟨rfl, S⟩
/-- One of two numbers is no thing. -/
def Off2 (m : Nat) (x y : Int) : Prop := (x < 0 ∨ (m : Int) ≤ x) ∨ (∃ i : Nat, x = i ∧ i < m ∧ (y < 0 ∨ (m : Int) ≤ y))
theorem off2_or (m : Nat) (x y : Int) : Off2 m x y ∨ ∃ i j : Nat, x = i ∧ y = j ∧ i < m ∧ j < m := by
  by_cases h1 : x < 0 ∨ (m : Int) ≤ x
  · exact .inl (.inl h1)
  · obtain ⟨i, rfl⟩ := Int.eq_ofNat_of_zero_le (show 0 ≤ x by omega)
    by_cases h2 : y < 0 ∨ (m : Int) ≤ y
    · exact .inl (.inr ⟨i, rfl, by omega, h2⟩)
    · obtain ⟨j, rfl⟩ := Int.eq_ofNat_of_zero_le (show 0 ≤ y by omega)
      exact .inr ⟨i, j, rfl, rfl, by omega, by omega⟩
theorem checked_range (a : Option Addr) (m cap : Nat) (x y : Int) (hm : m ≤ 12) (hxy : Off2 m x y) (D : Nat → Nat) (w : World)
    (h : Calls Tryd.prog 50 #[.slice a m cap] w fun e w' => ∃ g, e = .returned (.tuple #[.slice (some ⟨g, 0, none⟩) m m, .nilIface]) ∧ Own w' g m D ∧ Below w.heap.size w w') :
    Calls Tryd.prog 41 #[.slice a m cap, .int .i64 x, .int .i64 y] w fun e w' => e = .returned (.tuple #[.slice none 0 0, .iface 57 (.int .i64 1)]) ∧ Below w.heap.size w w' := by
  rcases hxy with hx | ⟨i, rfl, hi, hy⟩
  · have t1 := fun W => isThing_no a m cap x hx W
    clear hx
    go_enter Tryd.func41, Tryd.ntmps41
    go_wp2_with (first | (go_at_call 50; refine h.mono ?_; rintro e w1 ⟨g, rfl, ho, S⟩) | (go_at_call 51; refine (t1 _).mono ?_; rintro e w' ⟨rfl, rfl⟩))
    go_ret2
    exact ⟨rfl, S⟩
  · have t1 := fun W => isThing_yes a m cap i hi hm W
    have t2 := fun W => isThing_no a m cap y hy W
    clear hy
    go_enter Tryd.func41, Tryd.ntmps41
    go_wp2_with (first | (go_at_call 50; refine h.mono ?_; rintro e w1 ⟨g, rfl, ho, S⟩) | (go_at_call 51; refine (t1 _).mono ?_; clear t1; rintro e w' ⟨rfl, rfl⟩) | (go_at_call 51; refine (t2 _).mono ?_; rintro e w' ⟨rfl, rfl⟩))
    go_ret2
    exact ⟨rfl, S⟩
theorem checked_fine (a : Option Addr) (m cap i j : Nat) (hm : m ≤ 12) (hi : i < m) (hj : j < m) (D : Nat → Nat) (w : World)
    (h : Calls Tryd.prog 50 #[.slice a m cap] w fun e w' => ∃ g, e = .returned (.tuple #[.slice (some ⟨g, 0, none⟩) m m, .nilIface]) ∧ Own w' g m D ∧ Below w.heap.size w w') :
    Calls Tryd.prog 41 #[.slice a m cap, .int .i64 i, .int .i64 j] w fun e w' => ∃ g, e = .returned (.tuple #[.slice (some ⟨g, 0, none⟩) m m, .nilIface]) ∧ Own w' g m D ∧ Below w.heap.size w w' := by
  have t1 := fun W => isThing_yes a m cap i hi hm W
  have t2 := fun W => isThing_yes a m cap j hj hm W
  go_enter Tryd.func41, Tryd.ntmps41
  go_wp2_with (first | (go_at_call 50; refine h.mono ?_; rintro e w1 ⟨g, rfl, ho, S⟩) | (go_at_call 51; refine (t1 _).mono ?_; clear t1; rintro e w' ⟨rfl, rfl⟩) | (go_at_call 51; refine (t2 _).mono ?_; rintro e w' ⟨rfl, rfl⟩))
  go_ret2
  exact ⟨_, rfl, ho, S⟩

theorem Join_err (a : Option Addr) (m cap : Nat) (x y c : Int) (w : World)
    (h : Calls Tryd.prog 41 #[.slice a m cap, .int .i64 x, .int .i64 y] w fun e w' => e = .returned (.tuple #[.slice none 0 0, .iface 57 (.int .i64 c)]) ∧ Below w.heap.size w w') :
    Calls Tryd.prog 26 #[.slice a m cap, .int .i64 x, .int .i64 y] w fun e w' => e = .returned (.tuple #[.int .i64 0, .iface 57 (.int .i64 c)]) ∧ Below w.heap.size w w' := by
  go_enter Tryd.func26, Tryd.ntmps26
  go_wp2_with (go_at_call 41; refine h.mono ?_; rintro e w1 ⟨rfl, S⟩)
  go_ret2
  exact ⟨rfl, S⟩
theorem Meet_err (a : Option Addr) (m cap : Nat) (x y c : Int) (w : World)
    (h : Calls Tryd.prog 41 #[.slice a m cap, .int .i64 x, .int .i64 y] w fun e w' => e = .returned (.tuple #[.slice none 0 0, .iface 57 (.int .i64 c)]) ∧ Below w.heap.size w w') :
    Calls Tryd.prog 27 #[.slice a m cap, .int .i64 x, .int .i64 y] w fun e w' => e = .returned (.tuple #[.int .i64 0, .iface 57 (.int .i64 c)]) ∧ Below w.heap.size w w' := by
  go_enter Tryd.func27, Tryd.ntmps27
  go_wp2_with (go_at_call 41; refine h.mono ?_; rintro e w1 ⟨rfl, S⟩)
  go_ret2
  exact ⟨rfl, S⟩

/-- The answer of a bound, as two values. -/
theorem bndRes_two (o : Option Nat) : ∃ v er, bndRes o = #[v, er] := by cases o <;> exact ⟨_, _, rfl⟩
theorem Join_fine (a : Option Addr) (m cap i j : Nat) (D : Nat → Nat) (hL : Lat m D) (hi : i < m) (hj : j < m) (w : World) (hT : Tab w)
    (h : Calls Tryd.prog 41 #[.slice a m cap, .int .i64 i, .int .i64 j] w fun e w' => ∃ g, e = .returned (.tuple #[.slice (some ⟨g, 0, none⟩) m m, .nilIface]) ∧ Own w' g m D ∧ Below w.heap.size w w') :
    Calls Tryd.prog 26 #[.slice a m cap, .int .i64 i, .int .i64 j] w fun e w' => e = .returned (.tuple (bndRes (bnd m D i j))) ∧ Below w.heap.size w w' := by
  have hb := fun g w1 (ho : Own w1 g m D) (S : Below w.heap.size w w1) => bound_any m g m i j D hL hi hj w1 ho (hT.below S hT.size)
  obtain ⟨v, er, hv⟩ := bndRes_two (bnd m D i j)
  rw [hv] at hb ⊢
  clear hv hL
  go_enter Tryd.func26, Tryd.ntmps26
  go_wp2_with (first | (go_at_call 41; refine h.mono ?_; rintro e w1 ⟨g, rfl, ho, S⟩) | (go_at_call 42; refine (hb _ _ ho S).mono ?_; rintro e w2 ⟨rfl, S2⟩))
  go_ret2
  exact ⟨rfl, S.trans (S2.mono S.size)⟩
theorem turned_own (m g : Nat) (D : Nat → Nat) (hL : Lat m D) (w : World) (ho : Own w g m D) :
    Calls Tryd.prog 43 #[.slice (some ⟨g, 0, none⟩) m m] w fun e w' => e = .returned (.slice (some ⟨w.heap.size, 0, none⟩) m m) ∧ Own w' w.heap.size m (turnN m D) ∧ Below w.heap.size w w' :=
  Turned_some m g 0 m D hL.few hL.lt w ho.lt fun i hi => by rw [Nat.zero_add]; exact ho.cell i hi
theorem Meet_fine (a : Option Addr) (m cap i j : Nat) (D : Nat → Nat) (hL : Lat m D) (hi : i < m) (hj : j < m) (w : World) (hT : Tab w)
    (h : Calls Tryd.prog 41 #[.slice a m cap, .int .i64 i, .int .i64 j] w fun e w' => ∃ g, e = .returned (.tuple #[.slice (some ⟨g, 0, none⟩) m m, .nilIface]) ∧ Own w' g m D ∧ Below w.heap.size w w') :
    Calls Tryd.prog 27 #[.slice a m cap, .int .i64 i, .int .i64 j] w fun e w' => e = .returned (.tuple (bndRes (bnd m (turnN m D) i j))) ∧ Below w.heap.size w w' := by
  have hb := fun g w1 (ho : Own w1 g m (turnN m D)) (S : Below w.heap.size w w1) => bound_any m g m i j (turnN m D) (lat_turn hL) hi hj w1 ho (hT.below S hT.size)
  have ht := fun g w1 (ho : Own w1 g m D) => turned_own m g D hL w1 ho
  obtain ⟨v, er, hv⟩ := bndRes_two (bnd m (turnN m D) i j)
  rw [hv] at hb ⊢
  clear hv hL
  go_enter Tryd.func27, Tryd.ntmps27
  go_wp2_with (first | (go_at_call 41; refine h.mono ?_; rintro e w1 ⟨g, rfl, ho, S⟩) | (go_at_call 43; refine (ht _ _ ho).mono ?_; rintro e w2 ⟨rfl, ho2, S1⟩; replace S := S.trans (S1.mono S.size)) | (go_at_call 42; refine (hb _ _ ho2 S).mono ?_; rintro e w3 ⟨rfl, S2⟩))
  go_ret2
  exact ⟨rfl, S.trans (S2.mono S.size)⟩
end Go.Proofs.YtkdaaaloibdngaaDoor
