/- The closed fact, and the law BellDrop, at any users, files and asks. -/
import Derived.WalkKit
import Derived.Test.YtkeklcoandoacaaDoorBellFact
import Derived.Test.YtkeklcoandoacaaDoorBellBad
namespace Go.Proofs.YtkeklcoandoacaaDoor
open Go.RowKit

theorem bellFact_is (w : World) (hT : Tab w) (hE : ErrT w) : FactIs w := fun W b =>
  bellFact_walk W (hT.below b hT.size) (hE.below b (by have := hT.size; omega)) fun W' l1 l2 => new_walk _ _ 1 1 2 2 zFact yFact (by omega) (by omega) W' (.inr ⟨_, _, rfl, l1⟩) (.inr ⟨_, _, rfl, l2⟩) zFact_lab yFact_lab
theorem hundred (q : Nat) : ∃ Z, (Z = q ∧ q ≤ 100) ∨ (Z = 100 ∧ 100 < q) := by
  by_cases h : q ≤ 100
  · exact ⟨q, .inl ⟨rfl, h⟩⟩
  · exact ⟨100, .inr ⟨rfl, by omega⟩⟩
theorem bellDrop_any (a1 a2 a3 : Option Addr) (n c1 m c2 q c3 : Nat) (z y : Nat → Int × Int) (k0 k1 k2 k3 : Nat → Int) (u f : Int) (w : World) (h1 : AtLabs w a1 n z) (h2 : AtLabs w a2 m y) (h3 : AtAsks w a3 q k0 k1 k2 k3) (hT : Tab w) (hE : ErrT w) :
    Calls Tryd.prog 5 #[.slice a1 n c1, .slice a2 m c2, .slice a3 q c3, .int .i64 u, .int .i64 f] w fun e w' => e = .returned (.bool true) ∧ Below w.heap.size w w' := by
  have hF := bellFact_is w hT hE
  rcases new_is a1 a2 n c1 m c2 z y w h1 h2 with ⟨c, _, _, hN⟩ | ⟨hn, hm, hz, hy, hN⟩
  · exact bellDrop_err a1 a2 a3 n c1 m c2 q c3 u f c w hF hN
  · by_cases ho : u < 0 ∨ (0 ≤ u ∧ (n : Int) ≤ u) ∨ (0 ≤ u ∧ u < n ∧ f < 0) ∨ (0 ≤ u ∧ u < n ∧ 0 ≤ f ∧ (m : Int) ≤ f)
    · exact bellDrop_out a1 a2 a3 n c1 m c2 q c3 u f z y w hF ho hN
    · obtain ⟨u, rfl⟩ := Int.eq_ofNat_of_zero_le (show 0 ≤ u by omega)
      obtain ⟨f, rfl⟩ := Int.eq_ofNat_of_zero_le (show 0 ≤ f by omega)
      obtain ⟨Z, hZ⟩ := hundred q
      exact bellDrop_in a1 a2 a3 n c1 m c2 q c3 u f z y k0 k1 k2 k3 w hT hF (by omega) (by omega) h1 h2 h3 (newSt_ok hn hm hz hy) hz hy hN Z hZ
end Go.Proofs.YtkeklcoandoacaaDoor
