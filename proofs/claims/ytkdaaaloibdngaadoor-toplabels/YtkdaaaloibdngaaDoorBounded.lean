/- The bound of two things (bound), and whether any two have one (bounded), in the form of a plain call. -/
import Derived.WalkKit
import Derived.LoopTactic
import Derived.Test.YtkdaaaloibdngaaDoorBound
namespace Go.Proofs.YtkdaaaloibdngaaDoor
open Go.RowKit

theorem bound_any (m B cap a b : Nat) (D : Nat → Nat) (hL : Lat m D) (ha : a < m) (hb : b < m) (w : World) (ho : Own w B m D) (hT : Tab w) :
    Calls Tryd.prog 42 #[.slice (some ⟨B, 0, none⟩) m cap, .int .i64 a, .int .i64 b] w fun e w' => e = .returned (.tuple (bndRes (bnd m D a b))) ∧ Below w.heap.size w w' :=
  (callsIn_wide (n := 4)).1 (bound_in 4 m B cap a b D (by omega) hL ha hb w ho hT)

end Go.Proofs.YtkdaaaloibdngaaDoor
