/- The law TopLabels, at any labels and any two numbers. -/
import Derived.WalkKit
import Derived.Test.YtomencagnppdcaaDoorTopOut
import Derived.Test.YtomencagnppdcaaDoorTopLab
namespace Go.Proofs.YtomencagnppdcaaDoor
open Go.RowKit

theorem topLab_any (a : Option Addr) (m cap : Nat) (z : Nat → Int × Int) (x y : Int) (w : World) (hl : AtLabs w a m z) (hT : Tab w) :
    Calls Tryd.prog 7 #[.slice a m cap, .int .i64 x, .int .i64 y] w fun e w' => e = .returned (.bool true) ∧ Below w.heap.size w w' := by
  rcases top_cases m x y with ⟨i, j, rfl, rfl, h0, hm, hi, hj⟩ | h
  · rcases hl with h | ⟨b, off, rfl, hl⟩
    · omega
    · exact topLab_walk b off m cap z i j h0 hm hi hj w hl hT
  · exact topLab_out a m cap x y w h
end Go.Proofs.YtomencagnppdcaaDoor
