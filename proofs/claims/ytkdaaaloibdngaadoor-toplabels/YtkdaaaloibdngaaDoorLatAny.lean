/- What Join, Meet and Is answer of any list of numbers; the closed fact on four things. -/
import Derived.WalkKit
import Derived.LoopTactic
import Derived.Test.YtkdaaaloibdngaaDoorLattice
import Derived.Test.YtkdaaaloibdngaaDoorHeld
namespace Go.Proofs.YtkdaaaloibdngaaDoor
open Go.RowKit

/-- What is above each thing. -/
abbrev abv (m : Nat) (z : List Int) : Nat → Nat := come m (rowsOf m z)

theorem order_wrong (a : Option Addr) (m cap : Nat) (z : List Int) (w : World) (h1 : AtNums w a m z) (hf : ¬ Fine m z) :
    Calls Tryd.prog 50 #[.slice a m cap] w fun e w' => e = .returned (.tuple #[.slice none 0 0, .iface 57 (.int .i64 (wrongN m))]) ∧ Below w.heap.size w w' :=
  lorder_err a m cap (wrongN m) w (Order_wrong a m cap z w h1 hf)
theorem order_ring (a : Option Addr) (m cap : Nat) (z : List Int) (hz : m ≤ z.length) (w : World) (h1 : AtNums w a m z) (hT : Tab w) (hf : Fine m z) (hn : noRing m (abv m z) = false) :
    Calls Tryd.prog 50 #[.slice a m cap] w fun e w' => e = .returned (.tuple #[.slice none 0 0, .iface 57 (.int .i64 6)]) ∧ Below w.heap.size w w' := by
  have h := Order_fine a m cap z hz w h1 hT hf
  rw [hn] at h
  exact lorder_ring a m cap w h
theorem order_in (a : Option Addr) (m cap : Nat) (z : List Int) (hz : m ≤ z.length) (w : World) (h1 : AtNums w a m z) (hT : Tab w) (hf : Fine m z) (hn : noRing m (abv m z) = true) :
    Calls Tryd.prog 50 #[.slice a m cap] w fun e w' => ∃ g, e = .returned (.tuple #[.slice (some ⟨g, 0, none⟩) m m, .nilIface]) ∧ Own w' g m (abv m z) ∧ Below w.heap.size w w' := by
  have h := Order_fine a m cap z hz w h1 hT hf
  rw [hn] at h
  exact lorder_fine a m cap _ w h fun w1 hB => Closure_fine a m cap z hz w1 (h1.below hB) (hT.below hB hT.size) hf

/-- What goes wrong, whatever two things are asked for. -/
def Bad (m : Nat) (z : List Int) (x y c : Int) : Prop :=
  (¬ Fine m z ∧ c = wrongN m) ∨ (Fine m z ∧ noRing m (abv m z) = false ∧ c = 6) ∨ (Fine m z ∧ noRing m (abv m z) = true ∧ Off2 m x y ∧ c = 1)
theorem checked_bad (a : Option Addr) (m cap : Nat) (z : List Int) (hz : m ≤ z.length) (x y c : Int) (w : World) (h1 : AtNums w a m z) (hT : Tab w) (h : Bad m z x y c) :
    Calls Tryd.prog 41 #[.slice a m cap, .int .i64 x, .int .i64 y] w fun e w' => e = .returned (.tuple #[.slice none 0 0, .iface 57 (.int .i64 c)]) ∧ Below w.heap.size w w' := by
  rcases h with ⟨hf, rfl⟩ | ⟨hf, hn, rfl⟩ | ⟨hf, hn, ho, rfl⟩
  · exact checked_err a m cap x y (wrongN m) w (order_wrong a m cap z w h1 hf)
  · exact checked_err a m cap x y 6 w (order_ring a m cap z hz w h1 hT hf hn)
  · exact checked_range a m cap x y hf.1 ho _ w (order_in a m cap z hz w h1 hT hf hn)
theorem Join_bad (a : Option Addr) (m cap : Nat) (z : List Int) (hz : m ≤ z.length) (x y c : Int) (w : World) (h1 : AtNums w a m z) (hT : Tab w) (h : Bad m z x y c) :
    Calls Tryd.prog 26 #[.slice a m cap, .int .i64 x, .int .i64 y] w fun e w' => e = .returned (.tuple #[.int .i64 0, .iface 57 (.int .i64 c)]) ∧ Below w.heap.size w w' :=
  Join_err a m cap x y c w (checked_bad a m cap z hz x y c w h1 hT h)
theorem Meet_bad (a : Option Addr) (m cap : Nat) (z : List Int) (hz : m ≤ z.length) (x y c : Int) (w : World) (h1 : AtNums w a m z) (hT : Tab w) (h : Bad m z x y c) :
    Calls Tryd.prog 27 #[.slice a m cap, .int .i64 x, .int .i64 y] w fun e w' => e = .returned (.tuple #[.int .i64 0, .iface 57 (.int .i64 c)]) ∧ Below w.heap.size w w' :=
  Meet_err a m cap x y c w (checked_bad a m cap z hz x y c w h1 hT h)

/-- All is right with the numbers, and they are an order. -/
structure Good2 (m : Nat) (z : List Int) : Prop where
  fine : Fine m z
  ring : noRing m (abv m z) = true
theorem Good2.lat {m : Nat} {z : List Int} (h : Good2 m z) (hz : m ≤ z.length) : Lat m (abv m z) := lat_of (rowsOf_right h.fine.1 hz h.fine.2) h.ring
theorem Join_in (a : Option Addr) (m cap i j : Nat) (z : List Int) (hz : m ≤ z.length) (w : World) (h1 : AtNums w a m z) (hT : Tab w) (h : Good2 m z) (hi : i < m) (hj : j < m) :
    Calls Tryd.prog 26 #[.slice a m cap, .int .i64 i, .int .i64 j] w fun e w' => e = .returned (.tuple (bndRes (bnd m (abv m z) i j))) ∧ Below w.heap.size w w' :=
  Join_fine a m cap i j _ (h.lat hz) hi hj w hT (checked_fine a m cap i j h.fine.1 hi hj _ w (order_in a m cap z hz w h1 hT h.fine h.ring))
theorem Meet_in (a : Option Addr) (m cap i j : Nat) (z : List Int) (hz : m ≤ z.length) (w : World) (h1 : AtNums w a m z) (hT : Tab w) (h : Good2 m z) (hi : i < m) (hj : j < m) :
    Calls Tryd.prog 27 #[.slice a m cap, .int .i64 i, .int .i64 j] w fun e w' => e = .returned (.tuple (bndRes (bnd m (turnN m (abv m z)) i j))) ∧ Below w.heap.size w w' :=
  Meet_fine a m cap i j _ (h.lat hz) hi hj w hT (checked_fine a m cap i j h.fine.1 hi hj _ w (order_in a m cap z hz w h1 hT h.fine h.ring))

end Go.Proofs.YtkdaaaloibdngaaDoor
