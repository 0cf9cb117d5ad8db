/- What Join, Meet and Is answer of any list of numbers; the closed fact on four things. -/
import Derived.WalkKit
import Derived.LoopTactic
import Derived.Test.YtomencagnppdcaaDoorLattice
import Derived.Test.YtomencagnppdcaaDoorHeld
namespace Go.Proofs.YtomencagnppdcaaDoor
open Go.RowKit

/-- What is above each thing. -/
abbrev abv (m : Nat) (z : List Int) : Nat → Nat := come m (rowsOf m z)

theorem order_wrong (a : Option Addr) (m cap : Nat) (z : List Int) (w : World) (h1 : AtNums w a m z) (hf : ¬ Fine m z) :
    Calls Tryd.prog 27 #[.slice a m cap] w fun e w' => e = .returned (.tuple #[.slice none 0 0, .iface 51 (.int .i64 (wrongN m))]) ∧ Below w.heap.size w w' :=
  (OrderClosure_wrong a m cap z w h1 hf).mono fun _ _ ⟨he, hw⟩ => ⟨he, hw ▸ Below.refl _ _⟩
theorem order_ring (a : Option Addr) (m cap : Nat) (z : List Int) (hz : m ≤ z.length) (w : World) (h1 : AtNums w a m z) (hT : Tab w) (hf : Fine m z) (hn : noRing m (abv m z) = false) :
    Calls Tryd.prog 27 #[.slice a m cap] w fun e w' => e = .returned (.tuple #[.slice none 0 0, .iface 51 (.int .i64 6)]) ∧ Below w.heap.size w w' :=
  OrderClosure_no a m cap z hz w h1 hT hf hn
theorem order_in (a : Option Addr) (m cap : Nat) (z : List Int) (hz : m ≤ z.length) (w : World) (h1 : AtNums w a m z) (hT : Tab w) (hf : Fine m z) (hn : noRing m (abv m z) = true) :
    Calls Tryd.prog 27 #[.slice a m cap] w fun e w' => ∃ g, e = .returned (.tuple #[.slice (some ⟨g, 0, none⟩) m m, .nilIface]) ∧ Own w' g m (abv m z) ∧ Below w.heap.size w w' :=
  (OrderClosure_yes a m cap z hz w h1 hT hf hn).mono fun _ _ ⟨he, ho, hB⟩ => ⟨_, he, ho, hB⟩

/-- What goes wrong, whatever two things are asked for. -/
def Bad (m : Nat) (z : List Int) (x y c : Int) : Prop :=
  (¬ Fine m z ∧ c = wrongN m) ∨ (Fine m z ∧ noRing m (abv m z) = false ∧ c = 6) ∨ (Fine m z ∧ noRing m (abv m z) = true ∧ Off2 m x y ∧ c = 1)
theorem checked_bad (a : Option Addr) (m cap : Nat) (z : List Int) (hz : m ≤ z.length) (x y c : Int) (w : World) (h1 : AtNums w a m z) (hT : Tab w) (h : Bad m z x y c) :
    Calls Tryd.prog 31 #[.slice a m cap, .int .i64 x, .int .i64 y] w fun e w' => e = .returned (.tuple #[.slice none 0 0, .iface 51 (.int .i64 c)]) ∧ Below w.heap.size w w' := by
  rcases h with ⟨hf, rfl⟩ | ⟨hf, hn, rfl⟩ | ⟨hf, hn, ho, rfl⟩
  · exact checked_err a m cap x y (wrongN m) w (order_wrong a m cap z w h1 hf)
  · exact checked_err a m cap x y 6 w (order_ring a m cap z hz w h1 hT hf hn)
  · exact checked_range a m cap x y hf.1 ho _ w (order_in a m cap z hz w h1 hT hf hn)
theorem Join_bad (a : Option Addr) (m cap : Nat) (z : List Int) (hz : m ≤ z.length) (x y c : Int) (w : World) (h1 : AtNums w a m z) (hT : Tab w) (h : Bad m z x y c) :
    Calls Tryd.prog 13 #[.slice a m cap, .int .i64 x, .int .i64 y] w fun e w' => e = .returned (.tuple #[.int .i64 0, .iface 51 (.int .i64 c)]) ∧ Below w.heap.size w w' :=
  Join_err a m cap x y c w (checked_bad a m cap z hz x y c w h1 hT h)
theorem Meet_bad (a : Option Addr) (m cap : Nat) (z : List Int) (hz : m ≤ z.length) (x y c : Int) (w : World) (h1 : AtNums w a m z) (hT : Tab w) (h : Bad m z x y c) :
    Calls Tryd.prog 14 #[.slice a m cap, .int .i64 x, .int .i64 y] w fun e w' => e = .returned (.tuple #[.int .i64 0, .iface 51 (.int .i64 c)]) ∧ Below w.heap.size w w' :=
  Meet_err a m cap x y c w (checked_bad a m cap z hz x y c w h1 hT h)
theorem Is_bad (a : Option Addr) (m cap : Nat) (z : List Int) (hz : m ≤ z.length) (c : Int) (w : World) (h1 : AtNums w a m z) (hT : Tab w) (h : (¬ Fine m z ∧ c = wrongN m) ∨ (Fine m z ∧ noRing m (abv m z) = false ∧ c = 6)) :
    Calls Tryd.prog 11 #[.slice a m cap] w fun e w' => e = .returned (.tuple #[.bool false, .iface 51 (.int .i64 c)]) ∧ Below w.heap.size w w' := by
  rcases h with ⟨hf, rfl⟩ | ⟨hf, hn, rfl⟩
  · exact Is_err a m cap (wrongN m) w (order_wrong a m cap z w h1 hf)
  · exact Is_err a m cap 6 w (order_ring a m cap z hz w h1 hT hf hn)

/-- All is right with the numbers, and they are an order. -/
structure Good2 (m : Nat) (z : List Int) : Prop where
  fine : Fine m z
  ring : noRing m (abv m z) = true
theorem Good2.lat {m : Nat} {z : List Int} (h : Good2 m z) (hz : m ≤ z.length) : Lat m (abv m z) := lat_of (rowsOf_right h.fine.1 hz h.fine.2) h.ring
theorem Join_in (a : Option Addr) (m cap i j : Nat) (z : List Int) (hz : m ≤ z.length) (w : World) (h1 : AtNums w a m z) (hT : Tab w) (h : Good2 m z) (hi : i < m) (hj : j < m) :
    Calls Tryd.prog 13 #[.slice a m cap, .int .i64 i, .int .i64 j] w fun e w' => e = .returned (.tuple (bndRes (bnd m (abv m z) i j))) ∧ Below w.heap.size w w' :=
  Join_fine a m cap i j _ (h.lat hz) hi hj w hT (checked_fine a m cap i j h.fine.1 hi hj _ w (order_in a m cap z hz w h1 hT h.fine h.ring))
theorem Meet_in (a : Option Addr) (m cap i j : Nat) (z : List Int) (hz : m ≤ z.length) (w : World) (h1 : AtNums w a m z) (hT : Tab w) (h : Good2 m z) (hi : i < m) (hj : j < m) :
    Calls Tryd.prog 14 #[.slice a m cap, .int .i64 i, .int .i64 j] w fun e w' => e = .returned (.tuple (bndRes (bnd m (turnN m (abv m z)) i j))) ∧ Below w.heap.size w w' :=
  Meet_fine a m cap i j _ (h.lat hz) hi hj w hT (checked_fine a m cap i j h.fine.1 hi hj _ w (order_in a m cap z hz w h1 hT h.fine h.ring))
theorem Is_in (a : Option Addr) (m cap : Nat) (z : List Int) (hz : m ≤ z.length) (w : World) (h1 : AtNums w a m z) (hT : Tab w) (h : Good2 m z) :
    Calls Tryd.prog 11 #[.slice a m cap] w fun e w' => e = .returned (.tuple #[.bool (isLat m (abv m z)), .nilIface]) ∧ Below w.heap.size w w' := by
  have ho := order_in a m cap z hz w h1 hT h.fine h.ring
  have hL := h.lat hz
  rcases Nat.eq_zero_or_pos m with rfl | h0
  · have e : isLat 0 (abv 0 z) = false := rfl
    rw [e]
    exact Is_none a cap _ w ho
  · exact Is_some a m cap _ hL h0 w hT ho

theorem four_nums (w : World) (x y z u : Nat) : Nums (w.alloc (.cells #[.int .i64 x, .int .i64 y, .int .i64 z, .int .i64 u] 3)) w.heap.size 0 4 [(x : Int), y, z, u] := by
  have h := World.alloc_heap_new w (.cells #[.int .i64 x, .int .i64 y, .int .i64 z, .int .i64 u] 3)
  refine ⟨by simp, fun i hi => ?_⟩
  have hi' : i = 0 ∨ i = 1 ∨ i = 2 ∨ i = 3 := by omega
  rcases hi' with rfl | rfl | rfl | rfl <;> simp only [World.cell?] <;> rw [h] <;> simp
theorem fact_join (w : World) (hT : Tab w) :
    Calls Tryd.prog 13 #[.slice (some ⟨w.heap.size, 0, none⟩) 4 4, .int .i64 1, .int .i64 2] (w.alloc (.cells #[.int .i64 6, .int .i64 8, .int .i64 8, .int .i64 0] 3)) fun e w' =>
      e = .returned (.tuple #[.int .i64 3, .nilIface]) ∧ Below w.heap.size w w' := by
  have hB : Below w.heap.size w (w.alloc (.cells #[.int .i64 6, .int .i64 8, .int .i64 8, .int .i64 0] 3)) := (Below.refl _ w).alloc (Nat.le_refl _) _
  have hn := four_nums w 6 8 8 0
  have hf : Fine 4 [((6 : Nat) : Int), ((8 : Nat) : Int), ((8 : Nat) : Int), ((0 : Nat) : Int)] := ⟨by decide, fun i hi => by
    have hi' : i = 0 ∨ i = 1 ∨ i = 2 ∨ i = 3 := by omega
    rcases hi' with rfl | rfl | rfl | rfl <;> simp [Good]⟩
  have hg : Good2 4 [((6 : Nat) : Int), ((8 : Nat) : Int), ((8 : Nat) : Int), ((0 : Nat) : Int)] := ⟨hf, by decide +kernel⟩
  have hb : bnd 4 (abv 4 [((6 : Nat) : Int), ((8 : Nat) : Int), ((8 : Nat) : Int), ((0 : Nat) : Int)]) 1 2 = some 3 := by decide +kernel
  have h := Join_in (some ⟨w.heap.size, 0, none⟩) 4 4 1 2 _ (by simp) _ (.inr ⟨_, _, rfl, hn⟩) (hT.below hB hT.size) hg (by decide) (by decide)
  rw [hb] at h
  exact h.mono fun e w' ⟨he, hb⟩ => ⟨he, hB.trans (hb.mono (by simp))⟩
theorem lfact_any (w : World) (hT : Tab w) :
    Calls Tryd.prog 15 #[] w fun e w' => e = .returned (.bool true) ∧ Below w.heap.size w w' := by
  have hc := fact_join w hT
  go_enter Tryd.func15, Tryd.ntmps15
  go_wp2_with (go_at_call 13; refine hc.mono ?_; rintro e w' ⟨rfl, hB⟩)
  go_ret
  exact ⟨rfl, hB⟩
end Go.Proofs.YtomencagnppdcaaDoor
