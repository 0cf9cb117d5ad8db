/- The walk of the law RelCloses. -/
import Derived.WalkKit
import Derived.LoopTactic
import Derived.Deep.QuietTactic
import Derived.BigQuiet
import Derived.Test.YtcddbjmockpoiaaDoorFace
namespace Go.Proofs.YtcddbjmockpoiaaDoor
open Go.RowKit

theorem bit_true (s i : Nat) (hs : s < 1048576) (hi : i < 1048576) (h : s.testBit i = true) (w : World) :
    Calls Tryd.prog 37 #[.int .i64 s, .int .i64 i] w fun e w' => e = .returned (.bool true) ∧ w' = w := by rw [← h]; exact bit_any s i hs hi w
theorem bit_false (s i : Nat) (hs : s < 1048576) (hi : i < 1048576) (h : s.testBit i = false) (w : World) :
    Calls Tryd.prog 37 #[.int .i64 s, .int .i64 i] w fun e w' => e = .returned (.bool false) ∧ w' = w := by rw [← h]; exact bit_any s i hs hi w
theorem within_true (a b : Nat) (ha : a < 1048576) (hb : b < 1048576) (h : subB a b = true) (w : World) :
    Calls Tryd.prog 21 #[.int .i64 a, .int .i64 b] w fun e w' => e = .returned (.bool true) ∧ w' = w := by rw [← h]; exact within_any a b ha hb w
theorem within_false (a b : Nat) (ha : a < 1048576) (hb : b < 1048576) (h : subB a b = false) (w : World) :
    Calls Tryd.prog 21 #[.int .i64 a, .int .i64 b] w fun e w' => e = .returned (.bool false) ∧ w' = w := by rw [← h]; exact within_any a b ha hb w

/-- Sets in memory. -/
structure Sets (w : World) (b off m : Nat) (R : Nat → Nat) : Prop where
  old : b < w.heap.size
  cell : ∀ i, i < m → w.cell? ⟨b, off + i, none⟩ = some (.int .i64 (R i : Nat))
theorem Sets.below {w w' : World} {b off m : Nat} {R : Nat → Nat} (h : Sets w b off m R) (hb : Below w.heap.size w w') : Sets w' b off m R :=
  ⟨Nat.lt_of_lt_of_le h.old hb.size, fun i hi => (hb.cell (p := ⟨b, off + i, none⟩) h.old).trans (h.cell i hi)⟩
/-- One relation is closed, and has all of another one. -/
structure Closed (m : Nat) (R C : Nat → Nat) : Prop where
  few : m ≤ 20
  lr : ∀ i, i < m → R i < 1048576
  lc : ∀ i, i < m → C i < 1048576
  self : ∀ i, i < m → (C i).testBit i = true
  all : ∀ i, i < m → subB (R i) (C i) = true
  on : ∀ i j, i < m → j < m → (C i).testBit j = true → subB (C j) (C i) = true

/-- A world from which at most was drawn. -/
def Drawn (w w' : World) : Prop := ∃ n, w' = w.drewN n
theorem Drawn.refl (w : World) : Drawn w w := ⟨0, rfl⟩
theorem Drawn.more {w w' : World} (h : Drawn w w') (n : Nat) : Drawn w (w'.drewN n) := by
  obtain ⟨k, rfl⟩ := h
  exact ⟨k + n, World.drewN_drewN ..⟩
theorem Drawn.sets {w w' : World} (h : Drawn w w') {b off m : Nat} {R : Nat → Nat} (hs : Sets w b off m R) : Sets w' b off m R := by
  obtain ⟨k, rfl⟩ := h
  exact ⟨hs.old, hs.cell⟩
theorem Drawn.below {w w' : World} (h : Drawn w w') {B : Nat} {a : World} (hb : Below B a w) : Below B a w' := by
  obtain ⟨k, rfl⟩ := h
  exact below_drawn hb k

/-- A relation goes on, and has all of another one. -/
structure GoesOn (m : Nat) (R S : Nat → Nat) : Prop where
  self : ∀ i, i < m → (S i).testBit i = true
  all : ∀ i, i < m → subB (R i) (S i) = true
  on : ∀ i j, i < m → j < m → (S i).testBit j = true → subB (S j) (S i) = true
end Go.Proofs.YtcddbjmockpoiaaDoor
