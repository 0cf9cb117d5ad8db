/- What leads to each thing (Turned). -/
import Derived.WalkKit
import Derived.LoopTactic
import Derived.RegionTactic
import Derived.Test.YtioimgeeamchaaaDoorRowk
namespace Go.Proofs.YtioimgeeamchaaaDoor
open Go.RowKit

/-- The numbers below k with a property, as a set. -/
def setOf (p : Nat → Bool) : Nat → Nat
  | 0 => 0
  | k + 1 => if p k then setOf p k ||| 2 ^ k else setOf p k
theorem setOf_bit (p : Nat → Bool) : ∀ (k x : Nat), (setOf p k).testBit x = true ↔ x < k ∧ p x = true
  | 0, x => by simp [setOf]
  | k + 1, x => by
    have ih := setOf_bit p k x
    unfold setOf
    split
    · rename_i h
      rw [or_bit, ih]
      constructor
      · rintro (⟨h1, h2⟩ | rfl)
        · exact ⟨by omega, h2⟩
        · exact ⟨by omega, h⟩
      · rintro ⟨h1, h2⟩
        by_cases e : x = k
        · exact .inr e.symm
        · exact .inl ⟨by omega, h2⟩
    · rename_i h
      rw [ih]
      constructor
      · rintro ⟨h1, h2⟩
        exact ⟨by omega, h2⟩
      · rintro ⟨h1, h2⟩
        refine ⟨?_, h2⟩
        by_cases e : x = k
        · subst e; exact absurd h2 h
        · omega
theorem setOf_lt (p : Nat → Bool) (k : Nat) : setOf p k < 2 ^ k := lt_of_bits fun j hj => ((setOf_bit p k j).1 hj).1
/-- What leads to a thing. -/
def turnN (m : Nat) (R : Nat → Nat) (q : Nat) : Nat := setOf (fun x => (R x).testBit q) m
theorem turnN_bit (m : Nat) (R : Nat → Nat) (q x : Nat) : (turnN m R q).testBit x = true ↔ x < m ∧ (R x).testBit q = true := setOf_bit _ m x
theorem turnN_lt (m : Nat) (R : Nat → Nat) (q : Nat) : turnN m R q < 2 ^ m := setOf_lt _ m
/-- What is turned when k things are over, and i rows are looked at for the next one. -/
def tpart (m : Nat) (R : Nat → Nat) (k i j : Nat) : Nat := if j < k then turnN m R j else if j = k then setOf (fun x => (R x).testBit k) i else 0
theorem tpart_start (m : Nat) (R : Nat → Nat) (j : Nat) : tpart m R 0 0 j = 0 := by
  unfold tpart
  simp [setOf]
theorem tpart_here (m : Nat) (R : Nat → Nat) (k i : Nat) : tpart m R k i k = setOf (fun x => (R x).testBit k) i := by simp [tpart]
theorem tpart_other (m : Nat) (R : Nat → Nat) {k i i' j : Nat} (h : j ≠ k) : tpart m R k i j = tpart m R k i' j := by simp [tpart, h]
theorem tpart_row (m : Nat) (R : Nat → Nat) (k j : Nat) : tpart m R k m j = tpart m R (k + 1) 0 j := by
  unfold tpart
  by_cases h1 : j < k
  · rw [if_pos h1, if_pos (by omega)]
  · by_cases h2 : j = k
    · subst h2
      rw [if_neg h1, if_pos rfl, if_pos (by omega)]; rfl
    · rw [if_neg h1, if_neg h2, if_neg (by omega)]
      split <;> rfl
theorem tpart_end (m : Nat) (R : Nat → Nat) {j : Nat} (h : j < m) : tpart m R m 0 j = turnN m R j := by simp [tpart, h]

/-- What leads to each of m things, in the form of the layers' proof. -/
def TurnedTo (m : Nat) (R : Nat → Nat) (k : Nat) (p : Nat → Prop) (f : Nat → Nat) : Prop :=
  ∀ q, q < m → f q < 2 ^ m ∧ ∀ x, (f q).testBit x = true ↔ (x < k ∧ (R x).testBit q = true) ∨ (x = k ∧ p q)

theorem own_kept {w w' : World} {B m : Nat} {f : Nat → Nat} {row : Option Nat} (h : Own w B m f) (hg : w.grownBy w' row) (hr : ∀ r, row = some r → ∃ o : Obj, w.heap[r]? = some o ∧ o.isCells = false) : Own w' B m f :=
  ⟨Nat.lt_of_lt_of_le h.lt hg.size, fun j hj => cell_kept (h.cell j hj) hg hr, fun j hj => (frozen_kept (h.cell j hj) hg hr).trans (h.free j hj)⟩

end Go.Proofs.YtioimgeeamchaaaDoor
