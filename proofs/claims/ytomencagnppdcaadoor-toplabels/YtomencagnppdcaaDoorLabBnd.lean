/- The walk of the law LabelBounds. -/
import Derived.WalkKit
import Derived.LoopTactic
import Derived.Test.YtomencagnppdcaaDoorLabOrd
namespace Go.Proofs.YtomencagnppdcaaDoor
open Go.RowKit
set_option maxRecDepth 100000

/-- What lies in a label's place. -/
structure Pair (B : Nat) (W : World) (x y : Value) : Prop where
  c1 : W.cell? ⟨B, 0, none⟩ = some x
  c2 : W.cell? ⟨B, 1, none⟩ = some y
  lt : B < W.heap.size
theorem Pair.below {B : Nat} {W W' : World} {x y : Value} (h : Pair B W x y) (S : Below W.heap.size W W') : Pair B W' x y :=
  ⟨(S.cell (p := ⟨_, _, none⟩) h.lt).trans h.c1, (S.cell (p := ⟨_, _, none⟩) h.lt).trans h.c2, Nat.lt_of_lt_of_le h.lt S.size⟩
/-- A label in a new place, behind whatever was done since. -/
theorem put_of {w w' : World} {x y : Value} {t : TypeId} (S : Below (w.alloc (.cells #[x, y] t)).heap.size (w.alloc (.cells #[x, y] t)) w') : Pair w.heap.size w' x y ∧ Below w.heap.size w w' := by
  obtain ⟨c1, c2, h, hB⟩ := one_of S
  exact ⟨⟨c1, c2, h⟩, hB⟩
/-- A label is put into a new place. -/
abbrev putW (w : World) (x y : Int) : World := w.alloc (.cells #[.int .i64 x, .int .i64 y] 43)
theorem putW_below (w : World) (x y : Int) : Below w.heap.size w (putW w x y) := (Below.refl _ w).alloc (Nat.le_refl _) _

/-- What a call of Join, or of Meet, answers, from any world. -/
abbrev JoinIs (l1 s1 l2 s2 lj sj : Int) (er : Value) : Prop := ∀ W, Calls Tryd.prog 22 #[lab l1 s1, lab l2 s2] W fun e w' => e = .returned (.tuple #[lab lj sj, er]) ∧ Below W.heap.size W w'
abbrev MeetIs (l1 s1 l2 s2 lm sm : Int) (er : Value) : Prop := ∀ W, Calls Tryd.prog 23 #[lab l1 s1, lab l2 s2] W fun e w' => e = .returned (.tuple #[lab lm sm, er]) ∧ Below W.heap.size W w'

theorem subB_or {a b c : Nat} : subB (a ||| b) c = (subB a c && subB b c) := by
  rw [Bool.eq_iff_iff, Bool.and_eq_true, subB_iff, subB_iff, subB_iff]
  simp only [Nat.testBit_or, Bool.or_eq_true]
  exact ⟨fun h => ⟨fun j hj => h j (.inl hj), fun j hj => h j (.inr hj)⟩, fun ⟨h, k⟩ j hj => hj.elim (h j) (k j)⟩
theorem subB_and {a b c : Nat} : subB c (a &&& b) = (subB c a && subB c b) := by
  rw [Bool.eq_iff_iff, Bool.and_eq_true, subB_iff, subB_iff, subB_iff]
  simp only [Nat.testBit_and, Bool.and_eq_true]
  exact ⟨fun h => ⟨fun j hj => (h j hj).1, fun j hj => (h j hj).2⟩, fun ⟨h, k⟩ j hj => ⟨h j hj, k j hj⟩⟩
theorem belB_join (l1 s1 l2 s2 l s : Nat) : belB (max l1 l2) (s1 ||| s2) l s = (belB l1 s1 l s && belB l2 s2 l s) := by
  rw [Bool.eq_iff_iff, Bool.and_eq_true, belB_iff, belB_iff, belB_iff, subB_or, Bool.and_eq_true]
  exact ⟨fun ⟨h, k1, k2⟩ => ⟨⟨by omega, k1⟩, by omega, k2⟩, fun ⟨⟨h1, k1⟩, h2, k2⟩ => ⟨by omega, k1, k2⟩⟩
theorem belB_meet (l1 s1 l2 s2 l s : Nat) : belB l s (min l1 l2) (s1 &&& s2) = (belB l s l1 s1 && belB l s l2 s2) := by
  rw [Bool.eq_iff_iff, Bool.and_eq_true, belB_iff, belB_iff, belB_iff, subB_and, Bool.and_eq_true]
  exact ⟨fun ⟨h, k1, k2⟩ => ⟨⟨by omega, k1⟩, by omega, k2⟩, fun ⟨⟨h1, k1⟩, h2, k2⟩ => ⟨by omega, k1, k2⟩⟩
theorem or_lt8 {a b : Nat} (h : a < 256) (k : b < 256) : a ||| b < 256 := Nat.or_lt_two_pow (n := 8) h k
theorem and_lt8 {a b : Nat} (h : a < 256) : a &&& b < 256 := Nat.lt_of_le_of_lt Nat.and_le_left h
theorem ab_cases (t u : Bool) : (t = false ∧ (t && u) = false) ∨ (t = true ∧ (t && u) = u) := by cases t <;> simp

end Go.Proofs.YtomencagnppdcaaDoor
