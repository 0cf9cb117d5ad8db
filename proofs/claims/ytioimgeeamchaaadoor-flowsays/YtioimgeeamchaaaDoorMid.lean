/- The walk of the law RelOrder: what is known between two rounds. -/
import Derived.WalkKit
import Derived.LoopTactic
import Derived.Test.YtioimgeeamchaaaDoorWith
namespace Go.Proofs.YtioimgeeamchaaaDoor
open Go.RowKit

theorem Own.other {w : World} {B T m k : Nat} {v : Value} {f : Nat → Nat} (h : Own w B m f) (hne : B ≠ T) : Own (w.setCell ⟨T, k, none⟩ v) B m f := by
  refine ⟨by have := h.lt; simp [World.setCell]; exact this, fun j hj => ?_, fun j hj => (World.frozen?_setCell _ _ _ _).trans (h.free j hj)⟩
  rw [World.cell?_setCell_other _ _ _ _ (fun e => hne (by cases e; rfl)), h.cell j hj]

/-- A pair that was come by ahead of another one. -/
def Bef (i j p q : Nat) : Prop := p < i ∨ (p = i ∧ q < j)
theorem Bef.next {i j p q : Nat} : Bef i (j + 1) p q ↔ Bef i j p q ∨ (p = i ∧ q = j) := by unfold Bef; omega
theorem Bef.row {i m p q : Nat} (h : q < m) : Bef (i + 1) 0 p q ↔ Bef i m p q := by unfold Bef; omega

/-- How memory stands between two rounds. -/
structure Mid (w wr : World) (B T P m : Nat) (R C : Nat → Nat) (i j : Nat) (rg : Bool) (f g : Nat → Nat) : Prop where
  bel : Below w.heap.size w wr
  oc : Own wr B m C
  ot : Own wr T m f
  op : Own wr P m g
  lf : ∀ q, q < m → f q < 2 ^ m
  lg : ∀ p, p < m → g p < 2 ^ m
  bf : ∀ q, q < m → ∀ p, (f q).testBit p = true ↔ Bef i j p q ∧ p < m ∧ (R p).testBit q = true
  bg : ∀ p, p < m → ∀ q, (g p).testBit q = true → (R p).testBit q = true
  rn : rg = true ↔ ∃ p q, p < m ∧ q < m ∧ Bef i j p q ∧ p ≠ q ∧ (C p).testBit q = true ∧ (C q).testBit p = true

theorem Mid.start {w wr : World} {B T P m : Nat} {R C : Nat → Nat} (bel : Below w.heap.size w wr) (oc : Own wr B m C) (ot : Own wr T m (fun _ => 0)) (op : Own wr P m (fun _ => 0)) :
    Mid w wr B T P m R C 0 0 false (fun _ => 0) (fun _ => 0) := by
  refine ⟨bel, oc, ot, op, fun _ _ => Nat.two_pow_pos m, fun _ _ => Nat.two_pow_pos m, fun q _ p => ?_, fun p _ q h => ?_, ?_⟩
  · simp [Bef]
  · simp at h
  · simp [Bef]
theorem Mid.row {w wr : World} {B T P m i : Nat} {R C f g : Nat → Nat} {rg : Bool} (h : Mid w wr B T P m R C i m rg f g) : Mid w wr B T P m R C (i + 1) 0 rg f g := by
  refine ⟨h.bel, h.oc, h.ot, h.op, h.lf, h.lg, fun q hq p => ?_, h.bg, ?_⟩
  · rw [Bef.row hq]; exact h.bf q hq p
  · rw [h.rn]
    constructor
    · rintro ⟨p, q, hp, hq, hb, hr⟩; exact ⟨p, q, hp, hq, (Bef.row hq).2 hb, hr⟩
    · rintro ⟨p, q, hp, hq, hb, hr⟩; exact ⟨p, q, hp, hq, (Bef.row hq).1 hb, hr⟩

/-- Whether a pair is a ring. -/
def pair (C : Nat → Nat) (i j : Nat) : Bool := !(i == j) && (C i).testBit j && (C j).testBit i
theorem Mid.ring {w wr : World} {B T P m i j : Nat} {R C f g : Nat → Nat} {rg : Bool} (h : Mid w wr B T P m R C i j rg f g) (hi : i < m) (hj : j < m) :
    (rg || pair C i j) = true ↔ ∃ p q, p < m ∧ q < m ∧ Bef i (j + 1) p q ∧ p ≠ q ∧ (C p).testBit q = true ∧ (C q).testBit p = true := by
  rw [Bool.or_eq_true, h.rn]
  simp only [pair, Bool.and_eq_true, Bool.not_eq_true', beq_eq_false_iff_ne]
  constructor
  · rintro (⟨p, q, hp, hq, hb, hr⟩ | ⟨⟨hne, h1⟩, h2⟩)
    · exact ⟨p, q, hp, hq, Bef.next.2 (.inl hb), hr⟩
    · exact ⟨i, j, hi, hj, Bef.next.2 (.inr ⟨rfl, rfl⟩), hne, h1, h2⟩
  · rintro ⟨p, q, hp, hq, hb, hne, h1, h2⟩
    rcases Bef.next.1 hb with hb | ⟨rfl, rfl⟩
    · exact .inl ⟨p, q, hp, hq, hb, hne, h1, h2⟩
    · exact .inr ⟨⟨hne, h1⟩, h2⟩

theorem or_lt {m x i : Nat} (hx : x < 2 ^ m) (hi : i < m) : x ||| 2 ^ i < 2 ^ m := Nat.or_lt_two_pow hx (Nat.pow_lt_pow_right (by decide) hi)
theorem or_bit (x i p : Nat) : (x ||| 2 ^ i).testBit p = true ↔ x.testBit p = true ∨ i = p := by
  rw [Nat.testBit_or, Nat.testBit_two_pow, Bool.or_eq_true, decide_eq_true_eq]

/-- Nothing leads there: nothing is put. -/
theorem Mid.pass {w wr : World} {B T P m i j : Nat} {R C f g : Nat → Nat} {rg rg' : Bool} (h : Mid w wr B T P m R C i j rg f g) (hi : i < m) (hj : j < m) (hrg : rg' = (rg || pair C i j)) (hR : (R i).testBit j = false) :
    Mid w wr B T P m R C i (j + 1) rg' f g := by
  subst hrg
  refine ⟨h.bel, h.oc, h.ot, h.op, h.lf, h.lg, fun q hq p => ?_, h.bg, h.ring hi hj⟩
  rw [h.bf q hq p, Bef.next]
  constructor
  · rintro ⟨hb, hr⟩; exact ⟨.inl hb, hr⟩
  · rintro ⟨hb | ⟨rfl, rfl⟩, hp, hr⟩
    · exact ⟨hb, hp, hr⟩
    · rw [hR] at hr; cases hr
/-- It leads there: it is turned. -/
theorem Mid.turn {w wr : World} {B T P m i j : Nat} {R C f g : Nat → Nat} {rg rg' : Bool} (h : Mid w wr B T P m R C i j rg f g) (hi : i < m) (hj : j < m) (hrg : rg' = (rg || pair C i j)) (hR : (R i).testBit j = true)
    (hBT : B ≠ T) (hPT : P ≠ T) (hw : w.heap.size ≤ T) :
    Mid w (wr.setCell ⟨T, j, none⟩ (.int .i64 (f j ||| 2 ^ i : Nat))) B T P m R C i (j + 1) rg' (upd f j (f j ||| 2 ^ i)) g := by
  subst hrg
  refine ⟨h.bel.setCell (p := ⟨T, j, none⟩) hw _, h.oc.other hBT, h.ot.put hj (upd_same _ _ _) (fun x _ hne => upd_other _ hne), h.op.other hPT, fun q hq => ?_, h.lg, fun q hq p => ?_, h.bg, h.ring hi hj⟩
  · by_cases e : q = j
    · subst e; rw [upd_same]; exact or_lt (h.lf q hq) hi
    · rw [upd_other _ e]; exact h.lf q hq
  · by_cases e : q = j
    · subst e
      rw [upd_same, or_bit, h.bf q hq p, Bef.next]
      constructor
      · rintro (⟨hb, hr⟩ | rfl)
        · exact ⟨.inl hb, hr⟩
        · exact ⟨.inr ⟨rfl, rfl⟩, hi, hR⟩
      · rintro ⟨hb | ⟨rfl, _⟩, hr⟩
        · exact .inl ⟨hb, hr⟩
        · exact .inr rfl
    · rw [upd_other _ e, h.bf q hq p, Bef.next]
      constructor
      · rintro ⟨hb, hr⟩; exact ⟨.inl hb, hr⟩
      · rintro ⟨hb | ⟨_, rfl⟩, hr⟩
        · exact ⟨hb, hr⟩
        · exact absurd rfl e
/-- It is kept: it is part. -/
theorem Mid.part {w wr : World} {B T P m i j j' : Nat} {R C f g : Nat → Nat} {rg : Bool} (h : Mid w wr B T P m R C i j' rg f g) (hi : i < m) (hj : j < m) (hR : (R i).testBit j = true)
    (hBP : B ≠ P) (hTP : T ≠ P) (hw : w.heap.size ≤ P) :
    Mid w (wr.setCell ⟨P, i, none⟩ (.int .i64 (g i ||| 2 ^ j : Nat))) B T P m R C i j' rg f (upd g i (g i ||| 2 ^ j)) := by
  refine ⟨h.bel.setCell (p := ⟨P, i, none⟩) hw _, h.oc.other hBP, h.ot.other hTP, h.op.put hi (upd_same _ _ _) (fun x _ hne => upd_other _ hne), h.lf, fun p hp => ?_, h.bf, fun p hp q hb => ?_, h.rn⟩
  · by_cases e : p = i
    · subst e; rw [upd_same]; exact or_lt (h.lg p hp) hj
    · rw [upd_other _ e]; exact h.lg p hp
  · by_cases e : p = i
    · subst e
      rw [upd_same, or_bit] at hb
      rcases hb with hb | rfl
      · exact h.bg p hp q hb
      · exact hR
    · rw [upd_other _ e] at hb; exact h.bg p hp q hb
end Go.Proofs.YtioimgeeamchaaaDoor
