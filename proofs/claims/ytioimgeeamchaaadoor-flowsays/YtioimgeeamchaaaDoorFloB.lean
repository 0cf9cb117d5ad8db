/- Levels, plainly: which fit, and the least that do. -/
import Derived.Test.YtioimgeeamchaaaDoorFloA
namespace Go.Proofs.YtioimgeeamchaaaDoor
open Go.RowKit
set_option maxRecDepth 100000
set_option linter.unusedVariables false

/-- What flows into what: from each into itself, and on. -/
structure Flw (c : Nat → Nat → Bool) : Prop where
  re : ∀ i, i < 6 → c i i = true
  tr : ∀ i j k, i < 6 → j < 6 → k < 6 → c i j = true → c j k = true → c i k = true
def FitsP (c : Nat → Nat → Bool) (l : Nat → Int) : Prop := ∀ i, i < 6 → ∀ j, j < 6 → c i j = true → l j ≤ l i
def ToldP (c : Nat → Nat → Bool) (m : Nat → Int) : Prop := ∀ i, i < 6 → ∀ j, j < 6 → c i j = true → 0 ≤ m i → m j ≤ m i
def fitsB (c : Nat → Nat → Bool) (l : Nat → Int) : Bool := (List.range 6).all fun i => (List.range 6).all fun j => !c i j || decide (l j ≤ l i)
def toldB (c : Nat → Nat → Bool) (m : Nat → Int) : Bool := (List.range 6).all fun i => (List.range 6).all fun j => !c i j || decide (m i < 0) || decide (m j ≤ m i)
theorem fitsB_iff (c : Nat → Nat → Bool) (l : Nat → Int) : fitsB c l = true ↔ FitsP c l := by
  unfold fitsB FitsP
  simp only [List.all_eq_true, List.mem_range, Bool.or_eq_true, Bool.not_eq_true', decide_eq_true_eq]
  constructor
  · intro h i hi j hj hc
    rcases h i hi j hj with q | q
    · rw [hc] at q; cases q
    · exact q
  · intro h i hi j hj
    cases hc : c i j with
    | false => exact .inl rfl
    | true => exact .inr (h i hi j hj hc)
theorem toldB_iff (c : Nat → Nat → Bool) (m : Nat → Int) : toldB c m = true ↔ ToldP c m := by
  unfold toldB ToldP
  simp only [List.all_eq_true, List.mem_range, Bool.or_eq_true, Bool.not_eq_true', decide_eq_true_eq]
  constructor
  · intro h i hi j hj hc h0
    rcases h i hi j hj with (q | q) | q
    · rw [hc] at q; cases q
    · omega
    · exact q
  · intro h i hi j hj
    cases hc : c i j with
    | false => exact .inl (.inl rfl)
    | true =>
      by_cases h0 : m i < 0
      · exact .inl (.inr h0)
      · exact .inr (h i hi j hj hc (by omega))
/-- The greatest that is told of what flows into i, of the first t. -/
def mx (c : Nat → Nat → Bool) (m : Nat → Int) (i : Nat) : Nat → Int
  | 0 => 0
  | t + 1 => if c i t = true ∧ mx c m i t < m t then m t else mx c m i t
theorem mx_nonneg (c : Nat → Nat → Bool) (m : Nat → Int) (i : Nat) : ∀ t, 0 ≤ mx c m i t
  | 0 => by rw [mx]; omega
  | t + 1 => by
    have := mx_nonneg c m i t
    rw [mx]; split <;> omega
theorem mx_ge (c : Nat → Nat → Bool) (m : Nat → Int) (i : Nat) : ∀ t j, j < t → c i j = true → m j ≤ mx c m i t
  | 0, j, h, _ => absurd h (by omega)
  | t + 1, j, h, hc => by
    rw [mx]
    by_cases e : j = t
    · subst e
      split
      · omega
      · rename_i q; rw [not_and] at q; have := q hc; omega
    · have := mx_ge c m i t j (by omega) hc
      split
      · rename_i q; omega
      · exact this
theorem mx_le (c : Nat → Nat → Bool) (m : Nat → Int) (i : Nat) (b : Int) (h0 : 0 ≤ b) : ∀ t, (∀ j, j < t → c i j = true → m j ≤ b) → mx c m i t ≤ b
  | 0, _ => by rw [mx]; exact h0
  | t + 1, h => by
    rw [mx]
    split
    · rename_i q; exact h t (by omega) q.1
    · exact mx_le c m i b h0 t fun j hj => h j (by omega)
def leastI (c : Nat → Nat → Bool) (m : Nat → Int) (i : Nat) : Int := if 0 ≤ m i then m i else mx c m i 6
theorem least_told {c : Nat → Nat → Bool} {m : Nat → Int} {i : Nat} (h : 0 ≤ m i) : leastI c m i = m i := by rw [leastI, if_pos h]
theorem least_fits {c : Nat → Nat → Bool} (hc : Flw c) {m : Nat → Int} (h : ToldP c m) : FitsP c (leastI c m) := by
  intro i hi j hj hij
  have hk : ∀ k, k < 6 → c j k = true → c i k = true := fun k hk q => hc.tr i j k hi hj hk hij q
  unfold leastI
  by_cases h1 : 0 ≤ m i
  · rw [if_pos h1]
    by_cases h2 : 0 ≤ m j
    · rw [if_pos h2]; exact h i hi j hj hij h1
    · rw [if_neg h2]
      exact mx_le c m j (m i) h1 6 fun k hk6 q => h i hi k hk6 (hk k hk6 q) h1
  · rw [if_neg h1]
    by_cases h2 : 0 ≤ m j
    · rw [if_pos h2]; exact mx_ge c m i 6 j hj hij
    · rw [if_neg h2]
      exact mx_le c m j _ (mx_nonneg c m i 6) 6 fun k hk6 q => mx_ge c m i 6 k hk6 (hk k hk6 q)
/-- Whatever fits and is as it is told is nowhere lower. -/
theorem least_least {c : Nat → Nat → Bool} {m l : Nat → Int} (hl : FitsP c l) (h0 : ∀ i, i < 6 → 0 ≤ l i) (hm : ∀ i, i < 6 → m i < 0 ∨ m i = l i) : ∀ i, i < 6 → leastI c m i ≤ l i := fun i hi => by
  unfold leastI
  by_cases h1 : 0 ≤ m i
  · rw [if_pos h1]
    have := hm i hi
    omega
  · rw [if_neg h1]
    refine mx_le c m i _ (h0 i hi) 6 fun j hj q => ?_
    have := hl i hi j hj q
    have := hm j hj
    have := h0 i hi
    omega
theorem told_of_fits {c : Nat → Nat → Bool} {m l : Nat → Int} (hl : FitsP c l) (h0 : ∀ i, i < 6 → 0 ≤ l i) (hm : ∀ i, i < 6 → m i < 0 ∨ m i = l i) : ToldP c m := fun i hi j hj q h1 => by
  have := hl i hi j hj q
  have := hm i hi
  have := hm j hj
  omega
/-- Levels that fit bound a set into which nothing else flows. -/
theorem level_closed {c : Nat → Nat → Bool} {l : Nat → Int} (hl : FitsP c l) (b : Int) {v w : Nat} (hv : v < 6) (hw : w < 6) (h : l v ≤ b) (q : c v w = true) : l w ≤ b := Int.le_trans (hl v hv w hw q) h
end Go.Proofs.YtioimgeeamchaaaDoor
