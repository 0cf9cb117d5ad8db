/- Plain facts on the letters of a label: the set that rising letters make, and that each set has just one text. -/
import Derived.Laws.BytesArg
import Derived.Test.YtomencagnppdcaaDoorMath
namespace Go.Proofs.YtomencagnppdcaaDoor

/-- The letters of a set, as numbers. -/
def lts (s : Nat) : List Nat := (memN 8 s).map fun i => 97 + i.1
/-- One letter more. -/
def letN (s c : Nat) : Option Nat := if 97 ≤ c ∧ c < 105 ∧ s / 2 ^ (c - 97) = 0 then some (s + 2 ^ (c - 97)) else none
/-- The set of letters, going on from a set; none if they do not rise. -/
def lets : Nat → List Nat → Option Nat
  | s, [] => some s
  | s, c :: l => (letN s c).bind fun t => lets t l
theorem lets_snoc (l : List Nat) (c : Nat) : ∀ s, lets s (l ++ [c]) = (lets s l).bind fun t => letN t c := by
  induction l with
  | nil => intro s; simp [lets]
  | cons a l ih =>
    intro s
    simp only [List.cons_append, lets]
    cases letN s a with
    | none => rfl
    | some t => exact ih t
theorem lets_app (l r : List Nat) : ∀ s, lets s (l ++ r) = (lets s l).bind fun t => lets t r := by
  induction l with
  | nil => intro s; simp [lets]
  | cons a l ih =>
    intro s
    simp only [List.cons_append, lets]
    cases letN s a with
    | none => rfl
    | some t => exact ih t
theorem let_fact : ((List.range 256).all fun s => (List.range 8).all fun i => (!(s / 2 ^ i == 0)) || (decide (s + 2 ^ i < 256) && (lts (s + 2 ^ i) == lts s ++ [97 + i]))) = true := by decide +kernel
theorem letN_some {s c t : Nat} (hs : s < 256) (h : letN s c = some t) : t < 256 ∧ lts t = lts s ++ [c] := by
  unfold letN at h
  split at h
  · rename_i hc
    obtain ⟨h1, h2, h3⟩ := hc
    cases h
    have a := List.all_eq_true.1 (List.all_eq_true.1 let_fact s (List.mem_range.2 hs)) (c - 97) (List.mem_range.2 (by omega))
    rw [h3] at a
    simp only [BEq.rfl, Bool.not_true, Bool.false_or, Bool.and_eq_true, decide_eq_true_eq, beq_iff_eq] at a
    obtain ⟨a1, a2⟩ := a
    rw [show 97 + (c - 97) = c by omega] at a2
    exact ⟨a1, a2⟩
  · cases h
theorem lets_some {l : List Nat} : ∀ {s t : Nat}, s < 256 → lets s l = some t → t < 256 ∧ lts t = lts s ++ l := by
  induction l with
  | nil => intro s t hs h; cases h; exact ⟨hs, by simp⟩
  | cons c l ih =>
    intro s t hs h
    simp only [lets] at h
    cases hc : letN s c with
    | none => rw [hc] at h; cases h
    | some u =>
      rw [hc] at h
      obtain ⟨hu, eu⟩ := letN_some hs hc
      obtain ⟨ht, et⟩ := ih hu h
      exact ⟨ht, by rw [et, eu]; simp⟩
theorem lts_zero : lts 0 = [] := by decide +kernel
theorem lts_fact : ((List.range 256).all fun s => lets 0 (lts s) == some s) = true := by decide +kernel
theorem lets_lts {s : Nat} (h : s < 256) : lets 0 (lts s) = some s := by
  have := List.all_eq_true.1 lts_fact s (List.mem_range.2 h)
  simpa using this
theorem lets_iff {l : List Nat} {t : Nat} : lets 0 l = some t ↔ t < 256 ∧ lts t = l := by
  constructor
  · intro h
    have := lets_some (by decide) h
    rwa [lts_zero, List.nil_append] at this
  · rintro ⟨h, rfl⟩; exact lets_lts h
theorem lts_inj {s t : Nat} (hs : s < 256) (ht : t < 256) (h : lts s = lts t) : s = t := by
  have a := lets_lts hs
  rw [h, lets_lts ht] at a
  exact (Option.some.inj a).symm
theorem letN_ok {s c : Nat} (h1 : 97 ≤ c) (h2 : c < 105) (h3 : s / 2 ^ (c - 97) = 0) : letN s c = some (s + 2 ^ (c - 97)) := if_pos ⟨h1, h2, h3⟩
theorem letN_no {s c : Nat} (h : c < 97 ∨ 105 ≤ c ∨ s / 2 ^ (c - 97) ≠ 0) : letN s c = none := if_neg fun ⟨a, b, d⟩ => by
  rcases h with h | h | h
  · omega
  · omega
  · exact h d

/-- A text's bytes, as numbers. -/
def nums (y : ByteArray) : List Nat := y.data.toList.map UInt8.toNat
theorem nums_inj {x y : ByteArray} (h : nums x = nums y) : x = y := by
  have h2 : x.data.toList = y.data.toList := by
    have inj : ∀ (a b : List UInt8), a.map UInt8.toNat = b.map UInt8.toNat → a = b := by
      intro a
      induction a with
      | nil => intro b hb; cases b with
        | nil => rfl
        | cons _ _ => cases hb
      | cons c a ih => intro b hb; cases b with
        | nil => cases hb
        | cons d b =>
          simp only [List.map_cons, List.cons.injEq] at hb
          rw [UInt8.toNat_inj.1 hb.1, ih b hb.2]
    exact inj _ _ h
  obtain ⟨⟨a⟩⟩ := x
  obtain ⟨⟨b⟩⟩ := y
  simp only at h2
  rw [h2]
theorem nums_length (y : ByteArray) : (nums y).length = y.size := by rw [nums, List.length_map]; rfl
theorem nums_take (y : ByteArray) (k : Nat) (h : k < y.size) : (nums y).take (k + 1) = (nums y).take k ++ [y[k].toNat] := by
  rw [List.take_succ_eq_append_getElem (by rw [nums_length]; exact h)]
  simp [nums]; rfl
end Go.Proofs.YtomencagnppdcaaDoor
