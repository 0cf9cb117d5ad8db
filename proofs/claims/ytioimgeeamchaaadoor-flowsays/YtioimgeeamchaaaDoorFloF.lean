/- What flows into what in so many steps, plainly; which levels are wrong; the highest level of what flows into a variable. -/
import Derived.Test.YtioimgeeamchaaaDoorFloE
import Derived.Test.YtioimgeeamchaaaDoorMath
namespace Go.Proofs.YtioimgeeamchaaaDoor
open Go.RowKit
set_option maxRecDepth 100000
set_option linter.unusedVariables false

theorem rowF_small {l : List Nod} (hG : Good l) (v : Nat) : rowF l v < 2 ^ 6 := lt_of_bits fun j hj => rowF_lt hG hj
/-- The rows of what flows into each variable at once. -/
def rowsF (l : List Nod) : List Nat := (List.range 6).map (rowF l)
theorem rowsF_get (l : List Nod) {i : Nat} (hi : i < 6) : (rowsF l).getD i 0 = rowF l i := by simp [rowsF, hi]
theorem rowsF_right {l : List Nod} (hG : Good l) : Right 6 (rowsF l) := by
  refine ⟨by decide, by simp [rowsF], fun i => ?_⟩
  by_cases hi : i < 6
  · rw [rowsF_get l hi]; exact rowF_small hG i
  · have : (rowsF l).getD i 0 = 0 := by simp [rowsF, hi]
    rw [this]; decide
/-- Of each variable those from which it is come to, as bits. -/
def comF (l : List Nod) (i : Nat) : Nat := come 6 (rowsF l) i
def cF (l : List Nod) (i j : Nat) : Bool := (comF l i).testBit j
theorem comF_lt {l : List Nod} (hG : Good l) {i : Nat} (hi : i < 6) : comF l i < 2 ^ 6 := come_lt (rowsF_right hG) hi
theorem cF_iff {l : List Nod} (hG : Good l) {i : Nat} (hi : i < 6) (j : Nat) : cF l i j = true ↔ Reach (rowsF l) i j := come_bit (rowsF_right hG) hi j
theorem cF_flw {l : List Nod} (hG : Good l) : Flw (cF l) where
  re := fun i hi => (cF_iff hG hi i).2 (Reach.refl _ _)
  tr := fun i j k hi hj hk h1 h2 => (cF_iff hG hi k).2 (((cF_iff hG hi j).1 h1).trans ((cF_iff hG hj k).1 h2))
theorem cF_row {l : List Nod} (hG : Good l) {v w : Nat} (hv : v < 6) (h : (rowF l v).testBit w = true) : cF l v w = true :=
  (cF_iff hG hv w).2 ((Reach.refl _ _).step (by rw [rowsF_get l hv]; exact h))
/-- The closure of a closure is as it was. -/
theorem come_again {rows rows2 : List Nat} (hr : Right 6 rows) (hr2 : Right 6 rows2) (h : ∀ i, i < 6 → rows2.getD i 0 = come 6 rows i) {i : Nat} (hi : i < 6) : come 6 rows2 i = come 6 rows i := eq_of_bits fun j => by
  rw [come_bit hr2 hi]
  constructor
  · intro hR
    exact (hR (fun k => k < 6 ∧ (come 6 rows i).testBit k = true) ⟨hi, (come_bit hr hi i).2 (Reach.refl _ _)⟩ fun a b ⟨ha, hb⟩ hab => by
      rw [h a ha] at hab
      exact ⟨bit_lt (come_lt hr ha) hab, (come_bit hr hi b).2 (((come_bit hr hi a).1 hb).trans ((come_bit hr ha b).1 hab))⟩).2
  · intro hj
    exact (Reach.refl _ _).step (by rw [h i hi]; exact hj)

/-- What is wrong with levels. -/
def levB (lv : Nat → Int) (low : Int) : Bool := (List.range 6).any fun j => decide (lv j < low ∨ 7 < lv j)
def levC (n : Nat) (lv : Nat → Int) (low : Int) : Int := if n ≠ 6 then 3 else if levB lv low = true then 1 else 0
theorem levB_ok {lv : Nat → Int} {low : Int} : levB lv low = false ↔ ∀ j, j < 6 → low ≤ lv j ∧ lv j ≤ 7 := by
  unfold levB
  rw [List.any_eq_false]
  simp only [List.mem_range, decide_eq_true_eq]
  exact ⟨fun h j hj => by have := h j hj; omega, fun h j hj => by have := h j hj; omega⟩
theorem levC_ok {n : Nat} {lv : Nat → Int} {low : Int} (h : levC n lv low = 0) : n = 6 ∧ ∀ j, j < 6 → low ≤ lv j ∧ lv j ≤ 7 := by
  unfold levC at h
  by_cases hn : n = 6
  · rw [if_neg (by omega)] at h
    cases hb : levB lv low with
    | true => rw [hb, if_pos rfl] at h; cases h
    | false => exact ⟨hn, levB_ok.1 hb⟩
  · rw [if_pos hn] at h; cases h
theorem levC_six {lv : Nat → Int} {low : Int} : levC 6 lv low = if levB lv low = true then 1 else 0 := by unfold levC; rw [if_neg (by decide)]
theorem levB_bad {lv : Nat → Int} {low : Int} {j : Nat} (hj : j < 6) (h : lv j < low ∨ 7 < lv j) : levB lv low = true := by
  cases hb : levB lv low with
  | true => rfl
  | false => have := levB_ok.1 hb j hj; omega
theorem levC_bad {lv : Nat → Int} {low : Int} {j : Nat} (hj : j < 6) (h : lv j < low ∨ 7 < lv j) : levC 6 lv low = 1 := by rw [levC_six, levB_bad hj h, if_pos rfl]
theorem levC_fine {lv : Nat → Int} {low : Int} (h : ∀ j, j < 6 → low ≤ lv j ∧ lv j ≤ 7) : levC 6 lv low = 0 := by rw [levC_six, levB_ok.2 h, if_neg (by decide)]
/-- What is wrong with a program and levels; and where none fit. -/
def fitC (l : List Nod) (n : Nat) (lv : Nat → Int) (low : Int) : Int := if proC l ≠ 0 then proC l else levC n lv low
def lstC (l : List Nod) (n : Nat) (lv : Nat → Int) : Int := if fitC l n lv (-1) ≠ 0 then fitC l n lv (-1) else if toldB (cF l) lv = true then 0 else 6
theorem fitC_ok {l : List Nod} {n : Nat} {lv : Nat → Int} {low : Int} (h : fitC l n lv low = 0) : proC l = 0 ∧ n = 6 ∧ ∀ j, j < 6 → low ≤ lv j ∧ lv j ≤ 7 := by
  unfold fitC at h
  by_cases hp : proC l = 0
  · rw [if_neg (by omega)] at h
    exact ⟨hp, levC_ok h⟩
  · rw [if_pos hp] at h; exact absurd h hp
theorem fitC_pro {l : List Nod} {n : Nat} {lv : Nat → Int} {low : Int} (hp : proC l = 0) : fitC l n lv low = levC n lv low := by unfold fitC; rw [if_neg (by omega)]
theorem fitC_bad {l : List Nod} {n : Nat} {lv : Nat → Int} {low : Int} (hp : proC l ≠ 0) : fitC l n lv low = proC l := by unfold fitC; rw [if_pos hp]

/-- The highest level of some. -/
def mxL (lv : Nat → Int) (pre : List (Thing 6)) : Int := pre.foldl (fun a i => max a (lv i.1)) 0
theorem mxL_snoc (lv : Nat → Int) (pre : List (Thing 6)) (i : Thing 6) : mxL lv (pre ++ [i]) = max (mxL lv pre) (lv i.1) := by simp [mxL]
theorem mxL_gen (lv : Nat → Int) : ∀ (pre : List (Thing 6)) (a : Int), a ≤ pre.foldl (fun a i => max a (lv i.1)) a ∧ (∀ i ∈ pre, lv i.1 ≤ pre.foldl (fun a i => max a (lv i.1)) a) ∧ ∀ b, a ≤ b → (∀ i ∈ pre, lv i.1 ≤ b) → pre.foldl (fun a i => max a (lv i.1)) a ≤ b
  | [], a => ⟨Int.le_refl _, fun i hi => absurd hi List.not_mem_nil, fun b h _ => h⟩
  | x :: pre, a => by
    obtain ⟨h1, h2, h3⟩ := mxL_gen lv pre (max a (lv x.1))
    simp only [List.foldl_cons]
    refine ⟨by omega, fun i hi => ?_, fun b hb h => h3 b (by have := h x (by simp); omega) fun i hi => h i (by simp [hi])⟩
    rcases List.mem_cons.1 hi with rfl | hi
    · omega
    · exact h2 i hi
theorem mxL_all {set : Nat} (hs : set < 2 ^ 6) (lv : Nat → Int) (c : Nat → Nat → Bool) (i : Nat) (hc : ∀ j, c i j = set.testBit j) : mxL lv (memN 6 set) = mx c lv i 6 := by
  obtain ⟨h1, h2, h3⟩ := mxL_gen lv (memN 6 set) 0
  refine Int.le_antisymm (h3 _ (mx_nonneg c lv i 6) fun j hj => mx_ge c lv i 6 j.1 j.2 ?_) (mx_le c lv i _ h1 6 fun j hj hcj => h2 ⟨j, hj⟩ ?_)
  · rw [hc]; exact (memN_iff (by decide) hs j).1 hj
  · rw [hc] at hcj; exact (memN_iff (by decide) hs ⟨j, hj⟩).2 hcj
/-- The highest level of what flows into a variable. -/
def ndF (l : List Nod) (lv : Nat → Int) (i : Nat) : Int := mx (cF l) lv i 6
theorem ndF_is {l : List Nod} (hG : Good l) (lv : Nat → Int) {i : Nat} (hi : i < 6) : mxL lv (memN 6 (comF l i)) = ndF l lv i := mxL_all (comF_lt hG hi) lv (cF l) i fun j => rfl
theorem ndF_bnd {l : List Nod} {lv : Nat → Int} (h : ∀ j, j < 6 → lv j ≤ 7) (i : Nat) : 0 ≤ ndF l lv i ∧ ndF l lv i ≤ 7 := ⟨mx_nonneg _ _ _ _, mx_le _ _ _ _ (by decide) _ fun j hj _ => h j hj⟩
theorem ndF_self {l : List Nod} (hG : Good l) {lv : Nat → Int} {i : Nat} (hi : i < 6) : lv i ≤ ndF l lv i := mx_ge _ _ _ _ _ hi ((cF_flw hG).re i hi)
/-- All are as high as what flows into them just where they fit. -/
theorem nd_fits {l : List Nod} (hG : Good l) {lv : Nat → Int} (h0 : ∀ j, j < 6 → 0 ≤ lv j) : (∀ i, i < 6 → ndF l lv i = lv i) ↔ FitsP (cF l) lv := by
  constructor
  · intro h i hi j hj hc
    rw [← h i hi]
    exact mx_ge _ _ _ _ _ hj hc
  · intro h i hi
    exact Int.le_antisymm (mx_le _ _ _ _ (h0 i hi) _ fun j hj hc => h i hi j hj hc) (ndF_self hG hi)
theorem nd_told {l : List Nod} (hG : Good l) {lv : Nat → Int} (h0 : ∀ j, j < 6 → -1 ≤ lv j) : (∀ i, i < 6 → lv i = -1 ∨ lv i = ndF l lv i) ↔ ToldP (cF l) lv := by
  constructor
  · intro h i hi j hj hc h1
    rcases h i hi with e | e
    · omega
    · rw [e]; exact mx_ge _ _ _ _ _ hj hc
  · intro h i hi
    by_cases e : lv i = -1
    · exact .inl e
    · have := h0 i hi
      exact .inr (Int.le_antisymm (ndF_self hG hi) (mx_le _ _ _ _ (by omega) _ fun j hj hc => h i hi j hj hc (by omega)))
theorem nd_least {l : List Nod} (hG : Good l) {lv : Nat → Int} (h0 : ∀ j, j < 6 → -1 ≤ lv j) (h : ToldP (cF l) lv) {i : Nat} (hi : i < 6) : ndF l lv i = leastI (cF l) lv i := by
  unfold leastI
  by_cases e : 0 ≤ lv i
  · rw [if_pos e]
    rcases (nd_told hG h0).2 h i hi with q | q
    · omega
    · exact q.symm
  · rw [if_neg e]; rfl

/-- What flows in by the Sets among the first nodes. -/
def stF (l : List Nod) (i : Nat) : Nat := nm l (nthD l i).pa.toNat ||| ctx l i
def rowP (l : List Nod) (v : Nat) : Nat → Nat
  | 0 => 0
  | i + 1 => if (nthD l i).kd = 6 ∧ (nthD l i).num.toNat = v then rowP l v i ||| stF l i else rowP l v i
theorem rowP_bit (l : List Nod) (v w : Nat) : ∀ n, (rowP l v n).testBit w = true ↔ ∃ i, i < n ∧ (nthD l i).kd = 6 ∧ (nthD l i).num.toNat = v ∧ (stF l i).testBit w = true
  | 0 => by simp [rowP]
  | n + 1 => by
    rw [rowP]
    constructor
    · intro h
      split at h
      · rename_i q
        rw [Nat.testBit_or, Bool.or_eq_true] at h
        rcases h with h | h
        · obtain ⟨i, hi, k⟩ := (rowP_bit l v w n).1 h
          exact ⟨i, by omega, k⟩
        · exact ⟨n, by omega, q.1, q.2, h⟩
      · obtain ⟨i, hi, k⟩ := (rowP_bit l v w n).1 h
        exact ⟨i, by omega, k⟩
    · rintro ⟨i, hi, k1, k2, k3⟩
      by_cases e : i = n
      · subst e
        rw [if_pos ⟨k1, k2⟩, Nat.testBit_or, k3, Bool.or_true]
      · have := (rowP_bit l v w n).2 ⟨i, by omega, k1, k2, k3⟩
        split
        · rw [Nat.testBit_or, this]; rfl
        · exact this
theorem rowP_all {l : List Nod} (h : proC l = 0) (v : Nat) : rowP l v l.length = rowF l v := eq_of_bits fun w => by
  rw [rowP_bit]
  exact (flw_whole h v w).symm
theorem ctx_none {l : List Nod} {i : Nat} (e : abv l i = none) : ctx l i = 0 := by
  unfold ctx
  cases hl : l.length with
  | zero => rfl
  | succ f => rw [ctxE, e]
/-- A node above, as a number. -/
def abI (o : Option Nat) : Int := match o with | none => -1 | some k => (k : Int)
theorem dpt_iff (x : Nod) (i : Int) : i ∈ dpt x ↔ ∃ j, (prtL x)[j]? = some i ∧ valB x.kd j = false := by
  have vb : ∀ j, valB x.kd j = false ↔ ¬ (x.kd < 5 ∨ (j = 0 ∧ x.kd ≠ 7)) := fun j => by unfold valB; rw [decide_eq_false_iff_not]
  simp only [vb]
  unfold dpt prtL
  by_cases h7 : x.kd = 7
  · rw [if_pos h7, if_neg (by omega), if_neg (by omega), if_pos (.inr (.inl h7))]
    constructor
    · intro h
      obtain ⟨j, hj⟩ := List.mem_iff_getElem?.1 h
      exact ⟨j, hj, by omega⟩
    · rintro ⟨j, hj, _⟩
      exact List.mem_of_getElem? hj
  rw [if_neg h7]
  by_cases h8 : x.kd = 8
  · rw [if_pos h8, if_pos h8]
    constructor
    · intro h
      obtain ⟨j, hj⟩ := List.mem_iff_getElem?.1 h
      exact ⟨j + 1, by simpa using hj, by omega⟩
    · rintro ⟨j, hj, hv⟩
      match j, hj, hv with
      | 0, _, hv => exact absurd (.inr ⟨rfl, h7⟩) hv
      | j + 1, hj, _ => exact List.mem_of_getElem? (i := j) (by simpa using hj)
  rw [if_neg h8, if_neg h8]
  by_cases h9 : x.kd = 9
  · rw [if_pos h9, if_neg (by omega), if_pos (.inr (.inr h9))]
    constructor
    · intro h
      obtain ⟨j, hj⟩ := List.mem_iff_getElem?.1 h
      exact ⟨j + 1, by simpa using hj, by omega⟩
    · rintro ⟨j, hj, hv⟩
      match j, hj, hv with
      | 0, _, hv => exact absurd (.inr ⟨rfl, h7⟩) hv
      | j + 1, hj, _ => exact List.mem_of_getElem? (i := j) (by simpa using hj)
  rw [if_neg h9]
  constructor
  · intro h; cases h
  · rintro ⟨j, hj, hv⟩
    exfalso
    by_cases h6 : x.kd = 6
    · rw [if_pos h6] at hj
      match j, hj with
      | 0, _ => exact hv (.inr ⟨rfl, h7⟩)
      | j + 1, hj => simp at hj
    · rw [if_neg h6] at hj
      by_cases h2 : (2 ≤ x.kd ∧ x.kd ≤ 4) ∨ x.kd = 7 ∨ x.kd = 9
      · exact hv (.inl (by omega))
      · rw [if_neg h2] at hj; simp at hj
/-- The parts of a value are values. -/
theorem parts_val {l : List Nod} (hG : Good l) {i : Nat} (hi : i < l.length) (h5 : (nthD l i).kd < 5) {j : Nat} {p : Int} (h : (prtL (nthD l i))[j]? = some p) : ∃ q : Nat, p = (q : Int) ∧ q < i ∧ (nthD l q).kd < 5 := by
  have hkd := hG.kd hi
  by_cases h2 : 2 ≤ (nthD l i).kd ∧ (nthD l i).kd ≤ 4
  · obtain ⟨a, b, ea, eb, ha, hb, ka, kb⟩ := hG.two hi h2
    unfold prtL at h
    rw [if_neg (by omega), if_neg (by omega), if_pos (.inl h2), ea, eb] at h
    match j, h with
    | 0, h => cases h; exact ⟨a, rfl, by omega, ka⟩
    | 1, h => cases h; exact ⟨b, rfl, by omega, kb⟩
    | j + 2, h => simp at h
  · unfold prtL at h
    rw [if_neg (by omega), if_neg (by omega), if_neg (by omega)] at h
    simp at h
/-- The variables of the first of some values. -/
def orP (l : List Nod) (ps : List Int) : Nat → Nat
  | 0 => 0
  | k + 1 => orP l ps k ||| nm l (ps.getD k 0).toNat
theorem nm_orP {l : List Nod} (hG : Good l) {i : Nat} (hi : i < l.length) (h5 : (nthD l i).kd < 5) (h1 : (nthD l i).kd ≠ 1) : nm l i = orP l (prtL (nthD l i)) (prtL (nthD l i)).length := by
  have hkd := hG.kd hi
  by_cases h2 : 2 ≤ (nthD l i).kd ∧ (nthD l i).kd ≤ 4
  · have e : prtL (nthD l i) = [(nthD l i).pa, (nthD l i).pb] := by
      unfold prtL
      rw [if_neg (by omega), if_neg (by omega), if_pos (.inl h2)]
    rw [nm_two hG.r.wf hi h2, e]
    simp [orP]
  · have e : prtL (nthD l i) = [] := by
      unfold prtL
      rw [if_neg (by omega), if_neg (by omega), if_neg (by omega)]
    rw [nm_num (by omega), e]
    rfl
theorem nm_small {l : List Nod} (hG : Good l) {i : Nat} (hi : i < l.length) (h5 : (nthD l i).kd < 5) : nm l i < 2 ^ 6 := lt_of_bits fun j hj => nm_lt hG (i + 1) i (Nat.lt_succ_self _) hi h5 j hj
theorem or_small {a b : Nat} (h : a < 2 ^ 6) (k : b < 2 ^ 6) : a ||| b < 2 ^ 6 := Nat.or_lt_two_pow h k
theorem orP_small {l : List Nod} {ps : List Int} (h : ∀ (j : Nat) (p : Int), ps[j]? = some p → nm l p.toNat < 2 ^ 6) : ∀ k, k ≤ ps.length → orP l ps k < 2 ^ 6
  | 0, _ => show 0 < 2 ^ 6 by decide
  | k + 1, hk => by
    rw [orP]
    refine or_small (orP_small h k (by omega)) ?_
    have := h k (ps.getD k 0) (by rw [List.getD_eq_getElem?_getD, List.getElem?_eq_getElem (by omega)]; rfl)
    exact this
theorem ctx_small {l : List Nod} (h : proC l = 0) : ∀ (f i : Nat), ctxE f l i < 2 ^ 6
  | 0, i => show 0 < 2 ^ 6 by decide
  | f + 1, i => by
    rw [ctxE]
    cases e : abv l i with
    | none => exact (show 0 < 2 ^ 6 by decide)
    | some k =>
      obtain ⟨h1, h2, _⟩ := abv_some h e
      refine or_small ?_ (ctx_small h f k)
      have hG := good_of h
      split
      · rename_i c
        rcases c with c | c
        · obtain ⟨a, b, d, ea, eb, ed, ha, hb, hd, ka, kb, kd⟩ := hG.ifN h1 c
          rw [ea, Int.toNat_natCast]; exact nm_small hG (by omega) ka
        · obtain ⟨a, b, ea, eb, ha, hb, ka, kb⟩ := hG.whlN h1 c
          rw [ea, Int.toNat_natCast]; exact nm_small hG (by omega) ka
      · decide
end Go.Proofs.YtioimgeeamchaaaDoor
