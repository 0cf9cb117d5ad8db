/- What programs do, plainly: the value of a node; what a deed does with the variables, and how much fuel is left. -/
import Derived.Test.YtioimgeeamchaaaDoorProE
namespace Go.Proofs.YtioimgeeamchaaaDoor
open Go.RowKit
set_option maxRecDepth 100000
set_option linter.unusedVariables false

/-- What the parts of each node are. -/
structure Typed (l : List Nod) : Prop where
  val : ∀ i, i < l.length → ∀ k (p : Int), (prtL (nthD l i))[k]? = some p → decide ((nthD l p.toNat).kd < 5) = valB (nthD l i).kd k
theorem prtC_typed {l : List Nod} {i : Nat} {kd : Int} : ∀ (ps : List Int) (k : Nat) (u u' : Nat → Nat), prtC l i kd k ps u = (0, u') → ∀ j (p : Int), ps[j]? = some p → decide ((nthD l p.toNat).kd < 5) = valB kd (k + j)
  | [], _, _, _, _, _, _, h => by simp at h
  | q :: ps, k, u, u', h, j, p, hp => by
    rw [prtC] at h
    by_cases h1 : q < 0 ∨ (i : Int) ≤ q
    · rw [if_pos h1] at h; cases h
    · rw [if_neg h1] at h
      by_cases h2 : 1 < u q.toNat + 1 ∨ decide ((nthD l q.toNat).kd < 5) ≠ valB kd k
      · rw [if_pos h2] at h; cases h
      · rw [if_neg h2] at h
        rw [not_or] at h2
        cases j with
        | zero =>
          simp only [List.getElem?_cons_zero, Option.some.injEq] at hp
          subst hp
          exact Classical.not_not.1 h2.2
        | succ j =>
          simp only [List.getElem?_cons_succ] at hp
          have := prtC_typed ps (k + 1) _ u' h j p hp
          rw [this, show k + 1 + j = k + (j + 1) by omega]
theorem typed_of {l : List Nod} (h : proC l = 0) : Typed l := by
  unfold proC at h
  split at h
  · cases h
  split at h
  · cases h
  split at h
  · rename_i q; exact absurd h q
  rename_i q
  refine ⟨fun i hi k p hp => ?_⟩
  have hn : ∃ u, nodC l l.length = (0, u) := ⟨(nodC l l.length).2, by rw [← Classical.not_not.1 q]⟩
  obtain ⟨u, hu⟩ := hn
  obtain ⟨v, hv⟩ : ∃ v, nodC l (i + 1) = (0, v) := nodC_stop (m := l.length - (i + 1)) (by rw [show i + 1 + (l.length - (i + 1)) = l.length by omega]; exact hu)
  obtain ⟨v', _, _, h3⟩ := nodC_inv hv
  have := prtC_typed _ 0 _ _ h3 k p hp
  rw [this, Nat.zero_add]

/-- A node's value. -/
def vlE : Nat → List Nod → Nat → (Nat → Int) → Int
  | 0, _, _, _ => 0
  | k + 1, l, i, s =>
    if (nthD l i).kd = 0 then (nthD l i).num else if (nthD l i).kd = 1 then s (nthD l i).num.toNat
    else if (nthD l i).kd = 2 then
      if 999999 < vlE k l (nthD l i).pa.toNat s + vlE k l (nthD l i).pb.toNat s then vlE k l (nthD l i).pa.toNat s + vlE k l (nthD l i).pb.toNat s - 1000000 else vlE k l (nthD l i).pa.toNat s + vlE k l (nthD l i).pb.toNat s
    else if ((nthD l i).kd = 3 ∧ vlE k l (nthD l i).pa.toNat s < vlE k l (nthD l i).pb.toNat s) ∨ ((nthD l i).kd = 4 ∧ vlE k l (nthD l i).pa.toNat s = vlE k l (nthD l i).pb.toNat s) then 1 else 0
def vl (l : List Nod) (i : Nat) (s : Nat → Int) : Int := vlE (i + 1) l i s
theorem wf_two {l : List Nod} (h : WfN l) {i : Nat} (hi : i < l.length) (hk : (2 ≤ (nthD l i).kd ∧ (nthD l i).kd ≤ 4) ∨ (nthD l i).kd = 7 ∨ (nthD l i).kd = 9) :
    (nthD l i).pa.toNat < i ∧ (nthD l i).pb.toNat < i ∧ 0 ≤ (nthD l i).pa ∧ 0 ≤ (nthD l i).pb := by
  have hp : prtL (nthD l i) = [(nthD l i).pa, (nthD l i).pb] := by
    unfold prtL; rw [if_neg (by omega), if_neg (by omega), if_pos hk]
  have h1 := h i hi (nthD l i).pa (by rw [hp]; simp)
  have h2 := h i hi (nthD l i).pb (by rw [hp]; simp)
  omega
theorem wf_set {l : List Nod} (h : WfN l) {i : Nat} (hi : i < l.length) (hk : (nthD l i).kd = 6) : (nthD l i).pa.toNat < i ∧ 0 ≤ (nthD l i).pa := by
  have hp : prtL (nthD l i) = [(nthD l i).pa] := by
    unfold prtL; rw [if_neg (by omega), if_pos hk]
  have h1 := h i hi (nthD l i).pa (by rw [hp]; simp)
  omega
theorem wf_if {l : List Nod} (h : WfN l) {i : Nat} (hi : i < l.length) (hk : (nthD l i).kd = 8) : (nthD l i).pa.toNat < i ∧ (nthD l i).pb.toNat < i ∧ (nthD l i).pc.toNat < i ∧ 0 ≤ (nthD l i).pa ∧ 0 ≤ (nthD l i).pb ∧ 0 ≤ (nthD l i).pc := by
  have hp : prtL (nthD l i) = [(nthD l i).pa, (nthD l i).pb, (nthD l i).pc] := by
    unfold prtL; rw [if_pos hk]
  have h1 := h i hi (nthD l i).pa (by rw [hp]; simp)
  have h2 := h i hi (nthD l i).pb (by rw [hp]; simp)
  have h3 := h i hi (nthD l i).pc (by rw [hp]; simp)
  omega
theorem vlE_fuel {l : List Nod} (hw : WfN l) {s : Nat → Int} : ∀ (m i : Nat), i < m → i < l.length → ∀ k k', i < k → i < k' → vlE k l i s = vlE k' l i s
  | 0, _, h, _ => absurd h (by omega)
  | m + 1, i, him, hi => fun k k' hk hk' => by
    obtain ⟨k, rfl⟩ : ∃ q, k = q + 1 := ⟨k - 1, by omega⟩
    obtain ⟨k', rfl⟩ : ∃ q, k' = q + 1 := ⟨k' - 1, by omega⟩
    rw [vlE, vlE]
    by_cases h : 2 ≤ (nthD l i).kd ∧ (nthD l i).kd ≤ 4
    · obtain ⟨a1, a2, _, _⟩ := wf_two hw hi (.inl h)
      rw [vlE_fuel hw m _ (by omega) (by omega) k k' (by omega) (by omega), vlE_fuel hw m _ (by omega) (by omega) k k' (by omega) (by omega)]
    · split
      · rfl
      split
      · rfl
      split
      · omega
      rw [if_neg (by omega), if_neg (by omega)]
/-- The variables are within their bounds. -/
def Bnd6 (s : Nat → Int) : Prop := ∀ j, j < 6 → 0 ≤ s j ∧ s j ≤ 999999
theorem vlE_bnd {l : List Nod} (hR : RightP l) {s : Nat → Int} (hs : Bnd6 s) : ∀ (k i : Nat), i < l.length → 0 ≤ vlE k l i s ∧ vlE k l i s ≤ 999999
  | 0, _, _ => by rw [vlE]; omega
  | k + 1, i, hi => by
    have hk := hR.kin i hi
    unfold kinB at hk
    simp only [decide_eq_true_eq] at hk
    obtain ⟨k0, k9, kn, kv⟩ := hk
    rw [vlE]
    split
    · rename_i h; exact kn h
    split
    · rename_i h; have := kv (.inl h); exact hs _ (by omega)
    split
    · rename_i h
      obtain ⟨a1, a2, _, _⟩ := wf_two hR.wf hi (.inl (by omega))
      have b1 := vlE_bnd hR hs k (nthD l i).pa.toNat (by omega)
      have b2 := vlE_bnd hR hs k (nthD l i).pb.toNat (by omega)
      split <;> omega
    · split <;> omega

/-- One variable put anew. -/
def upv (s : Nat → Int) (k : Nat) (v : Int) : Nat → Int := fun x => if x = k then v else s x
theorem upv_bnd {s : Nat → Int} (h : Bnd6 s) {k : Nat} {v : Int} (hv : 0 ≤ v ∧ v ≤ 999999) : Bnd6 (upv s k v) := fun j hj => by
  unfold upv; split
  · exact hv
  · exact h j hj
abbrev Rn := Option ((Nat → Int) × Nat)
/-- What a deed does, with so much fuel left; none: it did not last. -/
def exN (l : List Nod) : Nat → Nat → (Nat → Int) → Nat → Rn
  | 0, _, _, _ => none
  | k + 1, i, s, f =>
    if (nthD l i).kd = 5 then some (s, f)
    else if (nthD l i).kd = 7 then (exN l k (nthD l i).pa.toNat s f).bind fun r => exN l k (nthD l i).pb.toNat r.1 r.2
    else if f = 0 then none
    else if (nthD l i).kd = 6 then some (upv s (nthD l i).num.toNat (vl l (nthD l i).pa.toNat s), f - 1)
    else if (nthD l i).kd = 8 then exN l k (if vl l (nthD l i).pa.toNat s ≠ 0 then (nthD l i).pb else (nthD l i).pc).toNat s (f - 1)
    else if vl l (nthD l i).pa.toNat s = 0 then some (s, f - 1)
    else (exN l k (nthD l i).pb.toNat s (f - 1)).bind fun r => exN l k i r.1 r.2
theorem rbind {x : Rn} {g : (Nat → Int) × Nat → Rn} {b : (Nat → Int) × Nat} (h : x.bind g = some b) : ∃ a, x = some a ∧ g a = some b := by
  cases x with
  | none => cases h
  | some a => exact ⟨a, rfl, h⟩
theorem exN_le {l : List Nod} : ∀ (k i : Nat) (s : Nat → Int) (f : Nat) (r : (Nat → Int) × Nat), exN l k i s f = some r → r.2 ≤ f
  | 0, _, _, _, _, h => by cases h
  | k + 1, i, s, f, r, h => by
    rw [exN] at h
    split at h
    · cases h; exact Nat.le_refl _
    split at h
    · obtain ⟨a, h1, h2⟩ := rbind h
      exact Nat.le_trans (exN_le k _ _ _ _ h2) (exN_le k _ _ _ _ h1)
    split at h
    · cases h
    split at h
    · cases h; exact Nat.sub_le _ _
    split at h
    · exact Nat.le_trans (exN_le k _ _ _ _ h) (Nat.sub_le _ _)
    split at h
    · cases h; exact Nat.sub_le _ _
    · obtain ⟨a, h1, h2⟩ := rbind h
      exact Nat.le_trans (exN_le k _ _ _ _ h2) (Nat.le_trans (exN_le k _ _ _ _ h1) (Nat.sub_le _ _))
/-- A right program, with what is known of its parts. -/
structure Good (l : List Nod) : Prop where
  r : RightP l
  t : Typed l
theorem good_of {l : List Nod} (h : proC l = 0) : Good l := ⟨rightP_of h, typed_of h⟩
theorem Good.kd {l : List Nod} (h : Good l) {i : Nat} (hi : i < l.length) : 0 ≤ (nthD l i).kd ∧ (nthD l i).kd ≤ 9 := by
  have hk := h.r.kin i hi
  unfold kinB at hk
  simp only [decide_eq_true_eq] at hk
  exact ⟨hk.1, hk.2.1⟩
theorem Good.both {l : List Nod} (h : Good l) {i : Nat} (hi : i < l.length) (h7 : (nthD l i).kd = 7) : ((nthD l i).pa.toNat < i ∧ 5 ≤ (nthD l (nthD l i).pa.toNat).kd) ∧ (nthD l i).pb.toNat < i ∧ 5 ≤ (nthD l (nthD l i).pb.toNat).kd := by
  obtain ⟨a1, a2, a3, a4⟩ := wf_two h.r.wf hi (.inr (.inl h7))
  have hp : prtL (nthD l i) = [(nthD l i).pa, (nthD l i).pb] := by unfold prtL; rw [if_neg (by omega), if_neg (by omega), if_pos (.inr (.inl h7))]
  have t1 := h.t.val i hi 0 _ (by rw [hp]; rfl)
  have t2 := h.t.val i hi 1 _ (by rw [hp]; rfl)
  unfold valB at t1 t2
  rw [decide_eq_decide] at t1 t2
  omega
theorem Good.if {l : List Nod} (h : Good l) {i : Nat} (hi : i < l.length) (h8 : (nthD l i).kd = 8) : (nthD l i).pa.toNat < i ∧ ((nthD l i).pb.toNat < i ∧ 5 ≤ (nthD l (nthD l i).pb.toNat).kd) ∧ (nthD l i).pc.toNat < i ∧ 5 ≤ (nthD l (nthD l i).pc.toNat).kd := by
  obtain ⟨a1, a2, a3, b1, b2, b3⟩ := wf_if h.r.wf hi h8
  have hp : prtL (nthD l i) = [(nthD l i).pa, (nthD l i).pb, (nthD l i).pc] := by unfold prtL; rw [if_pos h8]
  have t1 := h.t.val i hi 1 _ (by rw [hp]; rfl)
  have t2 := h.t.val i hi 2 _ (by rw [hp]; rfl)
  unfold valB at t1 t2
  rw [decide_eq_decide] at t1 t2
  omega
theorem Good.whl {l : List Nod} (h : Good l) {i : Nat} (hi : i < l.length) (h9 : (nthD l i).kd = 9) : (nthD l i).pa.toNat < i ∧ (nthD l i).pb.toNat < i ∧ 5 ≤ (nthD l (nthD l i).pb.toNat).kd := by
  obtain ⟨a1, a2, a3, a4⟩ := wf_two h.r.wf hi (.inr (.inr h9))
  have hp : prtL (nthD l i) = [(nthD l i).pa, (nthD l i).pb] := by unfold prtL; rw [if_neg (by omega), if_neg (by omega), if_pos (.inr (.inr h9))]
  have t2 := h.t.val i hi 1 _ (by rw [hp]; rfl)
  unfold valB at t2
  rw [decide_eq_decide] at t2
  omega
theorem Good.var {l : List Nod} (h : Good l) {i : Nat} (hi : i < l.length) (h6 : (nthD l i).kd = 1 ∨ (nthD l i).kd = 6) : ∃ k : Nat, (nthD l i).num = (k : Int) ∧ k < 6 := by
  have hk := h.r.kin i hi
  unfold kinB at hk
  simp only [decide_eq_true_eq] at hk
  have := hk.2.2.2 h6
  exact ⟨(nthD l i).num.toNat, by omega, by omega⟩
theorem exN_fuel {l : List Nod} (hG : Good l) : ∀ (m i f : Nat), i + f < m → i < l.length → 5 ≤ (nthD l i).kd → ∀ s k k', i + f < k → i + f < k' → exN l k i s f = exN l k' i s f
  | 0, _, _, h, _, _ => absurd h (by omega)
  | m + 1, i, f, him, hi, h5 => fun s k k' hk1 hk2 => by
    obtain ⟨k, rfl⟩ : ∃ q, k = q + 1 := ⟨k - 1, by omega⟩
    obtain ⟨k', rfl⟩ : ∃ q, k' = q + 1 := ⟨k' - 1, by omega⟩
    have hkd := hG.kd hi
    rw [exN, exN]
    split
    · rfl
    split
    · rename_i h7
      obtain ⟨⟨a1, b1⟩, a2, b2⟩ := hG.both hi h7
      rw [exN_fuel hG m _ f (by omega) (by omega) b1 s k k' (by omega) (by omega)]
      cases e : exN l k' (nthD l i).pa.toNat s f with
      | none => rfl
      | some r =>
        have hle := exN_le _ _ _ _ _ e
        exact exN_fuel hG m _ r.2 (by omega) (by omega) b2 r.1 k k' (by omega) (by omega)
    split
    · rfl
    rename_i hf
    split
    · rfl
    split
    · rename_i h8
      obtain ⟨a1, ⟨a2, b2⟩, a3, b3⟩ := hG.if hi h8
      split
      · exact exN_fuel hG m _ (f - 1) (by omega) (by omega) b2 s k k' (by omega) (by omega)
      · exact exN_fuel hG m _ (f - 1) (by omega) (by omega) b3 s k k' (by omega) (by omega)
    split
    · rfl
    · have h9 : (nthD l i).kd = 9 := by omega
      obtain ⟨a1, a2, b2⟩ := hG.whl hi h9
      rw [exN_fuel hG m _ (f - 1) (by omega) (by omega) b2 s k k' (by omega) (by omega)]
      cases e : exN l k' (nthD l i).pb.toNat s (f - 1) with
      | none => rfl
      | some r =>
        have hle := exN_le _ _ _ _ _ e
        exact exN_fuel hG m i r.2 (by omega) hi h5 r.1 k k' (by omega) (by omega)
/-- More fuel: the same, and as much more is left. -/
theorem exN_more {l : List Nod} (d : Nat) : ∀ (k i : Nat) (s : Nat → Int) (f : Nat) (r : (Nat → Int) × Nat), exN l k i s f = some r → exN l k i s (f + d) = some (r.1, r.2 + d)
  | 0, _, _, _, _, h => by cases h
  | k + 1, i, s, f, r, h => by
    rw [exN] at h ⊢
    split at h
    · rename_i c; rw [if_pos c]; cases h; rfl
    rename_i c
    rw [if_neg c]
    split at h
    · rename_i c; rw [if_pos c]
      obtain ⟨a, h1, h2⟩ := rbind h
      rw [exN_more d k _ _ _ _ h1]
      exact exN_more d k _ _ _ _ h2
    rename_i c
    rw [if_neg c]
    split at h
    · cases h
    rename_i hf
    rw [if_neg (by omega), show f + d - 1 = f - 1 + d by omega]
    split at h
    · rename_i c; rw [if_pos c]; cases h; rfl
    rename_i c
    rw [if_neg c]
    split at h
    · rename_i c; rw [if_pos c]; exact exN_more d k _ _ _ _ h
    rename_i c
    rw [if_neg c]
    split at h
    · rename_i c; rw [if_pos c]; cases h; rfl
    · rename_i c; rw [if_neg c]
      obtain ⟨a, h1, h2⟩ := rbind h
      rw [exN_more d k _ _ _ _ h1]
      exact exN_more d k _ _ _ _ h2
/-- Less fuel: the same, as far as it lasts. -/
theorem exN_spare {l : List Nod} : ∀ (k i : Nat) (s : Nat → Int) (f : Nat) (r : (Nat → Int) × Nat), exN l k i s f = some r → ∀ g, g ≤ r.2 → exN l k i s (f - g) = some (r.1, r.2 - g)
  | 0, _, _, _, _, h => by cases h
  | k + 1, i, s, f, r, h => fun g hg => by
    rw [exN] at h ⊢
    split at h
    · rename_i c; rw [if_pos c]; cases h; rfl
    rename_i c
    rw [if_neg c]
    split at h
    · rename_i c; rw [if_pos c]
      obtain ⟨a, h1, h2⟩ := rbind h
      have := exN_le _ _ _ _ _ h2
      rw [exN_spare k _ _ _ _ h1 g (by omega)]
      exact exN_spare k _ _ _ _ h2 g hg
    rename_i c
    rw [if_neg c]
    split at h
    · cases h
    rename_i hf
    split at h
    · rename_i c; cases h
      simp only at hg
      rw [if_neg (by omega), if_pos c, show f - g - 1 = f - 1 - g by omega]
    rename_i c6
    split at h
    · rename_i c
      have := exN_le _ _ _ _ _ h
      rw [if_neg (by omega), if_neg c6, if_pos c, show f - g - 1 = f - 1 - g by omega]; exact exN_spare k _ _ _ _ h g hg
    rename_i c8
    split at h
    · rename_i c; cases h
      simp only at hg
      rw [if_neg (by omega), if_neg c6, if_neg c8, if_pos c, show f - g - 1 = f - 1 - g by omega]
    · rename_i c
      obtain ⟨a, h1, h2⟩ := rbind h
      have l1 := exN_le _ _ _ _ _ h1
      have l2 := exN_le _ _ _ _ _ h2
      rw [if_neg (by omega), if_neg c6, if_neg c8, if_neg c, show f - g - 1 = f - 1 - g by omega, exN_spare k _ _ _ _ h1 g (by omega)]
      exact exN_spare k _ _ _ _ h2 g hg
/-- What no Set names stays; the variables stay within their bounds. -/
theorem exN_keeps {l : List Nod} (hG : Good l) {v : Nat} : ∀ (k i : Nat), i < l.length → 5 ≤ (nthD l i).kd → (∀ j, j < l.length → (nthD l j).kd = 6 → (nthD l j).num.toNat ≠ v) → ∀ (s : Nat → Int) (f : Nat) (r : (Nat → Int) × Nat), exN l k i s f = some r → r.1 v = s v
  | 0, _, _, _, _, _, _, _, h => by cases h
  | k + 1, i, hi, h5, hn, s, f, r, h => by
    have hkd := hG.kd hi
    rw [exN] at h
    split at h
    · cases h; rfl
    split at h
    · rename_i c
      obtain ⟨⟨a1, b1⟩, a2, b2⟩ := hG.both hi c
      obtain ⟨a, h1, h2⟩ := rbind h
      rw [exN_keeps hG k _ (by omega) b2 hn _ _ _ h2]
      exact exN_keeps hG k _ (by omega) b1 hn _ _ _ h1
    split at h
    · cases h
    split at h
    · rename_i c; cases h
      have := hn i hi c
      show upv s _ _ v = s v
      unfold upv
      rw [if_neg (fun q => this q.symm)]
    split at h
    · rename_i c
      obtain ⟨a1, ⟨a2, b2⟩, a3, b3⟩ := hG.if hi c
      split at h
      · exact exN_keeps hG k _ (by omega) b2 hn _ _ _ h
      · exact exN_keeps hG k _ (by omega) b3 hn _ _ _ h
    split at h
    · cases h; rfl
    · have c9 : (nthD l i).kd = 9 := by omega
      obtain ⟨a1, a2, b2⟩ := hG.whl hi c9
      obtain ⟨a, h1, h2⟩ := rbind h
      rw [exN_keeps hG k i hi h5 hn _ _ _ h2]
      exact exN_keeps hG k _ (by omega) b2 hn _ _ _ h1
theorem exN_bnd {l : List Nod} (hG : Good l) : ∀ (k i : Nat), i < l.length → 5 ≤ (nthD l i).kd → ∀ (s : Nat → Int) (f : Nat) (r : (Nat → Int) × Nat), Bnd6 s → exN l k i s f = some r → Bnd6 r.1
  | 0, _, _, _, _, _, _, _, h => by cases h
  | k + 1, i, hi, h5, s, f, r, hs, h => by
    have hkd := hG.kd hi
    rw [exN] at h
    split at h
    · cases h; exact hs
    split at h
    · rename_i c
      obtain ⟨⟨a1, b1⟩, a2, b2⟩ := hG.both hi c
      obtain ⟨a, h1, h2⟩ := rbind h
      exact exN_bnd hG k _ (by omega) b2 _ _ _ (exN_bnd hG k _ (by omega) b1 _ _ _ hs h1) h2
    split at h
    · cases h
    split at h
    · rename_i c; cases h
      obtain ⟨a1, _⟩ := wf_set hG.r.wf hi c
      exact upv_bnd hs (vlE_bnd hG.r hs _ _ (by omega))
    split at h
    · rename_i c
      obtain ⟨a1, ⟨a2, b2⟩, a3, b3⟩ := hG.if hi c
      split at h
      · exact exN_bnd hG k _ (by omega) b2 _ _ _ hs h
      · exact exN_bnd hG k _ (by omega) b3 _ _ _ hs h
    split at h
    · cases h; exact hs
    · have c9 : (nthD l i).kd = 9 := by omega
      obtain ⟨a1, a2, b2⟩ := hG.whl hi c9
      obtain ⟨a, h1, h2⟩ := rbind h
      exact exN_bnd hG k i hi h5 _ _ _ (exN_bnd hG k _ (by omega) b2 _ _ _ hs h1) h2

/-- A deed, with as much recursion as it may want. -/
def ex (l : List Nod) (i : Nat) (s : Nat → Int) (f : Nat) : Rn := exN l (i + f + 1) i s f
theorem ex_eq {l : List Nod} (hG : Good l) {i f k : Nat} (hi : i < l.length) (h5 : 5 ≤ (nthD l i).kd) (hk : i + f < k) (s : Nat → Int) : exN l k i s f = ex l i s f := exN_fuel hG (i + f + 1) i f (by omega) hi h5 s k _ hk (by omega)
theorem ex_skip {l : List Nod} {i f : Nat} {s : Nat → Int} (h : (nthD l i).kd = 5) : ex l i s f = some (s, f) := by rw [ex, exN, if_pos h]
theorem ex_both {l : List Nod} (hG : Good l) {i f : Nat} {s : Nat → Int} (hi : i < l.length) (h : (nthD l i).kd = 7) : ex l i s f = (ex l (nthD l i).pa.toNat s f).bind fun r => ex l (nthD l i).pb.toNat r.1 r.2 := by
  obtain ⟨⟨a1, b1⟩, a2, b2⟩ := hG.both hi h
  rw [ex, exN, if_neg (by omega), if_pos h, ex_eq hG (by omega) b1 (by omega)]
  cases e : ex l (nthD l i).pa.toNat s f with
  | none => rfl
  | some r =>
    have := exN_le _ _ _ _ _ e
    exact ex_eq hG (by omega) b2 (by omega) _
theorem ex_out {l : List Nod} {i : Nat} {s : Nat → Int} (h1 : (nthD l i).kd ≠ 5) (h2 : (nthD l i).kd ≠ 7) : ex l i s 0 = none := by rw [ex, exN, if_neg h1, if_neg h2, if_pos rfl]
theorem ex_set {l : List Nod} {i f : Nat} {s : Nat → Int} (h : (nthD l i).kd = 6) : ex l i s (f + 1) = some (upv s (nthD l i).num.toNat (vl l (nthD l i).pa.toNat s), f) := by rw [ex, exN, if_neg (by omega), if_neg (by omega), if_neg (by omega), if_pos h]; rfl
theorem ex_then {l : List Nod} (hG : Good l) {i f : Nat} {s : Nat → Int} (hi : i < l.length) (h : (nthD l i).kd = 8) (hv : vl l (nthD l i).pa.toNat s ≠ 0) : ex l i s (f + 1) = ex l (nthD l i).pb.toNat s f := by
  obtain ⟨a1, ⟨a2, b2⟩, a3, b3⟩ := hG.if hi h
  rw [ex, exN, if_neg (by omega), if_neg (by omega), if_neg (by omega), if_neg (by omega), if_pos h, if_pos hv]
  exact ex_eq hG (by omega) b2 (by omega) _
theorem ex_else {l : List Nod} (hG : Good l) {i f : Nat} {s : Nat → Int} (hi : i < l.length) (h : (nthD l i).kd = 8) (hv : vl l (nthD l i).pa.toNat s = 0) : ex l i s (f + 1) = ex l (nthD l i).pc.toNat s f := by
  obtain ⟨a1, ⟨a2, b2⟩, a3, b3⟩ := hG.if hi h
  rw [ex, exN, if_neg (by omega), if_neg (by omega), if_neg (by omega), if_neg (by omega), if_pos h, if_neg (by simpa using hv)]
  exact ex_eq hG (by omega) b3 (by omega) _
theorem ex_stop {l : List Nod} {i f : Nat} {s : Nat → Int} (h : (nthD l i).kd = 9) (hv : vl l (nthD l i).pa.toNat s = 0) : ex l i s (f + 1) = some (s, f) := by
  rw [ex, exN, if_neg (by omega), if_neg (by omega), if_neg (by omega), if_neg (by omega), if_neg (by omega), if_pos hv]; rfl
theorem ex_round {l : List Nod} (hG : Good l) {i f : Nat} {s : Nat → Int} (hi : i < l.length) (h : (nthD l i).kd = 9) (hv : vl l (nthD l i).pa.toNat s ≠ 0) : ex l i s (f + 1) = (ex l (nthD l i).pb.toNat s f).bind fun r => ex l i r.1 r.2 := by
  obtain ⟨a1, a2, b2⟩ := hG.whl hi h
  rw [ex, exN, if_neg (by omega), if_neg (by omega), if_neg (by omega), if_neg (by omega), if_neg (by omega), if_neg hv]
  rw [show f + 1 - 1 = f from rfl, ex_eq hG (by omega) b2 (by omega)]
  cases e : ex l (nthD l i).pb.toNat s f with
  | none => rfl
  | some r =>
    have := exN_le _ _ _ _ _ e
    exact ex_eq hG hi (by omega) (by omega) _
/-- The whole. -/
def runP (l : List Nod) (s : Nat → Int) (f : Nat) : Rn := ex l (l.length - 1) s f
theorem runP_more {l : List Nod} (hG : Good l) {s : Nat → Int} {f : Nat} {r : (Nat → Int) × Nat} (h : runP l s f = some r) (d : Nat) : runP l s (f + d) = some (r.1, r.2 + d) := by
  have h0 := hG.r.some
  have h1 : exN l (l.length - 1 + (f + d) + 1) (l.length - 1) s f = some r := (ex_eq hG (by omega) hG.r.deed (by omega) s).trans h
  exact exN_more d _ _ _ _ _ h1
theorem runP_spare {l : List Nod} (hG : Good l) {s : Nat → Int} {f : Nat} {r : (Nat → Int) × Nat} (h : runP l s f = some r) {g : Nat} (hg : g ≤ r.2) : runP l s (f - g) = some (r.1, r.2 - g) := by
  have h0 := hG.r.some
  have hle := exN_le _ _ _ _ _ h
  rw [runP, ← ex_eq hG (by omega) hG.r.deed (k := l.length - 1 + f + 1) (by omega) s]
  exact exN_spare _ _ _ _ _ h g hg
theorem runP_le {l : List Nod} {s : Nat → Int} {f : Nat} {r : (Nat → Int) × Nat} (h : runP l s f = some r) : r.2 ≤ f := exN_le _ _ _ _ _ h
/-- With just what it burnt it ends; with less it does not. -/
theorem runP_just {l : List Nod} (hG : Good l) {s : Nat → Int} {f : Nat} {r : (Nat → Int) × Nat} (h : runP l s f = some r) : runP l s (f - r.2) = some (r.1, 0) := by
  have := runP_spare hG h (Nat.le_refl _)
  rw [Nat.sub_self] at this
  exact this
theorem runP_less {l : List Nod} (hG : Good l) {s : Nat → Int} {f m : Nat} {r : (Nat → Int) × Nat} (h : runP l s f = some r) (hm : m < f - r.2) : runP l s m = none := by
  have h1 := runP_just hG h
  cases e : runP l s m with
  | none => rfl
  | some q =>
    have h2 := runP_more hG e (f - r.2 - m)
    rw [show m + (f - r.2 - m) = f - r.2 by omega, h1] at h2
    have := congrArg Prod.snd (Option.some.inj h2)
    simp only at this
    omega
theorem runP_keeps {l : List Nod} (hG : Good l) {s : Nat → Int} {f : Nat} {r : (Nat → Int) × Nat} (h : runP l s f = some r) {v : Nat} (hn : ∀ j, j < l.length → (nthD l j).kd = 6 → (nthD l j).num.toNat ≠ v) : r.1 v = s v := by
  have h0 := hG.r.some
  exact exN_keeps hG _ _ (by omega) hG.r.deed hn _ _ _ h
theorem runP_bnd {l : List Nod} (hG : Good l) {s : Nat → Int} {f : Nat} {r : (Nat → Int) × Nat} (hs : Bnd6 s) (h : runP l s f = some r) : Bnd6 r.1 := by
  have h0 := hG.r.some
  exact exN_bnd hG _ _ (by omega) hG.r.deed _ _ _ hs h
/-- The value of a node, by those of its parts. -/
def opV (kd a b : Int) : Int := if kd = 2 then (if 999999 < a + b then a + b - 1000000 else a + b) else if (kd = 3 ∧ a < b) ∨ (kd = 4 ∧ a = b) then 1 else 0
theorem vl_num {l : List Nod} {i : Nat} {s : Nat → Int} (h : (nthD l i).kd = 0) : vl l i s = (nthD l i).num := by rw [vl, vlE, if_pos h]
theorem vl_var {l : List Nod} {i : Nat} {s : Nat → Int} (h : (nthD l i).kd = 1) : vl l i s = s (nthD l i).num.toNat := by rw [vl, vlE, if_neg (by omega), if_pos h]
theorem vl_two {l : List Nod} (hw : WfN l) {i : Nat} {s : Nat → Int} (hi : i < l.length) (h : 2 ≤ (nthD l i).kd ∧ (nthD l i).kd ≤ 4) : vl l i s = opV (nthD l i).kd (vl l (nthD l i).pa.toNat s) (vl l (nthD l i).pb.toNat s) := by
  obtain ⟨a1, a2, _, _⟩ := wf_two hw hi (.inl h)
  have e1 : vlE i l (nthD l i).pa.toNat s = vl l (nthD l i).pa.toNat s := vlE_fuel hw i _ a1 (by omega) _ _ a1 (by omega)
  have e2 : vlE i l (nthD l i).pb.toNat s = vl l (nthD l i).pb.toNat s := vlE_fuel hw i _ a2 (by omega) _ _ a2 (by omega)
  rw [vl, vlE, if_neg (by omega), if_neg (by omega), e1, e2]
  rfl
theorem Good.two {l : List Nod} (h : Good l) {i : Nat} (hi : i < l.length) (hk : 2 ≤ (nthD l i).kd ∧ (nthD l i).kd ≤ 4) : ∃ a b : Nat, (nthD l i).pa = (a : Int) ∧ (nthD l i).pb = (b : Int) ∧ a < i ∧ b < i ∧ (nthD l a).kd < 5 ∧ (nthD l b).kd < 5 := by
  obtain ⟨a1, a2, a3, a4⟩ := wf_two h.r.wf hi (.inl hk)
  have hp : prtL (nthD l i) = [(nthD l i).pa, (nthD l i).pb] := by unfold prtL; rw [if_neg (by omega), if_neg (by omega), if_pos (.inl hk)]
  have t1 := h.t.val i hi 0 _ (by rw [hp]; rfl)
  have t2 := h.t.val i hi 1 _ (by rw [hp]; rfl)
  unfold valB at t1 t2
  rw [decide_eq_decide] at t1 t2
  exact ⟨_, _, (Int.toNat_of_nonneg a3).symm, (Int.toNat_of_nonneg a4).symm, a1, a2, by omega, by omega⟩
end Go.Proofs.YtioimgeeamchaaaDoor
