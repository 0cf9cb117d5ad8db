/- What flows where in a program, plainly; levels, plainly; what the laws on flows ask. -/
import Derived.Test.YtioimgeeamchaaaDoorRunC
import Derived.Test.YtioimgeeamchaaaDoorRunI
import Derived.Test.YtioimgeeamchaaaDoorMath
namespace Go.Proofs.YtioimgeeamchaaaDoor
open Go.RowKit
set_option maxRecDepth 100000
set_option linter.unusedVariables false

/-- The variables of a value, as bits. -/
def nmE : Nat → List Nod → Nat → Nat
  | 0, _, _ => 0
  | k + 1, l, i => if (nthD l i).kd = 1 then 2 ^ (nthD l i).num.toNat else if 2 ≤ (nthD l i).kd ∧ (nthD l i).kd ≤ 4 then nmE k l (nthD l i).pa.toNat ||| nmE k l (nthD l i).pb.toNat else 0
def nm (l : List Nod) (i : Nat) : Nat := nmE (i + 1) l i
theorem nmE_fuel {l : List Nod} (hw : WfN l) : ∀ (m i : Nat), i < m → i < l.length → ∀ k k', i < k → i < k' → nmE k l i = nmE k' l i
  | 0, _, h, _ => absurd h (by omega)
  | m + 1, i, him, hi => fun k k' hk hk' => by
    obtain ⟨k, rfl⟩ : ∃ q, k = q + 1 := ⟨k - 1, by omega⟩
    obtain ⟨k', rfl⟩ : ∃ q, k' = q + 1 := ⟨k' - 1, by omega⟩
    rw [nmE, nmE]
    split
    · rfl
    split
    · rename_i h
      obtain ⟨a1, a2, _, _⟩ := wf_two hw hi (.inl h)
      rw [nmE_fuel hw m _ (by omega) (by omega) k k' (by omega) (by omega), nmE_fuel hw m _ (by omega) (by omega) k k' (by omega) (by omega)]
    · rfl
theorem nm_var {l : List Nod} {i : Nat} (h : (nthD l i).kd = 1) : nm l i = 2 ^ (nthD l i).num.toNat := by rw [nm, nmE, if_pos h]
theorem nm_num {l : List Nod} {i : Nat} (h : (nthD l i).kd = 0) : nm l i = 0 := by rw [nm, nmE, if_neg (by omega), if_neg (by omega)]
theorem nm_two {l : List Nod} (hw : WfN l) {i : Nat} (hi : i < l.length) (h : 2 ≤ (nthD l i).kd ∧ (nthD l i).kd ≤ 4) : nm l i = nm l (nthD l i).pa.toNat ||| nm l (nthD l i).pb.toNat := by
  obtain ⟨a1, a2, _, _⟩ := wf_two hw hi (.inl h)
  rw [nm, nmE, if_neg (by omega), if_pos h, nmE_fuel hw i _ a1 (by omega) i _ a1 (Nat.lt_succ_self _), nmE_fuel hw i _ a2 (by omega) i _ a2 (Nat.lt_succ_self _)]
  rfl
/-- A value hangs on its variables alone. -/
theorem vl_agree {l : List Nod} (hG : Good l) {s t : Nat → Int} : ∀ (m i : Nat), i < m → i < l.length → (nthD l i).kd < 5 → (∀ w, (nm l i).testBit w = true → s w = t w) → vl l i s = vl l i t
  | 0, _, h, _, _, _ => absurd h (by omega)
  | m + 1, i, him, hi, h5, hst => by
    have hkd := hG.kd hi
    by_cases h0 : (nthD l i).kd = 0
    · rw [vl_num h0, vl_num h0]
    by_cases h1 : (nthD l i).kd = 1
    · rw [vl_var h1, vl_var h1]
      exact hst _ (by rw [nm_var h1, Nat.testBit_two_pow]; simp)
    · have h2 : 2 ≤ (nthD l i).kd ∧ (nthD l i).kd ≤ 4 := by omega
      obtain ⟨a, b, ea, eb, ha, hb, ka, kb⟩ := hG.two hi h2
      rw [nm_two hG.r.wf hi h2, ea, eb, Int.toNat_natCast, Int.toNat_natCast] at hst
      rw [vl_two hG.r.wf hi h2, vl_two hG.r.wf hi h2, ea, eb, Int.toNat_natCast, Int.toNat_natCast]
      rw [vl_agree hG m a (by omega) (by omega) ka fun w hw => hst w (by rw [Nat.testBit_or, hw]; rfl), vl_agree hG m b (by omega) (by omega) kb fun w hw => hst w (by rw [Nat.testBit_or, hw, Bool.or_true])]

/-- The variables that a deed may put, as bits. -/
def ptE : Nat → List Nod → Nat → Nat
  | 0, _, _ => 0
  | k + 1, l, i =>
    if (nthD l i).kd = 6 then 2 ^ (nthD l i).num.toNat
    else if (nthD l i).kd = 7 then ptE k l (nthD l i).pa.toNat ||| ptE k l (nthD l i).pb.toNat
    else if (nthD l i).kd = 8 then ptE k l (nthD l i).pb.toNat ||| ptE k l (nthD l i).pc.toNat
    else if (nthD l i).kd = 9 then ptE k l (nthD l i).pb.toNat else 0
/-- What flows into a variable in a deed, in the midst of c. -/
def flE : Nat → List Nod → Nat → Nat → Nat → Nat
  | 0, _, _, _, _ => 0
  | k + 1, l, i, c, v =>
    if (nthD l i).kd = 6 then (if (nthD l i).num.toNat = v then nm l (nthD l i).pa.toNat ||| c else 0)
    else if (nthD l i).kd = 7 then flE k l (nthD l i).pa.toNat c v ||| flE k l (nthD l i).pb.toNat c v
    else if (nthD l i).kd = 8 then flE k l (nthD l i).pb.toNat (c ||| nm l (nthD l i).pa.toNat) v ||| flE k l (nthD l i).pc.toNat (c ||| nm l (nthD l i).pa.toNat) v
    else if (nthD l i).kd = 9 then flE k l (nthD l i).pb.toNat (c ||| nm l (nthD l i).pa.toNat) v else 0
/-- What flows into a variable of a set is in the set, for a deed. -/
def OkF (S : Nat → Prop) : Nat → List Nod → Nat → Prop
  | 0, _, _ => True
  | k + 1, l, i =>
    ((nthD l i).kd = 6 → S (nthD l i).num.toNat → ∀ w, (nm l (nthD l i).pa.toNat).testBit w = true → S w) ∧
    ((nthD l i).kd = 7 → OkF S k l (nthD l i).pa.toNat ∧ OkF S k l (nthD l i).pb.toNat) ∧
    ((nthD l i).kd = 8 → (∀ v, (ptE (k + 1) l i).testBit v = true → S v → ∀ w, (nm l (nthD l i).pa.toNat).testBit w = true → S w) ∧ OkF S k l (nthD l i).pb.toNat ∧ OkF S k l (nthD l i).pc.toNat) ∧
    ((nthD l i).kd = 9 → (∀ v, (ptE (k + 1) l i).testBit v = true → S v → ∀ w, (nm l (nthD l i).pa.toNat).testBit w = true → S w) ∧ OkF S k l (nthD l i).pb.toNat)
/-- What is around a deed flows into all that it may put. -/
theorem flE_around {l : List Nod} : ∀ (k i c v w : Nat), (ptE k l i).testBit v = true → c.testBit w = true → (flE k l i c v).testBit w = true
  | 0, i, c, v, w, h, _ => by simp [ptE] at h
  | k + 1, i, c, v, w, h, hc => by
    rw [ptE] at h
    rw [flE]
    by_cases h6 : (nthD l i).kd = 6
    · rw [if_pos h6] at h ⊢
      rw [Nat.testBit_two_pow] at h
      rw [if_pos (by simpa using h), Nat.testBit_or, hc, Bool.or_true]
    rw [if_neg h6] at h ⊢
    by_cases h7 : (nthD l i).kd = 7
    · rw [if_pos h7] at h ⊢
      rw [Nat.testBit_or, Bool.or_eq_true] at h ⊢
      exact h.imp (fun q => flE_around k _ c v w q hc) (fun q => flE_around k _ c v w q hc)
    rw [if_neg h7] at h ⊢
    have hc2 : (c ||| nm l (nthD l i).pa.toNat).testBit w = true := by rw [Nat.testBit_or, hc]; rfl
    by_cases h8 : (nthD l i).kd = 8
    · rw [if_pos h8] at h ⊢
      rw [Nat.testBit_or, Bool.or_eq_true] at h ⊢
      exact h.imp (fun q => flE_around k _ _ v w q hc2) (fun q => flE_around k _ _ v w q hc2)
    rw [if_neg h8] at h ⊢
    by_cases h9 : (nthD l i).kd = 9
    · rw [if_pos h9] at h ⊢
      exact flE_around k _ _ v w h hc2
    · rw [if_neg h9] at h; simp at h
theorem okF_of {l : List Nod} {S : Nat → Prop} : ∀ (k i c : Nat), (∀ v w, S v → (flE k l i c v).testBit w = true → S w) → OkF S k l i
  | 0, _, _, _ => trivial
  | k + 1, i, c, h => by
    rw [OkF]
    refine ⟨fun h6 hv w hw => ?_, fun h7 => ?_, fun h8 => ?_, fun h9 => ?_⟩
    · exact h _ w hv (by rw [flE, if_pos h6, if_pos rfl, Nat.testBit_or, hw]; rfl)
    · have e : ∀ v, flE (k + 1) l i c v = flE k l (nthD l i).pa.toNat c v ||| flE k l (nthD l i).pb.toNat c v := fun v => by rw [flE, if_neg (by omega), if_pos h7]
      exact ⟨okF_of k _ c fun v w hv hw => h v w hv (by rw [e, Nat.testBit_or, hw]; rfl), okF_of k _ c fun v w hv hw => h v w hv (by rw [e, Nat.testBit_or, hw, Bool.or_true])⟩
    · have e : ∀ v, flE (k + 1) l i c v = flE k l (nthD l i).pb.toNat (c ||| nm l (nthD l i).pa.toNat) v ||| flE k l (nthD l i).pc.toNat (c ||| nm l (nthD l i).pa.toNat) v := fun v => by rw [flE, if_neg (by omega), if_neg (by omega), if_pos h8]
      refine ⟨fun v hp hv w hw => ?_, okF_of k _ (c ||| nm l (nthD l i).pa.toNat) fun v w hv hw => h v w hv (by rw [e, Nat.testBit_or, hw]; rfl), okF_of k _ (c ||| nm l (nthD l i).pa.toNat) fun v w hv hw => h v w hv (by rw [e, Nat.testBit_or, hw, Bool.or_true])⟩
      rw [ptE, if_neg (by omega), if_neg (by omega), if_pos h8, Nat.testBit_or, Bool.or_eq_true] at hp
      have hc2 : (c ||| nm l (nthD l i).pa.toNat).testBit w = true := by rw [Nat.testBit_or, hw, Bool.or_true]
      refine h v w hv ?_
      rw [e, Nat.testBit_or, Bool.or_eq_true]
      exact hp.imp (fun q => flE_around k _ _ v w q hc2) (fun q => flE_around k _ _ v w q hc2)
    · have e : ∀ v, flE (k + 1) l i c v = flE k l (nthD l i).pb.toNat (c ||| nm l (nthD l i).pa.toNat) v := fun v => by rw [flE, if_neg (by omega), if_neg (by omega), if_neg (by omega), if_pos h9]
      refine ⟨fun v hp hv w hw => ?_, okF_of k _ (c ||| nm l (nthD l i).pa.toNat) fun v w hv hw => h v w hv (by rw [e]; exact hw)⟩
      rw [ptE, if_neg (by omega), if_neg (by omega), if_neg (by omega), if_pos h9] at hp
      exact h v w hv (by rw [e]; exact flE_around k _ _ v w hp (by rw [Nat.testBit_or, hw, Bool.or_true]))
theorem ptE_fuel {l : List Nod} (hG : Good l) : ∀ (m i : Nat), i < m → i < l.length → 5 ≤ (nthD l i).kd → ∀ k k', i < k → i < k' → ptE k l i = ptE k' l i
  | 0, _, h, _, _ => absurd h (by omega)
  | m + 1, i, him, hi, h5 => fun k k' hk hk' => by
    obtain ⟨k, rfl⟩ : ∃ q, k = q + 1 := ⟨k - 1, by omega⟩
    obtain ⟨k', rfl⟩ : ∃ q, k' = q + 1 := ⟨k' - 1, by omega⟩
    rw [ptE, ptE]
    split
    · rfl
    split
    · rename_i h7
      obtain ⟨⟨a1, b1⟩, a2, b2⟩ := hG.both hi h7
      rw [ptE_fuel hG m _ (by omega) (by omega) b1 k k' (by omega) (by omega), ptE_fuel hG m _ (by omega) (by omega) b2 k k' (by omega) (by omega)]
    split
    · rename_i h8
      obtain ⟨a1, ⟨a2, b2⟩, a3, b3⟩ := hG.if hi h8
      rw [ptE_fuel hG m _ (by omega) (by omega) b2 k k' (by omega) (by omega), ptE_fuel hG m _ (by omega) (by omega) b3 k k' (by omega) (by omega)]
    split
    · rename_i h9
      obtain ⟨a1, a2, b2⟩ := hG.whl hi h9
      rw [ptE_fuel hG m _ (by omega) (by omega) b2 k k' (by omega) (by omega)]
    · rfl
/-- What a deed may not put stays. -/
theorem pt_stay {l : List Nod} (hG : Good l) {v : Nat} : ∀ (k i : Nat), i < l.length → 5 ≤ (nthD l i).kd → ∀ K, i < K → (ptE K l i).testBit v = false → ∀ (s : Nat → Int) (f : Nat) (r : (Nat → Int) × Nat), exN l k i s f = some r → r.1 v = s v
  | 0, _, _, _, _, _, _, _, _, _, h => by cases h
  | k + 1, i, hi, h5, K, hK, hp, s, f, r, h => by
    have hkd := hG.kd hi
    obtain ⟨K, rfl⟩ : ∃ q, K = q + 1 := ⟨K - 1, by omega⟩
    rw [exN] at h
    split at h
    · cases h; rfl
    split at h
    · rename_i c
      obtain ⟨⟨a1, b1⟩, a2, b2⟩ := hG.both hi c
      obtain ⟨a, h1, h2⟩ := rbind h
      rw [ptE, if_neg (by omega), if_pos c, Nat.testBit_or, Bool.or_eq_false_iff] at hp
      rw [pt_stay hG k _ (by omega) b2 K (by omega) hp.2 _ _ _ h2]
      exact pt_stay hG k _ (by omega) b1 K (by omega) hp.1 _ _ _ h1
    split at h
    · cases h
    split at h
    · rename_i c; cases h
      rw [ptE, if_pos c, Nat.testBit_two_pow] at hp
      show upv s _ _ v = s v
      unfold upv
      rw [if_neg (fun q => by simp [q] at hp)]
    split at h
    · rename_i c
      obtain ⟨a1, ⟨a2, b2⟩, a3, b3⟩ := hG.if hi c
      rw [ptE, if_neg (by omega), if_neg (by omega), if_pos c, Nat.testBit_or, Bool.or_eq_false_iff] at hp
      split at h
      · exact pt_stay hG k _ (by omega) b2 K (by omega) hp.1 _ _ _ h
      · exact pt_stay hG k _ (by omega) b3 K (by omega) hp.2 _ _ _ h
    split at h
    · cases h; rfl
    · have c9 : (nthD l i).kd = 9 := by omega
      obtain ⟨a1, a2, b2⟩ := hG.whl hi c9
      obtain ⟨a, h1, h2⟩ := rbind h
      rw [pt_stay hG k i hi h5 (K + 1) hK hp _ _ _ h2]
      rw [ptE, if_neg (by omega), if_neg (by omega), if_neg (by omega), if_pos c9] at hp
      exact pt_stay hG k _ (by omega) b2 K (by omega) hp _ _ _ h1
/-- Runs that begin alike in a set into which nothing else flows end alike in it. -/
theorem quiet {l : List Nod} (hG : Good l) {S : Nat → Prop} : ∀ (k i : Nat), i < l.length → 5 ≤ (nthD l i).kd → ∀ K, i < K → OkF S K l i → ∀ (k' : Nat) (s t : Nat → Int) (f g : Nat) (r q : (Nat → Int) × Nat), (∀ v, S v → s v = t v) → exN l k i s f = some r → exN l k' i t g = some q → ∀ v, S v → r.1 v = q.1 v
  | 0, _, _, _, _, _, _, _, _, _, _, _, _, _, _, h, _ => by cases h
  | k + 1, i, hi, h5, K, hK, hO, k', s, t, f, g, r, q, hst, h, h' => by
    have hkd := hG.kd hi
    cases k' with
    | zero => cases h'
    | succ k' =>
    by_cases hx : ∃ w, ((nthD l i).kd = 8 ∨ (nthD l i).kd = 9) ∧ (nm l (nthD l i).pa.toNat).testBit w = true ∧ ¬ S w
    · obtain ⟨w, h89, hw, hSw⟩ := hx
      have hno : ∀ v, S v → (ptE K l i).testBit v = false := fun v hv => by
        obtain ⟨K, rfl⟩ : ∃ q, K = q + 1 := ⟨K - 1, by omega⟩
        rw [OkF] at hO
        cases hb : (ptE (K + 1) l i).testBit v with
        | false => rfl
        | true =>
          rcases h89 with c | c
          · exact absurd ((hO.2.2.1 c).1 v hb hv w hw) hSw
          · exact absurd ((hO.2.2.2 c).1 v hb hv w hw) hSw
      intro v hv
      rw [pt_stay hG _ i hi h5 K hK (hno v hv) _ _ _ h, pt_stay hG _ i hi h5 K hK (hno v hv) _ _ _ h']
      exact hst v hv
    have hall : ((nthD l i).kd = 8 ∨ (nthD l i).kd = 9) → (nthD l i).pa.toNat < l.length → (nthD l (nthD l i).pa.toNat).kd < 5 → vl l (nthD l i).pa.toNat s = vl l (nthD l i).pa.toNat t := fun c h1 h2 =>
      vl_agree hG _ _ (Nat.lt_succ_self _) h1 h2 fun w hw => by
        by_cases hS : S w
        · exact hst w hS
        · exact absurd ⟨w, c, hw, hS⟩ hx
    have hO2 := hO
    obtain ⟨K, rfl⟩ : ∃ q, K = q + 1 := ⟨K - 1, by omega⟩
    rw [OkF] at hO
    have h0 := h
    have h0' := h'
    rw [exN] at h h'
    by_cases c5 : (nthD l i).kd = 5
    · rw [if_pos c5] at h h'
      cases h; cases h'
      exact hst
    rw [if_neg c5] at h h'
    by_cases c7 : (nthD l i).kd = 7
    · rw [if_pos c7] at h h'
      obtain ⟨⟨a1, b1⟩, a2, b2⟩ := hG.both hi c7
      obtain ⟨x, h1, h2⟩ := rbind h
      obtain ⟨y, h1', h2'⟩ := rbind h'
      exact quiet hG k _ (by omega) b2 K (by omega) (hO.2.1 c7).2 k' _ _ _ _ _ _ (quiet hG k _ (by omega) b1 K (by omega) (hO.2.1 c7).1 k' _ _ _ _ _ _ hst h1 h1') h2 h2'
    rw [if_neg c7] at h h'
    by_cases f0 : f = 0
    · rw [if_pos f0] at h; cases h
    rw [if_neg f0] at h
    by_cases g0 : g = 0
    · rw [if_pos g0] at h'; cases h'
    rw [if_neg g0] at h'
    by_cases c6 : (nthD l i).kd = 6
    · rw [if_pos c6] at h h'
      cases h; cases h'
      obtain ⟨a, k0, ea, ek, ha, hk0, ka⟩ := hG.setN hi c6
      intro v hv
      show upv s _ _ v = upv t _ _ v
      unfold upv
      by_cases e : v = (nthD l i).num.toNat
      · rw [if_pos e, if_pos e]
        rw [ea, Int.toNat_natCast]
        refine vl_agree hG (a + 1) a (Nat.lt_succ_self _) (by omega) ka fun w hw => hst w (hO.1 c6 (e ▸ hv) w ?_)
        rw [ea, Int.toNat_natCast]
        exact hw
      · rw [if_neg e, if_neg e]
        exact hst v hv
    rw [if_neg c6] at h h'
    by_cases c8 : (nthD l i).kd = 8
    · rw [if_pos c8] at h h'
      obtain ⟨a, b, c, ea, eb, ec, ha, hb, hc, ka, kb, kc⟩ := hG.ifN hi c8
      have hv := hall (.inl c8) (by rw [ea, Int.toNat_natCast]; omega) (by rw [ea, Int.toNat_natCast]; exact ka)
      rw [hv] at h
      have hO8 := hO.2.2.1 c8
      rw [eb, ec, Int.toNat_natCast, Int.toNat_natCast] at hO8
      rw [eb, ec] at h h'
      split at h
      · rename_i cc
        rw [if_pos cc] at h'
        exact quiet hG k b (by omega) kb K (by omega) hO8.2.1 k' _ _ _ _ _ _ hst h h'
      · rename_i cc
        rw [if_neg cc] at h'
        exact quiet hG k c (by omega) kc K (by omega) hO8.2.2 k' _ _ _ _ _ _ hst h h'
    rw [if_neg c8] at h h'
    have c9 : (nthD l i).kd = 9 := by omega
    obtain ⟨a, b, ea, eb, ha, hb, ka, kb⟩ := hG.whlN hi c9
    have hv := hall (.inr c9) (by rw [ea, Int.toNat_natCast]; omega) (by rw [ea, Int.toNat_natCast]; exact ka)
    rw [hv] at h
    by_cases cv : vl l (nthD l i).pa.toNat t = 0
    · rw [if_pos cv] at h h'
      cases h; cases h'
      exact hst
    rw [if_neg cv] at h h'
    obtain ⟨x, h1, h2⟩ := rbind h
    obtain ⟨y, h1', h2'⟩ := rbind h'
    have hO9 := hO.2.2.2 c9
    rw [eb, Int.toNat_natCast] at hO9 h1 h1'
    exact quiet hG k i hi h5 (K + 1) hK hO2 k' _ _ _ _ _ _ (quiet hG k b (by omega) kb K (by omega) hO9.2 k' _ _ _ _ _ _ hst h1 h1') h2 h2'

/-- What flows into what: from each into itself, and on. -/
structure Flw (c : Nat → Nat → Bool) : Prop where
  re : ∀ i, i < 6 → c i i = true
  tr : ∀ i j k, i < 6 → j < 6 → k < 6 → c i j = true → c j k = true → c i k = true
def FitsP (c : Nat → Nat → Bool) (l : Nat → Int) : Prop := ∀ i, i < 6 → ∀ j, j < 6 → c i j = true → l j ≤ l i
def ToldP (c : Nat → Nat → Bool) (m : Nat → Int) : Prop := ∀ i, i < 6 → ∀ j, j < 6 → c i j = true → 0 ≤ m i → m j ≤ m i
def fitsB (c : Nat → Nat → Bool) (l : Nat → Int) : Bool := (List.range 6).all fun i => (List.range 6).all fun j => !c i j || decide (l j ≤ l i)
def toldB (c : Nat → Nat → Bool) (m : Nat → Int) : Bool := (List.range 6).all fun i => (List.range 6).all fun j => !c i j || decide (m i < 0) || decide (m j ≤ m i)
theorem fitsB_iff (c : Nat → Nat → Bool) (l : Nat → Int) : fitsB c l = true ↔ FitsP c l := by
  unfold fitsB FitsP
  simp only [List.all_eq_true, List.mem_range, Bool.or_eq_true, Bool.not_eq_true', decide_eq_true_eq]
  constructor
  · intro h i hi j hj hc
    rcases h i hi j hj with q | q
    · rw [hc] at q; cases q
    · exact q
  · intro h i hi j hj
    cases hc : c i j with
    | false => exact .inl rfl
    | true => exact .inr (h i hi j hj hc)
theorem toldB_iff (c : Nat → Nat → Bool) (m : Nat → Int) : toldB c m = true ↔ ToldP c m := by
  unfold toldB ToldP
  simp only [List.all_eq_true, List.mem_range, Bool.or_eq_true, Bool.not_eq_true', decide_eq_true_eq]
  constructor
  · intro h i hi j hj hc h0
    rcases h i hi j hj with (q | q) | q
    · rw [hc] at q; cases q
    · omega
    · exact q
  · intro h i hi j hj
    cases hc : c i j with
    | false => exact .inl (.inl rfl)
    | true =>
      by_cases h0 : m i < 0
      · exact .inl (.inr h0)
      · exact .inr (h i hi j hj hc (by omega))
/-- The greatest that is told of what flows into i, of the first t. -/
def mx (c : Nat → Nat → Bool) (m : Nat → Int) (i : Nat) : Nat → Int
  | 0 => 0
  | t + 1 => if c i t = true ∧ mx c m i t < m t then m t else mx c m i t
theorem mx_nonneg (c : Nat → Nat → Bool) (m : Nat → Int) (i : Nat) : ∀ t, 0 ≤ mx c m i t
  | 0 => by rw [mx]; omega
  | t + 1 => by
    have := mx_nonneg c m i t
    rw [mx]; split <;> omega
theorem mx_ge (c : Nat → Nat → Bool) (m : Nat → Int) (i : Nat) : ∀ t j, j < t → c i j = true → m j ≤ mx c m i t
  | 0, j, h, _ => absurd h (by omega)
  | t + 1, j, h, hc => by
    rw [mx]
    by_cases e : j = t
    · subst e
      split
      · omega
      · rename_i q; rw [not_and] at q; have := q hc; omega
    · have := mx_ge c m i t j (by omega) hc
      split
      · rename_i q; omega
      · exact this
theorem mx_le (c : Nat → Nat → Bool) (m : Nat → Int) (i : Nat) (b : Int) (h0 : 0 ≤ b) : ∀ t, (∀ j, j < t → c i j = true → m j ≤ b) → mx c m i t ≤ b
  | 0, _ => by rw [mx]; exact h0
  | t + 1, h => by
    rw [mx]
    split
    · rename_i q; exact h t (by omega) q.1
    · exact mx_le c m i b h0 t fun j hj => h j (by omega)
def leastI (c : Nat → Nat → Bool) (m : Nat → Int) (i : Nat) : Int := if 0 ≤ m i then m i else mx c m i 6
theorem least_told {c : Nat → Nat → Bool} {m : Nat → Int} {i : Nat} (h : 0 ≤ m i) : leastI c m i = m i := by rw [leastI, if_pos h]
theorem least_fits {c : Nat → Nat → Bool} (hc : Flw c) {m : Nat → Int} (h : ToldP c m) : FitsP c (leastI c m) := by
  intro i hi j hj hij
  have hk : ∀ k, k < 6 → c j k = true → c i k = true := fun k hk q => hc.tr i j k hi hj hk hij q
  unfold leastI
  by_cases h1 : 0 ≤ m i
  · rw [if_pos h1]
    by_cases h2 : 0 ≤ m j
    · rw [if_pos h2]; exact h i hi j hj hij h1
    · rw [if_neg h2]
      exact mx_le c m j (m i) h1 6 fun k hk6 q => h i hi k hk6 (hk k hk6 q) h1
  · rw [if_neg h1]
    by_cases h2 : 0 ≤ m j
    · rw [if_pos h2]; exact mx_ge c m i 6 j hj hij
    · rw [if_neg h2]
      exact mx_le c m j _ (mx_nonneg c m i 6) 6 fun k hk6 q => mx_ge c m i 6 k hk6 (hk k hk6 q)
/-- Whatever fits and is as it is told is nowhere lower. -/
theorem least_least {c : Nat → Nat → Bool} {m l : Nat → Int} (hl : FitsP c l) (h0 : ∀ i, i < 6 → 0 ≤ l i) (hm : ∀ i, i < 6 → m i < 0 ∨ m i = l i) : ∀ i, i < 6 → leastI c m i ≤ l i := fun i hi => by
  unfold leastI
  by_cases h1 : 0 ≤ m i
  · rw [if_pos h1]
    have := hm i hi
    omega
  · rw [if_neg h1]
    refine mx_le c m i _ (h0 i hi) 6 fun j hj q => ?_
    have := hl i hi j hj q
    have := hm j hj
    have := h0 i hi
    omega
theorem told_of_fits {c : Nat → Nat → Bool} {m l : Nat → Int} (hl : FitsP c l) (h0 : ∀ i, i < 6 → 0 ≤ l i) (hm : ∀ i, i < 6 → m i < 0 ∨ m i = l i) : ToldP c m := fun i hi j hj q h1 => by
  have := hl i hi j hj q
  have := hm i hi
  have := hm j hj
  omega
/-- Levels that fit bound a set into which nothing else flows. -/
theorem level_closed {c : Nat → Nat → Bool} {l : Nat → Int} (hl : FitsP c l) (b : Int) {v w : Nat} (hv : v < 6) (hw : w < 6) (h : l v ≤ b) (q : c v w = true) : l w ≤ b := Int.le_trans (hl v hv w hw q) h

/-- How often a number stands in a list. -/
def cnt (q : Nat) : List Int → Nat
  | [] => 0
  | p :: ps => (if p.toNat = q then 1 else 0) + cnt q ps
theorem cnt_pos {q : Nat} : ∀ {ps : List Int} {j : Nat} {p : Int}, ps[j]? = some p → p.toNat = q → 0 < cnt q ps
  | [], j, p, h, _ => by simp at h
  | x :: ps, 0, p, h, e => by
    simp only [List.getElem?_cons_zero, Option.some.injEq] at h
    subst h
    rw [cnt, if_pos e]; omega
  | x :: ps, j + 1, p, h, e => by
    simp only [List.getElem?_cons_succ] at h
    have := cnt_pos h e
    rw [cnt]; omega
theorem cnt_two {q : Nat} : ∀ {ps : List Int} {j j' : Nat} {p p' : Int}, ps[j]? = some p → ps[j']? = some p' → p.toNat = q → p'.toNat = q → j ≠ j' → 2 ≤ cnt q ps
  | [], j, _, p, _, h, _, _, _, _ => by simp at h
  | x :: ps, 0, 0, _, _, _, _, _, _, h => absurd rfl h
  | x :: ps, 0, j + 1, p, p', h, h', e, e', _ => by
    simp only [List.getElem?_cons_zero, Option.some.injEq, List.getElem?_cons_succ] at h h'
    subst h
    have := cnt_pos h' e'
    rw [cnt, if_pos e]; omega
  | x :: ps, j + 1, 0, p, p', h, h', e, e', _ => by
    simp only [List.getElem?_cons_zero, Option.some.injEq, List.getElem?_cons_succ] at h h'
    subst h'
    have := cnt_pos h e
    rw [cnt, if_pos e']; omega
  | x :: ps, j + 1, j' + 1, p, p', h, h', e, e', hn => by
    simp only [List.getElem?_cons_succ] at h h'
    have := cnt_two h h' e e' (fun q => hn (by rw [q]))
    rw [cnt]; omega
theorem cnt_mem {q : Nat} : ∀ {ps : List Int}, 0 < cnt q ps → ∃ (j : Nat) (p : Int), ps[j]? = some p ∧ p.toNat = q
  | [], h => by simp [cnt] at h
  | x :: ps, h => by
    rw [cnt] at h
    by_cases e : x.toNat = q
    · exact ⟨0, x, rfl, e⟩
    · rw [if_neg e] at h
      obtain ⟨j, p, h1, h2⟩ := cnt_mem (q := q) (ps := ps) (by omega)
      exact ⟨j + 1, p, by simpa using h1, h2⟩
theorem prtC_cnt {l : List Nod} {i : Nat} {kd : Int} {q : Nat} : ∀ (ps : List Int) (k : Nat) (u u' : Nat → Nat), prtC l i kd k ps u = (0, u') → u' q = u q + cnt q ps ∧ (u q ≤ 1 → u' q ≤ 1)
  | [], k, u, u', h => by cases h; exact ⟨by simp [cnt], id⟩
  | p :: ps, k, u, u', h => by
    rw [prtC] at h
    by_cases h1 : p < 0 ∨ (i : Int) ≤ p
    · rw [if_pos h1] at h; cases h
    rw [if_neg h1] at h
    by_cases h2 : 1 < u p.toNat + 1 ∨ decide ((nthD l p.toNat).kd < 5) ≠ valB kd k
    · rw [if_pos h2] at h; cases h
    rw [if_neg h2] at h
    rw [not_or] at h2
    obtain ⟨a, b⟩ := prtC_cnt (q := q) ps (k + 1) _ u' h
    rw [cnt]
    by_cases e : p.toNat = q
    · rw [if_pos e]
      rw [e, upd_same] at a b
      rw [e] at h2
      exact ⟨by omega, fun _ => b (by omega)⟩
    · rw [if_neg e]
      rw [upd_other _ (fun z => e z.symm)] at a b
      exact ⟨by omega, b⟩
/-- How often a node is a part of one of the first n. -/
def cntU (l : List Nod) (q : Nat) : Nat → Nat
  | 0 => 0
  | n + 1 => cntU l q n + cnt q (prtL (nthD l n))
theorem nodC_cnt {l : List Nod} {q : Nat} : ∀ (n : Nat) (u : Nat → Nat), nodC l n = (0, u) → u q = cntU l q n ∧ u q ≤ 1
  | 0, u, h => by cases h; exact ⟨rfl, Nat.zero_le _⟩
  | n + 1, u, h => by
    obtain ⟨v, h1, _, h3⟩ := nodC_inv h
    obtain ⟨a, b⟩ := nodC_cnt (q := q) n v h1
    obtain ⟨c, d⟩ := prtC_cnt (q := q) _ _ _ _ h3
    exact ⟨by rw [c, a, cntU], d b⟩
theorem cntU_ge {l : List Nod} {q k : Nat} : ∀ {n : Nat}, k < n → cnt q (prtL (nthD l k)) ≤ cntU l q n
  | 0, h => absurd h (by omega)
  | n + 1, h => by
    rw [cntU]
    by_cases e : k = n
    · subst e; omega
    · have := cntU_ge (l := l) (q := q) (k := k) (n := n) (by omega); omega
theorem cntU_two {l : List Nod} {q k k' : Nat} : ∀ {n : Nat}, k < k' → k' < n → cnt q (prtL (nthD l k)) + cnt q (prtL (nthD l k')) ≤ cntU l q n
  | 0, _, h => absurd h (by omega)
  | n + 1, h, h' => by
    rw [cntU]
    by_cases e : k' = n
    · subst e
      have := cntU_ge (l := l) (q := q) h
      omega
    · have := cntU_two (l := l) (q := q) h (n := n) (by omega)
      omega
theorem cntU_mem {l : List Nod} {q : Nat} : ∀ {n : Nat}, 0 < cntU l q n → ∃ k, k < n ∧ 0 < cnt q (prtL (nthD l k))
  | 0, h => by simp [cntU] at h
  | n + 1, h => by
    rw [cntU] at h
    by_cases e : 0 < cnt q (prtL (nthD l n))
    · exact ⟨n, Nat.lt_succ_self _, e⟩
    · obtain ⟨k, hk, h2⟩ := cntU_mem (l := l) (q := q) (n := n) (by omega)
      exact ⟨k, by omega, h2⟩
theorem cnt_of_right {l : List Nod} (h : proC l = 0) (q : Nat) : cntU l q l.length ≤ 1 ∧ (q < l.length - 1 → cntU l q l.length = 1) := by
  unfold proC at h
  split at h
  · cases h
  split at h
  · cases h
  split at h
  · rename_i z; exact absurd h z
  rename_i z
  split at h
  · cases h
  rename_i hany
  have hu : nodC l l.length = (0, (nodC l l.length).2) := by rw [← Classical.not_not.1 z]
  obtain ⟨a, b⟩ := nodC_cnt (q := q) l.length _ hu
  refine ⟨by omega, fun hq => ?_⟩
  simp only [List.any_eq_true, List.mem_range, not_exists, not_and] at hany
  have := hany q hq
  simp at this
  omega
/-- Each node but the last is a part of one. -/
theorem parent_ex {l : List Nod} (h : proC l = 0) {i : Nat} (hi : i < l.length - 1) : ∃ k j : Nat, k < l.length ∧ (prtL (nthD l k))[j]? = some (i : Int) := by
  obtain ⟨k, hk, h2⟩ := cntU_mem (l := l) (q := i) (n := l.length) (by rw [(cnt_of_right h i).2 hi]; omega)
  obtain ⟨j, p, h3, h4⟩ := cnt_mem h2
  have := (rightP_of h).wf k hk p (List.mem_of_getElem? h3)
  exact ⟨k, j, hk, by rw [h3]; congr 1; omega⟩
/-- And of no other one. -/
theorem parent_one {l : List Nod} (h : proC l = 0) {i k k' j j' : Nat} (hk : k < l.length) (hk' : k' < l.length) (h1 : (prtL (nthD l k))[j]? = some (i : Int)) (h2 : (prtL (nthD l k'))[j']? = some (i : Int)) : k = k' ∧ j = j' := by
  have hle := (cnt_of_right h i).1
  have e1 := cnt_pos h1 (Int.toNat_natCast i)
  have e2 := cnt_pos h2 (Int.toNat_natCast i)
  have hkk : k = k' := by
    rcases Nat.lt_trichotomy k k' with c | c | c
    · have := cntU_two (l := l) (q := i) c hk'; omega
    · exact c
    · have := cntU_two (l := l) (q := i) c hk; omega
  subst hkk
  refine ⟨rfl, Classical.byContradiction fun hn => ?_⟩
  have := cnt_two h1 h2 (Int.toNat_natCast i) (Int.toNat_natCast i) hn
  have := cntU_ge (l := l) (q := i) hk
  omega

/-- The deeds among a node's parts. -/
def dpt (x : Nod) : List Int := if x.kd = 7 then [x.pa, x.pb] else if x.kd = 8 then [x.pb, x.pc] else if x.kd = 9 then [x.pb] else []
/-- The node of which one is a deed. -/
def abv (l : List Nod) (i : Nat) : Option Nat := (List.range l.length).find? fun k => decide ((i : Int) ∈ dpt (nthD l k))
theorem dpt_place {l : List Nod} {k : Nat} {i : Int} (h : i ∈ dpt (nthD l k)) : ∃ j : Nat, (prtL (nthD l k))[j]? = some i ∧ ((nthD l k).kd = 7 ∨ (nthD l k).kd = 8 ∨ (nthD l k).kd = 9) := by
  unfold dpt at h
  unfold prtL
  by_cases h7 : (nthD l k).kd = 7
  · rw [if_pos h7] at h
    rw [if_neg (by omega), if_neg (by omega), if_pos (.inr (.inl h7))]
    simp only [List.mem_cons, List.mem_nil_iff, or_false] at h
    rcases h with rfl | rfl
    · exact ⟨0, rfl, .inl h7⟩
    · exact ⟨1, rfl, .inl h7⟩
  rw [if_neg h7] at h
  by_cases h8 : (nthD l k).kd = 8
  · rw [if_pos h8] at h
    rw [if_pos h8]
    simp only [List.mem_cons, List.mem_nil_iff, or_false] at h
    rcases h with rfl | rfl
    · exact ⟨1, rfl, .inr (.inl h8)⟩
    · exact ⟨2, rfl, .inr (.inl h8)⟩
  rw [if_neg h8] at h
  by_cases h9 : (nthD l k).kd = 9
  · rw [if_pos h9] at h
    rw [if_neg (by omega), if_neg (by omega), if_pos (.inr (.inr h9))]
    simp only [List.mem_cons, List.mem_nil_iff, or_false] at h
    exact ⟨1, by rw [h]; rfl, .inr (.inr h9)⟩
  · rw [if_neg h9] at h; simp at h
theorem abv_of {l : List Nod} (h : proC l = 0) {i k : Nat} (hk : k < l.length) (hm : (i : Int) ∈ dpt (nthD l k)) : abv l i = some k := by
  obtain ⟨j, hj, _⟩ := dpt_place hm
  cases e : abv l i with
  | none =>
    unfold abv at e
    rw [List.find?_eq_none] at e
    exact absurd (decide_eq_true hm) (e k (List.mem_range.2 hk))
  | some k' =>
    unfold abv at e
    have h1 := List.find?_some e
    have h2 := List.mem_range.1 (List.mem_of_find?_eq_some e)
    obtain ⟨j', hj', _⟩ := dpt_place (of_decide_eq_true h1)
    rw [(parent_one h h2 hk hj' hj).1]
theorem abv_some {l : List Nod} (h : proC l = 0) {i k : Nat} (e : abv l i = some k) : k < l.length ∧ (i : Int) ∈ dpt (nthD l k) ∧ i < k := by
  unfold abv at e
  have h0 := List.find?_some e
  have h1 := of_decide_eq_true h0
  have h2 := List.mem_range.1 (List.mem_of_find?_eq_some e)
  obtain ⟨j, hj, _⟩ := dpt_place h1
  have := (rightP_of h).wf k h2 _ (List.mem_of_getElem? hj)
  exact ⟨h2, h1, by omega⟩
theorem abv_last {l : List Nod} (h : proC l = 0) : abv l (l.length - 1) = none := by
  cases e : abv l (l.length - 1) with
  | none => rfl
  | some k => have := abv_some h e; omega
theorem abv_deed {l : List Nod} (h : proC l = 0) {i : Nat} (hi : i < l.length - 1) (h5 : 5 ≤ (nthD l i).kd) : ∃ k, abv l i = some k := by
  have hG := good_of h
  obtain ⟨k, j, hk, hj⟩ := parent_ex h hi
  refine ⟨k, abv_of h hk ?_⟩
  have t := hG.t.val k hk j _ hj
  rw [Int.toNat_natCast] at t
  have hv : valB (nthD l k).kd j = false := by rw [← t]; exact decide_eq_false (by omega)
  unfold valB at hv
  rw [decide_eq_false_iff_not] at hv
  have hkd := hG.kd hk
  unfold prtL at hj
  unfold dpt
  by_cases h7 : (nthD l k).kd = 7
  · rw [if_neg (by omega), if_neg (by omega), if_pos (.inr (.inl h7))] at hj
    rw [if_pos h7]
    exact List.mem_of_getElem? hj
  rw [if_neg h7]
  by_cases h8 : (nthD l k).kd = 8
  · rw [if_pos h8] at hj
    rw [if_pos h8]
    match j, hj, hv with
    | 0, _, hv => exact absurd (.inr ⟨rfl, h7⟩) hv
    | j + 1, hj, _ => exact List.mem_of_getElem? (by simpa using hj)
  rw [if_neg h8]
  rw [if_neg h8] at hj
  by_cases h9 : (nthD l k).kd = 9
  · rw [if_neg (by omega), if_pos (.inr (.inr h9))] at hj
    rw [if_pos h9]
    match j, hj, hv with
    | 0, _, hv => exact absurd (.inr ⟨rfl, h7⟩) hv
    | j + 1, hj, _ => exact List.mem_of_getElem? (by simpa using hj)
  exfalso
  have hl := List.mem_of_getElem? hj
  by_cases h6 : (nthD l k).kd = 6
  · rw [if_pos h6] at hj
    match j, hj with
    | 0, _ => exact hv (.inr ⟨rfl, by omega⟩)
    | j + 1, hj => simp at hj
  · rw [if_neg h6] at hj
    by_cases h2 : (2 ≤ (nthD l k).kd ∧ (nthD l k).kd ≤ 4) ∨ (nthD l k).kd = 7 ∨ (nthD l k).kd = 9
    · exact hv (.inl (by omega))
    · rw [if_neg h2] at hj; simp at hj
/-- The variables of the Ifs and Whiles of which a node is in a deed. -/
def ctxE : Nat → List Nod → Nat → Nat
  | 0, _, _ => 0
  | f + 1, l, i => match abv l i with
    | none => 0
    | some k => (if (nthD l k).kd = 8 ∨ (nthD l k).kd = 9 then nm l (nthD l k).pa.toNat else 0) ||| ctxE f l k
def ctx (l : List Nod) (i : Nat) : Nat := ctxE l.length l i
theorem ctxE_fuel {l : List Nod} (h : proC l = 0) : ∀ (m i : Nat), l.length - i ≤ m → ∀ f f', l.length - i ≤ f → l.length - i ≤ f' → i < l.length → ctxE f l i = ctxE f' l i
  | 0, i, hm, _, _, _, _, hi => absurd hm (by omega)
  | m + 1, i, hm, f, f', hf, hf', hi => by
    obtain ⟨f, rfl⟩ : ∃ q, f = q + 1 := ⟨f - 1, by omega⟩
    obtain ⟨f', rfl⟩ : ∃ q, f' = q + 1 := ⟨f' - 1, by omega⟩
    rw [ctxE, ctxE]
    cases e : abv l i with
    | none => rfl
    | some k =>
      obtain ⟨h1, _, h3⟩ := abv_some h e
      show _ ||| ctxE f l k = _ ||| ctxE f' l k
      rw [ctxE_fuel h m k (by omega) f f' (by omega) (by omega) h1]
theorem ctx_up {l : List Nod} (h : proC l = 0) {i k : Nat} (hi : i < l.length) (e : abv l i = some k) : ctx l i = (if (nthD l k).kd = 8 ∨ (nthD l k).kd = 9 then nm l (nthD l k).pa.toNat else 0) ||| ctx l k := by
  obtain ⟨h1, _, h3⟩ := abv_some h e
  unfold ctx
  obtain ⟨f, hf⟩ : ∃ f, l.length = f + 1 := ⟨l.length - 1, by omega⟩
  rw [ctxE_fuel h l.length k (by omega) l.length f (by omega) (by omega) h1]
  rw [hf, ctxE, e]
theorem ctx_last {l : List Nod} (h : proC l = 0) : ctx l (l.length - 1) = 0 := by
  have := (good_of h).r.some
  unfold ctx
  obtain ⟨f, hf⟩ : ∃ f, l.length = f + 1 := ⟨l.length - 1, by omega⟩
  have e := abv_last h
  rw [hf] at e ⊢
  rw [ctxE, e]
def flw (l : List Nod) (i v : Nat) : Nat := flE (i + 1) l i (ctx l i) v
theorem flE_fuel {l : List Nod} (hG : Good l) : ∀ (m i : Nat), i < m → i < l.length → 5 ≤ (nthD l i).kd → ∀ k k' c v, i < k → i < k' → flE k l i c v = flE k' l i c v
  | 0, _, h, _, _ => absurd h (by omega)
  | m + 1, i, him, hi, h5 => fun k k' c v hk hk' => by
    obtain ⟨k, rfl⟩ : ∃ q, k = q + 1 := ⟨k - 1, by omega⟩
    obtain ⟨k', rfl⟩ : ∃ q, k' = q + 1 := ⟨k' - 1, by omega⟩
    rw [flE, flE]
    split
    · rfl
    split
    · rename_i h7
      obtain ⟨⟨a1, b1⟩, a2, b2⟩ := hG.both hi h7
      rw [flE_fuel hG m _ (by omega) (by omega) b1 k k' c v (by omega) (by omega), flE_fuel hG m _ (by omega) (by omega) b2 k k' c v (by omega) (by omega)]
    split
    · rename_i h8
      obtain ⟨a1, ⟨a2, b2⟩, a3, b3⟩ := hG.if hi h8
      rw [flE_fuel hG m _ (by omega) (by omega) b2 k k' _ v (by omega) (by omega), flE_fuel hG m _ (by omega) (by omega) b3 k k' _ v (by omega) (by omega)]
    split
    · rename_i h9
      obtain ⟨a1, a2, b2⟩ := hG.whl hi h9
      rw [flE_fuel hG m _ (by omega) (by omega) b2 k k' _ v (by omega) (by omega)]
    · rfl
/-- A node's parts, and what flows in them. -/
theorem flw_parts {l : List Nod} (h : proC l = 0) {i : Nat} (hi : i < l.length) (h5 : 5 ≤ (nthD l i).kd) (h6 : (nthD l i).kd ≠ 6) (v w : Nat) :
    (flw l i v).testBit w = true ↔ ∃ d : Nat, d < l.length ∧ 5 ≤ (nthD l d).kd ∧ abv l d = some i ∧ (flw l d v).testBit w = true := by
  have hG := good_of h
  have hkd := hG.kd hi
  have part : ∀ d : Nat, (d : Int) ∈ dpt (nthD l i) → d < i → 5 ≤ (nthD l d).kd → ∀ c, c = ctx l d → ((flE i l d c v).testBit w = true ↔ (flw l d v).testBit w = true) := fun d hd hdi hd5 c hc => by
    rw [hc, flw, flE_fuel hG (d + 1) d (Nat.lt_succ_self _) (by omega) hd5 i (d + 1) _ v hdi (Nat.lt_succ_self _)]
  have up : ∀ d : Nat, (d : Int) ∈ dpt (nthD l i) → d < i → ctx l d = (if (nthD l i).kd = 8 ∨ (nthD l i).kd = 9 then nm l (nthD l i).pa.toNat else 0) ||| ctx l i := fun d hd hdi => ctx_up h (by omega) (abv_of h hi hd)
  constructor
  · intro hb
    rw [flw, flE, if_neg h6] at hb
    by_cases h7 : (nthD l i).kd = 7
    · obtain ⟨a, b, ea, eb, ha, hb', ka, kb⟩ := hG.bothN hi h7
      have ma : (a : Int) ∈ dpt (nthD l i) := by unfold dpt; rw [if_pos h7, ea]; simp
      have mb : (b : Int) ∈ dpt (nthD l i) := by unfold dpt; rw [if_pos h7, eb]; simp
      rw [if_pos h7, ea, eb, Int.toNat_natCast, Int.toNat_natCast, Nat.testBit_or, Bool.or_eq_true] at hb
      have ua := up a ma ha
      have ub := up b mb hb'
      rw [if_neg (by omega), Nat.zero_or] at ua ub
      rcases hb with hb | hb
      · exact ⟨a, by omega, ka, abv_of h hi ma, (part a ma ha ka _ ua.symm).1 hb⟩
      · exact ⟨b, by omega, kb, abv_of h hi mb, (part b mb hb' kb _ ub.symm).1 hb⟩
    rw [if_neg h7] at hb
    by_cases h8 : (nthD l i).kd = 8
    · obtain ⟨a, b, c, ea, eb, ec, ha, hb', hc, ka, kb, kc⟩ := hG.ifN hi h8
      have mb : (b : Int) ∈ dpt (nthD l i) := by unfold dpt; rw [if_neg h7, if_pos h8, eb]; simp
      have mc : (c : Int) ∈ dpt (nthD l i) := by unfold dpt; rw [if_neg h7, if_pos h8, ec]; simp
      rw [if_pos h8, eb, ec, Int.toNat_natCast, Int.toNat_natCast, Nat.testBit_or, Bool.or_eq_true] at hb
      have ub := up b mb hb'
      have uc := up c mc hc
      rw [if_pos (.inl h8), Nat.or_comm] at ub uc
      rcases hb with hb | hb
      · exact ⟨b, by omega, kb, abv_of h hi mb, (part b mb hb' kb _ ub.symm).1 hb⟩
      · exact ⟨c, by omega, kc, abv_of h hi mc, (part c mc hc kc _ uc.symm).1 hb⟩
    rw [if_neg h8] at hb
    by_cases h9 : (nthD l i).kd = 9
    · obtain ⟨a, b, ea, eb, ha, hb', ka, kb⟩ := hG.whlN hi h9
      have mb : (b : Int) ∈ dpt (nthD l i) := by unfold dpt; rw [if_neg h7, if_neg h8, if_pos h9, eb]; simp
      rw [if_pos h9, eb, Int.toNat_natCast] at hb
      have ub := up b mb hb'
      rw [if_pos (.inr h9), Nat.or_comm] at ub
      exact ⟨b, by omega, kb, abv_of h hi mb, (part b mb hb' kb _ ub.symm).1 hb⟩
    · rw [if_neg h9] at hb; simp at hb
  · rintro ⟨d, hd, hd5, he, hb⟩
    obtain ⟨_, md, hdi⟩ := abv_some h he
    have hb2 := fun c hc => (part d md hdi hd5 c hc).2 hb
    have ud := up d md hdi
    rw [flw, flE, if_neg h6]
    have md2 := md
    unfold dpt at md2
    by_cases h7 : (nthD l i).kd = 7
    · rw [if_pos h7] at md2 ⊢
      rw [if_neg (by omega), Nat.zero_or] at ud
      have := hb2 _ ud.symm
      simp only [List.mem_cons, List.mem_nil_iff, or_false] at md2
      rw [Nat.testBit_or, Bool.or_eq_true]
      rcases md2 with e | e
      · left; rw [← e, Int.toNat_natCast]; exact this
      · right; rw [← e, Int.toNat_natCast]; exact this
    rw [if_neg h7] at md2 ⊢
    by_cases h8 : (nthD l i).kd = 8
    · rw [if_pos h8] at md2 ⊢
      rw [if_pos (.inl h8), Nat.or_comm] at ud
      have := hb2 _ ud.symm
      simp only [List.mem_cons, List.mem_nil_iff, or_false] at md2
      rw [Nat.testBit_or, Bool.or_eq_true]
      rcases md2 with e | e
      · left; rw [← e, Int.toNat_natCast]; exact this
      · right; rw [← e, Int.toNat_natCast]; exact this
    rw [if_neg h8] at md2 ⊢
    by_cases h9 : (nthD l i).kd = 9
    · rw [if_pos h9] at md2 ⊢
      rw [if_pos (.inr h9), Nat.or_comm] at ud
      have := hb2 _ ud.symm
      simp only [List.mem_cons, List.mem_nil_iff, or_false] at md2
      rw [← md2, Int.toNat_natCast]
      exact this
    · rw [if_neg h9] at md2; simp at md2
theorem flw_set {l : List Nod} {i : Nat} (h6 : (nthD l i).kd = 6) (v : Nat) : flw l i v = if (nthD l i).num.toNat = v then nm l (nthD l i).pa.toNat ||| ctx l i else 0 := by rw [flw, flE, if_pos h6]
/-- What flows into a variable in the whole: what flows in by one of its Sets. -/
theorem flw_whole {l : List Nod} (h : proC l = 0) (v w : Nat) : (flE l.length l (l.length - 1) 0 v).testBit w = true ↔ ∃ i, i < l.length ∧ (nthD l i).kd = 6 ∧ (nthD l i).num.toNat = v ∧ (nm l (nthD l i).pa.toNat ||| ctx l i).testBit w = true := by
  have hG := good_of h
  have hs := hG.r.some
  have e : flE l.length l (l.length - 1) 0 v = flw l (l.length - 1) v := by rw [flw, ctx_last h, show l.length - 1 + 1 = l.length by omega]
  rw [e]
  constructor
  · have : ∀ (m i : Nat), i < m → i < l.length → 5 ≤ (nthD l i).kd → (flw l i v).testBit w = true → ∃ i, i < l.length ∧ (nthD l i).kd = 6 ∧ (nthD l i).num.toNat = v ∧ (nm l (nthD l i).pa.toNat ||| ctx l i).testBit w = true := fun m => by
      induction m with
      | zero => intro i hi; omega
      | succ m ih =>
        intro i him hi h5 hb
        by_cases h6 : (nthD l i).kd = 6
        · rw [flw_set h6] at hb
          by_cases hn : (nthD l i).num.toNat = v
          · rw [if_pos hn] at hb
            exact ⟨i, hi, h6, hn, hb⟩
          · rw [if_neg hn] at hb; simp at hb
        · obtain ⟨d, hd, hd5, he, hb2⟩ := (flw_parts h hi h5 h6 v w).1 hb
          have := (abv_some h he).2.2
          exact ih d (by omega) hd hd5 hb2
    exact this l.length (l.length - 1) (by omega) (by omega) hG.r.deed
  · rintro ⟨i, hi, h6, hn, hb⟩
    have : ∀ (m i : Nat), l.length - i ≤ m → i < l.length → 5 ≤ (nthD l i).kd → (flw l i v).testBit w = true → (flw l (l.length - 1) v).testBit w = true := fun m => by
      induction m with
      | zero => intro i hm hi; omega
      | succ m ih =>
        intro i hm hi h5 hb
        by_cases hl : i = l.length - 1
        · rw [← hl]; exact hb
        · obtain ⟨k, hk⟩ := abv_deed h (by omega) h5
          obtain ⟨k1, k2, k3⟩ := abv_some h hk
          have k7 := (dpt_place k2).elim fun _ q => q.2
          exact ih k (by omega) k1 (by omega) ((flw_parts h k1 (by omega) (by omega) v w).2 ⟨i, hi, h5, hk, hb⟩)
    exact this l.length i (by omega) hi (by omega) (by rw [flw_set h6, if_pos hn]; exact hb)

theorem nm_lt {l : List Nod} (hG : Good l) : ∀ (m i : Nat), i < m → i < l.length → (nthD l i).kd < 5 → ∀ w, (nm l i).testBit w = true → w < 6
  | 0, _, h, _, _ => absurd h (by omega)
  | m + 1, i, him, hi, h5 => fun w hw => by
    have hkd := hG.kd hi
    by_cases h0 : (nthD l i).kd = 0
    · rw [nm_num h0] at hw; simp at hw
    by_cases h1 : (nthD l i).kd = 1
    · obtain ⟨k, ek, hk⟩ := hG.var hi (.inl h1)
      rw [nm_var h1, ek, Int.toNat_natCast, Nat.testBit_two_pow] at hw
      have : k = w := by simpa using hw
      omega
    · have h2 : 2 ≤ (nthD l i).kd ∧ (nthD l i).kd ≤ 4 := by omega
      obtain ⟨a, b, ea, eb, ha, hb, ka, kb⟩ := hG.two hi h2
      rw [nm_two hG.r.wf hi h2, ea, eb, Int.toNat_natCast, Int.toNat_natCast, Nat.testBit_or, Bool.or_eq_true] at hw
      rcases hw with hw | hw
      · exact nm_lt hG m a (by omega) (by omega) ka w hw
      · exact nm_lt hG m b (by omega) (by omega) kb w hw
/-- What flows into each variable at once, as bits. -/
def rowF (l : List Nod) (v : Nat) : Nat := flE l.length l (l.length - 1) 0 v
theorem flE_lt {l : List Nod} (hG : Good l) : ∀ (k i : Nat), i < l.length → 5 ≤ (nthD l i).kd → ∀ c v w, (∀ w, c.testBit w = true → w < 6) → (flE k l i c v).testBit w = true → w < 6
  | 0, _, _, _, c, v, w, _, h => by simp [flE] at h
  | k + 1, i, hi, h5, c, v, w, hc, h => by
    have hkd := hG.kd hi
    rw [flE] at h
    by_cases h6 : (nthD l i).kd = 6
    · rw [if_pos h6] at h
      obtain ⟨a, k0, ea, ek, ha, hk0, ka⟩ := hG.setN hi h6
      split at h
      · rw [Nat.testBit_or, Bool.or_eq_true, ea, Int.toNat_natCast] at h
        exact h.elim (nm_lt hG (a + 1) a (Nat.lt_succ_self _) (by omega) ka w) (hc w)
      · simp at h
    rw [if_neg h6] at h
    by_cases h7 : (nthD l i).kd = 7
    · rw [if_pos h7, Nat.testBit_or, Bool.or_eq_true] at h
      obtain ⟨⟨a1, b1⟩, a2, b2⟩ := hG.both hi h7
      exact h.elim (flE_lt hG k _ (by omega) b1 c v w hc) (flE_lt hG k _ (by omega) b2 c v w hc)
    rw [if_neg h7] at h
    by_cases h8 : (nthD l i).kd = 8
    · obtain ⟨a, b, d, ea, eb, ed, ha, hb, hd, ka, kb, kd⟩ := hG.ifN hi h8
      have hc2 : ∀ w, (c ||| nm l a).testBit w = true → w < 6 := fun w hw => by
        rw [Nat.testBit_or, Bool.or_eq_true] at hw
        exact hw.elim (hc w) (nm_lt hG (a + 1) a (Nat.lt_succ_self _) (by omega) ka w)
      rw [if_pos h8, ea, eb, ed, Int.toNat_natCast, Int.toNat_natCast, Int.toNat_natCast, Nat.testBit_or, Bool.or_eq_true] at h
      exact h.elim (flE_lt hG k b (by omega) kb _ v w hc2) (flE_lt hG k d (by omega) kd _ v w hc2)
    rw [if_neg h8] at h
    by_cases h9 : (nthD l i).kd = 9
    · obtain ⟨a, b, ea, eb, ha, hb, ka, kb⟩ := hG.whlN hi h9
      have hc2 : ∀ w, (c ||| nm l a).testBit w = true → w < 6 := fun w hw => by
        rw [Nat.testBit_or, Bool.or_eq_true] at hw
        exact hw.elim (hc w) (nm_lt hG (a + 1) a (Nat.lt_succ_self _) (by omega) ka w)
      rw [if_pos h9, ea, eb, Int.toNat_natCast, Int.toNat_natCast] at h
      exact flE_lt hG k b (by omega) kb _ v w hc2 h
    · rw [if_neg h9] at h; simp at h
theorem rowF_lt {l : List Nod} (hG : Good l) {v w : Nat} (h : (rowF l v).testBit w = true) : w < 6 := by
  have := hG.r.some
  exact flE_lt hG _ _ (by omega) hG.r.deed 0 v w (fun w hw => by simp at hw) h
/-- Runs that begin alike in a set into which nothing else flows. -/
theorem runs_alike {l : List Nod} {S : Nat → Prop} (hS : ∀ v w, S v → (rowF l v).testBit w = true → S w) {n : Nat} {a b : Nat → Int} {F G : Int} {x y : (Nat → Int) × Nat} (h1 : runIs l n a F = .ok x) (h2 : runIs l n b G = .ok y) (hab : ∀ v, S v → a v = b v) : ∀ v, S v → x.1 v = y.1 v := by
  obtain ⟨hG, -, -, f, -, -, p, hp, -⟩ := runIs_ok h1
  obtain ⟨-, -, -, g, -, -, q, hq, -⟩ := runIs_ok h2
  have := hG.r.some
  have hO : OkF S l.length l (l.length - 1) := okF_of _ _ 0 fun v w hv hw => hS v w hv hw
  intro v hv
  exact quiet hG _ _ (by omega) hG.r.deed l.length (by omega) hO _ _ _ _ _ _ _ hab hp hq v hv
/-- FlowFrom: c is what flows into what, in so many steps. -/
theorem flow_from {l : List Nod} {c : Nat → Nat → Bool} (hc : Flw c) (hr : ∀ v w, v < 6 → w < 6 → (rowF l v).testBit w = true → c v w = true) {k n : Nat} (hn : n < 6) {a b : Nat → Int} {F G : Int} {x y : (Nat → Int) × Nat} (h1 : runIs l k a F = .ok x) (h2 : runIs l k b G = .ok y)
    (hab : ∀ i, i < 6 → c n i = true → a i = b i) : x.1 n = y.1 n := by
  have hG := good_of (runIs_pro h1)
  exact runs_alike (S := fun v => v < 6 ∧ c n v = true) (fun v w hv hw => ⟨rowF_lt hG hw, hc.tr n v w hn hv.1 (rowF_lt hG hw) hv.2 (hr v w hv.1 (rowF_lt hG hw) hw)⟩) h1 h2 (fun v hv => hab v hv.1 hv.2) n ⟨hn, hc.re n hn⟩
/-- FlowQuiet. -/
theorem flow_quiet {l : List Nod} {c : Nat → Nat → Bool} (hr : ∀ v w, v < 6 → w < 6 → (rowF l v).testBit w = true → c v w = true) {lv : Nat → Int} (hf : FitsP c lv) (level : Int) {k : Nat} {a b : Nat → Int} {F G : Int} {x y : (Nat → Int) × Nat} (h1 : runIs l k a F = .ok x) (h2 : runIs l k b G = .ok y)
    (hab : ∀ i, i < 6 → lv i ≤ level → a i = b i) : ∀ i, i < 6 → lv i ≤ level → x.1 i = y.1 i := by
  have hG := good_of (runIs_pro h1)
  intro i hi hl
  exact runs_alike (S := fun v => v < 6 ∧ lv v ≤ level) (fun v w hv hw => ⟨rowF_lt hG hw, level_closed hf level hv.1 (rowF_lt hG hw) hv.2 (hr v w hv.1 (rowF_lt hG hw) hw)⟩) h1 h2 (fun v hv => hab v hv.1 hv.2) i ⟨hi, hl⟩

theorem rowF_small {l : List Nod} (hG : Good l) (v : Nat) : rowF l v < 2 ^ 6 := lt_of_bits fun j hj => rowF_lt hG hj
/-- The rows of what flows into each variable at once. -/
def rowsF (l : List Nod) : List Nat := (List.range 6).map (rowF l)
theorem rowsF_get (l : List Nod) {i : Nat} (hi : i < 6) : (rowsF l).getD i 0 = rowF l i := by simp [rowsF, hi]
theorem rowsF_right {l : List Nod} (hG : Good l) : Right 6 (rowsF l) := by
  refine ⟨by decide, by simp [rowsF], fun i => ?_⟩
  by_cases hi : i < 6
  · rw [rowsF_get l hi]; exact rowF_small hG i
  · have : (rowsF l).getD i 0 = 0 := by simp [rowsF, hi]
    rw [this]; decide
/-- Of each variable those from which it is come to, as bits. -/
def comF (l : List Nod) (i : Nat) : Nat := come 6 (rowsF l) i
def cF (l : List Nod) (i j : Nat) : Bool := (comF l i).testBit j
theorem comF_lt {l : List Nod} (hG : Good l) {i : Nat} (hi : i < 6) : comF l i < 2 ^ 6 := come_lt (rowsF_right hG) hi
theorem cF_iff {l : List Nod} (hG : Good l) {i : Nat} (hi : i < 6) (j : Nat) : cF l i j = true ↔ Reach (rowsF l) i j := come_bit (rowsF_right hG) hi j
theorem cF_flw {l : List Nod} (hG : Good l) : Flw (cF l) where
  re := fun i hi => (cF_iff hG hi i).2 (Reach.refl _ _)
  tr := fun i j k hi hj hk h1 h2 => (cF_iff hG hi k).2 (((cF_iff hG hi j).1 h1).trans ((cF_iff hG hj k).1 h2))
theorem cF_row {l : List Nod} (hG : Good l) {v w : Nat} (hv : v < 6) (h : (rowF l v).testBit w = true) : cF l v w = true :=
  (cF_iff hG hv w).2 ((Reach.refl _ _).step (by rw [rowsF_get l hv]; exact h))
/-- The closure of a closure is as it was. -/
theorem come_again {rows rows2 : List Nat} (hr : Right 6 rows) (hr2 : Right 6 rows2) (h : ∀ i, i < 6 → rows2.getD i 0 = come 6 rows i) {i : Nat} (hi : i < 6) : come 6 rows2 i = come 6 rows i := eq_of_bits fun j => by
  rw [come_bit hr2 hi]
  constructor
  · intro hR
    exact (hR (fun k => k < 6 ∧ (come 6 rows i).testBit k = true) ⟨hi, (come_bit hr hi i).2 (Reach.refl _ _)⟩ fun a b ⟨ha, hb⟩ hab => by
      rw [h a ha] at hab
      exact ⟨bit_lt (come_lt hr ha) hab, (come_bit hr hi b).2 (((come_bit hr hi a).1 hb).trans ((come_bit hr ha b).1 hab))⟩).2
  · intro hj
    exact (Reach.refl _ _).step (by rw [h i hi]; exact hj)

/-- What is wrong with levels. -/
def levB (lv : Nat → Int) (low : Int) : Bool := (List.range 6).any fun j => decide (lv j < low ∨ 7 < lv j)
def levC (n : Nat) (lv : Nat → Int) (low : Int) : Int := if n ≠ 6 then 3 else if levB lv low = true then 1 else 0
theorem levB_ok {lv : Nat → Int} {low : Int} : levB lv low = false ↔ ∀ j, j < 6 → low ≤ lv j ∧ lv j ≤ 7 := by
  unfold levB
  rw [List.any_eq_false]
  simp only [List.mem_range, decide_eq_true_eq]
  exact ⟨fun h j hj => by have := h j hj; omega, fun h j hj => by have := h j hj; omega⟩
theorem levC_ok {n : Nat} {lv : Nat → Int} {low : Int} (h : levC n lv low = 0) : n = 6 ∧ ∀ j, j < 6 → low ≤ lv j ∧ lv j ≤ 7 := by
  unfold levC at h
  by_cases hn : n = 6
  · rw [if_neg (by omega)] at h
    cases hb : levB lv low with
    | true => rw [hb, if_pos rfl] at h; cases h
    | false => exact ⟨hn, levB_ok.1 hb⟩
  · rw [if_pos hn] at h; cases h
theorem levC_six {lv : Nat → Int} {low : Int} : levC 6 lv low = if levB lv low = true then 1 else 0 := by unfold levC; rw [if_neg (by decide)]
theorem levB_bad {lv : Nat → Int} {low : Int} {j : Nat} (hj : j < 6) (h : lv j < low ∨ 7 < lv j) : levB lv low = true := by
  cases hb : levB lv low with
  | true => rfl
  | false => have := levB_ok.1 hb j hj; omega
theorem levC_bad {lv : Nat → Int} {low : Int} {j : Nat} (hj : j < 6) (h : lv j < low ∨ 7 < lv j) : levC 6 lv low = 1 := by rw [levC_six, levB_bad hj h, if_pos rfl]
theorem levC_fine {lv : Nat → Int} {low : Int} (h : ∀ j, j < 6 → low ≤ lv j ∧ lv j ≤ 7) : levC 6 lv low = 0 := by rw [levC_six, levB_ok.2 h, if_neg (by decide)]
/-- What is wrong with a program and levels; and where none fit. -/
def fitC (l : List Nod) (n : Nat) (lv : Nat → Int) (low : Int) : Int := if proC l ≠ 0 then proC l else levC n lv low
def lstC (l : List Nod) (n : Nat) (lv : Nat → Int) : Int := if fitC l n lv (-1) ≠ 0 then fitC l n lv (-1) else if toldB (cF l) lv = true then 0 else 6
theorem fitC_ok {l : List Nod} {n : Nat} {lv : Nat → Int} {low : Int} (h : fitC l n lv low = 0) : proC l = 0 ∧ n = 6 ∧ ∀ j, j < 6 → low ≤ lv j ∧ lv j ≤ 7 := by
  unfold fitC at h
  by_cases hp : proC l = 0
  · rw [if_neg (by omega)] at h
    exact ⟨hp, levC_ok h⟩
  · rw [if_pos hp] at h; exact absurd h hp
theorem fitC_pro {l : List Nod} {n : Nat} {lv : Nat → Int} {low : Int} (hp : proC l = 0) : fitC l n lv low = levC n lv low := by unfold fitC; rw [if_neg (by omega)]
theorem fitC_bad {l : List Nod} {n : Nat} {lv : Nat → Int} {low : Int} (hp : proC l ≠ 0) : fitC l n lv low = proC l := by unfold fitC; rw [if_pos hp]

/-- The highest level of some. -/
def mxL (lv : Nat → Int) (pre : List (Thing 6)) : Int := pre.foldl (fun a i => max a (lv i.1)) 0
theorem mxL_snoc (lv : Nat → Int) (pre : List (Thing 6)) (i : Thing 6) : mxL lv (pre ++ [i]) = max (mxL lv pre) (lv i.1) := by simp [mxL]
theorem mxL_gen (lv : Nat → Int) : ∀ (pre : List (Thing 6)) (a : Int), a ≤ pre.foldl (fun a i => max a (lv i.1)) a ∧ (∀ i ∈ pre, lv i.1 ≤ pre.foldl (fun a i => max a (lv i.1)) a) ∧ ∀ b, a ≤ b → (∀ i ∈ pre, lv i.1 ≤ b) → pre.foldl (fun a i => max a (lv i.1)) a ≤ b
  | [], a => ⟨Int.le_refl _, fun i hi => absurd hi List.not_mem_nil, fun b h _ => h⟩
  | x :: pre, a => by
    obtain ⟨h1, h2, h3⟩ := mxL_gen lv pre (max a (lv x.1))
    simp only [List.foldl_cons]
    refine ⟨by omega, fun i hi => ?_, fun b hb h => h3 b (by have := h x (by simp); omega) fun i hi => h i (by simp [hi])⟩
    rcases List.mem_cons.1 hi with rfl | hi
    · omega
    · exact h2 i hi
theorem mxL_all {set : Nat} (hs : set < 2 ^ 6) (lv : Nat → Int) (c : Nat → Nat → Bool) (i : Nat) (hc : ∀ j, c i j = set.testBit j) : mxL lv (memN 6 set) = mx c lv i 6 := by
  obtain ⟨h1, h2, h3⟩ := mxL_gen lv (memN 6 set) 0
  refine Int.le_antisymm (h3 _ (mx_nonneg c lv i 6) fun j hj => mx_ge c lv i 6 j.1 j.2 ?_) (mx_le c lv i _ h1 6 fun j hj hcj => h2 ⟨j, hj⟩ ?_)
  · rw [hc]; exact (memN_iff (by decide) hs j).1 hj
  · rw [hc] at hcj; exact (memN_iff (by decide) hs ⟨j, hj⟩).2 hcj
/-- The highest level of what flows into a variable. -/
def ndF (l : List Nod) (lv : Nat → Int) (i : Nat) : Int := mx (cF l) lv i 6
theorem ndF_is {l : List Nod} (hG : Good l) (lv : Nat → Int) {i : Nat} (hi : i < 6) : mxL lv (memN 6 (comF l i)) = ndF l lv i := mxL_all (comF_lt hG hi) lv (cF l) i fun j => rfl
theorem ndF_bnd {l : List Nod} {lv : Nat → Int} (h : ∀ j, j < 6 → lv j ≤ 7) (i : Nat) : 0 ≤ ndF l lv i ∧ ndF l lv i ≤ 7 := ⟨mx_nonneg _ _ _ _, mx_le _ _ _ _ (by decide) _ fun j hj _ => h j hj⟩
theorem ndF_self {l : List Nod} (hG : Good l) {lv : Nat → Int} {i : Nat} (hi : i < 6) : lv i ≤ ndF l lv i := mx_ge _ _ _ _ _ hi ((cF_flw hG).re i hi)
/-- All are as high as what flows into them just where they fit. -/
theorem nd_fits {l : List Nod} (hG : Good l) {lv : Nat → Int} (h0 : ∀ j, j < 6 → 0 ≤ lv j) : (∀ i, i < 6 → ndF l lv i = lv i) ↔ FitsP (cF l) lv := by
  constructor
  · intro h i hi j hj hc
    rw [← h i hi]
    exact mx_ge _ _ _ _ _ hj hc
  · intro h i hi
    exact Int.le_antisymm (mx_le _ _ _ _ (h0 i hi) _ fun j hj hc => h i hi j hj hc) (ndF_self hG hi)
theorem nd_told {l : List Nod} (hG : Good l) {lv : Nat → Int} (h0 : ∀ j, j < 6 → -1 ≤ lv j) : (∀ i, i < 6 → lv i = -1 ∨ lv i = ndF l lv i) ↔ ToldP (cF l) lv := by
  constructor
  · intro h i hi j hj hc h1
    rcases h i hi with e | e
    · omega
    · rw [e]; exact mx_ge _ _ _ _ _ hj hc
  · intro h i hi
    by_cases e : lv i = -1
    · exact .inl e
    · have := h0 i hi
      exact .inr (Int.le_antisymm (ndF_self hG hi) (mx_le _ _ _ _ (by omega) _ fun j hj hc => h i hi j hj hc (by omega)))
theorem nd_least {l : List Nod} (hG : Good l) {lv : Nat → Int} (h0 : ∀ j, j < 6 → -1 ≤ lv j) (h : ToldP (cF l) lv) {i : Nat} (hi : i < 6) : ndF l lv i = leastI (cF l) lv i := by
  unfold leastI
  by_cases e : 0 ≤ lv i
  · rw [if_pos e]
    rcases (nd_told hG h0).2 h i hi with q | q
    · omega
    · exact q.symm
  · rw [if_neg e]; rfl

/-- What flows in by the Sets among the first nodes. -/
def stF (l : List Nod) (i : Nat) : Nat := nm l (nthD l i).pa.toNat ||| ctx l i
def rowP (l : List Nod) (v : Nat) : Nat → Nat
  | 0 => 0
  | i + 1 => if (nthD l i).kd = 6 ∧ (nthD l i).num.toNat = v then rowP l v i ||| stF l i else rowP l v i
theorem rowP_bit (l : List Nod) (v w : Nat) : ∀ n, (rowP l v n).testBit w = true ↔ ∃ i, i < n ∧ (nthD l i).kd = 6 ∧ (nthD l i).num.toNat = v ∧ (stF l i).testBit w = true
  | 0 => by simp [rowP]
  | n + 1 => by
    rw [rowP]
    constructor
    · intro h
      split at h
      · rename_i q
        rw [Nat.testBit_or, Bool.or_eq_true] at h
        rcases h with h | h
        · obtain ⟨i, hi, k⟩ := (rowP_bit l v w n).1 h
          exact ⟨i, by omega, k⟩
        · exact ⟨n, by omega, q.1, q.2, h⟩
      · obtain ⟨i, hi, k⟩ := (rowP_bit l v w n).1 h
        exact ⟨i, by omega, k⟩
    · rintro ⟨i, hi, k1, k2, k3⟩
      by_cases e : i = n
      · subst e
        rw [if_pos ⟨k1, k2⟩, Nat.testBit_or, k3, Bool.or_true]
      · have := (rowP_bit l v w n).2 ⟨i, by omega, k1, k2, k3⟩
        split
        · rw [Nat.testBit_or, this]; rfl
        · exact this
theorem rowP_all {l : List Nod} (h : proC l = 0) (v : Nat) : rowP l v l.length = rowF l v := eq_of_bits fun w => by
  rw [rowP_bit]
  exact (flw_whole h v w).symm
theorem ctx_none {l : List Nod} {i : Nat} (e : abv l i = none) : ctx l i = 0 := by
  unfold ctx
  cases hl : l.length with
  | zero => rfl
  | succ f => rw [ctxE, e]
/-- A node above, as a number. -/
def abI (o : Option Nat) : Int := match o with | none => -1 | some k => (k : Int)
theorem dpt_iff (x : Nod) (i : Int) : i ∈ dpt x ↔ ∃ j, (prtL x)[j]? = some i ∧ valB x.kd j = false := by
  have vb : ∀ j, valB x.kd j = false ↔ ¬ (x.kd < 5 ∨ (j = 0 ∧ x.kd ≠ 7)) := fun j => by unfold valB; rw [decide_eq_false_iff_not]
  simp only [vb]
  unfold dpt prtL
  by_cases h7 : x.kd = 7
  · rw [if_pos h7, if_neg (by omega), if_neg (by omega), if_pos (.inr (.inl h7))]
    constructor
    · intro h
      obtain ⟨j, hj⟩ := List.mem_iff_getElem?.1 h
      exact ⟨j, hj, by omega⟩
    · rintro ⟨j, hj, _⟩
      exact List.mem_of_getElem? hj
  rw [if_neg h7]
  by_cases h8 : x.kd = 8
  · rw [if_pos h8, if_pos h8]
    constructor
    · intro h
      obtain ⟨j, hj⟩ := List.mem_iff_getElem?.1 h
      exact ⟨j + 1, by simpa using hj, by omega⟩
    · rintro ⟨j, hj, hv⟩
      match j, hj, hv with
      | 0, _, hv => exact absurd (.inr ⟨rfl, h7⟩) hv
      | j + 1, hj, _ => exact List.mem_of_getElem? (i := j) (by simpa using hj)
  rw [if_neg h8, if_neg h8]
  by_cases h9 : x.kd = 9
  · rw [if_pos h9, if_neg (by omega), if_pos (.inr (.inr h9))]
    constructor
    · intro h
      obtain ⟨j, hj⟩ := List.mem_iff_getElem?.1 h
      exact ⟨j + 1, by simpa using hj, by omega⟩
    · rintro ⟨j, hj, hv⟩
      match j, hj, hv with
      | 0, _, hv => exact absurd (.inr ⟨rfl, h7⟩) hv
      | j + 1, hj, _ => exact List.mem_of_getElem? (i := j) (by simpa using hj)
  rw [if_neg h9]
  constructor
  · intro h; cases h
  · rintro ⟨j, hj, hv⟩
    exfalso
    by_cases h6 : x.kd = 6
    · rw [if_pos h6] at hj
      match j, hj with
      | 0, _ => exact hv (.inr ⟨rfl, h7⟩)
      | j + 1, hj => simp at hj
    · rw [if_neg h6] at hj
      by_cases h2 : (2 ≤ x.kd ∧ x.kd ≤ 4) ∨ x.kd = 7 ∨ x.kd = 9
      · exact hv (.inl (by omega))
      · rw [if_neg h2] at hj; simp at hj
/-- The parts of a value are values. -/
theorem parts_val {l : List Nod} (hG : Good l) {i : Nat} (hi : i < l.length) (h5 : (nthD l i).kd < 5) {j : Nat} {p : Int} (h : (prtL (nthD l i))[j]? = some p) : ∃ q : Nat, p = (q : Int) ∧ q < i ∧ (nthD l q).kd < 5 := by
  have hkd := hG.kd hi
  by_cases h2 : 2 ≤ (nthD l i).kd ∧ (nthD l i).kd ≤ 4
  · obtain ⟨a, b, ea, eb, ha, hb, ka, kb⟩ := hG.two hi h2
    unfold prtL at h
    rw [if_neg (by omega), if_neg (by omega), if_pos (.inl h2), ea, eb] at h
    match j, h with
    | 0, h => cases h; exact ⟨a, rfl, by omega, ka⟩
    | 1, h => cases h; exact ⟨b, rfl, by omega, kb⟩
    | j + 2, h => simp at h
  · unfold prtL at h
    rw [if_neg (by omega), if_neg (by omega), if_neg (by omega)] at h
    simp at h
/-- The variables of the first of some values. -/
def orP (l : List Nod) (ps : List Int) : Nat → Nat
  | 0 => 0
  | k + 1 => orP l ps k ||| nm l (ps.getD k 0).toNat
theorem nm_orP {l : List Nod} (hG : Good l) {i : Nat} (hi : i < l.length) (h5 : (nthD l i).kd < 5) (h1 : (nthD l i).kd ≠ 1) : nm l i = orP l (prtL (nthD l i)) (prtL (nthD l i)).length := by
  have hkd := hG.kd hi
  by_cases h2 : 2 ≤ (nthD l i).kd ∧ (nthD l i).kd ≤ 4
  · have e : prtL (nthD l i) = [(nthD l i).pa, (nthD l i).pb] := by
      unfold prtL
      rw [if_neg (by omega), if_neg (by omega), if_pos (.inl h2)]
    rw [nm_two hG.r.wf hi h2, e]
    simp [orP]
  · have e : prtL (nthD l i) = [] := by
      unfold prtL
      rw [if_neg (by omega), if_neg (by omega), if_neg (by omega)]
    rw [nm_num (by omega), e]
    rfl
theorem nm_small {l : List Nod} (hG : Good l) {i : Nat} (hi : i < l.length) (h5 : (nthD l i).kd < 5) : nm l i < 2 ^ 6 := lt_of_bits fun j hj => nm_lt hG (i + 1) i (Nat.lt_succ_self _) hi h5 j hj
theorem or_small {a b : Nat} (h : a < 2 ^ 6) (k : b < 2 ^ 6) : a ||| b < 2 ^ 6 := Nat.or_lt_two_pow h k
theorem orP_small {l : List Nod} {ps : List Int} (h : ∀ (j : Nat) (p : Int), ps[j]? = some p → nm l p.toNat < 2 ^ 6) : ∀ k, k ≤ ps.length → orP l ps k < 2 ^ 6
  | 0, _ => show 0 < 2 ^ 6 by decide
  | k + 1, hk => by
    rw [orP]
    refine or_small (orP_small h k (by omega)) ?_
    have := h k (ps.getD k 0) (by rw [List.getD_eq_getElem?_getD, List.getElem?_eq_getElem (by omega)]; rfl)
    exact this
theorem ctx_small {l : List Nod} (h : proC l = 0) : ∀ (f i : Nat), ctxE f l i < 2 ^ 6
  | 0, i => show 0 < 2 ^ 6 by decide
  | f + 1, i => by
    rw [ctxE]
    cases e : abv l i with
    | none => exact (show 0 < 2 ^ 6 by decide)
    | some k =>
      obtain ⟨h1, h2, _⟩ := abv_some h e
      refine or_small ?_ (ctx_small h f k)
      have hG := good_of h
      split
      · rename_i c
        rcases c with c | c
        · obtain ⟨a, b, d, ea, eb, ed, ha, hb, hd, ka, kb, kd⟩ := hG.ifN h1 c
          rw [ea, Int.toNat_natCast]; exact nm_small hG (by omega) ka
        · obtain ⟨a, b, ea, eb, ha, hb, ka, kb⟩ := hG.whlN h1 c
          rw [ea, Int.toNat_natCast]; exact nm_small hG (by omega) ka
      · decide
end Go.Proofs.YtioimgeeamchaaaDoor
