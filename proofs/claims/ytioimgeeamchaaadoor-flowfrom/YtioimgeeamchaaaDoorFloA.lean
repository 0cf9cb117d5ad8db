/- What flows where in a program, plainly: what does not flow in does not matter. -/
import Derived.Test.YtioimgeeamchaaaDoorRunC
namespace Go.Proofs.YtioimgeeamchaaaDoor
open Go.RowKit
set_option maxRecDepth 100000
set_option linter.unusedVariables false

/-- The variables of a value, as bits. -/
def nmE : Nat → List Nod → Nat → Nat
  | 0, _, _ => 0
  | k + 1, l, i => if (nthD l i).kd = 1 then 2 ^ (nthD l i).num.toNat else if 2 ≤ (nthD l i).kd ∧ (nthD l i).kd ≤ 4 then nmE k l (nthD l i).pa.toNat ||| nmE k l (nthD l i).pb.toNat else 0
def nm (l : List Nod) (i : Nat) : Nat := nmE (i + 1) l i
theorem nmE_fuel {l : List Nod} (hw : WfN l) : ∀ (m i : Nat), i < m → i < l.length → ∀ k k', i < k → i < k' → nmE k l i = nmE k' l i
  | 0, _, h, _ => absurd h (by omega)
  | m + 1, i, him, hi => fun k k' hk hk' => by
    obtain ⟨k, rfl⟩ : ∃ q, k = q + 1 := ⟨k - 1, by omega⟩
    obtain ⟨k', rfl⟩ : ∃ q, k' = q + 1 := ⟨k' - 1, by omega⟩
    rw [nmE, nmE]
    split
    · rfl
    split
    · rename_i h
      obtain ⟨a1, a2, _, _⟩ := wf_two hw hi (.inl h)
      rw [nmE_fuel hw m _ (by omega) (by omega) k k' (by omega) (by omega), nmE_fuel hw m _ (by omega) (by omega) k k' (by omega) (by omega)]
    · rfl
theorem nm_var {l : List Nod} {i : Nat} (h : (nthD l i).kd = 1) : nm l i = 2 ^ (nthD l i).num.toNat := by rw [nm, nmE, if_pos h]
theorem nm_num {l : List Nod} {i : Nat} (h : (nthD l i).kd = 0) : nm l i = 0 := by rw [nm, nmE, if_neg (by omega), if_neg (by omega)]
theorem nm_two {l : List Nod} (hw : WfN l) {i : Nat} (hi : i < l.length) (h : 2 ≤ (nthD l i).kd ∧ (nthD l i).kd ≤ 4) : nm l i = nm l (nthD l i).pa.toNat ||| nm l (nthD l i).pb.toNat := by
  obtain ⟨a1, a2, _, _⟩ := wf_two hw hi (.inl h)
  rw [nm, nmE, if_neg (by omega), if_pos h, nmE_fuel hw i _ a1 (by omega) i _ a1 (Nat.lt_succ_self _), nmE_fuel hw i _ a2 (by omega) i _ a2 (Nat.lt_succ_self _)]
  rfl
/-- A value hangs on its variables alone. -/
theorem vl_agree {l : List Nod} (hG : Good l) {s t : Nat → Int} : ∀ (m i : Nat), i < m → i < l.length → (nthD l i).kd < 5 → (∀ w, (nm l i).testBit w = true → s w = t w) → vl l i s = vl l i t
  | 0, _, h, _, _, _ => absurd h (by omega)
  | m + 1, i, him, hi, h5, hst => by
    have hkd := hG.kd hi
    by_cases h0 : (nthD l i).kd = 0
    · rw [vl_num h0, vl_num h0]
    by_cases h1 : (nthD l i).kd = 1
    · rw [vl_var h1, vl_var h1]
      exact hst _ (by rw [nm_var h1, Nat.testBit_two_pow]; simp)
    · have h2 : 2 ≤ (nthD l i).kd ∧ (nthD l i).kd ≤ 4 := by omega
      obtain ⟨a, b, ea, eb, ha, hb, ka, kb⟩ := hG.two hi h2
      rw [nm_two hG.r.wf hi h2, ea, eb, Int.toNat_natCast, Int.toNat_natCast] at hst
      rw [vl_two hG.r.wf hi h2, vl_two hG.r.wf hi h2, ea, eb, Int.toNat_natCast, Int.toNat_natCast]
      rw [vl_agree hG m a (by omega) (by omega) ka fun w hw => hst w (by rw [Nat.testBit_or, hw]; rfl), vl_agree hG m b (by omega) (by omega) kb fun w hw => hst w (by rw [Nat.testBit_or, hw, Bool.or_true])]

/-- The variables that a deed may put, as bits. -/
def ptE : Nat → List Nod → Nat → Nat
  | 0, _, _ => 0
  | k + 1, l, i =>
    if (nthD l i).kd = 6 then 2 ^ (nthD l i).num.toNat
    else if (nthD l i).kd = 7 then ptE k l (nthD l i).pa.toNat ||| ptE k l (nthD l i).pb.toNat
    else if (nthD l i).kd = 8 then ptE k l (nthD l i).pb.toNat ||| ptE k l (nthD l i).pc.toNat
    else if (nthD l i).kd = 9 then ptE k l (nthD l i).pb.toNat else 0
/-- What flows into a variable in a deed, in the midst of c. -/
def flE : Nat → List Nod → Nat → Nat → Nat → Nat
  | 0, _, _, _, _ => 0
  | k + 1, l, i, c, v =>
    if (nthD l i).kd = 6 then (if (nthD l i).num.toNat = v then nm l (nthD l i).pa.toNat ||| c else 0)
    else if (nthD l i).kd = 7 then flE k l (nthD l i).pa.toNat c v ||| flE k l (nthD l i).pb.toNat c v
    else if (nthD l i).kd = 8 then flE k l (nthD l i).pb.toNat (c ||| nm l (nthD l i).pa.toNat) v ||| flE k l (nthD l i).pc.toNat (c ||| nm l (nthD l i).pa.toNat) v
    else if (nthD l i).kd = 9 then flE k l (nthD l i).pb.toNat (c ||| nm l (nthD l i).pa.toNat) v else 0
/-- What flows into a variable of a set is in the set, for a deed. -/
def OkF (S : Nat → Prop) : Nat → List Nod → Nat → Prop
  | 0, _, _ => True
  | k + 1, l, i =>
    ((nthD l i).kd = 6 → S (nthD l i).num.toNat → ∀ w, (nm l (nthD l i).pa.toNat).testBit w = true → S w) ∧
    ((nthD l i).kd = 7 → OkF S k l (nthD l i).pa.toNat ∧ OkF S k l (nthD l i).pb.toNat) ∧
    ((nthD l i).kd = 8 → (∀ v, (ptE (k + 1) l i).testBit v = true → S v → ∀ w, (nm l (nthD l i).pa.toNat).testBit w = true → S w) ∧ OkF S k l (nthD l i).pb.toNat ∧ OkF S k l (nthD l i).pc.toNat) ∧
    ((nthD l i).kd = 9 → (∀ v, (ptE (k + 1) l i).testBit v = true → S v → ∀ w, (nm l (nthD l i).pa.toNat).testBit w = true → S w) ∧ OkF S k l (nthD l i).pb.toNat)
/-- What is around a deed flows into all that it may put. -/
theorem flE_around {l : List Nod} : ∀ (k i c v w : Nat), (ptE k l i).testBit v = true → c.testBit w = true → (flE k l i c v).testBit w = true
  | 0, i, c, v, w, h, _ => by simp [ptE] at h
  | k + 1, i, c, v, w, h, hc => by
    rw [ptE] at h
    rw [flE]
    by_cases h6 : (nthD l i).kd = 6
    · rw [if_pos h6] at h ⊢
      rw [Nat.testBit_two_pow] at h
      rw [if_pos (by simpa using h), Nat.testBit_or, hc, Bool.or_true]
    rw [if_neg h6] at h ⊢
    by_cases h7 : (nthD l i).kd = 7
    · rw [if_pos h7] at h ⊢
      rw [Nat.testBit_or, Bool.or_eq_true] at h ⊢
      exact h.imp (fun q => flE_around k _ c v w q hc) (fun q => flE_around k _ c v w q hc)
    rw [if_neg h7] at h ⊢
    have hc2 : (c ||| nm l (nthD l i).pa.toNat).testBit w = true := by rw [Nat.testBit_or, hc]; rfl
    by_cases h8 : (nthD l i).kd = 8
    · rw [if_pos h8] at h ⊢
      rw [Nat.testBit_or, Bool.or_eq_true] at h ⊢
      exact h.imp (fun q => flE_around k _ _ v w q hc2) (fun q => flE_around k _ _ v w q hc2)
    rw [if_neg h8] at h ⊢
    by_cases h9 : (nthD l i).kd = 9
    · rw [if_pos h9] at h ⊢
      exact flE_around k _ _ v w h hc2
    · rw [if_neg h9] at h; simp at h
theorem okF_of {l : List Nod} {S : Nat → Prop} : ∀ (k i c : Nat), (∀ v w, S v → (flE k l i c v).testBit w = true → S w) → OkF S k l i
  | 0, _, _, _ => trivial
  | k + 1, i, c, h => by
    rw [OkF]
    refine ⟨fun h6 hv w hw => ?_, fun h7 => ?_, fun h8 => ?_, fun h9 => ?_⟩
    · exact h _ w hv (by rw [flE, if_pos h6, if_pos rfl, Nat.testBit_or, hw]; rfl)
    · have e : ∀ v, flE (k + 1) l i c v = flE k l (nthD l i).pa.toNat c v ||| flE k l (nthD l i).pb.toNat c v := fun v => by rw [flE, if_neg (by omega), if_pos h7]
      exact ⟨okF_of k _ c fun v w hv hw => h v w hv (by rw [e, Nat.testBit_or, hw]; rfl), okF_of k _ c fun v w hv hw => h v w hv (by rw [e, Nat.testBit_or, hw, Bool.or_true])⟩
    · have e : ∀ v, flE (k + 1) l i c v = flE k l (nthD l i).pb.toNat (c ||| nm l (nthD l i).pa.toNat) v ||| flE k l (nthD l i).pc.toNat (c ||| nm l (nthD l i).pa.toNat) v := fun v => by rw [flE, if_neg (by omega), if_neg (by omega), if_pos h8]
      refine ⟨fun v hp hv w hw => ?_, okF_of k _ (c ||| nm l (nthD l i).pa.toNat) fun v w hv hw => h v w hv (by rw [e, Nat.testBit_or, hw]; rfl), okF_of k _ (c ||| nm l (nthD l i).pa.toNat) fun v w hv hw => h v w hv (by rw [e, Nat.testBit_or, hw, Bool.or_true])⟩
      rw [ptE, if_neg (by omega), if_neg (by omega), if_pos h8, Nat.testBit_or, Bool.or_eq_true] at hp
      have hc2 : (c ||| nm l (nthD l i).pa.toNat).testBit w = true := by rw [Nat.testBit_or, hw, Bool.or_true]
      refine h v w hv ?_
      rw [e, Nat.testBit_or, Bool.or_eq_true]
      exact hp.imp (fun q => flE_around k _ _ v w q hc2) (fun q => flE_around k _ _ v w q hc2)
    · have e : ∀ v, flE (k + 1) l i c v = flE k l (nthD l i).pb.toNat (c ||| nm l (nthD l i).pa.toNat) v := fun v => by rw [flE, if_neg (by omega), if_neg (by omega), if_neg (by omega), if_pos h9]
      refine ⟨fun v hp hv w hw => ?_, okF_of k _ (c ||| nm l (nthD l i).pa.toNat) fun v w hv hw => h v w hv (by rw [e]; exact hw)⟩
      rw [ptE, if_neg (by omega), if_neg (by omega), if_neg (by omega), if_pos h9] at hp
      exact h v w hv (by rw [e]; exact flE_around k _ _ v w hp (by rw [Nat.testBit_or, hw, Bool.or_true]))
theorem ptE_fuel {l : List Nod} (hG : Good l) : ∀ (m i : Nat), i < m → i < l.length → 5 ≤ (nthD l i).kd → ∀ k k', i < k → i < k' → ptE k l i = ptE k' l i
  | 0, _, h, _, _ => absurd h (by omega)
  | m + 1, i, him, hi, h5 => fun k k' hk hk' => by
    obtain ⟨k, rfl⟩ : ∃ q, k = q + 1 := ⟨k - 1, by omega⟩
    obtain ⟨k', rfl⟩ : ∃ q, k' = q + 1 := ⟨k' - 1, by omega⟩
    rw [ptE, ptE]
    split
    · rfl
    split
    · rename_i h7
      obtain ⟨⟨a1, b1⟩, a2, b2⟩ := hG.both hi h7
      rw [ptE_fuel hG m _ (by omega) (by omega) b1 k k' (by omega) (by omega), ptE_fuel hG m _ (by omega) (by omega) b2 k k' (by omega) (by omega)]
    split
    · rename_i h8
      obtain ⟨a1, ⟨a2, b2⟩, a3, b3⟩ := hG.if hi h8
      rw [ptE_fuel hG m _ (by omega) (by omega) b2 k k' (by omega) (by omega), ptE_fuel hG m _ (by omega) (by omega) b3 k k' (by omega) (by omega)]
    split
    · rename_i h9
      obtain ⟨a1, a2, b2⟩ := hG.whl hi h9
      rw [ptE_fuel hG m _ (by omega) (by omega) b2 k k' (by omega) (by omega)]
    · rfl
/-- What a deed may not put stays. -/
theorem pt_stay {l : List Nod} (hG : Good l) {v : Nat} : ∀ (k i : Nat), i < l.length → 5 ≤ (nthD l i).kd → ∀ K, i < K → (ptE K l i).testBit v = false → ∀ (s : Nat → Int) (f : Nat) (r : (Nat → Int) × Nat), exN l k i s f = some r → r.1 v = s v
  | 0, _, _, _, _, _, _, _, _, _, h => by cases h
  | k + 1, i, hi, h5, K, hK, hp, s, f, r, h => by
    have hkd := hG.kd hi
    obtain ⟨K, rfl⟩ : ∃ q, K = q + 1 := ⟨K - 1, by omega⟩
    rw [exN] at h
    split at h
    · cases h; rfl
    split at h
    · rename_i c
      obtain ⟨⟨a1, b1⟩, a2, b2⟩ := hG.both hi c
      obtain ⟨a, h1, h2⟩ := rbind h
      rw [ptE, if_neg (by omega), if_pos c, Nat.testBit_or, Bool.or_eq_false_iff] at hp
      rw [pt_stay hG k _ (by omega) b2 K (by omega) hp.2 _ _ _ h2]
      exact pt_stay hG k _ (by omega) b1 K (by omega) hp.1 _ _ _ h1
    split at h
    · cases h
    split at h
    · rename_i c; cases h
      rw [ptE, if_pos c, Nat.testBit_two_pow] at hp
      show upv s _ _ v = s v
      unfold upv
      rw [if_neg (fun q => by simp [q] at hp)]
    split at h
    · rename_i c
      obtain ⟨a1, ⟨a2, b2⟩, a3, b3⟩ := hG.if hi c
      rw [ptE, if_neg (by omega), if_neg (by omega), if_pos c, Nat.testBit_or, Bool.or_eq_false_iff] at hp
      split at h
      · exact pt_stay hG k _ (by omega) b2 K (by omega) hp.1 _ _ _ h
      · exact pt_stay hG k _ (by omega) b3 K (by omega) hp.2 _ _ _ h
    split at h
    · cases h; rfl
    · have c9 : (nthD l i).kd = 9 := by omega
      obtain ⟨a1, a2, b2⟩ := hG.whl hi c9
      obtain ⟨a, h1, h2⟩ := rbind h
      rw [pt_stay hG k i hi h5 (K + 1) hK hp _ _ _ h2]
      rw [ptE, if_neg (by omega), if_neg (by omega), if_neg (by omega), if_pos c9] at hp
      exact pt_stay hG k _ (by omega) b2 K (by omega) hp _ _ _ h1
/-- Runs that begin alike in a set into which nothing else flows end alike in it. -/
theorem quiet {l : List Nod} (hG : Good l) {S : Nat → Prop} : ∀ (k i : Nat), i < l.length → 5 ≤ (nthD l i).kd → ∀ K, i < K → OkF S K l i → ∀ (k' : Nat) (s t : Nat → Int) (f g : Nat) (r q : (Nat → Int) × Nat), (∀ v, S v → s v = t v) → exN l k i s f = some r → exN l k' i t g = some q → ∀ v, S v → r.1 v = q.1 v
  | 0, _, _, _, _, _, _, _, _, _, _, _, _, _, _, h, _ => by cases h
  | k + 1, i, hi, h5, K, hK, hO, k', s, t, f, g, r, q, hst, h, h' => by
    have hkd := hG.kd hi
    cases k' with
    | zero => cases h'
    | succ k' =>
    by_cases hx : ∃ w, ((nthD l i).kd = 8 ∨ (nthD l i).kd = 9) ∧ (nm l (nthD l i).pa.toNat).testBit w = true ∧ ¬ S w
    · obtain ⟨w, h89, hw, hSw⟩ := hx
      have hno : ∀ v, S v → (ptE K l i).testBit v = false := fun v hv => by
        obtain ⟨K, rfl⟩ : ∃ q, K = q + 1 := ⟨K - 1, by omega⟩
        rw [OkF] at hO
        cases hb : (ptE (K + 1) l i).testBit v with
        | false => rfl
        | true =>
          rcases h89 with c | c
          · exact absurd ((hO.2.2.1 c).1 v hb hv w hw) hSw
          · exact absurd ((hO.2.2.2 c).1 v hb hv w hw) hSw
      intro v hv
      rw [pt_stay hG _ i hi h5 K hK (hno v hv) _ _ _ h, pt_stay hG _ i hi h5 K hK (hno v hv) _ _ _ h']
      exact hst v hv
    have hall : ((nthD l i).kd = 8 ∨ (nthD l i).kd = 9) → (nthD l i).pa.toNat < l.length → (nthD l (nthD l i).pa.toNat).kd < 5 → vl l (nthD l i).pa.toNat s = vl l (nthD l i).pa.toNat t := fun c h1 h2 =>
      vl_agree hG _ _ (Nat.lt_succ_self _) h1 h2 fun w hw => by
        by_cases hS : S w
        · exact hst w hS
        · exact absurd ⟨w, c, hw, hS⟩ hx
    have hO2 := hO
    obtain ⟨K, rfl⟩ : ∃ q, K = q + 1 := ⟨K - 1, by omega⟩
    rw [OkF] at hO
    have h0 := h
    have h0' := h'
    rw [exN] at h h'
    by_cases c5 : (nthD l i).kd = 5
    · rw [if_pos c5] at h h'
      cases h; cases h'
      exact hst
    rw [if_neg c5] at h h'
    by_cases c7 : (nthD l i).kd = 7
    · rw [if_pos c7] at h h'
      obtain ⟨⟨a1, b1⟩, a2, b2⟩ := hG.both hi c7
      obtain ⟨x, h1, h2⟩ := rbind h
      obtain ⟨y, h1', h2'⟩ := rbind h'
      exact quiet hG k _ (by omega) b2 K (by omega) (hO.2.1 c7).2 k' _ _ _ _ _ _ (quiet hG k _ (by omega) b1 K (by omega) (hO.2.1 c7).1 k' _ _ _ _ _ _ hst h1 h1') h2 h2'
    rw [if_neg c7] at h h'
    by_cases f0 : f = 0
    · rw [if_pos f0] at h; cases h
    rw [if_neg f0] at h
    by_cases g0 : g = 0
    · rw [if_pos g0] at h'; cases h'
    rw [if_neg g0] at h'
    by_cases c6 : (nthD l i).kd = 6
    · rw [if_pos c6] at h h'
      cases h; cases h'
      obtain ⟨a, k0, ea, ek, ha, hk0, ka⟩ := hG.setN hi c6
      intro v hv
      show upv s _ _ v = upv t _ _ v
      unfold upv
      by_cases e : v = (nthD l i).num.toNat
      · rw [if_pos e, if_pos e]
        rw [ea, Int.toNat_natCast]
        refine vl_agree hG (a + 1) a (Nat.lt_succ_self _) (by omega) ka fun w hw => hst w (hO.1 c6 (e ▸ hv) w ?_)
        rw [ea, Int.toNat_natCast]
        exact hw
      · rw [if_neg e, if_neg e]
        exact hst v hv
    rw [if_neg c6] at h h'
    by_cases c8 : (nthD l i).kd = 8
    · rw [if_pos c8] at h h'
      obtain ⟨a, b, c, ea, eb, ec, ha, hb, hc, ka, kb, kc⟩ := hG.ifN hi c8
      have hv := hall (.inl c8) (by rw [ea, Int.toNat_natCast]; omega) (by rw [ea, Int.toNat_natCast]; exact ka)
      rw [hv] at h
      have hO8 := hO.2.2.1 c8
      rw [eb, ec, Int.toNat_natCast, Int.toNat_natCast] at hO8
      rw [eb, ec] at h h'
      split at h
      · rename_i cc
        rw [if_pos cc] at h'
        exact quiet hG k b (by omega) kb K (by omega) hO8.2.1 k' _ _ _ _ _ _ hst h h'
      · rename_i cc
        rw [if_neg cc] at h'
        exact quiet hG k c (by omega) kc K (by omega) hO8.2.2 k' _ _ _ _ _ _ hst h h'
    rw [if_neg c8] at h h'
    have c9 : (nthD l i).kd = 9 := by omega
    obtain ⟨a, b, ea, eb, ha, hb, ka, kb⟩ := hG.whlN hi c9
    have hv := hall (.inr c9) (by rw [ea, Int.toNat_natCast]; omega) (by rw [ea, Int.toNat_natCast]; exact ka)
    rw [hv] at h
    by_cases cv : vl l (nthD l i).pa.toNat t = 0
    · rw [if_pos cv] at h h'
      cases h; cases h'
      exact hst
    rw [if_neg cv] at h h'
    obtain ⟨x, h1, h2⟩ := rbind h
    obtain ⟨y, h1', h2'⟩ := rbind h'
    have hO9 := hO.2.2.2 c9
    rw [eb, Int.toNat_natCast] at hO9 h1 h1'
    exact quiet hG k i hi h5 (K + 1) hK hO2 k' _ _ _ _ _ _ (quiet hG k b (by omega) kb K (by omega) hO9.2 k' _ _ _ _ _ _ hst h1 h1') h2 h2'
end Go.Proofs.YtioimgeeamchaaaDoor
