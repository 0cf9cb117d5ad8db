/- What flows into a variable: from the whole down, and from each Set up, plainly. -/
import Derived.Test.YtioimgeeamchaaaDoorFloC
namespace Go.Proofs.YtioimgeeamchaaaDoor
open Go.RowKit
set_option maxRecDepth 100000
set_option linter.unusedVariables false

/-- The deeds among a node's parts. -/
def dpt (x : Nod) : List Int := if x.kd = 7 then [x.pa, x.pb] else if x.kd = 8 then [x.pb, x.pc] else if x.kd = 9 then [x.pb] else []
/-- The node of which one is a deed. -/
def abv (l : List Nod) (i : Nat) : Option Nat := (List.range l.length).find? fun k => decide ((i : Int) ∈ dpt (nthD l k))
theorem dpt_place {l : List Nod} {k : Nat} {i : Int} (h : i ∈ dpt (nthD l k)) : ∃ j : Nat, (prtL (nthD l k))[j]? = some i ∧ ((nthD l k).kd = 7 ∨ (nthD l k).kd = 8 ∨ (nthD l k).kd = 9) := by
  unfold dpt at h
  unfold prtL
  by_cases h7 : (nthD l k).kd = 7
  · rw [if_pos h7] at h
    rw [if_neg (by omega), if_neg (by omega), if_pos (.inr (.inl h7))]
    simp only [List.mem_cons, List.mem_nil_iff, or_false] at h
    rcases h with rfl | rfl
    · exact ⟨0, rfl, .inl h7⟩
    · exact ⟨1, rfl, .inl h7⟩
  rw [if_neg h7] at h
  by_cases h8 : (nthD l k).kd = 8
  · rw [if_pos h8] at h
    rw [if_pos h8]
    simp only [List.mem_cons, List.mem_nil_iff, or_false] at h
    rcases h with rfl | rfl
    · exact ⟨1, rfl, .inr (.inl h8)⟩
    · exact ⟨2, rfl, .inr (.inl h8)⟩
  rw [if_neg h8] at h
  by_cases h9 : (nthD l k).kd = 9
  · rw [if_pos h9] at h
    rw [if_neg (by omega), if_neg (by omega), if_pos (.inr (.inr h9))]
    simp only [List.mem_cons, List.mem_nil_iff, or_false] at h
    exact ⟨1, by rw [h]; rfl, .inr (.inr h9)⟩
  · rw [if_neg h9] at h; simp at h
theorem abv_of {l : List Nod} (h : proC l = 0) {i k : Nat} (hk : k < l.length) (hm : (i : Int) ∈ dpt (nthD l k)) : abv l i = some k := by
  obtain ⟨j, hj, _⟩ := dpt_place hm
  cases e : abv l i with
  | none =>
    unfold abv at e
    rw [List.find?_eq_none] at e
    exact absurd (decide_eq_true hm) (e k (List.mem_range.2 hk))
  | some k' =>
    unfold abv at e
    have h1 := List.find?_some e
    have h2 := List.mem_range.1 (List.mem_of_find?_eq_some e)
    obtain ⟨j', hj', _⟩ := dpt_place (of_decide_eq_true h1)
    rw [(parent_one h h2 hk hj' hj).1]
theorem abv_some {l : List Nod} (h : proC l = 0) {i k : Nat} (e : abv l i = some k) : k < l.length ∧ (i : Int) ∈ dpt (nthD l k) ∧ i < k := by
  unfold abv at e
  have h0 := List.find?_some e
  have h1 := of_decide_eq_true h0
  have h2 := List.mem_range.1 (List.mem_of_find?_eq_some e)
  obtain ⟨j, hj, _⟩ := dpt_place h1
  have := (rightP_of h).wf k h2 _ (List.mem_of_getElem? hj)
  exact ⟨h2, h1, by omega⟩
theorem abv_last {l : List Nod} (h : proC l = 0) : abv l (l.length - 1) = none := by
  cases e : abv l (l.length - 1) with
  | none => rfl
  | some k => have := abv_some h e; omega
theorem abv_deed {l : List Nod} (h : proC l = 0) {i : Nat} (hi : i < l.length - 1) (h5 : 5 ≤ (nthD l i).kd) : ∃ k, abv l i = some k := by
  have hG := good_of h
  obtain ⟨k, j, hk, hj⟩ := parent_ex h hi
  refine ⟨k, abv_of h hk ?_⟩
  have t := hG.t.val k hk j _ hj
  rw [Int.toNat_natCast] at t
  have hv : valB (nthD l k).kd j = false := by rw [← t]; exact decide_eq_false (by omega)
  unfold valB at hv
  rw [decide_eq_false_iff_not] at hv
  have hkd := hG.kd hk
  unfold prtL at hj
  unfold dpt
  by_cases h7 : (nthD l k).kd = 7
  · rw [if_neg (by omega), if_neg (by omega), if_pos (.inr (.inl h7))] at hj
    rw [if_pos h7]
    exact List.mem_of_getElem? hj
  rw [if_neg h7]
  by_cases h8 : (nthD l k).kd = 8
  · rw [if_pos h8] at hj
    rw [if_pos h8]
    match j, hj, hv with
    | 0, _, hv => exact absurd (.inr ⟨rfl, h7⟩) hv
    | j + 1, hj, _ => exact List.mem_of_getElem? (by simpa using hj)
  rw [if_neg h8]
  rw [if_neg h8] at hj
  by_cases h9 : (nthD l k).kd = 9
  · rw [if_neg (by omega), if_pos (.inr (.inr h9))] at hj
    rw [if_pos h9]
    match j, hj, hv with
    | 0, _, hv => exact absurd (.inr ⟨rfl, h7⟩) hv
    | j + 1, hj, _ => exact List.mem_of_getElem? (by simpa using hj)
  exfalso
  have hl := List.mem_of_getElem? hj
  by_cases h6 : (nthD l k).kd = 6
  · rw [if_pos h6] at hj
    match j, hj with
    | 0, _ => exact hv (.inr ⟨rfl, by omega⟩)
    | j + 1, hj => simp at hj
  · rw [if_neg h6] at hj
    by_cases h2 : (2 ≤ (nthD l k).kd ∧ (nthD l k).kd ≤ 4) ∨ (nthD l k).kd = 7 ∨ (nthD l k).kd = 9
    · exact hv (.inl (by omega))
    · rw [if_neg h2] at hj; simp at hj
/-- The variables of the Ifs and Whiles of which a node is in a deed. -/
def ctxE : Nat → List Nod → Nat → Nat
  | 0, _, _ => 0
  | f + 1, l, i => match abv l i with
    | none => 0
    | some k => (if (nthD l k).kd = 8 ∨ (nthD l k).kd = 9 then nm l (nthD l k).pa.toNat else 0) ||| ctxE f l k
def ctx (l : List Nod) (i : Nat) : Nat := ctxE l.length l i
theorem ctxE_fuel {l : List Nod} (h : proC l = 0) : ∀ (m i : Nat), l.length - i ≤ m → ∀ f f', l.length - i ≤ f → l.length - i ≤ f' → i < l.length → ctxE f l i = ctxE f' l i
  | 0, i, hm, _, _, _, _, hi => absurd hm (by omega)
  | m + 1, i, hm, f, f', hf, hf', hi => by
    obtain ⟨f, rfl⟩ : ∃ q, f = q + 1 := ⟨f - 1, by omega⟩
    obtain ⟨f', rfl⟩ : ∃ q, f' = q + 1 := ⟨f' - 1, by omega⟩
    rw [ctxE, ctxE]
    cases e : abv l i with
    | none => rfl
    | some k =>
      obtain ⟨h1, _, h3⟩ := abv_some h e
      show _ ||| ctxE f l k = _ ||| ctxE f' l k
      rw [ctxE_fuel h m k (by omega) f f' (by omega) (by omega) h1]
theorem ctx_up {l : List Nod} (h : proC l = 0) {i k : Nat} (hi : i < l.length) (e : abv l i = some k) : ctx l i = (if (nthD l k).kd = 8 ∨ (nthD l k).kd = 9 then nm l (nthD l k).pa.toNat else 0) ||| ctx l k := by
  obtain ⟨h1, _, h3⟩ := abv_some h e
  unfold ctx
  obtain ⟨f, hf⟩ : ∃ f, l.length = f + 1 := ⟨l.length - 1, by omega⟩
  rw [ctxE_fuel h l.length k (by omega) l.length f (by omega) (by omega) h1]
  rw [hf, ctxE, e]
theorem ctx_last {l : List Nod} (h : proC l = 0) : ctx l (l.length - 1) = 0 := by
  have := (good_of h).r.some
  unfold ctx
  obtain ⟨f, hf⟩ : ∃ f, l.length = f + 1 := ⟨l.length - 1, by omega⟩
  have e := abv_last h
  rw [hf] at e ⊢
  rw [ctxE, e]
def flw (l : List Nod) (i v : Nat) : Nat := flE (i + 1) l i (ctx l i) v
theorem flE_fuel {l : List Nod} (hG : Good l) : ∀ (m i : Nat), i < m → i < l.length → 5 ≤ (nthD l i).kd → ∀ k k' c v, i < k → i < k' → flE k l i c v = flE k' l i c v
  | 0, _, h, _, _ => absurd h (by omega)
  | m + 1, i, him, hi, h5 => fun k k' c v hk hk' => by
    obtain ⟨k, rfl⟩ : ∃ q, k = q + 1 := ⟨k - 1, by omega⟩
    obtain ⟨k', rfl⟩ : ∃ q, k' = q + 1 := ⟨k' - 1, by omega⟩
    rw [flE, flE]
    split
    · rfl
    split
    · rename_i h7
      obtain ⟨⟨a1, b1⟩, a2, b2⟩ := hG.both hi h7
      rw [flE_fuel hG m _ (by omega) (by omega) b1 k k' c v (by omega) (by omega), flE_fuel hG m _ (by omega) (by omega) b2 k k' c v (by omega) (by omega)]
    split
    · rename_i h8
      obtain ⟨a1, ⟨a2, b2⟩, a3, b3⟩ := hG.if hi h8
      rw [flE_fuel hG m _ (by omega) (by omega) b2 k k' _ v (by omega) (by omega), flE_fuel hG m _ (by omega) (by omega) b3 k k' _ v (by omega) (by omega)]
    split
    · rename_i h9
      obtain ⟨a1, a2, b2⟩ := hG.whl hi h9
      rw [flE_fuel hG m _ (by omega) (by omega) b2 k k' _ v (by omega) (by omega)]
    · rfl
/-- A node's parts, and what flows in them. -/
theorem flw_parts {l : List Nod} (h : proC l = 0) {i : Nat} (hi : i < l.length) (h5 : 5 ≤ (nthD l i).kd) (h6 : (nthD l i).kd ≠ 6) (v w : Nat) :
    (flw l i v).testBit w = true ↔ ∃ d : Nat, d < l.length ∧ 5 ≤ (nthD l d).kd ∧ abv l d = some i ∧ (flw l d v).testBit w = true := by
  have hG := good_of h
  have hkd := hG.kd hi
  have part : ∀ d : Nat, (d : Int) ∈ dpt (nthD l i) → d < i → 5 ≤ (nthD l d).kd → ∀ c, c = ctx l d → ((flE i l d c v).testBit w = true ↔ (flw l d v).testBit w = true) := fun d hd hdi hd5 c hc => by
    rw [hc, flw, flE_fuel hG (d + 1) d (Nat.lt_succ_self _) (by omega) hd5 i (d + 1) _ v hdi (Nat.lt_succ_self _)]
  have up : ∀ d : Nat, (d : Int) ∈ dpt (nthD l i) → d < i → ctx l d = (if (nthD l i).kd = 8 ∨ (nthD l i).kd = 9 then nm l (nthD l i).pa.toNat else 0) ||| ctx l i := fun d hd hdi => ctx_up h (by omega) (abv_of h hi hd)
  constructor
  · intro hb
    rw [flw, flE, if_neg h6] at hb
    by_cases h7 : (nthD l i).kd = 7
    · obtain ⟨a, b, ea, eb, ha, hb', ka, kb⟩ := hG.bothN hi h7
      have ma : (a : Int) ∈ dpt (nthD l i) := by unfold dpt; rw [if_pos h7, ea]; simp
      have mb : (b : Int) ∈ dpt (nthD l i) := by unfold dpt; rw [if_pos h7, eb]; simp
      rw [if_pos h7, ea, eb, Int.toNat_natCast, Int.toNat_natCast, Nat.testBit_or, Bool.or_eq_true] at hb
      have ua := up a ma ha
      have ub := up b mb hb'
      rw [if_neg (by omega), Nat.zero_or] at ua ub
      rcases hb with hb | hb
      · exact ⟨a, by omega, ka, abv_of h hi ma, (part a ma ha ka _ ua.symm).1 hb⟩
      · exact ⟨b, by omega, kb, abv_of h hi mb, (part b mb hb' kb _ ub.symm).1 hb⟩
    rw [if_neg h7] at hb
    by_cases h8 : (nthD l i).kd = 8
    · obtain ⟨a, b, c, ea, eb, ec, ha, hb', hc, ka, kb, kc⟩ := hG.ifN hi h8
      have mb : (b : Int) ∈ dpt (nthD l i) := by unfold dpt; rw [if_neg h7, if_pos h8, eb]; simp
      have mc : (c : Int) ∈ dpt (nthD l i) := by unfold dpt; rw [if_neg h7, if_pos h8, ec]; simp
      rw [if_pos h8, eb, ec, Int.toNat_natCast, Int.toNat_natCast, Nat.testBit_or, Bool.or_eq_true] at hb
      have ub := up b mb hb'
      have uc := up c mc hc
      rw [if_pos (.inl h8), Nat.or_comm] at ub uc
      rcases hb with hb | hb
      · exact ⟨b, by omega, kb, abv_of h hi mb, (part b mb hb' kb _ ub.symm).1 hb⟩
      · exact ⟨c, by omega, kc, abv_of h hi mc, (part c mc hc kc _ uc.symm).1 hb⟩
    rw [if_neg h8] at hb
    by_cases h9 : (nthD l i).kd = 9
    · obtain ⟨a, b, ea, eb, ha, hb', ka, kb⟩ := hG.whlN hi h9
      have mb : (b : Int) ∈ dpt (nthD l i) := by unfold dpt; rw [if_neg h7, if_neg h8, if_pos h9, eb]; simp
      rw [if_pos h9, eb, Int.toNat_natCast] at hb
      have ub := up b mb hb'
      rw [if_pos (.inr h9), Nat.or_comm] at ub
      exact ⟨b, by omega, kb, abv_of h hi mb, (part b mb hb' kb _ ub.symm).1 hb⟩
    · rw [if_neg h9] at hb; simp at hb
  · rintro ⟨d, hd, hd5, he, hb⟩
    obtain ⟨_, md, hdi⟩ := abv_some h he
    have hb2 := fun c hc => (part d md hdi hd5 c hc).2 hb
    have ud := up d md hdi
    rw [flw, flE, if_neg h6]
    have md2 := md
    unfold dpt at md2
    by_cases h7 : (nthD l i).kd = 7
    · rw [if_pos h7] at md2 ⊢
      rw [if_neg (by omega), Nat.zero_or] at ud
      have := hb2 _ ud.symm
      simp only [List.mem_cons, List.mem_nil_iff, or_false] at md2
      rw [Nat.testBit_or, Bool.or_eq_true]
      rcases md2 with e | e
      · left; rw [← e, Int.toNat_natCast]; exact this
      · right; rw [← e, Int.toNat_natCast]; exact this
    rw [if_neg h7] at md2 ⊢
    by_cases h8 : (nthD l i).kd = 8
    · rw [if_pos h8] at md2 ⊢
      rw [if_pos (.inl h8), Nat.or_comm] at ud
      have := hb2 _ ud.symm
      simp only [List.mem_cons, List.mem_nil_iff, or_false] at md2
      rw [Nat.testBit_or, Bool.or_eq_true]
      rcases md2 with e | e
      · left; rw [← e, Int.toNat_natCast]; exact this
      · right; rw [← e, Int.toNat_natCast]; exact this
    rw [if_neg h8] at md2 ⊢
    by_cases h9 : (nthD l i).kd = 9
    · rw [if_pos h9] at md2 ⊢
      rw [if_pos (.inr h9), Nat.or_comm] at ud
      have := hb2 _ ud.symm
      simp only [List.mem_cons, List.mem_nil_iff, or_false] at md2
      rw [← md2, Int.toNat_natCast]
      exact this
    · rw [if_neg h9] at md2; simp at md2
theorem flw_set {l : List Nod} {i : Nat} (h6 : (nthD l i).kd = 6) (v : Nat) : flw l i v = if (nthD l i).num.toNat = v then nm l (nthD l i).pa.toNat ||| ctx l i else 0 := by rw [flw, flE, if_pos h6]
/-- What flows into a variable in the whole: what flows in by one of its Sets. -/
theorem flw_whole {l : List Nod} (h : proC l = 0) (v w : Nat) : (flE l.length l (l.length - 1) 0 v).testBit w = true ↔ ∃ i, i < l.length ∧ (nthD l i).kd = 6 ∧ (nthD l i).num.toNat = v ∧ (nm l (nthD l i).pa.toNat ||| ctx l i).testBit w = true := by
  have hG := good_of h
  have hs := hG.r.some
  have e : flE l.length l (l.length - 1) 0 v = flw l (l.length - 1) v := by rw [flw, ctx_last h, show l.length - 1 + 1 = l.length by omega]
  rw [e]
  constructor
  · have : ∀ (m i : Nat), i < m → i < l.length → 5 ≤ (nthD l i).kd → (flw l i v).testBit w = true → ∃ i, i < l.length ∧ (nthD l i).kd = 6 ∧ (nthD l i).num.toNat = v ∧ (nm l (nthD l i).pa.toNat ||| ctx l i).testBit w = true := fun m => by
      induction m with
      | zero => intro i hi; omega
      | succ m ih =>
        intro i him hi h5 hb
        by_cases h6 : (nthD l i).kd = 6
        · rw [flw_set h6] at hb
          by_cases hn : (nthD l i).num.toNat = v
          · rw [if_pos hn] at hb
            exact ⟨i, hi, h6, hn, hb⟩
          · rw [if_neg hn] at hb; simp at hb
        · obtain ⟨d, hd, hd5, he, hb2⟩ := (flw_parts h hi h5 h6 v w).1 hb
          have := (abv_some h he).2.2
          exact ih d (by omega) hd hd5 hb2
    exact this l.length (l.length - 1) (by omega) (by omega) hG.r.deed
  · rintro ⟨i, hi, h6, hn, hb⟩
    have : ∀ (m i : Nat), l.length - i ≤ m → i < l.length → 5 ≤ (nthD l i).kd → (flw l i v).testBit w = true → (flw l (l.length - 1) v).testBit w = true := fun m => by
      induction m with
      | zero => intro i hm hi; omega
      | succ m ih =>
        intro i hm hi h5 hb
        by_cases hl : i = l.length - 1
        · rw [← hl]; exact hb
        · obtain ⟨k, hk⟩ := abv_deed h (by omega) h5
          obtain ⟨k1, k2, k3⟩ := abv_some h hk
          have k7 := (dpt_place k2).elim fun _ q => q.2
          exact ih k (by omega) k1 (by omega) ((flw_parts h k1 (by omega) (by omega) v w).2 ⟨i, hi, h5, hk, hb⟩)
    exact this l.length i (by omega) hi (by omega) (by rw [flw_set h6, if_pos hn]; exact hb)
end Go.Proofs.YtioimgeeamchaaaDoor
