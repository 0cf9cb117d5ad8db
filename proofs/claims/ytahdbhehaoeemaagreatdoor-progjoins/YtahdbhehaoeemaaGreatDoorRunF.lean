/- Programs without Skips and Boths, plainly: what they do is what the program does. -/
import Derived.Test.YtahdbhehaoeemaaGreatDoorRunA
namespace Go.Proofs.YtahdbhehaoeemaaGreatDoor
open Go.RowKit
set_option maxRecDepth 100000
set_option linter.unusedVariables false

/-- A value. -/
inductive Vt where
  | num (n : Nat)
  | var (k : Nat)
  | op (k : Int) (a b : Vt)
/-- Deeds, one behind the other. -/
inductive Ds where
  | nil
  | set (k : Nat) (v : Vt) (r : Ds)
  | ite (v : Vt) (a b r : Ds)
  | whl (v : Vt) (a r : Ds)
def vlV : Vt → (Nat → Int) → Int
  | .num n, _ => (n : Int)
  | .var k, s => s k
  | .op k a b, s => opV k (vlV a s) (vlV b s)
/-- The value of a node, as a tree. -/
def vtE : Nat → List Nod → Nat → Vt
  | 0, _, _ => .num 0
  | k + 1, l, i =>
    if (nthD l i).kd = 0 then .num (nthD l i).num.toNat else if (nthD l i).kd = 1 then .var (nthD l i).num.toNat
    else .op (nthD l i).kd (vtE k l (nthD l i).pa.toNat) (vtE k l (nthD l i).pb.toNat)
def vtOf (l : List Nod) (i : Nat) : Vt := vtE (i + 1) l i
/-- A deed, and what comes behind. -/
def dsE : Nat → List Nod → Nat → Ds → Ds
  | 0, _, _, r => r
  | k + 1, l, i, r =>
    if (nthD l i).kd = 5 then r
    else if (nthD l i).kd = 7 then dsE k l (nthD l i).pa.toNat (dsE k l (nthD l i).pb.toNat r)
    else if (nthD l i).kd = 6 then .set (nthD l i).num.toNat (vtOf l (nthD l i).pa.toNat) r
    else if (nthD l i).kd = 8 then .ite (vtOf l (nthD l i).pa.toNat) (dsE k l (nthD l i).pb.toNat .nil) (dsE k l (nthD l i).pc.toNat .nil) r
    else .whl (vtOf l (nthD l i).pa.toNat) (dsE k l (nthD l i).pb.toNat .nil) r
def dsOf (l : List Nod) (i : Nat) (r : Ds) : Ds := dsE (i + 1) l i r
theorem vtE_fuel {l : List Nod} (hG : Good l) : ∀ (m i : Nat), i < m → i < l.length → (nthD l i).kd < 5 → ∀ k k', i < k → i < k' → vtE k l i = vtE k' l i
  | 0, _, h, _, _ => absurd h (by omega)
  | m + 1, i, him, hi, h5 => fun k k' hk hk' => by
    obtain ⟨k, rfl⟩ : ∃ q, k = q + 1 := ⟨k - 1, by omega⟩
    obtain ⟨k', rfl⟩ : ∃ q, k' = q + 1 := ⟨k' - 1, by omega⟩
    have hkd := hG.kd hi
    rw [vtE, vtE]
    split
    · rfl
    split
    · rfl
    · obtain ⟨a, b, ea, eb, ha, hb, ka, kb⟩ := hG.two hi (by omega)
      rw [ea, eb, Int.toNat_natCast, Int.toNat_natCast, vtE_fuel hG m a (by omega) (by omega) ka k k' (by omega) (by omega), vtE_fuel hG m b (by omega) (by omega) kb k k' (by omega) (by omega)]
theorem vlV_vt {l : List Nod} (hG : Good l) {s : Nat → Int} : ∀ (m i : Nat), i < m → i < l.length → (nthD l i).kd < 5 → vlV (vtOf l i) s = vl l i s
  | 0, _, h, _, _ => absurd h (by omega)
  | m + 1, i, him, hi, h5 => by
    have hkd := hG.kd hi
    by_cases h0 : (nthD l i).kd = 0
    · have hk := hG.r.kin i hi
      unfold kinB at hk
      simp only [decide_eq_true_eq] at hk
      have := (hk.2.2.1 h0).1
      rw [vl_num h0, vtOf, vtE, if_pos h0, vlV]
      omega
    · by_cases h1 : (nthD l i).kd = 1
      · rw [vl_var h1, vtOf, vtE, if_neg h0, if_pos h1, vlV]
      · obtain ⟨a, b, ea, eb, ha, hb, ka, kb⟩ := hG.two hi (by omega)
        rw [vl_two hG.r.wf hi (by omega), vtOf, vtE, if_neg h0, if_neg h1, vlV, ea, eb, Int.toNat_natCast, Int.toNat_natCast]
        rw [vtE_fuel hG i a ha (by omega) ka i (a + 1) ha (by omega), vtE_fuel hG i b hb (by omega) kb i (b + 1) hb (by omega)]
        rw [← vlV_vt hG m a (by omega) (by omega) ka, ← vlV_vt hG m b (by omega) (by omega) kb]
        rfl
theorem dsE_fuel {l : List Nod} (hG : Good l) : ∀ (m i : Nat), i < m → i < l.length → 5 ≤ (nthD l i).kd → ∀ k k' r, i < k → i < k' → dsE k l i r = dsE k' l i r
  | 0, _, h, _, _ => absurd h (by omega)
  | m + 1, i, him, hi, h5 => fun k k' r hk hk' => by
    obtain ⟨k, rfl⟩ : ∃ q, k = q + 1 := ⟨k - 1, by omega⟩
    obtain ⟨k', rfl⟩ : ∃ q, k' = q + 1 := ⟨k' - 1, by omega⟩
    have hkd := hG.kd hi
    rw [dsE, dsE]
    split
    · rfl
    split
    · rename_i h7
      obtain ⟨⟨a1, b1⟩, a2, b2⟩ := hG.both hi h7
      rw [dsE_fuel hG m _ (by omega) (by omega) b2 k k' r (by omega) (by omega), dsE_fuel hG m _ (by omega) (by omega) b1 k k' _ (by omega) (by omega)]
    split
    · rfl
    split
    · rename_i h8
      obtain ⟨a1, ⟨a2, b2⟩, a3, b3⟩ := hG.if hi h8
      rw [dsE_fuel hG m _ (by omega) (by omega) b2 k k' _ (by omega) (by omega), dsE_fuel hG m _ (by omega) (by omega) b3 k k' _ (by omega) (by omega)]
    · have h9 : (nthD l i).kd = 9 := by omega
      obtain ⟨a1, a2, b2⟩ := hG.whl hi h9
      rw [dsE_fuel hG m _ (by omega) (by omega) b2 k k' _ (by omega) (by omega)]
section
variable {l : List Nod} {i : Nat} {r : Ds}
theorem ds_skip (h : (nthD l i).kd = 5) : dsOf l i r = r := by rw [dsOf, dsE, if_pos h]
theorem ds_both (hG : Good l) (hi : i < l.length) (h : (nthD l i).kd = 7) : dsOf l i r = dsOf l (nthD l i).pa.toNat (dsOf l (nthD l i).pb.toNat r) := by
  obtain ⟨⟨a1, b1⟩, a2, b2⟩ := hG.both hi h
  rw [dsOf, dsE, if_neg (by omega), if_pos h, dsE_fuel hG i _ a2 (by omega) b2 i ((nthD l i).pb.toNat + 1) _ a2 (by omega), dsE_fuel hG i _ a1 (by omega) b1 i ((nthD l i).pa.toNat + 1) _ a1 (by omega)]
  rfl
theorem ds_set (h : (nthD l i).kd = 6) : dsOf l i r = .set (nthD l i).num.toNat (vtOf l (nthD l i).pa.toNat) r := by rw [dsOf, dsE, if_neg (by omega), if_neg (by omega), if_pos h]
theorem ds_if (hG : Good l) (hi : i < l.length) (h : (nthD l i).kd = 8) : dsOf l i r = .ite (vtOf l (nthD l i).pa.toNat) (dsOf l (nthD l i).pb.toNat .nil) (dsOf l (nthD l i).pc.toNat .nil) r := by
  obtain ⟨a1, ⟨a2, b2⟩, a3, b3⟩ := hG.if hi h
  rw [dsOf, dsE, if_neg (by omega), if_neg (by omega), if_neg (by omega), if_pos h, dsE_fuel hG i _ a2 (by omega) b2 i ((nthD l i).pb.toNat + 1) _ a2 (by omega), dsE_fuel hG i _ a3 (by omega) b3 i ((nthD l i).pc.toNat + 1) _ a3 (by omega)]
  rfl
theorem ds_whl (hG : Good l) (hi : i < l.length) (h : (nthD l i).kd = 9) : dsOf l i r = .whl (vtOf l (nthD l i).pa.toNat) (dsOf l (nthD l i).pb.toNat .nil) r := by
  obtain ⟨a1, a2, b2⟩ := hG.whl hi h
  rw [dsOf, dsE, if_neg (by omega), if_neg (by omega), if_neg (by omega), if_neg (by omega), dsE_fuel hG i _ a2 (by omega) b2 i ((nthD l i).pb.toNat + 1) _ a2 (by omega)]
  rfl
end

def szD : Ds → Nat
  | .nil => 1
  | .set _ _ r => szD r + 1
  | .ite _ a b r => szD a + szD b + szD r + 1
  | .whl _ a r => szD a + szD r + 1
/-- What deeds do. -/
def exD : Nat → Ds → (Nat → Int) → Nat → Rn
  | 0, _, _, _ => none
  | _ + 1, .nil, s, f => some (s, f)
  | k + 1, .set n v r, s, f => if f = 0 then none else exD k r (upv s n (vlV v s)) (f - 1)
  | k + 1, .ite v a b r, s, f => if f = 0 then none else (exD k (if vlV v s ≠ 0 then a else b) s (f - 1)).bind fun q => exD k r q.1 q.2
  | k + 1, .whl v a r, s, f => if f = 0 then none else if vlV v s = 0 then exD k r s (f - 1) else (exD k a s (f - 1)).bind fun q => exD k (.whl v a r) q.1 q.2
theorem exD_le : ∀ (k : Nat) (d : Ds) (s : Nat → Int) (f : Nat) (q : (Nat → Int) × Nat), exD k d s f = some q → q.2 ≤ f
  | 0, _, _, _, _, h => by cases h
  | k + 1, .nil, _, _, _, h => by cases h; exact Nat.le_refl _
  | k + 1, .set n v r, s, f, q, h => by
    rw [exD] at h
    split at h
    · cases h
    · exact Nat.le_trans (exD_le k _ _ _ _ h) (Nat.sub_le _ _)
  | k + 1, .ite v a b r, s, f, q, h => by
    rw [exD] at h
    split at h
    · cases h
    · obtain ⟨x, h1, h2⟩ := rbind h
      exact Nat.le_trans (exD_le k _ _ _ _ h2) (Nat.le_trans (exD_le k _ _ _ _ h1) (Nat.sub_le _ _))
  | k + 1, .whl v a r, s, f, q, h => by
    rw [exD] at h
    split at h
    · cases h
    split at h
    · exact Nat.le_trans (exD_le k _ _ _ _ h) (Nat.sub_le _ _)
    · obtain ⟨x, h1, h2⟩ := rbind h
      exact Nat.le_trans (exD_le k _ _ _ _ h2) (Nat.le_trans (exD_le k _ _ _ _ h1) (Nat.sub_le _ _))
theorem szD_pos : ∀ d : Ds, 0 < szD d
  | .nil => Nat.one_pos
  | .set _ _ r => Nat.succ_pos _
  | .ite _ a b r => Nat.succ_pos _
  | .whl _ a r => Nat.succ_pos _
theorem exD_fuel : ∀ (m : Nat) (d : Ds) (f : Nat), szD d + f < m → ∀ s k k', szD d + f < k → szD d + f < k' → exD k d s f = exD k' d s f
  | 0, _, _, h => absurd h (by omega)
  | m + 1, d, f, hm => fun s k k' hk hk' => by
    obtain ⟨k, rfl⟩ : ∃ q, k = q + 1 := ⟨k - 1, by omega⟩
    obtain ⟨k', rfl⟩ : ∃ q, k' = q + 1 := ⟨k' - 1, by omega⟩
    cases d with
    | nil => rfl
    | set n v r =>
      simp only [szD] at hm hk hk'
      rw [exD, exD]
      split
      · rfl
      · exact exD_fuel m r (f - 1) (by omega) _ k k' (by omega) (by omega)
    | ite v a b r =>
      simp only [szD] at hm hk hk'
      have := szD_pos a
      have := szD_pos b
      rw [exD, exD]
      split
      · rfl
      · have e : exD k (if vlV v s ≠ 0 then a else b) s (f - 1) = exD k' (if vlV v s ≠ 0 then a else b) s (f - 1) := by
          split
          · exact exD_fuel m a (f - 1) (by omega) _ k k' (by omega) (by omega)
          · exact exD_fuel m b (f - 1) (by omega) _ k k' (by omega) (by omega)
        rw [e]
        cases e2 : exD k' (if vlV v s ≠ 0 then a else b) s (f - 1) with
        | none => rfl
        | some q =>
          have := exD_le _ _ _ _ _ e2
          exact exD_fuel m r q.2 (by omega) _ k k' (by omega) (by omega)
    | whl v a r =>
      simp only [szD] at hm hk hk'
      have := szD_pos r
      rw [exD, exD]
      split
      · rfl
      split
      · exact exD_fuel m r (f - 1) (by omega) _ k k' (by omega) (by omega)
      · rw [exD_fuel m a (f - 1) (by omega) _ k k' (by omega) (by omega)]
        cases e2 : exD k' a s (f - 1) with
        | none => rfl
        | some q =>
          have := exD_le _ _ _ _ _ e2
          exact exD_fuel m (.whl v a r) q.2 (by simp only [szD]; omega) _ k k' (by simp only [szD]; omega) (by simp only [szD]; omega)
def exd (d : Ds) (s : Nat → Int) (f : Nat) : Rn := exD (szD d + f + 1) d s f
theorem exd_eq {d : Ds} {s : Nat → Int} {f k : Nat} (h : szD d + f < k) : exD k d s f = exd d s f := exD_fuel (szD d + f + 1) d f (by omega) s k _ h (by omega)
theorem exd_nil (s : Nat → Int) (f : Nat) : exd .nil s f = some (s, f) := rfl
theorem exd_set (n : Nat) (v : Vt) (r : Ds) (s : Nat → Int) (f : Nat) : exd (.set n v r) s f = if f = 0 then none else exd r (upv s n (vlV v s)) (f - 1) := by
  rw [exd, exD]
  split
  · rfl
  · exact exd_eq (by simp only [szD]; omega)
theorem exd_ite (v : Vt) (a b r : Ds) (s : Nat → Int) (f : Nat) : exd (.ite v a b r) s f = if f = 0 then none else (exd (if vlV v s ≠ 0 then a else b) s (f - 1)).bind fun q => exd r q.1 q.2 := by
  have h1 := szD_pos a
  have h2 := szD_pos b
  rw [exd, exD]
  split
  · rfl
  · have e : exD (szD (.ite v a b r) + f) (if vlV v s ≠ 0 then a else b) s (f - 1) = exd (if vlV v s ≠ 0 then a else b) s (f - 1) := by
      split
      · exact exd_eq (by simp only [szD]; omega)
      · exact exd_eq (by simp only [szD]; omega)
    rw [e]
    cases e2 : exd (if vlV v s ≠ 0 then a else b) s (f - 1) with
    | none => rfl
    | some q =>
      have := exD_le _ _ _ _ _ e2
      exact exd_eq (by simp only [szD]; omega)
theorem exd_whl (v : Vt) (a r : Ds) (s : Nat → Int) (f : Nat) : exd (.whl v a r) s f = if f = 0 then none else if vlV v s = 0 then exd r s (f - 1) else (exd a s (f - 1)).bind fun q => exd (.whl v a r) q.1 q.2 := by
  have h1 := szD_pos r
  rw [exd, exD]
  split
  · rfl
  split
  · exact exd_eq (by simp only [szD]; omega)
  · rw [exd_eq (d := a) (by simp only [szD]; omega)]
    cases e2 : exd a s (f - 1) with
    | none => rfl
    | some q =>
      have := exD_le _ _ _ _ _ e2
      exact exd_eq (by simp only [szD] at *; omega)
/-- What a node does, and then what comes behind. -/
theorem exd_ds {l : List Nod} (hG : Good l) : ∀ (m f i : Nat), f * 100 + i < m → i < l.length → 5 ≤ (nthD l i).kd → ∀ s r, exd (dsOf l i r) s f = (ex l i s f).bind fun q => exd r q.1 q.2
  | 0, _, _, h, _, _ => absurd h (by omega)
  | m + 1, f, i, hm, hi, h5 => fun s r => by
    have hkd := hG.kd hi
    have h80 := hG.r.few
    by_cases c5 : (nthD l i).kd = 5
    · rw [ds_skip c5, ex_skip c5]; rfl
    by_cases c7 : (nthD l i).kd = 7
    · obtain ⟨⟨a1, b1⟩, a2, b2⟩ := hG.both hi c7
      rw [ds_both hG hi c7, ex_both hG hi c7, exd_ds hG m f _ (by omega) (by omega) b1]
      cases e : ex l (nthD l i).pa.toNat s f with
      | none => rfl
      | some q =>
        have := exN_le _ _ _ _ _ e
        exact exd_ds hG m q.2 _ (by omega) (by omega) b2 q.1 r
    cases f with
    | zero =>
      rw [ex_out c5 c7]
      by_cases c6 : (nthD l i).kd = 6
      · rw [ds_set c6, exd_set, if_pos rfl]; rfl
      by_cases c8 : (nthD l i).kd = 8
      · rw [ds_if hG hi c8, exd_ite, if_pos rfl]; rfl
      · rw [ds_whl hG hi (by omega), exd_whl, if_pos rfl]; rfl
    | succ f =>
      by_cases c6 : (nthD l i).kd = 6
      · obtain ⟨a1, a2⟩ := wf_set hG.r.wf hi c6
        have hp : prtL (nthD l i) = [(nthD l i).pa] := by unfold prtL; rw [if_neg (by omega), if_pos c6]
        have t1 := hG.t.val i hi 0 _ (by rw [hp]; rfl)
        unfold valB at t1
        rw [decide_eq_decide] at t1
        rw [ds_set c6, exd_set, if_neg (by omega), ex_set c6, vlV_vt hG ((nthD l i).pa.toNat + 1) _ (by omega) (by omega) (by omega)]
        rfl
      by_cases c8 : (nthD l i).kd = 8
      · obtain ⟨a1, ⟨a2, b2⟩, a3, b3⟩ := hG.if hi c8
        have hp : prtL (nthD l i) = [(nthD l i).pa, (nthD l i).pb, (nthD l i).pc] := by unfold prtL; rw [if_pos c8]
        have t1 := hG.t.val i hi 0 _ (by rw [hp]; rfl)
        unfold valB at t1
        rw [decide_eq_decide] at t1
        rw [ds_if hG hi c8, exd_ite, if_neg (by omega), vlV_vt hG ((nthD l i).pa.toNat + 1) _ (by omega) (by omega) (by omega)]
        by_cases hv : vl l (nthD l i).pa.toNat s ≠ 0
        · rw [ex_then hG hi c8 hv, if_pos hv, Nat.add_sub_cancel, exd_ds hG m f _ (by omega) (by omega) b2]
          cases ex l (nthD l i).pb.toNat s f <;> rfl
        · rw [ex_else hG hi c8 (by simpa using hv), if_neg hv, Nat.add_sub_cancel, exd_ds hG m f _ (by omega) (by omega) b3]
          cases ex l (nthD l i).pc.toNat s f <;> rfl
      · have c9 : (nthD l i).kd = 9 := by omega
        obtain ⟨a1, a2, b2⟩ := hG.whl hi c9
        have hp : prtL (nthD l i) = [(nthD l i).pa, (nthD l i).pb] := by unfold prtL; rw [if_neg (by omega), if_neg (by omega), if_pos (.inr (.inr c9))]
        have t1 := hG.t.val i hi 0 _ (by rw [hp]; rfl)
        unfold valB at t1
        rw [decide_eq_decide] at t1
        rw [ds_whl hG hi c9, exd_whl, if_neg (by omega), vlV_vt hG ((nthD l i).pa.toNat + 1) _ (by omega) (by omega) (by omega)]
        by_cases hv : vl l (nthD l i).pa.toNat s = 0
        · rw [ex_stop c9 hv, if_pos hv]; rfl
        · rw [ex_round hG hi c9 hv, if_neg hv, Nat.add_sub_cancel, exd_ds hG m f _ (by omega) (by omega) b2]
          cases e : ex l (nthD l i).pb.toNat s f with
          | none => rfl
          | some q =>
            have := exN_le _ _ _ _ _ e
            show exd (.whl _ _ _) q.1 q.2 = (ex l i q.1 q.2).bind _
            rw [← ds_whl hG hi c9]
            exact exd_ds hG m q.2 i (by omega) hi h5 q.1 r
/-- The program as deeds. -/
def dsP0 (l : List Nod) : Ds := dsOf l (l.length - 1) .nil
theorem runP_ds {l : List Nod} (hG : Good l) (s : Nat → Int) (f : Nat) : runP l s f = exd (dsP0 l) s f := by
  have h0 := hG.r.some
  rw [dsP0, exd_ds hG _ f _ (Nat.lt_succ_self _) (by omega) hG.r.deed, runP]
  cases ex l (l.length - 1) s f <;> rfl
/-- One behind the other. -/
def appD : Ds → Ds → Ds
  | .nil, d => d
  | .set n v r, d => .set n v (appD r d)
  | .ite v a b r, d => .ite v a b (appD r d)
  | .whl v a r, d => .whl v a (appD r d)
theorem exd_app : ∀ (m : Nat) (d e : Ds) (f : Nat), szD d + f < m → ∀ s, exd (appD d e) s f = (exd d s f).bind fun q => exd e q.1 q.2
  | 0, _, _, _, h => absurd h (by omega)
  | m + 1, d, e, f, hm => fun s => by
    cases d with
    | nil => rfl
    | set n v r =>
      simp only [szD] at hm
      rw [appD, exd_set, exd_set]
      split
      · rfl
      · exact exd_app m r e (f - 1) (by omega) _
    | ite v a b r =>
      simp only [szD] at hm
      have := szD_pos a
      rw [appD, exd_ite, exd_ite]
      split
      · rfl
      · cases e2 : exd (if vlV v s ≠ 0 then a else b) s (f - 1) with
        | none => rfl
        | some q =>
          have := exD_le _ _ _ _ _ e2
          exact exd_app m r e q.2 (by omega) _
    | whl v a r =>
      simp only [szD] at hm
      have := szD_pos a
      rw [appD, exd_whl, exd_whl]
      split
      · rfl
      split
      · exact exd_app m r e (f - 1) (by omega) _
      · cases e2 : exd a s (f - 1) with
        | none => rfl
        | some q =>
          have := exD_le _ _ _ _ _ e2
          exact exd_app m (.whl v a r) e q.2 (by simp only [szD]; omega) _
theorem exD_more (x : Nat) : ∀ (k : Nat) (d : Ds) (s : Nat → Int) (f : Nat) (q : (Nat → Int) × Nat), exD k d s f = some q → exD k d s (f + x) = some (q.1, q.2 + x)
  | 0, _, _, _, _, h => by cases h
  | k + 1, .nil, _, _, _, h => by cases h; rfl
  | k + 1, .set n v r, s, f, q, h => by
    rw [exD] at h ⊢
    split at h
    · cases h
    · rw [if_neg (by omega), show f + x - 1 = f - 1 + x by omega]; exact exD_more x k _ _ _ _ h
  | k + 1, .ite v a b r, s, f, q, h => by
    rw [exD] at h ⊢
    split at h
    · cases h
    · obtain ⟨y, h1, h2⟩ := rbind h
      rw [if_neg (by omega), show f + x - 1 = f - 1 + x by omega, exD_more x k _ _ _ _ h1]
      exact exD_more x k _ _ _ _ h2
  | k + 1, .whl v a r, s, f, q, h => by
    rw [exD] at h ⊢
    split at h
    · cases h
    split at h
    · rename_i c
      rw [if_neg (by omega), if_pos c, show f + x - 1 = f - 1 + x by omega]; exact exD_more x k _ _ _ _ h
    · rename_i c
      obtain ⟨y, h1, h2⟩ := rbind h
      rw [if_neg (by omega), if_neg c, show f + x - 1 = f - 1 + x by omega, exD_more x k _ _ _ _ h1]
      exact exD_more x k _ _ _ _ h2
theorem exd_more {d : Ds} {s : Nat → Int} {f : Nat} {q : (Nat → Int) × Nat} (h : exd d s f = some q) (x : Nat) : exd d s (f + x) = some (q.1, q.2 + x) := by
  have h1 : exD (szD d + (f + x) + 1) d s f = some q := (exd_eq (by omega)).trans h
  exact exD_more x _ _ _ _ _ h1
end Go.Proofs.YtahdbhehaoeemaaGreatDoor
