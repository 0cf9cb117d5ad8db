/- The texts of deeds, plainly: each text is of one list of deeds. -/
import Derived.Test.YtioimgeeamchaaaDoorRunF
import Derived.Test.YtioimgeeamchaaaDoorProH
import Derived.Test.YtioimgeeamchaaaDoorProV
namespace Go.Proofs.YtioimgeeamchaaaDoor
open Go.RowKit
set_option maxRecDepth 100000
set_option linter.unusedVariables false

def NoDig (x : List Nat) : Prop := ∀ c r, x = c :: r → ¬ (48 ≤ c ∧ c ≤ 57)
theorem nodig_cons {c : Nat} {r : List Nat} (h : ¬ (48 ≤ c ∧ c ≤ 57)) : NoDig (c :: r) := fun d r' e => by cases e; exact h
theorem nodig_nil : NoDig [] := fun _ _ e => by cases e
theorem dig_split : ∀ (a b x y : List Nat), (∀ c ∈ a, 48 ≤ c ∧ c ≤ 57) → (∀ c ∈ b, 48 ≤ c ∧ c ≤ 57) → NoDig x → NoDig y → a ++ x = b ++ y → a = b ∧ x = y
  | [], [], x, y, _, _, _, _, h => ⟨rfl, h⟩
  | [], d :: b, x, y, _, hb, hx, _, h => absurd (hb d (by simp)) (hx d (b ++ y) h)
  | c :: a, [], x, y, ha, _, _, hy, h => absurd (ha c (by simp)) (hy c (a ++ x) h.symm)
  | c :: a, d :: b, x, y, ha, hb, hx, hy, h => by
    simp only [List.cons_append, List.cons.injEq] at h
    obtain ⟨e1, e2⟩ := dig_split a b x y (fun q hq => ha q (by simp [hq])) (fun q hq => hb q (by simp [hq])) hx hy h.2
    exact ⟨by rw [h.1, e1], e2⟩
theorem digF_dig : ∀ (f n : Nat), ∀ c ∈ digF f n, 48 ≤ c ∧ c ≤ 57
  | 0, n, c, hc => by simp [digF] at hc
  | f + 1, n, c, hc => by
    rw [digF] at hc
    split at hc
    · simp at hc; omega
    · rcases List.mem_append.1 hc with hc | hc
      · exact digF_dig f _ c hc
      · simp at hc; omega
theorem valD_snoc (l : List Nat) (c : Nat) : valD (l ++ [c]) = valD l * 10 + (c - 48) := by simp [valD, List.foldl_append]
theorem valD_digF : ∀ (f n : Nat), 0 < f → n < 10 ^ f → valD (digF f n) = n
  | 0, _, h, _ => absurd h (by omega)
  | f + 1, n, _, h => by
    rw [digF]
    split
    · simp [valD]
    · rename_i h1
      have h0 : 0 < f := by
        rcases Nat.eq_zero_or_pos f with rfl | q
        · exact absurd h (by simpa using h1)
        · exact q
      rw [valD_snoc, valD_digF f (n / 10) h0 (by rw [Nat.pow_succ] at h; omega)]
      omega
theorem valD_digs {n : Nat} (h : n ≤ 999999) : valD (digs n) = n := valD_digF 7 n (by omega) (by omega)
theorem sgK_all {k : Int} : sgK k = 43 ∨ sgK k = 60 ∨ sgK k = 61 := by unfold sgK; split <;> (try split) <;> omega
theorem tV_nodig {v : Nd} (h : OkV v) (x : List Nat) : NoDig (tN v ++ x) := by
  rcases val_view h with ⟨n, _, e, _⟩ | ⟨k, _, e, _⟩ | ⟨k, a, b, _, _, _, _, _, e, _⟩
  · rw [e]; exact nodig_cons (by omega)
  · rw [e]; exact nodig_cons (by omega)
  · rw [e]; exact nodig_cons (by have := @sgK_all k; omega)
/-- A value's text is of one value. -/
theorem tV_inj : ∀ (m : Nat) (a b : Nd), a.i < m → ∀ (x y : List Nat), OkV a → OkV b → NoDig x → NoDig y → tN a ++ x = tN b ++ y → (∀ s, vN a s = vN b s) ∧ x = y
  | 0, _, _, h => absurd h (by omega)
  | m + 1, a, b, hm => fun x y ha hb hx hy h => by
    rcases val_view ha with ⟨n, hn, e, v⟩ | ⟨k, hk, e, v⟩ | ⟨k, a1, a2, hk, oa1, oa2, l1, l2, e, v⟩ <;>
      rcases val_view hb with ⟨n', hn', e', v'⟩ | ⟨k', hk', e', v'⟩ | ⟨k', b1, b2, hk', ob1, ob2, _, _, e', v'⟩ <;>
      rw [e, e'] at h <;> simp only [List.cons_append, List.nil_append, List.append_assoc, List.cons.injEq] at h
    · obtain ⟨e1, e2⟩ := dig_split _ _ x y (digF_dig 7 n) (digF_dig 7 n') hx hy h.2
      have : n = n' := by rw [← valD_digs hn, ← valD_digs hn']; exact congrArg valD e1
      subst this
      exact ⟨fun s => by rw [v, v'], e2⟩
    · omega
    · have := @sgK_all k'; omega
    · omega
    · have : k = k' := by omega
      subst this
      exact ⟨fun s => by rw [v, v'], h.2⟩
    · have := @sgK_all k'; omega
    · have := @sgK_all k; omega
    · have := @sgK_all k; omega
    · obtain ⟨e1, e2⟩ := tV_inj m a1 b1 (by omega) _ _ oa1 ob1 (tV_nodig oa2 x) (tV_nodig ob2 y) h.2
      obtain ⟨e3, e4⟩ := tV_inj m a2 b2 (by omega) x y oa2 ob2 hx hy e2
      have : k = k' := by
        have := h.1
        have hk : k = 2 ∨ k = 3 ∨ k = 4 := by omega
        have hj : k' = 2 ∨ k' = 3 ∨ k' = 4 := by omega
        rcases hk with rfl | rfl | rfl <;> rcases hj with rfl | rfl | rfl <;> first | rfl | simp [sgK] at this
      subst this
      exact ⟨fun s => by rw [v, v', e1, e3], e4⟩
/-- Deeds end: the text is at its end, or a brace closes. -/
def Stp (x : List Nat) : Prop := x = [] ∨ ∃ r, x = 125 :: r
/-- Whiles of the same value and the same deeds do the same. -/
theorem whl_same {d e : Nd} {u v : (Nat → Int) → Int} {A B : (Nat → Int) → Nat → Rn} (hd : ∀ s f, xN d s f = if f = 0 then none else if u s = 0 then some (s, f - 1) else (A s (f - 1)).bind fun q => xN d q.1 q.2)
    (he : ∀ s f, xN e s f = if f = 0 then none else if v s = 0 then some (s, f - 1) else (B s (f - 1)).bind fun q => xN e q.1 q.2) (huv : ∀ s, u s = v s) (hAB : ∀ s f, A s f = B s f) (hle : ∀ s f q, A s f = some q → q.2 ≤ f) :
    ∀ (m : Nat) (f : Nat), f < m → ∀ s, xN d s f = xN e s f
  | 0, _, h => absurd h (by omega)
  | m + 1, f, hm => fun s => by
    rw [hd, he]
    by_cases h0 : f = 0
    · rw [if_pos h0, if_pos h0]
    rw [if_neg h0, if_neg h0, huv]
    by_cases h1 : v s = 0
    · rw [if_pos h1, if_pos h1]
    rw [if_neg h1, if_neg h1, ← hAB]
    cases hX : A s (f - 1) with
    | none => rfl
    | some q =>
      have := hle _ _ _ hX
      exact whl_same hd he huv hAB hle m q.2 (by omega) q.1
theorem xN_le {d : Nd} {s : Nat → Int} {f : Nat} {q : (Nat → Int) × Nat} (h : xN d s f = some q) : q.2 ≤ f := exN_le _ _ _ _ _ h
theorem eD_le : ∀ (D : List Nd) (s : Nat → Int) (f : Nat) (q : (Nat → Int) × Nat), eD D s f = some q → q.2 ≤ f
  | [], s, f, q, h => by cases h; exact Nat.le_refl _
  | d :: r, s, f, q, h => by
    obtain ⟨x, h1, h2⟩ := rbind h
    exact Nat.le_trans (eD_le r _ _ _ h2) (xN_le h1)
/-- A text of deeds is of deeds that do the same. -/
theorem tD_inj : ∀ (m : Nat) (A B : List Nd), (tD A).length < m → ∀ (x y : List Nat), OkD A → OkD B → Stp x → Stp y → tD A ++ x = tD B ++ y → (∀ s f, eD A s f = eD B s f) ∧ x = y
  | 0, _, _, h => absurd h (by omega)
  | m + 1, [], [], _ => fun x y _ _ _ _ h => ⟨fun _ _ => rfl, h⟩
  | m + 1, [], d :: r, _ => fun x y _ hb hx _ h => by
    exfalso
    rw [tD, tD, List.nil_append, List.append_assoc] at h
    rcases deed_view hb.head with ⟨k, v, hk, _, e, _⟩ | ⟨v, A, B, _, _, _, e, _⟩ | ⟨v, A, _, _, e, _⟩ <;> rw [e] at h <;> rcases hx with rfl | ⟨q, rfl⟩ <;> simp at h
    omega
  | m + 1, d :: r, [], _ => fun x y ha _ _ hy h => by
    exfalso
    rw [tD, tD, List.nil_append, List.append_assoc] at h
    rcases deed_view ha.head with ⟨k, v, hk, _, e, _⟩ | ⟨v, A, B, _, _, _, e, _⟩ | ⟨v, A, _, _, e, _⟩ <;> rw [e] at h <;> rcases hy with rfl | ⟨q, rfl⟩ <;> simp at h
    omega
  | m + 1, d :: r, d' :: r', hm => fun x y ha hb hx hy h => by
    rw [tD, tD, List.append_assoc, List.append_assoc] at h
    rw [tD, List.length_append] at hm
    rcases deed_view ha.head with ⟨k, v, hk, ov, e, w⟩ | ⟨v, A, B, ov, oA, oB, e, w⟩ | ⟨v, A, ov, oA, e, w⟩ <;>
      rcases deed_view hb.head with ⟨k', v', hk', ov', e', w'⟩ | ⟨v', A', B', ov', oA', oB', e', w'⟩ | ⟨v', A', ov', oA', e', w'⟩ <;>
      rw [e, e'] at h <;> simp only [List.cons.injEq] at h
    · have e0 := e []
      rw [List.append_nil] at e0
      obtain ⟨e1, e2⟩ := tV_inj (v.i + 1) v v' (Nat.lt_succ_self _) _ _ ov ov' (nodig_cons (by omega)) (nodig_cons (by omega)) h.2.2
      simp only [List.cons.injEq, true_and] at e2
      have hlen : 0 < (tN d).length := by rw [e0]; simp
      obtain ⟨e3, e4⟩ := tD_inj m r r' (by omega) x y ha.tail hb.tail hx hy e2
      have : k = k' := by omega
      subst this
      refine ⟨fun s f => ?_, e4⟩
      rw [eD, eD, w, w', e1]
      split
      · rfl
      · exact e3 _ _
    · omega
    · omega
    · omega
    · have e0 := e []
      rw [List.append_nil] at e0
      have hlen : (tD A).length + (tD B).length + 2 ≤ (tN d).length := by rw [e0]; simp; omega
      obtain ⟨e1, e2⟩ := tV_inj (v.i + 1) v v' (Nat.lt_succ_self _) _ _ ov ov' (nodig_cons (by omega)) (nodig_cons (by omega)) h.2
      simp only [List.cons.injEq, true_and] at e2
      obtain ⟨e3, e4⟩ := tD_inj m A A' (by omega) _ _ oA oA' (.inr ⟨_, rfl⟩) (.inr ⟨_, rfl⟩) e2
      simp only [List.cons.injEq, true_and] at e4
      obtain ⟨e5, e6⟩ := tD_inj m B B' (by omega) _ _ oB oB' (.inr ⟨_, rfl⟩) (.inr ⟨_, rfl⟩) e4
      simp only [List.cons.injEq, true_and] at e6
      obtain ⟨e7, e8⟩ := tD_inj m r r' (by omega) x y ha.tail hb.tail hx hy e6
      refine ⟨fun s f => ?_, e8⟩
      have ex : xN d s f = xN d' s f := by
        rw [w, w', e1]
        split
        · rfl
        split
        · exact e3 _ _
        · exact e5 _ _
      rw [eD, eD, ex]
      congr 1
      funext q
      exact e7 _ _
    · omega
    · omega
    · omega
    · have e0 := e []
      rw [List.append_nil] at e0
      have hlen : (tD A).length + 2 ≤ (tN d).length := by rw [e0]; simp; omega
      obtain ⟨e1, e2⟩ := tV_inj (v.i + 1) v v' (Nat.lt_succ_self _) _ _ ov ov' (nodig_cons (by omega)) (nodig_cons (by omega)) h.2
      simp only [List.cons.injEq, true_and] at e2
      obtain ⟨e3, e4⟩ := tD_inj m A A' (by omega) _ _ oA oA' (.inr ⟨_, rfl⟩) (.inr ⟨_, rfl⟩) e2
      simp only [List.cons.injEq, true_and] at e4
      obtain ⟨e5, e6⟩ := tD_inj m r r' (by omega) x y ha.tail hb.tail hx hy e4
      refine ⟨fun s f => ?_, e6⟩
      rw [eD, eD, whl_same w w' e1 e3 (eD_le A) (f + 1) f (Nat.lt_succ_self _) s]
      congr 1
      funext q
      exact e5 _ _
theorem same_text {p q : List Nod} (hp : Good p) (hq : Good q) (h : txN p (lstI p) = txN q (lstI q)) (s : Nat → Int) (f : Nat) : runP p s f = runP q s f := by
  obtain ⟨t1, x1, o1⟩ := flat0_all hp
  obtain ⟨t2, x2, o2⟩ := flat0_all hq
  rw [← x1, ← x2]
  exact (tD_inj _ _ _ (Nat.lt_succ_self _) [] [] o1 o2 (.inl rfl) (.inl rfl) (by rw [List.append_nil, List.append_nil, t1, t2, h])).1 s f
theorem joined_text {p q a : List Nod} (hp : Good p) (hq : Good q) (ha : Good a) (h : txN a (lstI a) = txN p (lstI p) ++ txN q (lstI q)) (s : Nat → Int) (f : Nat) : runP a s f = (runP p s f).bind fun r => runP q r.1 r.2 := by
  obtain ⟨t1, x1, o1⟩ := flat0_all hp
  obtain ⟨t2, x2, o2⟩ := flat0_all hq
  obtain ⟨t3, x3, o3⟩ := flat0_all ha
  rw [← x3, ← x1, (tD_inj _ _ (flat0 p ++ flat0 q) (Nat.lt_succ_self _) [] [] o3 (o1.app o2) (.inl rfl) (.inl rfl) (by rw [List.append_nil, List.append_nil, tD_app, t1, t2, t3, h])).1 s f, eD_app]
  congr 1
  funext r
  exact x2 _ _
end Go.Proofs.YtioimgeeamchaaaDoor
