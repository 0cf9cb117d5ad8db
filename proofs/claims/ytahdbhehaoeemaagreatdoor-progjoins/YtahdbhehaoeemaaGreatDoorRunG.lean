/- The texts of deeds, plainly: each text is of one list of deeds; what is written is read. -/
import Derived.Test.YtahdbhehaoeemaaGreatDoorRunF
import Derived.Test.YtahdbhehaoeemaaGreatDoorProH
import Derived.Test.YtahdbhehaoeemaaGreatDoorProV
namespace Go.Proofs.YtahdbhehaoeemaaGreatDoor
open Go.RowKit
set_option maxRecDepth 100000
set_option linter.unusedVariables false

def okV : Vt → Prop
  | .num n => n ≤ 999999
  | .var k => k < 6
  | .op k a b => (2 ≤ k ∧ k ≤ 4) ∧ okV a ∧ okV b
def okD : Ds → Prop
  | .nil => True
  | .set k v r => k < 6 ∧ okV v ∧ okD r
  | .ite v a b r => okV v ∧ okD a ∧ okD b ∧ okD r
  | .whl v a r => okV v ∧ okD a ∧ okD r
def sgK (k : Int) : Nat := if k = 2 then 43 else if k = 3 then 60 else 61
def txV : Vt → List Nat
  | .num n => 35 :: digs n
  | .var k => [97 + k]
  | .op k a b => sgK k :: (txV a ++ txV b)
def txD : Ds → List Nat
  | .nil => []
  | .set k v r => (97 + k) :: 61 :: (txV v ++ 59 :: txD r)
  | .ite v a b r => 63 :: (txV v ++ 123 :: (txD a ++ 125 :: 123 :: (txD b ++ 125 :: txD r)))
  | .whl v a r => 64 :: (txV v ++ 123 :: (txD a ++ 125 :: txD r))
theorem txN_vt {l : List Nod} (hG : Good l) : ∀ (m i : Nat), i < m → i < l.length → (nthD l i).kd < 5 → txN l (i : Int) = txV (vtOf l i) ∧ okV (vtOf l i)
  | 0, _, h, _, _ => absurd h (by omega)
  | m + 1, i, him, hi, h5 => by
    have hkd := hG.kd hi
    have hk := hG.r.kin i hi
    unfold kinB at hk
    simp only [decide_eq_true_eq] at hk
    rw [txN_eq hG.r.wf hi]
    unfold txB
    by_cases h0 : (nthD l i).kd = 0
    · have := hk.2.2.1 h0
      rw [if_pos h0, vtOf, vtE, if_pos h0]
      exact ⟨rfl, by show (nthD l i).num.toNat ≤ 999999; omega⟩
    rw [if_neg h0]
    by_cases h1 : (nthD l i).kd = 1
    · have := hk.2.2.2 (.inl h1)
      rw [if_pos h1, vtOf, vtE, if_neg h0, if_pos h1]
      exact ⟨rfl, by show (nthD l i).num.toNat < 6; omega⟩
    rw [if_neg h1]
    obtain ⟨a, b, ea, eb, ha, hb, ka, kb⟩ := hG.two hi (by omega)
    obtain ⟨ta, oa⟩ := txN_vt hG m a (by omega) (by omega) ka
    obtain ⟨tb, ob⟩ := txN_vt hG m b (by omega) (by omega) kb
    have ev : vtOf l i = .op (nthD l i).kd (vtOf l a) (vtOf l b) := by
      rw [vtOf, vtE, if_neg h0, if_neg h1, ea, eb, Int.toNat_natCast, Int.toNat_natCast, vtE_fuel hG i a ha (by omega) ka i (a + 1) ha (by omega), vtE_fuel hG i b hb (by omega) kb i (b + 1) hb (by omega)]
      rfl
    rw [ev, ea, eb, ta, tb]
    refine ⟨?_, ⟨by omega, oa, ob⟩⟩
    show _ = sgK (nthD l i).kd :: (txV (vtOf l a) ++ txV (vtOf l b))
    unfold sgK
    by_cases h2 : (nthD l i).kd = 2
    · rw [if_pos h2, if_pos h2]
    rw [if_neg h2, if_neg h2]
    by_cases h3 : (nthD l i).kd = 3
    · rw [if_pos h3, if_pos h3]
    rw [if_neg h3, if_neg h3, if_pos (by omega)]
theorem txN_ds {l : List Nod} (hG : Good l) : ∀ (m i : Nat), i < m → i < l.length → 5 ≤ (nthD l i).kd → ∀ r, okD r → txN l (i : Int) ++ txD r = txD (dsOf l i r) ∧ okD (dsOf l i r)
  | 0, _, h, _, _ => absurd h (by omega)
  | m + 1, i, him, hi, h5 => fun r hr => by
    have hkd := hG.kd hi
    have hk := hG.r.kin i hi
    unfold kinB at hk
    simp only [decide_eq_true_eq] at hk
    rw [txN_eq hG.r.wf hi]
    unfold txB
    rw [if_neg (by omega), if_neg (by omega), if_neg (by omega), if_neg (by omega), if_neg (by omega)]
    by_cases h6 : (nthD l i).kd = 6
    · obtain ⟨a1, a2⟩ := wf_set hG.r.wf hi h6
      have hp : prtL (nthD l i) = [(nthD l i).pa] := by unfold prtL; rw [if_neg (by omega), if_pos h6]
      have t1 := hG.t.val i hi 0 _ (by rw [hp]; rfl)
      unfold valB at t1
      rw [decide_eq_decide] at t1
      have hn := hk.2.2.2 (.inr h6)
      obtain ⟨ta, oa⟩ := txN_vt hG ((nthD l i).pa.toNat + 1) _ (Nat.lt_succ_self _) (by omega) (by omega)
      rw [if_pos h6, ds_set h6, show (nthD l i).pa = (((nthD l i).pa.toNat : Nat) : Int) by omega, ta, Int.toNat_natCast]
      exact ⟨by simp [txD], ⟨by omega, oa, hr⟩⟩
    rw [if_neg h6]
    by_cases h7 : (nthD l i).kd = 7
    · obtain ⟨⟨a1, b1⟩, a2, b2⟩ := hG.both hi h7
      obtain ⟨_, _, a3, a4⟩ := wf_two hG.r.wf hi (.inr (.inl h7))
      obtain ⟨t2, o2⟩ := txN_ds hG m _ (by omega) (by omega) b2 r hr
      obtain ⟨t1, o1⟩ := txN_ds hG m _ (by omega) (by omega) b1 _ o2
      rw [if_pos h7, ds_both hG hi h7, ← t1, ← t2, Int.toNat_of_nonneg a3, Int.toNat_of_nonneg a4, List.append_assoc]
      exact ⟨rfl, o1⟩
    rw [if_neg h7]
    by_cases h8 : (nthD l i).kd = 8
    · obtain ⟨a1, ⟨a2, b2⟩, a3, b3⟩ := hG.if hi h8
      obtain ⟨_, _, _, c1, c2, c3⟩ := wf_if hG.r.wf hi h8
      have hp : prtL (nthD l i) = [(nthD l i).pa, (nthD l i).pb, (nthD l i).pc] := by unfold prtL; rw [if_pos h8]
      have t1 := hG.t.val i hi 0 _ (by rw [hp]; rfl)
      unfold valB at t1
      rw [decide_eq_decide] at t1
      obtain ⟨ta, oa⟩ := txN_vt hG ((nthD l i).pa.toNat + 1) _ (Nat.lt_succ_self _) (by omega) (by omega)
      obtain ⟨tb, ob⟩ := txN_ds hG m _ (by omega) (by omega) b2 .nil trivial
      obtain ⟨tc, oc⟩ := txN_ds hG m _ (by omega) (by omega) b3 .nil trivial
      simp only [txD, List.append_nil] at tb tc
      rw [Int.toNat_of_nonneg c1] at ta
      rw [Int.toNat_of_nonneg c2] at tb
      rw [Int.toNat_of_nonneg c3] at tc
      rw [if_pos h8, ds_if hG hi h8, ta, tb, tc]
      exact ⟨by simp [txD], ⟨oa, ob, oc, hr⟩⟩
    rw [if_neg h8]
    by_cases h9 : (nthD l i).kd = 9
    · obtain ⟨a1, a2, b2⟩ := hG.whl hi h9
      obtain ⟨_, _, c1, c2⟩ := wf_two hG.r.wf hi (.inr (.inr h9))
      have hp : prtL (nthD l i) = [(nthD l i).pa, (nthD l i).pb] := by unfold prtL; rw [if_neg (by omega), if_neg (by omega), if_pos (.inr (.inr h9))]
      have t1 := hG.t.val i hi 0 _ (by rw [hp]; rfl)
      unfold valB at t1
      rw [decide_eq_decide] at t1
      obtain ⟨ta, oa⟩ := txN_vt hG ((nthD l i).pa.toNat + 1) _ (Nat.lt_succ_self _) (by omega) (by omega)
      obtain ⟨tb, ob⟩ := txN_ds hG m _ (by omega) (by omega) b2 .nil trivial
      simp only [txD, List.append_nil] at tb
      rw [Int.toNat_of_nonneg c1] at ta
      rw [Int.toNat_of_nonneg c2] at tb
      rw [if_pos h9, ds_whl hG hi h9, ta, tb]
      exact ⟨by simp [txD], ⟨oa, ob, hr⟩⟩
    · rw [if_neg h9, ds_skip (by omega)]
      exact ⟨rfl, hr⟩
/-- A program's text is its deeds' text. -/
theorem txt_ds {l : List Nod} (hG : Good l) : txN l (lstI l) = txD (dsP0 l) ∧ okD (dsP0 l) := by
  have h0 := hG.r.some
  obtain ⟨t, o⟩ := txN_ds hG l.length (l.length - 1) (by omega) (by omega) hG.r.deed .nil trivial
  simp only [txD, List.append_nil] at t
  exact ⟨t, o⟩

/-- A sign that is no digit is next, or none. -/
def NoDig (x : List Nat) : Prop := ∀ c r, x = c :: r → ¬ (48 ≤ c ∧ c ≤ 57)
theorem nodig_cons {c : Nat} {r : List Nat} (h : ¬ (48 ≤ c ∧ c ≤ 57)) : NoDig (c :: r) := fun d r' e => by cases e; exact h
theorem nodig_nil : NoDig [] := fun _ _ e => by cases e
theorem dig_split : ∀ (a b x y : List Nat), (∀ c ∈ a, 48 ≤ c ∧ c ≤ 57) → (∀ c ∈ b, 48 ≤ c ∧ c ≤ 57) → NoDig x → NoDig y → a ++ x = b ++ y → a = b ∧ x = y
  | [], [], x, y, _, _, _, _, h => ⟨rfl, h⟩
  | [], d :: b, x, y, _, hb, hx, _, h => absurd (hb d (by simp)) (hx d (b ++ y) h)
  | c :: a, [], x, y, ha, _, _, hy, h => absurd (ha c (by simp)) (hy c (a ++ x) h.symm)
  | c :: a, d :: b, x, y, ha, hb, hx, hy, h => by
    simp only [List.cons_append, List.cons.injEq] at h
    obtain ⟨e1, e2⟩ := dig_split a b x y (fun q hq => ha q (by simp [hq])) (fun q hq => hb q (by simp [hq])) hx hy h.2
    exact ⟨by rw [h.1, e1], e2⟩
theorem digF_dig : ∀ (f n : Nat), ∀ c ∈ digF f n, 48 ≤ c ∧ c ≤ 57
  | 0, n, c, hc => by simp [digF] at hc
  | f + 1, n, c, hc => by
    rw [digF] at hc
    split at hc
    · simp at hc; omega
    · rcases List.mem_append.1 hc with hc | hc
      · exact digF_dig f _ c hc
      · simp at hc; omega
theorem valD_snoc (l : List Nat) (c : Nat) : valD (l ++ [c]) = valD l * 10 + (c - 48) := by simp [valD, List.foldl_append]
theorem valD_digF : ∀ (f n : Nat), 0 < f → n < 10 ^ f → valD (digF f n) = n
  | 0, _, h, _ => absurd h (by omega)
  | f + 1, n, _, h => by
    rw [digF]
    split
    · simp [valD]
    · rename_i h1
      have h0 : 0 < f := by
        rcases Nat.eq_zero_or_pos f with rfl | q
        · exact absurd h (by simpa using h1)
        · exact q
      rw [valD_snoc, valD_digF f (n / 10) h0 (by rw [Nat.pow_succ] at h; omega)]
      omega
theorem valD_digs {n : Nat} (h : n ≤ 999999) : valD (digs n) = n := valD_digF 7 n (by omega) (by omega)
theorem txV_head : ∀ (v : Vt), okV v → ∃ c r, txV v = c :: r ∧ ¬ (48 ≤ c ∧ c ≤ 57)
  | .num n, _ => ⟨_, _, rfl, by omega⟩
  | .var k, h => ⟨_, _, rfl, by omega⟩
  | .op k a b, h => ⟨_, _, rfl, by unfold sgK; split <;> (try split) <;> omega⟩
theorem txV_nodig {v : Vt} (h : okV v) (x : List Nat) : NoDig (txV v ++ x) := by
  obtain ⟨c, r, e, hc⟩ := txV_head v h
  rw [e]
  exact nodig_cons hc
theorem txV_inj : ∀ (a b : Vt) (x y : List Nat), okV a → okV b → NoDig x → NoDig y → txV a ++ x = txV b ++ y → a = b ∧ x = y
  | .num n, .num m, x, y, ha, hb, hx, hy, h => by
    simp only [txV, List.cons_append, List.cons.injEq, true_and] at h
    obtain ⟨e1, e2⟩ := dig_split _ _ x y (digF_dig 7 n) (digF_dig 7 m) hx hy h
    have : n = m := by rw [← valD_digs ha, ← valD_digs hb]; exact congrArg valD e1
    exact ⟨by rw [this], e2⟩
  | .num n, .var k, x, y, ha, hb, _, _, h => by
    simp only [txV, List.cons_append, List.cons.injEq] at h
    have := h.1
    omega
  | .num n, .op k b1 b2, x, y, ha, hb, _, _, h => by
    simp only [txV, List.cons_append, List.cons.injEq] at h
    have := h.1
    unfold sgK at this
    split at this <;> (try split at this) <;> omega
  | .var k, .num n, x, y, ha, hb, _, _, h => by
    simp only [txV, List.cons_append, List.cons.injEq] at h
    have := h.1
    omega
  | .var k, .var j, x, y, ha, hb, _, _, h => by
    simp only [txV, List.cons_append, List.nil_append, List.cons.injEq] at h
    exact ⟨by rw [show k = j by omega], h.2⟩
  | .var k, .op j b1 b2, x, y, ha, hb, _, _, h => by
    simp only [txV, List.cons_append, List.cons.injEq] at h
    have := h.1
    unfold okV at ha
    unfold sgK at this
    split at this <;> (try split at this) <;> omega
  | .op k a1 a2, .num n, x, y, ha, hb, _, _, h => by
    simp only [txV, List.cons_append, List.cons.injEq] at h
    have := h.1
    unfold sgK at this
    split at this <;> (try split at this) <;> omega
  | .op k a1 a2, .var j, x, y, ha, hb, _, _, h => by
    simp only [txV, List.cons_append, List.cons.injEq] at h
    have := h.1
    unfold okV at hb
    unfold sgK at this
    split at this <;> (try split at this) <;> omega
  | .op k a1 a2, .op j b1 b2, x, y, ha, hb, hx, hy, h => by
    simp only [txV, List.cons_append, List.cons.injEq, List.append_assoc] at h
    obtain ⟨ek, ea1, ea2⟩ := ha
    obtain ⟨ej, eb1, eb2⟩ := hb
    obtain ⟨e1, e2⟩ := txV_inj a1 b1 _ _ ea1 eb1 (txV_nodig ea2 x) (txV_nodig eb2 y) h.2
    obtain ⟨e3, e4⟩ := txV_inj a2 b2 x y ea2 eb2 hx hy e2
    have : k = j := by
      have := h.1
      have hk : k = 2 ∨ k = 3 ∨ k = 4 := by omega
      have hj : j = 2 ∨ j = 3 ∨ j = 4 := by omega
      rcases hk with rfl | rfl | rfl <;> rcases hj with rfl | rfl | rfl <;> first | rfl | simp [sgK] at this
    exact ⟨by rw [this, e1, e3], e4⟩
/-- Deeds end: the text is at its end, or a brace closes. -/
def Stp (x : List Nat) : Prop := x = [] ∨ ∃ r, x = 125 :: r
theorem txD_inj : ∀ (a b : Ds) (x y : List Nat), okD a → okD b → Stp x → Stp y → txD a ++ x = txD b ++ y → a = b ∧ x = y
  | .nil, .nil, x, y, _, _, _, _, h => ⟨rfl, h⟩
  | .nil, .set k v r, x, y, _, hb, hx, _, h => by
    obtain ⟨hk, _⟩ := hb
    rcases hx with rfl | ⟨q, rfl⟩ <;> simp [txD] at h
    omega
  | .nil, .ite v a b r, x, y, _, _, hx, _, h => by rcases hx with rfl | ⟨q, rfl⟩ <;> simp [txD] at h
  | .nil, .whl v a r, x, y, _, _, hx, _, h => by rcases hx with rfl | ⟨q, rfl⟩ <;> simp [txD] at h
  | .set k v r, .nil, x, y, ha, _, _, hy, h => by
    obtain ⟨hk, _⟩ := ha
    rcases hy with rfl | ⟨q, rfl⟩ <;> simp [txD] at h
    omega
  | .set k v r, .set j u t, x, y, ha, hb, hx, hy, h => by
    simp only [txD, List.cons_append, List.append_assoc, List.cons.injEq, true_and] at h
    obtain ⟨hk, hv, hr⟩ := ha
    obtain ⟨hj, hu, ht⟩ := hb
    obtain ⟨e1, e2⟩ := txV_inj v u _ _ hv hu (nodig_cons (by omega)) (nodig_cons (by omega)) h.2
    simp only [List.cons.injEq, true_and] at e2
    obtain ⟨e3, e4⟩ := txD_inj r t x y hr ht hx hy e2
    exact ⟨by rw [show k = j by omega, e1, e3], e4⟩
  | .set k v r, .ite u c d t, x, y, ha, _, _, _, h => by
    obtain ⟨hk, _⟩ := ha
    simp only [txD, List.cons_append, List.cons.injEq] at h
    omega
  | .set k v r, .whl u c t, x, y, ha, _, _, _, h => by
    obtain ⟨hk, _⟩ := ha
    simp only [txD, List.cons_append, List.cons.injEq] at h
    omega
  | .ite v a b r, .nil, x, y, _, _, _, hy, h => by rcases hy with rfl | ⟨q, rfl⟩ <;> simp [txD] at h
  | .ite v a b r, .set j u t, x, y, _, hb, _, _, h => by
    obtain ⟨hk, _⟩ := hb
    simp only [txD, List.cons_append, List.cons.injEq] at h
    omega
  | .ite v a b r, .ite u c d t, x, y, ha, hb, hx, hy, h => by
    simp only [txD, List.cons_append, List.append_assoc, List.cons.injEq, true_and] at h
    obtain ⟨hv, h1, h2, h3⟩ := ha
    obtain ⟨hu, g1, g2, g3⟩ := hb
    obtain ⟨e1, e2⟩ := txV_inj v u _ _ hv hu (nodig_cons (by omega)) (nodig_cons (by omega)) h
    simp only [List.cons.injEq, true_and] at e2
    obtain ⟨e3, e4⟩ := txD_inj a c _ _ h1 g1 (.inr ⟨_, rfl⟩) (.inr ⟨_, rfl⟩) e2
    simp only [List.cons.injEq, true_and] at e4
    obtain ⟨e5, e6⟩ := txD_inj b d _ _ h2 g2 (.inr ⟨_, rfl⟩) (.inr ⟨_, rfl⟩) e4
    simp only [List.cons.injEq, true_and] at e6
    obtain ⟨e7, e8⟩ := txD_inj r t x y h3 g3 hx hy e6
    exact ⟨by rw [e1, e3, e5, e7], e8⟩
  | .ite v a b r, .whl u c t, x, y, _, _, _, _, h => by
    simp [txD] at h
  | .whl v a r, .nil, x, y, _, _, _, hy, h => by rcases hy with rfl | ⟨q, rfl⟩ <;> simp [txD] at h
  | .whl v a r, .set j u t, x, y, _, hb, _, _, h => by
    obtain ⟨hk, _⟩ := hb
    simp only [txD, List.cons_append, List.cons.injEq] at h
    omega
  | .whl v a r, .ite u c d t, x, y, _, _, _, _, h => by
    simp [txD] at h
  | .whl v a r, .whl u c t, x, y, ha, hb, hx, hy, h => by
    simp only [txD, List.cons_append, List.append_assoc, List.cons.injEq, true_and] at h
    obtain ⟨hv, h1, h2⟩ := ha
    obtain ⟨hu, g1, g2⟩ := hb
    obtain ⟨e1, e2⟩ := txV_inj v u _ _ hv hu (nodig_cons (by omega)) (nodig_cons (by omega)) h
    simp only [List.cons.injEq, true_and] at e2
    obtain ⟨e3, e4⟩ := txD_inj a c _ _ h1 g1 (.inr ⟨_, rfl⟩) (.inr ⟨_, rfl⟩) e2
    simp only [List.cons.injEq, true_and] at e4
    obtain ⟨e5, e6⟩ := txD_inj r t x y h2 g2 hx hy e4
    exact ⟨by rw [e1, e3, e5], e6⟩
theorem txD_app : ∀ (a b : Ds), txD (appD a b) = txD a ++ txD b
  | .nil, b => rfl
  | .set k v r, b => by simp [appD, txD, txD_app r b]
  | .ite v x y r, b => by simp [appD, txD, txD_app r b]
  | .whl v x r, b => by simp [appD, txD, txD_app r b]
theorem okD_app : ∀ (a b : Ds), okD a → okD b → okD (appD a b)
  | .nil, b, _, h => h
  | .set k v r, b, ⟨h1, h2, h3⟩, h => ⟨h1, h2, okD_app r b h3 h⟩
  | .ite v x y r, b, ⟨h1, h2, h3, h4⟩, h => ⟨h1, h2, h3, okD_app r b h4 h⟩
  | .whl v x r, b, ⟨h1, h2, h3⟩, h => ⟨h1, h2, okD_app r b h3 h⟩
/-- Two programs with one text do the same. -/
theorem same_text {p q : List Nod} (hp : Good p) (hq : Good q) (h : txN p (lstI p) = txN q (lstI q)) (s : Nat → Int) (f : Nat) : runP p s f = runP q s f := by
  obtain ⟨t1, o1⟩ := txt_ds hp
  obtain ⟨t2, o2⟩ := txt_ds hq
  have e : dsP0 p = dsP0 q := (txD_inj _ _ [] [] o1 o2 (.inl rfl) (.inl rfl) (by rw [List.append_nil, List.append_nil, ← t1, ← t2]; exact h)).1
  rw [runP_ds hp, runP_ds hq, e]
/-- Of two texts, one behind the other, is read what does the one and then the other one. -/
theorem joined_text {p q a : List Nod} (hp : Good p) (hq : Good q) (ha : Good a) (h : txN a (lstI a) = txN p (lstI p) ++ txN q (lstI q)) (s : Nat → Int) (f : Nat) : runP a s f = (runP p s f).bind fun r => runP q r.1 r.2 := by
  obtain ⟨t1, o1⟩ := txt_ds hp
  obtain ⟨t2, o2⟩ := txt_ds hq
  obtain ⟨t3, o3⟩ := txt_ds ha
  have e : dsP0 a = appD (dsP0 p) (dsP0 q) := (txD_inj _ _ [] [] o3 (okD_app _ _ o1 o2) (.inl rfl) (.inl rfl) (by rw [List.append_nil, List.append_nil, txD_app, ← t1, ← t2, ← t3]; exact h)).1
  rw [runP_ds ha, runP_ds hp, e, exd_app _ _ _ _ (Nat.lt_succ_self _)]
  cases exd (dsP0 p) s f with
  | none => rfl
  | some r => exact (runP_ds hq r.1 r.2).symm
end Go.Proofs.YtahdbhehaoeemaaGreatDoor
