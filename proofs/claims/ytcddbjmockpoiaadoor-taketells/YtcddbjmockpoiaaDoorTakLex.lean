/- Which of several ways the document takes: the shortest, of several the least. -/
import Derived.Test.YtcddbjmockpoiaaDoorTakAsk
import Derived.Test.YtcddbjmockpoiaaDoorRefWa
namespace Go.Proofs.YtcddbjmockpoiaaDoor
open Go.RowKit

theorem lessAt_iff (f h : Nat → Nat) : ∀ r i, lessAt f h r i = true ↔ ∃ t, i ≤ t ∧ t < i + r ∧ f t < h t ∧ ∀ s, i ≤ s → s < t → f s = h s
  | 0, i => by
    rw [lessAt]
    constructor
    · intro h; cases h
    · rintro ⟨t, h1, h2, _⟩; omega
  | r + 1, i => by
    rw [lessAt]
    split
    · rename_i e
      rw [lessAt_iff f h r (i + 1)]
      constructor
      · rintro ⟨t, h1, h2, h3, h4⟩
        refine ⟨t, by omega, by omega, h3, fun s hs hst => ?_⟩
        by_cases e2 : s = i
        · subst e2; exact e
        · exact h4 s (by omega) hst
      · rintro ⟨t, h1, h2, h3, h4⟩
        refine ⟨t, ?_, by omega, h3, fun s hs hst => h4 s (by omega) hst⟩
        by_cases e2 : t = i
        · subst e2; omega
        · omega
    · rename_i e
      rw [decide_eq_true_eq]
      constructor
      · intro hl; exact ⟨i, by omega, by omega, hl, fun s h1 h2 => by omega⟩
      · rintro ⟨t, h1, h2, h3, h4⟩
        by_cases e2 : t = i
        · subst e2; exact h3
        · exact absurd (h4 i (by omega) (by omega)) e
theorem lessL_iff (n : Nat) (f : Nat → Nat) (m : Nat) (h : Nat → Nat) : lessL n f m h = true ↔ m = 0 ∨ n < m ∨ (n = m ∧ ∃ t, t < n ∧ f t < h t ∧ ∀ s, s < t → f s = h s) := by
  unfold lessL
  split
  · rename_i q
    constructor
    · intro _
      rcases q with q | q
      · exact .inl q
      · exact .inr (.inl q)
    · intro _; rfl
  · rename_i q
    split
    · rename_i q2
      constructor
      · intro h; cases h
      · rintro (h | h | ⟨h, _⟩) <;> omega
    · rename_i q2
      rw [lessAt_iff]
      constructor
      · rintro ⟨t, _, h2, h3, h4⟩
        exact .inr (.inr ⟨by omega, t, by omega, h3, fun s hs => h4 s (by omega) hs⟩)
      · rintro (h | h | ⟨_, t, h2, h3, h4⟩)
        · omega
        · omega
        · exact ⟨t, by omega, by omega, h3, fun s _ hs => h4 s hs⟩
theorem lessL_trans {n m k : Nat} {f g h : Nat → Nat} (hm : m ≠ 0) (h1 : lessL n f m g = true) (h2 : lessL m g k h = true) : lessL n f k h = true := by
  rw [lessL_iff] at h1 h2 ⊢
  rcases h2 with h2 | h2 | ⟨e2, t2, l2, c2, s2⟩
  · exact .inl h2
  · rcases h1 with h1 | h1 | ⟨e1, _⟩
    · omega
    · exact .inr (.inl (by omega))
    · exact .inr (.inl (by omega))
  · rcases h1 with h1 | h1 | ⟨e1, t1, l1, c1, s1⟩
    · omega
    · exact .inr (.inl (by omega))
    · refine .inr (.inr ⟨by omega, ?_⟩)
      rcases Nat.lt_trichotomy t1 t2 with q | q | q
      · exact ⟨t1, l1, by rw [← s2 t1 q]; exact c1, fun s hs => (s1 s hs).trans (s2 s (by omega))⟩
      · subst q; exact ⟨t1, l1, by omega, fun s hs => (s1 s hs).trans (s2 s hs)⟩
      · exact ⟨t2, by omega, by rw [s1 t2 q]; exact c2, fun s hs => (s1 s (by omega)).trans (s2 s hs)⟩
theorem lessL_irr {n : Nat} (hn : n ≠ 0) (f : Nat → Nat) : lessL n f n f = false := by
  cases h : lessL n f n f with
  | false => rfl
  | true =>
    rcases (lessL_iff ..).1 h with h | h | ⟨_, t, _, h, _⟩ <;> omega
theorem lessL_like {n m : Nat} {f f' h : Nat → Nat} (e : ∀ i, i < n → f i = f' i) : lessL n f m h = lessL n f' m h := by
  rw [Bool.eq_iff_iff, lessL_iff, lessL_iff]
  constructor
  · rintro (h1 | h1 | ⟨h1, t, h2, h3, h4⟩)
    · exact .inl h1
    · exact .inr (.inl h1)
    · exact .inr (.inr ⟨h1, t, h2, by rw [← e t h2]; exact h3, fun s hs => by rw [← e s (by omega)]; exact h4 s hs⟩)
  · rintro (h1 | h1 | ⟨h1, t, h2, h3, h4⟩)
    · exact .inl h1
    · exact .inr (.inl h1)
    · exact .inr (.inr ⟨h1, t, h2, by rw [e t h2]; exact h3, fun s hs => by rw [e s (by omega)]; exact h4 s hs⟩)

/-- The best of the ways to some holders below j. -/
def BestOf (m : Nat) (rows : List Nat) (T x j n : Nat) (f : Nat → Nat) : Prop :=
  (n = 0 ∧ ∀ k, k < j → T.testBit k = true → ¬ Reach rows x k) ∨
  ∃ D e, n = D + 1 ∧ e < j ∧ T.testBit e = true ∧ Dist rows D x e ∧ WayTo m rows e D D f ∧ f 0 = x ∧ ∀ k, k < j → T.testBit k = true → ∀ d V, Dist rows d x k → WayTo m rows k d d V → V 0 = x → lessL (d + 1) V (D + 1) f = false
theorem BestOf.start (m : Nat) (rows : List Nat) (T x : Nat) : BestOf m rows T x 0 0 (fun _ => 0) := .inl ⟨rfl, fun k hk => absurd hk (by omega)⟩
section
variable {m : Nat} {rows : List Nat} {T x j n : Nat} {f : Nat → Nat}
theorem BestOf.pass (h : BestOf m rows T x j n f) (hj : T.testBit j = true → ¬ Reach rows x j) : BestOf m rows T x (j + 1) n f := by
  rcases h with ⟨h1, h2⟩ | ⟨D, e, h1, h2, h3, h4, h5, h6, h7⟩
  · refine .inl ⟨h1, fun k hk => ?_⟩
    by_cases e : k = j
    · subst e; exact hj
    · exact h2 k (by omega)
  · refine .inr ⟨D, e, h1, by omega, h3, h4, h5, h6, fun k hk hT d V hd => ?_⟩
    by_cases e : k = j
    · subst e; exact absurd hd.1.reach (hj hT)
    · exact h7 k (by omega) hT d V hd
theorem BestOf.worse (h : BestOf m rows T x j n f) {d : Nat} {V : Nat → Nat} (hd : Dist rows d x j) (hV : WayTo m rows j d d V) (h0 : V 0 = x) (hl : lessL (d + 1) V n f = false) : BestOf m rows T x (j + 1) n f := by
  rcases h with ⟨h1, h2⟩ | ⟨D, e, h1, h2, h3, h4, h5, h6, h7⟩
  · subst h1
    rw [(lessL_iff ..).2 (.inl rfl)] at hl
    cases hl
  · refine .inr ⟨D, e, h1, by omega, h3, h4, h5, h6, fun k hk hT d' V' hd' hV' h0' => ?_⟩
    by_cases e : k = j
    · subst e
      obtain rfl := hd.unique hd'
      rw [lessL_like (f' := V) fun i hi => hV'.one hV (by rw [h0, h0']) i (by omega), ← h1]
      exact hl
    · exact h7 k (by omega) hT d' V' hd' hV' h0'
theorem BestOf.better (h : BestOf m rows T x j n f) (hj : T.testBit j = true) {d : Nat} {V : Nat → Nat} (hd : Dist rows d x j) (hV : WayTo m rows j d d V) (h0 : V 0 = x) (hl : lessL (d + 1) V n f = true) : BestOf m rows T x (j + 1) (d + 1) V := by
  refine .inr ⟨d, j, rfl, by omega, hj, hd, hV, h0, fun k hk hT d' V' hd' hV' h0' => ?_⟩
  by_cases e : k = j
  · subst e
    obtain rfl := hd.unique hd'
    rw [lessL_like (f' := V) fun i hi => hV'.one hV (by rw [h0, h0']) i (by omega)]
    exact lessL_irr (by omega) V
  · rcases h with ⟨h1, h2⟩ | ⟨D, e', h1, h2, h3, h4, h5, h6, h7⟩
    · exact absurd hd'.1.reach (h2 k (by omega) hT)
    · have := h7 k (by omega) hT d' V' hd' hV' h0'
      cases q : lessL (d' + 1) V' (d + 1) V with
      | false => rfl
      | true =>
        rw [h1] at hl
        rw [lessL_trans (by omega) q hl] at this
        cases this
end
theorem inS_iff (rows : List Nat) (T : Nat) : ∀ n x, InS rows T n x ↔ ∃ k, T.testBit k = true ∧ InSteps rows n x k
  | 0, x => by
    constructor
    · intro h; exact ⟨x, h, rfl⟩
    · rintro ⟨k, h1, h2⟩; rw [show x = k from h2]; exact h1
  | n + 1, x => by
    constructor
    · rintro ⟨y, h1, h2⟩
      obtain ⟨k, h3, h4⟩ := (inS_iff rows T n y).1 h2
      exact ⟨k, h3, y, h1, h4⟩
    · rintro ⟨k, h3, y, h1, h4⟩
      exact ⟨y, h1, (inS_iff rows T n y).2 ⟨k, h3, h4⟩⟩
theorem seg_steps {rows : List Nat} {f : Nat → Nat} {k s : Nat} : ∀ (c a : Nat), (∀ t, a ≤ t → t < a + c → (rows.getD (f t) 0).testBit (f (t + 1)) = true) → InSteps rows s (f (a + c)) k → InSteps rows (s + c) (f a) k
  | 0, _, _, h => h
  | c + 1, a, hon, h => by
    have ih := seg_steps c (a + 1) (fun t h1 h2 => hon t (by omega) (by omega)) (by rw [show a + 1 + c = a + (c + 1) by omega]; exact h)
    exact ⟨f (a + 1), hon a (by omega) (by omega), ih⟩
theorem exists_steps {m : Nat} {rows : List Nat} (hr : Right m rows) (b : Nat) : ∃ L, Steps m rows b L := by
  have each : ∀ x, ∃ l, x < m → (Dist rows l x b ∧ l < 20) ∨ (l = 20 ∧ ¬ Reach rows x b) := fun x => by
    by_cases hx : x < m
    · by_cases h : Reach rows x b
      · obtain ⟨d, hd⟩ := h.dist
        have := hd.few hr hx
        have := hr.1
        exact ⟨d, fun _ => .inl ⟨hd, by omega⟩⟩
      · exact ⟨20, fun _ => .inr ⟨rfl, h⟩⟩
    · exact ⟨0, fun h => absurd h hx⟩
  exact ⟨fun x => (each x).choose, fun x hx => (each x).choose_spec hx⟩
theorem exists_way {m : Nat} {rows : List Nat} (hr : Right m rows) {b d x : Nat} (hx : x < m) (hd : Dist rows d x b) : ∃ V, V 0 = x ∧ WayTo m rows b d d V := by
  obtain ⟨L, hL⟩ := exists_steps hr b
  have : ∀ s, s ≤ d → ∃ V, V 0 = x ∧ WayTo m rows b d s V := fun s => by
    induction s with
    | zero => intro _; exact ⟨fun _ => x, rfl, WayTo.begin hx hd⟩
    | succ s ih =>
      intro hs
      obtain ⟨V, h0, hV⟩ := ih (by omega)
      obtain ⟨_, Y, _, _, _, hN⟩ := hV.nextRef hr (by omega) hL
      exact ⟨_, by rw [upd_other _ (by omega)]; exact h0, hN⟩
  exact this d (Nat.le_refl _)
/-- What the best of all is. -/
theorem BestOf.all {m : Nat} {rows : List Nat} {T x n : Nat} {f : Nat → Nat} (h : BestOf m rows T x m n f) (hr : Right m rows) (hx : x < m) (hT : T < 2 ^ m) :
    (n = 0 ∧ ∀ k, ¬ InS rows T k x) ∨ ∃ D, n = D + 1 ∧ f 0 = x ∧ DistS rows T D x ∧ WayS m rows T D D f := by
  rcases h with ⟨h1, h2⟩ | ⟨D, e, h1, he, h3, h4, h5, h6, h7⟩
  · refine .inl ⟨h1, fun s hs => ?_⟩
    obtain ⟨k, hk, hp⟩ := (inS_iff ..).1 hs
    exact h2 k (bit_lt hT hk) hk hp.reach
  · have hmin : ∀ s, s < D → ¬ InS rows T s x := fun s hs hin => by
      obtain ⟨k, hk, hp⟩ := (inS_iff ..).1 hin
      obtain ⟨d, hd⟩ := hp.reach.dist
      obtain ⟨V, h0, hV⟩ := exists_way hr hx hd
      have hds : d ≤ s := by
        by_cases q : d ≤ s
        · exact q
        · exact absurd hp (hd.2 s (by omega))
      have := h7 k (bit_lt hT hk) hk d V hd hV h0
      rw [(lessL_iff ..).2 (.inr (.inl (by omega)))] at this
      cases this
    have hD : DistS rows T D x := ⟨(inS_iff ..).2 ⟨e, h3, h4.1⟩, hmin⟩
    have hfar : ∀ i, i ≤ D → DistS rows T (D - i) (f i) := fun i hi => by
      refine ⟨(inS_iff ..).2 ⟨e, h3, (h5.far i hi).1⟩, fun s hs hin => ?_⟩
      obtain ⟨k, hk, hp⟩ := (inS_iff ..).1 hin
      have hq := seg_steps (rows := rows) (f := f) (k := k) (s := s) i 0 (fun t _ ht => h5.on t (by omega)) (by rw [Nat.zero_add]; exact hp)
      rw [h6] at hq
      exact hmin (s + i) (by omega) ((inS_iff ..).2 ⟨k, hk, hq⟩)
    refine .inr ⟨D, h1, h6, hD, h5.lt, hfar, h5.on, fun i hi y hy hdy => ?_⟩
    by_cases hle : f (i + 1) ≤ y
    · exact hle
    · exfalso
      obtain ⟨k, hk, hp⟩ := (inS_iff ..).1 hdy.1
      have hpi : InSteps rows (D - i) (f i) k := by
        rw [show D - i = D - (i + 1) + 1 by omega]
        exact ⟨y, hy, hp⟩
      have hpq : ∀ q, q ≤ i → InSteps rows (D - q) (f q) k := fun q hq => by
        have := seg_steps (rows := rows) (f := f) (k := k) (s := D - i) (i - q) q (fun t _ ht => h5.on t (by omega)) (by rw [show q + (i - q) = i by omega]; exact hpi)
        rw [show D - i + (i - q) = D - q by omega] at this
        exact this
      have hdq : ∀ q, q ≤ i → Dist rows (D - q) (f q) k := fun q hq => ⟨hpq q hq, fun s hs hin => (hfar q (by omega)).2 s hs ((inS_iff ..).2 ⟨k, hk, hin⟩)⟩
      have hdk : Dist rows D x k := by
        have := hdq 0 (by omega)
        rw [h6] at this
        exact this
      have hdyk : Dist rows (D - (i + 1)) y k := ⟨hp, fun s hs hin => hdy.2 s hs ((inS_iff ..).2 ⟨k, hk, hin⟩)⟩
      obtain ⟨V, h0, hV⟩ := exists_way hr hx hdk
      have hno := h7 k (bit_lt hT hk) hk D V hdk hV h0
      have hag : ∀ q, q ≤ i → (∀ s, s ≤ q → V s = f s) ∨ ∃ t, t ≤ q ∧ V t < f t ∧ ∀ s, s < t → V s = f s := fun q => by
        induction q with
        | zero =>
          intro _
          refine .inl fun s hs => ?_
          obtain rfl : s = 0 := by omega
          rw [h0, h6]
        | succ q ih =>
          intro hq
          rcases ih (by omega) with ha | ⟨t, h1, h2, h3⟩
          · have hle : V (q + 1) ≤ f (q + 1) := hV.first q (by omega) (f (q + 1)) (by rw [ha q (Nat.le_refl _)]; exact h5.on q (by omega)) (hdq (q + 1) hq)
            by_cases e : V (q + 1) = f (q + 1)
            · refine .inl fun s hs => ?_
              by_cases e2 : s = q + 1
              · subst e2; exact e
              · exact ha s (by omega)
            · exact .inr ⟨q + 1, Nat.le_refl _, by omega, fun s hs => ha s (by omega)⟩
          · exact .inr ⟨t, by omega, h2, h3⟩
      have hyes : lessL (D + 1) V (D + 1) f = true := by
        rw [lessL_iff]
        refine .inr (.inr ⟨rfl, ?_⟩)
        rcases hag i (Nat.le_refl _) with ha | ⟨t, h1, h2, h3⟩
        · have hle : V (i + 1) ≤ y := hV.first i hi y (by rw [ha i (Nat.le_refl _)]; exact hy) hdyk
          exact ⟨i + 1, by omega, by omega, fun s hs => ha s (by omega)⟩
        · exact ⟨t, by omega, h2, h3⟩
      rw [hyes] at hno
      cases hno
/-- Two such ways into a set are one. -/
theorem WayS.one {m : Nat} {rows : List Nat} {b d : Nat} {V W : Nat → Nat} (h : WayS m rows b d d V) (g : WayS m rows b d d W) (h0 : V 0 = W 0) : ∀ i, i ≤ d → V i = W i
  | 0, _ => h0
  | i + 1, hi => by
    have ih := WayS.one h g h0 i (by omega)
    have h1 := h.on i (by omega)
    have g1 := g.on i (by omega)
    have h2 := h.first i (by omega) (W (i + 1)) (by rw [ih]; exact g1) (g.far (i + 1) hi)
    have g2 := g.first i (by omega) (V (i + 1)) (by rw [← ih]; exact h1) (h.far (i + 1) hi)
    omega
end Go.Proofs.YtcddbjmockpoiaaDoor
