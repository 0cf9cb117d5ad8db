/- Plain facts: of m things none is m steps away; what the document's sweeps come to. -/
import Derived.Test.YtioimgeeamchaaaDoorDist
namespace Go.Proofs.YtioimgeeamchaaaDoor

/-- Numbers below m that are all different are at most m. -/
theorem few_of : ∀ (m n : Nat) (f : Nat → Nat), (∀ i, i < n → f i < m) → (∀ i j, i < j → j < n → f i ≠ f j) → n ≤ m
  | 0, n, f, hlt, _ => by
    by_cases h : n = 0
    · omega
    · exact absurd (hlt 0 (by omega)) (by omega)
  | m + 1, n, f, hlt, hne => by
    cases n with
    | zero => omega
    | succ n =>
      -- the last number is taken out: who is m takes its place
      have := few_of m n (fun i => if f i = m then f n else f i) (fun i hi => by
        have h1 := hlt i (by omega)
        have h2 := hlt n (by omega)
        have h3 := hne i n hi (by omega)
        split <;> omega) (fun i j hij hj => by
        have h1 := hne i j hij (by omega)
        have h2 := hne i n (by omega) (by omega)
        have h3 := hne j n hj (by omega)
        split <;> split <;> omega)
      omega

theorem Dist.few {m : Nat} {rows : List Nat} (hr : Right m rows) {a b d : Nat} (ha : a < m) (h : Dist rows d a b) : d < m := by
  have hm := h.meets hr ha
  have hc : ∃ f : Nat → Nat, ∀ t, t ≤ d → f t < m ∧ Dist rows t (f t) b := by
    refine ⟨fun t => if ht : t ≤ d then (hm t ht).choose else 0, fun t ht => ?_⟩
    simp only [ht, dif_pos]
    exact (hm t ht).choose_spec
  obtain ⟨f, hf⟩ := hc
  have := few_of m (d + 1) f (fun i hi => (hf i (by omega)).1) (fun i j hij hj e => by
    have h1 := (hf i (by omega)).2
    have h2 := (hf j (by omega)).2
    rw [e] at h1
    have := h1.unique h2
    omega)
  omega

theorem InSteps.unsnoc {rows : List Nat} : ∀ {n x z : Nat}, InSteps rows (n + 1) x z → ∃ y, InSteps rows n x y ∧ (rows.getD y 0).testBit z = true
  | 0, x, _, ⟨_, hu, h⟩ => ⟨x, rfl, by rw [← show _ = _ from h]; exact hu⟩
  | _ + 1, _, _, ⟨u, hu, h⟩ => by
    obtain ⟨y, hy, hb⟩ := h.unsnoc
    exact ⟨y, ⟨u, hu, hy⟩, hb⟩

/-- Where the document's closure stands: behind n sweeps, and in the next one at j. -/
structure Swept (m : Nat) (rows : List Nat) (i n j set : Nat) : Prop where
  lt : set < 2 ^ m
  sound : ∀ x, set.testBit x = true → Reach rows i x
  has : ∀ s x, s ≤ n → InSteps rows s i x → set.testBit x = true
  more : ∀ s y x, s ≤ n → y < j → InSteps rows s i y → (rows.getD y 0).testBit x = true → set.testBit x = true

theorem Swept.start {m : Nat} (rows : List Nat) {i : Nat} (hi : i < m) : Swept m rows i 0 0 (2 ^ i) where
  lt := Nat.pow_lt_pow_right (by decide) hi
  sound := fun x hx => by
    rw [Nat.testBit_two_pow, decide_eq_true_eq] at hx
    subst hx; exact Reach.refl _ _
  has := fun s x hs h => by
    obtain rfl : s = 0 := by omega
    rw [Nat.testBit_two_pow, decide_eq_true_eq]; exact h
  more := fun _ _ _ _ h => absurd h (by omega)
theorem Swept.pass {m : Nat} {rows : List Nat} {i n j set : Nat} (h : Swept m rows i n j set) (hb : set.testBit j = false) : Swept m rows i n (j + 1) set :=
  ⟨h.lt, h.sound, h.has, fun s y x hs hy hp hx => by
    by_cases e : y = j
    · subst e
      rw [h.has s y hs hp] at hb; cases hb
    · exact h.more s y x hs (by omega) hp hx⟩
theorem Swept.join {m : Nat} {rows : List Nat} (hr : Right m rows) {i n j set : Nat} (h : Swept m rows i n j set) (hb : set.testBit j = true) : Swept m rows i n (j + 1) (set ||| rows.getD j 0) := by
  have keep : ∀ x, set.testBit x = true → (set ||| rows.getD j 0).testBit x = true := fun x hx => by rw [Nat.testBit_or, hx]; rfl
  refine ⟨Nat.or_lt_two_pow h.lt (hr.2.2 j), fun x hx => ?_, fun s x hs hp => keep x (h.has s x hs hp), fun s y x hs hy hp hx => ?_⟩
  · rw [Nat.testBit_or, Bool.or_eq_true] at hx
    rcases hx with hx | hx
    · exact h.sound x hx
    · exact (h.sound j hb).step hx
  · by_cases e : y = j
    · subst e
      rw [Nat.testBit_or, hx, Bool.or_true]
    · exact keep x (h.more s y x hs (by omega) hp hx)
theorem Swept.turn {m : Nat} {rows : List Nat} (hr : Right m rows) {i n set : Nat} (hi : i < m) (h : Swept m rows i n m set) : Swept m rows i (n + 1) 0 set :=
  ⟨h.lt, h.sound, fun s x hs hp => by
    cases s with
    | zero => exact h.has 0 x (by omega) hp
    | succ s =>
      obtain ⟨y, hy, hb⟩ := hp.unsnoc
      exact h.more s y x (by omega) (hy.reach.lt hr hi) hy hb, fun _ _ _ _ h => absurd h (by omega)⟩
theorem Swept.ends {m : Nat} {rows : List Nat} (hr : Right m rows) {i j set : Nat} (hi : i < m) (h : Swept m rows i m j set) : set = come m rows i :=
  eq_of_bits fun x => by
    rw [come_bit hr hi]
    refine ⟨h.sound x, fun hR => ?_⟩
    obtain ⟨d, hd⟩ := hR.dist
    exact h.has d x (by have := hd.few hr hi; omega) hd.1

/-- Where the document's steps stand: behind n sweeps, and in the next one at i, j. -/
structure Far (m : Nat) (rows : List Nat) (b n i j : Nat) (L : Nat → Nat) : Prop where
  le : ∀ x, x < m → L x ≤ 20
  sound : ∀ x, x < m → L x = 20 ∨ InSteps rows (L x) x b
  has : ∀ s x, x < m → s ≤ n → InSteps rows s x b → L x ≤ s
  past : ∀ s x, x < m → x < i → s ≤ n → InSteps rows (s + 1) x b → L x ≤ s + 1
  more : ∀ s y, i < m → y < j → y < m → s ≤ n → (rows.getD i 0).testBit y = true → InSteps rows s y b → L i ≤ s + 1

theorem Far.start {m : Nat} (rows : List Nat) {b : Nat} : Far m rows b 0 0 0 (upd (fun _ => 20) b 0) where
  le := fun x _ => by
    by_cases e : x = b
    · subst e; rw [upd_same]; omega
    · rw [upd_other _ e]; omega
  sound := fun x _ => by
    by_cases e : x = b
    · subst e; rw [upd_same]; exact .inr rfl
    · rw [upd_other _ e]; exact .inl rfl
  has := fun s x _ hs h => by
    obtain rfl : s = 0 := by omega
    obtain rfl : x = b := h
    rw [upd_same]; omega
  past := fun _ _ _ h => absurd h (by omega)
  more := fun _ _ _ h => absurd h (by omega)
theorem Far.pass {m : Nat} {rows : List Nat} {b n i j : Nat} {L : Nat → Nat} (h : Far m rows b n i j L) (hj : j < m) (hno : (rows.getD i 0).testBit j = true → L i ≤ L j + 1) : Far m rows b n i (j + 1) L :=
  ⟨h.le, h.sound, h.has, h.past, fun s y hi hy hym hs hb hp => by
    by_cases e : y = j
    · subst e
      have := hno hb
      have := h.has s y hj hs hp
      omega
    · exact h.more s y hi (by omega) hym hs hb hp⟩
theorem Far.put {m : Nat} {rows : List Nat} {b n i j : Nat} {L : Nat → Nat} (h : Far m rows b n i j L) (hi : i < m) (hj : j < m) (hb : (rows.getD i 0).testBit j = true) (hlt : L j + 1 < L i) : Far m rows b n i (j + 1) (upd L i (L j + 1)) := by
  have hL := h.le i hi
  have hle : ∀ x, upd L i (L j + 1) x ≤ L x := fun x => by
    by_cases e : x = i
    · subst e; rw [upd_same]; omega
    · rw [upd_other _ e]; exact Nat.le_refl _
  refine ⟨fun x hx => Nat.le_trans (hle x) (h.le x hx), fun x hx => ?_, fun s x hx hs hp => Nat.le_trans (hle x) (h.has s x hx hs hp), fun s x hx hxi hs hp => Nat.le_trans (hle x) (h.past s x hx hxi hs hp), fun s y _ hy hym hs hby hp => ?_⟩
  · by_cases e : x = i
    · subst e
      rw [upd_same]
      rcases h.sound j hj with h1 | h1
      · omega
      · exact .inr ⟨j, hb, h1⟩
    · rw [upd_other _ e]; exact h.sound x hx
  · by_cases e : y = j
    · subst e
      rw [upd_same]
      have := h.has s y hj hs hp
      omega
    · exact Nat.le_trans (hle i) (h.more s y hi (by omega) hym hs hby hp)
theorem Far.row {m : Nat} {rows : List Nat} (hr : Right m rows) {b n i : Nat} {L : Nat → Nat} (h : Far m rows b n i m L) : Far m rows b n (i + 1) 0 L :=
  ⟨h.le, h.sound, h.has, fun s x hx hxi hs hp => by
    by_cases e : x = i
    · subst e
      obtain ⟨y, hy, hp'⟩ := hp
      have hym := bit_lt (hr.2.2 x) hy
      exact h.more s y hx hym hym hs hy hp'
    · exact h.past s x hx (by omega) hs hp, fun _ _ _ h => absurd h (by omega)⟩
theorem Far.turn {m : Nat} {rows : List Nat} {b n j : Nat} {L : Nat → Nat} (h : Far m rows b n m j L) : Far m rows b (n + 1) 0 0 L :=
  ⟨h.le, h.sound, fun s x hx hs hp => by
    cases s with
    | zero => exact h.has 0 x hx (by omega) hp
    | succ s => exact h.past s x hx hx (by omega) hp, fun _ _ _ h => absurd h (by omega), fun _ _ _ h => absurd h (by omega)⟩
/-- What the steps are in the end. -/
def Steps (m : Nat) (rows : List Nat) (b : Nat) (L : Nat → Nat) : Prop := ∀ x, x < m → (Dist rows (L x) x b ∧ L x < 12) ∨ (L x = 20 ∧ ¬ Reach rows x b)
theorem Far.ends {m : Nat} {rows : List Nat} (hr : Right m rows) {b i j : Nat} {L : Nat → Nat} (h : Far m rows b m i j L) : Steps m rows b L := fun x hx => by
  have hm := hr.1
  by_cases hR : Reach rows x b
  · obtain ⟨d, hd⟩ := hR.dist
    have hf := hd.few hr hx
    have hle := h.has d x hx (by omega) hd.1
    rcases h.sound x hx with h1 | h1
    · omega
    · have e : L x = d := by
        by_cases e : L x < d
        · exact absurd h1 (hd.2 _ e)
        · omega
      rw [e]
      exact .inl ⟨hd, by omega⟩
  · rcases h.sound x hx with h1 | h1
    · exact .inr ⟨h1, hR⟩
    · exact absurd h1.reach hR

end Go.Proofs.YtioimgeeamchaaaDoor
