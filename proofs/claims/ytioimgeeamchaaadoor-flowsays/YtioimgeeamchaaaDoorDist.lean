/- How many steps it takes from a thing to another one. -/
import Derived.Test.YtioimgeeamchaaaDoorTurned
namespace Go.Proofs.YtioimgeeamchaaaDoor

/-- In n steps. -/
def InSteps (rows : List Nat) : Nat → Nat → Nat → Prop
  | 0, x, b => x = b
  | n + 1, x, b => ∃ y, (rows.getD x 0).testBit y = true ∧ InSteps rows n y b
/-- In n steps, and in no fewer. -/
def Dist (rows : List Nat) (n x b : Nat) : Prop := InSteps rows n x b ∧ ∀ s, s < n → ¬ InSteps rows s x b

theorem InSteps.snoc {rows : List Nat} : ∀ {n x y z : Nat}, InSteps rows n x y → (rows.getD y 0).testBit z = true → InSteps rows (n + 1) x z
  | 0, _, _, z, h, hb => ⟨z, by rw [show _ = _ from h]; exact hb, rfl⟩
  | _ + 1, _, _, _, ⟨u, hu, h⟩, hb => ⟨u, hu, h.snoc hb⟩
theorem InSteps.reach {rows : List Nat} : ∀ {n x b : Nat}, InSteps rows n x b → Reach rows x b
  | 0, _, _, h => by rw [show _ = _ from h]; exact Reach.refl _ _
  | _ + 1, _, _, ⟨_, hu, h⟩ => ((Reach.refl _ _).step hu).trans h.reach
theorem Reach.inSteps {rows : List Nat} {x b : Nat} (h : Reach rows x b) : ∃ n, InSteps rows n x b :=
  h (fun y => ∃ n, InSteps rows n x y) ⟨0, rfl⟩ fun _ _ ⟨n, hn⟩ hb => ⟨n + 1, hn.snoc hb⟩
theorem least_of {p : Nat → Prop} : ∀ n, p n → ∃ d, p d ∧ ∀ s, s < d → ¬ p s := by
  intro n
  induction n using Nat.strongRecOn with
  | _ n ih =>
    intro hp
    by_cases h : ∃ s, s < n ∧ p s
    · obtain ⟨s, hs, hps⟩ := h
      exact ih s hs hps
    · exact ⟨n, hp, fun s hs hps => h ⟨s, hs, hps⟩⟩
theorem Reach.dist {rows : List Nat} {x b : Nat} (h : Reach rows x b) : ∃ n, Dist rows n x b := by
  obtain ⟨n, hn⟩ := h.inSteps
  exact least_of n hn
theorem Dist.unique {rows : List Nat} {n k x b : Nat} (h : Dist rows n x b) (g : Dist rows k x b) : n = k := by
  rcases Nat.lt_trichotomy n k with h1 | h1 | h1
  · exact absurd h.1 (g.2 n h1)
  · exact h1
  · exact absurd g.1 (h.2 k h1)
/-- From a thing that is further there is one that is a step nearer. -/
theorem Dist.nearer {rows : List Nat} {n x b : Nat} (h : Dist rows (n + 1) x b) : ∃ y, (rows.getD x 0).testBit y = true ∧ Dist rows n y b := by
  obtain ⟨⟨y, hy, hn⟩, hno⟩ := h
  exact ⟨y, hy, hn, fun s hs hp => hno (s + 1) (by omega) ⟨y, hy, hp⟩⟩
/-- On the way all distances are met. -/
theorem Dist.meets {m : Nat} {rows : List Nat} (hr : Right m rows) {b : Nat} : ∀ {n x : Nat}, Dist rows n x b → x < m → ∀ t, t ≤ n → ∃ y, y < m ∧ Dist rows t y b
  | n, x, h, hx, t, ht => by
    induction n generalizing x with
    | zero =>
      have : t = 0 := by omega
      subst this; exact ⟨x, hx, h⟩
    | succ n ih =>
      by_cases e : t = n + 1
      · subst e; exact ⟨x, hx, h⟩
      · obtain ⟨y, hy, hd⟩ := h.nearer
        exact ih y hd (bit_lt (hr.2.2 x) hy) (by omega)

/-- Where the layers stand. -/
structure Layer (m : Nat) (rows : List Nat) (b t seen layer : Nat) : Prop where
  ls : seen < 2 ^ m
  ll : layer < 2 ^ m
  few : t ≤ seen
  bs : ∀ x, seen.testBit x = true ↔ x < m ∧ ∃ s, s < t ∧ InSteps rows s x b
  bl : ∀ x, layer.testBit x = true ↔ x < m ∧ Dist rows t x b

theorem Layer.start {m : Nat} (rows : List Nat) {b : Nat} (hb : b < m) : Layer m rows b 0 0 (2 ^ b) where
  ls := Nat.two_pow_pos m
  ll := Nat.pow_lt_pow_right (by decide) hb
  few := by omega
  bs := by simp
  bl := by
    intro x
    rw [Nat.testBit_two_pow, decide_eq_true_eq]
    constructor
    · rintro rfl; exact ⟨hb, rfl, fun s hs => absurd hs (by omega)⟩
    · rintro ⟨_, h, _⟩; exact (show x = b from h).symm
theorem Layer.apart {m : Nat} {rows : List Nat} {b t seen layer : Nat} (h : Layer m rows b t seen layer) (x : Nat) (hx : seen.testBit x = true) : layer.testBit x = false := by
  cases hl : layer.testBit x with
  | false => rfl
  | true =>
    obtain ⟨_, s, hs, hp⟩ := (h.bs x).1 hx
    exact absurd hp (((h.bl x).1 hl).2.2 s hs)
theorem Layer.grows {m : Nat} {rows : List Nat} {b t seen layer : Nat} (h : Layer m rows b t seen layer) (h0 : layer ≠ 0) : seen < seen ||| layer := by
  have hle : seen ≤ seen ||| layer := Nat.left_le_or
  rcases Nat.lt_or_eq_of_le hle with h1 | h1
  · exact h1
  · exfalso
    apply h0
    refine Nat.eq_of_testBit_eq fun j => ?_
    rw [Nat.zero_testBit]
    cases hb : layer.testBit j with
    | false => rfl
    | true =>
      have : seen.testBit j = true := by rw [h1, Nat.testBit_or, hb]; simp
      have := h.apart j this
      rw [hb] at this; exact this
theorem Layer.next {m : Nat} {rows : List Nat} {f : Nat → Nat} {b t seen layer : Nat} (hr : Right m rows) (hf : TurnedTo m (fun i => rows.getD i 0) m (fun _ => False) f) (h : Layer m rows b t seen layer) (h0 : layer ≠ 0) :
    Layer m rows b (t + 1) (seen ||| layer) (less (stepN m (listOf m f) layer) (seen ||| layer)) where
  ls := Nat.or_lt_two_pow h.ls h.ll
  ll := lt_of_bits fun j hj => by
    rw [less_bit, Bool.and_eq_true] at hj
    exact bit_lt (stepN_lt (listOf_right hr.1 fun i hi => (hf i hi).1) layer) hj.1
  few := by have := h.grows h0; have := h.few; omega
  bs := by
    intro x
    rw [Nat.testBit_or, Bool.or_eq_true, h.bs, h.bl]
    constructor
    · rintro (⟨hx, s, hs, hp⟩ | ⟨hx, hd⟩)
      · exact ⟨hx, s, by omega, hp⟩
      · exact ⟨hx, t, by omega, hd.1⟩
    · rintro ⟨hx, s, hs, hp⟩
      by_cases hlt : ∃ s, s < t ∧ InSteps rows s x b
      · exact .inl ⟨hx, hlt⟩
      · have e : s = t := by
          by_cases e : s < t
          · exact absurd ⟨s, e, hp⟩ hlt
          · omega
        subst e
        exact .inr ⟨hx, hp, fun s' hs' hp' => hlt ⟨s', hs', hp'⟩⟩
  bl := by
    intro x
    rw [less_bit, Bool.and_eq_true, Bool.not_eq_true', stepN_bit hr.1 h.ll]
    constructor
    · rintro ⟨⟨y, hy, hb⟩, hno⟩
      have hym : y < m := bit_lt h.ll hy
      rw [listOf_get f hym] at hb
      have hxy : x < m ∧ (rows.getD x 0).testBit y = true := by
        rcases ((hf y hym).2 x).1 hb with h | ⟨_, h⟩
        · exact h
        · exact h.elim
      refine ⟨hxy.1, ⟨y, hxy.2, ((h.bl y).1 hy).2.1⟩, fun s hs hp => ?_⟩
      have hin : (seen ||| layer).testBit x = true := by
        rw [Nat.testBit_or, Bool.or_eq_true, h.bs, h.bl]
        by_cases hlt : ∃ s, s < t ∧ InSteps rows s x b
        · exact .inl ⟨hxy.1, hlt⟩
        · have e : s = t := by
            by_cases e : s < t
            · exact absurd ⟨s, e, hp⟩ hlt
            · omega
          subst e
          exact .inr ⟨hxy.1, hp, fun s' hs' hp' => hlt ⟨s', hs', hp'⟩⟩
      rw [hin] at hno; cases hno
    · rintro ⟨hx, hd⟩
      obtain ⟨y, hy, hdy⟩ := hd.nearer
      have hym : y < m := bit_lt (hr.2.2 x) hy
      refine ⟨⟨y, (h.bl y).2 ⟨hym, hdy⟩, ?_⟩, ?_⟩
      · rw [listOf_get f hym]
        exact ((hf y hym).2 x).2 (.inl ⟨hx, hy⟩)
      · cases hin : (seen ||| layer).testBit x with
        | false => rfl
        | true =>
          rw [Nat.testBit_or, Bool.or_eq_true, h.bs, h.bl] at hin
          rcases hin with ⟨_, s, hs, hp⟩ | ⟨_, hd'⟩
          · exact absurd hp (hd.2 s (by omega))
          · exact absurd hd'.1 (hd.2 t (by omega))
/-- Where no thing is as far as this none is further. -/
theorem Layer.none {m : Nat} {rows : List Nat} {b t seen : Nat} (hr : Right m rows) (h : Layer m rows b t seen 0) {a : Nat} (ha : a < m) (hs : ∀ s, s < t → ¬ Dist rows s a b) : ¬ Reach rows a b := by
  intro hR
  obtain ⟨d, hd⟩ := hR.dist
  by_cases hlt : d < t
  · exact hs d hlt hd
  · obtain ⟨y, hy, hdy⟩ := hd.meets hr ha t (by omega)
    have := (h.bl y).2 ⟨hy, hdy⟩
    simp at this
end Go.Proofs.YtioimgeeamchaaaDoor
