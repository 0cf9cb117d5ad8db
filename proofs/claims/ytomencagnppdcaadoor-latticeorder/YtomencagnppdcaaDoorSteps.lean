/- An order's steps have its closure, and none of them can be spared. -/
import Derived.Test.YtomencagnppdcaaDoorMid
namespace Go.Proofs.YtomencagnppdcaaDoor

theorem sub_lt {x y : Nat} (h : ∀ j, x.testBit j = true → y.testBit j = true) {k : Nat} (hy : y.testBit k = true) (hx : x.testBit k = false) : x < y := by
  have hle : x ≤ y := by
    have e : x &&& y = x := by
      have := (subB_iff x y).2 h
      simpa [subB] using this
    rw [← e]; exact Nat.and_le_right
  rcases Nat.lt_or_eq_of_le hle with h1 | h1
  · exact h1
  · rw [h1, hy] at hx; cases hx

/-- What an order's closure is to its steps. -/
structure Ord (m : Nat) (C : Nat → Nat) : Prop where
  lt : ∀ i, i < m → C i < 2 ^ m
  self : ∀ i, i < m → (C i).testBit i = true
  on : ∀ i j k, i < m → j < m → (C i).testBit j = true → (C j).testBit k = true → (C i).testBit k = true
  one : ∀ i j, i < m → j < m → (C i).testBit j = true → (C j).testBit i = true → i = j

/-- The others that are come to. -/
def oth (C : Nat → Nat) (i : Nat) : Nat := less (C i) (2 ^ i)
theorem oth_bit (C : Nat → Nat) (i k : Nat) : (oth C i).testBit k = true ↔ (C i).testBit k = true ∧ i ≠ k := by
  unfold oth
  rw [less_bit, Nat.testBit_two_pow]
  simp
/-- The steps. -/
def steps (m : Nat) (C : Nat → Nat) (i : Nat) : Nat := less (oth C i) (stepN m (listOf m (oth C)) (oth C i))

theorem Ord.olt {m : Nat} {C : Nat → Nat} (h : Ord m C) (i : Nat) (hi : i < m) : oth C i < 2 ^ m :=
  lt_of_bits fun _ hj => bit_lt (h.lt i hi) ((oth_bit C i _).1 hj).1
theorem Ord.steps_bit {m : Nat} {C : Nat → Nat} (h : Ord m C) (hm : m ≤ 12) (i j : Nat) (hi : i < m) :
    (steps m C i).testBit j = true ↔ (oth C i).testBit j = true ∧ ¬ ∃ k, (oth C i).testBit k = true ∧ (oth C k).testBit j = true := by
  unfold steps
  rw [less_bit, Bool.and_eq_true, Bool.not_eq_true']
  have e := stepN_bit (rows := listOf m (oth C)) hm (h.olt i hi) j
  constructor
  · rintro ⟨h1, h2⟩
    refine ⟨h1, fun ⟨k, hk, hb⟩ => ?_⟩
    have hkm : k < m := bit_lt (h.olt i hi) hk
    have := e.2 ⟨k, hk, by rw [listOf_get _ hkm]; exact hb⟩
    rw [this] at h2; cases h2
  · rintro ⟨h1, h2⟩
    refine ⟨h1, ?_⟩
    cases hs : (stepN m (listOf m (oth C)) (oth C i)).testBit j with
    | false => rfl
    | true =>
      obtain ⟨k, hk, hb⟩ := e.1 hs
      have hkm : k < m := bit_lt (h.olt i hi) hk
      rw [listOf_get _ hkm] at hb
      exact absurd ⟨k, hk, hb⟩ h2
theorem Ord.slt {m : Nat} {C : Nat → Nat} (h : Ord m C) (hm : m ≤ 12) (i : Nat) (hi : i < m) : steps m C i < 2 ^ m :=
  lt_of_bits fun j hj => bit_lt (h.olt i hi) ((h.steps_bit hm i j hi).1 hj).1

/-- Where one is come to, there is a step on the way. -/
theorem Ord.first {m : Nat} {C : Nat → Nat} (h : Ord m C) (hm : m ≤ 12) (a : Nat) (ha : a < m) : ∀ (n b : Nat), 2 ^ m ≤ C b + n → b < m → (oth C a).testBit b = true →
    ∃ k, k < m ∧ (steps m C a).testBit k = true ∧ (C k).testBit b = true
  | 0, b, hn, hb, _ => absurd (h.lt b hb) (by omega)
  | n + 1, b, hn, hb, hab => by
    by_cases hs : (steps m C a).testBit b = true
    · exact ⟨b, hb, hs, h.self b hb⟩
    · have : ∃ k, (oth C a).testBit k = true ∧ (oth C k).testBit b = true := Classical.byContradiction fun hne => hs ((h.steps_bit hm a b ha).2 ⟨hab, hne⟩)
      obtain ⟨k, hak, hkb⟩ := this
      have hk : k < m := bit_lt (h.olt a ha) hak
      have hkb' := (oth_bit C k b).1 hkb
      have hlt : C b < C k := sub_lt (fun j hj => h.on k b j hk hb hkb'.1 hj) (h.self k hk) (by
        cases hc : (C b).testBit k with
        | false => rfl
        | true => exact absurd (h.one k b hk hb hkb'.1 hc) hkb'.2)
      obtain ⟨k', hk', hs', hc'⟩ := h.first hm a ha n k (by omega) hk hak
      exact ⟨k', hk', hs', h.on k' k b hk' hk hc' hkb'.1⟩

/-- The steps come to all that the closure has. -/
theorem Ord.reach {m : Nat} {C : Nat → Nat} (h : Ord m C) (hm : m ≤ 12) : ∀ (n a b : Nat), C a < n → a < m → (C a).testBit b = true → Reach (listOf m (steps m C)) a b
  | 0, _, _, hn, _, _ => absurd hn (by omega)
  | n + 1, a, b, hn, ha, hab => by
    by_cases e : a = b
    · subst e; exact Reach.refl _ _
    · have hb : b < m := bit_lt (h.lt a ha) hab
      obtain ⟨k, hk, hs, hkb⟩ := h.first hm a ha (2 ^ m) b (by omega) hb ((oth_bit C a b).2 ⟨hab, e⟩)
      have hak := (oth_bit C a k).1 ((h.steps_bit hm a k ha).1 hs).1
      have hlt : C k < C a := sub_lt (fun j hj => h.on a k j ha hk hak.1 hj) (h.self a ha) (by
        cases hc : (C k).testBit a with
        | false => rfl
        | true => exact absurd (h.one a k ha hk hak.1 hc) hak.2)
      exact ((Reach.refl _ _).step (by rw [listOf_get _ ha]; exact hs)).trans (h.reach hm n k b (by omega) hk hkb)
/-- The steps come to nothing else. -/
theorem Ord.sound {m : Nat} {C D : Nat → Nat} (h : Ord m C) (hD : ∀ i, i < m → ∀ j, (D i).testBit j = true → (C i).testBit j = true) {a b : Nat} (ha : a < m) (hR : Reach (listOf m D) a b) : b < m ∧ (C a).testBit b = true :=
  hR (fun x => x < m ∧ (C a).testBit x = true) ⟨ha, h.self a ha⟩ fun i j ⟨hi, hc⟩ hb => by
    rw [listOf_get _ hi] at hb
    have := h.on a i j ha hi hc (hD i hi j hb)
    exact ⟨bit_lt (h.lt a ha) this, this⟩
theorem Ord.steps_sub {m : Nat} {C : Nat → Nat} (h : Ord m C) (hm : m ≤ 12) (i : Nat) (hi : i < m) (j : Nat) (hb : (steps m C i).testBit j = true) : (C i).testBit j = true :=
  ((oth_bit C i j).1 ((h.steps_bit hm i j hi).1 hb).1).1
theorem Ord.same {m : Nat} {C : Nat → Nat} (h : Ord m C) (hm : m ≤ 12) (i : Nat) (hi : i < m) : come m (listOf m (steps m C)) i = C i := by
  have hr := listOf_right hm (h.slt hm)
  refine eq_of_bits fun j => ?_
  rw [come_bit hr hi]
  exact ⟨fun hR => (h.sound (h.steps_sub hm) hi hR).2, fun hb => h.reach hm (C i + 1) i j (by omega) hi hb⟩

/-- Without a step less is come to. -/
theorem Ord.spared {m : Nat} {C : Nat → Nat} (h : Ord m C) (hm : m ≤ 12) (i j : Nat) (hi : i < m) (hs : (steps m C i).testBit j = true) :
    (come m (listOf m (upd (steps m C) i (less (steps m C i) (2 ^ j)))) i).testBit j = false := by
  have hD : ∀ x, x < m → ∀ y, (upd (steps m C) i (less (steps m C i) (2 ^ j)) x).testBit y = true → (steps m C x).testBit y = true ∧ ¬ (x = i ∧ y = j) := by
    intro x _ y hb
    by_cases e : x = i
    · subst e
      rw [upd_same, less_bit, Nat.testBit_two_pow] at hb
      simp at hb
      exact ⟨hb.1, fun ⟨_, e⟩ => hb.2 e.symm⟩
    · rw [upd_other _ e] at hb
      exact ⟨hb, fun ⟨e', _⟩ => e e'⟩
  have hl : ∀ x, x < m → upd (steps m C) i (less (steps m C i) (2 ^ j)) x < 2 ^ m := fun x hx =>
    lt_of_bits fun y hy => bit_lt (h.slt hm x hx) (hD x hx y hy).1
  have hr := listOf_right hm hl
  cases hc : (come m (listOf m (upd (steps m C) i (less (steps m C i) (2 ^ j)))) i).testBit j with
  | false => rfl
  | true =>
    exfalso
    have hR := (come_bit hr hi j).1 hc
    obtain ⟨hoi, hno⟩ := (h.steps_bit hm i j hi).1 hs
    have hij := (oth_bit C i j).1 hoi
    have key := hR (fun x => x = i ∨ ∃ k, k < m ∧ (upd (steps m C) i (less (steps m C i) (2 ^ j)) i).testBit k = true ∧ Reach (listOf m (upd (steps m C) i (less (steps m C i) (2 ^ j)))) k x) (.inl rfl) fun x y hx hb => by
      have hxm : x < m := by
        rcases hx with rfl | ⟨k, hk, _, hR'⟩
        · exact hi
        · exact hR'.lt hr hk
      rcases hx with rfl | ⟨k, hk, hb', hR'⟩
      · rw [listOf_get _ hi] at hb
        exact .inr ⟨y, bit_lt (hl _ hi) hb, hb, Reach.refl _ _⟩
      · exact .inr ⟨k, hk, hb', hR'.step hb⟩
    rcases key with e | ⟨k, hk, hb, hR'⟩
    · exact hij.2 e.symm
    · obtain ⟨hsk, hne⟩ := hD i hi k hb
      have hkj : (C k).testBit j = true := (h.sound (fun x hx y hy => h.steps_sub hm x hx y (hD x hx y hy).1) hk hR').2
      have hok := ((h.steps_bit hm i k hi).1 hsk).1
      have hkne : k ≠ j := fun e => hne ⟨rfl, e⟩
      exact hno ⟨k, hok, (oth_bit C k j).2 ⟨hkj, hkne⟩⟩

theorem ord_of {m : Nat} {rows : List Nat} (hr : Right m rows) (hn : noRing m (come m rows) = true) : Ord m (come m rows) where
  lt := fun _ hi => come_lt hr hi
  self := fun i hi => (come_bit hr hi i).2 (Reach.refl _ _)
  on := fun _ j k hi hj hb hc => (come_bit hr hi k).2 (((come_bit hr hi j).1 hb).trans ((come_bit hr hj k).1 hc))
  one := fun i j hi hj hb hc => Classical.byContradiction fun hne => by
    have := (noRing_iff m _).1 hn i j hi hj hne hb
    rw [hc] at this; cases this
theorem sub_pow (x j : Nat) (h : x.testBit j = true) : less x (2 ^ j) + 2 ^ j = x := by
  have hb : (less x (2 ^ j)).testBit j = false := by rw [less_bit, Nat.testBit_two_pow]; simp
  rw [with_bits _ _ hb]
  refine Nat.eq_of_testBit_eq fun k => ?_
  rw [Nat.testBit_or, less_bit, Nat.testBit_two_pow]
  by_cases e : j = k
  · subst e; rw [h]; simp
  · simp [e]
end Go.Proofs.YtomencagnppdcaaDoor
