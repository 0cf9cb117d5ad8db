/- Plain facts on roles: how many things a set has, the set that is least, what comes with roles, and what is wrong with them. -/
import Derived.Test.YtolpkjemgdapgaaDoorRefs
import Derived.Test.YtolpkjemgdapgaaDoorGen
namespace Go.Proofs.YtolpkjemgdapgaaDoor
open Go.RowKit
set_option maxRecDepth 100000

/-- How many things a set has: bit by bit. -/
def popF : Nat → Nat → Nat
  | 0, _ => 0
  | k + 1, x => x % 2 + popF k (x / 2)
def pop (x : Nat) : Nat := popF 63 x
theorem popF_more : ∀ (k x : Nat), x < 2 ^ k → popF (k + 1) x = popF k x
  | 0, x, h => by
    obtain rfl : x = 0 := by simp at h; omega
    rfl
  | k + 1, x, h => by
    show x % 2 + popF (k + 1) (x / 2) = x % 2 + popF k (x / 2)
    rw [popF_more k (x / 2) (by rw [Nat.pow_succ] at h; omega)]
theorem pop_half (x : Nat) (h : x < 2 ^ 63) : pop x = x % 2 + pop (x / 2) := by
  show x % 2 + popF 62 (x / 2) = x % 2 + popF 63 (x / 2)
  rw [popF_more 62 (x / 2) (by omega)]
theorem pop_zero : pop 0 = 0 := by decide
theorem popF_le : ∀ (k x : Nat), popF k x ≤ k
  | 0, _ => Nat.le_refl 0
  | k + 1, x => by
    show x % 2 + popF k (x / 2) ≤ k + 1
    have := popF_le k (x / 2)
    omega
theorem popF_up {m x : Nat} (h : x < 2 ^ m) : ∀ j, popF (m + j) x = popF m x
  | 0 => rfl
  | j + 1 => by
    rw [← Nat.add_assoc, popF_more (m + j) x (Nat.lt_of_lt_of_le h (Nat.pow_le_pow_right (by decide) (by omega)))]
    exact popF_up h j
theorem pop_le {m x : Nat} (hm : m ≤ 63) (h : x < 2 ^ m) : pop x ≤ m := by
  have := popF_up h (63 - m)
  rw [show m + (63 - m) = 63 by omega] at this
  show popF 63 x ≤ m
  rw [this]
  exact popF_le m x
theorem popF_sub : ∀ (k a b : Nat), a < 2 ^ k → b < 2 ^ k → subB a b = true → popF k a ≤ popF k b ∧ (popF k a = popF k b → a = b)
  | 0, a, b, ha, hb, _ => by
    simp at ha hb
    subst ha; subst hb
    exact ⟨Nat.le_refl _, fun _ => rfl⟩
  | k + 1, a, b, ha, hb, h => by
    rw [subB_half, Bool.and_eq_true, decide_eq_true_eq] at h
    rw [Nat.pow_succ] at ha hb
    obtain ⟨h1, h2⟩ := popF_sub k (a / 2) (b / 2) (by omega) (by omega) h.2
    show a % 2 + popF k (a / 2) ≤ b % 2 + popF k (b / 2) ∧ (a % 2 + popF k (a / 2) = b % 2 + popF k (b / 2) → a = b)
    have h3 := h.1
    refine ⟨by omega, fun e => ?_⟩
    have e2 := h2 (by omega)
    omega
theorem pop_sub {a b : Nat} (hb : b < 4096) (h : subB a b = true) : pop a ≤ pop b ∧ (pop a = pop b → a = b) := by
  have ha : a ≤ b := by
    have : a &&& b = a := by simpa [subB] using h
    rw [← this]; exact Nat.and_le_right
  exact popF_sub 63 a b (by omega) (by omega) h
theorem sub_le {a b : Nat} (h : subB a b = true) : a ≤ b := by
  have : a &&& b = a := by simpa [subB] using h
  rw [← this]; exact Nat.and_le_right
theorem sub_refl (a : Nat) : subB a a = true := (subB_iff a a).2 fun _ h => h
theorem sub_trans {a b c : Nat} (h : subB a b = true) (k : subB b c = true) : subB a c = true := (subB_iff a c).2 fun j hj => (subB_iff b c).1 k j ((subB_iff a b).1 h j hj)
theorem less_zero (a b : Nat) : (less a b == 0) = subB a b := by
  rw [Bool.eq_iff_iff, beq_iff_eq, subB_iff]
  constructor
  · intro h j ha
    have := less_bit a b j
    rw [h, Nat.zero_testBit, ha] at this
    simpa using this.symm
  · intro h
    refine Nat.eq_of_testBit_eq fun j => ?_
    rw [less_bit, Nat.zero_testBit]
    cases ha : a.testBit j with
    | false => rfl
    | true => rw [h j ha]; rfl

/-- The set with the fewest things of those with which it is so, of several the least number. -/
def IsFew (P : Nat → Bool) (n : Nat) : Prop := P n = true ∧ ∀ s, P s = true → pop n < pop s ∨ (pop n = pop s ∧ n ≤ s)
theorem IsFew.one {P : Nat → Bool} {n k : Nat} (h : IsFew P n) (g : IsFew P k) : n = k := by
  have a := h.2 k g.1
  have b := g.2 n h.1
  omega
/-- The best set so far. -/
def fewN (P : Nat → Bool) (all : Nat) : Nat → Nat
  | 0 => all
  | k + 1 => if P k = true ∧ pop k < pop (fewN P all k) then k else fewN P all k
theorem fewN_in {P : Nat → Bool} {all : Nat} (ha : P all = true) : ∀ k, P (fewN P all k) = true
  | 0 => ha
  | k + 1 => by
    unfold fewN
    split
    · rename_i h; exact h.1
    · exact fewN_in ha k
theorem fewN_best {P : Nat → Bool} {all : Nat} (hl : all < 4096) (ha : P all = true) (hs : ∀ s, P s = true → subB s all = true) :
    ∀ k, k ≤ all → (fewN P all k = all ∨ fewN P all k < k) ∧ ∀ s, s < k → P s = true → pop (fewN P all k) < pop s ∨ (pop (fewN P all k) = pop s ∧ fewN P all k ≤ s)
  | 0, _ => ⟨.inl rfl, fun s h => absurd h (by omega)⟩
  | k + 1, hk => by
    obtain ⟨h1, h2⟩ := fewN_best hl ha hs k (by omega)
    unfold fewN
    split
    · rename_i h
      refine ⟨.inr (by omega), fun s hsk hp => ?_⟩
      by_cases e : s = k
      · subst e; exact .inr ⟨rfl, Nat.le_refl _⟩
      · have := h2 s (by omega) hp
        omega
    · rename_i h
      refine ⟨by omega, fun s hsk hp => ?_⟩
      by_cases e : s = k
      · subst e
        have h3 : ¬ pop s < pop (fewN P all s) := fun q => h ⟨hp, q⟩
        rcases h1 with h1 | h1
        · exfalso
          obtain ⟨h4, h5⟩ := pop_sub hl (hs s hp)
          rw [h1] at h3
          have := h5 (by omega)
          omega
        · omega
      · exact h2 s (by omega) hp
theorem fewN_few {P : Nat → Bool} {all : Nat} (hl : all < 4096) (ha : P all = true) (hs : ∀ s, P s = true → subB s all = true) : IsFew P (fewN P all all) := by
  obtain ⟨h1, h2⟩ := fewN_best hl ha hs all (Nat.le_refl _)
  refine ⟨fewN_in ha all, fun s hp => ?_⟩
  by_cases e : s < all
  · exact h2 s e hp
  · have hle := sub_le (hs s hp)
    obtain rfl : s = all := by omega
    obtain ⟨h4, h5⟩ := pop_sub hl (hs _ (fewN_in (all := s) ha s))
    by_cases q : pop (fewN P s s) = pop s
    · exact .inr ⟨q, Nat.le_of_eq (h5 q)⟩
    · exact .inl (by omega)

theorem stepN_sub {n : Nat} {rows : List Nat} (hn : n ≤ 12) {a b : Nat} (ha : a < 2 ^ n) (hb : b < 2 ^ n) (h : subB a b = true) : subB (stepN n rows a) (stepN n rows b) = true :=
  (subB_iff _ _).2 fun j hj => by
    obtain ⟨i, h1, h2⟩ := (stepN_bit hn ha j).1 hj
    exact (stepN_bit hn hb j).2 ⟨i, (subB_iff a b).1 h i h1, h2⟩
theorem listOf_lt {m : Nat} {f : Nat → Nat} {B : Nat} (h0 : 0 < B) (hf : ∀ i, i < m → f i < B) (i : Nat) : (listOf m f).getD i 0 < B := by
  by_cases hi : i < m
  · rw [listOf_get f hi]; exact hf i hi
  · have : (listOf m f).getD i 0 = 0 := by simp [listOf, hi]
    omega
/-- What a step over what comes with each thing leads to is what a step from what comes leads to. -/
theorem bring_step {m : Nat} (hm : m ≤ 12) {C : Nat → Nat} (hC : ∀ i, i < m → C i < 2 ^ m) (may : List Nat) {set : Nat} (hs : set < 2 ^ m) :
    stepN m (listOf m fun i => stepN m may (C i)) set = stepN m may (stepN m (listOf m C) set) := by
  have hl : stepN m (listOf m C) set < 2 ^ m := stepN_lt (listOf_right hm hC) set
  refine eq_of_bits fun j => ?_
  rw [stepN_bit hm hs, stepN_bit hm hl]
  constructor
  · rintro ⟨i, h1, h2⟩
    have hi := bit_lt hs h1
    rw [listOf_get _ hi, stepN_bit hm (hC i hi)] at h2
    obtain ⟨k, h3, h4⟩ := h2
    exact ⟨k, (stepN_bit hm hs k).2 ⟨i, h1, by rw [listOf_get _ hi]; exact h3⟩, h4⟩
  · rintro ⟨k, h1, h2⟩
    obtain ⟨i, h3, h4⟩ := (stepN_bit hm hs k).1 h1
    have hi := bit_lt hs h3
    rw [listOf_get _ hi] at h4
    exact ⟨i, h3, by rw [listOf_get _ hi, stepN_bit hm (hC i hi)]; exact ⟨k, h4, h2⟩⟩

/-- All n numbers are sets of k things. -/
def allG (k n : Nat) (zs : List Int) : Bool := (List.range n).all fun i => goodB k (zs[i]?.getD 0)
theorem goodB_iff (m : Nat) (z : Int) : goodB m z = true ↔ Good m z := by unfold goodB Good; simp
theorem allG_iff (k n : Nat) (zs : List Int) : allG k n zs = true ↔ ∀ i, i < n → Good k (zs[i]?.getD 0) := by
  simp only [allG, List.all_eq_true, List.mem_range, goodB_iff]
theorem allG_no {k n i : Nat} {zs : List Int} (hi : i < n) (h : ¬ Good k (zs[i]?.getD 0)) : allG k n zs = false := by
  cases e : allG k n zs with
  | false => rfl
  | true => exact absurd ((allG_iff k n zs).1 e i hi) h

/-- Roles as plain numbers. -/
structure Rol where
  mu : Nat
  us : List Int
  m : Nat
  ab : List Int
  mm : Nat
  ma : List Int
  few : Int
  most : Int
/-- Of each role those that come with it. -/
def Rol.C (R : Rol) : Nat → Nat := come R.m (rowsOf R.m R.ab)
/-- All roles of a set, with those that come with them. -/
def Rol.has (R : Rol) (set : Nat) : Nat := stepN R.m (listOf R.m R.C) set
/-- All tasks of a set of roles. -/
def Rol.may (R : Rol) : List Nat := rowsOf R.m R.ma
def Rol.tasks (R : Rol) (set : Nat) : Nat := stepN R.m R.may (R.has set)
def Rol.own (R : Rol) (u : Nat) : Nat := (R.us[u]?.getD 0).toNat
/-- Has a user too many of some roles? -/
def Rol.overU (R : Rol) (u : Nat) : Bool := decide (R.most < (pop (R.has (R.own u) &&& R.few.toNat) : Nat))
def Rol.over (R : Rol) : Bool := (List.range R.mu).any R.overU
/-- What is wrong with roles. -/
def Rol.code (R : Rol) : Int :=
  if 8 < R.mu ∨ 8 < R.m then 4
  else if R.mm ≠ R.m then 3
  else if allG R.m R.mu R.us = false then 1
  else if allG R.m R.m R.ab = false then 1
  else if noRing R.m R.C = false then 6
  else if allG 10 R.m R.ma = false ∨ goodB R.m R.few = false ∨ R.most < 0 ∨ 8 < R.most then 1
  else if R.over = true then 7
  else 0
/-- Nothing is wrong but that a user may have too many. -/
structure Rol.Most (R : Rol) : Prop where
  mu8 : R.mu ≤ 8
  m8 : R.m ≤ 8
  mm : R.mm = R.m
  us : ∀ i, i < R.mu → Good R.m (R.us[i]?.getD 0)
  ab : ∀ i, i < R.m → Good R.m (R.ab[i]?.getD 0)
  ring : noRing R.m R.C = true
  ma : ∀ i, i < R.m → Good 10 (R.ma[i]?.getD 0)
  few : Good R.m R.few
  m0 : 0 ≤ R.most
  m1 : R.most ≤ 8
structure Rol.Ok (R : Rol) : Prop extends R.Most where
  over : R.over = false
theorem Rol.code_over {R : Rol} (h : R.Most) : R.code = if R.over = true then 7 else 0 := by
  unfold Rol.code
  have h1 := h.mu8
  have h2 := h.m8
  have h3 := h.m0
  have h4 := h.m1
  rw [if_neg (by omega), if_neg (by rw [h.mm]; simp), if_neg (by rw [(allG_iff _ _ _).2 h.us]; simp), if_neg (by rw [(allG_iff _ _ _).2 h.ab]; simp), if_neg (by rw [h.ring]; simp),
    if_neg (by rw [(allG_iff _ _ _).2 h.ma]; rw [goodB_yes h.few]; simp only [Bool.true_eq_false, false_or]; omega)]
theorem Rol.code_ok {R : Rol} (h : R.Ok) : R.code = 0 := by rw [Rol.code_over h.toMost, h.over]; rfl
theorem Rol.ok_of {R : Rol} (h : R.code = 0) : R.Ok := by
  unfold Rol.code at h
  split at h
  · omega
  rename_i h1
  split at h
  · omega
  rename_i h2
  split at h
  · omega
  rename_i h3
  split at h
  · omega
  rename_i h4
  split at h
  · omega
  rename_i h5
  split at h
  · omega
  rename_i h6
  split at h
  · omega
  rename_i h7
  rw [not_or, not_or, not_or, Bool.not_eq_false] at h6
  exact ⟨⟨by omega, by omega, by omega, (allG_iff _ _ _).1 (by simpa using h3), (allG_iff _ _ _).1 (by simpa using h4), by simpa using h5, (allG_iff _ _ _).1 h6.1, (goodB_iff _ _).1 (by simpa using h6.2.1), by omega, by omega⟩, by simpa using h7⟩
theorem Rol.code_in (R : Rol) : 0 ≤ R.code ∧ R.code ≤ 7 := by
  unfold Rol.code
  repeat' split
  all_goals omega
section
variable {R : Rol}
theorem Rol.Most.n12 (h : R.Most) : R.m ≤ 12 := by have := h.m8; omega
theorem Rol.Most.C_lt (h : R.Most) (hz : R.m ≤ R.ab.length) : ∀ i, i < R.m → R.C i < 2 ^ R.m := fun _ hi => come_lt (rowsOf_right h.n12 hz h.ab) hi
theorem Rol.Most.has_lt (h : R.Most) (hz : R.m ≤ R.ab.length) (set : Nat) : R.has set < 2 ^ R.m := stepN_lt (listOf_right h.n12 (h.C_lt hz)) set
theorem pow8 {n : Nat} (hn : n ≤ 8) : 2 ^ n ≤ 256 := Nat.pow_le_pow_right (n := 2) (by decide) hn
theorem Rol.Most.own_lt (h : R.Most) {u : Nat} (hu : u < R.mu) : R.own u < 2 ^ R.m := by
  have := h.us u hu
  unfold Good at this
  unfold Rol.own
  omega
theorem rowsOf_any {k m : Nat} {zs : List Int} (h : ∀ i, i < m → Good k (zs[i]?.getD 0)) {i : Nat} (hi : i < m) : ((rowsOf m zs).getD i 0 : Int) = zs[i]?.getD 0 := by
  have := (h i hi).1
  unfold rowsOf
  rw [List.getD_eq_getElem?_getD, List.getElem?_map, List.getElem?_take, if_pos hi]
  cases hz : zs[i]? with
  | none => simp
  | some z => rw [hz] at this; simp at this ⊢; omega
theorem rowsOf_lt {k m : Nat} {zs : List Int} (h : ∀ i, i < m → Good k (zs[i]?.getD 0)) (i : Nat) : (rowsOf m zs).getD i 0 < 2 ^ k := by
  by_cases hi : i < m
  · have a := rowsOf_any h hi
    have b := (h i hi).2
    omega
  · have : (rowsOf m zs).getD i 0 = 0 := by
      unfold rowsOf
      rw [List.getD_eq_getElem?_getD, List.getElem?_map, List.getElem?_take, if_neg hi]; rfl
    rw [this]
    exact Nat.two_pow_pos k
theorem Rol.Most.may_lt (h : R.Most) (i : Nat) : R.may.getD i 0 < 1024 := rowsOf_lt h.ma i
theorem stepN_ltk {n k : Nat} {rows : List Nat} (hr : ∀ i, rows.getD i 0 < 2 ^ k) (set : Nat) : stepN n rows set < 2 ^ k := lt_of_bits fun j hj => by
  obtain ⟨i, _, hb⟩ := (orAll_bit rows _ j).1 hj
  exact bit_lt (hr i.1) hb
theorem Rol.Most.tasks_lt (h : R.Most) (set : Nat) : R.tasks set < 1024 := stepN_ltk (k := 10) h.may_lt _
/-- All that comes with roles has what comes with it. -/
theorem Rol.Most.has_sub (h : R.Most) (hz : R.m ≤ R.ab.length) {set : Nat} (hs : set < 2 ^ R.m) : subB set (R.has set) = true := (subB_iff _ _).2 fun j hj => by
  have hj' := bit_lt hs hj
  refine (stepN_bit h.n12 hs j).2 ⟨j, hj, ?_⟩
  rw [listOf_get _ hj']
  exact (come_bit (rowsOf_right h.n12 hz h.ab) hj' j).2 (Reach.refl _ _)
theorem Rol.Most.has_has (h : R.Most) (hz : R.m ≤ R.ab.length) {set : Nat} (hs : set < 2 ^ R.m) : R.has (R.has set) = R.has set := eq_of_bits fun j => by
  have hr := rowsOf_right h.n12 hz h.ab
  constructor
  · intro hj
    obtain ⟨i, h1, h2⟩ := (stepN_bit h.n12 (h.has_lt hz set) j).1 hj
    obtain ⟨k, h3, h4⟩ := (stepN_bit h.n12 hs i).1 h1
    have hk := bit_lt hs h3
    have hi := bit_lt (h.has_lt hz set) h1
    rw [listOf_get _ hk] at h4
    rw [listOf_get _ hi] at h2
    refine (stepN_bit h.n12 hs j).2 ⟨k, h3, ?_⟩
    rw [listOf_get _ hk]
    exact (come_bit hr hk j).2 (((come_bit hr hk i).1 h4).trans ((come_bit hr hi j).1 h2))
  · intro hj
    exact (subB_iff _ _).1 (h.has_sub hz (h.has_lt hz set)) j hj
theorem Rol.Most.has_mono (h : R.Most) {a b : Nat} (ha : a < 2 ^ R.m) (hb : b < 2 ^ R.m) (q : subB a b = true) : subB (R.has a) (R.has b) = true := stepN_sub h.n12 ha hb q
theorem Rol.Most.tasks_mono (h : R.Most) (hz : R.m ≤ R.ab.length) {a b : Nat} (ha : a < 2 ^ R.m) (hb : b < 2 ^ R.m) (q : subB a b = true) : subB (R.tasks a) (R.tasks b) = true :=
  stepN_sub h.n12 (h.has_lt hz a) (h.has_lt hz b) (h.has_mono ha hb q)
/-- Is a set of roles of those, and has it all tasks that are wanted? -/
def Rol.okB (R : Rol) (all want s : Nat) : Bool := subB s all && subB want (R.tasks s)
theorem Rol.ok_sub (R : Rol) (all want : Nat) : ∀ s, R.okB all want s = true → subB s all = true := fun s h => by
  unfold Rol.okB at h
  rw [Bool.and_eq_true] at h
  exact h.1
/-- Where all of the roles have not all that is wanted, none have. -/
theorem Rol.Most.none_of (h : R.Most) (hz : R.m ≤ R.ab.length) {all want : Nat} (ha : all < 2 ^ R.m) (q : subB want (R.tasks all) = false) (s : Nat) : R.okB all want s = false := by
  cases e : R.okB all want s with
  | false => rfl
  | true =>
    unfold Rol.okB at e
    rw [Bool.and_eq_true] at e
    have hs : s < 2 ^ R.m := Nat.lt_of_le_of_lt (sub_le e.1) ha
    have := sub_trans e.2 (h.tasks_mono hz hs ha e.1)
    rw [q] at this; cases this
end
/-- The fewest roles for tasks. -/
def Rol.need (R : Rol) (u want : Nat) : Nat := fewN (R.okB (R.has (R.own u)) want) (R.has (R.own u)) (R.has (R.own u))
end Go.Proofs.YtolpkjemgdapgaaDoor
