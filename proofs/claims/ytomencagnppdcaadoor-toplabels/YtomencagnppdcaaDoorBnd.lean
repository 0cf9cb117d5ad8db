/- Plain facts on bounds: of all that are beyond two things the one that all of them are beyond; it is the only one where no two things are beyond each other. -/
import Derived.Test.YtomencagnppdcaaDoorSteps
import Derived.Test.YtomencagnppdcaaDoorTurned
namespace Go.Proofs.YtomencagnppdcaaDoor

/-- A thing is the bound of two: it is beyond both, and all that are beyond both are beyond it. -/
structure IsBnd (m : Nat) (D : Nat → Nat) (a b k : Nat) : Prop where
  lt : k < m
  one : (D a).testBit k = true
  two : (D b).testBit k = true
  all : ∀ j, j < m → (D a).testBit j = true → (D b).testBit j = true → (D k).testBit j = true
/-- The same, as a test. -/
def goodBnd (m : Nat) (D : Nat → Nat) (a b k : Nat) : Bool := (D a).testBit k && (D b).testBit k && (List.range m).all fun j => !(D a).testBit j || !(D b).testBit j || (D k).testBit j
theorem goodBnd_iff {m : Nat} {D : Nat → Nat} {a b k : Nat} (hk : k < m) : goodBnd m D a b k = true ↔ IsBnd m D a b k := by
  simp only [goodBnd, Bool.and_eq_true, List.all_eq_true, List.mem_range, Bool.or_eq_true, Bool.not_eq_true']
  constructor
  · rintro ⟨⟨h1, h2⟩, h3⟩
    refine ⟨hk, h1, h2, fun j hj ha hb => ?_⟩
    rcases h3 j hj with (h | h) | h
    · rw [ha] at h; cases h
    · rw [hb] at h; cases h
    · exact h
  · rintro ⟨_, h1, h2, h3⟩
    refine ⟨⟨h1, h2⟩, fun j hj => ?_⟩
    cases ha : (D a).testBit j with
    | false => exact .inl (.inl rfl)
    | true =>
      cases hb : (D b).testBit j with
      | false => exact .inl (.inr rfl)
      | true => exact .inr (h3 j hj ha hb)
/-- The bound of two things, if there is one. -/
def bnd (m : Nat) (D : Nat → Nat) (a b : Nat) : Option Nat := (List.range m).find? (goodBnd m D a b)

/-- What leads from each thing to those beyond it: to itself, on and on, and never back. -/
structure Lat (m : Nat) (D : Nat → Nat) : Prop where
  few : m ≤ 12
  lt : ∀ i, i < m → D i < 2 ^ m
  refl : ∀ i, i < m → (D i).testBit i = true
  trans : ∀ i j k, i < m → j < m → (D i).testBit j = true → (D j).testBit k = true → (D i).testBit k = true
  anti : ∀ i j, i < m → j < m → (D i).testBit j = true → (D j).testBit i = true → i = j

theorem IsBnd.one_only {m : Nat} {D : Nat → Nat} (h : Lat m D) {a b k l : Nat} (hk : IsBnd m D a b k) (hl : IsBnd m D a b l) : k = l :=
  h.anti k l hk.lt hl.lt (hk.all l hl.lt hl.one hl.two) (hl.all k hk.lt hk.one hk.two)
theorem bnd_some {m : Nat} {D : Nat → Nat} {a b k : Nat} (h : bnd m D a b = some k) : IsBnd m D a b k :=
  (goodBnd_iff (List.mem_range.1 (List.mem_of_find?_eq_some h))).1 (List.find?_some h)
theorem bnd_of {m : Nat} {D : Nat → Nat} (h : Lat m D) {a b k : Nat} (hk : IsBnd m D a b k) : bnd m D a b = some k := by
  cases e : bnd m D a b with
  | none => exact absurd ((goodBnd_iff hk.lt).2 hk) (by simpa using List.find?_eq_none.1 e k (List.mem_range.2 hk.lt))
  | some l => rw [(bnd_some e).one_only h hk]
theorem bnd_none {m : Nat} {D : Nat → Nat} {a b : Nat} (h : ∀ k, ¬ IsBnd m D a b k) : bnd m D a b = none := by
  cases e : bnd m D a b with
  | none => rfl
  | some l => exact absurd (bnd_some e) (h l)
theorem IsBnd.swap {m : Nat} {D : Nat → Nat} {a b k : Nat} (h : IsBnd m D a b k) : IsBnd m D b a k := ⟨h.lt, h.two, h.one, fun j hj ha hb => h.all j hj hb ha⟩
theorem bnd_swap {m : Nat} {D : Nat → Nat} (h : Lat m D) (a b : Nat) : bnd m D a b = bnd m D b a := by
  cases e : bnd m D b a with
  | none => exact bnd_none fun k hk => by rw [bnd_of h hk.swap] at e; cases e
  | some l => exact bnd_of h (bnd_some e).swap
/-- Who is beyond is the bound. -/
theorem IsBnd.beyond {m : Nat} {D : Nat → Nat} (h : Lat m D) {a b : Nat} (hb : b < m) (hab : (D a).testBit b = true) : IsBnd m D a b b :=
  ⟨hb, hab, h.refl b hb, fun _ _ _ hj => hj⟩
theorem bnd_self {m : Nat} {D : Nat → Nat} (h : Lat m D) {a : Nat} (ha : a < m) : bnd m D a a = some a := bnd_of h (IsBnd.beyond h ha (h.refl a ha))

/-- Have any two things a bound? -/
def allBnd (m : Nat) (D : Nat → Nat) : Bool := (List.range m).all fun a => (List.range m).all fun b => (bnd m D a b).isSome
theorem allBnd_iff (m : Nat) (D : Nat → Nat) : allBnd m D = true ↔ ∀ a b, a < m → b < m → (bnd m D a b).isSome = true := by
  simp only [allBnd, List.all_eq_true, List.mem_range]
  exact ⟨fun h a b ha hb => h a ha b hb, fun h a ha b hb => h a b ha hb⟩
/-- It is enough to ask it of two of which the first comes later. -/
theorem allBnd_of {m : Nat} {D : Nat → Nat} (h : Lat m D) (hp : ∀ a b, a < m → b < a → (bnd m D a b).isSome = true) : allBnd m D = true := by
  refine (allBnd_iff m D).2 fun a b ha hb => ?_
  rcases Nat.lt_trichotomy a b with e | e | e
  · rw [bnd_swap h]; exact hp b a hb e
  · subst e; rw [bnd_self h ha]; rfl
  · exact hp a b ha e

theorem lat_of {m : Nat} {rows : List Nat} (hr : Right m rows) (hn : noRing m (come m rows) = true) : Lat m (come m rows) where
  few := hr.1
  lt := fun _ hi => come_lt hr hi
  refl := fun i hi => (come_bit hr hi i).2 (Reach.refl _ _)
  trans := fun i j k hi hj h1 h2 => (come_bit hr hi k).2 (((come_bit hr hi j).1 h1).trans ((come_bit hr hj k).1 h2))
  anti := fun i j hi hj h1 h2 => by
    by_cases e : i = j
    · exact e
    · have := (noRing_iff m (come m rows)).1 hn i j hi hj e h1
      rw [this] at h2; cases h2
theorem lat_turn {m : Nat} {D : Nat → Nat} (h : Lat m D) : Lat m (turnN m D) where
  few := h.few
  lt := fun _ _ => turnN_lt _ _ _
  refl := fun i hi => (turnN_bit m D i i).2 ⟨hi, h.refl i hi⟩
  trans := fun i j k _ _ h1 h2 => by
    have a := (turnN_bit m D i j).1 h1
    have b := (turnN_bit m D j k).1 h2
    exact (turnN_bit m D i k).2 ⟨b.1, h.trans k j i b.1 a.1 b.2 a.2⟩
  anti := fun i j hi hj h1 h2 => by
    have a := (turnN_bit m D i j).1 h1
    have b := (turnN_bit m D j i).1 h2
    exact h.anti i j hi hj b.2 a.2

theorem less_none {x y : Nat} : less x y = 0 ↔ ∀ j, x.testBit j = true → y.testBit j = true := by
  constructor
  · intro h j hx
    have := congrArg (fun z => z.testBit j) h
    simp only [less_bit, hx, Bool.true_and, Nat.zero_testBit] at this
    simpa using this
  · intro h
    refine Nat.eq_of_testBit_eq fun j => ?_
    rw [less_bit, Nat.zero_testBit]
    have := h j
    cases hx : x.testBit j <;> simp_all
theorem isBnd_less {m : Nat} {D : Nat → Nat} (h : Lat m D) {a b k : Nat} (ha : a < m) (hb : (D a &&& D b).testBit k = true) : IsBnd m D a b k ↔ less (D a &&& D b) (D k) = 0 := by
  rw [Nat.testBit_and, Bool.and_eq_true] at hb
  rw [less_none]
  constructor
  · intro hk j hj
    rw [Nat.testBit_and, Bool.and_eq_true] at hj
    exact hk.all j (bit_lt (h.lt a ha) hj.1) hj.1 hj.2
  · intro hk
    exact ⟨bit_lt (h.lt a ha) hb.1, hb.1, hb.2, fun j _ h1 h2 => hk j (by rw [Nat.testBit_and, h1, h2]; rfl)⟩
theorem IsBnd.bit {m : Nat} {D : Nat → Nat} {a b k : Nat} (h : IsBnd m D a b k) : (D a &&& D b).testBit k = true := by
  rw [Nat.testBit_and, h.one, h.two]; rfl
end Go.Proofs.YtomencagnppdcaaDoor
