/- Grants: as plain numbers. What is wrong with a list of grants, who has the right by it, what is left when some are struck. -/
import Derived.WalkKit
import Derived.Test.YtoecomgiggalkaaDoorLsto
namespace Go.Proofs.YtoecomgiggalkaaDoor
open Go.RowKit

/-- A grant. -/
structure Giv where
  fr : Int
  to : Int
  tm : Int
/-- The grants of a list by their place. -/
def nthV (l : List Giv) (i : Nat) : Giv := l.getD i ⟨0, 0, 0⟩
theorem nthV_app {l : List Giv} (m : List Giv) {i : Nat} (h : i < l.length) : nthV (l ++ m) i = nthV l i := by
  simp [nthV, List.getD_eq_getElem?_getD, List.getElem?_append_left h]
theorem nthV_at (l m : List Giv) (g : Giv) : nthV (l ++ g :: m) l.length = g := by simp [nthV]
theorem nthV_take (l : List Giv) {i k : Nat} (h : i < k) : nthV (l.take k) i = nthV l i := by simp [nthV, List.getD_eq_getElem?_getD, h]
theorem nthV_get {l : List Giv} {i : Nat} (h : i < l.length) : nthV l i = l[i] := by simp [nthV, h]
theorem gtake_snoc (l : List Giv) {k : Nat} (h : k < l.length) : l.take (k + 1) = l.take k ++ [nthV l k] := by
  rw [List.take_add_one, List.getElem?_eq_getElem h, nthV_get h]; rfl
theorem nthV_mk (S : Nat → Giv) {n i : Nat} (h : i < n) : nthV ((List.range n).map S) i = S i := by simp [nthV, h]

/-- Who has the right by grants, as a set. -/
def setL (l : List Giv) : Nat := l.foldl (fun s g => s ||| 2 ^ g.to.toNat) 1
theorem setL_nil : setL [] = 1 := rfl
theorem setL_snoc (l : List Giv) (g : Giv) : setL (l ++ [g]) = setL l ||| 2 ^ g.to.toNat := by simp [setL]
theorem setL_bit0 (l : List Giv) : ∀ s : Nat, s.testBit 0 = true → (l.foldl (fun s (g : Giv) => s ||| 2 ^ g.to.toNat) s).testBit 0 = true := by
  induction l with
  | nil => intro s h; exact h
  | cons g l ih => intro s h; exact ih _ (by rw [Nat.testBit_or, h]; rfl)
theorem setL_zero (l : List Giv) : (setL l).testBit 0 = true := setL_bit0 l 1 (by decide)
/-- The last time. -/
def lastL (l : List Giv) : Int := l.foldl (fun _ g => g.tm) (-1)
theorem lastL_snoc (l : List Giv) (g : Giv) : lastL (l ++ [g]) = g.tm := by simp [lastL]

/-- What is wrong with one grant more. -/
def gNextC (users : Int) (g : Giv) (set : Nat) (last : Int) : Int :=
  if g.fr < 0 ∨ users ≤ g.fr ∨ g.to < 0 ∨ users ≤ g.to ∨ g.tm < 0 ∨ 999999 < g.tm then 1 else if g.tm ≤ last then 3 else if set.testBit g.fr.toNat = true then 0 else 7
/-- A grant that is right behind others. -/
structure GNext (users : Int) (g : Giv) (set : Nat) (last : Int) : Prop where
  f0 : 0 ≤ g.fr
  f1 : g.fr < users
  t0 : 0 ≤ g.to
  t1 : g.to < users
  m0 : 0 ≤ g.tm
  m1 : g.tm ≤ 999999
  up : last < g.tm
  bit : set.testBit g.fr.toNat = true
theorem gNextC_iff (users : Int) (g : Giv) (set : Nat) (last : Int) : gNextC users g set last = 0 ↔ GNext users g set last := by
  unfold gNextC
  constructor
  · intro h
    split at h
    · omega
    · rename_i h1
      split at h
      · omega
      · split at h
        · rename_i h3; exact ⟨by omega, by omega, by omega, by omega, by omega, by omega, by omega, h3⟩
        · omega
  · intro h
    rw [if_neg (by have := h.f0; have := h.f1; have := h.t0; have := h.t1; have := h.m0; have := h.m1; omega), if_neg (by have := h.up; omega), if_pos h.bit]

/-- Of so many codes the first that is not 0. -/
def fst0 (c : Nat → Int) : Nat → Int
  | 0 => 0
  | n + 1 => if fst0 c n = 0 then c n else fst0 c n
theorem fst0_none {c : Nat → Int} {n : Nat} (h : ∀ j, j < n → c j = 0) : fst0 c n = 0 := by
  induction n with
  | zero => rfl
  | succ n ih => rw [fst0, if_pos (ih fun j hj => h j (by omega))]; exact h n (by omega)
theorem fst0_hit {c : Nat → Int} {n k : Nat} (h : ∀ j, j < k → c j = 0) (hk : k < n) (hc : c k ≠ 0) : fst0 c n = c k := by
  induction n with
  | zero => omega
  | succ n ih =>
    by_cases e : k = n
    · subst e; rw [fst0, if_pos (fst0_none h)]
    · have := ih (by omega)
      rw [fst0, if_neg (by rw [this]; exact hc), this]
theorem fst0_zero {c : Nat → Int} {n : Nat} (h : fst0 c n = 0) : ∀ j, j < n → c j = 0 := by
  induction n with
  | zero => intro j hj; omega
  | succ n ih =>
    rw [fst0] at h
    split at h
    · rename_i h0
      intro j hj
      by_cases e : j = n
      · subst e; exact h
      · exact ih h0 j (by omega)
    · rename_i h0; exact absurd h h0

/-- What is wrong with a grant of a list, with all. -/
def atC (users : Int) (l : List Giv) (k : Nat) : Int := gNextC users (nthV l k) (setL (l.take k)) (lastL (l.take k))
def givC (users : Int) (l : List Giv) : Int := if users < 1 ∨ 8 < users then 1 else if 40 < l.length then 4 else fst0 (atC users l) l.length
/-- A list of grants that is right. -/
structure GOk (users : Int) (l : List Giv) : Prop where
  u0 : 1 ≤ users
  u1 : users ≤ 8
  len : l.length ≤ 40
  each : ∀ k, k < l.length → GNext users (nthV l k) (setL (l.take k)) (lastL (l.take k))
theorem givC_iff (users : Int) (l : List Giv) : givC users l = 0 ↔ GOk users l := by
  unfold givC
  constructor
  · intro h
    split at h
    · omega
    · split at h
      · omega
      · exact ⟨by omega, by omega, by omega, fun k hk => (gNextC_iff _ _ _ _).1 (fst0_zero h k hk)⟩
  · intro h
    have := h.u0; have := h.u1; have := h.len
    rw [if_neg (by omega), if_neg (by omega)]
    exact fst0_none fun k hk => (gNextC_iff _ _ _ _).2 (h.each k hk)
theorem GOk.nil {users : Int} (h0 : 1 ≤ users) (h1 : users ≤ 8) : GOk users [] := ⟨h0, h1, by decide, fun k hk => absurd hk (by simp)⟩
theorem gok_snoc {users : Int} {l : List Giv} {g : Giv} : GOk users (l ++ [g]) ↔ GOk users l ∧ l.length < 40 ∧ GNext users g (setL l) (lastL l) := by
  constructor
  · intro h
    have hl := h.len
    rw [List.length_append] at hl
    simp only [List.length_singleton] at hl
    refine ⟨⟨h.u0, h.u1, by omega, fun k hk => ?_⟩, by omega, ?_⟩
    · have := h.each k (by rw [List.length_append]; omega)
      rw [nthV_app _ hk, List.take_append_of_le_length (by omega)] at this
      exact this
    · have := h.each l.length (by simp)
      rw [nthV_at, List.take_left'  rfl] at this
      exact this
  · rintro ⟨h, hl, hn⟩
    refine ⟨h.u0, h.u1, by simp; omega, fun k hk => ?_⟩
    rw [List.length_append] at hk
    simp only [List.length_singleton] at hk
    by_cases e : k = l.length
    · subst e
      rw [nthV_at, List.take_left' rfl]
      exact hn
    · have hk' : k < l.length := by omega
      rw [nthV_app _ hk', List.take_append_of_le_length (by omega)]
      exact h.each k hk'
theorem GOk.take {users : Int} {l : List Giv} (h : GOk users l) (k : Nat) : GOk users (l.take k) := by
  refine ⟨h.u0, h.u1, Nat.le_trans (by simp; omega) h.len, fun j hj => ?_⟩
  have hj' : j < k ∧ j < l.length := by rw [List.length_take] at hj; omega
  rw [nthV_take _ hj'.1, List.take_take, Nat.min_eq_left (by omega)]
  exact h.each j hj'.2
/-- Who has the right is one of the users. -/
theorem setL_lt {l : List Giv} (h : ∀ g ∈ l, 0 ≤ g.to ∧ g.to < 8) : setL l < 256 := by
  have : ∀ (l : List Giv), (∀ g ∈ l, 0 ≤ g.to ∧ g.to < 8) → ∀ s : Nat, s < 2 ^ 8 → l.foldl (fun s (g : Giv) => s ||| 2 ^ g.to.toNat) s < 2 ^ 8 := by
    intro l
    induction l with
    | nil => intro _ s hs; exact hs
    | cons g l ih =>
      intro h s hs
      refine ih (fun x hx => h x (List.mem_cons_of_mem _ hx)) _ ?_
      have := h g List.mem_cons_self
      exact Nat.or_lt_two_pow hs (Nat.pow_lt_pow_right (by decide) (by omega))
  exact this l h 1 (by decide)
theorem GOk.mem {users : Int} {l : List Giv} (h : GOk users l) : ∀ g ∈ l, 0 ≤ g.fr ∧ g.fr < users ∧ 0 ≤ g.to ∧ g.to < users ∧ 0 ≤ g.tm ∧ g.tm ≤ 999999 := by
  intro g hg
  obtain ⟨i, hi, rfl⟩ := List.getElem_of_mem hg
  have := h.each i hi
  rw [nthV_get hi] at this
  exact ⟨this.f0, this.f1, this.t0, this.t1, this.m0, this.m1⟩
theorem GOk.set_lt {users : Int} {l : List Giv} (h : GOk users l) : setL l < 256 :=
  setL_lt fun g hg => by have := h.mem g hg; have := h.u1; omega
theorem setL_pos (l : List Giv) : 1 ≤ setL l := by
  have h := setL_zero l
  rcases Nat.eq_zero_or_pos (setL l) with e | e
  · rw [e] at h; simp at h
  · exact e
theorem setL_mem {l : List Giv} : ∀ {u : Nat}, (setL l).testBit u = true ↔ u = 0 ∨ ∃ g ∈ l, g.to.toNat = u := by
  have : ∀ (l : List Giv) (s u : Nat), (l.foldl (fun s (g : Giv) => s ||| 2 ^ g.to.toNat) s).testBit u = true ↔ s.testBit u = true ∨ ∃ g ∈ l, g.to.toNat = u := by
    intro l
    induction l with
    | nil => intro s u; simp
    | cons g l ih =>
      intro s u
      rw [List.foldl_cons, ih, Nat.testBit_or, Nat.testBit_two_pow]
      simp only [Bool.or_eq_true, decide_eq_true_eq, List.mem_cons, exists_eq_or_imp]
      exact or_assoc
  intro u
  rw [setL, this]
  have h1 : Nat.testBit 1 u = true ↔ u = 0 := by
    rw [show (1 : Nat) = 2 ^ 0 from rfl, Nat.testBit_two_pow, decide_eq_true_eq]; omega
  rw [h1]

/-- A grant is one of those of one to another one. -/
def isOf (f t : Int) (g : Giv) : Bool := decide (g.fr = f ∧ g.to = t)
/-- One grant more, if it is by one who has the right. -/
def gkeepL (out : List Giv) (g : Giv) : List Giv := if (setL out).testBit g.fr.toNat = true then out ++ [g] else out
/-- What goes back to user 0. -/
def fndL (l : List Giv) : List Giv := l.foldl gkeepL []
theorem fndL_snoc (l : List Giv) (g : Giv) : fndL (l ++ [g]) = gkeepL (fndL l) g := by simp [fndL]
/-- What is not of one to another one. -/
def outL (f t : Int) (l : List Giv) : List Giv := l.filter fun g => !isOf f t g
theorem outL_snoc (f t : Int) (l : List Giv) (g : Giv) : outL f t (l ++ [g]) = outL f t l ++ if isOf f t g = true then [] else [g] := by
  rw [outL, List.filter_append]
  by_cases h : isOf f t g = true
  · simp [outL, h]
  · simp [outL, h]
/-- What is left when the grants of one to another one are revoked. -/
def revL (f t : Int) (l : List Giv) : List Giv := fndL (outL f t l)
theorem revL_snoc (f t : Int) (l : List Giv) (g : Giv) : revL f t (l ++ [g]) = if isOf f t g = true then revL f t l else gkeepL (revL f t l) g := by
  unfold revL
  rw [outL_snoc]
  by_cases h : isOf f t g = true
  · rw [if_pos h, if_pos h, List.append_nil]
  · rw [if_neg h, if_neg h, fndL_snoc]
/-- What is wrong with revoking. -/
def revC (users : Int) (l : List Giv) (f t : Int) : Int :=
  if givC users l = 0 then (if f < 0 ∨ users ≤ f ∨ t < 0 ∨ users ≤ t then 1 else if (outL f t l).length = l.length then 5 else 0) else givC users l
theorem outL_le (f t : Int) (l : List Giv) : (outL f t l).length ≤ l.length := List.length_filter_le _ _
theorem gkeepL_len (l : List Giv) (g : Giv) : (gkeepL l g).length ≤ l.length + 1 := by
  unfold gkeepL
  split <;> simp
theorem fndL_len (l : List Giv) : (fndL l).length ≤ l.length := by
  have : ∀ (l out : List Giv), (l.foldl gkeepL out).length ≤ out.length + l.length := by
    intro l
    induction l with
    | nil => intro out; simp
    | cons g l ih => intro out; have := ih (gkeepL out g); have := gkeepL_len out g; simp only [List.foldl_cons, List.length_cons]; omega
  have h := this l []
  rw [List.length_nil, Nat.zero_add] at h
  exact h
theorem outL_len_eq {f t : Int} {l : List Giv} : (outL f t l).length = l.length ↔ ∀ g ∈ l, isOf f t g = false := by
  unfold outL
  rw [List.length_filter_eq_length_iff]
  simp
end Go.Proofs.YtoecomgiggalkaaDoor
