/- Grants: what is left when some are revoked is right, and it does not matter which go first; the path to one who has the right. -/
import Derived.WalkKit
import Derived.Test.YtoecomgiggalkaaGraA
namespace Go.Proofs.Ytoecomgiggalkaa
open Go.RowKit

/-- What is left of right grants is right. -/
structure RevOk (users : Int) (l m : List Giv) : Prop where
  ok : GOk users m
  len : m.length ≤ l.length
  last : lastL m ≤ lastL l
  sub : ∀ u, (setL m).testBit u = true → (setL l).testBit u = true
theorem rev_ok {users : Int} (f t : Int) : ∀ n (l : List Giv), l.length = n → GOk users l → RevOk users l (revL f t l) := by
  intro n
  induction n with
  | zero =>
    intro l hl h
    obtain rfl : l = [] := List.eq_nil_of_length_eq_zero hl
    exact ⟨h, Nat.le_refl _, Int.le_refl _, fun u h => h⟩
  | succ n ih =>
    intro l hl h
    obtain ⟨m, g, rfl⟩ : ∃ m g, l = m ++ [g] := by
      rcases List.eq_nil_or_concat l with e | ⟨m, g, e⟩
      · subst e; simp at hl
      · exact ⟨m, g, by rw [e, List.concat_eq_append]⟩
    have hm : m.length = n := by simpa using hl
    obtain ⟨h1, h2, h3⟩ := gok_snoc.1 h
    have r := ih m hm h1
    have hsub : ∀ u, (setL (revL f t m)).testBit u = true → (setL (m ++ [g])).testBit u = true := fun u hu => by rw [setL_snoc, Nat.testBit_or, r.sub u hu]; rfl
    have stay : RevOk users (m ++ [g]) (revL f t m) := ⟨r.ok, by have := r.len; simp; omega, by rw [lastL_snoc]; have := r.last; have := h3.up; omega, hsub⟩
    rw [revL_snoc]
    by_cases q : isOf f t g = true
    · rw [if_pos q]; exact stay
    · rw [if_neg q, gkeepL]
      by_cases b : (setL (revL f t m)).testBit g.fr.toNat = true
      · rw [if_pos b]
        have hr := r.len
        refine ⟨gok_snoc.2 ⟨r.ok, by omega, h3.f0, h3.f1, h3.t0, h3.t1, h3.m0, h3.m1, by have := r.last; have := h3.up; omega, b⟩, by simp; omega, by rw [lastL_snoc, lastL_snoc]; omega, fun u hu => ?_⟩
        rw [setL_snoc, Nat.testBit_or, Bool.or_eq_true] at hu ⊢
        exact hu.imp (r.sub u) id
      · rw [if_neg b]; exact stay
theorem GOk.rev {users : Int} {l : List Giv} (h : GOk users l) (f t : Int) : RevOk users l (revL f t l) := rev_ok f t _ l rfl h

/-- Struck again, and gone back to user 0 again: as if at once. -/
theorem fnd_again (p : Giv → Bool) : ∀ n (l : List Giv), l.length = n → fndL ((fndL l).filter p) = fndL (l.filter p) ∧ ∀ u, (setL (fndL (l.filter p))).testBit u = true → (setL (fndL l)).testBit u = true := by
  intro n
  induction n with
  | zero =>
    intro l hl
    obtain rfl : l = [] := List.eq_nil_of_length_eq_zero hl
    exact ⟨rfl, fun u h => h⟩
  | succ n ih =>
    intro l hl
    obtain ⟨m, g, rfl⟩ : ∃ m g, l = m ++ [g] := by
      rcases List.eq_nil_or_concat l with e | ⟨m, g, e⟩
      · subst e; simp at hl
      · exact ⟨m, g, by rw [e, List.concat_eq_append]⟩
    have hm : m.length = n := by simpa using hl
    obtain ⟨i1, i2⟩ := ih m hm
    have ef : ∀ x : List Giv, (x ++ [g]).filter p = x.filter p ++ if p g = true then [g] else [] := fun x => by
      rw [List.filter_append]
      by_cases h : p g = true
      · simp [h]
      · simp [h]
    rw [ef, fndL_snoc]
    by_cases b : (setL (fndL m)).testBit g.fr.toNat = true
    · have ek : gkeepL (fndL m) g = fndL m ++ [g] := by rw [gkeepL, if_pos b]
      rw [ek, ef]
      by_cases q : p g = true
      · rw [if_pos q, fndL_snoc, fndL_snoc, i1]
        refine ⟨rfl, fun u hu => ?_⟩
        rw [setL_snoc, Nat.testBit_or, Bool.or_eq_true]
        unfold gkeepL at hu
        split at hu
        · rw [setL_snoc, Nat.testBit_or, Bool.or_eq_true] at hu
          exact hu.imp (i2 u) id
        · exact .inl (i2 u hu)
      · rw [if_neg q, List.append_nil, List.append_nil]
        exact ⟨i1, fun u hu => by rw [setL_snoc, Nat.testBit_or, i2 u hu]; rfl⟩
    · have ek : gkeepL (fndL m) g = fndL m := by rw [gkeepL, if_neg b]
      rw [ek]
      have b2 : ¬ (setL (fndL (m.filter p))).testBit g.fr.toNat = true := fun h => b (i2 _ h)
      by_cases q : p g = true
      · rw [if_pos q, fndL_snoc, gkeepL, if_neg b2]
        exact ⟨i1, i2⟩
      · rw [if_neg q, List.append_nil]
        exact ⟨i1, i2⟩
theorem rev_rev (a b c d : Int) (l : List Giv) : revL c d (revL a b l) = revL a b (revL c d l) := by
  have h1 : revL c d (revL a b l) = fndL (outL c d (outL a b l)) := (fnd_again _ _ (outL a b l) rfl).1
  have h2 : revL a b (revL c d l) = fndL (outL a b (outL c d l)) := (fnd_again _ _ (outL c d l) rfl).1
  rw [h1, h2]
  unfold outL
  rw [List.filter_filter, List.filter_filter]
  congr 2
  funext g
  exact Bool.and_comm _ _
theorem gfilter_true (l : List Giv) : l.filter (fun _ => true) = l := List.filter_eq_self.2 fun _ _ => rfl
theorem fnd_fnd (l : List Giv) : fndL (fndL l) = fndL l := by
  have h := (fnd_again (fun _ => true) _ l rfl).1
  rwa [gfilter_true, gfilter_true] at h
theorem outL_self {f t : Int} {l : List Giv} (h : (outL f t l).length = l.length) : outL f t l = l :=
  List.filter_eq_self.2 fun g hg => by rw [outL_len_eq.1 h g hg]; rfl
theorem gkeepL_mem {l : List Giv} {g x : Giv} (h : x ∈ gkeepL l g) : x ∈ l ∨ x = g := by
  unfold gkeepL at h
  split at h
  · simpa using h
  · exact .inl h
theorem fold_mem : ∀ (l o : List Giv) (x : Giv), x ∈ l.foldl gkeepL o → x ∈ o ∨ x ∈ l := by
  intro l
  induction l with
  | nil => intro o x h; exact .inl h
  | cons g l ih =>
    intro o x h
    rcases ih _ x h with h | h
    · rcases gkeepL_mem h with h | h
      · exact .inl h
      · exact .inr (by rw [h]; exact List.mem_cons_self)
    · exact .inr (List.mem_cons_of_mem _ h)
theorem rev_mem {f t : Int} {l : List Giv} {x : Giv} (h : x ∈ revL f t l) : x ∈ l ∧ isOf f t x = false := by
  rcases fold_mem _ _ x h with h | h
  · simp at h
  · have := List.mem_filter.1 h
    exact ⟨this.1, by simpa using this.2⟩
/-- Revoked again there is nothing. -/
theorem rev_none (f t : Int) (l : List Giv) : (outL f t (revL f t l)).length = (revL f t l).length := outL_len_eq.2 fun _ hg => (rev_mem hg).2
/-- What is left by another one, too, where there was nothing to revoke. -/
theorem grev_self {f t a b : Int} {l : List Giv} (h : (outL f t (revL a b l)).length = (revL a b l).length) : revL f t (revL a b l) = revL a b l := by
  rw [revL, outL_self h]
  exact fnd_fnd _
theorem rev_lt {f t : Int} {l : List Giv} (h : (outL f t l).length ≠ l.length) : (revL f t l).length < l.length := by
  have := outL_le f t l
  have : (revL f t l).length ≤ (outL f t l).length := fndL_len _
  omega

/-- Times rise. -/
theorem lastL_take {l : List Giv} {k : Nat} (hk : 0 < k) (hl : k ≤ l.length) : lastL (l.take k) = (nthV l (k - 1)).tm := by
  obtain ⟨j, rfl⟩ : ∃ j, k = j + 1 := ⟨k - 1, by omega⟩
  rw [gtake_snoc l (by omega), lastL_snoc]
  rfl
theorem GOk.rise {users : Int} {l : List Giv} (h : GOk users l) : ∀ {j i : Nat}, i < j → j < l.length → (nthV l i).tm < (nthV l j).tm
  | 0, _, hij, _ => by omega
  | j + 1, i, hij, hj => by
    have h1 := (h.each (j + 1) hj).up
    rw [lastL_take (by omega) (by omega)] at h1
    by_cases e : i = j
    · subst e; exact h1
    · have := h.rise (j := j) (i := i) (by omega) (by omega)
      simp only [Nat.add_sub_cancel] at h1
      omega
/-- What is left of the first ones is the beginning of what is left. -/
theorem rev_cut (f t : Int) (l m : List Giv) : ∃ r, revL f t (l ++ m) = revL f t l ++ r ∧ ∀ x ∈ r, x ∈ m := by
  have key : ∀ (m o : List Giv), ∃ r, m.foldl gkeepL o = o ++ r ∧ ∀ x ∈ r, x ∈ m := by
    intro m
    induction m with
    | nil => intro o; exact ⟨[], by simp, by simp⟩
    | cons g m ih =>
      intro o
      obtain ⟨r, h1, h2⟩ := ih (gkeepL o g)
      by_cases b : (setL o).testBit g.fr.toNat = true
      · have ek : gkeepL o g = o ++ [g] := by rw [gkeepL, if_pos b]
        rw [ek] at h1
        exact ⟨g :: r, by rw [List.foldl_cons, ek, h1]; simp, fun x hx => by
          rcases List.mem_cons.1 hx with e | e
          · rw [e]; exact List.mem_cons_self
          · exact List.mem_cons_of_mem _ (h2 x e)⟩
      · have ek : gkeepL o g = o := by rw [gkeepL, if_neg b]
        rw [ek] at h1
        exact ⟨r, by rw [List.foldl_cons, ek, h1], fun x hx => List.mem_cons_of_mem _ (h2 x hx)⟩
  obtain ⟨r, h1, h2⟩ := key (outL f t m) (fndL (outL f t l))
  refine ⟨r, ?_, fun x hx => (List.mem_filter.1 (h2 x hx)).1⟩
  unfold revL outL at *
  rw [List.filter_append]
  unfold fndL at *
  rw [List.foldl_append]
  exact h1
open Classical in
/-- Looked through in order, each that is left is met. -/
theorem rev_meet {users : Int} {l : List Giv} (h : GOk users l) (f t : Int) {i : Nat} (hi : i < l.length) :
    (revL f t (l.take (i + 1))).length = (if (revL f t (l.take i)).length < (revL f t l).length ∧ nthV (revL f t l) (revL f t (l.take i)).length = nthV l i then (revL f t (l.take i)).length + 1 else (revL f t (l.take i)).length) := by
  have es := gtake_snoc l hi
  obtain ⟨r, hr, hm⟩ := rev_cut f t (l.take (i + 1)) (l.drop (i + 1))
  rw [List.take_append_drop] at hr
  have later : ∀ x ∈ r, (nthV l i).tm < x.tm := fun x hx => by
    obtain ⟨k, hk, e⟩ := List.getElem_of_mem (hm x hx)
    rw [List.getElem_drop] at e
    have hk' : i + 1 + k < l.length := by simp at hk; omega
    have := h.rise (i := i) (j := i + 1 + k) (by omega) hk'
    rw [nthV_get hk', e] at this
    exact this
  rw [hr]
  have e2 : revL f t (l.take (i + 1)) = if isOf f t (nthV l i) = true then revL f t (l.take i) else gkeepL (revL f t (l.take i)) (nthV l i) := by rw [es, revL_snoc]
  have case0 : revL f t (l.take (i + 1)) = revL f t (l.take i) → (revL f t (l.take (i + 1))).length = (if (revL f t (l.take i)).length < (revL f t (l.take (i + 1)) ++ r).length ∧ nthV (revL f t (l.take (i + 1)) ++ r) (revL f t (l.take i)).length = nthV l i then (revL f t (l.take i)).length + 1 else (revL f t (l.take i)).length) := by
    intro e
    rw [e]
    cases r with
    | nil => rw [if_neg (by simp)]
    | cons x r =>
      rw [nthV_at, if_neg]
      rintro ⟨_, q⟩
      have := later x List.mem_cons_self
      rw [q] at this
      omega
  by_cases q : isOf f t (nthV l i) = true
  · rw [if_pos q] at e2
    exact case0 e2
  · rw [if_neg q, gkeepL] at e2
    by_cases b : (setL (revL f t (l.take i))).testBit (nthV l i).fr.toNat = true
    · rw [if_pos b] at e2
      rw [e2, if_pos]
      · simp
      · refine ⟨by simp, ?_⟩
        rw [List.append_assoc]
        exact nthV_at _ _ _
    · rw [if_neg b] at e2
      exact case0 e2
end Go.Proofs.Ytoecomgiggalkaa
