/- Grants: the path by which one has the right. -/
import Derived.WalkKit
import Derived.Test.YtoecomgiggalkaaDoorGraA
namespace Go.Proofs.YtoecomgiggalkaaDoor
open Go.RowKit

/-- The first grant to a user, of the first m. -/
def idxG (l : List Giv) (m : Nat) (u : Int) : Nat := (l.take m).findIdx fun g => decide (g.to = u)
theorem idxG_lt {l : List Giv} {m : Nat} {u : Int} (h : ∃ g ∈ l.take m, g.to = u) : idxG l m u < (l.take m).length := by
  unfold idxG
  exact List.findIdx_lt_length_of_exists (by obtain ⟨g, h1, h2⟩ := h; exact ⟨g, h1, decide_eq_true h2⟩)
theorem idxG_at {l : List Giv} {m : Nat} {u : Int} (h : idxG l m u < (l.take m).length) : (nthV l (idxG l m u)).to = u := by
  have h1 : idxG l m u < m ∧ idxG l m u < l.length := by rw [List.length_take] at h; omega
  have e : (l.take m)[idxG l m u].to = u := of_decide_eq_true (List.findIdx_getElem (w := h))
  rw [nthV_get h1.2]
  rw [List.getElem_take] at e
  exact e
theorem idxG_not {l : List Giv} {m : Nat} {u : Int} {j : Nat} (h : j < idxG l m u) : (nthV l j).to ≠ u := by
  have h0 : idxG l m u ≤ (l.take m).length := List.findIdx_le_length
  have h1 : j < (l.take m).length := by omega
  have h2 : j < m ∧ j < l.length := by rw [List.length_take] at h1; omega
  have := List.not_of_lt_findIdx h
  rw [List.getElem_take] at this
  rw [nthV_get h2.2]
  simpa using this
theorem idxG_hit {l : List Giv} {m j : Nat} {u : Int} (h : ∀ i, i < j → (nthV l i).to ≠ u) (hj : j < m) (hl : j < l.length) (e : (nthV l j).to = u) : idxG l m u = j := by
  by_cases h1 : idxG l m u < j
  · have hl : idxG l m u < (l.take m).length := by rw [List.length_take]; omega
    exact absurd (idxG_at hl) (h _ h1)
  · by_cases h2 : j < idxG l m u
    · exact absurd e (idxG_not h2)
    · omega
/-- Who has the right, and is not 0, was granted it. -/
theorem has_idx {users : Int} {l : List Giv} (hr : GOk users l) {m : Nat} {u : Int} (h0 : 0 ≤ u) (hu : u ≠ 0) (h : (setL (l.take m)).testBit u.toNat = true) : idxG l m u < m ∧ idxG l m u < l.length ∧ (nthV l (idxG l m u)).to = u := by
  rcases setL_mem.1 h with e | ⟨g, hg, e⟩
  · omega
  · have ht := (hr.take m).mem g hg
    have hl := idxG_lt (l := l) (m := m) (u := u) ⟨g, hg, by omega⟩
    refine ⟨?_, ?_, idxG_at hl⟩
    · rw [List.length_take] at hl; omega
    · rw [List.length_take] at hl; omega
/-- Who has not, was not. -/
theorem not_idx {l : List Giv} {u : Int} (h : ¬ (setL l).testBit u.toNat = true) : u ≠ 0 ∧ ∀ i, i < l.length → (nthV l i).to ≠ u := by
  refine ⟨fun e => h (by rw [e]; exact setL_zero l), fun i hi e => h (setL_mem.2 (.inr ⟨nthV l i, by rw [nthV_get hi]; exact List.getElem_mem hi, by rw [e]⟩))⟩
/-- From a user down to 0. -/
def dnG (l : List Giv) : Nat → Nat → Int → List Int
  | 0, _, u => [u]
  | f + 1, m, u => if u = 0 then [u] else u :: dnG l f (idxG l m u) (nthV l (idxG l m u)).fr
theorem dnG_zero (l : List Giv) (f m : Nat) : dnG l f m 0 = [0] := by cases f <;> simp [dnG]
theorem dnG_step {l : List Giv} {f m : Nat} {u : Int} (h : u ≠ 0) : dnG l (f + 1) m u = u :: dnG l f (idxG l m u) (nthV l (idxG l m u)).fr := by rw [dnG, if_neg h]
theorem dnG_len (l : List Giv) : ∀ (f m : Nat) (u : Int), (dnG l f m u).length ≤ f + 1
  | 0, _, _ => by simp [dnG]
  | f + 1, m, u => by
    by_cases h : u = 0
    · subst h; rw [dnG_zero]; simp
    · rw [dnG_step h]
      have := dnG_len l f (idxG l m u) (nthV l (idxG l m u)).fr
      simp; omega
theorem dnG_pos (l : List Giv) (f m : Nat) (u : Int) : 0 < (dnG l f m u).length := by
  cases f with
  | zero => simp [dnG]
  | succ f =>
    by_cases h : u = 0
    · subst h; rw [dnG_zero]; simp
    · rw [dnG_step h]; simp
theorem dnG_any {users : Int} {l : List Giv} (hr : GOk users l) : ∀ {f f' m : Nat} {u : Int}, m ≤ f → m ≤ f' → 0 ≤ u → (setL (l.take m)).testBit u.toNat = true → dnG l f m u = dnG l f' m u := by
  intro f
  induction f with
  | zero =>
    intro f' m u h1 h2 h0 h
    obtain rfl : m = 0 := by omega
    by_cases hu : u = 0
    · subst hu; rw [dnG_zero, dnG_zero]
    · have := has_idx hr h0 hu h; omega
  | succ f ih =>
    intro f' m u h1 h2 h0 h
    by_cases hu : u = 0
    · subst hu; rw [dnG_zero, dnG_zero]
    · obtain ⟨i1, i2, _⟩ := has_idx hr h0 hu h
      obtain ⟨f', rfl⟩ : ∃ k, f' = k + 1 := ⟨f' - 1, by omega⟩
      rw [dnG_step hu, dnG_step hu]
      have hn := hr.each _ i2
      rw [ih (f' := f') (m := idxG l m u) (by omega) (by omega) hn.f0 hn.bit]
/-- A path: from 0 to the user, along grants at rising places. -/
structure PathIs (l : List Giv) (m : Nat) (u : Int) (p : List Int) (I : Nat → Nat) : Prop where
  pos : 0 < p.length
  first : p.getD 0 0 = 0
  last : p.getD (p.length - 1) 0 = u
  lt : ∀ k, k < p.length → 0 < k → I k < m ∧ I k < l.length
  fr : ∀ k, k < p.length → 0 < k → (nthV l (I k)).fr = p.getD (k - 1) 0
  to : ∀ k, k < p.length → 0 < k → (nthV l (I k)).to = p.getD k 0
  up : ∀ k, k + 1 < p.length → 0 < k → I k < I (k + 1)
theorem gpath_is {users : Int} {l : List Giv} (hr : GOk users l) : ∀ (f m : Nat) (u : Int), m ≤ f → 0 ≤ u → (setL (l.take m)).testBit u.toNat = true → ∃ I, PathIs l m u (dnG l f m u).reverse I := by
  have zero : ∀ m, ∃ I, PathIs l m 0 [0] I := fun m => ⟨fun _ => 0, by simp, rfl, rfl, fun k h1 h2 => by simp at h1; omega, fun k h1 h2 => by simp at h1; omega, fun k h1 h2 => by simp at h1; omega, fun k h1 h2 => by simp at h1⟩
  intro f
  induction f with
  | zero =>
    intro m u h1 h0 h
    obtain rfl : m = 0 := by omega
    by_cases hu : u = 0
    · subst hu; rw [dnG_zero]; exact zero 0
    · have := has_idx hr h0 hu h; omega
  | succ f ih =>
    intro m u h1 h0 h
    by_cases hu : u = 0
    · subst hu; rw [dnG_zero]; exact zero m
    · obtain ⟨i1, i2, i3⟩ := has_idx hr h0 hu h
      have hn := hr.each _ i2
      obtain ⟨I, hI⟩ := ih (idxG l m u) (nthV l (idxG l m u)).fr (by omega) hn.f0 hn.bit
      rw [dnG_step hu, List.reverse_cons]
      obtain ⟨p, hp⟩ : ∃ p, (dnG l f (idxG l m u) (nthV l (idxG l m u)).fr).reverse = p := ⟨_, rfl⟩
      rw [hp] at hI ⊢
      have gl : ∀ k, k < p.length → (p ++ [u]).getD k 0 = p.getD k 0 := fun k hk => by simp [List.getD_eq_getElem?_getD, List.getElem?_append_left hk]
      have ge : (p ++ [u]).getD p.length 0 = u := by simp [List.getD_eq_getElem?_getD]
      have hlen : (p ++ [u]).length = p.length + 1 := by simp
      have hpos := hI.pos
      refine ⟨fun k => if k < p.length then I k else idxG l m u, by omega, by rw [gl 0 hpos]; exact hI.first, by rw [hlen, Nat.add_sub_cancel]; exact ge, fun k k1 k2 => ?_, fun k k1 k2 => ?_, fun k k1 k2 => ?_, fun k k1 k2 => ?_⟩
      · by_cases q : k < p.length
        · rw [if_pos q]; have := hI.lt k q k2; omega
        · rw [if_neg q]; omega
      · by_cases q : k < p.length
        · rw [if_pos q, gl _ (by omega)]; exact hI.fr k q k2
        · obtain rfl : k = p.length := by omega
          rw [if_neg q, gl _ (by omega)]; exact hI.last.symm
      · by_cases q : k < p.length
        · rw [if_pos q, gl _ q]; exact hI.to k q k2
        · obtain rfl : k = p.length := by omega
          rw [if_neg q, ge]; exact i3
      · rw [hlen] at k1
        rw [if_pos (by omega)]
        by_cases q : k + 1 < p.length
        · rw [if_pos q]; exact hI.up k q k2
        · rw [if_neg q]; exact (hI.lt k (by omega) k2).1
/-- What is wrong with asking for a path. -/
def pathC (users : Int) (l : List Giv) (u : Int) : Int := if givC users l = 0 then (if u < 0 ∨ users ≤ u then 1 else if (setL l).testBit u.toNat = true then 0 else 5) else givC users l
/-- The path. -/
def pathL (l : List Giv) (u : Int) : List Int := (dnG l l.length l.length u).reverse
end Go.Proofs.YtoecomgiggalkaaDoor
