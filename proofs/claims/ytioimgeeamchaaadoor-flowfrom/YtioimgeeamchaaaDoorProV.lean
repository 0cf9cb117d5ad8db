/- Reading, plainly: what is read grows shorter; where one stands in the text. -/
import Derived.Test.YtioimgeeamchaaaDoorProC
namespace Go.Proofs.YtioimgeeamchaaaDoor
open Go.RowKit
set_option maxRecDepth 100000

theorem mdL_ok {r r' : List Nat} {o o' : List Nod} {x : Nod} (h : mdN r o x = .ok (r', o')) : r' = r ∧ o' = o ++ [x] ∧ o.length ≠ 80 := by
  unfold mdN at h
  split at h
  · cases h
  · rename_i h0
    cases h
    exact ⟨rfl, rfl, h0⟩
theorem mstL_ok {c : Nat} {r r' : List Nat} {o o' : List Nod} (h : mstN c r o = .ok (r', o')) : r = c :: r' ∧ o' = o := by
  unfold mstN at h
  split at h
  · split at h
    · rename_i e; cases h; exact ⟨by rw [e], rfl⟩
    · cases h
  · cases h
theorem bindL_ok {α β : Type} {x : Except Int α} {f : α → Except Int β} {b : β} (h : x.bind f = .ok b) : ∃ a, x = .ok a ∧ f a = .ok b := by
  cases x with
  | error e => cases h
  | ok a => exact ⟨a, rfl, h⟩
theorem numN_le {r : List Nat} {o : List Nod} {a : List Nat × List Nod} (h : numN r o = .ok a) : a.1.length ≤ r.length := by
  unfold numN at h
  split at h
  · cases h
  · obtain ⟨r', o'⟩ := a
    obtain ⟨rfl, _, _⟩ := mdL_ok h
    show (r.drop _).length ≤ r.length
    rw [List.length_drop]; omega
/-- A value that is read is not empty. -/
theorem vlN_less : ∀ (f : Nat) (r : List Nat) (o : List Nod) (a : List Nat × List Nod), vlN f r o = .ok a → a.1.length < r.length
  | 0, _, _, _, h => by cases h
  | _ + 1, [], _, _, h => by cases h
  | f + 1, c :: r, o, a, h => by
    unfold vlN at h
    split at h
    · obtain ⟨x, hx, h⟩ := bindL_ok h
      obtain ⟨z, hz, h⟩ := bindL_ok h
      have h1 := vlN_less f _ _ _ hx
      have h2 := vlN_less f _ _ _ hz
      obtain ⟨r', o'⟩ := a
      obtain ⟨rfl, _, _⟩ := mdL_ok h
      show z.1.length < r.length + 1
      omega
    · split at h
      · have := numN_le h
        show a.1.length < r.length + 1
        omega
      · split at h
        · obtain ⟨r', o'⟩ := a
          obtain ⟨rfl, _, _⟩ := mdL_ok h
          exact Nat.lt_succ_self _
        · cases h
theorem bothN_same : ∀ (ks : List Int) (last : Int) (r : List Nat) (o : List Nod) (a : List Nat × List Nod), bothN ks last r o = .ok a → a.1 = r
  | [], _, _, _, _, h => by cases h; rfl
  | k :: ks, last, r, o, a, h => by
    unfold bothN at h
    obtain ⟨⟨r', o'⟩, hx, h2⟩ := bindL_ok h
    obtain ⟨e1, _, _⟩ := mdL_ok hx
    exact (bothN_same ks _ _ _ a h2).trans e1
theorem endN_same {x : List Nat × List Nod × List Int} {a : List Nat × List Nod} (h : endN x = .ok a) : a.1 = x.1 := by
  unfold endN at h
  split at h
  · obtain ⟨r', o'⟩ := a
    exact (mdL_ok h).1
  · exact bothN_same _ _ _ _ _ h
theorem blkN_less {m : List Nat → List Nod → Rl} (hm : ∀ r o a, m r o = .ok a → a.1.length ≤ r.length) {r : List Nat} {o : List Nod} {a : List Nat × List Nod} (h : blkN m r o = .ok a) : a.1.length + 2 ≤ r.length := by
  unfold blkN at h
  obtain ⟨⟨r1, o1⟩, h1, h⟩ := bindL_ok h
  obtain ⟨z, hz, h⟩ := bindL_ok h
  obtain ⟨x, hx, hz⟩ := bindL_ok hz
  have e1 := (mstL_ok h1).1
  have l1 := hm _ _ _ hx
  have e2 := endN_same hz
  obtain ⟨r', o'⟩ := a
  have e3 := (mstL_ok h).1
  rw [e1, List.length_cons]
  have : z.1.length = r'.length + 1 := by rw [e3]; rfl
  rw [e2] at this
  simp only at l1 ⊢
  omega
theorem oneN_less {f : Nat} {m : List Nat → List Nod → Rl} (hm : ∀ r o a, m r o = .ok a → a.1.length ≤ r.length) : ∀ {r : List Nat} {o : List Nod} {a : List Nat × List Nod}, oneN f m r o = .ok a → a.1.length < r.length
  | [], _, _, h => by cases h
  | c :: r, o, a, h => by
    unfold oneN at h
    dsimp only at h
    split at h
    · obtain ⟨x, hx, h⟩ := bindL_ok h
      obtain ⟨y, hy, h⟩ := bindL_ok h
      obtain ⟨z, hz, h9⟩ := bindL_ok h
      have h1 := vlN_less f _ _ _ hx
      have h2 := blkN_less hm hy
      have h3 := blkN_less hm hz
      obtain ⟨r', o'⟩ := a
      obtain ⟨rfl, _, _⟩ := mdL_ok h9
      show z.1.length < r.length + 1
      omega
    · split at h
      · obtain ⟨x, hx, h⟩ := bindL_ok h
        obtain ⟨y, hy, h⟩ := bindL_ok h
        have h1 := vlN_less f _ _ _ hx
        have h2 := blkN_less hm hy
        obtain ⟨r', o'⟩ := a
        obtain ⟨rfl, _, _⟩ := mdL_ok h
        show y.1.length < r.length + 1
        omega
      · split at h
        · obtain ⟨⟨r1, o1⟩, hx, h⟩ := bindL_ok h
          obtain ⟨y, hy, h⟩ := bindL_ok h
          obtain ⟨⟨r3, o3⟩, hz, h⟩ := bindL_ok h
          have h1 := (mstL_ok hx).1
          have h2 := vlN_less f _ _ _ hy
          have h3 := (mstL_ok hz).1
          obtain ⟨r', o'⟩ := a
          obtain ⟨rfl, _, _⟩ := mdL_ok h
          have l1 : r.length = r1.length + 1 := by rw [h1]; rfl
          have l3 : y.1.length = r'.length + 1 := by rw [h3]; rfl
          simp only at h2
          show r'.length < r.length + 1
          omega
        · cases h
theorem mnyN_le : ∀ (f : Nat) (r : List Nat) (o : List Nod) (a : List Nat × List Nod × List Int), mnyN f r o = .ok a → a.1.length ≤ r.length
  | 0, _, _, _, h => by cases h
  | _ + 1, [], _, _, h => by cases h; exact Nat.le_refl _
  | f + 1, c :: r, o, a, h => by
    unfold mnyN at h
    split at h
    · cases h; exact Nat.le_refl _
    · obtain ⟨x, hx, h⟩ := bindL_ok h
      obtain ⟨y, hy, h⟩ := bindL_ok h
      have h1 := oneN_less (mnyN_le f) hx
      have h2 := mnyN_le f _ _ _ hy
      cases h
      show y.1.length ≤ _
      omega
/-- What is left of a text from a place on. -/
theorem drop_cons_iff {l : List Nat} {k c : Nat} : l[k]? = some c ↔ l.drop k = c :: l.drop (k + 1) := by
  constructor
  · intro h
    obtain ⟨hk, rfl⟩ := List.getElem?_eq_some_iff.1 h
    exact List.drop_eq_getElem_cons hk
  · intro h
    have := congrArg (fun l : List Nat => l[0]?) h
    simpa using this
end Go.Proofs.YtioimgeeamchaaaDoor
