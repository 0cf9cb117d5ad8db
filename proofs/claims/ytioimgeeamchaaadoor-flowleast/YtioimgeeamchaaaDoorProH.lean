/- The program's own way to read, plainly; what it reads the document's reads. -/
import Derived.Test.YtioimgeeamchaaaDoorProC
namespace Go.Proofs.YtioimgeeamchaaaDoor
open Go.RowKit
set_option maxRecDepth 100000

/-- The next sign, or that there is none. -/
def pk : List Nat → Int
  | [] => -1
  | c :: _ => (c : Int)
def skN : Nod := ⟨5, 0, 0, 0, 0⟩
def blkP (d : List Nat → List Nod → Rd) (r : List Nat) (o : List Nod) : Rd :=
  (mstN 123 r o).bind fun a => (d a.1 a.2).bind fun b => mstN 125 b.1 b.2
def oneP (f : Nat) (d : List Nat → List Nod → Rd) : List Nat → List Nod → Rd
  | [], _ => .error 2
  | c :: r, o =>
    if c = 63 then (vlN f r o).bind fun a => (blkP d a.1 a.2).bind fun b => (blkP d b.1 b.2).bind fun e => mdN e.1 e.2 ⟨8, 0, lstI a.2, lstI b.2, lstI e.2⟩
    else if c = 64 then (vlN f r o).bind fun a => (blkP d a.1 a.2).bind fun b => mdN b.1 b.2 ⟨9, 0, lstI a.2, lstI b.2, 0⟩
    else if 97 ≤ c ∧ c < 103 then (mstN 61 r o).bind fun a => (vlN f a.1 a.2).bind fun b => (mstN 59 b.1 b.2).bind fun e => mdN e.1 e.2 ⟨6, ((c - 97 : Nat) : Int), lstI b.2, 0, 0⟩
    else .error 2
/-- Deeds, at least one, as far as a stop. -/
def smP : Nat → Int → List Nat → List Nod → Rd
  | 0, _, _, _ => .error 2
  | f + 1, stop, r, o =>
    (oneP f (fun r o => if pk r = 125 then mdN r o skN else smP f 125 r o) r o).bind fun a =>
      if pk a.1 = stop then .ok a else (smP f stop a.1 a.2).bind fun b => mdN b.1 b.2 ⟨7, 0, lstI a.2, lstI b.2, 0⟩
def dsP (f : Nat) (stop : Int) (r : List Nat) (o : List Nod) : Rd := if pk r = stop then mdN r o skN else smP f stop r o
theorem smP_succ (f : Nat) (stop : Int) (r : List Nat) (o : List Nod) : smP (f + 1) stop r o = (oneP f (dsP f 125) r o).bind fun a => if pk a.1 = stop then .ok a else (smP f stop a.1 a.2).bind fun b => mdN b.1 b.2 ⟨7, 0, lstI a.2, lstI b.2, 0⟩ := rfl
/-- What the program reads a text as. -/
def redP (s : List Nat) : Except Int (List Nod) :=
  if 300 < s.length then .error 4 else
  match dsP 1300 (-1) s [] with
  | .error e => .error e
  | .ok a => .ok a.2

theorem pbind_ok {α β : Type} {x : Except Int α} {g : α → Except Int β} {b : β} (h : x.bind g = .ok b) : ∃ a, x = .ok a ∧ g a = .ok b := by
  cases x with
  | error e => cases h
  | ok a => exact ⟨a, rfl, h⟩
theorem pk_end {r : List Nat} (h : pk r = -1) : r = [] := by
  cases r with
  | nil => rfl
  | cons c r => simp only [pk] at h; omega
theorem pk_brace {r : List Nat} (h : pk r = 125) : ∃ q, r = 125 :: q := by
  cases r with
  | nil => simp only [pk] at h; omega
  | cons c r => simp only [pk] at h; exact ⟨r, by rw [show c = 125 by omega]⟩
theorem blkP_ok {d : List Nat → List Nod → Rd} {m : List Nat → List Nod → Rl} (hd : ∀ r o a, d r o = .ok a → (m r o).bind endN = .ok a) {r : List Nat} {o : List Nod} {a : List Nat × List Nod} (h : blkP d r o = .ok a) : blkN m r o = .ok a := by
  unfold blkP at h
  obtain ⟨x, h1, h2⟩ := pbind_ok h
  obtain ⟨y, h3, h4⟩ := pbind_ok h2
  unfold blkN
  rw [h1]
  show ((m x.1 x.2).bind endN).bind (fun b => mstN 125 b.1 b.2) = _
  rw [hd _ _ _ h3]
  exact h4
theorem oneP_ok {f : Nat} {d : List Nat → List Nod → Rd} {m : List Nat → List Nod → Rl} (hd : ∀ r o a, d r o = .ok a → (m r o).bind endN = .ok a) {r : List Nat} {o : List Nod} {a : List Nat × List Nod} (h : oneP f d r o = .ok a) : oneN f m r o = .ok a := by
  cases r with
  | nil => cases h
  | cons c r =>
    rw [oneP] at h
    rw [oneN]
    split at h
    · rename_i hc
      rw [if_pos hc]
      obtain ⟨x, h1, h⟩ := pbind_ok h
      obtain ⟨y, h2, h⟩ := pbind_ok h
      obtain ⟨z, h3, h⟩ := pbind_ok h
      rw [h1]
      show (blkN m x.1 x.2).bind _ = _
      rw [blkP_ok hd h2]
      show (blkN m y.1 y.2).bind _ = _
      rw [blkP_ok hd h3]
      exact h
    rename_i hc
    rw [if_neg hc]
    split at h
    · rename_i hc
      rw [if_pos hc]
      obtain ⟨x, h1, h⟩ := pbind_ok h
      obtain ⟨y, h2, h⟩ := pbind_ok h
      rw [h1]
      show (blkN m x.1 x.2).bind _ = _
      rw [blkP_ok hd h2]
      exact h
    rename_i hc2
    rw [if_neg hc2]
    exact h
theorem oneP_zero {d : List Nat → List Nod → Rd} {r : List Nat} {o : List Nod} {a : List Nat × List Nod} (h : oneP 0 d r o = .ok a) : False := by
  cases r with
  | nil => cases h
  | cons c r =>
    rw [oneP] at h
    split at h
    · cases h
    split at h
    · cases h
    split at h
    · obtain ⟨x, h1, h⟩ := pbind_ok h
      cases h
    · cases h
theorem oneP_head {f : Nat} {d : List Nat → List Nod → Rd} {r : List Nat} {o : List Nod} {a : List Nat × List Nod} (h : oneP f d r o = .ok a) : ∃ c q, r = c :: q ∧ c ≠ 125 := by
  cases r with
  | nil => cases h
  | cons c r =>
    refine ⟨c, r, rfl, ?_⟩
    rintro rfl
    rw [oneP] at h
    simp at h
theorem bothN_app (k : Int) : ∀ (ks : List Int) (last : Int) (r : List Nat) (o : List Nod), bothN (ks ++ [k]) last r o = (bothN ks last r o).bind fun b => mdN b.1 b.2 ⟨7, 0, k, if ks = [] then last else lstI b.2, 0⟩
  | [], last, r, o => by
    show (mdN r o ⟨7, 0, k, last, 0⟩).bind (fun a => bothN [] (lstI a.2) a.1 a.2) = mdN r o ⟨7, 0, k, last, 0⟩
    cases mdN r o ⟨7, 0, k, last, 0⟩ <;> rfl
  | j :: ks, last, r, o => by
    show (mdN r o ⟨7, 0, j, last, 0⟩).bind (fun a => bothN (ks ++ [k]) (lstI a.2) a.1 a.2) = ((mdN r o ⟨7, 0, j, last, 0⟩).bind (fun a => bothN ks (lstI a.2) a.1 a.2)).bind _
    cases mdN r o ⟨7, 0, j, last, 0⟩ with
    | error e => rfl
    | ok a =>
      show bothN (ks ++ [k]) (lstI a.2) a.1 a.2 = (bothN ks (lstI a.2) a.1 a.2).bind _
      rw [bothN_app k ks]
      cases hk : ks with
      | nil => rfl
      | cons j2 ks2 => simp
theorem endN_cons {k : Int} {l : List Int} (hl : l ≠ []) {r : List Nat} {o : List Nod} (h1 : ∀ x, l = [x] → x = lstI o) {b : List Nat × List Nod} (h : endN (r, o, l) = .ok b) : endN (r, o, k :: l) = mdN b.1 b.2 ⟨7, 0, k, lstI b.2, 0⟩ := by
  unfold endN at h ⊢
  simp only [List.reverse_cons] at h ⊢
  cases hr : l.reverse with
  | nil => exact absurd (List.reverse_eq_nil_iff.1 hr) hl
  | cons last rest =>
    rw [hr] at h
    simp only [List.cons_append] at h ⊢
    rw [bothN_app, h]
    show mdN b.1 b.2 _ = _
    cases rest with
    | nil =>
      have e : l = [last] := by rw [← List.reverse_reverse l, hr]; rfl
      cases h
      rw [if_pos rfl, h1 last e]
    | cons x y => rw [if_neg (by simp)]
theorem smP_mny : ∀ (f : Nat) (stop : Int) (r : List Nat) (o : List Nod) (a : List Nat × List Nod), stop = -1 ∨ stop = 125 → smP f stop r o = .ok a →
    ∃ o1 l, mnyN f r o = .ok (a.1, o1, l) ∧ l ≠ [] ∧ (∀ x, l = [x] → x = lstI o1) ∧ endN (a.1, o1, l) = .ok a ∧ pk a.1 = stop
  | 0, _, _, _, _, _, h => by cases h
  | f + 1, stop, r, o, a, hs, h => by
    rw [smP_succ] at h
    obtain ⟨x, h1, h2⟩ := pbind_ok h
    clear h
    cases f with
    | zero => exact (oneP_zero h1).elim
    | succ f =>
      have hd : ∀ r o a, dsP (f + 1) 125 r o = .ok a → (mnyN (f + 1) r o).bind endN = .ok a := by
        intro r o a h
        unfold dsP at h
        split at h
        · rename_i hp
          obtain ⟨q, rfl⟩ := pk_brace hp
          rw [mnyN, if_pos rfl]
          exact h
        · obtain ⟨o1, l, g1, _, _, g2, _⟩ := smP_mny (f + 1) 125 r o a (.inr rfl) h
          rw [g1]
          exact g2
      have h3 := oneP_ok hd h1
      obtain ⟨c, q, rfl, hc⟩ := oneP_head h1
      have hm : mnyN (f + 1 + 1) (c :: q) o = (mnyN (f + 1) x.1 x.2).bind fun b => .ok (b.1, b.2.1, lstI x.2 :: b.2.2) := by
        rw [mnyN, if_neg hc, h3]; rfl
      split at h2
      · rename_i hp
        have e2 : x = a := Except.ok.inj h2
        subst e2
        refine ⟨x.2, [lstI x.2], ?_, by simp, fun y hy => by simpa using hy.symm, rfl, hp⟩
        rw [hm]
        rcases hs with rfl | rfl
        · rw [pk_end hp, mnyN]; rfl
        · obtain ⟨q', e⟩ := pk_brace hp
          rw [e, mnyN, if_pos rfl]; rfl
      · obtain ⟨b, h4, h5⟩ := pbind_ok h2
        obtain ⟨o1, l, g1, g2, g3, g4, g5⟩ := smP_mny (f + 1) stop x.1 x.2 b hs h4
        have e := endN_cons (k := lstI x.2) g2 g3 g4
        have ea : a.1 = b.1 := by
          unfold mdN at h5
          split at h5
          · cases h5
          · cases h5; rfl
        refine ⟨o1, lstI x.2 :: l, ?_, by simp, fun y hy => ?_, ?_, by rw [ea]; exact g5⟩
        · rw [hm, g1, ea]; rfl
        · simp only [List.cons.injEq] at hy; exact absurd hy.2 g2
        · rw [ea, e, h5]
/-- What the program reads is what the document's way reads. -/
theorem redP_ok {s : List Nat} {o : List Nod} (h : redP s = .ok o) : parN s = .ok o := by
  unfold redP at h
  split at h
  · cases h
  rename_i hs
  split at h
  · cases h
  rename_i a h1
  cases h
  unfold parN
  rw [if_neg hs]
  unfold dsP at h1
  split at h1
  · rename_i hp
    obtain rfl := pk_end hp
    cases h1
    rfl
  · obtain ⟨o1, l, g1, _, _, g4, g5⟩ := smP_mny 1300 (-1) s [] a (.inl rfl) h1
    rw [g1]
    simp only [Except.bind, g4]
    rw [if_pos (pk_end g5)]
end Go.Proofs.YtioimgeeamchaaaDoor
