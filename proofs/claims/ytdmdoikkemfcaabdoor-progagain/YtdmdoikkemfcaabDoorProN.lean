/- The program's reader, whole: what it reads is what its plain way reads. -/
import Derived.Test.YtdmdoikkemfcaabDoorProM
import Derived.Test.YtdmdoikkemfcaabDoorProV
namespace Go.Proofs.YtdmdoikkemfcaabDoor
open Go.RowKit
set_option maxRecDepth 100000
set_option linter.unusedVariables false

theorem blkP_less {d : List Nat → List Nod → Rd} (hm : ∀ r o a, d r o = .ok a → a.1.length ≤ r.length) {r : List Nat} {o : List Nod} {a : List Nat × List Nod} (h : blkP d r o = .ok a) : a.1.length + 2 ≤ r.length := by
  unfold blkP at h
  obtain ⟨⟨r1, o1⟩, h1, h⟩ := bindL_ok h
  obtain ⟨z, hz, h⟩ := bindL_ok h
  have e1 := (mstL_ok h1).1
  have l1 := hm _ _ _ hz
  obtain ⟨r', o'⟩ := a
  have e3 := (mstL_ok h).1
  rw [e1, List.length_cons]
  have : z.1.length = r'.length + 1 := by rw [e3]; rfl
  simp only at l1 ⊢
  omega
theorem oneP_less {f : Nat} {m : List Nat → List Nod → Rd} (hm : ∀ r o a, m r o = .ok a → a.1.length ≤ r.length) : ∀ {r : List Nat} {o : List Nod} {a : List Nat × List Nod}, oneP f m r o = .ok a → a.1.length < r.length
  | [], _, _, h => by cases h
  | c :: r, o, a, h => by
    unfold oneP at h
    dsimp only at h
    split at h
    · obtain ⟨x, hx, h⟩ := bindL_ok h
      obtain ⟨y, hy, h⟩ := bindL_ok h
      obtain ⟨z, hz, h9⟩ := bindL_ok h
      have h1 := vlN_less f _ _ _ hx
      have h2 := blkP_less hm hy
      have h3 := blkP_less hm hz
      obtain ⟨r', o'⟩ := a
      obtain ⟨rfl, _, _⟩ := mdL_ok h9
      show z.1.length < r.length + 1
      omega
    · split at h
      · obtain ⟨x, hx, h⟩ := bindL_ok h
        obtain ⟨y, hy, h⟩ := bindL_ok h
        have h1 := vlN_less f _ _ _ hx
        have h2 := blkP_less hm hy
        obtain ⟨r', o'⟩ := a
        obtain ⟨rfl, _, _⟩ := mdL_ok h
        show y.1.length < r.length + 1
        omega
      · split at h
        · obtain ⟨⟨r1, o1⟩, hx, h⟩ := bindL_ok h
          obtain ⟨y, hy, h⟩ := bindL_ok h
          obtain ⟨⟨r3, o3⟩, hz, h⟩ := bindL_ok h
          have h1 := (mstL_ok hx).1
          have h2 := vlN_less f _ _ _ hy
          have h3 := (mstL_ok hz).1
          obtain ⟨r', o'⟩ := a
          obtain ⟨rfl, _, _⟩ := mdL_ok h
          have l1 : r.length = r1.length + 1 := by rw [h1]; rfl
          have l3 : y.1.length = r'.length + 1 := by rw [h3]; rfl
          simp only at h2
          show r'.length < r.length + 1
          omega
        · cases h
theorem smP_less : ∀ (f : Nat) (stop : Int) (r : List Nat) (o : List Nod) (a : List Nat × List Nod), smP f stop r o = .ok a → a.1.length < r.length
  | 0, _, _, _, _, h => by cases h
  | f + 1, stop, r, o, a, h => by
    rw [smP_succ] at h
    obtain ⟨x, h1, h2⟩ := pbind_ok h
    have hd : ∀ r o a, dsP f 125 r o = .ok a → a.1.length ≤ r.length := fun r o a h => by
      unfold dsP at h
      split at h
      · obtain ⟨r', o'⟩ := a
        obtain ⟨rfl, _, _⟩ := mdL_ok h
        exact Nat.le_refl _
      · exact Nat.le_of_lt (smP_less f _ _ _ _ h)
    have l1 := oneP_less hd h1
    split at h2
    · have e : x = a := Except.ok.inj h2
      subst e
      exact l1
    · obtain ⟨b, h3, h4⟩ := pbind_ok h2
      have l2 := smP_less f _ _ _ _ h3
      obtain ⟨r', o'⟩ := a
      obtain ⟨rfl, _, _⟩ := mdL_ok h4
      show b.1.length < r.length
      omega
theorem dsP_le {f : Nat} {stop : Int} {r : List Nat} {o : List Nod} {a : List Nat × List Nod} (h : dsP f stop r o = .ok a) : a.1.length ≤ r.length := by
  unfold dsP at h
  split at h
  · obtain ⟨r', o'⟩ := a
    obtain ⟨rfl, _, _⟩ := mdL_ok h
    exact Nat.le_refl _
  · exact Nat.le_of_lt (smP_less f _ _ _ _ h)
theorem mst_cases (c : Nat) (r : List Nat) (o : List Nod) : (∃ q, r = c :: q ∧ mstN c r o = .ok (q, o)) ∨ (pk r ≠ (c : Int) ∧ mstN c r o = .error 2) := by
  cases r with
  | nil => exact .inr ⟨by simp only [pk]; omega, rfl⟩
  | cons d r =>
    by_cases h : d = c
    · subst h; exact .inl ⟨r, rfl, by rw [mstN, if_pos rfl]⟩
    · exact .inr ⟨by simp only [pk]; omega, by rw [mstN, if_neg h]⟩

section
variable {B X : Nat}
/-- The reader follows a plain way where not more than so much is left. -/
def Follows (B X F : Nat) (args : Array Value) (f : Nat) (d : List Nat → List Nod → Rd) : Prop := ∀ r o, Sml r → o.length ≤ 80 → r.length < f → EndC B X F args r o (d r o)
theorem pair_any {f : Nat} (ih : Follows B X 61 #[rdP X] f (vlN f)) (k : Int) :
    Follows B X 71 #[rdP X, .int .i64 k] f (fun r o => (vlN f r o).bind fun a => (vlN f a.1 a.2).bind fun b => mdN b.1 b.2 ⟨k, 0, lstI a.2, lstI b.2, 0⟩) := by
  intro r o hr ho hl
  show EndC _ _ _ _ _ _ ((vlN f r o).bind _)
  have h1 := ih r o hr ho hl
  cases e1 : vlN f r o with
  | error c => rw [e1] at h1; exact pair_e0 h1
  | ok a =>
    rw [e1] at h1
    obtain ⟨k1, hr1, ho1⟩ := h1
    have l1 := vlN_less f _ _ _ e1
    have h2 := ih a.1 a.2 hr1 ho1 (by omega)
    show EndC _ _ _ _ _ _ ((vlN f a.1 a.2).bind _)
    cases e2 : vlN f a.1 a.2 with
    | error c => rw [e2] at h2; exact pair_e1 k1 h2
    | ok b =>
      rw [e2] at h2
      obtain ⟨k2, hr2, ho2⟩ := h2
      have h3 := add_end B X hr2 ho2 ⟨k, 0, lstI a.2, lstI b.2, 0⟩
      show EndC _ _ _ _ _ _ (mdN b.1 b.2 _)
      cases e3 : mdN b.1 b.2 ⟨k, 0, lstI a.2, lstI b.2, 0⟩ with
      | error c => rw [e3] at h3; exact pair_e2 k1 k2 h3
      | ok d => rw [e3] at h3; exact ⟨pair_ok k1 k2 h3.1, h3.2⟩
theorem value_any : ∀ f : Nat, Follows B X 61 #[rdP X] f (vlN f)
  | 0 => fun r o _ _ hl => absurd hl (by omega)
  | f + 1 => by
    have ih := value_any f
    intro r o hr ho hl
    cases r with
    | nil => exact valv_e1 (s := -1) (by omega) (by omega) (by omega) (by omega) (next_ok B X o hr) (var_er B X [] o (by omega) (by omega) (by omega))
    | cons c r =>
      have k0 := next_ok B X o hr
      have hc := hr.head
      have hr1 := hr.tail
      rw [show pk (c :: r) = (c : Int) from rfl, show (c :: r).tail = r from rfl] at k0
      have hl1 : r.length < f := by rw [List.length_cons] at hl; omega
      unfold vlN
      by_cases h43 : c = 43
      · subst h43
        have h1 := pair_any ih 2 r o hr1 ho hl1
        show EndC _ _ _ _ _ _ ((vlN f r o).bind fun a => (vlN f a.1 a.2).bind fun b => mdN b.1 b.2 ⟨2, 0, lstI a.2, lstI b.2, 0⟩)
        simp only at h1
        cases e1 : ((vlN f r o).bind fun a => (vlN f a.1 a.2).bind fun b => mdN b.1 b.2 ⟨2, 0, lstI a.2, lstI b.2, 0⟩) with
        | error c => rw [e1] at h1; exact val43_e1 k0 h1
        | ok d => rw [e1] at h1; exact ⟨val43_ok k0 h1.1, h1.2⟩
      by_cases h60 : c = 60
      · subst h60
        have h1 := pair_any ih 3 r o hr1 ho hl1
        show EndC _ _ _ _ _ _ ((vlN f r o).bind fun a => (vlN f a.1 a.2).bind fun b => mdN b.1 b.2 ⟨3, 0, lstI a.2, lstI b.2, 0⟩)
        simp only at h1
        cases e1 : ((vlN f r o).bind fun a => (vlN f a.1 a.2).bind fun b => mdN b.1 b.2 ⟨3, 0, lstI a.2, lstI b.2, 0⟩) with
        | error c => rw [e1] at h1; exact val60_e1 k0 h1
        | ok d => rw [e1] at h1; exact ⟨val60_ok k0 h1.1, h1.2⟩
      by_cases h61 : c = 61
      · subst h61
        have h1 := pair_any ih 4 r o hr1 ho hl1
        show EndC _ _ _ _ _ _ ((vlN f r o).bind fun a => (vlN f a.1 a.2).bind fun b => mdN b.1 b.2 ⟨4, 0, lstI a.2, lstI b.2, 0⟩)
        simp only at h1
        cases e1 : ((vlN f r o).bind fun a => (vlN f a.1 a.2).bind fun b => mdN b.1 b.2 ⟨4, 0, lstI a.2, lstI b.2, 0⟩) with
        | error c => rw [e1] at h1; exact val61_e1 k0 h1
        | ok d => rw [e1] at h1; exact ⟨val61_ok k0 h1.1, h1.2⟩
      have hop : opK c = none := by unfold opK; rw [if_neg h43, if_neg h60, if_neg h61]
      rw [hop]
      simp only
      by_cases h35 : c = 35
      · subst h35
        rw [if_pos rfl]
        by_cases hg : goodD (tkW r)
        · rw [numN_yes o hg]
          have h1 := num_ok B X o hr1 hg
          have h2 := add_end B X hr1.drop ho ⟨0, (valD (tkW r) : Nat), 0, 0, 0⟩
          cases e2 : mdN (dpW r) o ⟨0, (valD (tkW r) : Nat), 0, 0, 0⟩ with
          | error c => rw [e2] at h2; exact val35_e2 k0 h1 h2
          | ok d => rw [e2] at h2; exact ⟨val35_ok k0 h1 h2.1, h2.2⟩
        · rw [numN_no o hg]
          exact val35_e1 k0 (num_er B X o hr1 hg)
      rw [if_neg h35]
      by_cases hv : 97 ≤ c ∧ c < 103
      · rw [if_pos hv]
        have h1 := var_ok B X r o hv.1 hv.2
        have h2 := add_end B X hr1 ho ⟨1, ((c - 97 : Nat) : Int), 0, 0, 0⟩
        cases e2 : mdN r o ⟨1, ((c - 97 : Nat) : Int), 0, 0, 0⟩ with
        | error d => rw [e2] at h2; exact valv_e2 (by omega) (by omega) (by omega) (by omega) k0 h1 h2
        | ok d => rw [e2] at h2; exact ⟨valv_ok (by omega) (by omega) (by omega) (by omega) k0 h1 h2.1, h2.2⟩
      · rw [if_neg hv]
        exact valv_e1 (by omega) (by omega) (by omega) (by omega) k0 (var_er B X r o (by omega) (by omega) (by omega))
theorem set_any (f : Nat) (n : Int) :
    Follows B X 63 #[rdP X, .int .i64 n] f (fun r o => (mstN 61 r o).bind fun a => (vlN f a.1 a.2).bind fun b => (mstN 59 b.1 b.2).bind fun e => mdN e.1 e.2 ⟨6, n, lstI b.2, 0, 0⟩) := by
  intro r o hr ho hl
  show EndC _ _ _ _ _ _ ((mstN 61 r o).bind _)
  rcases mst_cases 61 r o with ⟨q, rfl, e0⟩ | ⟨h, e0⟩
  · rw [e0]
    have k0 := need_ok B X o hr
    have hq := hr.tail
    have l0 : q.length < f := by rw [List.length_cons] at hl; omega
    have h1 := value_any (B := B) (X := X) f q o hq ho l0
    show EndC _ _ _ _ _ _ ((vlN f q o).bind _)
    cases e1 : vlN f q o with
    | error c => rw [e1] at h1; exact set_e1 k0 h1
    | ok a =>
      rw [e1] at h1
      obtain ⟨k1, hr1, ho1⟩ := h1
      show EndC _ _ _ _ _ _ ((mstN 59 a.1 a.2).bind _)
      rcases mst_cases 59 a.1 a.2 with ⟨p, ep, e2⟩ | ⟨h, e2⟩
      · rw [e2]
        rw [ep] at k1 hr1
        have k2 := need_ok B X a.2 hr1
        have h3 := add_end B X hr1.tail ho1 ⟨6, n, lstI a.2, 0, 0⟩
        show EndC _ _ _ _ _ _ (mdN p a.2 _)
        cases e3 : mdN p a.2 ⟨6, n, lstI a.2, 0, 0⟩ with
        | error c => rw [e3] at h3; exact set_e3 k0 k1 k2 h3
        | ok d => rw [e3] at h3; exact ⟨set_ok k0 k1 k2 h3.1, h3.2⟩
      · rw [e2]
        exact set_e2 k0 k1 (need_er B X a.2 hr1 h)
  · rw [e0]
    exact set_e0 (need_er B X o hr h)
theorem brac_any {f : Nat} {d : List Nat → List Nod → Rd} (ih : Follows B X 18 #[rdP X, .int .i64 125] f d) : Follows B X 62 #[rdP X] f (blkP d) := by
  intro r o hr ho hl
  show EndC _ _ _ _ _ _ ((mstN 123 r o).bind _)
  rcases mst_cases 123 r o with ⟨q, rfl, e0⟩ | ⟨h, e0⟩
  · rw [e0]
    have k0 := need_ok B X o hr
    have hq := hr.tail
    have l0 : q.length < f := by rw [List.length_cons] at hl; omega
    have h1 := ih q o hq ho l0
    show EndC _ _ _ _ _ _ ((d q o).bind _)
    cases e1 : d q o with
    | error c => rw [e1] at h1; exact brac_e1 k0 h1
    | ok a =>
      rw [e1] at h1
      obtain ⟨k1, hr1, ho1⟩ := h1
      show EndC _ _ _ _ _ _ (mstN 125 a.1 a.2)
      rcases mst_cases 125 a.1 a.2 with ⟨p, ep, e2⟩ | ⟨h, e2⟩
      · rw [e2]
        rw [ep] at k1 hr1
        exact ⟨brac_ok k0 k1 (need_ok B X a.2 hr1), hr1.tail, ho1⟩
      · rw [e2]
        exact brac_e2 k0 k1 (need_er B X a.2 hr1 h)
  · rw [e0]
    exact brac_e0 (need_er B X o hr h)
theorem deed_any {f : Nat} {d : List Nat → List Nod → Rd} (ih : Follows B X 18 #[rdP X, .int .i64 125] f d) (hd : ∀ r o a, d r o = .ok a → a.1.length ≤ r.length) : Follows B X 46 #[rdP X] (f + 1) (oneP f d) := by
  intro r o hr ho hl
  cases r with
  | nil => exact dst_e1 (s := -1) (by omega) (by omega) (next_ok B X o hr) (var_er B X [] o (by omega) (by omega) (by omega))
  | cons c r =>
    have k0 := next_ok B X o hr
    have hc := hr.head
    have hr1 := hr.tail
    rw [show pk (c :: r) = (c : Int) from rfl, show (c :: r).tail = r from rfl] at k0
    have hl1 : r.length < f := by rw [List.length_cons] at hl; omega
    unfold oneP
    dsimp only
    by_cases h63 : c = 63
    · subst h63
      rw [if_pos rfl]
      have h1 := value_any (B := B) (X := X) f r o hr1 ho hl1
      cases e1 : vlN f r o with
      | error c => rw [e1] at h1; exact dif_e1 k0 h1
      | ok a =>
        rw [e1] at h1
        obtain ⟨k1, hr2, ho2⟩ := h1
        have l1 := vlN_less f _ _ _ e1
        have h2 := brac_any ih a.1 a.2 hr2 ho2 (by omega)
        show EndC _ _ _ _ _ _ ((blkP d a.1 a.2).bind _)
        cases e2 : blkP d a.1 a.2 with
        | error c => rw [e2] at h2; exact dif_e2 k0 k1 h2
        | ok b =>
          rw [e2] at h2
          obtain ⟨k2, hr3, ho3⟩ := h2
          have l2 := blkP_less hd e2
          have h3 := brac_any ih b.1 b.2 hr3 ho3 (by omega)
          show EndC _ _ _ _ _ _ ((blkP d b.1 b.2).bind _)
          cases e3 : blkP d b.1 b.2 with
          | error c => rw [e3] at h3; exact dif_e3 k0 k1 k2 h3
          | ok e =>
            rw [e3] at h3
            obtain ⟨k3, hr4, ho4⟩ := h3
            have h4 := add_end B X hr4 ho4 ⟨8, 0, lstI a.2, lstI b.2, lstI e.2⟩
            show EndC _ _ _ _ _ _ (mdN e.1 e.2 _)
            cases e4 : mdN e.1 e.2 ⟨8, 0, lstI a.2, lstI b.2, lstI e.2⟩ with
            | error c => rw [e4] at h4; exact dif_e4 k0 k1 k2 k3 h4
            | ok g => rw [e4] at h4; exact ⟨dif_ok k0 k1 k2 k3 h4.1, h4.2⟩
    rw [if_neg h63]
    by_cases h64 : c = 64
    · subst h64
      rw [if_pos rfl]
      have h1 := value_any (B := B) (X := X) f r o hr1 ho hl1
      cases e1 : vlN f r o with
      | error c => rw [e1] at h1; exact dwh_e1 k0 h1
      | ok a =>
        rw [e1] at h1
        obtain ⟨k1, hr2, ho2⟩ := h1
        have l1 := vlN_less f _ _ _ e1
        have h2 := brac_any ih a.1 a.2 hr2 ho2 (by omega)
        show EndC _ _ _ _ _ _ ((blkP d a.1 a.2).bind _)
        cases e2 : blkP d a.1 a.2 with
        | error c => rw [e2] at h2; exact dwh_e2 k0 k1 h2
        | ok b =>
          rw [e2] at h2
          obtain ⟨k2, hr3, ho3⟩ := h2
          have h4 := add_end B X hr3 ho3 ⟨9, 0, lstI a.2, lstI b.2, 0⟩
          show EndC _ _ _ _ _ _ (mdN b.1 b.2 _)
          cases e4 : mdN b.1 b.2 ⟨9, 0, lstI a.2, lstI b.2, 0⟩ with
          | error c => rw [e4] at h4; exact dwh_e3 k0 k1 k2 h4
          | ok g => rw [e4] at h4; exact ⟨dwh_ok k0 k1 k2 h4.1, h4.2⟩
    rw [if_neg h64]
    by_cases hv : 97 ≤ c ∧ c < 103
    · rw [if_pos hv]
      have h1 := var_ok B X r o hv.1 hv.2
      have h2 := set_any (B := B) (X := X) f ((c - 97 : Nat) : Int) r o hr1 ho hl1
      simp only at h2
      cases e2 : ((mstN 61 r o).bind fun a => (vlN f a.1 a.2).bind fun b => (mstN 59 b.1 b.2).bind fun e => mdN e.1 e.2 ⟨6, ((c - 97 : Nat) : Int), lstI b.2, 0, 0⟩) with
      | error d => rw [e2] at h2; exact dst_e2 (by omega) (by omega) k0 h1 h2
      | ok d => rw [e2] at h2; exact ⟨dst_ok (by omega) (by omega) k0 h1 h2.1, h2.2⟩
    · rw [if_neg hv]
      exact dst_e1 (by omega) (by omega) k0 (var_er B X r o (by omega) (by omega) (by omega))
theorem deeds_any {f : Nat} {stop : Int} (ih : Follows B X 30 #[rdP X, .int .i64 stop] f (smP f stop)) : Follows B X 18 #[rdP X, .int .i64 stop] f (dsP f stop) := by
  intro r o hr ho hl
  have k0 := peek_ok B X o hr
  unfold dsP
  by_cases hp : pk r = stop
  · rw [if_pos hp]
    rw [hp] at k0
    have h1 := add_end B X hr ho skN
    cases e1 : mdN r o skN with
    | error c => rw [e1] at h1; exact dsk_e1 k0 h1
    | ok d => rw [e1] at h1; exact ⟨dsk_ok k0 h1.1, h1.2⟩
  · rw [if_neg hp]
    have h1 := ih r o hr ho hl
    cases e1 : smP f stop r o with
    | error c => rw [e1] at h1; exact dsm_e1 hp k0 h1
    | ok d => rw [e1] at h1; exact ⟨dsm_ok hp k0 h1.1, h1.2⟩
theorem someDeeds_any : ∀ (f : Nat) (stop : Int), Follows B X 30 #[rdP X, .int .i64 stop] f (smP f stop)
  | 0, _ => fun r o _ _ hl => absurd hl (by omega)
  | f + 1, stop => by
    have ihd := deeds_any (B := B) (X := X) (someDeeds_any f 125)
    have hd := deed_any ihd (fun r o a h => dsP_le h)
    have ih := someDeeds_any f stop
    intro r o hr ho hl
    rw [smP_succ]
    have h1 := hd r o hr ho hl
    cases e1 : oneP f (dsP f 125) r o with
    | error c => rw [e1] at h1; exact sod_e0 h1
    | ok a =>
      rw [e1] at h1
      obtain ⟨k1, hr1, ho1⟩ := h1
      have l1 := oneP_less (fun r o a h => dsP_le h) e1
      have k2 := peek_ok B X a.2 hr1
      show EndC _ _ _ _ _ _ (if pk a.1 = stop then .ok a else _)
      by_cases hp : pk a.1 = stop
      · rw [if_pos hp]
        rw [hp] at k2
        exact ⟨sod_one k1 k2, hr1, ho1⟩
      · rw [if_neg hp]
        have h3 := ih a.1 a.2 hr1 ho1 (by omega)
        cases e3 : smP f stop a.1 a.2 with
        | error c => rw [e3] at h3; exact sod_e2 hp k1 k2 h3
        | ok b =>
          rw [e3] at h3
          obtain ⟨k3, hr3, ho3⟩ := h3
          have h4 := add_end B X hr3 ho3 ⟨7, 0, lstI a.2, lstI b.2, 0⟩
          show EndC _ _ _ _ _ _ (mdN b.1 b.2 _)
          cases e4 : mdN b.1 b.2 ⟨7, 0, lstI a.2, lstI b.2, 0⟩ with
          | error c => rw [e4] at h4; exact sod_e3 hp k1 k2 k3 h4
          | ok g => rw [e4] at h4; exact ⟨sod_ok hp k1 k2 k3 h4.1, h4.2⟩
end
end Go.Proofs.YtdmdoikkemfcaabDoor
