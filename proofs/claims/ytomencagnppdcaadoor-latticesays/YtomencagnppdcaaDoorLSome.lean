/- The walk of the law LatticeSays where there is an order of things. -/
import Derived.WalkKit
import Derived.LoopTactic
import Derived.Test.YtomencagnppdcaaDoorLSays
namespace Go.Proofs.YtomencagnppdcaaDoor
open Go.RowKit

theorem refRes_form (o : Option Nat) : ∃ v : Int, refRes o = #[.int .i64 v, .bool o.isSome] := by cases o <;> exact ⟨_, rfl⟩

/-- How far the law has looked: all pairs ahead have both bounds, or the relation is no lattice. -/
def Looked (m : Nat) (C : Nat → Nat) (i j : Nat) (b : Bool) : Prop :=
  (b = true → ∀ p q, p < m → q < m → (p < i ∨ (p = i ∧ q < j)) → (bnd m C p q).isSome = true ∧ (bnd m (turnN m C) p q).isSome = true) ∧ (b = false → isLat m C = false)
theorem Looked.start {m : Nat} {C : Nat → Nat} : Looked m C 0 0 true := ⟨fun _ p q _ _ h => absurd h (by omega), fun h => by cases h⟩
theorem Looked.row {m : Nat} {C : Nat → Nat} {i j : Nat} {b : Bool} (h : Looked m C i j b) (hj : b = true → j = m) : Looked m C (i + 1) 0 b :=
  ⟨fun hb p q hp hq hlt => h.1 hb p q hp hq (by have := hj hb; omega), h.2⟩
theorem Looked.next {m : Nat} {C : Nat → Nat} {i j : Nat} (h : Looked m C i j true) (hi : i < m) (hj : j < m) : Looked m C i (j + 1) ((bnd m C i j).isSome && (bnd m (turnN m C) i j).isSome) := by
  refine ⟨fun hb p q hp hq hlt => ?_, fun hb => ?_⟩
  · rw [Bool.and_eq_true] at hb
    by_cases e : p = i ∧ q = j
    · rw [e.1, e.2]; exact hb
    · exact h.1 rfl p q hp hq (by omega)
  · cases hl : isLat m C with
    | false => rfl
    | true =>
      unfold isLat at hl
      rw [Bool.and_eq_true, Bool.and_eq_true] at hl
      have h1 := (allBnd_iff m C).1 hl.1.2 i j hi hj
      have h2 := (allBnd_iff m (turnN m C)).1 hl.2 i j hi hj
      rw [h1, h2] at hb; cases hb
theorem Looked.ends {m : Nat} {C : Nat → Nat} {i j : Nat} {b : Bool} (h : Looked m C i j b) (h0 : 0 < m) (he : b = true → i = m) : isLat m C = b := by
  cases b with
  | false => exact h.2 rfl
  | true =>
    have hi := he rfl
    have hall := fun p q hp hq => h.1 rfl p q hp hq (.inl (by omega))
    unfold isLat
    rw [decide_eq_true h0, (allBnd_iff m C).2 fun p q hp hq => (hall p q hp hq).1, (allBnd_iff m (turnN m C)).2 fun p q hp hq => (hall p q hp hq).2]
    rfl

set_option maxRecDepth 100000 in
set_option maxHeartbeats 4000000 in
theorem lsays_some (a : Option Addr) (m cap : Nat) (x y : Int) (C : Nat → Nat) (hm : m ≤ 12) (h0 : 0 < m) (w : World)
    (hErr : ∀ w1, Below w.heap.size w w1 → ErrT w1)
    (hR : Calls Tryd.prog 8 #[.slice a m cap] w fun e w' => e = .returned (.int .i64 0) ∧ w' = w)
    (hO : Calls Tryd.prog 9 #[.slice a m cap] w fun e w' => e = .returned (.bool true) ∧ Below w.heap.size w w')
    (hI : ∀ w1, Below w.heap.size w w1 → Calls Tryd.prog 11 #[.slice a m cap] w1 fun e w' => e = .returned (.tuple #[.bool (isLat m C), .nilIface]) ∧ Below w1.heap.size w1 w')
    (hBd : ∀ (d : Bool) (p q : Nat), p < m → q < m → ∀ w1, Below w.heap.size w w1 → Calls Tryd.prog 10 #[.slice a m cap, .int .i64 p, .int .i64 q, .bool d] w1 fun e w' => e = .returned (.tuple (refRes (bnd m (dirD m C d) p q))) ∧ Below w1.heap.size w1 w')
    (htail : LTail w a m cap x y) :
    Calls Tryd.prog 3 #[.slice a m cap, .int .i64 x, .int .i64 y] w fun e w' => e = .returned (.bool true) ∧ Below w.heap.size w w' := by
  have hpi : (0 : Int) < (m : Int) := by omega
  have HBd : Hid (∀ (d : Bool) (p q : Nat), p < m → q < m → ∀ w1, Below w.heap.size w w1 → Calls Tryd.prog 10 #[.slice a m cap, .int .i64 p, .int .i64 q, .bool d] w1 fun e w' => e = .returned (.tuple (refRes (bnd m (dirD m C d) p q))) ∧ Below w1.heap.size w1 w') := hBd
  have HT : Hid (LTail w a m cap x y) := htail
  clear hBd htail
  go_enter Tryd.func3, Tryd.ntmps3
  go_wp2_with (first | (go_at_call 8; refine hR.mono ?_; rintro e w' ⟨rfl, rfl⟩) | (go_at_call 9; refine hO.mono ?_; rintro e w1 ⟨rfl, hB⟩))
  clear hR hO
  go_loopw [8, 9] (fun is i wr => ∃ (b : Bool) (k : Nat), k ≤ m ∧ is = .bool b ∧ i = .int .i64 k ∧ Hid (Looked m C k 0 b) ∧ Below w'.heap.size w' wr) (fun _ i _ => m - (intOf i).toNat)
  case atStart => exact ⟨true, 0, by omega, rfl, rfl, Looked.start, hB⟩
  case round =>
    clear hB
    obtain ⟨b, k, hk, rfl, rfl, HL, hB⟩ := hrel
    by_cases hlt : k < m
    · have hki : (k : Int) < (m : Int) := by omega
      cases b with
      | false =>
        have hIl := HL.out.ends h0 (fun h => by cases h)
        rw [hIl] at hI
        have htail := HT.out
        clear HT HL HBd hIl
        rcases htail with ⟨hout, hJ, hM⟩ | ⟨p, q, o1, o2, rfl, rfl, hp, hq, hB1, hB2, hJ, hM⟩
        · rcases hout with hx | ⟨hx, hx'⟩ | ⟨hx, hx', hy⟩ | ⟨hx, hx', hy, hy'⟩
          all_goals as_aux_lemma =>
            go_wp2_with (first | (go_at_call 11; refine (hI _ hB).mono ?_; rintro e w1 ⟨rfl, S⟩; replace hB := hB.trans (S.mono hB.size); clear S) | (go_at_call 12; refine (error_held _ _ _ (hErr _ hB) (by first | exact .inl ⟨rfl, rfl⟩ | exact .inr rfl)).mono ?_; rintro e w1 ⟨rfl, S⟩; replace hB := hB.trans (S.mono hB.size); clear S) | (go_at_call 13; refine (hJ _ hB).mono ?_; rintro e w1 ⟨rfl, S⟩; replace hB := hB.trans (S.mono hB.size); clear S) | (go_at_call 14; refine (hM _ hB).mono ?_; rintro e w1 ⟨rfl, S⟩; replace hB := hB.trans (S.mono hB.size); clear S))
            go_ret
            exact ⟨rfl, hB⟩
        · have hpi : (p : Int) < (m : Int) := by omega
          have hqi : (q : Int) < (m : Int) := by omega
          cases o1 <;> cases o2
          all_goals as_aux_lemma =>
            simp only [refRes, bndRes] at hB1 hB2 hJ hM
            go_wp2_with (first | (go_at_call 11; refine (hI _ hB).mono ?_; rintro e w1 ⟨rfl, S⟩; replace hB := hB.trans (S.mono hB.size); clear S) | (go_at_call 12; refine (error_held _ _ _ (hErr _ hB) (by first | exact .inl ⟨rfl, rfl⟩ | exact .inr rfl)).mono ?_; rintro e w1 ⟨rfl, S⟩; replace hB := hB.trans (S.mono hB.size); clear S) | (go_at_call 13; refine (hJ _ hB).mono ?_; rintro e w1 ⟨rfl, S⟩; replace hB := hB.trans (S.mono hB.size); clear S) | (go_at_call 14; refine (hM _ hB).mono ?_; rintro e w1 ⟨rfl, S⟩; replace hB := hB.trans (S.mono hB.size); clear S) | (go_at_call 10; refine (hB1 _ hB).mono ?_; rintro e w1 ⟨rfl, S⟩; replace hB := hB.trans (S.mono hB.size); clear S; clear hB1) | (go_at_call 10; refine (hB2 _ hB).mono ?_; rintro e w1 ⟨rfl, S⟩; replace hB := hB.trans (S.mono hB.size); clear S))
            go_ret
            exact ⟨rfl, hB⟩
      | true =>
        go_wp2
        go_loopw [8, 10] (fun is j wr => ∃ (b : Bool) (z : Nat), z ≤ m ∧ is = .bool b ∧ j = .int .i64 z ∧ Hid (Looked m C k z b) ∧ Below w'.heap.size w' wr) (fun _ j _ => m - (intOf j).toNat)
        case atStart => exact ⟨true, 0, by omega, rfl, rfl, HL, hB⟩
        case round =>
          clear hB
          obtain ⟨b, z, hz, rfl, rfl, HL2, hB⟩ := hrel
          by_cases hzt : z < m
          · have hzi : (z : Int) < (m : Int) := by omega
            cases b with
            | false =>
              have HN : Hid (Looked m C (k + 1) 0 false) := HL2.out.row fun h => by cases h
              go_wp2
              go_roundw
              case rel => exact ⟨false, k + 1, by omega, rfl, by go_num, HN, hB⟩
              case measure => simp [intOf]; omega
            | true =>
              have hB1 := HBd.out false k z hlt hzt
              have hB2 := HBd.out true k z hlt hzt
              have HN : Hid (Looked m C k (z + 1) ((bnd m C k z).isSome && (bnd m (turnN m C) k z).isSome)) := HL2.out.next hlt hzt
              obtain ⟨v1, e1⟩ := refRes_form (bnd m (dirD m C false) k z)
              obtain ⟨v2, e2⟩ := refRes_form (bnd m (dirD m C true) k z)
              rw [e1] at hB1
              rw [e2] at hB2
              obtain ⟨s1, f1⟩ : ∃ s, (bnd m C k z).isSome = s := ⟨_, rfl⟩
              obtain ⟨s2, f2⟩ : ∃ s, (bnd m (turnN m C) k z).isSome = s := ⟨_, rfl⟩
              rw [show (bnd m (dirD m C false) k z).isSome = s1 from f1] at hB1
              rw [show (bnd m (dirD m C true) k z).isSome = s2 from f2] at hB2
              rw [f1, f2] at HN
              clear e1 e2 f1 f2 HL2 HBd HT
              cases s1 <;> cases s2
              all_goals
                go_wp2_with (first | (go_at_call 10; refine (hB1 _ hB).mono ?_; rintro e w1 ⟨rfl, S⟩; replace hB := hB.trans (S.mono hB.size); clear S; clear hB1) | (go_at_call 10; refine (hB2 _ hB).mono ?_; rintro e w1 ⟨rfl, S⟩; replace hB := hB.trans (S.mono hB.size); clear S))
                go_roundw
                case rel => exact ⟨_, z + 1, by omega, rfl, by go_num, HN, hB⟩
                case measure => simp [intOf]; omega
          · have HN : Hid (Looked m C (k + 1) 0 b) := HL2.out.row fun _ => by omega
            go_wp2
            go_roundw
            case rel => exact ⟨b, k + 1, by omega, rfl, by go_num, HN, hB⟩
            case measure => simp [intOf]; omega
    · have hki : ¬ (k : Int) < (m : Int) := by omega
      have hIl := HL.out.ends h0 (fun _ => by omega)
      rw [hIl] at hI
      have htail := HT.out
      clear HT HL HBd hIl
      rcases htail with ⟨hout, hJ, hM⟩ | ⟨p, q, o1, o2, rfl, rfl, hp, hq, hB1, hB2, hJ, hM⟩
      · rcases hout with hx | ⟨hx, hx'⟩ | ⟨hx, hx', hy⟩ | ⟨hx, hx', hy, hy'⟩
        all_goals as_aux_lemma =>
          go_wp2_with (first | (go_at_call 11; refine (hI _ hB).mono ?_; rintro e w1 ⟨rfl, S⟩; replace hB := hB.trans (S.mono hB.size); clear S) | (go_at_call 12; refine (error_held _ _ _ (hErr _ hB) (by first | exact .inl ⟨rfl, rfl⟩ | exact .inr rfl)).mono ?_; rintro e w1 ⟨rfl, S⟩; replace hB := hB.trans (S.mono hB.size); clear S) | (go_at_call 13; refine (hJ _ hB).mono ?_; rintro e w1 ⟨rfl, S⟩; replace hB := hB.trans (S.mono hB.size); clear S) | (go_at_call 14; refine (hM _ hB).mono ?_; rintro e w1 ⟨rfl, S⟩; replace hB := hB.trans (S.mono hB.size); clear S))
          go_ret
          exact ⟨rfl, hB⟩
      · have hpi : (p : Int) < (m : Int) := by omega
        have hqi : (q : Int) < (m : Int) := by omega
        cases o1 <;> cases o2
        all_goals as_aux_lemma =>
          simp only [refRes, bndRes] at hB1 hB2 hJ hM
          go_wp2_with (first | (go_at_call 11; refine (hI _ hB).mono ?_; rintro e w1 ⟨rfl, S⟩; replace hB := hB.trans (S.mono hB.size); clear S) | (go_at_call 12; refine (error_held _ _ _ (hErr _ hB) (by first | exact .inl ⟨rfl, rfl⟩ | exact .inr rfl)).mono ?_; rintro e w1 ⟨rfl, S⟩; replace hB := hB.trans (S.mono hB.size); clear S) | (go_at_call 13; refine (hJ _ hB).mono ?_; rintro e w1 ⟨rfl, S⟩; replace hB := hB.trans (S.mono hB.size); clear S) | (go_at_call 14; refine (hM _ hB).mono ?_; rintro e w1 ⟨rfl, S⟩; replace hB := hB.trans (S.mono hB.size); clear S) | (go_at_call 10; refine (hB1 _ hB).mono ?_; rintro e w1 ⟨rfl, S⟩; replace hB := hB.trans (S.mono hB.size); clear S; clear hB1) | (go_at_call 10; refine (hB2 _ hB).mono ?_; rintro e w1 ⟨rfl, S⟩; replace hB := hB.trans (S.mono hB.size); clear S))
          go_ret
          exact ⟨rfl, hB⟩
end Go.Proofs.YtomencagnppdcaaDoor
