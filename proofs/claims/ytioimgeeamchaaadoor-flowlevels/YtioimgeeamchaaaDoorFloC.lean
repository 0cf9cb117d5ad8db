/- Each node of a right program but the last is a part of just one node, plainly. -/
import Derived.Test.YtioimgeeamchaaaDoorFloB
namespace Go.Proofs.YtioimgeeamchaaaDoor
open Go.RowKit
set_option maxRecDepth 100000
set_option linter.unusedVariables false

/-- How often a number stands in a list. -/
def cnt (q : Nat) : List Int → Nat
  | [] => 0
  | p :: ps => (if p.toNat = q then 1 else 0) + cnt q ps
theorem cnt_pos {q : Nat} : ∀ {ps : List Int} {j : Nat} {p : Int}, ps[j]? = some p → p.toNat = q → 0 < cnt q ps
  | [], j, p, h, _ => by simp at h
  | x :: ps, 0, p, h, e => by
    simp only [List.getElem?_cons_zero, Option.some.injEq] at h
    subst h
    rw [cnt, if_pos e]; omega
  | x :: ps, j + 1, p, h, e => by
    simp only [List.getElem?_cons_succ] at h
    have := cnt_pos h e
    rw [cnt]; omega
theorem cnt_two {q : Nat} : ∀ {ps : List Int} {j j' : Nat} {p p' : Int}, ps[j]? = some p → ps[j']? = some p' → p.toNat = q → p'.toNat = q → j ≠ j' → 2 ≤ cnt q ps
  | [], j, _, p, _, h, _, _, _, _ => by simp at h
  | x :: ps, 0, 0, _, _, _, _, _, _, h => absurd rfl h
  | x :: ps, 0, j + 1, p, p', h, h', e, e', _ => by
    simp only [List.getElem?_cons_zero, Option.some.injEq, List.getElem?_cons_succ] at h h'
    subst h
    have := cnt_pos h' e'
    rw [cnt, if_pos e]; omega
  | x :: ps, j + 1, 0, p, p', h, h', e, e', _ => by
    simp only [List.getElem?_cons_zero, Option.some.injEq, List.getElem?_cons_succ] at h h'
    subst h'
    have := cnt_pos h e
    rw [cnt, if_pos e']; omega
  | x :: ps, j + 1, j' + 1, p, p', h, h', e, e', hn => by
    simp only [List.getElem?_cons_succ] at h h'
    have := cnt_two h h' e e' (fun q => hn (by rw [q]))
    rw [cnt]; omega
theorem cnt_mem {q : Nat} : ∀ {ps : List Int}, 0 < cnt q ps → ∃ (j : Nat) (p : Int), ps[j]? = some p ∧ p.toNat = q
  | [], h => by simp [cnt] at h
  | x :: ps, h => by
    rw [cnt] at h
    by_cases e : x.toNat = q
    · exact ⟨0, x, rfl, e⟩
    · rw [if_neg e] at h
      obtain ⟨j, p, h1, h2⟩ := cnt_mem (q := q) (ps := ps) (by omega)
      exact ⟨j + 1, p, by simpa using h1, h2⟩
theorem prtC_cnt {l : List Nod} {i : Nat} {kd : Int} {q : Nat} : ∀ (ps : List Int) (k : Nat) (u u' : Nat → Nat), prtC l i kd k ps u = (0, u') → u' q = u q + cnt q ps ∧ (u q ≤ 1 → u' q ≤ 1)
  | [], k, u, u', h => by cases h; exact ⟨by simp [cnt], id⟩
  | p :: ps, k, u, u', h => by
    rw [prtC] at h
    by_cases h1 : p < 0 ∨ (i : Int) ≤ p
    · rw [if_pos h1] at h; cases h
    rw [if_neg h1] at h
    by_cases h2 : 1 < u p.toNat + 1 ∨ decide ((nthD l p.toNat).kd < 5) ≠ valB kd k
    · rw [if_pos h2] at h; cases h
    rw [if_neg h2] at h
    rw [not_or] at h2
    obtain ⟨a, b⟩ := prtC_cnt (q := q) ps (k + 1) _ u' h
    rw [cnt]
    by_cases e : p.toNat = q
    · rw [if_pos e]
      rw [e, upd_same] at a b
      rw [e] at h2
      exact ⟨by omega, fun _ => b (by omega)⟩
    · rw [if_neg e]
      rw [upd_other _ (fun z => e z.symm)] at a b
      exact ⟨by omega, b⟩
/-- How often a node is a part of one of the first n. -/
def cntU (l : List Nod) (q : Nat) : Nat → Nat
  | 0 => 0
  | n + 1 => cntU l q n + cnt q (prtL (nthD l n))
theorem nodC_cnt {l : List Nod} {q : Nat} : ∀ (n : Nat) (u : Nat → Nat), nodC l n = (0, u) → u q = cntU l q n ∧ u q ≤ 1
  | 0, u, h => by cases h; exact ⟨rfl, Nat.zero_le _⟩
  | n + 1, u, h => by
    obtain ⟨v, h1, _, h3⟩ := nodC_inv h
    obtain ⟨a, b⟩ := nodC_cnt (q := q) n v h1
    obtain ⟨c, d⟩ := prtC_cnt (q := q) _ _ _ _ h3
    exact ⟨by rw [c, a, cntU], d b⟩
theorem cntU_ge {l : List Nod} {q k : Nat} : ∀ {n : Nat}, k < n → cnt q (prtL (nthD l k)) ≤ cntU l q n
  | 0, h => absurd h (by omega)
  | n + 1, h => by
    rw [cntU]
    by_cases e : k = n
    · subst e; omega
    · have := cntU_ge (l := l) (q := q) (k := k) (n := n) (by omega); omega
theorem cntU_two {l : List Nod} {q k k' : Nat} : ∀ {n : Nat}, k < k' → k' < n → cnt q (prtL (nthD l k)) + cnt q (prtL (nthD l k')) ≤ cntU l q n
  | 0, _, h => absurd h (by omega)
  | n + 1, h, h' => by
    rw [cntU]
    by_cases e : k' = n
    · subst e
      have := cntU_ge (l := l) (q := q) h
      omega
    · have := cntU_two (l := l) (q := q) h (n := n) (by omega)
      omega
theorem cntU_mem {l : List Nod} {q : Nat} : ∀ {n : Nat}, 0 < cntU l q n → ∃ k, k < n ∧ 0 < cnt q (prtL (nthD l k))
  | 0, h => by simp [cntU] at h
  | n + 1, h => by
    rw [cntU] at h
    by_cases e : 0 < cnt q (prtL (nthD l n))
    · exact ⟨n, Nat.lt_succ_self _, e⟩
    · obtain ⟨k, hk, h2⟩ := cntU_mem (l := l) (q := q) (n := n) (by omega)
      exact ⟨k, by omega, h2⟩
theorem cnt_of_right {l : List Nod} (h : proC l = 0) (q : Nat) : cntU l q l.length ≤ 1 ∧ (q < l.length - 1 → cntU l q l.length = 1) := by
  unfold proC at h
  split at h
  · cases h
  split at h
  · cases h
  split at h
  · rename_i z; exact absurd h z
  rename_i z
  split at h
  · cases h
  rename_i hany
  have hu : nodC l l.length = (0, (nodC l l.length).2) := by rw [← Classical.not_not.1 z]
  obtain ⟨a, b⟩ := nodC_cnt (q := q) l.length _ hu
  refine ⟨by omega, fun hq => ?_⟩
  simp only [List.any_eq_true, List.mem_range, not_exists, not_and] at hany
  have := hany q hq
  simp at this
  omega
/-- Each node but the last is a part of one. -/
theorem parent_ex {l : List Nod} (h : proC l = 0) {i : Nat} (hi : i < l.length - 1) : ∃ k j : Nat, k < l.length ∧ (prtL (nthD l k))[j]? = some (i : Int) := by
  obtain ⟨k, hk, h2⟩ := cntU_mem (l := l) (q := i) (n := l.length) (by rw [(cnt_of_right h i).2 hi]; omega)
  obtain ⟨j, p, h3, h4⟩ := cnt_mem h2
  have := (rightP_of h).wf k hk p (List.mem_of_getElem? h3)
  exact ⟨k, j, hk, by rw [h3]; congr 1; omega⟩
/-- And of no other one. -/
theorem parent_one {l : List Nod} (h : proC l = 0) {i k k' j j' : Nat} (hk : k < l.length) (hk' : k' < l.length) (h1 : (prtL (nthD l k))[j]? = some (i : Int)) (h2 : (prtL (nthD l k'))[j']? = some (i : Int)) : k = k' ∧ j = j' := by
  have hle := (cnt_of_right h i).1
  have e1 := cnt_pos h1 (Int.toNat_natCast i)
  have e2 := cnt_pos h2 (Int.toNat_natCast i)
  have hkk : k = k' := by
    rcases Nat.lt_trichotomy k k' with c | c | c
    · have := cntU_two (l := l) (q := i) c hk'; omega
    · exact c
    · have := cntU_two (l := l) (q := i) c hk; omega
  subst hkk
  refine ⟨rfl, Classical.byContradiction fun hn => ?_⟩
  have := cnt_two h1 h2 (Int.toNat_natCast i) (Int.toNat_natCast i) hn
  have := cntU_ge (l := l) (q := i) hk
  omega
end Go.Proofs.YtioimgeeamchaaaDoor
