/- Of a right program: parts lie ahead, nodes are right, and texts are short. -/
import Derived.Test.YtioimgeeamchaaaDoorProC
namespace Go.Proofs.YtioimgeeamchaaaDoor
open Go.RowKit
set_option maxRecDepth 100000

/-- The sum over what is no part yet. -/
def sumU (f u : Nat → Nat) : Nat → Nat
  | 0 => 0
  | n + 1 => sumU f u n + if u n = 0 then f n else 0
theorem sumU_same {f u v : Nat → Nat} : ∀ n, (∀ j, j < n → u j = v j) → sumU f u n = sumU f v n
  | 0, _ => rfl
  | n + 1, h => by rw [sumU, sumU, sumU_same n fun j hj => h j (by omega), h n (by omega)]
theorem sumU_upd {f u : Nat → Nat} {p : Nat} (hp : u p = 0) : ∀ n, p < n → sumU f (upd u p 1) n + f p = sumU f u n
  | 0, h => absurd h (by omega)
  | n + 1, h => by
    rw [sumU, sumU]
    by_cases e : p = n
    · subst e
      rw [upd_same, if_neg (by decide), if_pos hp, sumU_same (v := u) p (fun j hj => upd_other u (show j ≠ p by omega))]
      omega
    · rw [upd_other _ (show n ≠ p from fun q => e q.symm)]
      have := sumU_upd (f := f) hp n (by omega)
      omega
theorem sumU_ge {f u : Nat → Nat} : ∀ n i, i < n → u i = 0 → f i ≤ sumU f u n
  | 0, _, h, _ => absurd h (by omega)
  | n + 1, i, h, hu => by
    rw [sumU]
    by_cases e : i = n
    · subst e; rw [if_pos hu]; omega
    · have := sumU_ge (f := f) n i (by omega) hu
      omega
theorem prtC_inv {l : List Nod} {i : Nat} {kd : Int} (f : Nat → Nat) : ∀ (ps : List Int) (k : Nat) (u u' : Nat → Nat), prtC l i kd k ps u = (0, u') →
    (∀ p ∈ ps, 0 ≤ p ∧ p < (i : Int)) ∧ sumU f u' i + (ps.map fun p => f p.toNat).sum = sumU f u i ∧ ∀ j, i ≤ j → u' j = u j
  | [], _, u, u', h => by cases h; exact ⟨by simp, by simp, fun _ _ => rfl⟩
  | p :: ps, k, u, u', h => by
    rw [prtC] at h
    by_cases h1 : p < 0 ∨ (i : Int) ≤ p
    · rw [if_pos h1] at h; cases h
    · rw [if_neg h1] at h
      by_cases h2 : 1 < u p.toNat + 1 ∨ decide ((nthD l p.toNat).kd < 5) ≠ valB kd k
      · rw [if_pos h2] at h; cases h
      · rw [if_neg h2] at h
        rw [not_or] at h2
        have hu : u p.toNat = 0 := by omega
        rw [hu, Nat.zero_add] at h
        obtain ⟨a, b, c⟩ := prtC_inv f ps (k + 1) _ u' h
        have e := sumU_upd (f := f) hu i (by omega)
        refine ⟨fun q hq => ?_, ?_, fun j hj => ?_⟩
        · rcases List.mem_cons.1 hq with rfl | hq
          · omega
          · exact a q hq
        · rw [List.map_cons, List.sum_cons]; omega
        · rw [c j hj, upd_other _ (show j ≠ p.toNat by omega)]
theorem nodC_stop {l : List Nod} {n m : Nat} {u : Nat → Nat} (h : nodC l (n + m) = (0, u)) : ∃ v, nodC l n = (0, v) := by
  induction m generalizing u with
  | zero => exact ⟨u, h⟩
  | succ m ih =>
    rw [Nat.add_succ, nodC] at h
    by_cases e : (nodC l (n + m)).1 ≠ 0
    · rw [if_pos e] at h; rw [h] at e; exact absurd rfl e
    · exact ih (u := (nodC l (n + m)).2) (Prod.ext (Decidable.not_not.1 e) rfl)
theorem nodC_inv {l : List Nod} {n : Nat} {u : Nat → Nat} (h : nodC l (n + 1) = (0, u)) : ∃ v, nodC l n = (0, v) ∧ kinB (nthD l n) = true ∧ prtC l n (nthD l n).kd 0 (prtL (nthD l n)) v = (0, u) := by
  obtain ⟨v, hv⟩ := nodC_stop (m := 1) h
  rw [nodC, hv, if_neg (by simp)] at h
  by_cases e : kinB (nthD l n) = false
  · rw [if_pos e] at h; cases h
  · rw [if_neg e] at h
    exact ⟨v, hv, by simpa using e, h⟩
/-- A node's text is not much longer than its parts'. -/
theorem txB_len (x : Nod) (t : Int → List Nat) : (txB x t).length ≤ ((prtL x).map fun p => (t p).length).sum + 8 := by
  have h7 : (digs x.num.toNat).length ≤ 7 := by
    have : ∀ (g n : Nat), (digF g n).length ≤ g := fun g => by
      induction g with
      | zero => intro n; exact Nat.le_refl 0
      | succ g ih =>
        intro n
        unfold digF
        split
        · simp
        · rw [List.length_append]
          have := ih (n / 10)
          simp; omega
    exact this 7 _
  have a6 : x.kd = 6 → prtL x = [x.pa] := fun e => by unfold prtL; rw [if_neg (by omega), if_pos e]
  have a8 : x.kd = 8 → prtL x = [x.pa, x.pb, x.pc] := fun e => by unfold prtL; rw [if_pos e]
  have a2 : (2 ≤ x.kd ∧ x.kd ≤ 4) ∨ x.kd = 7 ∨ x.kd = 9 → prtL x = [x.pa, x.pb] := fun e => by unfold prtL; rw [if_neg (by omega), if_neg (by omega), if_pos e]
  unfold txB
  split
  · simp; omega
  split
  · simp
  split
  · rw [a2 (by omega)]; simp
  split
  · rw [a2 (by omega)]; simp
  split
  · rw [a2 (by omega)]; simp
  split
  · rename_i e; rw [a6 e]; simp
  split
  · rw [a2 (by omega)]; simp
  split
  · rename_i e; rw [a8 e]; simp; omega
  split
  · rw [a2 (by omega)]; simp; omega
  · simp
/-- What is known of a right program. -/
structure RightP (l : List Nod) : Prop where
  some : 0 < l.length
  few : l.length ≤ 80
  wf : WfN l
  kin : ∀ i, i < l.length → kinB (nthD l i) = true
  short : ∀ i, i < l.length → (txN l (i : Int)).length ≤ 640
  deed : 5 ≤ (nthD l (l.length - 1)).kd
theorem txN_eq {l : List Nod} (h : WfN l) {i : Nat} (hi : i < l.length) : txN l (i : Int) = txB (nthD l i) (txN l) := by
  unfold txN
  rw [Int.toNat_natCast, txF]
  exact txB_like fun p q => txN_part h hi q
theorem rightP_of {l : List Nod} (h : proC l = 0) : RightP l := by
  unfold proC at h
  split at h
  · cases h
  rename_i h1
  split at h
  · cases h
  rename_i h2
  split at h
  · rename_i h3; exact absurd h h3
  rename_i h3
  split at h
  · cases h
  split at h
  · cases h
  rename_i h5
  have hn : nodC l l.length = (0, (nodC l l.length).2) := Prod.ext (Decidable.not_not.1 h3) rfl
  have pre : ∀ n, n ≤ l.length → ∃ v, nodC l n = (0, v) := fun n hn' => nodC_stop (m := l.length - n) (by rw [show n + (l.length - n) = l.length by omega]; exact hn)
  have wf : WfN l := fun i hi => by
    obtain ⟨v, hv⟩ := pre (i + 1) (by omega)
    obtain ⟨u, _, _, hp⟩ := nodC_inv hv
    exact (prtC_inv (fun _ => 0) _ _ _ _ hp).1
  have kin : ∀ i, i < l.length → kinB (nthD l i) = true := fun i hi => by
    obtain ⟨v, hv⟩ := pre (i + 1) (by omega)
    obtain ⟨u, _, hk, _⟩ := nodC_inv hv
    exact hk
  have sums : ∀ n, n ≤ l.length → ∀ v, nodC l n = (0, v) → sumU (fun j => (txN l (j : Int)).length) v n ≤ 8 * n ∧ ∀ j, n ≤ j → v j = 0 := fun n => by
    induction n with
    | zero => intro _ v hv; cases hv; exact ⟨Nat.le_refl 0, fun _ _ => rfl⟩
    | succ n ih =>
      intro hn' v hv
      obtain ⟨u, hu, _, hp⟩ := nodC_inv hv
      obtain ⟨a, b⟩ := ih (by omega) u hu
      obtain ⟨c, d, e⟩ := prtC_inv (fun j => (txN l (j : Int)).length) _ _ _ _ hp
      refine ⟨?_, fun j hj => by rw [e j (by omega)]; exact b j (by omega)⟩
      rw [sumU, if_pos (by rw [e n (Nat.le_refl n)]; exact b n (Nat.le_refl n)), txN_eq wf (show n < l.length by omega)]
      have hb := txB_len (nthD l n) (txN l)
      have hm : ((prtL (nthD l n)).map fun p => (txN l p).length).sum = ((prtL (nthD l n)).map fun p => (txN l ((p.toNat : Nat) : Int)).length).sum := by
        refine congrArg _ (List.map_congr_left fun p hp => ?_)
        rw [Int.toNat_of_nonneg (c p hp).1]
      rw [hm] at hb
      omega
  refine ⟨by omega, by omega, wf, kin, fun i hi => ?_, by omega⟩
  obtain ⟨v, hv⟩ := pre (i + 1) (by omega)
  obtain ⟨a, b⟩ := sums (i + 1) (by omega) v hv
  obtain ⟨u, hu, _, hp⟩ := nodC_inv hv
  obtain ⟨_, b'⟩ := sums i (by omega) u hu
  have h0 : v i = 0 := by
    rw [(prtC_inv (fun _ => 0) _ _ _ _ hp).2.2 i (Nat.le_refl i)]; exact b' i (Nat.le_refl i)
  have := sumU_ge (f := fun j => (txN l (j : Int)).length) (i + 1) i (by omega) h0
  omega
end Go.Proofs.YtioimgeeamchaaaDoor
