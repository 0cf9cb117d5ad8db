/- What Run answers, plainly; and what the laws RunFuel, RunKeeps ask, plainly. -/
import Derived.Test.YtioimgeeamchaaaDoorRunE
namespace Go.Proofs.YtioimgeeamchaaaDoor
open Go.RowKit
set_option maxRecDepth 100000
set_option linter.unusedVariables false

/-- What is told of a run: the variables then and what was burnt; or what is wrong. -/
def runIs (l : List Nod) (n : Nat) (s : Nat → Int) (F : Int) : Except Int ((Nat → Int) × Nat) :=
  if runC l n s F ≠ 0 then .error (runC l n s F) else
  match runP l s F.toNat with
  | none => .error 4
  | some r => .ok (r.1, F.toNat - r.2)
theorem runIs_ok {l : List Nod} {n : Nat} {s : Nat → Int} {F : Int} {b : (Nat → Int) × Nat} (h : runIs l n s F = .ok b) :
    Good l ∧ n = 6 ∧ Bnd6 s ∧ ∃ f : Nat, F = (f : Int) ∧ f ≤ 5000 ∧ ∃ g, runP l s f = some (b.1, g) ∧ g + b.2 = f := by
  unfold runIs at h
  split at h
  · cases h
  rename_i h0
  obtain ⟨hc, h6, hs, hF0, hF1⟩ := runC_ok (Classical.not_not.1 h0)
  split at h
  · cases h
  rename_i r hr
  cases h
  refine ⟨good_of hc, h6, hs, F.toNat, by omega, by omega, r.2, hr, ?_⟩
  have := runP_le hr
  show r.2 + (F.toNat - r.2) = F.toNat
  omega
theorem runC_of {l : List Nod} {s : Nat → Int} {f : Nat} (hc : proC l = 0) (hs : Bnd6 s) (hf : f ≤ 5000) : runC l 6 s (f : Int) = 0 := by
  unfold runC
  rw [if_neg (by simp [hc]), if_neg (by simp), if_neg (by rw [bnd_any hs]; decide), if_neg (by omega)]
theorem runIs_of {l : List Nod} {s : Nat → Int} {f : Nat} (hc : proC l = 0) (hs : Bnd6 s) (hf : f ≤ 5000) : runIs l 6 s (f : Int) = match runP l s f with
    | none => .error 4
    | some r => .ok (r.1, f - r.2) := by
  unfold runIs
  rw [runC_of hc hs hf, if_neg (by simp)]
  rfl
theorem runC_pro {l : List Nod} {n : Nat} {s : Nat → Int} {F : Int} (h : runC l n s F = 0) : proC l = 0 := (runC_ok h).1
theorem runIs_pro {l : List Nod} {n : Nat} {s : Nat → Int} {F : Int} {b : (Nat → Int) × Nat} (h : runIs l n s F = .ok b) : proC l = 0 := by
  unfold runIs at h
  split at h
  · cases h
  rename_i h0
  exact runC_pro (Classical.not_not.1 h0)

/-! RunFuel -/
theorem fuel_just {l : List Nod} {n : Nat} {s : Nat → Int} {F : Int} {b : (Nat → Int) × Nat} (h : runIs l n s F = .ok b) : (b.2 : Int) ≤ F ∧ runIs l n s (b.2 : Int) = .ok b := by
  have hp := runIs_pro h
  obtain ⟨hG, rfl, hs, f, rfl, hf, g, hr, hb⟩ := runIs_ok h
  refine ⟨by omega, ?_⟩
  have := runP_just hG hr
  rw [show f - (b.1, g).2 = b.2 by show f - g = _; omega] at this
  rw [runIs_of hp hs (by omega), this]
  rfl
theorem fuel_less {l : List Nod} {n : Nat} {s : Nat → Int} {F : Int} {b : (Nat → Int) × Nat} (h : runIs l n s F = .ok b) (h0 : 0 < b.2) : runIs l n s ((b.2 : Int) - 1) = .error 4 := by
  have hp := runIs_pro h
  obtain ⟨hG, rfl, hs, f, rfl, hf, g, hr, hb⟩ := runIs_ok h
  have := runP_less hG hr (m := b.2 - 1) (by show b.2 - 1 < f - g; omega)
  rw [show ((b.2 : Int) - 1) = ((b.2 - 1 : Nat) : Int) by omega, runIs_of hp hs (by omega), this]
theorem fuel_more {l : List Nod} {n : Nat} {s : Nat → Int} {F m : Int} {b : (Nat → Int) × Nat} (h : runIs l n s F = .ok b) (h0 : 0 ≤ m) (h1 : m ≤ 5000 - F) : runIs l n s (F + m) = .ok b := by
  have hp := runIs_pro h
  obtain ⟨hG, rfl, hs, f, rfl, hf, g, hr, hb⟩ := runIs_ok h
  have := runP_more hG hr m.toNat
  rw [show ((f : Int) + m) = ((f + m.toNat : Nat) : Int) by omega, runIs_of hp hs (by omega), this]
  show Except.ok (b.1, f + m.toNat - (g + m.toNat)) = Except.ok b
  rw [show f + m.toNat - (g + m.toNat) = b.2 by omega]

/-! RunKeeps -/
theorem run_six {l : List Nod} {n : Nat} {s : Nat → Int} {F : Int} {b : (Nat → Int) × Nat} (h : runIs l n s F = .ok b) : n = 6 ∧ Bnd6 b.1 := by
  obtain ⟨hG, rfl, hs, f, rfl, hf, g, hr, hb⟩ := runIs_ok h
  exact ⟨rfl, runP_bnd (r := (b.1, g)) hG hs hr⟩
/-- A variable that no Set names stays. -/
theorem run_stay {l : List Nod} {n : Nat} {s : Nat → Int} {F : Int} {b : (Nat → Int) × Nat} (h : runIs l n s F = .ok b) {v : Nat} (hv : l.any (fun x => decide (x.kd = 6 ∧ x.num = (v : Int))) = false) : b.1 v = s v := by
  have hp := runIs_pro h
  obtain ⟨hG, rfl, hs, f, rfl, hf, g, hr, hb⟩ := runIs_ok h
  refine runP_keeps hG hr fun j hj h6 e => ?_
  rw [List.any_eq_false] at hv
  have hx : nthD l j ∈ l := by
    have : nthD l j = l[j] := by simp [nthD, hj]
    rw [this]
    exact List.getElem_mem hj
  have := hv _ hx
  simp only [decide_eq_true_eq, not_and] at this
  obtain ⟨k, ek, hk⟩ := hG.var hj (.inr h6)
  exact this h6 (by omega)

/-! ProgBack, ProgJoins -/
end Go.Proofs.YtioimgeeamchaaaDoor
