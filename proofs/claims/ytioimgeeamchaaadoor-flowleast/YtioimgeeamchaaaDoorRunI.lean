/- What Run answers, plainly; and what the laws on it ask, plainly. -/
import Derived.Test.YtioimgeeamchaaaDoorRunE
import Derived.Test.YtioimgeeamchaaaDoorRunH
namespace Go.Proofs.YtioimgeeamchaaaDoor
open Go.RowKit
set_option maxRecDepth 100000
set_option linter.unusedVariables false

/-- What is told of a run: the variables then and what was burnt; or what is wrong. -/
def runIs (l : List Nod) (n : Nat) (s : Nat → Int) (F : Int) : Except Int ((Nat → Int) × Nat) :=
  if runC l n s F ≠ 0 then .error (runC l n s F) else
  match runP l s F.toNat with
  | none => .error 4
  | some r => .ok (r.1, F.toNat - r.2)
theorem runIs_ok {l : List Nod} {n : Nat} {s : Nat → Int} {F : Int} {b : (Nat → Int) × Nat} (h : runIs l n s F = .ok b) :
    Good l ∧ n = 6 ∧ Bnd6 s ∧ ∃ f : Nat, F = (f : Int) ∧ f ≤ 5000 ∧ ∃ g, runP l s f = some (b.1, g) ∧ g + b.2 = f := by
  unfold runIs at h
  split at h
  · cases h
  rename_i h0
  obtain ⟨hc, h6, hs, hF0, hF1⟩ := runC_ok (Classical.not_not.1 h0)
  split at h
  · cases h
  rename_i r hr
  cases h
  refine ⟨good_of hc, h6, hs, F.toNat, by omega, by omega, r.2, hr, ?_⟩
  have := runP_le hr
  show r.2 + (F.toNat - r.2) = F.toNat
  omega
theorem runC_of {l : List Nod} {s : Nat → Int} {f : Nat} (hc : proC l = 0) (hs : Bnd6 s) (hf : f ≤ 5000) : runC l 6 s (f : Int) = 0 := by
  unfold runC
  rw [if_neg (by simp [hc]), if_neg (by simp), if_neg (by rw [bnd_any hs]; decide), if_neg (by omega)]
theorem runIs_of {l : List Nod} {s : Nat → Int} {f : Nat} (hc : proC l = 0) (hs : Bnd6 s) (hf : f ≤ 5000) : runIs l 6 s (f : Int) = match runP l s f with
    | none => .error 4
    | some r => .ok (r.1, f - r.2) := by
  unfold runIs
  rw [runC_of hc hs hf, if_neg (by simp)]
  rfl
theorem runC_pro {l : List Nod} {n : Nat} {s : Nat → Int} {F : Int} (h : runC l n s F = 0) : proC l = 0 := (runC_ok h).1
theorem runIs_pro {l : List Nod} {n : Nat} {s : Nat → Int} {F : Int} {b : (Nat → Int) × Nat} (h : runIs l n s F = .ok b) : proC l = 0 := by
  unfold runIs at h
  split at h
  · cases h
  rename_i h0
  exact runC_pro (Classical.not_not.1 h0)

/-! RunFuel -/
theorem fuel_just {l : List Nod} {n : Nat} {s : Nat → Int} {F : Int} {b : (Nat → Int) × Nat} (h : runIs l n s F = .ok b) : (b.2 : Int) ≤ F ∧ runIs l n s (b.2 : Int) = .ok b := by
  have hp := runIs_pro h
  obtain ⟨hG, rfl, hs, f, rfl, hf, g, hr, hb⟩ := runIs_ok h
  refine ⟨by omega, ?_⟩
  have := runP_just hG hr
  rw [show f - (b.1, g).2 = b.2 by show f - g = _; omega] at this
  rw [runIs_of hp hs (by omega), this]
  rfl
theorem fuel_less {l : List Nod} {n : Nat} {s : Nat → Int} {F : Int} {b : (Nat → Int) × Nat} (h : runIs l n s F = .ok b) (h0 : 0 < b.2) : runIs l n s ((b.2 : Int) - 1) = .error 4 := by
  have hp := runIs_pro h
  obtain ⟨hG, rfl, hs, f, rfl, hf, g, hr, hb⟩ := runIs_ok h
  have := runP_less hG hr (m := b.2 - 1) (by show b.2 - 1 < f - g; omega)
  rw [show ((b.2 : Int) - 1) = ((b.2 - 1 : Nat) : Int) by omega, runIs_of hp hs (by omega), this]
theorem fuel_more {l : List Nod} {n : Nat} {s : Nat → Int} {F m : Int} {b : (Nat → Int) × Nat} (h : runIs l n s F = .ok b) (h0 : 0 ≤ m) (h1 : m ≤ 5000 - F) : runIs l n s (F + m) = .ok b := by
  have hp := runIs_pro h
  obtain ⟨hG, rfl, hs, f, rfl, hf, g, hr, hb⟩ := runIs_ok h
  have := runP_more hG hr m.toNat
  rw [show ((f : Int) + m) = ((f + m.toNat : Nat) : Int) by omega, runIs_of hp hs (by omega), this]
  show Except.ok (b.1, f + m.toNat - (g + m.toNat)) = Except.ok b
  rw [show f + m.toNat - (g + m.toNat) = b.2 by omega]

/-! RunKeeps -/
theorem run_six {l : List Nod} {n : Nat} {s : Nat → Int} {F : Int} {b : (Nat → Int) × Nat} (h : runIs l n s F = .ok b) : n = 6 ∧ Bnd6 b.1 := by
  obtain ⟨hG, rfl, hs, f, rfl, hf, g, hr, hb⟩ := runIs_ok h
  exact ⟨rfl, runP_bnd (r := (b.1, g)) hG hs hr⟩
/-- A variable that no Set names stays. -/
theorem run_stay {l : List Nod} {n : Nat} {s : Nat → Int} {F : Int} {b : (Nat → Int) × Nat} (h : runIs l n s F = .ok b) {v : Nat} (hv : l.any (fun x => decide (x.kd = 6 ∧ x.num = (v : Int))) = false) : b.1 v = s v := by
  have hp := runIs_pro h
  obtain ⟨hG, rfl, hs, f, rfl, hf, g, hr, hb⟩ := runIs_ok h
  refine runP_keeps hG hr fun j hj h6 e => ?_
  rw [List.any_eq_false] at hv
  have hx : nthD l j ∈ l := by
    have : nthD l j = l[j] := by simp [nthD, hj]
    rw [this]
    exact List.getElem_mem hj
  have := hv _ hx
  simp only [decide_eq_true_eq, not_and] at this
  obtain ⟨k, ek, hk⟩ := hG.var hj (.inr h6)
  exact this h6 (by omega)

/-! ProgBack, ProgJoins -/
theorem read_good {s : List Nat} {q : List Nod} (h : redP s = .ok q) : proC q = 0 ∧ txN q (lstI q) = s := by
  have := again_ok (redP_ok h)
  exact ⟨this.2.2.2.1, this.2.2.2.2.2⟩
theorem back_same {p q : List Nod} (hp : proC p = 0) (h : redP (txN p (lstI p)) = .ok q) (n : Nat) (s : Nat → Int) (F : Int) : runIs p n s F = runIs q n s F := by
  obtain ⟨hq, ht⟩ := read_good h
  have hc : runC p n s F = runC q n s F := by unfold runC; rw [hp, hq]
  unfold runIs
  rw [hc, same_text (good_of hp) (good_of hq) ht.symm]
theorem joins_wrong {s t : List Nat} {p q : List Nod} (hp : redP s = .ok p) (hq : redP t = .ok q) : (∃ a, redP (s ++ t) = .ok a) ∨ redP (s ++ t) = .error 4 := by
  obtain ⟨cp, tp⟩ := read_good hp
  obtain ⟨cq, tq⟩ := read_good hq
  rw [← tp, ← tq]
  exact red_joined (good_of cp) (good_of cq)
theorem joins_plain {p q a : List Nod} {s t : List Nat} (Gp : Good p) (Gq : Good q) (Ga : Good a) (tp : txN p (lstI p) = s) (tq : txN q (lstI q) = t) (ta : txN a (lstI a) = s ++ t) {v x y : Nat → Int} {f1 f2 g1 g2 f : Nat} (h1 : runP p v f1 = some (x, g1)) (h2 : runP q x f2 = some (y, g2)) (hf : f1 + f2 = f) :
    runP a v f = some (y, g2 + g1) := by
  subst hf
  have r1 := runP_more Gp h1 f2
  have r2 := runP_more Gq h2 g1
  rw [joined_text Gp Gq Ga (by rw [tp, tq, ta]), r1]
  rw [Nat.add_comm f2 g1] at r2
  exact r2
theorem joins_runs {s t : List Nat} {p q a : List Nod} (hp : redP s = .ok p) (hq : redP t = .ok q) (ha : redP (s ++ t) = .ok a) {n : Nat} {v : Nat → Int} {x y : (Nat → Int) × Nat} (h1 : runIs p n v 200 = .ok x) (h2 : runIs q 6 x.1 200 = .ok y) :
    runIs a n v 400 = .ok (y.1, x.2 + y.2) := by
  obtain ⟨cp, tp⟩ := read_good hp
  obtain ⟨cq, tq⟩ := read_good hq
  obtain ⟨ca, ta⟩ := read_good ha
  obtain ⟨Gp, rfl, hs, f1, ef, _, g, hr, hb⟩ := runIs_ok h1
  obtain ⟨Gq, _, hs2, f2, ef2, _, g2, hr2, hb2⟩ := runIs_ok h2
  obtain ⟨f, hf⟩ : ∃ f, f1 + f2 = f := ⟨_, rfl⟩
  have e4 : (400 : Int) = (f : Int) := by omega
  have r3 := joins_plain Gp Gq (good_of ca) tp tq ta hr hr2 hf
  rw [e4, runIs_of ca hs (by omega), r3]
  show Except.ok (y.1, f - (g2 + g)) = _
  rw [show f - (g2 + g) = x.2 + y.2 by omega]
end Go.Proofs.YtioimgeeamchaaaDoor
