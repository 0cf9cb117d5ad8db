/- Whether a user has too many of some roles (tooMany), and what comes with each role (coming). -/
import Derived.WalkKit
import Derived.LoopTactic
import Derived.Deep.RegionHeld3
import Derived.Deep.DrawnRows
import Derived.Deep.Cut
import Derived.Test.YtolpkjemgdapgaaDoorRolB
namespace Go.Proofs.YtolpkjemgdapgaaDoor
open Go.RowKit
set_option maxRecDepth 100000

theorem over_no {R : Rol} (h : ∀ i, i < R.mu → R.overU i = false) : R.over = false := by
  cases e : R.over with
  | false => rfl
  | true =>
    simp only [Rol.over, List.any_eq_true, List.mem_range] at e
    obtain ⟨i, hi, q⟩ := e
    rw [h i hi] at q; cases q
theorem over_yes {R : Rol} {i : Nat} (hi : i < R.mu) (h : R.overU i = true) : R.over = true := by
  simp only [Rol.over, List.any_eq_true, List.mem_range]
  exact ⟨i, hi, h⟩

set_option maxHeartbeats 1000000 in
theorem tooMany_any (aU aA aM : Option Addr) (cU cA cM g cG : Nat) (R : Rol) (h : R.Most) (w : World) (hA : AtRol w aU aA aM R) (ho : Own w g R.m R.C) (hT : Tab w) :
    Calls Tryd.prog 16 #[rolV aU aA aM cU cA cM R, .slice (some ⟨g, 0, none⟩) R.m cG] w fun e w' => e = .returned (.bool R.over) ∧ Below w.heap.size w w' := by
  obtain ⟨w1, hw1⟩ : ∃ w1, w.alloc (.cells #[.slice aU R.mu cU, .slice aA R.m cA, .slice aM R.mm cM, .int .i64 R.few, .int .i64 R.most] 24) = w1 := ⟨_, rfl⟩
  have hB0 : Below w.heap.size w w1 := by rw [← hw1]; exact (Below.refl _ w).alloc (Nat.le_refl _) _
  have hx : Box5 w1 w.heap.size (.slice aU R.mu cU) (.slice aA R.m cA) (.slice aM R.mm cM) (.int .i64 R.few) (.int .i64 R.most) := by rw [← hw1]; exact Box5.new _ _ _ _ _ _ _
  have hA1 := hA.below hB0
  have ho1 := ho.below hB0
  have hT1 := hT.below hB0 hT.size
  have h8 := pow8 h.m8
  have tS := fun (set : Nat) (hs : set < 2 ^ R.m) W (hb : Below w1.heap.size w1 W) => step_all R.m h.n12 (some ⟨g, 0, none⟩) cG set (listOf R.m R.C) (listOf_right h.n12 (h.C_lt hA.la)).lt12 hs W ((own_at ho1).below hb) (hT1.below hb hT1.size)
  have HN := Hid.mkI h
  have HA := Hid.mkI hA1
  obtain ⟨n, hn⟩ : ∃ n, R.mu = n := ⟨_, rfl⟩
  have HMu := Hid.mkI hn
  obtain ⟨few, hfew⟩ : ∃ f : Nat, R.few = (f : Int) := ⟨R.few.toNat, by have := h.few.1; omega⟩
  have hfl : few < 256 := by have := h.few.2; omega
  obtain ⟨most, hmost⟩ : ∃ f, R.most = f := ⟨_, rfl⟩
  have HMo := Hid.mkI hmost
  have HFe := Hid.mkI hfew
  have HX := Hid.mkI hx
  have x0 := hx.c0
  have x3 := hx.c3
  have x4 := hx.c4
  have HO := Hid.mkI hB0
  have H8 := Hid.mkI h8
  rw [hn] at x0
  rw [hfew] at x3
  rw [hmost] at x4
  have hn8 : n ≤ 8 := by rw [← hn]; exact h.mu8
  rw [hn, hfew, hmost] at hw1
  show Calls _ _ #[.agg #[.slice aU R.mu cU, .slice aA R.m cA, .slice aM R.mm cM, .int .i64 R.few, .int .i64 R.most], _] _ _
  rw [hn, hfew, hmost]
  clear h hA hA1 ho ho1 hT hT1 hn hfew hmost hx hB0 h8
  go_enter Tryd.func16, Tryd.ntmps16
  go_wp2
  go_loopw [10] (fun p wr => ∃ k : Nat, k ≤ n ∧ p = .int .i64 k ∧ Hid (∀ i, i < k → R.overU i = false) ∧ Below w1.heap.size w1 wr) (fun p _ => n - (intOf p).toNat)
  case atStart => exact ⟨0, by omega, rfl, fun i h => absurd h (by omega), Below.refl _ _⟩
  case round =>
    obtain ⟨k, hk, rfl, HG, hB⟩ := hrel
    by_cases hlt : k < n
    · obtain ⟨b, off, rfl, hs⟩ := HA.out.us.resolve_left (show ¬ R.mu = 0 by have := HMu.out; omega)
      have hki : (k : Int) < (n : Int) := by omega
      have hkm : k < R.mu := by rw [HMu.out]; exact hlt
      have hc := keep_cell hB (hs.cell k hkm)
      have y3 := keep_cell hB x3
      have y4 := keep_cell hB x4
      have y3d : wr.drew.cell? ⟨w.heap.size, 3, none⟩ = some (.int .i64 (few : Int)) := y3
      have y4d : wr.drew.cell? ⟨w.heap.size, 4, none⟩ = some (.int .i64 most) := y4
      have hgd := HN.out.us k hkm
      have hol := HN.out.own_lt hkm
      have hoe : R.us[k]?.getD 0 = ((R.own k : Nat) : Int) := by unfold Rol.own; have := hgd.1; omega
      rw [hoe] at hc
      have HU : Hid (R.overU k = decide (most < (pop (stepN R.m (listOf R.m R.C) (R.own k) &&& few) : Nat))) := by
        show _ = _; unfold Rol.overU Rol.has; rw [HMo.out, HFe.out]; rfl
      have t1 := tS (R.own k) hol wr.drew (below_drawn hB 1)
      have hsl : stepN R.m (listOf R.m R.C) (R.own k) < 256 := by
        have := HN.out.has_lt HA.out.la (R.own k); unfold Rol.has at this
        have := H8.out; omega
      obtain ⟨s, hs0⟩ : ∃ s, R.own k = s := ⟨_, rfl⟩
      rw [hs0] at hc t1 hsl HU
      obtain ⟨y, hy⟩ : ∃ y, stepN R.m (listOf R.m R.C) s = y := ⟨_, rfl⟩
      rw [hy] at t1 hsl HU
      have hand := and_i64 y few (by omega) (by omega)
      have hyl : y &&& few < 256 := Nat.lt_of_le_of_lt Nat.and_le_left hsl
      have t2 := fun W => count_any (y &&& few) hyl W
      obtain ⟨z, hz⟩ : ∃ z, y &&& few = z := ⟨_, rfl⟩
      rw [hz] at hand t2 HU
      obtain ⟨c, hcc⟩ : ∃ c, pop z = c := ⟨_, rfl⟩
      rw [hcc] at t2 HU
      clear hy hz hcc hs0 hgd hol hoe hs hyl tS
      by_cases hov : most < (c : Int)
      · have HU2 : Hid (R.overU k = true) := by show _ = _; rw [HU.out]; exact decide_eq_true hov
        go_wp2
        first | (go_region_held3 (fun w' => w'.cell? ⟨w.heap.size, 3, none⟩ = some (.int .i64 (few : Int)) ∧ w'.cell? ⟨w.heap.size, 4, none⟩ = some (.int .i64 most)) ((go_split_ands; refine ⟨?_, ?_⟩ <;> (with_reducible assumption))) (first | (go_at_call 12; (with_reducible refine t1.mono ?_); rintro e w2 ⟨rfl, hBs⟩; have y3b := keep_cell hBs y3d; have y4b := keep_cell hBs y4d) | (go_at_call 20; (with_reducible refine (t2 _).mono ?_); rintro e w3 ⟨rfl, rfl⟩))) | fail
        all_goals
          go_wp2
          go_ret
          exact ⟨ret_bool (over_yes hkm HU2.out).symm, HO.out.trans ((hB.trans ((undrew2 hBs).mono hB.size)).mono HO.out.size)⟩
      · have HU2 : Hid (R.overU k = false) := by show _ = _; rw [HU.out]; exact decide_eq_false hov
        go_wp2
        first | (go_region_held3 (fun w' => w'.cell? ⟨w.heap.size, 3, none⟩ = some (.int .i64 (few : Int)) ∧ w'.cell? ⟨w.heap.size, 4, none⟩ = some (.int .i64 most)) ((go_split_ands; refine ⟨?_, ?_⟩ <;> (with_reducible assumption))) (first | (go_at_call 12; (with_reducible refine t1.mono ?_); rintro e w2 ⟨rfl, hBs⟩; have y3b := keep_cell hBs y3d; have y4b := keep_cell hBs y4d) | (go_at_call 20; (with_reducible refine (t2 _).mono ?_); rintro e w3 ⟨rfl, rfl⟩))) | fail
        all_goals
          go_wp2
          go_roundw
          case rel => exact ⟨k + 1, by omega, by go_num, fun i hi => by
            by_cases e : i = k
            · subst e; exact HU2.out
            · exact HG.out i (by omega), hB.trans ((undrew2 hBs).mono hB.size)⟩
          case measure => simp [intOf]; omega
    · have HE : Hid (R.over = false) := over_no fun i hi => HG.out i (by have := HMu.out; omega)
      go_wp2
      go_ret
      exact ⟨ret_bool HE.out.symm, HO.out.trans (hB.mono HO.out.size)⟩
end Go.Proofs.YtolpkjemgdapgaaDoor
