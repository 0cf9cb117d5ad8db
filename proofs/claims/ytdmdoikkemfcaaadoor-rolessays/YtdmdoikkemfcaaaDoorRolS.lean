/- What is wrong with roles, as the document has it (Roles). -/
import Derived.WalkKit
import Derived.LoopTactic
import Derived.Deep.RegionHeld3
import Derived.Deep.DrawnRows
import Derived.Deep.Cut
import Derived.Test.YtdmdoikkemfcaaaDoorRolR
import Derived.Test.YtdmdoikkemfcaaaDoorRolH
import Derived.Test.YtdmdoikkemfcaaaDoorRefSet
namespace Go.Proofs.YtdmdoikkemfcaaaDoor
open Go.RowKit
set_option maxRecDepth 100000

theorem code_of_bad {R : Rol} {c : Int} (h : RolBad R c) : R.code = c := by
  unfold Rol.code
  rcases h with ⟨rfl, h⟩ | ⟨rfl, h1, h2, h⟩ | ⟨rfl, h1, h2, h3, h⟩ | ⟨rfl, h1, h2, h3, h4, h⟩ | ⟨rfl, h1, h2, h3, h4, h5, h⟩ | ⟨rfl, h1, h2, h3, h4, h5, h6, h⟩ | ⟨rfl, h, h7⟩
  · rw [if_pos h]
  · rw [if_neg (by omega), if_pos h]
  · rw [if_neg (by omega), if_neg (by omega), if_pos h]
  · rw [if_neg (by omega), if_neg (by omega), if_neg (by rw [h4]; decide), if_pos h]
  · rw [if_neg (by omega), if_neg (by omega), if_neg (by rw [h4]; decide), if_neg (by rw [h5]; decide), if_pos h]
  · rw [if_neg (by omega), if_neg (by omega), if_neg (by rw [h4]; decide), if_neg (by rw [h5]; decide), if_neg (by rw [h6]; decide), if_pos h]
  · skip
    have := Rol.code_over h
    unfold Rol.code at this
    rw [this, if_pos h7]

set_option maxHeartbeats 8000000 in
theorem refRoles_any (aU aA aM : Option Addr) (cU cA cM : Nat) (R : Rol) (w : World) (hA : AtRol w aU aA aM R) :
    Calls Tryd.prog 15 #[rolV aU aA aM cU cA cM R] w fun e w' => e = .returned (.int .i64 R.code) ∧ Below w.heap.size w w' := by
  obtain ⟨w1, hw1⟩ : ∃ w1, w.alloc (.cells #[.slice aU R.mu cU, .slice aA R.m cA, .slice aM R.mm cM, .int .i64 R.few, .int .i64 R.most] 39) = w1 := ⟨_, rfl⟩
  have hB0 : Below w.heap.size w w1 := by rw [← hw1]; exact (Below.refl _ w).alloc (Nat.le_refl _) _
  have hx : Box5 w1 w.heap.size (.slice aU R.mu cU) (.slice aA R.m cA) (.slice aM R.mm cM) (.int .i64 R.few) (.int .i64 R.most) := by rw [← hw1]; exact Box5.new _ _ _ _ _ _ _
  have HA := Hid.mkI (hA.below hB0)
  have HX := Hid.mkI hx
  have HO := Hid.mkI hB0
  obtain ⟨x0, x1, x2, x3, x4⟩ := id hx
  have HCode : Hid (∀ c, RolBad R c → R.code = c) := fun c h => code_of_bad h
  clear hA hB0 hx
  by_cases h1 : 8 < R.mu
  · have e := Hid.mkI (HCode.out 4 (.full (.inl h1)))
    have q : (8 : Int) < (R.mu : Int) := by omega
    clear h1
    go_enter Tryd.func15, Tryd.ntmps15
    go_wp2
    go_ret
    exact ⟨by rw [e.out]; rfl, HO.out⟩
  by_cases h2 : 8 < R.m
  · have e := Hid.mkI (HCode.out 4 (.full (.inr h2)))
    have q : (8 : Int) < (R.m : Int) := by omega
    have q1 : (R.mu : Int) ≤ 8 := by omega
    clear h1 h2
    go_enter Tryd.func15, Tryd.ntmps15
    go_wp2
    go_ret
    exact ⟨by rw [e.out]; rfl, HO.out⟩
  have q1 : (R.mu : Int) ≤ 8 := by omega
  have q2 : (R.m : Int) ≤ 8 := by omega
  by_cases h3 : R.mm = R.m
  case neg =>
    have e := Hid.mkI (HCode.out 3 (.shape (by omega) (by omega) h3))
    have q3 : ((R.mm : Int) != (R.m : Int)) = true := by simp; omega
    clear h1 h2 h3
    go_enter Tryd.func15, Tryd.ntmps15
    go_wp2
    go_ret
    exact ⟨by rw [e.out]; rfl, HO.out⟩
  have H1 : Hid (R.mu ≤ 8 ∧ R.m ≤ 8 ∧ R.mm = R.m) := ⟨by omega, by omega, h3⟩
  have tMask := fun z W => mask_any z R.m (by omega) W
  have tMask10 : ∀ z W, Calls Tryd.prog 21 #[.int .i64 z, .int .i64 10] W fun e w' => e = .returned (.bool (goodB 10 z)) ∧ w' = W := fun z W => mask_any z 10 (by decide) W
  have tRel : (Fine R.m R.ab ∧ ∀ W, Below w1.heap.size w1 W → Calls Tryd.prog 34 #[.slice aA R.m cA] W fun e w' => e = .returned (.int .i64 0) ∧ w' = W) ∨ (¬ Fine R.m R.ab ∧ ∀ W, Below w1.heap.size w1 W → Calls Tryd.prog 34 #[.slice aA R.m cA] W fun e w' => e = .returned (.int .i64 1) ∧ w' = W) := by
    by_cases hf : Fine R.m R.ab
    · exact .inl ⟨hf, fun W hb => rel_fine aA R.m cA R.ab W (HA.out.ab.below hb) hf⟩
    · refine .inr ⟨hf, fun W hb => ?_⟩
      have := rel_wrong aA R.m cA R.ab W (HA.out.ab.below hb) hf
      rw [show wrongN R.m = 1 by unfold wrongN; rw [if_neg (by omega)]] at this
      exact this
  have hX := HX.out
  show Calls _ _ #[.agg #[.slice aU R.mu cU, .slice aA R.m cA, .slice aM R.mm cM, .int .i64 R.few, .int .i64 R.most]] _ _
  rw [h3] at x2 hw1 hX
  rw [h3]
  have HX := Hid.mkI hX
  clear h1 h2 h3 hX
  go_enter Tryd.func15, Tryd.ntmps15
  go_wp2_with fail
  go_loop [4] (fun i => ∃ k : Nat, k ≤ R.mu ∧ i = .int .i64 k ∧ Hid (∀ i, i < k → Good R.m (R.us[i]?.getD 0))) (fun i => R.mu - (intOf i).toNat)
  case atStart => exact ⟨0, by omega, rfl, fun i h => absurd h (by omega)⟩
  case round =>
    obtain ⟨k, hk, rfl, HG⟩ := hrel
    by_cases hlt : k < R.mu
    · have hki : (k : Int) < (R.mu : Int) := by omega
      obtain ⟨b, off, rfl, hs⟩ := HA.out.us.resolve_left (by omega)
      have hc := hs.cell k hlt
      have tm := tMask (R.us[k]?.getD 0)
      by_cases hg : Good R.m (R.us[k]?.getD 0)
      · rw [goodB_yes hg] at tm
        have HZ := Hid.mkI hg
        clear hg hs tMask tMask10 tRel
        go_wp2_with (go_at_call 21; (with_reducible refine (tm _).mono ?_); rintro e w' ⟨rfl, rfl⟩)
        go_round
        case rel => exact ⟨k + 1, by omega, by go_num, fun i hi => by
            by_cases e : i = k
            · subst e; exact HZ.out
            · exact HG.out i (by omega)⟩
        case measure => simp [intOf]; omega
      · rw [goodB_no hg] at tm
        have e := Hid.mkI (HCode.out 1 (.users H1.out.1 H1.out.2.1 H1.out.2.2 (allG_no hlt hg)))
        clear hg hs tMask tMask10 tRel
        go_wp2_with (go_at_call 21; (with_reducible refine (tm _).mono ?_); rintro e w' ⟨rfl, rfl⟩)
        go_ret
        exact ⟨by rw [e.out]; rfl, HO.out⟩
    · have hge : (R.mu : Int) ≤ (k : Int) := by omega
      have HU : Hid (allG R.m R.mu R.us = true) := (allG_iff _ _ _).2 fun i hi => HG.out i (by omega)
      have HLx := Hid.mkI HA.out.la
      clear tMask HG
      rcases tRel with ⟨hf, tR⟩ | ⟨hf, tR⟩
      case inr =>
        have e := Hid.mkI (HCode.out 1 (.rel H1.out.1 H1.out.2.1 H1.out.2.2 HU.out (by cases q : allG R.m R.m R.ab with | false => rfl | true => exact absurd ⟨by have := H1.out; omega, (allG_iff _ _ _).1 q⟩ hf)))
        have tR := tR w1 (Below.refl _ _)
        clear hf tMask10
        go_wp2_with (go_at_call 34; (with_reducible refine tR.mono ?_); rintro e w' ⟨rfl, rfl⟩)
        go_ret
        exact ⟨by rw [e.out]; rfl, HO.out⟩
      have HAb : Hid (allG R.m R.m R.ab = true) := (allG_iff _ _ _).2 hf.2
      have tR := tR w1 (Below.refl _ _)
      have tOr := refOrder_any aA R.m cA (rowsOf R.m R.ab) (rowsOf_right hf.1 HLx.out hf.2) w1 (HA.out.ab.at hf.2)
      have hRing : come R.m (rowsOf R.m R.ab) = R.C := rfl
      rw [hRing] at tOr
      clear hRing hf
      cases hn : noRing R.m R.C with
      | false =>
        rw [hn] at tOr
        have e := Hid.mkI (HCode.out 6 (.ring H1.out.1 H1.out.2.1 H1.out.2.2 HU.out HAb.out hn))
        clear hn tMask10
        go_wp2_with (first | (go_at_call 34; (with_reducible refine tR.mono ?_); clear tR; rintro e w' ⟨rfl, hw'⟩; obtain rfl := hw'.symm) | (go_at_call 35; (with_reducible refine tOr.mono ?_); rintro e w2 ⟨rfl, hB⟩))
        go_ret
        exact ⟨by rw [e.out]; rfl, HO.out.trans (hB.mono HO.out.size)⟩
      | true =>
        rw [hn] at tOr
        have HRi := Hid.mkI hn
        clear hn
        go_wp2_with (first | (go_at_call 34; (with_reducible refine tR.mono ?_); clear tR; rintro e w' ⟨rfl, hw'⟩; obtain rfl := hw'.symm) | (go_at_call 35; (with_reducible refine tOr.mono ?_); clear tOr; rintro e w2 ⟨rfl, hB⟩; obtain ⟨y0, y1, y2, y3, y4⟩ := HX.out.below hB))
        clear x0 x1 x2 x3 x4 hlt hk hge
        have HM2 : Hid (AtNums w2 aM R.m R.ma) := by
          have := HA.out.ma.below hB
          rw [H1.out.2.2] at this
          exact this
        go_loop [6] (fun i => ∃ k : Nat, k ≤ R.m ∧ i = .int .i64 k ∧ Hid (∀ i, i < k → Good 10 (R.ma[i]?.getD 0))) (fun i => R.m - (intOf i).toNat)
        case atStart => exact ⟨0, by omega, rfl, fun i h => absurd h (by omega)⟩
        case round =>
          obtain ⟨l, hl, rfl, HG⟩ := hrel
          by_cases hlt : l < R.m
          · have hki : (l : Int) < (R.m : Int) := by omega
            obtain ⟨b, off, rfl, hs⟩ := HM2.out.resolve_left (by omega)
            have hc := hs.cell l hlt
            have tm := tMask10 (R.ma[l]?.getD 0)
            by_cases hg : Good 10 (R.ma[l]?.getD 0)
            · rw [goodB_yes hg] at tm
              have HZ := Hid.mkI hg
              clear hg hs tMask10
              go_wp2_with (go_at_call 21; (with_reducible refine (tm _).mono ?_); rintro e w' ⟨rfl, rfl⟩)
              go_round
              case rel => exact ⟨l + 1, by omega, by go_num, fun i hi => by
                  by_cases e : i = l
                  · subst e; exact HZ.out
                  · exact HG.out i (by omega)⟩
              case measure => simp [intOf]; omega
            · rw [goodB_no hg] at tm
              have e := Hid.mkI (HCode.out 1 (.rest H1.out.1 H1.out.2.1 H1.out.2.2 HU.out HAb.out HRi.out (.inl (allG_no hlt hg))))
              clear hg hs tMask10
              go_wp2_with (go_at_call 21; (with_reducible refine (tm _).mono ?_); rintro e w' ⟨rfl, hw'⟩; obtain rfl := hw'.symm)
              go_ret
              exact ⟨by rw [e.out]; rfl, HO.out.trans (hB.mono HO.out.size)⟩
          · have hge : (R.m : Int) ≤ (l : Int) := by omega
            have HMa : Hid (allG 10 R.m R.ma = true) := (allG_iff _ _ _).2 fun i hi => HG.out i (by omega)
            have tFew := fun W => mask_any R.few R.m (by have := H1.out; omega) W
            have tIn := fun W => refIn_any R.most 0 8 W
            clear HG tMask10
            obtain ⟨z0, z1, z2, z3, z4⟩ := HX.out.below hB
            by_cases hfw : Good R.m R.few
            case neg =>
              rw [goodB_no hfw] at tFew
              have e := Hid.mkI (HCode.out 1 (.rest H1.out.1 H1.out.2.1 H1.out.2.2 HU.out HAb.out HRi.out (.inr (.inl (goodB_no hfw)))))
              clear hfw tIn
              go_wp2_with (go_at_call 21; (with_reducible refine (tFew _).mono ?_); rintro e w' ⟨rfl, hw'⟩; obtain rfl := hw'.symm)
              go_ret
              exact ⟨by rw [e.out]; rfl, HO.out.trans (hB.mono HO.out.size)⟩
            rw [goodB_yes hfw] at tFew
            by_cases hmo : 0 ≤ R.most ∧ R.most ≤ 8
            case neg =>
              rw [show inQ R.most 0 8 = false from decide_eq_false hmo] at tIn
              have e := Hid.mkI (HCode.out 1 (.rest H1.out.1 H1.out.2.1 H1.out.2.2 HU.out HAb.out HRi.out (.inr (.inr (by omega)))))
              clear hfw hmo
              go_wp2_with (first | (go_at_call 21; (with_reducible refine (tFew _).mono ?_); rintro e w' ⟨rfl, hw'⟩; obtain rfl := hw'.symm) | (go_at_call 36; (with_reducible refine (tIn _).mono ?_); rintro e w' ⟨rfl, hw'⟩; obtain rfl := hw'.symm))
              go_ret
              exact ⟨by rw [e.out]; rfl, HO.out.trans (hB.mono HO.out.size)⟩
            rw [(inQ_iff _ _ _).2 hmo] at tIn
            have HMost : Hid R.Most := ⟨H1.out.1, H1.out.2.1, H1.out.2.2, (allG_iff _ _ _).1 HU.out, (allG_iff _ _ _).1 HAb.out, HRi.out, (allG_iff _ _ _).1 HMa.out, hfw, hmo.1, hmo.2⟩
            clear hfw hmo HMa HRi HAb HU
            go_wp2_with (first | (go_at_call 21; (with_reducible refine (tFew _).mono ?_); rintro e w' ⟨rfl, hw'⟩; obtain rfl := hw'.symm) | (go_at_call 36; (with_reducible refine (tIn _).mono ?_); rintro e w' ⟨rfl, hw'⟩; obtain rfl := hw'.symm))
            clear y0 y1 y2 y3 y4 z0 z1 z2 z3 z4 tFew tIn hl hlt hge
            have h8 := Hid.mkI (pow8 HMost.out.m8)
            have tS : ∀ (s : Nat), s < 2 ^ R.m → ∀ W, Below w2.heap.size w2 W → Calls Tryd.prog 17 #[.agg #[.slice aU R.mu cU, .slice aA R.m cA, .slice aM R.m cM, .int .i64 R.few, .int .i64 R.most], .int .i64 s] W fun e w' => e = .returned (.int .i64 (R.has s : Nat)) ∧ Below W.heap.size W w' := fun s hs W hb => by
              have := roleSet_any aU aA aM cU cA cM R HMost.out s hs W ((HA.out.below hB).below hb)
              unfold rolV at this
              rw [HMost.out.mm] at this
              exact this
            obtain ⟨few, hfew⟩ : ∃ f : Nat, R.few = (f : Int) := ⟨R.few.toNat, by have := HMost.out.few.1; omega⟩
            have HFe := Hid.mkI hfew
            have hfl : few < 256 := by have := HMost.out.few.2; have := h8.out; omega
            have HX2 := Hid.mkI (HX.out.below hB)
            have HUs := Hid.mkI (HA.out.us.below hB)
            have HO2 := Hid.mkI (HO.out.trans (hB.mono HO.out.size))
            clear hfew
            go_loopw [7] (fun p wr => ∃ k : Nat, k ≤ R.mu ∧ p = .int .i64 k ∧ Hid (∀ i, i < k → R.overU i = false) ∧ Below w2.heap.size w2 wr) (fun p _ => R.mu - (intOf p).toNat)
            case atStart => exact ⟨0, by omega, rfl, fun i h => absurd h (by omega), Below.refl _ _⟩
            case round =>
              obtain ⟨k, hk, rfl, HG, hB3⟩ := hrel
              obtain ⟨y0, y1, y2, y3, y4⟩ := HX2.out.below hB3
              by_cases hlt : k < R.mu
              · obtain ⟨b, off, rfl, hs⟩ := HUs.out.resolve_left (by omega)
                have hki : (k : Int) < (R.mu : Int) := by omega
                have hc := keep_cell hB3 (hs.cell k hlt)
                have hgd := HMost.out.us k hlt
                have hol := HMost.out.own_lt hlt
                have hoe : R.us[k]?.getD 0 = ((R.own k : Nat) : Int) := by unfold Rol.own; have := hgd.1; omega
                rw [hoe] at hc
                have HUo : Hid (R.overU k = decide (R.most < (pop (R.has (R.own k) &&& few) : Nat))) := by
                  show _ = _; unfold Rol.overU; rw [HFe.out]; rfl
                have t1 := tS (R.own k) hol wr.drew (below_drawn hB3 1)
                have hsl : R.has (R.own k) < 256 := by
                  have := HMost.out.has_lt HLx.out (R.own k)
                  have := h8.out; omega
                obtain ⟨s, hs0⟩ : ∃ s, R.own k = s := ⟨_, rfl⟩
                rw [hs0] at hc t1 hsl HUo
                obtain ⟨y, hy⟩ : ∃ y, R.has s = y := ⟨_, rfl⟩
                rw [hy] at t1 hsl HUo
                have t2 := fun W => both_any y few (by omega) (by omega) W
                have hyl : y &&& few < 4096 := Nat.lt_of_le_of_lt Nat.and_le_left (by omega)
                have t3 := fun W => many_any (y &&& few) hyl W
                obtain ⟨z, hz⟩ : ∃ z, y &&& few = z := ⟨_, rfl⟩
                rw [hz] at t2 t3 HUo
                obtain ⟨c, hcc⟩ : ∃ c, pop z = c := ⟨_, rfl⟩
                rw [hcc] at t3 HUo
                rw [HFe.out] at y3 t1
                have d0 : wr.drew.cell? ⟨w.heap.size, 0, none⟩ = some (.slice (some ⟨b, off, none⟩) R.mu cU) := y0
                have d1 : wr.drew.cell? ⟨w.heap.size, 1, none⟩ = some (.slice aA R.m cA) := y1
                have d2 : wr.drew.cell? ⟨w.heap.size, 2, none⟩ = some (.slice aM R.m cM) := y2
                have d3 : wr.drew.cell? ⟨w.heap.size, 3, none⟩ = some (.int .i64 (few : Int)) := y3
                have d4 : wr.drew.cell? ⟨w.heap.size, 4, none⟩ = some (.int .i64 R.most) := y4
                have d5 : wr.drew.cell? ⟨b, off + k, none⟩ = some (.int .i64 (s : Int)) := hc
                clear hy hz hcc hs0 hgd hol hoe hs hyl tS
                by_cases hov : R.most < (c : Int)
                · have HU2 : Hid (R.overU k = true) := by show _ = _; rw [HUo.out]; exact decide_eq_true hov
                  have e := Hid.mkI (HCode.out 7 (.over HMost.out (over_yes hlt HU2.out)))
                  clear HUo HU2
                  go_wp2_with fail
                  first | (go_region_held3 (fun w' => w'.cell? ⟨w.heap.size, 0, none⟩ = some (.slice (some ⟨b, off, none⟩) R.mu cU) ∧ w'.cell? ⟨w.heap.size, 1, none⟩ = some (.slice aA R.m cA) ∧ w'.cell? ⟨w.heap.size, 2, none⟩ = some (.slice aM R.m cM) ∧ w'.cell? ⟨w.heap.size, 3, none⟩ = some (.int .i64 (few : Int)) ∧ w'.cell? ⟨w.heap.size, 4, none⟩ = some (.int .i64 R.most) ∧ w'.cell? ⟨b, off + k, none⟩ = some (.int .i64 (s : Int))) ((go_split_ands; refine ⟨?_, ?_, ?_, ?_, ?_, ?_⟩ <;> (with_reducible assumption))) (first | (go_at_call 17; (with_reducible refine t1.mono ?_); rintro e w3 ⟨rfl, hBs⟩; have d0b := keep_cell hBs d0; have d1b := keep_cell hBs d1; have d2b := keep_cell hBs d2; have d3b := keep_cell hBs d3; have d4b := keep_cell hBs d4; have d5b := keep_cell hBs d5) | (go_at_call 37; (with_reducible refine (t2 _).mono ?_); rintro e w4 ⟨rfl, hw4⟩; obtain rfl := hw4.symm) | (go_at_call 27; (with_reducible refine (t3 _).mono ?_); rintro e w5 ⟨rfl, hw5⟩; obtain rfl := hw5.symm))) | fail
                  all_goals
                    go_wp2
                    go_ret
                    exact ⟨by rw [e.out]; rfl, HO2.out.trans ((hB3.trans ((undrew2 hBs).mono hB3.size)).mono HO2.out.size)⟩
                · have HU2 : Hid (R.overU k = false) := by show _ = _; rw [HUo.out]; exact decide_eq_false hov
                  have hov2 : (c : Int) ≤ R.most := by omega
                  clear HUo
                  go_wp2_with fail
                  first | (go_region_held3 (fun w' => w'.cell? ⟨w.heap.size, 0, none⟩ = some (.slice (some ⟨b, off, none⟩) R.mu cU) ∧ w'.cell? ⟨w.heap.size, 1, none⟩ = some (.slice aA R.m cA) ∧ w'.cell? ⟨w.heap.size, 2, none⟩ = some (.slice aM R.m cM) ∧ w'.cell? ⟨w.heap.size, 3, none⟩ = some (.int .i64 (few : Int)) ∧ w'.cell? ⟨w.heap.size, 4, none⟩ = some (.int .i64 R.most) ∧ w'.cell? ⟨b, off + k, none⟩ = some (.int .i64 (s : Int))) ((go_split_ands; refine ⟨?_, ?_, ?_, ?_, ?_, ?_⟩ <;> (with_reducible assumption))) (first | (go_at_call 17; (with_reducible refine t1.mono ?_); rintro e w3 ⟨rfl, hBs⟩; have d0b := keep_cell hBs d0; have d1b := keep_cell hBs d1; have d2b := keep_cell hBs d2; have d3b := keep_cell hBs d3; have d4b := keep_cell hBs d4; have d5b := keep_cell hBs d5) | (go_at_call 37; (with_reducible refine (t2 _).mono ?_); rintro e w4 ⟨rfl, hw4⟩; obtain rfl := hw4.symm) | (go_at_call 27; (with_reducible refine (t3 _).mono ?_); rintro e w5 ⟨rfl, hw5⟩; obtain rfl := hw5.symm))) | fail
                  all_goals
                    go_wp2
                    go_roundw
                    case rel => exact ⟨k + 1, by omega, by go_num, fun i hi => by
                      by_cases e : i = k
                      · subst e; exact HU2.out
                      · exact HG.out i (by omega), hB3.trans ((undrew2 hBs).mono hB3.size)⟩
                    case measure => simp [intOf]; omega
              · have hge : (R.mu : Int) ≤ (k : Int) := by omega
                have e : Hid (R.code = 0) := Rol.code_ok ⟨HMost.out, over_no fun i hi => HG.out i (by omega)⟩
                go_wp2
                go_ret
                exact ⟨by rw [e.out]; rfl, HO2.out.trans (hB3.mono HO2.out.size)⟩
end Go.Proofs.YtdmdoikkemfcaaaDoor
