/- The walk of the law FlowLevels. (Made by gen/flow.py.) -/
import Derived.WalkKit
import Derived.LoopTactic
import Derived.Deep.QuietTactic
import Derived.BigQuiet
import Derived.Test.YtioimgeeamchaaaDoorFloQ
import Derived.Test.YtioimgeeamchaaaDoorRunO
namespace Go.Proofs.YtioimgeeamchaaaDoor
open Go.RowKit
set_option maxRecDepth 100000
set_option linter.unusedVariables false

/-- The closure of what flows into what, again. -/
theorem close_again {l : List Nod} (hG : Good l) (g : Nat) (w : World) (ho : Own w g 6 (comF l)) (hT : Tab w) :
    Calls Tryd.prog 21 #[.slice (some ⟨g, 0, none⟩) 6 6] w fun e w' => ∃ d, e = .returned (.tuple #[.slice (some ⟨d, 0, none⟩) 6 6, .nilIface]) ∧ Hid (Lst w' (.slice (some ⟨d, 0, none⟩) 6 6) 6 (fun i => (comF l i : Int))) ∧ Below w.heap.size w w' :=
  (Closure_own 6 g 6 (comF l) (by decide) (fun i hi => comF_lt hG hi) w ho hT).mono fun e w' ⟨h1, h2, h3⟩ => ⟨w.heap.size, h1, (OwnZ.of h2).lst.like fun i hi => by rw [come_again (rowsF_right hG) (listOf_right (by decide) fun i hi => comF_lt hG hi) (fun j hj => listOf_get _ hj) hi]; rfl, h3⟩
set_option maxHeartbeats 8000000 in
theorem flowLevels_any (a : Option Addr) (cap : Nat) (l : List Nod) (v0 : Value) (nL : Nat) (lv : Nat → Int) (w : World) (h : AtNods w a l.length (nthD l)) (hl : Lst w v0 nL lv) (hT : Tab w) :
    Calls Tryd.prog 6 #[.slice a l.length cap, v0] w fun e w' => e = .returned (.bool true) ∧ Below w.heap.size w w' := by
  have hB0 := Below.refl w.heap.size w
  have tF : ∀ w1, Below w.heap.size w w1 → Calls Tryd.prog 18 #[] w1 fun e w' => e = .returned (.bool true) ∧ Below w1.heap.size w1 w' := fun w1 hB => flowFact_any w1 (hT.below hB hT.size)
  obtain ⟨vL, cL, rfl, hL⟩ := id hl
  have tLo : fitC l nL lv 0 = 0 → ∀ w1, Below w.heap.size w w1 → Calls Tryd.prog 16 #[.slice a l.length cap, .slice vL nL cL] w1 fun e w' => e = .returned (.tuple #[.bool (fitsB (cF l) lv), .nilIface]) ∧ Below w1.heap.size w1 w' := fun hc w1 hB => ffits_ok a cap (.slice vL nL cL) nL lv hc w1 (h.below hB) (hl.below hB) (hT.below hB hT.size)
  have tLe : fitC l nL lv 0 ≠ 0 → ∀ w1, Below w.heap.size w w1 → Calls Tryd.prog 16 #[.slice a l.length cap, .slice vL nL cL] w1 fun e w' => e = .returned (.tuple #[.bool false, .iface 57 (.int .i64 (fitC l nL lv 0))]) ∧ Below w1.heap.size w1 w' := fun hc w1 hB => ffits_no a cap (.slice vL nL cL) nL lv hc w1 (h.below hB) (hl.below hB) (hT.below hB hT.size)
  have tRo : proC l = 0 → ∀ w1, Below w.heap.size w w1 → Calls Tryd.prog 13 #[.slice a l.length cap] w1 fun e w' => ∃ g, e = .returned (.tuple #[.slice (some ⟨g, 0, none⟩) 6 6, .nilIface]) ∧ Hid (Own w' g 6 (comF l)) ∧ Below w1.heap.size w1 w' := fun hp w1 hB => (ffrom_ok hp a cap w1 (h.below hB) (hT.below hB hT.size)).mono fun e w' ⟨g, h1, _, h2, h3⟩ => ⟨g, h1, h2, h3⟩
  have tRe : proC l ≠ 0 → ∀ w1, Below w.heap.size w w1 → Calls Tryd.prog 13 #[.slice a l.length cap] w1 fun e w' => e = .returned (.tuple #[.slice none 0 0, .iface 57 (.int .i64 (proC l))]) ∧ Below w1.heap.size w1 w' := fun hp w1 hB => ffrom_no hp a cap w1 (h.below hB)
  have tRw : ∀ w1, Below w.heap.size w w1 → Calls Tryd.prog 13 #[.slice a l.length cap] w1 fun e w' => ∃ x0 x1, e = .returned (.tuple #[x0, x1]) ∧ Below w1.heap.size w1 w' := fun w1 hB => by
    by_cases hp : proC l = 0
    · exact (tRo hp w1 hB).mono fun e w' ⟨g, h1, _, h2⟩ => ⟨_, _, h1, h2⟩
    · exact (tRe hp w1 hB).mono fun e w' ⟨h1, h2⟩ => ⟨_, _, h1, h2⟩
  by_cases hc : fitC l nL lv 0 = 0
  · have tL := tLo hc
    obtain ⟨hp, rfl, hlv⟩ := fitC_ok hc
    have hG := good_of hp
    have tR := tRo hp
    have HCl := Hid.mkI (fun (g : Nat) (w1 : World) (hB : Below w.heap.size w w1) (ho : Own w1 g 6 (comF l)) => close_again hG g w1 ho (hT.below hB hT.size))
    have HI : Hid (∀ (u1 u2 : Value) (w1 : World), Lst w1 u1 6 (fun i => (comF l i : Int)) → Lst w1 u2 6 (fun i => (comF l i : Int)) → Calls Tryd.prog 15 #[u1, u2] w1 fun e w' => e = .returned (.bool true) ∧ Below w1.heap.size w1 w') := fun u1 u2 w1 k1 k2 => (rints_same u1 u2 6 (by decide) _ w1 k1 k2).mono fun e w' ⟨he, k, hk⟩ => ⟨he, by rw [hk]; exact below_drawn (Below.refl _ _) k⟩
    have HFit := Hid.mkI (fitsB_iff (cF l) lv)
    have HS := Hid.mkI (fun (i : Nat) (hi : i < 6) => comF_lt hG hi)
    obtain ⟨T, hT2⟩ : ∃ T, fitsB (cF l) lv = T := ⟨_, rfl⟩
    rw [hT2] at tL HFit
    obtain ⟨b0, o0, e0, -, c0⟩ : ∃ b off, vL = some ⟨b, off, none⟩ ∧ b < w.heap.size ∧ ∀ i, i < 6 → w.cell? ⟨b, off + i, none⟩ = some (.int .i64 (lv i)) := hL.resolve_left (by omega)
    subst e0
    have HC0 := Hid.mkI c0
    clear c0
    clear tLo tLe h hT hl hL hc hp hG hlv tRo tRe tRw hT2
    generalize l.length = nn at *
    go_enter Tryd.func6, Tryd.ntmps6
    go_wp2_with fail
    refine (tF w hB0).mono ?_
    rintro e w1 ⟨rfl, hx1⟩
    have hB1 := hB0.trans (hx1.mono hB0.size)
    go_wp2_with fail
    refine (tL w1 hB1).mono ?_
    rintro e w2 ⟨rfl, hx2⟩
    have hB2 := hB1.trans (hx2.mono hB1.size)
    go_wp2_with fail
    refine (tR w2 hB2).mono ?_
    rintro e w3 ⟨g, rfl, HO, hx3⟩
    have hB3 := hB2.trans (hx3.mono hB2.size)
    have tC := HCl.out g w3 hB3 HO.out
    have HR3 := Hid.mkI ((OwnZ.of HO.out).lst (cp := 6))
    clear HCl
    go_wp2_with fail
    refine tC.mono ?_
    rintro e w4 ⟨d, rfl, HD, hx4⟩
    have hB4 := hB3.trans (hx4.mono hB3.size)
    have HR := Hid.mkI (fun (i : Nat) (hi : i < 6) => keep_cell hx4 (HO.out.cell i hi))
    have tI := HI.out (.slice (some ⟨d, 0, none⟩) 6 6) (.slice (some ⟨g, 0, none⟩) 6 6) w4 HD.out (HR3.out.below hx4)
    clear HI
    go_wp2_with fail
    refine tI.mono ?_
    rintro e w5 ⟨rfl, hx5⟩
    have hB5 := hB4.trans (hx5.mono hB4.size)
    have HR := Hid.mkI (fun (i : Nat) (hi : i < 6) => keep_cell hx5 (HR.out i hi))
    have HB5 := Hid.mkI hB5
    clear hB1 hB2 hB3 hB4 hB5 hx1 hx2 hx3 hx4 hx5 tF tL tR tC tI hB0 HO HD HR3
    go_wp2
    go_loopw [12, 13] (fun f p wr => ∃ (i q : Nat) (fb : Bool), i ≤ 6 ∧ f = .bool fb ∧ p = .int .i64 (i : Int) ∧ Hid (w5.drewN q = wr) ∧ Hid (fb = true ↔ ∀ i', i' < i → ∀ j', j' < 6 → cF l i' j' = true → lv j' ≤ lv i')) (fun _ p _ => 7 - (intOf p).toNat)
    case atStart => exact ⟨0, 0, true, by omega, rfl, rfl, rfl, ⟨fun _ i' hi' => absurd hi' (by omega), fun _ => rfl⟩⟩
    case round =>
      obtain ⟨i, q, fb, hi, rfl, rfl, HW, HQ⟩ := hrel
      by_cases hlt : i < 6
      · have hiI : (i : Int) < 6 := by omega
        have hs := HS.out i hlt
        have Hbit := Hid.mkI (fun j => show cF l i j = (comF l i).testBit j from rfl)
        have HRi := Hid.mkI (HR.out i hlt)
        obtain ⟨set, hset⟩ : ∃ z, comF l i = z := ⟨_, rfl⟩
        rw [hset] at hs Hbit HRi
        have hs0 : decide ((set : Int) < 0) = false := decide_eq_false (by omega)
        have hs1 : decide ((set : Int) > 63) = false := decide_eq_false (by omega)
        have hs2 : decide ((63 : Int) < (set : Int)) = false := decide_eq_false (by omega)
        clear hset HS HR
        go_wp2
        go_loopw [12, 14] (fun f p wz => ∃ (j q : Nat) (fb : Bool), j ≤ 6 ∧ f = .bool fb ∧ p = .int .i64 (j : Int) ∧ Hid (w5.drewN q = wz) ∧ Hid (fb = true ↔ (∀ i', i' < i → ∀ j', j' < 6 → cF l i' j' = true → lv j' ≤ lv i') ∧ ∀ j', j' < j → cF l i j' = true → lv j' ≤ lv i)) (fun _ p _ => 7 - (intOf p).toNat)
        case atStart => exact ⟨0, q, fb, by omega, rfl, rfl, HW.out, ⟨fun hh => ⟨HQ.out.1 hh, fun j' hj' => absurd hj' (by omega)⟩, fun hh => HQ.out.2 hh.1⟩⟩
        case round =>
          clear HQ HW q
          obtain ⟨j, q, fb, hj, rfl, rfl, HW, HJ⟩ := hrel
          by_cases hjt : j < 6
          · have hjI : (j : Int) < 6 := by omega
            have zr : wr.cell? ⟨g, i, none⟩ = some (.int .i64 (set : Int)) := by rw [← HW.out]; exact HRi.out
            have z1 : wr.cell? ⟨b0, o0 + i, none⟩ = some (.int .i64 (lv i)) := by rw [← HW.out]; exact keep_cell (below_drawn HB5.out q) (HC0.out i hlt)
            have z2 : wr.cell? ⟨b0, o0 + j, none⟩ = some (.int .i64 (lv j)) := by rw [← HW.out]; exact keep_cell (below_drawn HB5.out q) (HC0.out j hjt)
            have tB := fun w' => bit_any set j (quiet_small hs) (by omega) w'
            have HN := Hid.mkI (fun (fb' : Bool) (hh : fb' = true ↔ (fb = true ∧ (set.testBit j = true → lv j ≤ lv i))) => show fb' = true ↔ (∀ i', i' < i → ∀ j', j' < 6 → cF l i' j' = true → lv j' ≤ lv i') ∧ ∀ j', j' < j + 1 → cF l i j' = true → lv j' ≤ lv i from by
              rw [hh, HJ.out]
              constructor
              · rintro ⟨⟨q1, q2⟩, q3⟩
                refine ⟨q1, fun j' hj' => ?_⟩
                by_cases e : j' = j
                · rw [e, Hbit.out]; exact q3
                · exact q2 j' (by omega)
              · rintro ⟨q1, q2⟩
                exact ⟨⟨q1, fun j' hj' => q2 j' (by omega)⟩, by have := q2 j (by omega); rw [Hbit.out] at this; exact this⟩)
            obtain ⟨bt, hbt⟩ : ∃ z, set.testBit j = z := ⟨_, rfl⟩
            rw [hbt] at tB HN
            obtain ⟨x1, hx1⟩ : ∃ z, lv i = z := ⟨_, rfl⟩
            obtain ⟨x2, hx2⟩ : ∃ z, lv j = z := ⟨_, rfl⟩
            have HH := Hid.mkI (fun (fb' : Bool) (hh : fb' = true ↔ (fb = true ∧ (bt = true → x2 ≤ x1))) => HN.out fb' (by rw [hx1, hx2]; exact hh))
            rw [hx1] at z1
            rw [hx2] at z2
            clear hbt hx1 hx2 HJ HN Hbit HC0 HFit HRi
            cases fb with
            | false =>
              have HO := Hid.mkI (HH.out false (by simp))
              clear HH tB
              go_wp2
              go_quiet (fail)
              go_wp2
              go_roundw
              case rel => exact ⟨j + 1, q + nq, false, by omega, by first | rfl | trivial, by go_num, by show _ = _; rw [← HW.out, World.drewN_drewN], HO⟩
              case measure => simp [intOf]; omega
            | true =>
              cases bt with
              | false =>
                have HO := Hid.mkI (HH.out true (by simp))
                clear HH
                go_wp2
                go_quiet ((go_at_call 20; exact Calls.quiet_of_same (tB _)))
                go_wp2
                go_roundw
                case rel => exact ⟨j + 1, q + nq, true, by omega, by first | rfl | trivial, by go_num, by show _ = _; rw [← HW.out, World.drewN_drewN], ⟨fun _ => HO.out.1 (by first | trivial | rfl), fun _ => rfl⟩⟩
                case measure => simp [intOf]; omega
              | true =>
                by_cases hxx : x2 ≤ x1
                · have HO := Hid.mkI (HH.out true (by simp [hxx]))
                  have g0 : decide (x2 ≤ x1) = true := decide_eq_true hxx
                  clear HH hxx
                  go_wp2
                  go_quiet ((go_at_call 20; exact Calls.quiet_of_same (tB _)))
                  go_wp2
                  go_roundw
                  case rel => exact ⟨j + 1, q + nq, true, by omega, by first | rfl | trivial, by go_num, by show _ = _; rw [← HW.out, World.drewN_drewN], ⟨fun _ => HO.out.1 (by first | trivial | rfl), fun _ => rfl⟩⟩
                  case measure => simp [intOf]; omega
                · have HO := Hid.mkI (HH.out false (by simp; omega))
                  have g0 : decide (x2 ≤ x1) = false := decide_eq_false hxx
                  clear HH hxx
                  go_wp2
                  go_quiet ((go_at_call 20; exact Calls.quiet_of_same (tB _)))
                  go_wp2
                  go_roundw
                  case rel => exact ⟨j + 1, q + nq, false, by omega, by first | rfl | trivial, by go_num, by show _ = _; rw [← HW.out, World.drewN_drewN], HO⟩
                  case measure => simp [intOf]; omega
          · obtain rfl : j = 6 := by omega
            have HO := Hid.mkI (show fb = true ↔ ∀ i', i' < i + 1 → ∀ j', j' < 6 → cF l i' j' = true → lv j' ≤ lv i' from by
              rw [HJ.out]
              constructor
              · rintro ⟨q1, q2⟩ i' hi'
                by_cases e : i' = i
                · rw [e]; exact q2
                · exact q1 i' (by omega)
              · intro q1
                exact ⟨fun i' hi' => q1 i' (by omega), q1 i (by omega)⟩)
            clear HJ
            go_wp2
            go_roundw
            case rel => exact ⟨i + 1, q, fb, by omega, by first | rfl | trivial, by go_num, HW.out, HO⟩
            case measure => simp [intOf]; omega
      · obtain rfl : i = 6 := by omega
        obtain rfl : T = fb := by
          have e : T = true ↔ fb = true := HFit.out.trans HQ.out.symm
          cases T <;> cases fb <;> simp_all
        clear HFit HQ HC0 HR HS
        cases T with
        | false =>
          go_wp2
          go_ret
          exact ⟨rfl, by rw [← HW.out]; exact below_drawn HB5.out q⟩
        | true =>
          go_wp2
          go_ret
          exact ⟨rfl, by rw [← HW.out]; exact below_drawn HB5.out q⟩
  · have tL := tLe hc
    clear tLo tLe h hT hl hL hc tRo tRe
    generalize l.length = nn at *
    generalize fitC l nL lv 0 = pc at *
    go_enter Tryd.func6, Tryd.ntmps6
    go_wp2_with fail
    refine (tF w hB0).mono ?_
    rintro e w1 ⟨rfl, hx1⟩
    have hB1 := hB0.trans (hx1.mono hB0.size)
    go_wp2_with fail
    refine (tL w1 hB1).mono ?_
    rintro e w2 ⟨rfl, hx2⟩
    have hB2 := hB1.trans (hx2.mono hB1.size)
    go_wp2_with fail
    refine (tRw w2 hB2).mono ?_
    rintro e w3 ⟨x0, x1, rfl, hx3⟩
    have hB3 := hB2.trans (hx3.mono hB2.size)
    go_wp2_with fail
    go_ret
    exact ⟨rfl, hB3⟩
end Go.Proofs.YtioimgeeamchaaaDoor
