/- The walk of the law FlowQuiet. (Made by gen/flow.py.) -/
import Derived.WalkKit
import Derived.LoopTactic
import Derived.Deep.QuietTactic
import Derived.BigQuiet
import Derived.Test.YtioimgeeamchaaaDoorFloQ
namespace Go.Proofs.YtioimgeeamchaaaDoor
open Go.RowKit
set_option maxRecDepth 100000
set_option linter.unusedVariables false

set_option maxHeartbeats 8000000 in
theorem flowQuiet_any (a : Option Addr) (cap : Nat) (l : List Nod) (v0 : Value) (nL : Nat) (lv : Nat → Int) (v1 : Value) (n1 : Nat) (s1 : Nat → Int) (v2 : Value) (n2 : Nat) (s2 : Nat → Int) (k : Int) (w : World) (h : AtNods w a l.length (nthD l)) (hl : Lst w v0 nL lv) (h1 : Lst w v1 n1 s1) (h2 : Lst w v2 n2 s2) (hT : Tab w) :
    Calls Tryd.prog 4 #[.slice a l.length cap, v0, v1, v2, .int .i64 k] w fun e w' => e = .returned (.bool true) ∧ Below w.heap.size w w' := by
  have hB0 := Below.refl w.heap.size w
  have tF : ∀ w1, Below w.heap.size w w1 → Calls Tryd.prog 18 #[] w1 fun e w' => e = .returned (.bool true) ∧ Below w1.heap.size w1 w' := fun w1 hB => flowFact_any w1 (hT.below hB hT.size)
  obtain ⟨vL, cL, rfl, hL⟩ := id hl
  obtain ⟨vA, cA, rfl, hA⟩ := id h1
  obtain ⟨vB, cB, rfl, hB⟩ := id h2
  have tAe : ∀ c, runIs l n1 s1 600 = .error c → ∀ w1, Below w.heap.size w w1 → Calls Tryd.prog 19 #[.slice a l.length cap, .slice vA n1 cA, .int .i64 600] w1 fun e w' => e = .returned (.tuple #[.slice none 0 0, .int .i64 0, .iface 57 (.int .i64 c)]) ∧ Below w1.heap.size w1 w' := fun c hc w1 hB => by
    have := run_any l a cap (.slice vA n1 cA) n1 s1 600 w1 (h.below hB) (h1.below hB)
    rw [hc] at this
    exact this.mono fun e w' h => runO_error h
  have tAo : ∀ b, runIs l n1 s1 600 = .ok b → ∀ w1, Below w.heap.size w w1 → Calls Tryd.prog 19 #[.slice a l.length cap, .slice vA n1 cA, .int .i64 600] w1 fun e w' => ∃ g cp, e = .returned (.tuple #[.slice (some ⟨g, 0, none⟩) 6 cp, .int .i64 (b.2 : Int), .nilIface]) ∧ Hid (Lst w' (.slice (some ⟨g, 0, none⟩) 6 cp) 6 b.1) ∧ Below w1.heap.size w1 w' := fun b hb w1 hB => by
    have := run_any l a cap (.slice vA n1 cA) n1 s1 600 w1 (h.below hB) (h1.below hB)
    rw [hb] at this
    exact this.mono fun e w' h => by
      obtain ⟨hb', g, cp, h1, h2⟩ := runO_ok h
      exact ⟨g, cp, h1, h2, hb'⟩
  have tBe : ∀ c, runIs l n2 s2 600 = .error c → ∀ w1, Below w.heap.size w w1 → Calls Tryd.prog 19 #[.slice a l.length cap, .slice vB n2 cB, .int .i64 600] w1 fun e w' => e = .returned (.tuple #[.slice none 0 0, .int .i64 0, .iface 57 (.int .i64 c)]) ∧ Below w1.heap.size w1 w' := fun c hc w1 hB => by
    have := run_any l a cap (.slice vB n2 cB) n2 s2 600 w1 (h.below hB) (h2.below hB)
    rw [hc] at this
    exact this.mono fun e w' h => runO_error h
  have tBo : ∀ b, runIs l n2 s2 600 = .ok b → ∀ w1, Below w.heap.size w w1 → Calls Tryd.prog 19 #[.slice a l.length cap, .slice vB n2 cB, .int .i64 600] w1 fun e w' => ∃ g cp, e = .returned (.tuple #[.slice (some ⟨g, 0, none⟩) 6 cp, .int .i64 (b.2 : Int), .nilIface]) ∧ Hid (Lst w' (.slice (some ⟨g, 0, none⟩) 6 cp) 6 b.1) ∧ Below w1.heap.size w1 w' := fun b hb w1 hB => by
    have := run_any l a cap (.slice vB n2 cB) n2 s2 600 w1 (h.below hB) (h2.below hB)
    rw [hb] at this
    exact this.mono fun e w' h => by
      obtain ⟨hb', g, cp, h1, h2⟩ := runO_ok h
      exact ⟨g, cp, h1, h2, hb'⟩
  have tAw : ∀ w1, Below w.heap.size w w1 → Calls Tryd.prog 19 #[.slice a l.length cap, .slice vA n1 cA, .int .i64 600] w1 fun e w' => ∃ x0 x1 x2, e = .returned (.tuple #[x0, x1, x2]) ∧ Below w1.heap.size w1 w' := fun w1 hB => by
    cases hX : runIs l n1 s1 600 with
    | error c => exact (tAe c hX w1 hB).mono fun e w' ⟨h1, h2⟩ => ⟨_, _, _, h1, h2⟩
    | ok b => exact (tAo b hX w1 hB).mono fun e w' ⟨g, cp, h1, _, h2⟩ => ⟨_, _, _, h1, h2⟩
  have tBw : ∀ w1, Below w.heap.size w w1 → Calls Tryd.prog 19 #[.slice a l.length cap, .slice vB n2 cB, .int .i64 600] w1 fun e w' => ∃ x0 x1 x2, e = .returned (.tuple #[x0, x1, x2]) ∧ Below w1.heap.size w1 w' := fun w1 hB => by
    cases hX : runIs l n2 s2 600 with
    | error c => exact (tBe c hX w1 hB).mono fun e w' ⟨h1, h2⟩ => ⟨_, _, _, h1, h2⟩
    | ok b => exact (tBo b hX w1 hB).mono fun e w' ⟨g, cp, h1, _, h2⟩ => ⟨_, _, _, h1, h2⟩
  have tLo : fitC l nL lv 0 = 0 → ∀ w1, Below w.heap.size w w1 → Calls Tryd.prog 16 #[.slice a l.length cap, .slice vL nL cL] w1 fun e w' => e = .returned (.tuple #[.bool (fitsB (cF l) lv), .nilIface]) ∧ Below w1.heap.size w1 w' := fun hc w1 hB => ffits_ok a cap (.slice vL nL cL) nL lv hc w1 (h.below hB) (hl.below hB) (hT.below hB hT.size)
  have tLe : fitC l nL lv 0 ≠ 0 → ∀ w1, Below w.heap.size w w1 → Calls Tryd.prog 16 #[.slice a l.length cap, .slice vL nL cL] w1 fun e w' => e = .returned (.tuple #[.bool false, .iface 57 (.int .i64 (fitC l nL lv 0))]) ∧ Below w1.heap.size w1 w' := fun hc w1 hB => ffits_no a cap (.slice vL nL cL) nL lv hc w1 (h.below hB) (hl.below hB) (hT.below hB hT.size)
  by_cases hc : fitC l nL lv 0 = 0
  · have tL := tLo hc
    cases hf : fitsB (cF l) lv with
    | false =>
      rw [hf] at tL
      clear tAe tAo tBe tBo tLo tLe h hT hl h1 h2 hA hB hL hf hc
      generalize l.length = nn at *
      go_enter Tryd.func4, Tryd.ntmps4
      go_wp2_with fail
      refine (tF w hB0).mono ?_
      rintro e w1 ⟨rfl, hx1⟩
      have hB1 := hB0.trans (hx1.mono hB0.size)
      go_wp2_with fail
      refine (tL w1 hB1).mono ?_
      rintro e w2 ⟨rfl, hx2⟩
      have hB2 := hB1.trans (hx2.mono hB1.size)
      go_wp2_with fail
      refine (tAw w2 hB2).mono ?_
      rintro e w3 ⟨a0, a1, a2, rfl, hx3⟩
      have hB3 := hB2.trans (hx3.mono hB2.size)
      go_wp2_with fail
      refine (tBw w3 hB3).mono ?_
      rintro e w4 ⟨b0, b1, b2, rfl, hx4⟩
      have hB4 := hB3.trans (hx4.mono hB3.size)
      go_wp2_with fail
      go_ret
      exact ⟨rfl, hB4⟩
    | true =>
      rw [hf] at tL
      cases hX : runIs l n1 s1 600 with
      | error c =>
        have tA := tAe c hX
        clear tAe tAo tBe tBo tLo tLe h hT hl h1 h2 hA hB hL hf hc hX tAw
        generalize l.length = nn at *
        go_enter Tryd.func4, Tryd.ntmps4
        go_wp2_with fail
        refine (tF w hB0).mono ?_
        rintro e w1 ⟨rfl, hx1⟩
        have hB1 := hB0.trans (hx1.mono hB0.size)
        go_wp2_with fail
        refine (tL w1 hB1).mono ?_
        rintro e w2 ⟨rfl, hx2⟩
        have hB2 := hB1.trans (hx2.mono hB1.size)
        go_wp2_with fail
        refine (tA w2 hB2).mono ?_
        rintro e w3 ⟨rfl, hx3⟩
        have hB3 := hB2.trans (hx3.mono hB2.size)
        go_wp2_with fail
        refine (tBw w3 hB3).mono ?_
        rintro e w4 ⟨b0, b1, b2, rfl, hx4⟩
        have hB4 := hB3.trans (hx4.mono hB3.size)
        go_wp2_with fail
        go_ret
        exact ⟨rfl, hB4⟩
      | ok x =>
        have tA := tAo x hX
        cases hY : runIs l n2 s2 600 with
        | error c' =>
          have tB := tBe c' hY
          clear tAe tAo tBe tBo tLo tLe h hT hl h1 h2 hA hB hL hf hc hX hY tAw tBw
          generalize l.length = nn at *
          go_enter Tryd.func4, Tryd.ntmps4
          go_wp2_with fail
          refine (tF w hB0).mono ?_
          rintro e w1 ⟨rfl, hx1⟩
          have hB1 := hB0.trans (hx1.mono hB0.size)
          go_wp2_with fail
          refine (tL w1 hB1).mono ?_
          rintro e w2 ⟨rfl, hx2⟩
          have hB2 := hB1.trans (hx2.mono hB1.size)
          go_wp2_with fail
          refine (tA w2 hB2).mono ?_
          rintro e w3 ⟨gx, cx, rfl, HX, hx3⟩
          have hB3 := hB2.trans (hx3.mono hB2.size)
          go_wp2_with fail
          refine (tB w3 hB3).mono ?_
          rintro e w4 ⟨rfl, hx4⟩
          have hB4 := hB3.trans (hx4.mono hB3.size)
          go_wp2_with fail
          go_ret
          exact ⟨rfl, hB4⟩
        | ok y =>
          have tB := tBo y hY
          obtain ⟨hp, rfl, hlv⟩ := fitC_ok hc
          have hG := good_of hp
          have HEnd := Hid.mkI (fun (hab : ∀ i, i < 6 → lv i ≤ k → s1 i = s2 i) => show ∀ i, i < 6 → lv i ≤ k → x.1 i = y.1 i by
            obtain rfl := (run_six hX).1
            obtain rfl := (run_six hY).1
            exact flow_quiet (c := cF l) (fun v w hv _ hr => cF_row hG hv hr) ((fitsB_iff _ _).1 hf) k hX hY hab)
          obtain rfl := (run_six hX).1
          obtain rfl := (run_six hY).1
          obtain ⟨b0, o0, e0, -, c0⟩ : ∃ b off, vL = some ⟨b, off, none⟩ ∧ b < w.heap.size ∧ ∀ i, i < 6 → w.cell? ⟨b, off + i, none⟩ = some (.int .i64 (lv i)) := hL.resolve_left (by omega)
          subst e0
          have HC0 := Hid.mkI c0
          clear c0
          obtain ⟨b1, o1, e1, -, c1⟩ : ∃ b off, vA = some ⟨b, off, none⟩ ∧ b < w.heap.size ∧ ∀ i, i < 6 → w.cell? ⟨b, off + i, none⟩ = some (.int .i64 (s1 i)) := hA.resolve_left (by omega)
          subst e1
          have HC1 := Hid.mkI c1
          clear c1
          obtain ⟨b2, o2, e2, -, c2⟩ : ∃ b off, vB = some ⟨b, off, none⟩ ∧ b < w.heap.size ∧ ∀ i, i < 6 → w.cell? ⟨b, off + i, none⟩ = some (.int .i64 (s2 i)) := hB.resolve_left (by omega)
          subst e2
          have HC2 := Hid.mkI c2
          clear c2
          clear tAe tAo tBe tBo tLo tLe h hT hl h1 h2 hA hB hL hf hc hX hY tAw tBw hp hG hlv
          generalize l.length = nn at *
          go_enter Tryd.func4, Tryd.ntmps4
          go_wp2_with fail
          refine (tF w hB0).mono ?_
          rintro e w1 ⟨rfl, hx1⟩
          have hB1 := hB0.trans (hx1.mono hB0.size)
          go_wp2_with fail
          refine (tL w1 hB1).mono ?_
          rintro e w2 ⟨rfl, hx2⟩
          have hB2 := hB1.trans (hx2.mono hB1.size)
          go_wp2_with fail
          refine (tA w2 hB2).mono ?_
          rintro e w3 ⟨gx, cx, rfl, HX, hx3⟩
          have hB3 := hB2.trans (hx3.mono hB2.size)
          go_wp2_with fail
          refine (tB w3 hB3).mono ?_
          rintro e w4 ⟨gy, cy, rfl, HY, hx4⟩
          have hB4 := hB3.trans (hx4.mono hB3.size)
          have HX := Hid.mkI (HX.out.below hx4)
          have HB4 := Hid.mkI hB4
          clear hB1 hB2 hB3 hB4 hx1 hx2 hx3 hx4 tF tL tA tB hB0
          go_wp2
          go_loopw [20] (fun p wr => ∃ (i q : Nat), i ≤ 6 ∧ p = .int .i64 (i : Int) ∧ Hid (w4.drewN q = wr) ∧ Hid (∀ j, j < i → lv j ≤ k → s1 j = s2 j)) (fun p _ => 7 - (intOf p).toNat)
          case atStart => exact ⟨0, 0, by omega, rfl, rfl, fun j hj => absurd hj (by omega)⟩
          case round =>
            obtain ⟨i, q, hi, rfl, HW, HQ⟩ := hrel
            by_cases hlt : i < 6
            · have hiI : (i : Int) < 6 := by omega
              have z0 : wr.cell? ⟨b0, o0 + i, none⟩ = some (.int .i64 (lv i)) := by rw [← HW.out]; exact keep_cell (below_drawn HB4.out q) (HC0.out i hlt)
              have z1 : wr.cell? ⟨b1, o1 + i, none⟩ = some (.int .i64 (s1 i)) := by rw [← HW.out]; exact keep_cell (below_drawn HB4.out q) (HC1.out i hlt)
              have z2 : wr.cell? ⟨b2, o2 + i, none⟩ = some (.int .i64 (s2 i)) := by rw [← HW.out]; exact keep_cell (below_drawn HB4.out q) (HC2.out i hlt)
              have HN := Hid.mkI (fun (hh : lv i ≤ k → s1 i = s2 i) => show ∀ j, j < i + 1 → lv j ≤ k → s1 j = s2 j from fun j hj => by
                by_cases e : j = i
                · rw [e]; exact hh
                · exact HQ.out j (by omega))
              obtain ⟨x0, hx0⟩ : ∃ z, lv i = z := ⟨_, rfl⟩
              obtain ⟨x1, hx1⟩ : ∃ z, s1 i = z := ⟨_, rfl⟩
              obtain ⟨x2, hx2⟩ : ∃ z, s2 i = z := ⟨_, rfl⟩
              have HH := Hid.mkI (fun (hh : x0 ≤ k → x1 = x2) => HN.out (by rw [hx0, hx1, hx2]; exact hh))
              rw [hx0] at z0
              rw [hx1] at z1
              rw [hx2] at z2
              clear hx0 hx1 hx2 HQ HC0 HC1 HC2 HEnd HN
              by_cases h0 : x0 ≤ k
              · have g0 : decide (x0 ≤ k) = true := decide_eq_true h0
                by_cases hxx : x1 = x2
                · have HJ := Hid.mkI (HH.out (fun _ => hxx))
                  subst hxx
                  have hyy : (x1 != x1) = false := by simp
                  clear HH h0
                  go_wp2
                  go_quiet (fail)
                  go_wp2
                  go_roundw
                  case rel => exact ⟨i + 1, q + nq, by omega, by go_num, by show _ = _; rw [← HW.out, World.drewN_drewN], HJ⟩
                  case measure => simp [intOf]; omega
                · have hyy : (x1 != x2) = true := by simpa using hxx
                  clear HH hxx h0
                  go_wp2
                  go_quiet (fail)
                  go_wp2
                  go_ret
                  exact ⟨rfl, by rw [← HW.out, World.drewN_drewN]; exact below_drawn HB4.out _⟩
              · have g0 : decide (x0 ≤ k) = false := decide_eq_false h0
                have HJ := Hid.mkI (HH.out (fun q => absurd q h0))
                clear HH h0
                go_wp2
                go_quiet (fail)
                go_wp2
                go_roundw
                case rel => exact ⟨i + 1, q + nq, by omega, by go_num, by show _ = _; rw [← HW.out, World.drewN_drewN], HJ⟩
                case measure => simp [intOf]; omega
            · obtain rfl : i = 6 := by omega
              have HE := Hid.mkI (HEnd.out HQ.out)
              have HW1 := Hid.mkI HW.out
              clear HQ HC1 HC2 HEnd
              go_wp2
              go_loopw [21] (fun p wz => ∃ (i q : Nat), i ≤ 6 ∧ p = .int .i64 (i : Int) ∧ Hid (w4.drewN q = wz)) (fun p _ => 7 - (intOf p).toNat)
              case atStart => exact ⟨0, q, by omega, rfl, HW1.out⟩
              case round =>
                clear HW HW1 q
                obtain ⟨i, q, hi, rfl, HW⟩ := hrel
                by_cases hlt : i < 6
                · have hiI : (i : Int) < 6 := by omega
                  have z0 : wr.cell? ⟨b0, o0 + i, none⟩ = some (.int .i64 (lv i)) := by rw [← HW.out]; exact keep_cell (below_drawn HB4.out q) (HC0.out i hlt)
                  have z1 : wr.cell? ⟨gx, i, none⟩ = some (.int .i64 (x.1 i)) := by rw [← HW.out]; exact lst_at HX.out hlt
                  have z2 : wr.cell? ⟨gy, i, none⟩ = some (.int .i64 (y.1 i)) := by rw [← HW.out]; exact lst_at HY.out hlt
                  have HEi := Hid.mkI (HE.out i hlt)
                  obtain ⟨x0, hx0⟩ : ∃ z, lv i = z := ⟨_, rfl⟩
                  obtain ⟨x1, hx1⟩ : ∃ z, x.1 i = z := ⟨_, rfl⟩
                  obtain ⟨x2, hx2⟩ : ∃ z, y.1 i = z := ⟨_, rfl⟩
                  rw [hx0] at z0 HEi
                  rw [hx1] at z1 HEi
                  rw [hx2] at z2 HEi
                  clear hx0 hx1 hx2 HC0 HE HX HY
                  by_cases h0 : x0 ≤ k
                  · have g0 : decide (x0 ≤ k) = true := decide_eq_true h0
                    obtain rfl := HEi.out h0
                    have hyy : (x1 != x1) = false := by simp
                    clear HEi h0
                    go_wp2
                    go_quiet (fail)
                    go_wp2
                    go_roundw
                    case rel => exact ⟨i + 1, q + nq, by omega, by go_num, by show _ = _; rw [← HW.out, World.drewN_drewN]⟩
                    case measure => simp [intOf]; omega
                  · have g0 : decide (x0 ≤ k) = false := decide_eq_false h0
                    clear HEi h0
                    go_wp2
                    go_quiet (fail)
                    go_wp2
                    go_roundw
                    case rel => exact ⟨i + 1, q + nq, by omega, by go_num, by show _ = _; rw [← HW.out, World.drewN_drewN]⟩
                    case measure => simp [intOf]; omega
                · obtain rfl : i = 6 := by omega
                  go_wp2
                  go_ret
                  exact ⟨rfl, by rw [← HW.out]; exact below_drawn HB4.out q⟩
  · have tL := tLe hc
    clear tAe tAo tBe tBo tLo tLe h hT hl h1 h2 hA hB hL hc
    generalize l.length = nn at *
    generalize fitC l nL lv 0 = pc at *
    go_enter Tryd.func4, Tryd.ntmps4
    go_wp2_with fail
    refine (tF w hB0).mono ?_
    rintro e w1 ⟨rfl, hx1⟩
    have hB1 := hB0.trans (hx1.mono hB0.size)
    go_wp2_with fail
    refine (tL w1 hB1).mono ?_
    rintro e w2 ⟨rfl, hx2⟩
    have hB2 := hB1.trans (hx2.mono hB1.size)
    go_wp2_with fail
    refine (tAw w2 hB2).mono ?_
    rintro e w3 ⟨a0, a1, a2, rfl, hx3⟩
    have hB3 := hB2.trans (hx3.mono hB2.size)
    go_wp2_with fail
    refine (tBw w3 hB3).mono ?_
    rintro e w4 ⟨b0, b1, b2, rfl, hx4⟩
    have hB4 := hB3.trans (hx4.mono hB3.size)
    go_wp2_with fail
    go_ret
    exact ⟨rfl, hB4⟩
end Go.Proofs.YtioimgeeamchaaaDoor
