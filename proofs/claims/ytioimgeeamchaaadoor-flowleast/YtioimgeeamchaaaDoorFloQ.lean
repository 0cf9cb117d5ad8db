/- The walk of the law FlowFrom. (Made by gen/flow.py.) -/
import Derived.WalkKit
import Derived.LoopTactic
import Derived.Deep.QuietTactic
import Derived.BigQuiet
import Derived.Test.YtioimgeeamchaaaDoorFloN
import Derived.Test.YtioimgeeamchaaaDoorRunL
import Derived.Test.YtioimgeeamchaaaDoorSets
namespace Go.Proofs.YtioimgeeamchaaaDoor
open Go.RowKit
set_option maxRecDepth 100000
set_option linter.unusedVariables false

/-- A cell of a list of six that lies at a block's beginning. -/
theorem lst_at {w : World} {g cp : Nat} {f : Nat → Int} (h : Lst w (.slice (some ⟨g, 0, none⟩) 6 cp) 6 f) {i : Nat} (hi : i < 6) : w.cell? ⟨g, i, none⟩ = some (.int .i64 (f i)) := by
  obtain ⟨b, off, c, e, -, hc⟩ := lst_six_lies h (by decide)
  cases e
  have := hc i hi
  rw [Nat.zero_add] at this
  exact this
theorem quiet_small {a : Nat} (h : a < 2 ^ 6) : a < 4096 := Nat.lt_trans h (by decide)
set_option maxHeartbeats 8000000 in
theorem flowFrom_any (a : Option Addr) (cap : Nat) (l : List Nod) (v1 : Value) (n1 : Nat) (s1 : Nat → Int) (v2 : Value) (n2 : Nat) (s2 : Nat → Int) (k : Int) (w : World) (h : AtNods w a l.length (nthD l)) (h1 : Lst w v1 n1 s1) (h2 : Lst w v2 n2 s2) (hT : Tab w) :
    Calls Tryd.prog 5 #[.slice a l.length cap, v1, v2, .int .i64 k] w fun e w' => e = .returned (.bool true) ∧ Below w.heap.size w w' := by
  have hB0 := Below.refl w.heap.size w
  have tF : ∀ w1, Below w.heap.size w w1 → Calls Tryd.prog 18 #[] w1 fun e w' => e = .returned (.bool true) ∧ Below w1.heap.size w1 w' := fun w1 hB => flowFact_any w1 (hT.below hB hT.size)
  obtain ⟨vA, cA, rfl, hA⟩ := id h1
  obtain ⟨vB, cB, rfl, hB⟩ := id h2
  have tAe : ∀ c, runIs l n1 s1 600 = .error c → ∀ w1, Below w.heap.size w w1 → Calls Tryd.prog 19 #[.slice a l.length cap, .slice vA n1 cA, .int .i64 600] w1 fun e w' => e = .returned (.tuple #[.slice none 0 0, .int .i64 0, .iface 57 (.int .i64 c)]) ∧ Below w1.heap.size w1 w' := fun c hc w1 hB => by
    have := run_any l a cap (.slice vA n1 cA) n1 s1 600 w1 (h.below hB) (h1.below hB)
    rw [hc] at this
    exact this.mono fun e w' h => runO_error h
  have tAo : ∀ b, runIs l n1 s1 600 = .ok b → ∀ w1, Below w.heap.size w w1 → Calls Tryd.prog 19 #[.slice a l.length cap, .slice vA n1 cA, .int .i64 600] w1 fun e w' => ∃ g cp, e = .returned (.tuple #[.slice (some ⟨g, 0, none⟩) 6 cp, .int .i64 (b.2 : Int), .nilIface]) ∧ Hid (Lst w' (.slice (some ⟨g, 0, none⟩) 6 cp) 6 b.1) ∧ Below w1.heap.size w1 w' := fun b hb w1 hB => by
    have := run_any l a cap (.slice vA n1 cA) n1 s1 600 w1 (h.below hB) (h1.below hB)
    rw [hb] at this
    exact this.mono fun e w' h => by
      obtain ⟨hb', g, cp, h1, h2⟩ := runO_ok h
      exact ⟨g, cp, h1, h2, hb'⟩
  have tBe : ∀ c, runIs l n2 s2 600 = .error c → ∀ w1, Below w.heap.size w w1 → Calls Tryd.prog 19 #[.slice a l.length cap, .slice vB n2 cB, .int .i64 600] w1 fun e w' => e = .returned (.tuple #[.slice none 0 0, .int .i64 0, .iface 57 (.int .i64 c)]) ∧ Below w1.heap.size w1 w' := fun c hc w1 hB => by
    have := run_any l a cap (.slice vB n2 cB) n2 s2 600 w1 (h.below hB) (h2.below hB)
    rw [hc] at this
    exact this.mono fun e w' h => runO_error h
  have tBo : ∀ b, runIs l n2 s2 600 = .ok b → ∀ w1, Below w.heap.size w w1 → Calls Tryd.prog 19 #[.slice a l.length cap, .slice vB n2 cB, .int .i64 600] w1 fun e w' => ∃ g cp, e = .returned (.tuple #[.slice (some ⟨g, 0, none⟩) 6 cp, .int .i64 (b.2 : Int), .nilIface]) ∧ Hid (Lst w' (.slice (some ⟨g, 0, none⟩) 6 cp) 6 b.1) ∧ Below w1.heap.size w1 w' := fun b hb w1 hB => by
    have := run_any l a cap (.slice vB n2 cB) n2 s2 600 w1 (h.below hB) (h2.below hB)
    rw [hb] at this
    exact this.mono fun e w' h => by
      obtain ⟨hb', g, cp, h1, h2⟩ := runO_ok h
      exact ⟨g, cp, h1, h2, hb'⟩
  have tRo : proC l = 0 → ∀ w1, Below w.heap.size w w1 → Calls Tryd.prog 13 #[.slice a l.length cap] w1 fun e w' => ∃ g, e = .returned (.tuple #[.slice (some ⟨g, 0, none⟩) 6 6, .nilIface]) ∧ Hid (Own w' g 6 (comF l)) ∧ Below w1.heap.size w1 w' := fun hp w1 hB => (ffrom_ok hp a cap w1 (h.below hB) (hT.below hB hT.size)).mono fun e w' ⟨g, h1, _, h2, h3⟩ => ⟨g, h1, h2, h3⟩
  have tRe : proC l ≠ 0 → ∀ w1, Below w.heap.size w w1 → Calls Tryd.prog 13 #[.slice a l.length cap] w1 fun e w' => e = .returned (.tuple #[.slice none 0 0, .iface 57 (.int .i64 (proC l))]) ∧ Below w1.heap.size w1 w' := fun hp w1 hB => ffrom_no hp a cap w1 (h.below hB)
  have HN : ∀ c : Int, ∃ n, l.length = n := fun _ => ⟨_, rfl⟩
  by_cases hp : proC l = 0
  · have tR := tRo hp
    clear tRo tRe
    cases hX : runIs l n1 s1 600 with
    | error c =>
      have tA := tAe c hX
      cases hY : runIs l n2 s2 600 with
      | error c' =>
        have tB := tBe c' hY
        clear tAe tAo tBe tBo hX hY hp h hT h1 h2 hA hB HN
        generalize l.length = nn at *
        go_enter Tryd.func5, Tryd.ntmps5
        go_wp2_with fail
        refine (tF w hB0).mono ?_
        rintro e w1 ⟨rfl, hx1⟩
        have hB1 := hB0.trans (hx1.mono hB0.size)
        go_wp2_with fail
        refine (tR w1 hB1).mono ?_
        rintro e w2 ⟨g, rfl, HO, hx2⟩
        have hB2 := hB1.trans (hx2.mono hB1.size)
        go_wp2_with fail
        refine (tA w2 hB2).mono ?_
        rintro e w3 ⟨rfl, hx3⟩
        have hB3 := hB2.trans (hx3.mono hB2.size)
        go_wp2_with fail
        refine (tB w3 hB3).mono ?_
        rintro e w4 ⟨rfl, hx4⟩
        have hB4 := hB3.trans (hx4.mono hB3.size)
        go_wp2_with fail
        go_ret
        exact ⟨rfl, hB4⟩
      | ok y =>
        have tB := tBo y hY
        clear tAe tAo tBe tBo hX hY hp h hT h1 h2 hA hB HN
        generalize l.length = nn at *
        go_enter Tryd.func5, Tryd.ntmps5
        go_wp2_with fail
        refine (tF w hB0).mono ?_
        rintro e w1 ⟨rfl, hx1⟩
        have hB1 := hB0.trans (hx1.mono hB0.size)
        go_wp2_with fail
        refine (tR w1 hB1).mono ?_
        rintro e w2 ⟨g, rfl, HO, hx2⟩
        have hB2 := hB1.trans (hx2.mono hB1.size)
        go_wp2_with fail
        refine (tA w2 hB2).mono ?_
        rintro e w3 ⟨rfl, hx3⟩
        have hB3 := hB2.trans (hx3.mono hB2.size)
        go_wp2_with fail
        refine (tB w3 hB3).mono ?_
        rintro e w4 ⟨gy, cy, rfl, HY, hx4⟩
        have hB4 := hB3.trans (hx4.mono hB3.size)
        go_wp2_with fail
        go_ret
        exact ⟨rfl, hB4⟩
    | ok x =>
      have tA := tAo x hX
      cases hY : runIs l n2 s2 600 with
      | error c' =>
        have tB := tBe c' hY
        clear tAe tAo tBe tBo hX hY hp h hT h1 h2 hA hB HN
        generalize l.length = nn at *
        go_enter Tryd.func5, Tryd.ntmps5
        go_wp2_with fail
        refine (tF w hB0).mono ?_
        rintro e w1 ⟨rfl, hx1⟩
        have hB1 := hB0.trans (hx1.mono hB0.size)
        go_wp2_with fail
        refine (tR w1 hB1).mono ?_
        rintro e w2 ⟨g, rfl, HO, hx2⟩
        have hB2 := hB1.trans (hx2.mono hB1.size)
        go_wp2_with fail
        refine (tA w2 hB2).mono ?_
        rintro e w3 ⟨gx, cx, rfl, HX, hx3⟩
        have hB3 := hB2.trans (hx3.mono hB2.size)
        go_wp2_with fail
        refine (tB w3 hB3).mono ?_
        rintro e w4 ⟨rfl, hx4⟩
        have hB4 := hB3.trans (hx4.mono hB3.size)
        go_wp2_with fail
        go_ret
        exact ⟨rfl, hB4⟩
      | ok y =>
        have tB := tBo y hY
        by_cases hk : k < 0 ∨ 5 < k
        · clear tAe tAo tBe tBo hX hY hp h hT h1 h2 hA hB HN
          generalize l.length = nn at *
          rcases hk with hk | hk
          · have g1 : decide (k < 0) = true := decide_eq_true hk
            go_enter Tryd.func5, Tryd.ntmps5
            go_wp2_with fail
            refine (tF w hB0).mono ?_
            rintro e w1 ⟨rfl, hx1⟩
            have hB1 := hB0.trans (hx1.mono hB0.size)
            go_wp2_with fail
            refine (tR w1 hB1).mono ?_
            rintro e w2 ⟨g, rfl, HO, hx2⟩
            have hB2 := hB1.trans (hx2.mono hB1.size)
            go_wp2_with fail
            refine (tA w2 hB2).mono ?_
            rintro e w3 ⟨gx, cx, rfl, HX, hx3⟩
            have hB3 := hB2.trans (hx3.mono hB2.size)
            go_wp2_with fail
            refine (tB w3 hB3).mono ?_
            rintro e w4 ⟨gy, cy, rfl, HY, hx4⟩
            have hB4 := hB3.trans (hx4.mono hB3.size)
            go_wp2_with fail
            go_ret
            exact ⟨rfl, hB4⟩
          · have g1 : decide (k < 0) = false := decide_eq_false (by omega)
            have g2 : decide (k > 5) = true := decide_eq_true hk
            have g3 : decide (5 < k) = true := decide_eq_true hk
            go_enter Tryd.func5, Tryd.ntmps5
            go_wp2_with fail
            refine (tF w hB0).mono ?_
            rintro e w1 ⟨rfl, hx1⟩
            have hB1 := hB0.trans (hx1.mono hB0.size)
            go_wp2_with fail
            refine (tR w1 hB1).mono ?_
            rintro e w2 ⟨g, rfl, HO, hx2⟩
            have hB2 := hB1.trans (hx2.mono hB1.size)
            go_wp2_with fail
            refine (tA w2 hB2).mono ?_
            rintro e w3 ⟨gx, cx, rfl, HX, hx3⟩
            have hB3 := hB2.trans (hx3.mono hB2.size)
            go_wp2_with fail
            refine (tB w3 hB3).mono ?_
            rintro e w4 ⟨gy, cy, rfl, HY, hx4⟩
            have hB4 := hB3.trans (hx4.mono hB3.size)
            go_wp2_with fail
            go_ret
            exact ⟨rfl, hB4⟩
        · obtain ⟨kn, rfl⟩ : ∃ q : Nat, k = (q : Int) := ⟨k.toNat, by omega⟩
          have hk6 : kn < 6 := by omega
          have hG := good_of hp
          have HEnd := Hid.mkI (fun (hab : ∀ i, i < 6 → cF l kn i = true → s1 i = s2 i) => by
            obtain rfl := (run_six hX).1
            obtain rfl := (run_six hY).1
            exact flow_from (cF_flw hG) (fun v w hv _ hr => cF_row hG hv hr) hk6 hX hY hab)
          obtain rfl := (run_six hX).1
          obtain rfl := (run_six hY).1
          have hs := comF_lt hG hk6
          obtain ⟨b1, o1, e1, -, c1⟩ : ∃ b off, vA = some ⟨b, off, none⟩ ∧ b < w.heap.size ∧ ∀ i, i < 6 → w.cell? ⟨b, off + i, none⟩ = some (.int .i64 (s1 i)) := hA.resolve_left (by omega)
          obtain ⟨b2, o2, e2, -, c2⟩ : ∃ b off, vB = some ⟨b, off, none⟩ ∧ b < w.heap.size ∧ ∀ i, i < 6 → w.cell? ⟨b, off + i, none⟩ = some (.int .i64 (s2 i)) := hB.resolve_left (by omega)
          subst e1
          subst e2
          have HC1 := Hid.mkI c1
          have HC2 := Hid.mkI c2
          have HBit := Hid.mkI (fun i => show cF l kn i = (comF l kn).testBit i from rfl)
          obtain ⟨set, hset⟩ : ∃ z, comF l kn = z := ⟨_, rfl⟩
          have HSet := Hid.mkI hset
          rw [hset] at hs HBit
          have hs0 : decide ((set : Int) < 0) = false := decide_eq_false (by omega)
          have hs1 : decide ((set : Int) > 63) = false := decide_eq_false (by omega)
          have hs2 : decide ((63 : Int) < (set : Int)) = false := decide_eq_false (by omega)
          have hk0 : (0 : Int) ≤ (kn : Int) := by omega
          have hk1 : (kn : Int) < 6 := by omega
          have g1 : decide ((kn : Int) < 0) = false := decide_eq_false (by omega)
          have g2 : decide ((kn : Int) > 5) = false := decide_eq_false (by omega)
          have g3 : decide (5 < (kn : Int)) = false := decide_eq_false (by omega)
          have tB2 := fun (i : Nat) (hi : i < 6) w' => bit_any set i (quiet_small hs) (by omega) w'
          clear tAe tAo tBe tBo hX hY hp h hT h1 h2 hA hB HN c1 c2 hset hG hk
          generalize l.length = nn at *
          go_enter Tryd.func5, Tryd.ntmps5
          go_wp2_with fail
          refine (tF w hB0).mono ?_
          rintro e w1 ⟨rfl, hx1⟩
          have hB1 := hB0.trans (hx1.mono hB0.size)
          go_wp2_with fail
          refine (tR w1 hB1).mono ?_
          rintro e w2 ⟨g, rfl, HO, hx2⟩
          have hB2 := hB1.trans (hx2.mono hB1.size)
          have zg : w2.cell? ⟨g, kn, none⟩ = some (.int .i64 (set : Int)) := by rw [← HSet.out]; exact HO.out.cell kn hk6
          clear HO
          go_wp2_with fail
          refine (tA w2 hB2).mono ?_
          rintro e w3 ⟨gx, cx, rfl, HX, hx3⟩
          have hB3 := hB2.trans (hx3.mono hB2.size)
          have zg := keep_cell hx3 zg
          go_wp2_with fail
          refine (tB w3 hB3).mono ?_
          rintro e w4 ⟨gy, cy, rfl, HY, hx4⟩
          have hB4 := hB3.trans (hx4.mono hB3.size)
          have zg := keep_cell hx4 zg
          have HX := Hid.mkI (HX.out.below hx4)
          have HB4 := Hid.mkI hB4
          clear hB1 hB2 hB3 hB4 hx1 hx2 hx3 hx4 tF tR tA tB hB0
          go_wp2
          go_loopw [18] (fun p wr => ∃ (i q : Nat), i ≤ 6 ∧ p = .int .i64 (i : Int) ∧ Hid (w4.drewN q = wr) ∧ Hid (∀ j, j < i → cF l kn j = true → s1 j = s2 j)) (fun p _ => 7 - (intOf p).toNat)
          case atStart => exact ⟨0, 0, by omega, rfl, rfl, fun j hj => absurd hj (by omega)⟩
          case round =>
            obtain ⟨i, q, hi, rfl, HW, HQ⟩ := hrel
            have zr : wr.cell? ⟨g, kn, none⟩ = some (.int .i64 (set : Int)) := by rw [← HW.out]; exact zg
            by_cases hlt : i < 6
            · have hiI : (i : Int) < 6 := by omega
              have z1 : wr.cell? ⟨b1, o1 + i, none⟩ = some (.int .i64 (s1 i)) := by rw [← HW.out]; exact keep_cell (below_drawn HB4.out q) (HC1.out i hlt)
              have z2 : wr.cell? ⟨b2, o2 + i, none⟩ = some (.int .i64 (s2 i)) := by rw [← HW.out]; exact keep_cell (below_drawn HB4.out q) (HC2.out i hlt)
              have tB := tB2 i hlt
              have HN := Hid.mkI (fun (hh : cF l kn i = true → s1 i = s2 i) => show ∀ j, j < i + 1 → cF l kn j = true → s1 j = s2 j from fun j hj => by
                by_cases e : j = i
                · rw [e]; exact hh
                · exact HQ.out j (by omega))
              rw [HBit.out i] at HN
              obtain ⟨bt, hbt⟩ : ∃ z, set.testBit i = z := ⟨_, rfl⟩
              rw [hbt] at tB HN
              obtain ⟨x1, hx1⟩ : ∃ z, s1 i = z := ⟨_, rfl⟩
              obtain ⟨x2, hx2⟩ : ∃ z, s2 i = z := ⟨_, rfl⟩
              rw [hx1] at z1 HN
              rw [hx2] at z2 HN
              clear hbt hx1 hx2 HQ HC1 HC2 HEnd zg
              cases bt with
              | false =>
                have HJ := Hid.mkI (HN.out (fun q => by cases q))
                clear HN
                go_wp2
                go_quiet ((go_at_call 20; exact Calls.quiet_of_same (tB _)))
                go_wp2
                go_roundw
                case rel => exact ⟨i + 1, q + nq, by omega, by go_num, by show _ = _; rw [← HW.out, World.drewN_drewN], HJ⟩
                case measure => simp [intOf]; omega
              | true =>
                by_cases hxx : x1 = x2
                · have HJ := Hid.mkI (HN.out (fun _ => hxx))
                  clear HN
                  subst hxx
                  have hyy : (x1 != x1) = false := by simp
                  go_wp2
                  go_quiet ((go_at_call 20; exact Calls.quiet_of_same (tB _)))
                  go_wp2
                  go_roundw
                  case rel => exact ⟨i + 1, q + nq, by omega, by go_num, by show _ = _; rw [← HW.out, World.drewN_drewN], HJ⟩
                  case measure => simp [intOf]; omega
                · have hyy : (x1 != x2) = true := by simpa using hxx
                  clear HN hxx
                  go_wp2
                  go_quiet ((go_at_call 20; exact Calls.quiet_of_same (tB _)))
                  go_wp2
                  go_ret
                  exact ⟨rfl, by rw [← HW.out, World.drewN_drewN]; exact below_drawn HB4.out _⟩
            · obtain rfl : i = 6 := by omega
              have hE := HEnd.out HQ.out
              have z1 : wr.cell? ⟨gx, kn, none⟩ = some (.int .i64 (x.1 kn)) := by rw [← HW.out]; exact lst_at HX.out hk6
              have z2 : wr.cell? ⟨gy, kn, none⟩ = some (.int .i64 (y.1 kn)) := by rw [← HW.out]; exact lst_at HY.out hk6
              rw [hE] at z1
              obtain ⟨z, hz⟩ : ∃ z, y.1 kn = z := ⟨_, rfl⟩
              rw [hz] at z1 z2
              have hzz : (z == z) = true := by simp
              clear hE hz HQ HC1 HC2 HEnd zg HX HY
              go_wp2
              go_quiet (fail)
              go_wp2
              go_ret
              exact ⟨rfl, by rw [← HW.out, World.drewN_drewN]; exact below_drawn HB4.out _⟩
  · have hx1 : ∃ c, runIs l n1 s1 600 = .error c := by
      cases hX : runIs l n1 s1 600 with
      | error c => exact ⟨c, rfl⟩
      | ok b => exact absurd (runIs_pro hX) hp
    have hx2 : ∃ c, runIs l n2 s2 600 = .error c := by
      cases hX : runIs l n2 s2 600 with
      | error c => exact ⟨c, rfl⟩
      | ok b => exact absurd (runIs_pro hX) hp
    obtain ⟨c1, hc1⟩ := hx1
    obtain ⟨c2, hc2⟩ := hx2
    have tR := tRe hp
    have tA := tAe c1 hc1
    have tB := tBe c2 hc2
    clear tAe tAo tBe tBo hp h hT h1 h2 hA hB HN tRo tRe hc1 hc2
    generalize l.length = nn at *
    generalize proC l = pc at *
    go_enter Tryd.func5, Tryd.ntmps5
    go_wp2_with fail
    refine (tF w hB0).mono ?_
    rintro e w1 ⟨rfl, hx1⟩
    have hB1 := hB0.trans (hx1.mono hB0.size)
    go_wp2_with fail
    refine (tR w1 hB1).mono ?_
    rintro e w2 ⟨rfl, hx2⟩
    have hB2 := hB1.trans (hx2.mono hB1.size)
    go_wp2_with fail
    refine (tA w2 hB2).mono ?_
    rintro e w3 ⟨rfl, hx3⟩
    have hB3 := hB2.trans (hx3.mono hB2.size)
    go_wp2_with fail
    refine (tB w3 hB3).mono ?_
    rintro e w4 ⟨rfl, hx4⟩
    have hB4 := hB3.trans (hx4.mono hB3.size)
    go_wp2_with fail
    go_ret
    exact ⟨rfl, hB4⟩
end Go.Proofs.YtioimgeeamchaaaDoor
