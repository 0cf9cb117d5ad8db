/- The walk of the law ProgJoins. (Made by gen/progjoins.py.) -/
import Derived.WalkKit
import Derived.LoopTactic
import Derived.Laws.Concat
import Derived.Test.YtahdbhehaoeemaaGreatDoorPrgB
namespace Go.Proofs.YtahdbhehaoeemaaGreatDoor
open Go.RowKit
set_option maxRecDepth 100000
set_option linter.unusedVariables false

theorem readV_any {w : World} {r : Except Int (List Nod)} {E : Ending} {w' : World} (h : ReadV w r E w') : ∃ v er, E = .returned (.tuple #[v, er]) ∧ Below w.heap.size w w' := by
  cases r with
  | error c => exact ⟨_, _, h.2, h.1⟩
  | ok o => obtain ⟨hb, p, cp, e, _⟩ := h; exact ⟨_, _, e, hb⟩
theorem runO_any {w : World} {r : Except Int ((Nat → Int) × Nat)} {E : Ending} {w' : World} (h : RunO w r E w') : ∃ v n er, E = .returned (.tuple #[v, n, er]) ∧ Below w.heap.size w w' := by
  cases r with
  | error c => exact ⟨_, _, _, h.2, h.1⟩
  | ok o => obtain ⟨hb, g, cp, e, _⟩ := h; exact ⟨_, _, _, e, hb⟩
set_option maxHeartbeats 8000000 in
theorem progJoins_any (y0 y1 : ByteArray) (v : Value) (nv : Nat) (s : Nat → Int) (w : World) (hl : Lst w v nv s) (hL : LibT w.heap.size w) (hE : ErrT w) (hsz : y0.size + y1.size ≤ 9223372036854775807) :
    Calls Tryz.prog 4 #[.string y0, .string y1, v] w fun e w' => e = .returned (.bool true) ∧ Below w.heap.size w w' := by
  have hE0 := old_of_cell hE
  have tF := progFact_any w hL
  have tRd := fun y w1 (hB : Below w.heap.size w w1) => read_any y w1 (hL.call hB)
  have tG : ∀ y w1, Below w.heap.size w w1 → Calls Tryz.prog 8 #[.string y] w1 fun e w' => ∃ v er, e = .returned (.tuple #[v, er]) ∧ Below w1.heap.size w1 w' := fun y w1 hB => (tRd y w1 hB).mono fun e w' h => readV_any h
  have tBad : ∀ y c, redP (numsB y) = .error c → ∀ w1, Below w.heap.size w w1 → Calls Tryz.prog 8 #[.string y] w1 fun e w' => e = .returned (.tuple #[.slice none 0 0, .iface 50 (.int .i64 c)]) ∧ Below w1.heap.size w1 w' := fun y c hr w1 hB => by
    have := tRd y w1 hB
    rw [hr] at this
    exact this.mono fun e w' h => readV_error h
  have tOk : ∀ y o, redP (numsB y) = .ok o → ∀ w1, Below w.heap.size w w1 → Calls Tryz.prog 8 #[.string y] w1 fun e w' => ∃ p cp, e = .returned (.tuple #[.slice p o.length cp, .nilIface]) ∧ Hid (AtNods w' p o.length (nthD o)) ∧ Below w1.heap.size w1 w' := fun y o hr w1 hB => by
    have := tRd y w1 hB
    rw [hr] at this
    exact this.mono fun e w' h => readV_ok h
  have tE4 : ∀ w1, Below w.heap.size w w1 → Calls Tryz.prog 9 #[.iface 50 (.int .i64 4), .int .i64 4] w1 fun e w' => e = .returned (.bool true) ∧ Below w1.heap.size w1 w' := fun w1 hB => rerror_errV 4 w1 (hE.below hB hE0)
  obtain ⟨av, cv, rfl, hlv⟩ := id hl
  have happ := numsB_app y0 y1
  cases h1 : redP (numsB y0) with
  | error c1 => as_aux_lemma =>
    have t1 := tBad y0 c1 h1
    have t2 := tG y1
    have t3 := tG (y0 ++ y1)
    clear tBad tOk tG tRd h1 happ hlv hl hL hE hE0 tE4
    go_enter Tryz.func4, Tryz.ntmps4
    go_wp2_with fail
    refine (tF).mono ?_
    rintro e w1 ⟨rfl, hB1⟩
    go_wp2_with fail
    refine (t1 w1 hB1).mono ?_
    rintro e w2 ⟨rfl, hx2⟩
    have hB2 := hB1.trans (hx2.mono hB1.size)
    go_wp2_with fail
    refine (t2 w2 hB2).mono ?_
    rintro e w3 ⟨v2, er2, rfl, hx3⟩
    have hB3 := hB2.trans (hx3.mono hB2.size)
    go_wp2_with fail
    refine (t3 w3 hB3).mono ?_
    rintro e w4 ⟨v3, er3, rfl, hx4⟩
    have hB4 := hB3.trans (hx4.mono hB3.size)
    go_wp2_with fail
    go_ret
    exact ⟨rfl, hB4⟩
  | ok o1 =>
    cases h2 : redP (numsB y1) with
    | error c2 => as_aux_lemma =>
      have t1 := tOk y0 o1 h1
      have t2 := tBad y1 c2 h2
      have t3 := tG (y0 ++ y1)
      obtain ⟨n1, hn1⟩ : ∃ n, o1.length = n := ⟨_, rfl⟩
      rw [hn1] at t1
      clear tBad tOk tG tRd h1 h2 happ hlv hl hL hE hE0 tE4 hn1
      go_enter Tryz.func4, Tryz.ntmps4
      go_wp2_with fail
      refine (tF).mono ?_
      rintro e w1 ⟨rfl, hB1⟩
      go_wp2_with fail
      refine (t1 w1 hB1).mono ?_
      rintro e w2 ⟨p1, q1, rfl, hN1, hx2⟩
      have hB2 := hB1.trans (hx2.mono hB1.size)
      go_wp2_with fail
      refine (t2 w2 hB2).mono ?_
      rintro e w3 ⟨rfl, hx3⟩
      have hB3 := hB2.trans (hx3.mono hB2.size)
      go_wp2_with fail
      refine (t3 w3 hB3).mono ?_
      rintro e w4 ⟨v3, er3, rfl, hx4⟩
      have hB4 := hB3.trans (hx4.mono hB3.size)
      go_wp2_with fail
      go_ret
      exact ⟨rfl, hB4⟩
    | ok o2 =>
      have hw := joins_wrong h1 h2
      rw [← happ] at hw
      have t1 := tOk y0 o1 h1
      have t2 := tOk y1 o2 h2
      cases h3 : redP (numsB (y0 ++ y1)) with
      | error c3 => as_aux_lemma =>
        obtain rfl : c3 = 4 := by
          rcases hw with ⟨q, hq⟩ | hq
          · rw [h3] at hq; cases hq
          · rw [h3] at hq; cases hq; rfl
        have t3 := tBad (y0 ++ y1) 4 h3
        obtain ⟨n1, hn1⟩ : ∃ n, o1.length = n := ⟨_, rfl⟩
        obtain ⟨n2, hn2⟩ : ∃ n, o2.length = n := ⟨_, rfl⟩
        rw [hn1] at t1
        rw [hn2] at t2
        clear tBad tOk tG tRd h1 h2 h3 happ hlv hl hL hE hE0 hn1 hn2 hw
        go_enter Tryz.func4, Tryz.ntmps4
        go_wp2_with fail
        refine (tF).mono ?_
        rintro e w1 ⟨rfl, hB1⟩
        go_wp2_with fail
        refine (t1 w1 hB1).mono ?_
        rintro e w2 ⟨p1, q1, rfl, hN1, hx2⟩
        have hB2 := hB1.trans (hx2.mono hB1.size)
        go_wp2_with fail
        refine (t2 w2 hB2).mono ?_
        rintro e w3 ⟨p2, q2, rfl, hN2, hx3⟩
        have hB3 := hB2.trans (hx3.mono hB2.size)
        go_wp2_with fail
        refine (t3 w3 hB3).mono ?_
        rintro e w4 ⟨rfl, hx4⟩
        have hB4 := hB3.trans (hx4.mono hB3.size)
        go_wp2_with fail
        refine (tE4 w4 hB4).mono ?_
        rintro e w5 ⟨rfl, hx5⟩
        have hB5 := hB4.trans (hx5.mono hB4.size)
        go_wp2_with fail
        go_ret
        exact ⟨rfl, hB5⟩
      | ok o3 =>
        have t3 := tOk (y0 ++ y1) o3 h3
        have tR1 := fun w1 pp cp (hB : Below w.heap.size w w1) (hat : AtNods w1 pp o1.length (nthD o1)) => run_any o1 pp cp (.slice av nv cv) nv s 200 w1 hat (hl.below hB)
        have tR3 := fun w1 pp cp (hB : Below w.heap.size w w1) (hat : AtNods w1 pp o3.length (nthD o3)) => run_any o3 pp cp (.slice av nv cv) nv s 400 w1 hat (hl.below hB)
        cases hX : runIs o1 nv s 200 with
        | error c => as_aux_lemma =>
          have HR1 : Hid (∀ w1 pp cp, Below w.heap.size w w1 → AtNods w1 pp o1.length (nthD o1) → Calls Tryz.prog 11 #[.slice pp o1.length cp, .slice av nv cv, .int .i64 200] w1 fun e w' => e = .returned (.tuple #[.slice none 0 0, .int .i64 0, .iface 50 (.int .i64 c)]) ∧ Below w1.heap.size w1 w') := fun w1 pp cp hB hat => by
            have := tR1 w1 pp cp hB hat
            rw [hX] at this
            exact this.mono fun e w' h => runO_error h
          obtain ⟨n1, hn1⟩ : ∃ n, o1.length = n := ⟨_, rfl⟩
          obtain ⟨n2, hn2⟩ : ∃ n, o2.length = n := ⟨_, rfl⟩
          obtain ⟨n3, hn3⟩ : ∃ n, o3.length = n := ⟨_, rfl⟩
          rw [hn1] at t1 HR1
          rw [hn2] at t2
          rw [hn3] at t3
          clear tBad tOk tG tRd h1 h2 h3 happ hlv hl hL hE hE0 hn1 hn2 hn3 hw tR1 tR3 hX tE4
          go_enter Tryz.func4, Tryz.ntmps4
          go_wp2_with fail
          refine (tF).mono ?_
          rintro e w1 ⟨rfl, hB1⟩
          go_wp2_with fail
          refine (t1 w1 hB1).mono ?_
          rintro e w2 ⟨p1, q1, rfl, hN1, hx2⟩
          have hB2 := hB1.trans (hx2.mono hB1.size)
          go_wp2_with fail
          refine (t2 w2 hB2).mono ?_
          rintro e w3 ⟨p2, q2, rfl, hN2, hx3⟩
          have hB3 := hB2.trans (hx3.mono hB2.size)
          have hN1 := Hid.mkI (hN1.out.below hx3)
          go_wp2_with fail
          refine (t3 w3 hB3).mono ?_
          rintro e w4 ⟨p3, q3, rfl, hN3, hx4⟩
          have hB4 := hB3.trans (hx4.mono hB3.size)
          have hN1 := Hid.mkI (hN1.out.below hx4)
          have tR := HR1.out w4 p1 q1 hB4 hN1.out
          go_wp2_with fail
          refine (tR).mono ?_
          rintro e w5 ⟨rfl, hx5⟩
          have hB5 := hB4.trans (hx5.mono hB4.size)
          go_wp2_with fail
          go_ret
          exact ⟨rfl, hB5⟩
        | ok b1 =>
          have tR2 := fun w1 pp cp vv (hat : AtNods w1 pp o2.length (nthD o2)) (hv : Lst w1 vv 6 b1.1) => run_any o2 pp cp vv 6 b1.1 200 w1 hat hv
          have HR1 : Hid (∀ w1 pp cp, Below w.heap.size w w1 → AtNods w1 pp o1.length (nthD o1) → Calls Tryz.prog 11 #[.slice pp o1.length cp, .slice av nv cv, .int .i64 200] w1 fun e w' => ∃ g c, e = .returned (.tuple #[.slice (some ⟨g, 0, none⟩) 6 c, .int .i64 (b1.2 : Int), .nilIface]) ∧ Hid (Lst w' (.slice (some ⟨g, 0, none⟩) 6 c) 6 b1.1) ∧ Below w1.heap.size w1 w') := fun w1 pp cp hB hat => by
            have := tR1 w1 pp cp hB hat
            rw [hX] at this
            exact this.mono fun e w' ⟨hb', g, c, h1, h2⟩ => ⟨g, c, h1, h2, hb'⟩
          cases hY : runIs o2 6 b1.1 200 with
          | error c => as_aux_lemma =>
            have HR2 : Hid (∀ w1 pp cp vv, AtNods w1 pp o2.length (nthD o2) → Lst w1 vv 6 b1.1 → Calls Tryz.prog 11 #[.slice pp o2.length cp, vv, .int .i64 200] w1 fun e w' => e = .returned (.tuple #[.slice none 0 0, .int .i64 0, .iface 50 (.int .i64 c)]) ∧ Below w1.heap.size w1 w') := fun w1 pp cp vv hat hv => by
              have := tR2 w1 pp cp vv hat hv
              rw [hY] at this
              exact this.mono fun e w' h => runO_error h
            have HR3 : Hid (∀ w1 pp cp, Below w.heap.size w w1 → AtNods w1 pp o3.length (nthD o3) → Calls Tryz.prog 11 #[.slice pp o3.length cp, .slice av nv cv, .int .i64 400] w1 fun e w' => ∃ v n er, e = .returned (.tuple #[v, n, er]) ∧ Below w1.heap.size w1 w') := fun w1 pp cp hB hat => (tR3 w1 pp cp hB hat).mono fun e w' h => runO_any h
            obtain ⟨n1, hn1⟩ : ∃ n, o1.length = n := ⟨_, rfl⟩
            obtain ⟨n2, hn2⟩ : ∃ n, o2.length = n := ⟨_, rfl⟩
            obtain ⟨n3, hn3⟩ : ∃ n, o3.length = n := ⟨_, rfl⟩
            rw [hn1] at t1 HR1
            rw [hn2] at t2 HR2
            rw [hn3] at t3 HR3
            obtain ⟨B, hB⟩ : ∃ B, b1.2 = B := ⟨_, rfl⟩
            rw [hB] at HR1
            clear tBad tOk tG tRd h1 h2 h3 happ hlv hl hL hE hE0 hn1 hn2 hn3 hw tR1 tR2 tR3 hX hY hB tE4
            go_enter Tryz.func4, Tryz.ntmps4
            go_wp2_with fail
            refine (tF).mono ?_
            rintro e w1 ⟨rfl, hB1⟩
            clear tF
            go_wp2_with fail
            refine (t1 w1 hB1).mono ?_
            rintro e w2 ⟨p1, q1, rfl, hN1, hx2⟩
            have hB2 := hB1.trans (hx2.mono hB1.size)
            clear t1
            go_wp2_with fail
            refine (t2 w2 hB2).mono ?_
            rintro e w3 ⟨p2, q2, rfl, hN2, hx3⟩
            have hB3 := hB2.trans (hx3.mono hB2.size)
            have hN1 := Hid.mkI (hN1.out.below hx3)
            clear t2
            go_wp2_with fail
            refine (t3 w3 hB3).mono ?_
            rintro e w4 ⟨p3, q3, rfl, hN3, hx4⟩
            have hB4 := hB3.trans (hx4.mono hB3.size)
            have hN1 := Hid.mkI (hN1.out.below hx4)
            have hN2 := Hid.mkI (hN2.out.below hx4)
            clear t3
            have tR := HR1.out w4 p1 q1 hB4 hN1.out
            go_wp2_with fail
            refine (tR).mono ?_
            rintro e w5 ⟨g1, c1, rfl, hL1, hx5⟩
            have hB5 := hB4.trans (hx5.mono hB4.size)
            have hN2 := Hid.mkI (hN2.out.below hx5)
            have hN3 := Hid.mkI (hN3.out.below hx5)
            clear tR
            have tR := HR2.out w5 p2 q2 _ hN2.out hL1.out
            go_wp2_with fail
            refine (tR).mono ?_
            rintro e w6 ⟨rfl, hx6⟩
            have hB6 := hB5.trans (hx6.mono hB5.size)
            have hN3 := Hid.mkI (hN3.out.below hx6)
            clear tR
            have tR := HR3.out w6 p3 q3 hB6 hN3.out
            go_wp2_with fail
            refine (tR).mono ?_
            rintro e w7 ⟨v7, n7, er7, rfl, hx7⟩
            have hB7 := hB6.trans (hx7.mono hB6.size)
            go_wp2_with fail
            go_ret
            exact ⟨rfl, hB7⟩
          | ok b2 => as_aux_lemma =>
            have hj := joins_runs h1 h2 (by rw [← happ]; exact h3) hX hY
            obtain ⟨-, -, -, f1, hf1, -, g1, -, hg1⟩ := runIs_ok hX
            obtain ⟨-, -, -, f2, hf2, -, g2, -, hg2⟩ := runIs_ok hY
            have hb1 : b1.2 ≤ 200 := by omega
            have hb2 : b2.2 ≤ 200 := by omega
            have HR2 : Hid (∀ w1 pp cp vv, AtNods w1 pp o2.length (nthD o2) → Lst w1 vv 6 b1.1 → Calls Tryz.prog 11 #[.slice pp o2.length cp, vv, .int .i64 200] w1 fun e w' => ∃ g c, e = .returned (.tuple #[.slice (some ⟨g, 0, none⟩) 6 c, .int .i64 (b2.2 : Int), .nilIface]) ∧ Hid (Lst w' (.slice (some ⟨g, 0, none⟩) 6 c) 6 b2.1) ∧ Below w1.heap.size w1 w') := fun w1 pp cp vv hat hv => by
              have := tR2 w1 pp cp vv hat hv
              rw [hY] at this
              exact this.mono fun e w' ⟨hb', g, c, h1, h2⟩ => ⟨g, c, h1, h2, hb'⟩
            have HR3 : Hid (∀ w1 pp cp, Below w.heap.size w w1 → AtNods w1 pp o3.length (nthD o3) → Calls Tryz.prog 11 #[.slice pp o3.length cp, .slice av nv cv, .int .i64 400] w1 fun e w' => ∃ g c, e = .returned (.tuple #[.slice (some ⟨g, 0, none⟩) 6 c, .int .i64 ((b1.2 : Int) + (b2.2 : Int)), .nilIface]) ∧ Hid (Lst w' (.slice (some ⟨g, 0, none⟩) 6 c) 6 b2.1) ∧ Below w1.heap.size w1 w') := fun w1 pp cp hB hat => by
              have := tR3 w1 pp cp hB hat
              rw [hj] at this
              exact this.mono fun e w' ⟨hb', g, c, h1, h2⟩ => ⟨g, c, by rw [h1]; rfl, h2, hb'⟩
            have HI : Hid (∀ v1 v2 w1, Lst w1 v1 6 b2.1 → Lst w1 v2 6 b2.1 → Calls Tryz.prog 12 #[v1, v2] w1 fun e w' => e = .returned (.bool true) ∧ Below w1.heap.size w1 w') := fun v1 v2 w1 h1 h2 => (rints_same v1 v2 6 (by decide) b2.1 w1 h1 h2).mono fun e w' ⟨he, k, hk⟩ => ⟨he, by rw [hk]; exact below_drawn (Below.refl _ _) k⟩
            obtain ⟨n1, hn1⟩ : ∃ n, o1.length = n := ⟨_, rfl⟩
            obtain ⟨n2, hn2⟩ : ∃ n, o2.length = n := ⟨_, rfl⟩
            obtain ⟨n3, hn3⟩ : ∃ n, o3.length = n := ⟨_, rfl⟩
            rw [hn1] at t1 HR1
            rw [hn2] at t2 HR2
            rw [hn3] at t3 HR3
            obtain ⟨B1, hB1'⟩ : ∃ B, b1.2 = B := ⟨_, rfl⟩
            obtain ⟨B2, hB2'⟩ : ∃ B, b2.2 = B := ⟨_, rfl⟩
            rw [hB1'] at HR1 HR3 hb1
            rw [hB2'] at HR2 HR3 hb2
            have hi1 : (B1 : Int) ≤ 200 := by omega
            have hi2 : (B2 : Int) ≤ 200 := by omega
            clear tBad tOk tG tRd h1 h2 h3 happ hlv hl hL hE hE0 hn1 hn2 hn3 hw tR1 tR2 tR3 hX hY hB1' hB2' tE4 hj hf1 hg1 hf2 hg2
            go_enter Tryz.func4, Tryz.ntmps4
            go_wp2_with fail
            refine (tF).mono ?_
            rintro e w1 ⟨rfl, hB1⟩
            clear tF
            go_wp2_with fail
            refine (t1 w1 hB1).mono ?_
            rintro e w2 ⟨p1, q1, rfl, hN1, hx2⟩
            have hB2 := hB1.trans (hx2.mono hB1.size)
            clear t1
            go_wp2_with fail
            refine (t2 w2 hB2).mono ?_
            rintro e w3 ⟨p2, q2, rfl, hN2, hx3⟩
            have hB3 := hB2.trans (hx3.mono hB2.size)
            have hN1 := Hid.mkI (hN1.out.below hx3)
            clear t2
            go_wp2_with fail
            refine (t3 w3 hB3).mono ?_
            rintro e w4 ⟨p3, q3, rfl, hN3, hx4⟩
            have hB4 := hB3.trans (hx4.mono hB3.size)
            have hN1 := Hid.mkI (hN1.out.below hx4)
            have hN2 := Hid.mkI (hN2.out.below hx4)
            clear t3
            have tR := HR1.out w4 p1 q1 hB4 hN1.out
            go_wp2_with fail
            refine (tR).mono ?_
            rintro e w5 ⟨g1, c1, rfl, hL1, hx5⟩
            have hB5 := hB4.trans (hx5.mono hB4.size)
            have hN2 := Hid.mkI (hN2.out.below hx5)
            have hN3 := Hid.mkI (hN3.out.below hx5)
            clear tR
            have tR := HR2.out w5 p2 q2 _ hN2.out hL1.out
            go_wp2_with fail
            refine (tR).mono ?_
            rintro e w6 ⟨g2, c2, rfl, hL2, hx6⟩
            have hB6 := hB5.trans (hx6.mono hB5.size)
            have hN3 := Hid.mkI (hN3.out.below hx6)
            clear tR
            have tR := HR3.out w6 p3 q3 hB6 hN3.out
            go_wp2_with fail
            refine (tR).mono ?_
            rintro e w7 ⟨g3, c3, rfl, hL3, hx7⟩
            have hB7 := hB6.trans (hx7.mono hB6.size)
            have hL2 := Hid.mkI (hL2.out.below hx7)
            clear tR
            have tI := HI.out _ _ w7 hL3.out hL2.out
            go_wp2_with fail
            refine (tI).mono ?_
            rintro e w8 ⟨rfl, hx8⟩
            have hB8 := hB7.trans (hx8.mono hB7.size)
            go_wp2_with fail
            go_ret
            exact ⟨rfl, hB8⟩
end Go.Proofs.YtahdbhehaoeemaaGreatDoor
