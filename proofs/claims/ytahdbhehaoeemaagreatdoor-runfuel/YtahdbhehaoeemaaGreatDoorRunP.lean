/- The walk of the law RunFuel. (Made by gen/runfuel.py.) -/
import Derived.WalkKit
import Derived.LoopTactic
import Derived.Test.YtahdbhehaoeemaaGreatDoorRunN
namespace Go.Proofs.YtahdbhehaoeemaaGreatDoor
open Go.RowKit
set_option maxRecDepth 100000
set_option linter.unusedVariables false

set_option maxHeartbeats 8000000 in
theorem runFuel_any (a : Option Addr) (cap : Nat) (l : List Nod) (v : Value) (nv : Nat) (s : Nat → Int) (F m : Int) (w : World) (h : AtNods w a l.length (nthD l)) (hl : Lst w v nv s) (hL : LibT w.heap.size w) (hE : ErrT w) :
    Calls Tryz.prog 5 #[.slice a l.length cap, v, .int .i64 F, .int .i64 m] w fun e w' => e = .returned (.bool true) ∧ Below w.heap.size w w' := by
  have hE0 := old_of_cell hE
  have tF := runFact_any w hL
  have tR := fun F w1 (hB : Below w.heap.size w w1) => run_any l a cap v nv s F w1 (h.below hB) (hl.below hB)
  obtain ⟨av, cv, rfl, hlv⟩ := id hl
  cases hX : runIs l nv s F with
  | error c =>
    have tR := tR F
    rw [hX] at tR
    have tR : ∀ w1, Below w.heap.size w w1 → Calls Tryz.prog 11 #[.slice a l.length cap, .slice av nv cv, .int .i64 F] w1 fun e w' => e = .returned (.tuple #[.slice none 0 0, .int .i64 0, .iface 50 (.int .i64 c)]) ∧ Below w1.heap.size w1 w' := fun w1 hB => (tR w1 hB).mono fun e w' h => runO_error h
    obtain ⟨n, hn⟩ : ∃ n, l.length = n := ⟨_, rfl⟩
    rw [hn] at tR ⊢
    clear hX hlv hl h hL hn hE hE0
    go_enter Tryz.func5, Tryz.ntmps5
    go_wp2_with fail
    refine tF.mono ?_
    rintro e w1 ⟨rfl, hB1⟩
    go_wp2_with fail
    refine (tR w1 hB1).mono ?_
    rintro e w2 ⟨rfl, hx2⟩
    have hB2 := hB1.trans (hx2.mono hB1.size)
    go_wp2_with fail
    go_ret
    exact ⟨rfl, hB2⟩
  | ok b =>
    have hOk : ∀ G, runIs l nv s G = .ok b → ∀ w1, Below w.heap.size w w1 → Calls Tryz.prog 11 #[.slice a l.length cap, .slice av nv cv, .int .i64 G] w1 fun e w' => ∃ g cp, e = .returned (.tuple #[.slice (some ⟨g, 0, none⟩) 6 cp, .int .i64 (b.2 : Int), .nilIface]) ∧ Hid (Lst w' (.slice (some ⟨g, 0, none⟩) 6 cp) 6 b.1) ∧ Below w1.heap.size w1 w' := fun G hG w1 hB => by
      have := tR G w1 hB
      rw [hG] at this
      exact this.mono fun e w' ⟨hb', g, cp, h1, h2⟩ => ⟨g, cp, h1, h2, hb'⟩
    have hBad : ∀ G, runIs l nv s G = .error 4 → ∀ w1, Below w.heap.size w w1 → Calls Tryz.prog 11 #[.slice a l.length cap, .slice av nv cv, .int .i64 G] w1 fun e w' => e = .returned (.tuple #[.slice none 0 0, .int .i64 0, .iface 50 (.int .i64 4)]) ∧ Below w1.heap.size w1 w' := fun G hG w1 hB => by
      have := tR G w1 hB
      rw [hG] at this
      exact this.mono fun e w' h => runO_error h
    obtain ⟨hbF, hJ⟩ := fuel_just hX
    obtain ⟨-, -, -, f, hfF, hf5, -⟩ := runIs_ok hX
    have hF0 : 0 ≤ F := by omega
    have hF5 : F ≤ 5000 := by omega
    have t1 := hOk F hX
    have t2 := hOk (b.2 : Int) hJ
    have t3 := fun h0 => hBad _ (fuel_less hX h0)
    have t4 := fun h0 h1 => hOk _ (fuel_more (m := m) hX h0 h1)
    have tE4 : ∀ w1, Below w.heap.size w w1 → Calls Tryz.prog 9 #[.iface 50 (.int .i64 4), .int .i64 4] w1 fun e w' => e = .returned (.bool true) ∧ Below w1.heap.size w1 w' := fun w1 hB => rerror_errV 4 w1 (hE.below hB hE0)
    have HTI : Hid (∀ (v1 v2 : Value) (w1 : World), Lst w1 v1 6 b.1 → Lst w1 v2 6 b.1 → Calls Tryz.prog 12 #[v1, v2] w1 fun e w' => e = .returned (.bool true) ∧ Below w1.heap.size w1 w') := fun v1 v2 w1 h1 h2 => (rints_same v1 v2 6 (by decide) b.1 w1 h1 h2).mono fun e w' ⟨he, k, hk⟩ => ⟨he, by rw [hk]; exact below_drawn (Below.refl _ _) k⟩
    obtain ⟨n, hn⟩ : ∃ n, l.length = n := ⟨_, rfl⟩
    rw [hn] at t1 t2 t3 t4 ⊢
    obtain ⟨q, hq⟩ : ∃ q, b.2 = q := ⟨_, rfl⟩
    rw [hq] at t1 t2 t3 t4 hbF
    clear hOk hBad tR hX hlv hl h hL hn hE hE0 hJ hq hfF hf5
    rcases Nat.eq_zero_or_pos q with hz | hz
    · clear t3
      subst hz
      rcases (show m < 0 ∨ (0 ≤ m ∧ 5000 - F < m) ∨ (0 ≤ m ∧ m ≤ 5000 - F) by omega) with hm | ⟨hm, hm2⟩ | ⟨hm, hm2⟩
      · as_aux_lemma =>
        clear t4
        go_enter Tryz.func5, Tryz.ntmps5
        go_wp2_with fail
        refine (tF).mono ?_
        rintro e w1 ⟨rfl, hB1⟩
        clear tF
        go_wp2_with fail
        refine (t1 w1 hB1).mono ?_
        rintro e w2 ⟨g1, c1, rfl, hL1, hx2⟩
        have hB2 := hB1.trans (hx2.mono hB1.size)
        clear t1
        go_wp2_with fail
        refine (t2 w2 hB2).mono ?_
        rintro e w3 ⟨g2, c2, rfl, hL2, hx3⟩
        have hB3 := hB2.trans (hx3.mono hB2.size)
        have hL1 := Hid.mkI (hL1.out.below hx3)
        clear t2
        have tI := HTI.out _ _ w3 hL1.out hL2.out
        go_wp2_with fail
        refine (tI).mono ?_
        rintro e w4 ⟨rfl, hx4⟩
        have hB4 := hB3.trans (hx4.mono hB3.size)
        have hL1 := Hid.mkI (hL1.out.below hx4)
        clear tI
        go_wp2_with fail
        go_ret
        exact ⟨rfl, hB4⟩
      · as_aux_lemma =>
        clear t4
        go_enter Tryz.func5, Tryz.ntmps5
        go_wp2_with fail
        refine (tF).mono ?_
        rintro e w1 ⟨rfl, hB1⟩
        clear tF
        go_wp2_with fail
        refine (t1 w1 hB1).mono ?_
        rintro e w2 ⟨g1, c1, rfl, hL1, hx2⟩
        have hB2 := hB1.trans (hx2.mono hB1.size)
        clear t1
        go_wp2_with fail
        refine (t2 w2 hB2).mono ?_
        rintro e w3 ⟨g2, c2, rfl, hL2, hx3⟩
        have hB3 := hB2.trans (hx3.mono hB2.size)
        have hL1 := Hid.mkI (hL1.out.below hx3)
        clear t2
        have tI := HTI.out _ _ w3 hL1.out hL2.out
        go_wp2_with fail
        refine (tI).mono ?_
        rintro e w4 ⟨rfl, hx4⟩
        have hB4 := hB3.trans (hx4.mono hB3.size)
        have hL1 := Hid.mkI (hL1.out.below hx4)
        clear tI
        go_wp2_with fail
        go_ret
        exact ⟨rfl, hB4⟩
      · as_aux_lemma =>
        have t4 := t4 hm hm2
        go_enter Tryz.func5, Tryz.ntmps5
        go_wp2_with fail
        refine (tF).mono ?_
        rintro e w1 ⟨rfl, hB1⟩
        clear tF
        go_wp2_with fail
        refine (t1 w1 hB1).mono ?_
        rintro e w2 ⟨g1, c1, rfl, hL1, hx2⟩
        have hB2 := hB1.trans (hx2.mono hB1.size)
        clear t1
        go_wp2_with fail
        refine (t2 w2 hB2).mono ?_
        rintro e w3 ⟨g2, c2, rfl, hL2, hx3⟩
        have hB3 := hB2.trans (hx3.mono hB2.size)
        have hL1 := Hid.mkI (hL1.out.below hx3)
        clear t2
        have tI := HTI.out _ _ w3 hL1.out hL2.out
        go_wp2_with fail
        refine (tI).mono ?_
        rintro e w4 ⟨rfl, hx4⟩
        have hB4 := hB3.trans (hx4.mono hB3.size)
        have hL1 := Hid.mkI (hL1.out.below hx4)
        clear tI
        go_wp2_with fail
        refine (t4 w4 hB4).mono ?_
        rintro e w5 ⟨g4, c4, rfl, hL4, hx5⟩
        have hB5 := hB4.trans (hx5.mono hB4.size)
        have hL1 := Hid.mkI (hL1.out.below hx5)
        clear t4
        have tI := HTI.out _ _ w5 hL4.out hL1.out
        go_wp2_with fail
        refine (tI).mono ?_
        rintro e w6 ⟨rfl, hx6⟩
        have hB6 := hB5.trans (hx6.mono hB5.size)
        go_wp2_with fail
        go_ret
        exact ⟨rfl, hB6⟩
    · have t3 := t3 hz
      have hqI : (0 : Int) < (q : Int) := by omega
      rcases (show m < 0 ∨ (0 ≤ m ∧ 5000 - F < m) ∨ (0 ≤ m ∧ m ≤ 5000 - F) by omega) with hm | ⟨hm, hm2⟩ | ⟨hm, hm2⟩
      · as_aux_lemma =>
        clear t4
        go_enter Tryz.func5, Tryz.ntmps5
        go_wp2_with fail
        refine (tF).mono ?_
        rintro e w1 ⟨rfl, hB1⟩
        clear tF
        go_wp2_with fail
        refine (t1 w1 hB1).mono ?_
        rintro e w2 ⟨g1, c1, rfl, hL1, hx2⟩
        have hB2 := hB1.trans (hx2.mono hB1.size)
        clear t1
        go_wp2_with fail
        refine (t2 w2 hB2).mono ?_
        rintro e w3 ⟨g2, c2, rfl, hL2, hx3⟩
        have hB3 := hB2.trans (hx3.mono hB2.size)
        have hL1 := Hid.mkI (hL1.out.below hx3)
        clear t2
        have tI := HTI.out _ _ w3 hL1.out hL2.out
        go_wp2_with fail
        refine (tI).mono ?_
        rintro e w4 ⟨rfl, hx4⟩
        have hB4 := hB3.trans (hx4.mono hB3.size)
        have hL1 := Hid.mkI (hL1.out.below hx4)
        clear tI
        go_wp2_with fail
        refine (t3 w4 hB4).mono ?_
        rintro e w5 ⟨rfl, hx5⟩
        have hB5 := hB4.trans (hx5.mono hB4.size)
        have hL1 := Hid.mkI (hL1.out.below hx5)
        clear t3
        go_wp2_with fail
        refine (tE4 w5 hB5).mono ?_
        rintro e w6 ⟨rfl, hx6⟩
        have hB6 := hB5.trans (hx6.mono hB5.size)
        have hL1 := Hid.mkI (hL1.out.below hx6)
        clear tE4
        go_wp2_with fail
        go_ret
        exact ⟨rfl, hB6⟩
      · as_aux_lemma =>
        clear t4
        go_enter Tryz.func5, Tryz.ntmps5
        go_wp2_with fail
        refine (tF).mono ?_
        rintro e w1 ⟨rfl, hB1⟩
        clear tF
        go_wp2_with fail
        refine (t1 w1 hB1).mono ?_
        rintro e w2 ⟨g1, c1, rfl, hL1, hx2⟩
        have hB2 := hB1.trans (hx2.mono hB1.size)
        clear t1
        go_wp2_with fail
        refine (t2 w2 hB2).mono ?_
        rintro e w3 ⟨g2, c2, rfl, hL2, hx3⟩
        have hB3 := hB2.trans (hx3.mono hB2.size)
        have hL1 := Hid.mkI (hL1.out.below hx3)
        clear t2
        have tI := HTI.out _ _ w3 hL1.out hL2.out
        go_wp2_with fail
        refine (tI).mono ?_
        rintro e w4 ⟨rfl, hx4⟩
        have hB4 := hB3.trans (hx4.mono hB3.size)
        have hL1 := Hid.mkI (hL1.out.below hx4)
        clear tI
        go_wp2_with fail
        refine (t3 w4 hB4).mono ?_
        rintro e w5 ⟨rfl, hx5⟩
        have hB5 := hB4.trans (hx5.mono hB4.size)
        have hL1 := Hid.mkI (hL1.out.below hx5)
        clear t3
        go_wp2_with fail
        refine (tE4 w5 hB5).mono ?_
        rintro e w6 ⟨rfl, hx6⟩
        have hB6 := hB5.trans (hx6.mono hB5.size)
        have hL1 := Hid.mkI (hL1.out.below hx6)
        clear tE4
        go_wp2_with fail
        go_ret
        exact ⟨rfl, hB6⟩
      · as_aux_lemma =>
        have t4 := t4 hm hm2
        go_enter Tryz.func5, Tryz.ntmps5
        go_wp2_with fail
        refine (tF).mono ?_
        rintro e w1 ⟨rfl, hB1⟩
        clear tF
        go_wp2_with fail
        refine (t1 w1 hB1).mono ?_
        rintro e w2 ⟨g1, c1, rfl, hL1, hx2⟩
        have hB2 := hB1.trans (hx2.mono hB1.size)
        clear t1
        go_wp2_with fail
        refine (t2 w2 hB2).mono ?_
        rintro e w3 ⟨g2, c2, rfl, hL2, hx3⟩
        have hB3 := hB2.trans (hx3.mono hB2.size)
        have hL1 := Hid.mkI (hL1.out.below hx3)
        clear t2
        have tI := HTI.out _ _ w3 hL1.out hL2.out
        go_wp2_with fail
        refine (tI).mono ?_
        rintro e w4 ⟨rfl, hx4⟩
        have hB4 := hB3.trans (hx4.mono hB3.size)
        have hL1 := Hid.mkI (hL1.out.below hx4)
        clear tI
        go_wp2_with fail
        refine (t3 w4 hB4).mono ?_
        rintro e w5 ⟨rfl, hx5⟩
        have hB5 := hB4.trans (hx5.mono hB4.size)
        have hL1 := Hid.mkI (hL1.out.below hx5)
        clear t3
        go_wp2_with fail
        refine (tE4 w5 hB5).mono ?_
        rintro e w6 ⟨rfl, hx6⟩
        have hB6 := hB5.trans (hx6.mono hB5.size)
        have hL1 := Hid.mkI (hL1.out.below hx6)
        clear tE4
        go_wp2_with fail
        refine (t4 w6 hB6).mono ?_
        rintro e w7 ⟨g4, c4, rfl, hL4, hx7⟩
        have hB7 := hB6.trans (hx7.mono hB6.size)
        have hL1 := Hid.mkI (hL1.out.below hx7)
        clear t4
        have tI := HTI.out _ _ w7 hL4.out hL1.out
        go_wp2_with fail
        refine (tI).mono ?_
        rintro e w8 ⟨rfl, hx8⟩
        have hB8 := hB7.trans (hx8.mono hB7.size)
        go_wp2_with fail
        go_ret
        exact ⟨rfl, hB8⟩
end Go.Proofs.YtahdbhehaoeemaaGreatDoor
