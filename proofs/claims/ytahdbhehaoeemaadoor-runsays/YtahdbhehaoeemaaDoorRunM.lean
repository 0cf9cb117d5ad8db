/- The walk of the law RunSays. -/
import Derived.WalkKit
import Derived.LoopTactic
import Derived.Deep.QuietTactic
import Derived.BigQuiet
import Derived.Test.YtahdbhehaoeemaaDoorRunO
import Derived.Test.YtahdbhehaoeemaaDoorRunD
import Derived.Test.YtahdbhehaoeemaaDoorRunE
import Derived.Test.YtahdbhehaoeemaaDoorRunL
namespace Go.Proofs.YtahdbhehaoeemaaDoor
open Go.RowKit
set_option maxRecDepth 100000
set_option linter.unusedVariables false

set_option maxHeartbeats 8000000 in
theorem runSays_any (a : Option Addr) (cap : Nat) (l : List Nod) (v : Value) (nv : Nat) (s : Nat → Int) (F : Int) (w : World) (h : AtNods w a l.length (nthD l)) (hl : Lst w v nv s) (hE : ErrT w) :
    Calls Tryd.prog 3 #[.slice a l.length cap, v, .int .i64 F] w fun e w' => e = .returned (.bool true) ∧ Below w.heap.size w w' := by
  have hE0 := old_of_cell hE
  have tR := fun w1 (hB : Below w.heap.size w w1) => refRunning_any l a cap v nv s F w1 (h.below hB) (hl.below hB)
  have tC := fun w1 (hB : Below w.heap.size w w1) => runCheck_any l a cap v nv s F w1 (h.below hB) (hl.below hB)
  have tP := fun w1 (hB : Below w.heap.size w w1) => run_any l a cap v nv s F w1 (h.below hB) (hl.below hB)
  have tE := fun c w1 (hB : Below w.heap.size w w1) => rerror_errV c w1 (hE.below hB hE0)
  have tI : ∀ (v1 v2 : Value) (K : Nat) (pf : Nat → Int) (w1 : World), K < 2 ^ 62 → Lst w1 v1 K pf → Lst w1 v2 K pf → Calls Tryd.prog 10 #[v1, v2] w1 fun e w' => e = .returned (.bool true) ∧ Below w1.heap.size w1 w' := fun v1 v2 K pf w1 hK h1 h2 => (rints_same v1 v2 K hK pf w1 h1 h2).mono fun e w' ⟨he, k, hk⟩ => ⟨he, by rw [hk]; exact below_drawn (Below.refl _ _) k⟩
  have tI0 : ∀ w1, Below w.heap.size w w1 → Calls Tryd.prog 10 #[.slice none 0 0, .slice none 0 0] w1 fun e w' => e = .returned (.bool true) ∧ Below w1.heap.size w1 w' := fun w1 _ => tI _ _ 0 (fun _ => 0) w1 (by decide) ⟨none, 0, rfl, .inl rfl⟩ ⟨none, 0, rfl, .inl rfl⟩
  have hB0 := Below.refl w.heap.size w
  obtain ⟨av, cv, rfl, hlv⟩ := id hl
  by_cases hc : runC l nv s F = 0
  · obtain ⟨hp, rfl, hs, hF0, hF1⟩ := runC_ok hc
    have hG := good_of hp
    obtain ⟨f, rfl⟩ : ∃ f : Nat, F = (f : Int) := ⟨F.toNat, by omega⟩
    have tQ := fun w1 (hB : Below w.heap.size w w1) => refRun_any hG a cap (.slice av 6 cv) s hs f (by omega) w1 (h.below hB) (hl.below hB)
    rw [hc] at tR tC
    rw [errV_zero] at tC
    have tE0 := tE 0
    rw [errV_zero] at tE0
    have hrun : runIs l 6 s (f : Int) = match runP l s f with | none => .error 4 | some r => .ok (r.1, f - r.2) := runIs_of hp hs (by omega)
    cases hX : runP l s f with
    | none =>
      rw [hX] at hrun tQ
      have hrun : runIs l 6 s (f : Int) = .error 4 := hrun
      rw [hrun] at tP
      have tQ : ∀ w1, Below w.heap.size w w1 → Calls Tryd.prog 8 #[.slice a l.length cap, .slice av 6 cv, .int .i64 (f : Int)] w1 fun e w' => e = .returned (.tuple #[.slice none 0 0, .int .i64 0, .bool false]) ∧ Below w1.heap.size w1 w' := fun w1 hB => (tQ w1 hB).mono fun e w' ⟨hb, hv⟩ => by
        rcases hv with ⟨_, _, _, _, e, _⟩ | ⟨_, e⟩
        · cases e
        · exact ⟨e, hb⟩
      have tP : ∀ w1, Below w.heap.size w w1 → Calls Tryd.prog 9 #[.slice a l.length cap, .slice av 6 cv, .int .i64 (f : Int)] w1 fun e w' => e = .returned (.tuple #[.slice none 0 0, .int .i64 0, .iface 40 (.int .i64 4)]) ∧ Below w1.heap.size w1 w' := fun w1 hB => (tP w1 hB).mono fun e w' h => runO_error h
      have tE4 : ∀ w1, Below w.heap.size w w1 → Calls Tryd.prog 6 #[.iface 40 (.int .i64 4), .int .i64 4] w1 fun e w' => e = .returned (.bool true) ∧ Below w1.heap.size w1 w' := tE 4
      obtain ⟨n, hn⟩ : ∃ n, l.length = n := ⟨_, rfl⟩
      rw [hn] at tR tC tQ tP ⊢
      clear hrun hX hG hp hc hs hlv hl h hE hE0 tE hn tI
      go_enter Tryd.func3, Tryd.ntmps3
      go_wp2_with fail
      refine (tR w hB0).mono ?_
      rintro e w1 ⟨rfl, hx1⟩
      have hB1 := hB0.trans (hx1.mono hB0.size)
      go_wp2_with fail
      refine (tC w1 hB1).mono ?_
      rintro e w2 ⟨rfl, hx2⟩
      have hB2 := hB1.trans (hx2.mono hB1.size)
      go_wp2_with fail
      refine (tE0 w2 hB2).mono ?_
      rintro e w3 ⟨rfl, hx3⟩
      have hB3 := hB2.trans (hx3.mono hB2.size)
      go_wp2_with fail
      refine (tQ w3 hB3).mono ?_
      rintro e w4 ⟨rfl, hx4⟩
      have hB4 := hB3.trans (hx4.mono hB3.size)
      go_wp2_with fail
      refine (tP w4 hB4).mono ?_
      rintro e w5 ⟨rfl, hx5⟩
      have hB5 := hB4.trans (hx5.mono hB4.size)
      go_wp2_with fail
      refine (tE4 w5 hB5).mono ?_
      rintro e w6 ⟨rfl, hx6⟩
      have hB6 := hB5.trans (hx6.mono hB5.size)
      go_wp2_with fail
      refine (tI0 w6 hB6).mono ?_
      rintro e w7 ⟨rfl, hx7⟩
      have hB7 := hB6.trans (hx7.mono hB6.size)
      go_wp2_with fail
      go_ret
      exact ⟨rfl, hB7⟩
    | some r =>
      rw [hX] at hrun tQ
      have hrun : runIs l 6 s (f : Int) = .ok (r.1, f - r.2) := hrun
      rw [hrun] at tP
      have HTI := Hid.mkI tI
      obtain ⟨b, hb⟩ : ∃ b, f - r.2 = b := ⟨_, rfl⟩
      rw [hb] at tP
      have tQ : ∀ w1, Below w.heap.size w w1 → Calls Tryd.prog 8 #[.slice a l.length cap, .slice av 6 cv, .int .i64 (f : Int)] w1 fun e w' => ∃ p cp, e = .returned (.tuple #[.slice p 6 cp, .int .i64 (b : Int), .bool true]) ∧ Hid (Lst w' (.slice p 6 cp) 6 r.1) ∧ Below w1.heap.size w1 w' := fun w1 hB => (tQ w1 hB).mono fun e w' ⟨hb', hv⟩ => by
        rcases hv with ⟨s', f', p, cp, e1, e2, ho⟩ | ⟨e, _⟩
        · cases e1
          exact ⟨p, cp, by rw [← hb]; exact e2, lst_of_row ho, hb'⟩
        · cases e
      have tP : ∀ w1, Below w.heap.size w w1 → Calls Tryd.prog 9 #[.slice a l.length cap, .slice av 6 cv, .int .i64 (f : Int)] w1 fun e w' => ∃ g cp, e = .returned (.tuple #[.slice (some ⟨g, 0, none⟩) 6 cp, .int .i64 (b : Int), .nilIface]) ∧ Hid (Lst w' (.slice (some ⟨g, 0, none⟩) 6 cp) 6 r.1) ∧ Below w1.heap.size w1 w' := fun w1 hB => (tP w1 hB).mono fun e w' ⟨hb', g, cp, h1, h2⟩ => ⟨g, cp, h1, h2, hb'⟩
      obtain ⟨n, hn⟩ : ∃ n, l.length = n := ⟨_, rfl⟩
      rw [hn] at tR tC tQ tP ⊢
      clear hrun hX hG hp hc hs hlv hl h hE hE0 tE hn tI tI0
      go_enter Tryd.func3, Tryd.ntmps3
      go_wp2_with fail
      refine (tR w hB0).mono ?_
      rintro e w1 ⟨rfl, hx1⟩
      have hB1 := hB0.trans (hx1.mono hB0.size)
      go_wp2_with fail
      refine (tC w1 hB1).mono ?_
      rintro e w2 ⟨rfl, hx2⟩
      have hB2 := hB1.trans (hx2.mono hB1.size)
      go_wp2_with fail
      refine (tE0 w2 hB2).mono ?_
      rintro e w3 ⟨rfl, hx3⟩
      have hB3 := hB2.trans (hx3.mono hB2.size)
      go_wp2_with fail
      refine (tQ w3 hB3).mono ?_
      rintro e w4 ⟨p, cp, rfl, hL4, hx4⟩
      have hB4 := hB3.trans (hx4.mono hB3.size)
      go_wp2_with fail
      refine (tP w4 hB4).mono ?_
      rintro e w5 ⟨g, cg, rfl, hL5, hx5⟩
      have hB5 := hB4.trans (hx5.mono hB4.size)
      have hL4 := Hid.mkI (hL4.out.below hx5)
      go_wp2_with fail
      refine (tE0 w5 hB5).mono ?_
      rintro e w6 ⟨rfl, hx6⟩
      have hB6 := hB5.trans (hx6.mono hB5.size)
      have hL4 := Hid.mkI (hL4.out.below hx6)
      have hL5 := Hid.mkI (hL5.out.below hx6)
      have tI := HTI.out _ _ 6 r.1 w6 (by decide) hL5.out hL4.out
      go_wp2_with fail
      refine tI.mono ?_
      rintro e w7 ⟨rfl, hx7⟩
      have hB7 := hB6.trans (hx7.mono hB6.size)
      go_wp2_with fail
      go_ret
      exact ⟨rfl, hB7⟩
  · have hrun : runIs l nv s F = .error (runC l nv s F) := by unfold runIs; rw [if_pos hc]
    rw [hrun] at tP
    obtain ⟨c, hc2⟩ : ∃ c, runC l nv s F = c := ⟨_, rfl⟩
    rw [hc2] at tR tC tP hc
    have hcI : (c == 0) = false := by simpa using hc
    have he : errV c = .iface 40 (.int .i64 c) := if_neg hc
    rw [he] at tC
    have tE := tE c
    rw [he] at tE
    have tP : ∀ w1, Below w.heap.size w w1 → Calls Tryd.prog 9 #[.slice a l.length cap, .slice av nv cv, .int .i64 F] w1 fun e w' => e = .returned (.tuple #[.slice none 0 0, .int .i64 0, .iface 40 (.int .i64 c)]) ∧ Below w1.heap.size w1 w' := fun w1 hB => (tP w1 hB).mono fun e w' h => runO_error h
    obtain ⟨n, hn⟩ : ∃ n, l.length = n := ⟨_, rfl⟩
    rw [hn] at tR tC tP ⊢
    clear hrun hc hc2 hlv hl h hE hE0 hn tI he
    go_enter Tryd.func3, Tryd.ntmps3
    go_wp2_with fail
    refine (tR w hB0).mono ?_
    rintro e w1 ⟨rfl, hx1⟩
    have hB1 := hB0.trans (hx1.mono hB0.size)
    go_wp2_with fail
    refine (tC w1 hB1).mono ?_
    rintro e w2 ⟨rfl, hx2⟩
    have hB2 := hB1.trans (hx2.mono hB1.size)
    go_wp2_with fail
    refine (tE w2 hB2).mono ?_
    rintro e w3 ⟨rfl, hx3⟩
    have hB3 := hB2.trans (hx3.mono hB2.size)
    go_wp2_with fail
    refine (tP w3 hB3).mono ?_
    rintro e w4 ⟨rfl, hx4⟩
    have hB4 := hB3.trans (hx4.mono hB3.size)
    go_wp2_with fail
    refine (tE w4 hB4).mono ?_
    rintro e w5 ⟨rfl, hx5⟩
    have hB5 := hB4.trans (hx5.mono hB4.size)
    go_wp2_with fail
    refine (tI0 w5 hB5).mono ?_
    rintro e w6 ⟨rfl, hx6⟩
    have hB6 := hB5.trans (hx6.mono hB5.size)
    go_wp2_with fail
    go_ret
    exact ⟨rfl, hB6⟩
end Go.Proofs.YtahdbhehaoeemaaDoor
