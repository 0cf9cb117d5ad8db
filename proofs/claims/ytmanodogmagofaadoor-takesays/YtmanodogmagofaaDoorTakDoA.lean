/- The document's steps (DoStep at any step, PlaySteps). -/
import Derived.WalkKit
import Derived.LoopTactic
import Derived.OwnWalk
import Derived.Test.YtmanodogmagofaaDoorTakRun
import Derived.Test.YtmanodogmagofaaDoorTakDoB0
import Derived.Test.YtmanodogmagofaaDoorTakDoB1
import Derived.Test.YtmanodogmagofaaDoorTakDoB2
namespace Go.Proofs.YtmanodogmagofaaDoor
open Go.RowKit
set_option maxRecDepth 100000

theorem bool_no {b : Bool} (h : ¬ b = true) : b = false := by cases b <;> simp_all
theorem doStep_any {w : World} {g : Gr} {v : Value} (hV : GrV w v g) (ok : g.Ok) (s : Stp) : Calls Tryd.prog 25 #[v, stpV s] w (DoIs w g s) := by
  obtain ⟨a, cp, rfl, hg⟩ := hV.open
  have hle := ok.le
  obtain ⟨k, who, of, to, r⟩ := s
  by_cases h0 : k < 0 ∨ 2 < k
  · exact do_kind a cp _ h0
  · by_cases h1 : who < 0 ∨ (g.n : Int) ≤ who
    · exact do_who a cp _ (by simp only; omega) h1 hle
    · obtain ⟨b, off, B, O, C, rfl, hG⟩ := hg (by omega)
      obtain ⟨who, rfl⟩ := Int.eq_ofNat_of_zero_le (show 0 ≤ who by omega)
      by_cases h2 : k = 2
      · subst h2
        by_cases hn : g.n = 20
        · exact do_full _ cp _ (by simp) (by simp only; omega) rfl hn
        · exact do_new hG ok cp who of to r (by omega) hn
      · by_cases hr : of < 0 ∨ (g.n : Int) ≤ of ∨ to < 0 ∨ (g.n : Int) ≤ to ∨ r < 1 ∨ 7 < r
        · rcases (show k = 0 ∨ k = 1 by omega) with rfl | rfl
          · exact do_range0 _ cp _ _ _ _ (by omega) (by omega) hle hr
          · exact do_range1 _ cp _ _ _ _ (by omega) (by omega) hle hr
        · obtain ⟨of, rfl⟩ := Int.eq_ofNat_of_zero_le (show 0 ≤ of by omega)
          obtain ⟨to, rfl⟩ := Int.eq_ofNat_of_zero_le (show 0 ≤ to by omega)
          obtain ⟨r, rfl⟩ := Int.eq_ofNat_of_zero_le (show 0 ≤ r by omega)
          rcases (show k = 0 ∨ k = 1 by omega) with rfl | rfl
          · by_cases hs : who = to
            · exact do_self0 hG ok cp who of to r (by omega) (by omega) (by omega) (by omega) (by omega) hs
            · by_cases q1 : hasB (g.M who of) 1 = true
              · by_cases q2 : hasB (g.M of to) r = true
                · exact do_yes0 hG ok cp who of to r (by omega) (by omega) (by omega) (by omega) (by omega) hs q1 q2
                · exact do_no02 hG ok cp who of to r (by omega) (by omega) (by omega) (by omega) (by omega) hs q1 (bool_no q2)
              · exact do_no01 hG ok cp who of to r (by omega) (by omega) (by omega) (by omega) (by omega) hs (bool_no q1)
          · by_cases hs : of = to
            · exact do_self1 hG ok cp who of to r (by omega) (by omega) (by omega) (by omega) (by omega) hs
            · by_cases q1 : hasB (g.M who of) 2 = true
              · by_cases q2 : hasB (g.M who to) r = true
                · exact do_yes1 hG ok cp who of to r (by omega) (by omega) (by omega) (by omega) (by omega) hs q1 q2
                · exact do_no12 hG ok cp who of to r (by omega) (by omega) (by omega) (by omega) (by omega) hs q1 (bool_no q2)
              · exact do_no11 hG ok cp who of to r (by omega) (by omega) (by omega) (by omega) (by omega) hs (bool_no q1)

set_option maxHeartbeats 1000000 in
theorem refPlay_any (a sa : Option Addr) (n cap m scap : Nat) (L : Nat → Nat) (F : Nat → Nat → Int) (S : Nat → Stp) (w : World) (h : Grd w (.slice a n cap) n L F) (hS : AtStps w sa m S) :
    Calls Tryd.prog 11 #[.slice a n cap, .slice sa m scap] w fun e w' => ∃ v, e = .returned (.tuple #[v, .int .i64 (playAt n L F S m : Nat), .int .i64 (playE n L F S m)]) ∧ PlayV w' v n L F S m ∧ Below w.heap.size w w' := by
  have t1 := refGraph_any a n cap L F w h
  by_cases h1 : graphCode n L F = 0
  · rw [h1] at t1
    by_cases h2 : 60 < m
    · have HE : Hid (playE n L F S m = 4) := by show _ = _; rw [playE, if_pos h1, if_pos h2]
      have HA : Hid (playAt n L F S m = 0) := by show _ = _; rw [playAt, if_pos h1, if_pos h2]
      clear h hS h1
      go_enter Tryd.func11, Tryd.ntmps11
      go_wp2_with (go_at_call 10; refine t1.mono ?_; clear t1; rintro e w' ⟨rfl, hw⟩; obtain rfl := hw.symm)
      go_ret3
      exact ⟨_, by rw [HE.out, HA.out]; rfl, .inl ⟨by rw [HE.out]; decide, rfl⟩, Below.refl _ _⟩
    · have hV := grV_of h h1
      have ok := (graphCode_ok h1).1
      have HE : Hid (playE n L F S m = firstNZ (codes (grOf n F) S) m) := by show _ = _; rw [playE, if_pos h1, if_neg h2]
      have HA : Hid (playAt n L F S m = firstAt (codes (grOf n F) S) m) := by show _ = _; rw [playAt, if_pos h1, if_neg h2]
      have HOk := Hid.mkI ok
      have HV := Hid.mkI hV
      clear h h1 hV ok
      obtain ⟨g, hg⟩ : ∃ g, grOf n F = g := ⟨_, rfl⟩
      have HG := Hid.mkI hg
      have HS := Hid.mkI hS
      clear hg hS
      go_enter Tryd.func11, Tryd.ntmps11
      go_wp2_with (go_at_call 10; refine t1.mono ?_; clear t1; rintro e w' ⟨rfl, hw⟩; obtain rfl := hw.symm)
      go_loopw [0, 8] (fun o p wr => ∃ (k : Nat) (ov : Value), ov = o ∧ k ≤ m ∧ p = .int .i64 k ∧ Hid (∀ j, j < k → codes g S j = 0) ∧ GrV wr ov (runG g S k) ∧ Below w.heap.size w wr) (fun _ p _ => m - (intOf p).toNat)
      case atStart => exact ⟨0, _, rfl, by omega, rfl, fun j hj => absurd hj (by omega), by have := HV.out; rw [HG.out] at this; exact this, Below.refl _ _⟩
      case round =>
        obtain ⟨k, ov, rfl, hk, rfl, HK, hO, hBr⟩ := hrel
        have hbw := hBr.size
        by_cases hlt : k < m
        · obtain ⟨sb, soff, rfl, hs⟩ : ∃ b off, sa = some ⟨b, off, none⟩ ∧ Stps wr b off m S := by
            rcases HS.out with h0 | ⟨b, off, e, h⟩
            · omega
            · exact ⟨b, off, e, h.below hBr⟩
          have c0 := hs.c0 k hlt
          have c1 := hs.c1 k hlt
          have c2 := hs.c2 k hlt
          have c3 := hs.c3 k hlt
          have c4 := hs.c4 k hlt
          have hok : (runG g S k).Ok := runG_ok (by rw [← HG.out]; exact HOk.out) HK.out
          have t := doStep_any hO hok (S k)
          have HC : Hid (codes g S k = stepCode (runG g S k) (S k)) := rfl
          have HN : Hid (runG g S (k + 1) = stepNext (runG g S k) (S k)) := rfl
          clear hO hs hok
          obtain ⟨gk, hgk⟩ : ∃ x, runG g S k = x := ⟨_, rfl⟩
          rw [hgk] at t HC HN
          clear hgk
          obtain ⟨s, hsk⟩ : ∃ x, S k = x := ⟨_, rfl⟩
          rw [hsk] at t HC HN c0 c1 c2 c3 c4
          clear hsk
          go_wp2_with fail
          refine t.mono ?_
          clear t c0 c1 c2 c3 c4
          rintro e w3 ⟨⟨v, rfl, hv⟩, hB3⟩
          have hB3' := hBr.trans (hB3.mono hbw)
          have HVv := Hid.mkI hv
          clear hv
          obtain ⟨c, hcc⟩ : ∃ c, stepCode gk s = c := ⟨_, rfl⟩
          rw [hcc] at HVv HC ⊢
          clear hcc
          by_cases hc : c = 0
          · subst hc
            go_wp2
            go_roundw
            case rel => exact ⟨k + 1, _, rfl, by omega, by go_num, fun j hj => by
              by_cases e : j = k
              · subst e; exact HC.out
              · exact HK.out j (by omega), by rw [HN.out]; exact HVv.out (by first | rfl | trivial), hB3'⟩
            case measure => simp [intOf]; omega
          · have hcb : (c != 0) = true := by simpa using hc
            have hc2 : codes g S k ≠ 0 := by rw [HC.out]; exact hc
            have HC2 := Hid.mkI hc2
            clear hc2
            go_wp2
            go_ret3
            have e1 : playE n L F S m = c := by rw [HE.out, HG.out, firstNZ_hit HK.out hlt HC2.out, HC.out]
            have e2 : playAt n L F S m = k := by rw [HA.out, HG.out, firstAt_hit HK.out hlt HC2.out]
            exact ⟨_, by rw [e1, e2]; rfl, .inl ⟨by rw [e1]; exact hc, rfl⟩, hB3'⟩
        · obtain rfl : k = m := by omega
          have hok : (runG g S k).Ok := runG_ok (by rw [← HG.out]; exact HOk.out) HK.out
          have HV2 := Hid.mkI hO
          have HK2 := Hid.mkI hok
          clear hok hO
          go_wp2
          go_ret3
          have e1 : playE n L F S k = 0 := by rw [HE.out, HG.out]; exact firstNZ_none HK.out
          have e2 : playAt n L F S k = 0 := by rw [HA.out, HG.out]; exact firstAt_none HK.out
          exact ⟨_, by rw [e1, e2]; rfl, .inr ⟨e1, by rw [HG.out]; exact HV2.out, by rw [HG.out]; exact HK2.out⟩, hBr⟩
  · have HE : Hid (playE n L F S m = graphCode n L F) := by show _ = _; rw [playE, if_neg h1]
    have HA : Hid (playAt n L F S m = 0) := by show _ = _; rw [playAt, if_neg h1]
    obtain ⟨c, hcc⟩ : ∃ c, graphCode n L F = c := ⟨_, rfl⟩
    rw [hcc] at t1 HE h1
    have hcb : (c == 0) = false := by simpa using h1
    have hcb2 : (c != 0) = true := by simpa using h1
    clear h hS hcc
    go_enter Tryd.func11, Tryd.ntmps11
    go_wp2_with (go_at_call 10; refine t1.mono ?_; clear t1; rintro e w' ⟨rfl, hw⟩; obtain rfl := hw.symm)
    go_ret3
    exact ⟨_, by rw [HE.out, HA.out]; rfl, .inl ⟨by rw [HE.out]; exact h1, rfl⟩, Below.refl _ _⟩
end Go.Proofs.YtmanodogmagofaaDoor
