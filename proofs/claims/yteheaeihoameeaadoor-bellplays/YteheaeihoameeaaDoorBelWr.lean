/- What the document's monitor of labels answers where a user writes (AskBell). -/
import Derived.WalkKit
import Derived.LoopTactic
import Derived.Laws.ResultCell
import Derived.Deep.LoopGhost
import Derived.Deep.QuietTactic
import Derived.BigQuiet
import Derived.StillTailTactics
import Derived.Test.YteheaeihoameeaaDoorBelRd
namespace Go.Proofs.YteheaeihoameeaaDoor
open Go.RowKit
set_option maxRecDepth 100000

set_option maxHeartbeats 80000000 in
theorem refBell_write (P : Nat → Prop) (vU vF vR vW vH : Value) (s : BellSt) (u f : Nat) (t : Int) (ok : BellOk s) (hu : u < s.nu) (hf : f < s.nf) (w : World) (hP : ∀ b, w.heap.size ≤ b → P b) (hU : Labl w vU s.nu s.ul s.us) (hF : Labl w vF s.nf s.fl s.fs) (h : LRef P w vR vW vH s) :
    Calls Tryd.prog 10 #[.agg #[vU, vF, vR, vW, vH], ask4 1 u f t] w fun e w' =>
      (mayWrite s u f = false ∧ e = .returned (.tuple #[.agg #[vU, vF, vR, vW, vH], .int .i64 7]) ∧ Below w.heap.size w w') ∨
      (mayWrite s u f = true ∧ ∃ vW', e = .returned (.tuple #[.agg #[vU, vF, vR, vW', vH], .int .i64 0]) ∧ Lstp P w' vW' s.nu (fun i => (upd s.uw u (s.uw u ||| 2 ^ f) i : Int)) ∧ Below w.heap.size w w') := by
  unfold mayWrite
  obtain ⟨bU, oU, cU, rfl, hlU, hcU⟩ := hU.some (by omega)
  obtain ⟨bF, oF, cF, rfl, hlF, hcF⟩ := hF.some (by omega)
  have lR := h.lr.lst
  have lW := h.lw.lst
  have lH := h.lh.lst
  obtain ⟨bR, oR, cR, rfl, hlR, hcR⟩ := h.lr.some (by omega)
  obtain ⟨bW, oW, cW, rfl, hlW, hcW⟩ := h.lw.some (by omega)
  obtain ⟨bH, oH, cH, rfl, hlH, hcH⟩ := h.lh.some (by omega)
  have hnu := ok.nu
  have hnf := ok.nf
  have hnu' : (s.nu : Int) ≤ 8 := by omega
  have hnf' : (s.nf : Int) ≤ 8 := by omega
  have hui : (u : Int) < (s.nu : Int) := by omega
  have hfi : (f : Int) < (s.nf : Int) := by omega
  have h256 : 2 ^ s.nf ≤ 256 := Nat.pow_le_pow_right (n := 2) (by decide) hnf
  have tK := fun W => refIn_any 1 0 3 W
  have tU := fun W => refIn_any u 0 ((s.nu : Int) - 1) W
  have tF := fun W => refIn_any f 0 ((s.nf : Int) - 1) W
  rw [(inQ_iff _ _ _).2 (by omega)] at tK
  rw [(inQ_iff _ _ _).2 (by omega)] at tU
  rw [(inQ_iff _ _ _).2 (by omega)] at tF
  have eW := hcW u hu
  have eR := hcR u hu
  have hxw : s.uw u < 4096 := Nat.lt_of_lt_of_le (ok.uw u hu) (by omega)
  have hxr : s.ur u < 4096 := Nat.lt_of_lt_of_le (ok.ur u hu) (by omega)
  have tT := fun g (hg : g < s.nf) W => bit_any (s.ur u) g hxr (by omega) W
  have tG := fun g (hg : g < s.nf) W => refBelow_ok (s.fl g) (s.fs g) (s.fl f) (s.fs f) (ok.fs g hg) (ok.fs f hf) W
  have tY := fun W => with_any (s.uw u) f hxw (by omega) W
  have tS := fun W (hW : Below w.heap.size w W) (hX : w.heap.size + 3 ≤ W.heap.size) => set_any (fun b => w.heap.size + 3 ≤ b) _ _ _ (u : Int) ((s.uw u ||| 2 ^ f : Nat) : Int) (by omega) W (lW.below hW) (fun b hb => Nat.le_trans hX hb)
  obtain ⟨p, hp⟩ : ∃ p, (fun g => belB (s.fl g) (s.fs g) (s.fl f) (s.fs f)) = p := ⟨_, rfl⟩
  have hpg : ∀ g, belB (s.fl g) (s.fs g) (s.fl f) (s.fs f) = p g := fun g => by rw [← hp]
  simp only [hpg] at tG
  rw [hp]
  obtain ⟨eF0, eF1⟩ := hcF f hf
  obtain ⟨x1, hx1⟩ : ∃ x, s.fl f = x := ⟨_, rfl⟩
  obtain ⟨x2, hx2⟩ : ∃ x, s.fs f = x := ⟨_, rfl⟩
  rw [hx1] at eF0
  rw [hx2] at eF1
  simp only [hx1, hx2] at tG
  obtain ⟨xr, hxr'⟩ : ∃ x, s.ur u = x := ⟨_, rfl⟩
  obtain ⟨xw, hxw'⟩ : ∃ x, s.uw u = x := ⟨_, rfl⟩
  obtain ⟨xn, hxn⟩ : ∃ x, s.uw u ||| 2 ^ f = x := ⟨_, rfl⟩
  rw [hxn] at tY tS
  rw [hxw'] at tY eW
  simp only [hxr'] at tT eR ⊢
  have HN := Hid.mkI hxn
  obtain ⟨f1, hf1⟩ : ∃ x, updI (fun i => (s.uw i : Int)) u xn = x := ⟨_, rfl⟩
  rw [hf1] at tS
  have HF1 := Hid.mkI hf1
  have HCF := Hid.mkI hcF
  clear hx1 hx2 hcF hcU hcR hcW hcH lR lW lH hlR hlW hlH hxw hxr hxw' hxr' hxn hf1 hp hpg hlU h256
  obtain ⟨W, hW⟩ : ∃ W, ((w.alloc (.cells #[.slice (some ⟨bU, oU, none⟩) s.nu cU, .slice (some ⟨bF, oF, none⟩) s.nf cF, .slice (some ⟨bR, oR, none⟩) s.nu cR, .slice (some ⟨bW, oW, none⟩) s.nu cW, .slice (some ⟨bH, oH, none⟩) s.nf cH] 26)).alloc (.cells #[.int .i64 1, .int .i64 (u : Int), .int .i64 (f : Int), .int .i64 t] 37)).alloc (.cells #[.slice none 0 0, .slice none 0 0, .slice none 0 0, .slice none 0 0, .slice none 0 0] 26) = W := ⟨_, rfl⟩
  obtain ⟨hD, hB⟩ := desk5_of _ _ _ _ _ _ _ _ _ _ _ _ _ hW
  obtain ⟨b0, b1, -, -, -, -, -, -, -, -, a0, a1, a2, -, -, -, -, -, -, -, -, -, -, -⟩ := id hD
  go_enter Tryd.func10, Tryd.ntmps10
  go_wp2_with fail
  refine (tK _).mono ?_
  clear tK
  rintro e w' ⟨rfl, hw⟩
  obtain rfl := hw.symm
  clear hw
  go_wp2_with fail
  refine (tU _).mono ?_
  clear tU
  rintro e w' ⟨rfl, hw⟩
  obtain rfl := hw.symm
  clear hw
  go_wp2_with fail
  refine (tF _).mono ?_
  clear tF
  rintro e w' ⟨rfl, hw⟩
  obtain rfl := hw.symm
  clear hw
  go_wp2_with fail
  clear hW b0 b1 a0 a1 a2
  obtain ⟨b0, b1, -, -, -, -, -, -, -, -, a0, -, -, -, -, -, -, -, -, -, -, -, -, -⟩ := id hD
  go_quiet (fail)
  rename_i nq
  have hD3 := hD.drawn nq
  have hBe := below_drawn hB nq
  obtain ⟨wq0, hWq⟩ : ∃ x, W.drewN nq = x := ⟨_, rfl⟩
  rw [hWq] at hD3 hBe ⊢
  clear hWq
  clear hD hB b0 b1 a0 W
  obtain ⟨-, b1, -, -, -, -, -, -, -, -, -, -, -, -, -, -, -, -, -, -, -, -, -, -⟩ := id hD3
  go_wp2_with fail
  clear b1
  go_loopg [8] s.nf (fun d i wi => ∃ j : Nat, j ≤ s.nf ∧ d = s.nf - j ∧ i = .int .i64 j ∧ Desk5 w.heap.size wi (.slice (some ⟨bU, oU, none⟩) s.nu cU) (.slice (some ⟨bF, oF, none⟩) s.nf cF) (.slice (some ⟨bR, oR, none⟩) s.nu cR) (.slice (some ⟨bW, oW, none⟩) s.nu cW) (.slice (some ⟨bH, oH, none⟩) s.nf cH) 1 u f t ∧ Below w.heap.size w wi ∧ Hid (∀ g, g < j → xr.testBit g = true → p g = true))
  case atStart => exact ⟨0, by omega, rfl, rfl, hD3, hBe, fun _ h => absurd h (by omega)⟩
  case round =>
    clear hD3 hBe
    obtain ⟨j, hj, rfl, rfl, hD, hB, HQ⟩ := hrel
    by_cases hlt : j < s.nf
    · have hji : (j : Int) < (s.nf : Int) := by omega
      have tB := tT j hlt
      have tL := tG j hlt
      obtain ⟨k0, k1⟩ := HCF.out j hlt
      clear tT tG tY tS
      obtain ⟨-, b1, -, -, -, -, -, -, -, -, a0, -, -, -, -, -, -, -, -, -, -, -, -, -⟩ := id hD
      go_wp2_with fail
      go_quiet (fail)
      rename_i nq
      have hD2 := hD.drawn nq
      have hB2 := below_drawn hB nq
      obtain ⟨wq, hWq⟩ : ∃ x, wr.drewN nq = x := ⟨_, rfl⟩
      rw [hWq] at hD2 hB2 ⊢
      clear hWq
      have eR' := keep_cell hB2 eR
      clear b1 a0 hD hB
      obtain ⟨-, b1, b2, -, -, -, -, -, -, -, a0, -, -, -, -, -, -, -, -, -, -, -, -, -⟩ := id hD2
      cases hbit : xr.testBit j with
      | false =>
        have HQ2 : Hid (∀ g, g < j + 1 → xr.testBit g = true → p g = true) := fun g hg hb => by
          by_cases e : g = j
          · subst e; rw [hbit] at hb; cases hb
          · exact HQ.out g (by omega) hb
        rw [hbit] at tB
        clear hbit HQ tL k0 k1
        go_wp2_with fail
        go_quiet ((go_at_call 28; exact Calls.quiet_of_same (tB _)))
        rename_i nq
        have hD4 := hD2.drawn nq
        have hB4 := below_drawn hB2 nq
        obtain ⟨wq2, hWq⟩ : ∃ x, wq.drewN nq = x := ⟨_, rfl⟩
        rw [hWq] at hD4 hB4 ⊢
        clear hWq
        go_wp2_with fail
        go_roundg (s.nf - (j + 1))
        case measure => omega
        case rel => exact ⟨j + 1, by omega, rfl, by go_num, hD4, hB4, HQ2⟩
      | true =>
        rw [hbit] at tB
        obtain ⟨y1, hy1⟩ : ∃ x, s.fl j = x := ⟨_, rfl⟩
        obtain ⟨y2, hy2⟩ : ∃ x, s.fs j = x := ⟨_, rfl⟩
        rw [hy1] at tL k0
        rw [hy2] at tL k1
        clear hy1 hy2
        go_wp2_with fail
        refine wp_region_still_tail 23 (by kernel_rfl) (by kernel_rfl) ?_
        simp only [List.take_succ_cons, List.take_zero, List.drop_succ_cons, List.drop_zero]
        have hBd := hB2.drew
        have hDd := hD2.drew
        obtain ⟨Wd, hWd⟩ : ∃ x, wq.drew = x := ⟨_, rfl⟩
        have hWd2 : { wq with drawn := wq.drawn + 1 } = Wd := hWd
        rw [hWd] at hBd hDd
        rw [hWd2]
        clear hWd hWd2
        have m1 := keep_cell hBd eF0
        have m2 := keep_cell hBd eF1
        have m3 := keep_cell hBd k0
        have m4 := keep_cell hBd k1
        have m5 := keep_cell hBd eR
        clear hD2 hB2 b1 b2 a0 eR' k0 k1
        obtain ⟨-, b1, b2, -, -, -, -, -, -, -, a0, -, -, -, -, -, -, -, -, -, -, -, -, -⟩ := id hDd
        repeat still_step
        still_call (tB _)
        repeat still_step
        refine wpStill_nil ?_
        go_wp2_with fail
        refine (tL _).mono ?_
        clear tL tB
        rintro e w3 ⟨rfl, hB3⟩
        have hD4 := hDd.below hB3
        have hBe := hBd.trans (hB3.mono hBd.size)
        clear hDd hBd hB3 m1 m2 m3 m4 m5 b1 b2 a0
        cases hpj : p j with
        | true =>
          have HQ2 : Hid (∀ g, g < j + 1 → xr.testBit g = true → p g = true) := fun g hg hb => by
            by_cases e : g = j
            · subst e; exact hpj
            · exact HQ.out g (by omega) hb
          clear hbit HQ hpj
          go_wp2_with fail
          go_roundg (s.nf - (j + 1))
          case measure => omega
          case rel => exact ⟨j + 1, by omega, rfl, by go_num, hD4, hBe, HQ2⟩
        | false =>
          have HNO := Hid.mkI (allB_no hlt hbit hpj)
          clear hbit HQ hpj
          obtain ⟨b0, b1, b2, b3, b4, g0, g1, g2, g3, g4, -, -, -, -, r0, r1, r2, r3, r4, q0, q1, q2, q3, q4⟩ := id hD4
          go_wp2_with fail
          have hBz : Below w.heap.size w (put5 w3 (w.heap.size + 2) (.slice (some ⟨bU, oU, none⟩) s.nu cU) (.slice (some ⟨bF, oF, none⟩) s.nf cF) (.slice (some ⟨bR, oR, none⟩) s.nu cR) (.slice (some ⟨bW, oW, none⟩) s.nu cW) (.slice (some ⟨bH, oH, none⟩) s.nf cH)) := below_put5 hBe (by omega)
          unfold put5 at hBz
          (try simp only [Exit.inBlock, Exit.then])
          refine bodyPost_ret (v := .tuple #[.agg #[.slice (some ⟨bU, oU, none⟩) s.nu cU, .slice (some ⟨bF, oF, none⟩) s.nf cF, .slice (some ⟨bR, oR, none⟩) s.nu cR, .slice (some ⟨bW, oW, none⟩) s.nu cW, .slice (some ⟨bH, oH, none⟩) s.nf cH], .int .i64 7]) ?_ rfl (.inl ⟨HNO.out, rfl, hBz⟩)
          rw [results_cell_tmp rfl]
          go_simp
    · have hge : (s.nf : Int) ≤ (j : Int) := by omega
      have HALL := Hid.mkI ((allB_iff s.nf xr p).2 fun g hg hb => HQ.out g (by omega) hb)
      clear tT tG HQ HCF eF0 eF1 eR
      obtain ⟨-, b1, b2, b3, -, -, -, -, -, -, a0, -, -, -, -, -, -, -, -, -, -, -, -, -⟩ := id hD
      go_wp2_with fail
      go_quiet (fail)
      rename_i nq
      have hD2 := hD.drawn nq
      have hB2 := below_drawn hB nq
      obtain ⟨wq, hWq⟩ : ∃ x, wr.drewN nq = x := ⟨_, rfl⟩
      rw [hWq] at hD2 hB2 ⊢
      clear hWq
      have eW2 := keep_cell hB2 eW
      clear b1 b2 b3 a0 hD hB
      obtain ⟨-, -, -, b3, -, -, -, -, -, -, a0, -, -, -, -, -, -, -, -, -, -, -, -, -⟩ := id hD2
      go_wp2_with fail
      refine wp_region_still_tail 10 (by kernel_rfl) (by kernel_rfl) ?_
      simp only [List.take_succ_cons, List.take_zero, List.drop_succ_cons, List.drop_zero]
      have hBd := hB2.drew
      have hDd := hD2.drew
      obtain ⟨Wd, hWd⟩ : ∃ x, wq.drew = x := ⟨_, rfl⟩
      have hWd2 : { wq with drawn := wq.drawn + 1 } = Wd := hWd
      rw [hWd] at hBd hDd
      rw [hWd2]
      clear hWd hWd2
      have eW3 := keep_cell hBd eW
      have hX := hDd.lt
      clear hD2 hB2 eW2 b3 a0
      obtain ⟨-, -, -, b3, -, -, -, -, -, -, a0, -, -, -, -, -, -, -, -, -, -, -, -, -⟩ := id hDd
      repeat still_step
      still_call (tY _)
      refine wpStill_nil ?_
      go_wp2_with fail
      refine (tS _ hBd hX).mono ?_
      clear tS
      rintro e w6 ⟨v6, rfl, hL6, hB6⟩
      have hD6 := hDd.below hB6
      clear b3 a0
      obtain ⟨a6, cp6, rfl, -⟩ := id hL6
      have hBg := hBd.trans (hB6.mono hBd.size)
      obtain ⟨b0, b1, b2, b3, b4, g0, g1, g2, g3, g4, a0, -, -, -, r0, r1, r2, r3, r4, q0, q1, q2, q3, q4⟩ := id hD6
      go_wp2_with fail
      have hN3 : w.heap.size < w.heap.size + 3 := by omega
      have hN2 : ∀ b, w.heap.size + 3 ≤ b → b ≠ w.heap.size + 2 := fun b hb => by omega
      have hBz : Below w.heap.size w (put5 (w6.setCell ⟨w.heap.size, 3, none⟩ (.slice a6 s.nu cp6)) (w.heap.size + 2) (.slice (some ⟨bU, oU, none⟩) s.nu cU) (.slice (some ⟨bF, oF, none⟩) s.nf cF) (.slice (some ⟨bR, oR, none⟩) s.nu cR) (.slice a6 s.nu cp6) (.slice (some ⟨bH, oH, none⟩) s.nf cH)) := below_put5 (hBg.setCell (Nat.le_refl _) _) (by omega)
      have hLz := (hL6.putN (o := 3) hN3 (.slice a6 s.nu cp6)).put5 (X := w.heap.size + 2) (u0 := .slice (some ⟨bU, oU, none⟩) s.nu cU) (u1 := .slice (some ⟨bF, oF, none⟩) s.nf cF) (u2 := .slice (some ⟨bR, oR, none⟩) s.nu cR) (u3 := .slice a6 s.nu cp6) (u4 := .slice (some ⟨bH, oH, none⟩) s.nf cH) hN2
      unfold put5 at hBz hLz
      (try simp only [Exit.inBlock, Exit.then])
      refine bodyPost_ret (v := .tuple #[.agg #[.slice (some ⟨bU, oU, none⟩) s.nu cU, .slice (some ⟨bF, oF, none⟩) s.nf cF, .slice (some ⟨bR, oR, none⟩) s.nu cR, .slice a6 s.nu cp6, .slice (some ⟨bH, oH, none⟩) s.nf cH], .int .i64 0]) ?_ rfl (.inr ⟨HALL.out, _, rfl, (hLz.weak (fun b _ hb => hP b (Nat.le_trans (Nat.le_add_right _ 3) hb))).like fun i _ => ?_, hBz⟩)
      · rw [results_cell_tmp rfl]
        go_simp
      · rw [← HF1.out, HN.out, updI_cast]
end Go.Proofs.YteheaeihoameeaaDoor
