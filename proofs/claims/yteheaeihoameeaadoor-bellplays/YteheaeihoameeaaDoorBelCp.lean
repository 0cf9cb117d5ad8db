/- What the document's monitor of labels answers where a user copies (AskBell). -/
import Derived.WalkKit
import Derived.LoopTactic
import Derived.Laws.ResultCell
import Derived.Deep.LoopGhost
import Derived.Deep.QuietTactic
import Derived.BigQuiet
import Derived.StillTailTactics
import Derived.Test.YteheaeihoameeaaDoorBelRef
namespace Go.Proofs.YteheaeihoameeaaDoor
open Go.RowKit
set_option maxRecDepth 100000

set_option maxHeartbeats 80000000 in
theorem refBell_copy (P : Nat → Prop) (vU vF vR vW vH : Value) (s : BellSt) (u f t : Nat) (ok : BellOk s) (hu : u < s.nu) (hf : f < s.nf) (ht : t < s.nf) (w : World) (hP : ∀ b, w.heap.size ≤ b → P b) (hU : Labl w vU s.nu s.ul s.us) (hF : Labl w vF s.nf s.fl s.fs) (h : LRef P w vR vW vH s) :
    Calls Tryd.prog 10 #[.agg #[vU, vF, vR, vW, vH], ask4 3 u f t] w fun e w' =>
      (((s.ur u).testBit f && (s.uw u).testBit t) = false ∧ e = .returned (.tuple #[.agg #[vU, vF, vR, vW, vH], .int .i64 8]) ∧ Below w.heap.size w w') ∨
      (((s.ur u).testBit f && (s.uw u).testBit t) = true ∧ ∃ vH', e = .returned (.tuple #[.agg #[vU, vF, vR, vW, vH'], .int .i64 0]) ∧ Lstp P w' vH' s.nf (fun i => (upd s.fh t (s.fh t ||| s.fh f) i : Int)) ∧ Below w.heap.size w w') := by
  obtain ⟨bU, oU, cU, rfl, hlU, hcU⟩ := hU.some (by omega)
  obtain ⟨bF, oF, cF, rfl, hlF, hcF⟩ := hF.some (by omega)
  have lR := h.lr.lst
  have lW := h.lw.lst
  have lH := h.lh.lst
  obtain ⟨bR, oR, cR, rfl, hlR, hcR⟩ := h.lr.some (by omega)
  obtain ⟨bW, oW, cW, rfl, hlW, hcW⟩ := h.lw.some (by omega)
  obtain ⟨bH, oH, cH, rfl, hlH, hcH⟩ := h.lh.some (by omega)
  have hnu := ok.nu
  have hnf := ok.nf
  have hnu' : (s.nu : Int) ≤ 8 := by omega
  have hnf' : (s.nf : Int) ≤ 8 := by omega
  have hui : (u : Int) < (s.nu : Int) := by omega
  have hfi : (f : Int) < (s.nf : Int) := by omega
  have h256 : 2 ^ s.nf ≤ 256 := Nat.pow_le_pow_right (n := 2) (by decide) hnf
  have tK := fun W => refIn_any 3 0 3 W
  have tU := fun W => refIn_any u 0 ((s.nu : Int) - 1) W
  have tF := fun W => refIn_any f 0 ((s.nf : Int) - 1) W
  rw [(inQ_iff _ _ _).2 (by omega)] at tK
  rw [(inQ_iff _ _ _).2 (by omega)] at tU
  rw [(inQ_iff _ _ _).2 (by omega)] at tF
  have hti : (t : Int) < (s.nf : Int) := by omega
  have tT := fun W => refIn_any t 0 ((s.nf : Int) - 1) W
  rw [(inQ_iff _ _ _).2 (by omega)] at tT
  have eW := hcW u hu
  have eR := hcR u hu
  have eH := hcH f hf
  have eT := hcH t ht
  have hxw : s.uw u < 4096 := Nat.lt_of_lt_of_le (ok.uw u hu) (by omega)
  have hxr : s.ur u < 4096 := Nat.lt_of_lt_of_le (ok.ur u hu) (by omega)
  have hxf : s.fh f < 4096 := Nat.lt_of_lt_of_le (ok.fh f hf) (by omega)
  have hxt : s.fh t < 4096 := Nat.lt_of_lt_of_le (ok.fh t ht) (by omega)
  have tB1 := fun W => bit_any (s.ur u) f hxr (by omega) W
  have tB2 := fun W => bit_any (s.uw u) t hxw (by omega) W
  have tE := fun W => either_any (s.fh t) (s.fh f) hxt hxf W
  have tS := fun W (hW : Below w.heap.size w W) (hX : w.heap.size + 3 ≤ W.heap.size) => set_any (fun b => w.heap.size + 3 ≤ b) _ _ _ (t : Int) ((s.fh t ||| s.fh f : Nat) : Int) (by omega) W (lH.below hW) (fun b hb => Nat.le_trans hX hb)
  obtain ⟨n1, hn1⟩ : ∃ x, s.fh t ||| s.fh f = x := ⟨_, rfl⟩
  have HN1 := Hid.mkI hn1
  rw [hn1] at tE tS
  obtain ⟨y1, hy1⟩ : ∃ x, (s.ur u).testBit f = x := ⟨_, rfl⟩
  obtain ⟨y2, hy2⟩ : ∃ x, (s.uw u).testBit t = x := ⟨_, rfl⟩
  rw [hy1] at tB1 ⊢
  rw [hy2] at tB2 ⊢
  obtain ⟨xr, hxr'⟩ : ∃ x, s.ur u = x := ⟨_, rfl⟩
  obtain ⟨xw, hxw'⟩ : ∃ x, s.uw u = x := ⟨_, rfl⟩
  obtain ⟨xf, hxf'⟩ : ∃ x, s.fh f = x := ⟨_, rfl⟩
  obtain ⟨xt, hxt'⟩ : ∃ x, s.fh t = x := ⟨_, rfl⟩
  rw [hxr'] at tB1 eR
  rw [hxw'] at tB2 eW
  rw [hxf'] at tE eH
  rw [hxt'] at tE eT
  obtain ⟨f1, hf1⟩ : ∃ x, updI (fun i => (s.fh i : Int)) t n1 = x := ⟨_, rfl⟩
  rw [hf1] at tS
  have HF1 := Hid.mkI hf1
  clear hcF hcU hcR hcW hcH lR lW lH hlR hlW hlH hxw hxr hxf hxt hxw' hxr' hxf' hxt' hn1 hf1 hlU hlF h256 hy1 hy2
  obtain ⟨W, hW⟩ : ∃ W, ((w.alloc (.cells #[.slice (some ⟨bU, oU, none⟩) s.nu cU, .slice (some ⟨bF, oF, none⟩) s.nf cF, .slice (some ⟨bR, oR, none⟩) s.nu cR, .slice (some ⟨bW, oW, none⟩) s.nu cW, .slice (some ⟨bH, oH, none⟩) s.nf cH] 26)).alloc (.cells #[.int .i64 3, .int .i64 (u : Int), .int .i64 (f : Int), .int .i64 (t : Int)] 37)).alloc (.cells #[.slice none 0 0, .slice none 0 0, .slice none 0 0, .slice none 0 0, .slice none 0 0] 26) = W := ⟨_, rfl⟩
  obtain ⟨hD, hB⟩ := desk5_of _ _ _ _ _ _ _ _ _ _ _ _ _ hW
  obtain ⟨b0, b1, -, -, -, -, -, -, -, -, a0, a1, a2, a3, -, -, -, -, -, -, -, -, -, -⟩ := id hD
  go_enter Tryd.func10, Tryd.ntmps10
  go_wp2_with fail
  refine (tK _).mono ?_
  clear tK
  rintro e w' ⟨rfl, hw⟩
  obtain rfl := hw.symm
  clear hw
  go_wp2_with fail
  refine (tU _).mono ?_
  clear tU
  rintro e w' ⟨rfl, hw⟩
  obtain rfl := hw.symm
  clear hw
  go_wp2_with fail
  refine (tF _).mono ?_
  clear tF
  rintro e w' ⟨rfl, hw⟩
  obtain rfl := hw.symm
  clear hw
  go_wp2_with fail
  refine (tT _).mono ?_
  clear tT
  rintro e w' ⟨rfl, hw⟩
  obtain rfl := hw.symm
  clear hw
  go_wp2_with fail
  clear hW b0 b1 a0 a1 a2 a3
  obtain ⟨b0, b1, -, -, -, -, -, -, -, -, a0, -, -, -, -, -, -, -, -, -, -, -, -, -⟩ := id hD
  go_quiet (fail)
  rename_i nq
  have hD3 := hD.drawn nq
  have hBe := below_drawn hB nq
  obtain ⟨wq0, hWq⟩ : ∃ x, W.drewN nq = x := ⟨_, rfl⟩
  rw [hWq] at hD3 hBe ⊢
  clear hWq
  clear hD hB b0 b1 a0 W
  obtain ⟨-, b1, -, -, -, -, -, -, -, -, -, -, -, -, -, -, -, -, -, -, -, -, -, -⟩ := id hD3
  go_wp2_with fail
  clear b1
  go_loopg [8] s.nf (fun d i wi => ∃ j : Nat, j ≤ s.nf ∧ d = s.nf - j ∧ i = .int .i64 j ∧ Desk5 w.heap.size wi (.slice (some ⟨bU, oU, none⟩) s.nu cU) (.slice (some ⟨bF, oF, none⟩) s.nf cF) (.slice (some ⟨bR, oR, none⟩) s.nu cR) (.slice (some ⟨bW, oW, none⟩) s.nu cW) (.slice (some ⟨bH, oH, none⟩) s.nf cH) 3 u f t ∧ Below w.heap.size w wi)
  case atStart => exact ⟨0, by omega, rfl, rfl, hD3, hBe⟩
  case round =>
    clear hD3 hBe
    obtain ⟨j, hj, rfl, rfl, hD, hB⟩ := hrel
    by_cases hlt : j < s.nf
    · have hji : (j : Int) < (s.nf : Int) := by omega
      obtain ⟨-, b1, -, -, -, -, -, -, -, -, a0, -, -, -, -, -, -, -, -, -, -, -, -, -⟩ := id hD
      go_wp2_with fail
      go_quiet (fail)
      rename_i nq
      have hD2 := hD.drawn nq
      have hB2 := below_drawn hB nq
      obtain ⟨wq, hWq⟩ : ∃ x, wr.drewN nq = x := ⟨_, rfl⟩
      rw [hWq] at hD2 hB2 ⊢
      clear hWq
      clear b1 a0 hD hB
      obtain ⟨-, b1, -, -, -, -, -, -, -, -, a0, -, -, -, -, -, -, -, -, -, -, -, -, -⟩ := id hD2
      go_wp2_with fail
      go_quiet (fail)
      rename_i nq
      have hD4 := hD2.drawn nq
      have hB4 := below_drawn hB2 nq
      obtain ⟨wq2, hWq⟩ : ∃ x, wq.drewN nq = x := ⟨_, rfl⟩
      rw [hWq] at hD4 hB4 ⊢
      clear hWq
      go_wp2_with fail
      go_roundg (s.nf - (j + 1))
      case measure => omega
      case rel => exact ⟨j + 1, by omega, rfl, by go_num, hD4, hB4⟩
    · have hge : (s.nf : Int) ≤ (j : Int) := by omega
      have eR2 := keep_cell hB eR
      have eW2 := keep_cell hB eW
      obtain ⟨-, b1, b2, b3, -, -, -, -, -, -, a0, -, -, a3, -, -, -, -, -, -, -, -, -, -⟩ := id hD
      cases y1 with
      | false =>
        clear tB2 tE tS
        go_wp2_with fail
        go_quiet ((go_at_call 28; exact Calls.quiet_of_same (tB1 _)))
        rename_i nq
        have hD2 := hD.drawn nq
        have hB2 := below_drawn hB nq
        obtain ⟨wq, hWq⟩ : ∃ x, wr.drewN nq = x := ⟨_, rfl⟩
        rw [hWq] at hD2 hB2 ⊢
        clear hWq
        clear b1 b2 b3 a0 a3 hD hB
        obtain ⟨b0, b1, b2, b3, b4, g0, g1, g2, g3, g4, -, -, -, -, r0, r1, r2, r3, r4, q0, q1, q2, q3, q4⟩ := id hD2
        go_wp2_with fail
        have hBz : Below w.heap.size w (put5 wq (w.heap.size + 2) (.slice (some ⟨bU, oU, none⟩) s.nu cU) (.slice (some ⟨bF, oF, none⟩) s.nf cF) (.slice (some ⟨bR, oR, none⟩) s.nu cR) (.slice (some ⟨bW, oW, none⟩) s.nu cW) (.slice (some ⟨bH, oH, none⟩) s.nf cH)) := below_put5 hB2 (by omega)
        unfold put5 at hBz
        (try simp only [Exit.inBlock, Exit.then])
        refine bodyPost_ret (v := .tuple #[.agg #[.slice (some ⟨bU, oU, none⟩) s.nu cU, .slice (some ⟨bF, oF, none⟩) s.nf cF, .slice (some ⟨bR, oR, none⟩) s.nu cR, .slice (some ⟨bW, oW, none⟩) s.nu cW, .slice (some ⟨bH, oH, none⟩) s.nf cH], .int .i64 8]) ?_ rfl (.inl ⟨rfl, rfl, hBz⟩)
        rw [results_cell_tmp rfl]
        go_simp
      | true =>
        cases y2 with
        | false =>
          clear tE tS
          go_wp2_with fail
          go_quiet ((first | (go_at_call 28; with_reducible exact Calls.quiet_of_same (tB1 _)) | (go_at_call 28; with_reducible exact Calls.quiet_of_same (tB2 _))))
          rename_i nq
          have hD2 := hD.drawn nq
          have hB2 := below_drawn hB nq
          obtain ⟨wq, hWq⟩ : ∃ x, wr.drewN nq = x := ⟨_, rfl⟩
          rw [hWq] at hD2 hB2 ⊢
          clear hWq
          clear b1 b2 b3 a0 a3 hD hB
          obtain ⟨b0, b1, b2, b3, b4, g0, g1, g2, g3, g4, -, -, -, -, r0, r1, r2, r3, r4, q0, q1, q2, q3, q4⟩ := id hD2
          go_wp2_with fail
          have hBz : Below w.heap.size w (put5 wq (w.heap.size + 2) (.slice (some ⟨bU, oU, none⟩) s.nu cU) (.slice (some ⟨bF, oF, none⟩) s.nf cF) (.slice (some ⟨bR, oR, none⟩) s.nu cR) (.slice (some ⟨bW, oW, none⟩) s.nu cW) (.slice (some ⟨bH, oH, none⟩) s.nf cH)) := below_put5 hB2 (by omega)
          unfold put5 at hBz
          (try simp only [Exit.inBlock, Exit.then])
          refine bodyPost_ret (v := .tuple #[.agg #[.slice (some ⟨bU, oU, none⟩) s.nu cU, .slice (some ⟨bF, oF, none⟩) s.nf cF, .slice (some ⟨bR, oR, none⟩) s.nu cR, .slice (some ⟨bW, oW, none⟩) s.nu cW, .slice (some ⟨bH, oH, none⟩) s.nf cH], .int .i64 8]) ?_ rfl (.inl ⟨rfl, rfl, hBz⟩)
          rw [results_cell_tmp rfl]
          go_simp
        | true =>
          go_wp2_with fail
          go_quiet ((first | (go_at_call 28; with_reducible exact Calls.quiet_of_same (tB1 _)) | (go_at_call 28; with_reducible exact Calls.quiet_of_same (tB2 _))))
          rename_i nq
          have hD2 := hD.drawn nq
          have hB2 := below_drawn hB nq
          obtain ⟨wq, hWq⟩ : ∃ x, wr.drewN nq = x := ⟨_, rfl⟩
          rw [hWq] at hD2 hB2 ⊢
          clear hWq
          clear b1 b2 b3 a0 a3 hD hB tB1 tB2 eR2 eW2
          obtain ⟨-, -, -, -, -, -, -, -, -, -, a0, -, -, -, -, -, -, -, -, -, -, -, -, -⟩ := id hD2
          go_wp2_with fail
          refine wp_region_still_tail 16 (by kernel_rfl) (by kernel_rfl) ?_
          simp only [List.take_succ_cons, List.take_zero, List.drop_succ_cons, List.drop_zero]
          have hBd := hB2.drew
          have hDd := hD2.drew
          obtain ⟨Wd, hWd⟩ : ∃ x, wq.drew = x := ⟨_, rfl⟩
          have hWd2 : { wq with drawn := wq.drawn + 1 } = Wd := hWd
          rw [hWd] at hBd hDd
          rw [hWd2]
          clear hWd hWd2
          have e3 := keep_cell hBd eH
          have e4 := keep_cell hBd eT
          have hX := hDd.lt
          clear hD2 hB2 a0
          obtain ⟨-, -, -, -, b4, -, -, -, -, -, -, -, -, a3, -, -, -, -, -, -, -, -, -, -⟩ := id hDd
          repeat still_step
          still_call (tE _)
          refine wpStill_nil ?_
          go_wp2_with fail
          refine (tS _ hBd hX).mono ?_
          clear tS tE
          rintro e w6 ⟨v6, rfl, hL6, hB6⟩
          have hD6 := hDd.below hB6
          clear b4 a3
          obtain ⟨a6, cp6, rfl, -⟩ := id hL6
          have hBg := hBd.trans (hB6.mono hBd.size)
          obtain ⟨b0, b1, b2, b3, b4, g0, g1, g2, g3, g4, a0, -, -, -, r0, r1, r2, r3, r4, q0, q1, q2, q3, q4⟩ := id hD6
          go_wp2_with fail
          have hN3 : w.heap.size < w.heap.size + 3 := by omega
          have hN2 : ∀ b, w.heap.size + 3 ≤ b → b ≠ w.heap.size + 2 := fun b hb => by omega
          have hBz : Below w.heap.size w (put5 (w6.setCell ⟨w.heap.size, 4, none⟩ (.slice a6 s.nf cp6)) (w.heap.size + 2) (.slice (some ⟨bU, oU, none⟩) s.nu cU) (.slice (some ⟨bF, oF, none⟩) s.nf cF) (.slice (some ⟨bR, oR, none⟩) s.nu cR) (.slice (some ⟨bW, oW, none⟩) s.nu cW) (.slice a6 s.nf cp6)) := below_put5 (hBg.setCell (Nat.le_refl _) _) (by omega)
          have hLz := (hL6.putN (o := 4) hN3 (.slice a6 s.nf cp6)).put5 (X := w.heap.size + 2) (u0 := .slice (some ⟨bU, oU, none⟩) s.nu cU) (u1 := .slice (some ⟨bF, oF, none⟩) s.nf cF) (u2 := .slice (some ⟨bR, oR, none⟩) s.nu cR) (u3 := .slice (some ⟨bW, oW, none⟩) s.nu cW) (u4 := .slice a6 s.nf cp6) hN2
          unfold put5 at hBz hLz
          (try simp only [Exit.inBlock, Exit.then])
          refine bodyPost_ret (v := .tuple #[.agg #[.slice (some ⟨bU, oU, none⟩) s.nu cU, .slice (some ⟨bF, oF, none⟩) s.nf cF, .slice (some ⟨bR, oR, none⟩) s.nu cR, .slice (some ⟨bW, oW, none⟩) s.nu cW, .slice a6 s.nf cp6], .int .i64 0]) ?_ rfl (.inr ⟨rfl, _, rfl, (hLz.weak (fun b _ hb => hP b (Nat.le_trans (Nat.le_add_right _ 3) hb))).like fun i _ => ?_, hBz⟩)
          · rw [results_cell_tmp rfl]
            go_simp
          · rw [← HF1.out, HN1.out, updI_cast]
end Go.Proofs.YteheaeihoameeaaDoor
