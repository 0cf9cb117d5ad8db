/- What the document's monitor of labels answers where a user lets a file go (AskBell). -/
import Derived.WalkKit
import Derived.LoopTactic
import Derived.Laws.ResultCell
import Derived.Deep.LoopGhost
import Derived.Deep.QuietTactic
import Derived.BigQuiet
import Derived.StillTailTactics
import Derived.Test.YteheaeihoameeaaDoorBelRef
namespace Go.Proofs.YteheaeihoameeaaDoor
open Go.RowKit
set_option maxRecDepth 100000

theorem or_less (x f : Nat) : (x ||| 2 ^ f) = less x (2 ^ f) + 2 ^ f := by
  have hb : (less x (2 ^ f)).testBit f = false := by rw [less_bit, Nat.testBit_two_pow_self]; simp
  rw [with_bits _ _ hb]
  refine Nat.eq_of_testBit_eq fun j => ?_
  rw [Nat.testBit_or, Nat.testBit_or, less_bit, Nat.testBit_two_pow]
  by_cases e : f = j
  · simp [e]
  · simp [e]
set_option maxHeartbeats 80000000 in
theorem refBell_drop (P : Nat → Prop) (vU vF vR vW vH : Value) (s : BellSt) (u f : Nat) (t : Int) (ok : BellOk s) (hu : u < s.nu) (hf : f < s.nf) (w : World) (hP : ∀ b, w.heap.size ≤ b → P b) (hU : Labl w vU s.nu s.ul s.us) (hF : Labl w vF s.nf s.fl s.fs) (h : LRef P w vR vW vH s) :
    Calls Tryd.prog 10 #[.agg #[vU, vF, vR, vW, vH], ask4 2 u f t] w fun e w' =>
      ∃ vR' vW', e = .returned (.tuple #[.agg #[vU, vF, vR', vW', vH], .int .i64 0]) ∧ Lstp P w' vR' s.nu (fun i => (upd s.ur u (less (s.ur u) (2 ^ f)) i : Int)) ∧ Lstp P w' vW' s.nu (fun i => (upd s.uw u (less (s.uw u) (2 ^ f)) i : Int)) ∧ Below w.heap.size w w' := by
  obtain ⟨bU, oU, cU, rfl, hlU, hcU⟩ := hU.some (by omega)
  obtain ⟨bF, oF, cF, rfl, hlF, hcF⟩ := hF.some (by omega)
  have lR := h.lr.lst
  have lW := h.lw.lst
  have lH := h.lh.lst
  obtain ⟨bR, oR, cR, rfl, hlR, hcR⟩ := h.lr.some (by omega)
  obtain ⟨bW, oW, cW, rfl, hlW, hcW⟩ := h.lw.some (by omega)
  obtain ⟨bH, oH, cH, rfl, hlH, hcH⟩ := h.lh.some (by omega)
  have hnu := ok.nu
  have hnf := ok.nf
  have hnu' : (s.nu : Int) ≤ 8 := by omega
  have hnf' : (s.nf : Int) ≤ 8 := by omega
  have hui : (u : Int) < (s.nu : Int) := by omega
  have hfi : (f : Int) < (s.nf : Int) := by omega
  have h256 : 2 ^ s.nf ≤ 256 := Nat.pow_le_pow_right (n := 2) (by decide) hnf
  have tK := fun W => refIn_any 2 0 3 W
  have tU := fun W => refIn_any u 0 ((s.nu : Int) - 1) W
  have tF := fun W => refIn_any f 0 ((s.nf : Int) - 1) W
  rw [(inQ_iff _ _ _).2 (by omega)] at tK
  rw [(inQ_iff _ _ _).2 (by omega)] at tU
  rw [(inQ_iff _ _ _).2 (by omega)] at tF
  have eW := hcW u hu
  have eR := hcR u hu
  have hxw : s.uw u < 4096 := Nat.lt_of_lt_of_le (ok.uw u hu) (by omega)
  have hxr : s.ur u < 4096 := Nat.lt_of_lt_of_le (ok.ur u hu) (by omega)
  have tY1 := fun W => with_any (s.ur u) f hxr (by omega) W
  have tY2 := fun W => with_any (s.uw u) f hxw (by omega) W
  have tP := fun W => pow2_any f (by omega) W
  rw [or_less] at tY1 tY2
  have hpl : 2 ^ f ≤ 256 := Nat.le_trans (Nat.pow_le_pow_right (n := 2) (by decide) (Nat.le_of_lt hf)) h256
  have hl1 : less (s.ur u) (2 ^ f) < 2 ^ s.nf := less_lt (ok.ur u hu)
  have hl2 : less (s.uw u) (2 ^ f) < 2 ^ s.nf := less_lt (ok.uw u hu)
  have tS1 := fun W (hW : Below w.heap.size w W) (hX : w.heap.size + 3 ≤ W.heap.size) => set_any (fun b => w.heap.size + 3 ≤ b) _ _ _ (u : Int) ((less (s.ur u) (2 ^ f) : Nat) : Int) (by omega) W (lR.below hW) (fun b hb => Nat.le_trans hX hb)
  have tS2 := fun W (hW : Below w.heap.size w W) (hX : w.heap.size + 3 ≤ W.heap.size) => set_any (fun b => w.heap.size + 3 ≤ b) _ _ _ (u : Int) ((less (s.uw u) (2 ^ f) : Nat) : Int) (by omega) W (lW.below hW) (fun b hb => Nat.le_trans hX hb)
  obtain ⟨n1, hn1⟩ : ∃ x, less (s.ur u) (2 ^ f) = x := ⟨_, rfl⟩
  obtain ⟨n2, hn2⟩ : ∃ x, less (s.uw u) (2 ^ f) = x := ⟨_, rfl⟩
  have HN1 := Hid.mkI hn1
  have HN2 := Hid.mkI hn2
  rw [hn1] at tY1 tS1 hl1
  rw [hn2] at tY2 tS2 hl2
  obtain ⟨pf, hpf⟩ : ∃ x, 2 ^ f = x := ⟨_, rfl⟩
  rw [hpf] at tY1 tY2 tP hpl
  obtain ⟨xr, hxr'⟩ : ∃ x, s.ur u = x := ⟨_, rfl⟩
  obtain ⟨xw, hxw'⟩ : ∃ x, s.uw u = x := ⟨_, rfl⟩
  rw [hxr'] at tY1 eR
  rw [hxw'] at tY2 eW
  have hb1 : (n1 : Int) < 256 := by omega
  have hb2 : (n2 : Int) < 256 := by omega
  have hb3 : (pf : Int) ≤ 256 := by omega
  have hs1 : ((n1 + pf : Nat) : Int) - (pf : Int) = (n1 : Int) := by omega
  have hs2 : ((n2 + pf : Nat) : Int) - (pf : Int) = (n2 : Int) := by omega
  obtain ⟨m1, hm1⟩ : ∃ x, n1 + pf = x := ⟨_, rfl⟩
  obtain ⟨m2, hm2⟩ : ∃ x, n2 + pf = x := ⟨_, rfl⟩
  rw [hm1] at tY1 hs1
  rw [hm2] at tY2 hs2
  have hb4 : (m1 : Int) < 512 := by omega
  have hb5 : (m2 : Int) < 512 := by omega
  obtain ⟨f1, hf1⟩ : ∃ x, updI (fun i => (s.ur i : Int)) u n1 = x := ⟨_, rfl⟩
  rw [hf1] at tS1
  have HF1 := Hid.mkI hf1
  obtain ⟨f2, hf2⟩ : ∃ x, updI (fun i => (s.uw i : Int)) u n2 = x := ⟨_, rfl⟩
  rw [hf2] at tS2
  have HF2 := Hid.mkI hf2
  clear hcF hcU hcR hcW hcH lR lW lH hlR hlW hlH hxw hxr hxw' hxr' hn1 hn2 hf1 hf2 hlU hlF h256 hpl hpf hm1 hm2 hl1 hl2
  obtain ⟨W, hW⟩ : ∃ W, ((w.alloc (.cells #[.slice (some ⟨bU, oU, none⟩) s.nu cU, .slice (some ⟨bF, oF, none⟩) s.nf cF, .slice (some ⟨bR, oR, none⟩) s.nu cR, .slice (some ⟨bW, oW, none⟩) s.nu cW, .slice (some ⟨bH, oH, none⟩) s.nf cH] 26)).alloc (.cells #[.int .i64 2, .int .i64 (u : Int), .int .i64 (f : Int), .int .i64 t] 37)).alloc (.cells #[.slice none 0 0, .slice none 0 0, .slice none 0 0, .slice none 0 0, .slice none 0 0] 26) = W := ⟨_, rfl⟩
  obtain ⟨hD, hB⟩ := desk5_of _ _ _ _ _ _ _ _ _ _ _ _ _ hW
  obtain ⟨b0, b1, -, -, -, -, -, -, -, -, a0, a1, a2, -, -, -, -, -, -, -, -, -, -, -⟩ := id hD
  go_enter Tryd.func10, Tryd.ntmps10
  go_wp2_with fail
  refine (tK _).mono ?_
  clear tK
  rintro e w' ⟨rfl, hw⟩
  obtain rfl := hw.symm
  clear hw
  go_wp2_with fail
  refine (tU _).mono ?_
  clear tU
  rintro e w' ⟨rfl, hw⟩
  obtain rfl := hw.symm
  clear hw
  go_wp2_with fail
  refine (tF _).mono ?_
  clear tF
  rintro e w' ⟨rfl, hw⟩
  obtain rfl := hw.symm
  clear hw
  go_wp2_with fail
  clear hW b0 b1 a0 a1 a2
  obtain ⟨b0, b1, -, -, -, -, -, -, -, -, a0, -, -, -, -, -, -, -, -, -, -, -, -, -⟩ := id hD
  go_quiet (fail)
  rename_i nq
  have hD3 := hD.drawn nq
  have hBe := below_drawn hB nq
  obtain ⟨wq0, hWq⟩ : ∃ x, W.drewN nq = x := ⟨_, rfl⟩
  rw [hWq] at hD3 hBe ⊢
  clear hWq
  clear hD hB b0 b1 a0 W
  obtain ⟨-, b1, -, -, -, -, -, -, -, -, -, -, -, -, -, -, -, -, -, -, -, -, -, -⟩ := id hD3
  go_wp2_with fail
  clear b1
  go_loopg [8] s.nf (fun d i wi => ∃ j : Nat, j ≤ s.nf ∧ d = s.nf - j ∧ i = .int .i64 j ∧ Desk5 w.heap.size wi (.slice (some ⟨bU, oU, none⟩) s.nu cU) (.slice (some ⟨bF, oF, none⟩) s.nf cF) (.slice (some ⟨bR, oR, none⟩) s.nu cR) (.slice (some ⟨bW, oW, none⟩) s.nu cW) (.slice (some ⟨bH, oH, none⟩) s.nf cH) 2 u f t ∧ Below w.heap.size w wi)
  case atStart => exact ⟨0, by omega, rfl, rfl, hD3, hBe⟩
  case round =>
    clear hD3 hBe
    obtain ⟨j, hj, rfl, rfl, hD, hB⟩ := hrel
    by_cases hlt : j < s.nf
    · have hji : (j : Int) < (s.nf : Int) := by omega
      obtain ⟨-, b1, -, -, -, -, -, -, -, -, a0, -, -, -, -, -, -, -, -, -, -, -, -, -⟩ := id hD
      go_wp2_with fail
      go_quiet (fail)
      rename_i nq
      have hD2 := hD.drawn nq
      have hB2 := below_drawn hB nq
      obtain ⟨wq, hWq⟩ : ∃ x, wr.drewN nq = x := ⟨_, rfl⟩
      rw [hWq] at hD2 hB2 ⊢
      clear hWq
      clear b1 a0 hD hB
      obtain ⟨-, b1, -, -, -, -, -, -, -, -, a0, -, -, -, -, -, -, -, -, -, -, -, -, -⟩ := id hD2
      go_wp2_with fail
      go_quiet (fail)
      rename_i nq
      have hD4 := hD2.drawn nq
      have hB4 := below_drawn hB2 nq
      obtain ⟨wq2, hWq⟩ : ∃ x, wq.drewN nq = x := ⟨_, rfl⟩
      rw [hWq] at hD4 hB4 ⊢
      clear hWq
      go_wp2_with fail
      go_roundg (s.nf - (j + 1))
      case measure => omega
      case rel => exact ⟨j + 1, by omega, rfl, by go_num, hD4, hB4⟩
    · have hge : (s.nf : Int) ≤ (j : Int) := by omega
      obtain ⟨-, b1, b2, b3, -, -, -, -, -, -, a0, -, -, -, -, -, -, -, -, -, -, -, -, -⟩ := id hD
      go_wp2_with fail
      go_quiet (fail)
      rename_i nq
      have hD2 := hD.drawn nq
      have hB2 := below_drawn hB nq
      obtain ⟨wq, hWq⟩ : ∃ x, wr.drewN nq = x := ⟨_, rfl⟩
      rw [hWq] at hD2 hB2 ⊢
      clear hWq
      have eR2 := keep_cell hB2 eR
      clear b1 b2 b3 a0 hD hB
      obtain ⟨-, -, b2, -, -, -, -, -, -, -, a0, -, -, -, -, -, -, -, -, -, -, -, -, -⟩ := id hD2
      go_wp2_with fail
      refine wp_region_still_tail 13 (by kernel_rfl) (by kernel_rfl) ?_
      simp only [List.take_succ_cons, List.take_zero, List.drop_succ_cons, List.drop_zero]
      have hBd := hB2.drew
      have hDd := hD2.drew
      obtain ⟨Wd, hWd⟩ : ∃ x, wq.drew = x := ⟨_, rfl⟩
      have hWd2 : { wq with drawn := wq.drawn + 1 } = Wd := hWd
      rw [hWd] at hBd hDd
      rw [hWd2]
      clear hWd hWd2
      have eR3 := keep_cell hBd eR
      have hX := hDd.lt
      clear hD2 hB2 eR2 b2 a0
      obtain ⟨-, -, b2, -, -, -, -, -, -, -, a0, -, -, -, -, -, -, -, -, -, -, -, -, -⟩ := id hDd
      repeat still_step
      still_call (tY1 _)
      repeat still_step
      still_call (tP _)
      repeat still_step
      refine wpStill_nil ?_
      go_wp2_with fail
      refine (tS1 _ hBd hX).mono ?_
      clear tS1 tY1
      rintro e w6 ⟨v6, rfl, hL6, hB6⟩
      have hD6 := hDd.below hB6
      clear b2 a0
      obtain ⟨a6, cp6, rfl, -⟩ := id hL6
      have hBg := hBd.trans (hB6.mono hBd.size)
      obtain ⟨-, -, b2, -, -, -, -, g2, -, -, -, -, -, -, -, -, -, -, -, -, -, -, -, -⟩ := id hD6
      go_wp2_with fail
      have hN3 : w.heap.size < w.heap.size + 3 := by omega
      have hN2 : ∀ b, w.heap.size + 3 ≤ b → b ≠ w.heap.size + 2 := fun b hb => by omega
      have hN4 : ∀ b, w.heap.size + 3 ≤ b → b ≠ w.heap.size := fun b hb => by omega
      have hD7 := hD6.put2 (.slice a6 s.nu cp6)
      have hB7 := hBg.setCell (p := ⟨w.heap.size, 2, none⟩) (Nat.le_refl _) (.slice a6 s.nu cp6)
      have hL7 := hL6.putN (o := 2) hN3 (.slice a6 s.nu cp6)
      obtain ⟨w7, hw7⟩ : ∃ x, w6.setCell ⟨w.heap.size, 2, none⟩ (.slice a6 s.nu cp6) = x := ⟨_, rfl⟩
      rw [hw7] at hD7 hB7 hL7 ⊢
      clear hw7 hD6 hBg hL6 hB6 hDd hBd hX eR3 b2 g2
      refine wp_region_still_tail 13 (by kernel_rfl) (by kernel_rfl) ?_
      simp only [List.take_succ_cons, List.take_zero, List.drop_succ_cons, List.drop_zero]
      have hBd := hB7.drew
      have hDd := hD7.drew
      obtain ⟨We, hWd⟩ : ∃ x, w7.drew = x := ⟨_, rfl⟩
      have hWd2 : { w7 with drawn := w7.drawn + 1 } = We := hWd
      rw [hWd] at hBd hDd
      rw [hWd2]
      have hWe := Hid.mkI hWd
      clear hWd hWd2
      have hL8 := hL7.drew
      have hL8' : Lstp (fun b => w.heap.size + 3 ≤ b) We (.slice a6 s.nu cp6) s.nu f1 := by rw [← hWe.out]; exact hL8
      clear hL8 hL7
      have eW3 := keep_cell hBd eW
      have hX := hDd.lt
      obtain ⟨-, -, -, b3, -, -, -, -, -, -, a0, -, -, -, -, -, -, -, -, -, -, -, -, -⟩ := id hDd
      repeat still_step
      still_call (tY2 _)
      repeat still_step
      still_call (tP _)
      repeat still_step
      refine wpStill_nil ?_
      go_wp2_with fail
      refine (tS2 _ hBd hX).mono ?_
      clear tS2 tY2 tP
      rintro e w8 ⟨v8, rfl, hL9, hB8⟩
      have hD8 := hDd.below hB8
      have hL8 := hL8'.below hB8
      clear b3 a0 hL8'
      obtain ⟨a8, cp8, rfl, -⟩ := id hL9
      have hBg := hBd.trans (hB8.mono hBd.size)
      obtain ⟨b0, b1, b2, b3, b4, g0, g1, g2, g3, g4, a0, -, -, -, r0, r1, r2, r3, r4, q0, q1, q2, q3, q4⟩ := id hD8
      go_wp2_with fail
      have hBz : Below w.heap.size w (put5 (w8.setCell ⟨w.heap.size, 3, none⟩ (.slice a8 s.nu cp8)) (w.heap.size + 2) (.slice (some ⟨bU, oU, none⟩) s.nu cU) (.slice (some ⟨bF, oF, none⟩) s.nf cF) (.slice a6 s.nu cp6) (.slice a8 s.nu cp8) (.slice (some ⟨bH, oH, none⟩) s.nf cH)) := below_put5 (hBg.setCell (Nat.le_refl _) _) (by omega)
      have hLz := (hL8.putN (o := 3) hN3 (.slice a8 s.nu cp8)).put5 (X := w.heap.size + 2) (u0 := .slice (some ⟨bU, oU, none⟩) s.nu cU) (u1 := .slice (some ⟨bF, oF, none⟩) s.nf cF) (u2 := .slice a6 s.nu cp6) (u3 := .slice a8 s.nu cp8) (u4 := .slice (some ⟨bH, oH, none⟩) s.nf cH) hN2
      have hLy := (hL9.putN (o := 3) hN3 (.slice a8 s.nu cp8)).put5 (X := w.heap.size + 2) (u0 := .slice (some ⟨bU, oU, none⟩) s.nu cU) (u1 := .slice (some ⟨bF, oF, none⟩) s.nf cF) (u2 := .slice a6 s.nu cp6) (u3 := .slice a8 s.nu cp8) (u4 := .slice (some ⟨bH, oH, none⟩) s.nf cH) hN2
      unfold put5 at hBz hLz hLy
      (try simp only [Exit.inBlock, Exit.then])
      refine bodyPost_ret (v := .tuple #[.agg #[.slice (some ⟨bU, oU, none⟩) s.nu cU, .slice (some ⟨bF, oF, none⟩) s.nf cF, .slice a6 s.nu cp6, .slice a8 s.nu cp8, .slice (some ⟨bH, oH, none⟩) s.nf cH], .int .i64 0]) ?_ rfl ⟨_, _, rfl, (hLz.weak (fun b _ hb => hP b (Nat.le_trans (Nat.le_add_right _ 3) hb))).like fun i _ => ?_, (hLy.weak (fun b _ hb => hP b (Nat.le_trans (Nat.le_add_right _ 3) hb))).like fun i _ => ?_, hBz⟩
      · rw [results_cell_tmp rfl]
        go_simp
      · rw [← HF1.out, HN1.out, updI_cast]
      · rw [← HF2.out, HN2.out, updI_cast]
end Go.Proofs.YteheaeihoameeaaDoor
