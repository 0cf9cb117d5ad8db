/- What the document's monitor of levels answers where a user writes, and at any ask (AskBiba). -/
import Derived.WalkKit
import Derived.LoopTactic
import Derived.Laws.ResultCell
import Derived.Deep.Cut
import Derived.Deep.QuietTactic
import Derived.BigQuiet
import Derived.StillTailTactics
import Derived.Test.YteheaeihoameeaaDoorBibRd
namespace Go.Proofs.YteheaeihoameeaaDoor
open Go.RowKit
set_option maxRecDepth 100000

theorem Desk.drawn {N : Nat} {W : World} {v0 v1 v2 v3 : Value} {k u g t : Int} (h : Desk N W v0 v1 v2 v3 k u g t) (n : Nat) : Desk N (W.drewN n) v0 v1 v2 v3 k u g t := ⟨h.b0, h.b1, h.b2, h.b3, h.g0, h.g1, h.g2, h.g3, h.a0, h.a1, h.a2, h.a3, h.r0, h.r1, h.r2, h.r3, h.q0, h.q1, h.q2, h.q3⟩
set_option maxHeartbeats 8000000 in
theorem refBib_no (P : Nat → Prop) (vU vF vW vH : Value) (s : BibSt) (u f : Nat) (t : Int) (ok : BibOk s) (hu : u < s.nu) (hf : f < s.nf) (hd : s.ul u < s.fl f) (w : World) (h : BRef P w vU vF vW vH s) :
    Calls Tryd.prog 21 #[.agg #[vU, vF, vW, vH], ask4 1 u f t] w fun e w' => e = .returned (.tuple #[.agg #[vU, vF, vW, vH], .int .i64 7]) ∧ Below w.heap.size w w' := by
  have hd' : (s.ul u : Int) < (s.fl f : Int) := by omega
  have lW := h.lw.lst
  obtain ⟨bU, oU, cU, rfl, hlU, hcU⟩ := h.lu.some (by omega)
  obtain ⟨bF, oF, cF, rfl, hlF, hcF⟩ := h.lf.some (by omega)
  obtain ⟨bW, oW, cW, rfl, hlW, hcW⟩ := h.lw.some (by omega)
  obtain ⟨bH, oH, cH, rfl, hlH, hcH⟩ := h.lh.some (by omega)
  have eU := hcU u hu
  have eF := hcF f hf
  have eW := hcW f hf
  have eH := hcH u hu
  clear hcU hcF hcW hcH
  have hnu := ok.nu
  have hnf := ok.nf
  have hnu' : (s.nu : Int) ≤ 8 := by omega
  have hnf' : (s.nf : Int) ≤ 8 := by omega
  have hui : (u : Int) < (s.nu : Int) := by omega
  have hfi : (f : Int) < (s.nf : Int) := by omega
  have tU := fun W => refIn_any u 0 ((s.nu : Int) - 1) W
  have tF := fun W => refIn_any f 0 ((s.nf : Int) - 1) W
  have tK := fun W => refIn_any 1 0 1 W
  rw [(inQ_iff _ _ _).2 (by omega)] at tU
  rw [(inQ_iff _ _ _).2 (by omega)] at tF
  rw [(inQ_iff _ _ _).2 (by omega)] at tK
  have tL1 := fun W => refLess_any (s.fw f) (s.uh u) W
  have tS1 := fun W (hW : Below w.heap.size w W) (hX : w.heap.size + 3 ≤ W.heap.size) => set_any (fun b => w.heap.size + 3 ≤ b) _ _ _ (f : Int) ((min (s.fw f) (s.uh u) : Nat) : Int) (by omega) W (lW.below hW) (fun b hb => Nat.le_trans hX hb)
  obtain ⟨W, hW⟩ : ∃ W, ((w.alloc (.cells #[.slice (some ⟨bU, oU, none⟩) s.nu cU, .slice (some ⟨bF, oF, none⟩) s.nf cF, .slice (some ⟨bW, oW, none⟩) s.nf cW, .slice (some ⟨bH, oH, none⟩) s.nu cH] 48)).alloc (.cells #[.int .i64 1, .int .i64 (u : Int), .int .i64 (f : Int), .int .i64 t] 37)).alloc (.cells #[.slice none 0 0, .slice none 0 0, .slice none 0 0, .slice none 0 0] 48) = W := ⟨_, rfl⟩
  obtain ⟨⟨b0, b1, b2, b3, g0, g1, g2, g3, a0, a1, a2, a3, r0, r1, r2, r3, q0, q1, q2, q3⟩, hB, hlt⟩ := desk_of _ _ _ _ _ _ _ _ _ _ _ _ hW
  have e1 := keep_cell hB eU
  have e2 := keep_cell hB eF
  have e3 := keep_cell hB eW
  have e4 := keep_cell hB eH
  have nU : bU ≠ w.heap.size := by omega
  have nF : bF ≠ w.heap.size := by omega
  have nW : bW ≠ w.heap.size := by omega
  have nH : bH ≠ w.heap.size := by omega
  obtain ⟨m1, hm1⟩ : ∃ x, min (s.fw f) (s.uh u) = x := ⟨_, rfl⟩
  rw [hm1] at tL1 tS1
  have HM1 := Hid.mkI hm1
  obtain ⟨x1, hx1⟩ : ∃ x, s.ul u = x := ⟨_, rfl⟩
  obtain ⟨x2, hx2⟩ : ∃ x, s.fl f = x := ⟨_, rfl⟩
  obtain ⟨x3, hx3⟩ : ∃ x, s.uh u = x := ⟨_, rfl⟩
  obtain ⟨x4, hx4⟩ : ∃ x, s.fw f = x := ⟨_, rfl⟩
  rw [hx1] at e1 hd'
  rw [hx2] at e2 hd'
  rw [hx3] at e4 tL1
  rw [hx4] at e3 tL1
  clear hx1 hx2 hx3 hx4 hm1 eU eF eW eH hlU hlF hlW hlH lW hd
  go_enter Tryd.func21, Tryd.ntmps21
  go_wp2_with (first | (go_at_call 26; refine (tK _).mono ?_; clear tK; rintro e w' ⟨rfl, hw⟩; obtain rfl := hw.symm) | (go_at_call 26; refine (tU _).mono ?_; clear tU; rintro e w' ⟨rfl, hw⟩; obtain rfl := hw.symm) | (go_at_call 26; refine (tF _).mono ?_; clear tF; rintro e w' ⟨rfl, hw⟩; obtain rfl := hw.symm))
  clear hW
  have hD : Desk w.heap.size W _ _ _ _ _ _ _ _ := ⟨b0, b1, b2, b3, g0, g1, g2, g3, a0, a1, a2, a3, r0, r1, r2, r3, q0, q1, q2, q3⟩
  go_quiet (fail)
  rename_i nq
  have hD2 := hD.drawn nq
  have hB2 := below_drawn hB nq
  have e3d : (W.drewN nq).cell? ⟨bW, oW + f, none⟩ = some (.int .i64 (x4 : Int)) := e3
  have e4d : (W.drewN nq).cell? ⟨bH, oH + u, none⟩ = some (.int .i64 (x3 : Int)) := e4
  obtain ⟨Wq, hWq⟩ : ∃ x, W.drewN nq = x := ⟨_, rfl⟩
  rw [hWq] at hD2 hB2 e3d e4d ⊢
  clear hWq hD hB hlt e1 e2 e3 e4 b0 b1 b2 b3 g0 g1 g2 g3 a0 a1 a2 a3 r0 r1 r2 r3 q0 q1 q2 q3 W
  obtain ⟨b0, b1, b2, b3, g0, g1, g2, g3, a0, a1, a2, a3, r0, r1, r2, r3, q0, q1, q2, q3⟩ := id hD2
  go_wp2
  (try simp only [Exit.inBlock, Exit.then])
  have hBz := (((hB2.setCell (p := ⟨w.heap.size + 2, 0, none⟩) (by simp) (.slice (some ⟨bU, oU, none⟩) s.nu cU)).setCell (p := ⟨w.heap.size + 2, 1, none⟩) (by simp) (.slice (some ⟨bF, oF, none⟩) s.nf cF)).setCell (p := ⟨w.heap.size + 2, 2, none⟩) (by simp) (.slice (some ⟨bW, oW, none⟩) s.nf cW)).setCell (p := ⟨w.heap.size + 2, 3, none⟩) (by simp) (.slice (some ⟨bH, oH, none⟩) s.nu cH)
  refine bodyPost_ret (v := .tuple #[.agg #[.slice (some ⟨bU, oU, none⟩) s.nu cU, .slice (some ⟨bF, oF, none⟩) s.nf cF, .slice (some ⟨bW, oW, none⟩) s.nf cW, .slice (some ⟨bH, oH, none⟩) s.nu cH], .int .i64 7]) ?_ rfl ⟨rfl, hBz⟩
  rw [results_cell_tmp rfl]
  go_simp
set_option maxHeartbeats 8000000 in
theorem refBib_write (P : Nat → Prop) (vU vF vW vH : Value) (s : BibSt) (u f : Nat) (t : Int) (ok : BibOk s) (hu : u < s.nu) (hf : f < s.nf) (hd : ¬ s.ul u < s.fl f) (w : World) (hP : ∀ b, w.heap.size ≤ b → P b) (h : BRef P w vU vF vW vH s) :
    Calls Tryd.prog 21 #[.agg #[vU, vF, vW, vH], ask4 1 u f t] w fun e w' => ∃ vW', e = .returned (.tuple #[.agg #[vU, vF, vW', vH], .int .i64 0]) ∧ BRef P w' vU vF vW' vH { s with fw := upd s.fw f (min (s.fw f) (s.uh u)) } ∧ Below w.heap.size w w' := by
  have hd' : (s.fl f : Int) ≤ (s.ul u : Int) := by omega
  have lW := h.lw.lst
  obtain ⟨bU, oU, cU, rfl, hlU, hcU⟩ := h.lu.some (by omega)
  obtain ⟨bF, oF, cF, rfl, hlF, hcF⟩ := h.lf.some (by omega)
  obtain ⟨bW, oW, cW, rfl, hlW, hcW⟩ := h.lw.some (by omega)
  obtain ⟨bH, oH, cH, rfl, hlH, hcH⟩ := h.lh.some (by omega)
  have eU := hcU u hu
  have eF := hcF f hf
  have eW := hcW f hf
  have eH := hcH u hu
  clear hcU hcF hcW hcH
  have hnu := ok.nu
  have hnf := ok.nf
  have hnu' : (s.nu : Int) ≤ 8 := by omega
  have hnf' : (s.nf : Int) ≤ 8 := by omega
  have hui : (u : Int) < (s.nu : Int) := by omega
  have hfi : (f : Int) < (s.nf : Int) := by omega
  have tU := fun W => refIn_any u 0 ((s.nu : Int) - 1) W
  have tF := fun W => refIn_any f 0 ((s.nf : Int) - 1) W
  have tK := fun W => refIn_any 1 0 1 W
  rw [(inQ_iff _ _ _).2 (by omega)] at tU
  rw [(inQ_iff _ _ _).2 (by omega)] at tF
  rw [(inQ_iff _ _ _).2 (by omega)] at tK
  have tL1 := fun W => refLess_any (s.fw f) (s.uh u) W
  have tS1 := fun W (hW : Below w.heap.size w W) (hX : w.heap.size + 3 ≤ W.heap.size) => set_any (fun b => w.heap.size + 3 ≤ b) _ _ _ (f : Int) ((min (s.fw f) (s.uh u) : Nat) : Int) (by omega) W (lW.below hW) (fun b hb => Nat.le_trans hX hb)
  obtain ⟨W, hW⟩ : ∃ W, ((w.alloc (.cells #[.slice (some ⟨bU, oU, none⟩) s.nu cU, .slice (some ⟨bF, oF, none⟩) s.nf cF, .slice (some ⟨bW, oW, none⟩) s.nf cW, .slice (some ⟨bH, oH, none⟩) s.nu cH] 48)).alloc (.cells #[.int .i64 1, .int .i64 (u : Int), .int .i64 (f : Int), .int .i64 t] 37)).alloc (.cells #[.slice none 0 0, .slice none 0 0, .slice none 0 0, .slice none 0 0] 48) = W := ⟨_, rfl⟩
  obtain ⟨⟨b0, b1, b2, b3, g0, g1, g2, g3, a0, a1, a2, a3, r0, r1, r2, r3, q0, q1, q2, q3⟩, hB, hlt⟩ := desk_of _ _ _ _ _ _ _ _ _ _ _ _ hW
  have e1 := keep_cell hB eU
  have e2 := keep_cell hB eF
  have e3 := keep_cell hB eW
  have e4 := keep_cell hB eH
  have nU : bU ≠ w.heap.size := by omega
  have nF : bF ≠ w.heap.size := by omega
  have nW : bW ≠ w.heap.size := by omega
  have nH : bH ≠ w.heap.size := by omega
  obtain ⟨m1, hm1⟩ : ∃ x, min (s.fw f) (s.uh u) = x := ⟨_, rfl⟩
  rw [hm1] at tL1 tS1
  have HM1 := Hid.mkI hm1
  obtain ⟨x1, hx1⟩ : ∃ x, s.ul u = x := ⟨_, rfl⟩
  obtain ⟨x2, hx2⟩ : ∃ x, s.fl f = x := ⟨_, rfl⟩
  obtain ⟨x3, hx3⟩ : ∃ x, s.uh u = x := ⟨_, rfl⟩
  obtain ⟨x4, hx4⟩ : ∃ x, s.fw f = x := ⟨_, rfl⟩
  rw [hx1] at e1 hd'
  rw [hx2] at e2 hd'
  rw [hx3] at e4 tL1
  rw [hx4] at e3 tL1
  clear hx1 hx2 hx3 hx4 hm1 eU eF eW eH hlU hlF hlW hlH lW hd
  go_enter Tryd.func21, Tryd.ntmps21
  go_wp2_with (first | (go_at_call 26; refine (tK _).mono ?_; clear tK; rintro e w' ⟨rfl, hw⟩; obtain rfl := hw.symm) | (go_at_call 26; refine (tU _).mono ?_; clear tU; rintro e w' ⟨rfl, hw⟩; obtain rfl := hw.symm) | (go_at_call 26; refine (tF _).mono ?_; clear tF; rintro e w' ⟨rfl, hw⟩; obtain rfl := hw.symm))
  obtain ⟨f1, hf1⟩ : ∃ x, updI (fun i => (s.fw i : Int)) f m1 = x := ⟨_, rfl⟩
  rw [hf1] at tS1
  have HF1 := Hid.mkI hf1
  clear hf1
  clear hW
  have hD : Desk w.heap.size W _ _ _ _ _ _ _ _ := ⟨b0, b1, b2, b3, g0, g1, g2, g3, a0, a1, a2, a3, r0, r1, r2, r3, q0, q1, q2, q3⟩
  go_quiet (fail)
  rename_i nq
  have hD2 := hD.drawn nq
  have hB2 := below_drawn hB nq
  have e3d : (W.drewN nq).cell? ⟨bW, oW + f, none⟩ = some (.int .i64 (x4 : Int)) := e3
  have e4d : (W.drewN nq).cell? ⟨bH, oH + u, none⟩ = some (.int .i64 (x3 : Int)) := e4
  obtain ⟨Wq, hWq⟩ : ∃ x, W.drewN nq = x := ⟨_, rfl⟩
  rw [hWq] at hD2 hB2 e3d e4d ⊢
  clear hWq hD hB hlt e1 e2 e3 e4 b0 b1 b2 b3 g0 g1 g2 g3 a0 a1 a2 a3 r0 r1 r2 r3 q0 q1 q2 q3 W
  obtain ⟨b0, b1, b2, b3, g0, g1, g2, g3, a0, a1, a2, a3, r0, r1, r2, r3, q0, q1, q2, q3⟩ := id hD2
  go_wp2
  refine wp_region_still_tail 17 (by kernel_rfl) (by kernel_rfl) ?_
  simp only [List.take_succ_cons, List.take_zero, List.drop_succ_cons, List.drop_zero]
  have hBd : Below w.heap.size w Wq.drew := hB2.drew
  have hDd := hD2.drew
  have e3f : Wq.drew.cell? ⟨bW, oW + f, none⟩ = some (.int .i64 (x4 : Int)) := e3d
  have e4f : Wq.drew.cell? ⟨bH, oH + u, none⟩ = some (.int .i64 (x3 : Int)) := e4d
  obtain ⟨Wd, hWd⟩ : ∃ x, Wq.drew = x := ⟨_, rfl⟩
  have hWd2 : { Wq with drawn := Wq.drawn + 1 } = Wd := hWd
  rw [hWd] at hBd hDd e3f e4f
  rw [hWd2]
  clear hWd hWd2 hD2 hB2 e3d e4d b0 b1 b2 b3 g0 g1 g2 g3 a0 a1 a2 a3 r0 r1 r2 r3 q0 q1 q2 q3 Wq
  obtain ⟨b0, b1, b2, b3, g0, g1, g2, g3, a0, a1, a2, a3, r0, r1, r2, r3, q0, q1, q2, q3⟩ := id hDd
  have hlt := hDd.lt
  repeat still_step
  still_call (tL1 _)
  refine wpStill_nil ?_
  go_wp2_with (go_at_call 29; refine (tS1 _ hBd hlt).mono ?_; clear tS1; rintro e w6 ⟨v6, rfl, hL6, hB6⟩; have hD6 := hDd.below hB6; clear b0 b1 b2 b3 g0 g1 g2 g3 a0 a1 a2 a3 r0 r1 r2 r3 q0 q1 q2 q3; obtain ⟨b0, b1, b2, b3, g0, g1, g2, g3, a0, a1, a2, a3, r0, r1, r2, r3, q0, q1, q2, q3⟩ := id hD6; obtain ⟨a6, cp6, rfl, -⟩ := id hL6; have hBg := hBd.trans (hB6.mono hBd.size))
  (try simp only [Exit.inBlock, Exit.then])
  have hN3 : w.heap.size < w.heap.size + 3 := by omega
  have hN2 : w.heap.size + 2 < w.heap.size + 3 := by omega
  have hBz := ((((hBg.setCell (p := ⟨w.heap.size, 2, none⟩) (Nat.le_refl _) (.slice a6 s.nf cp6)).setCell (p := ⟨w.heap.size + 2, 0, none⟩) (by simp) (.slice (some ⟨bU, oU, none⟩) s.nu cU)).setCell (p := ⟨w.heap.size + 2, 1, none⟩) (by simp) (.slice (some ⟨bF, oF, none⟩) s.nf cF)).setCell (p := ⟨w.heap.size + 2, 2, none⟩) (by simp) (.slice a6 s.nf cp6)).setCell (p := ⟨w.heap.size + 2, 3, none⟩) (by simp) (.slice (some ⟨bH, oH, none⟩) s.nu cH)
  have hLz := ((((hL6.putN (o := 2) hN3 (.slice a6 s.nf cp6)).putN (o := 0) hN2 (.slice (some ⟨bU, oU, none⟩) s.nu cU)).putN (o := 1) hN2 (.slice (some ⟨bF, oF, none⟩) s.nf cF)).putN (o := 2) hN2 (.slice a6 s.nf cp6)).putN (o := 3) hN2 (.slice (some ⟨bH, oH, none⟩) s.nu cH)
  refine bodyPost_ret (v := .tuple #[.agg #[.slice (some ⟨bU, oU, none⟩) s.nu cU, .slice (some ⟨bF, oF, none⟩) s.nf cF, .slice a6 s.nf cp6, .slice (some ⟨bH, oH, none⟩) s.nu cH], .int .i64 0]) ?_ rfl ⟨_, rfl, ⟨h.lu.below hBz, h.lf.below hBz, (hLz.weak (fun b _ hb => hP b (Nat.le_trans (Nat.le_add_right _ 3) hb))).like fun i _ => ?_, h.lh.below hBz⟩, hBz⟩
  · rw [results_cell_tmp rfl]
    go_simp
  · rw [← HF1.out, HM1.out, updI_cast]
/-- What any ask of the document's monitor comes to. -/
theorem refBib_any (P : Nat → Prop) (vU vF vW vH : Value) (s : BibSt) (k u f t : Int) (ok : BibOk s) (w : World) (hP : ∀ b, w.heap.size ≤ b → P b) (h : BRef P w vU vF vW vH s) :
    Calls Tryd.prog 21 #[.agg #[vU, vF, vW, vH], ask4 k u f t] w fun e w' => ∃ vU' vF' vW' vH', e = .returned (.tuple #[.agg #[vU', vF', vW', vH'], .int .i64 (askBib s k u f).1]) ∧ BRef P w' vU' vF' vW' vH' (askBib s k u f).2 ∧ Below w.heap.size w w' := by
  have same : ∀ c : Int, (Calls Tryd.prog 21 #[.agg #[vU, vF, vW, vH], ask4 k u f t] w fun e w' => e = .returned (.tuple #[.agg #[vU, vF, vW, vH], .int .i64 c]) ∧ Below w.heap.size w w') →
      Calls Tryd.prog 21 #[.agg #[vU, vF, vW, vH], ask4 k u f t] w fun e w' => ∃ vU' vF' vW' vH', e = .returned (.tuple #[.agg #[vU', vF', vW', vH'], .int .i64 c]) ∧ BRef P w' vU' vF' vW' vH' s ∧ Below w.heap.size w w' :=
    fun c hc => hc.mono fun e w' ⟨he, hB⟩ => ⟨_, _, _, _, he, ⟨h.lu.below hB, h.lf.below hB, h.lw.below hB, h.lh.below hB⟩, hB⟩
  unfold askBib
  split
  · rename_i hin
    have hin' := hin
    rw [Bool.and_eq_true, inB_iff, inB_iff] at hin'
    obtain ⟨⟨u0, u1⟩, f0, f1⟩ := hin'
    obtain ⟨u, rfl⟩ := Int.eq_ofNat_of_zero_le u0
    obtain ⟨f, rfl⟩ := Int.eq_ofNat_of_zero_le f0
    simp only [Int.toNat_natCast]
    split
    · rename_i hk
      subst hk
      exact (refBib_read P vU vF vW vH s u f t ok (by omega) (by omega) w hP h).mono fun e w' ⟨_, _, he, hr⟩ => ⟨_, _, _, _, he, hr⟩
    · rename_i hk0
      split
      · rename_i hk
        subst hk
        split
        · rename_i hd
          exact same 7 (refBib_no P vU vF vW vH s u f t ok (by omega) (by omega) hd w h)
        · rename_i hd
          exact (refBib_write P vU vF vW vH s u f t ok (by omega) (by omega) hd w hP h).mono fun e w' ⟨_, he, hr⟩ => ⟨_, _, _, _, he, hr⟩
      · rename_i hk1
        exact same 1 (refBib_out P vU vF vW vH s k u f t ok (by rw [show inQ k 0 1 = false from decide_eq_false (by omega), Bool.false_and]) w h)
  · rename_i hin
    exact same 1 (refBib_out P vU vF vW vH s k u f t ok (by rw [show (inB u s.nu && inB f s.nf) = false by simpa using hin, Bool.and_false]) w h)
end Go.Proofs.YteheaeihoameeaaDoor
