/- What the document's monitor of levels answers where a user reads, or writes (AskBiba). -/
import Derived.WalkKit
import Derived.LoopTactic
import Derived.Laws.ResultCell
import Derived.Deep.Cut
import Derived.Deep.QuietTactic
import Derived.BigQuiet
import Derived.StillTailTactics
import Derived.Test.YteheaeihoameeaaDoorBibRef
namespace Go.Proofs.YteheaeihoameeaaDoor
open Go.RowKit
set_option maxRecDepth 100000

section
variable {N : Nat} {W W' : World} {v0 v1 v2 v3 : Value} {k u g t : Int}
theorem Desk.lt (h : Desk N W v0 v1 v2 v3 k u g t) : N + 2 < W.heap.size := old_of_cell h.r0
theorem Desk.below (h : Desk N W v0 v1 v2 v3 k u g t) (b : Below W.heap.size W W') : Desk N W' v0 v1 v2 v3 k u g t := by
  have c := fun o => b.cell (p := ⟨N, o, none⟩) (by have := h.lt; show N < _; omega)
  have c1 := fun o => b.cell (p := ⟨N + 1, o, none⟩) (by have := h.lt; show N + 1 < _; omega)
  have c2 := fun o => b.cell (p := ⟨N + 2, o, none⟩) h.lt
  have z := fun o => b.frozen (p := ⟨N, o, none⟩) (by have := h.lt; show N < _; omega)
  have z2 := fun o => b.frozen (p := ⟨N + 2, o, none⟩) h.lt
  exact ⟨(c _).trans h.b0, (c _).trans h.b1, (c _).trans h.b2, (c _).trans h.b3, (z _).trans h.g0, (z _).trans h.g1, (z _).trans h.g2, (z _).trans h.g3, (c1 _).trans h.a0, (c1 _).trans h.a1, (c1 _).trans h.a2, (c1 _).trans h.a3,
    (c2 _).trans h.r0, (c2 _).trans h.r1, (c2 _).trans h.r2, (c2 _).trans h.r3, (z2 _).trans h.q0, (z2 _).trans h.q1, (z2 _).trans h.q2, (z2 _).trans h.q3⟩
theorem Desk.drew (h : Desk N W v0 v1 v2 v3 k u g t) : Desk N W.drew v0 v1 v2 v3 k u g t := ⟨h.b0, h.b1, h.b2, h.b3, h.g0, h.g1, h.g2, h.g3, h.a0, h.a1, h.a2, h.a3, h.r0, h.r1, h.r2, h.r3, h.q0, h.q1, h.q2, h.q3⟩
theorem Desk.put0 (h : Desk N W v0 v1 v2 v3 k u g t) (v : Value) : Desk N (W.setCell ⟨N, 0, none⟩ v) v v1 v2 v3 k u g t :=
  ⟨World.cell?_setCell_same' _ _ _ (by rw [h.b0]; rfl), (cell_far (by omega)).trans h.b1, (cell_far (by omega)).trans h.b2, (cell_far (by omega)).trans h.b3, (World.frozen?_setCell _ _ _ _).trans h.g0, (World.frozen?_setCell _ _ _ _).trans h.g1, (World.frozen?_setCell _ _ _ _).trans h.g2, (World.frozen?_setCell _ _ _ _).trans h.g3,
    (cell_far (by omega)).trans h.a0, (cell_far (by omega)).trans h.a1, (cell_far (by omega)).trans h.a2, (cell_far (by omega)).trans h.a3, (cell_far (by omega)).trans h.r0, (cell_far (by omega)).trans h.r1, (cell_far (by omega)).trans h.r2, (cell_far (by omega)).trans h.r3,
    (World.frozen?_setCell _ _ _ _).trans h.q0, (World.frozen?_setCell _ _ _ _).trans h.q1, (World.frozen?_setCell _ _ _ _).trans h.q2, (World.frozen?_setCell _ _ _ _).trans h.q3⟩
theorem Desk.put2 (h : Desk N W v0 v1 v2 v3 k u g t) (v : Value) : Desk N (W.setCell ⟨N, 2, none⟩ v) v0 v1 v v3 k u g t :=
  ⟨(cell_far (by omega)).trans h.b0, (cell_far (by omega)).trans h.b1, World.cell?_setCell_same' _ _ _ (by rw [h.b2]; rfl), (cell_far (by omega)).trans h.b3, (World.frozen?_setCell _ _ _ _).trans h.g0, (World.frozen?_setCell _ _ _ _).trans h.g1, (World.frozen?_setCell _ _ _ _).trans h.g2, (World.frozen?_setCell _ _ _ _).trans h.g3,
    (cell_far (by omega)).trans h.a0, (cell_far (by omega)).trans h.a1, (cell_far (by omega)).trans h.a2, (cell_far (by omega)).trans h.a3, (cell_far (by omega)).trans h.r0, (cell_far (by omega)).trans h.r1, (cell_far (by omega)).trans h.r2, (cell_far (by omega)).trans h.r3,
    (World.frozen?_setCell _ _ _ _).trans h.q0, (World.frozen?_setCell _ _ _ _).trans h.q1, (World.frozen?_setCell _ _ _ _).trans h.q2, (World.frozen?_setCell _ _ _ _).trans h.q3⟩
theorem Desk.put3 (h : Desk N W v0 v1 v2 v3 k u g t) (v : Value) : Desk N (W.setCell ⟨N, 3, none⟩ v) v0 v1 v2 v k u g t :=
  ⟨(cell_far (by omega)).trans h.b0, (cell_far (by omega)).trans h.b1, (cell_far (by omega)).trans h.b2, World.cell?_setCell_same' _ _ _ (by rw [h.b3]; rfl), (World.frozen?_setCell _ _ _ _).trans h.g0, (World.frozen?_setCell _ _ _ _).trans h.g1, (World.frozen?_setCell _ _ _ _).trans h.g2, (World.frozen?_setCell _ _ _ _).trans h.g3,
    (cell_far (by omega)).trans h.a0, (cell_far (by omega)).trans h.a1, (cell_far (by omega)).trans h.a2, (cell_far (by omega)).trans h.a3, (cell_far (by omega)).trans h.r0, (cell_far (by omega)).trans h.r1, (cell_far (by omega)).trans h.r2, (cell_far (by omega)).trans h.r3,
    (World.frozen?_setCell _ _ _ _).trans h.q0, (World.frozen?_setCell _ _ _ _).trans h.q1, (World.frozen?_setCell _ _ _ _).trans h.q2, (World.frozen?_setCell _ _ _ _).trans h.q3⟩
end
set_option maxHeartbeats 8000000 in
theorem refBib_read (P : Nat → Prop) (vU vF vW vH : Value) (s : BibSt) (u f : Nat) (t : Int) (ok : BibOk s) (hu : u < s.nu) (hf : f < s.nf) (w : World) (hP : ∀ b, w.heap.size ≤ b → P b) (h : BRef P w vU vF vW vH s) :
    Calls Tryd.prog 21 #[.agg #[vU, vF, vW, vH], ask4 0 u f t] w fun e w' => ∃ vU' vH', e = .returned (.tuple #[.agg #[vU', vF, vW, vH'], .int .i64 0]) ∧ BRef P w' vU' vF vW vH' { s with ul := upd s.ul u (min (s.ul u) (s.fl f)), uh := upd s.uh u (min (s.uh u) (s.fw f)) } ∧ Below w.heap.size w w' := by
  have lU := h.lu.lst
  have lH := h.lh.lst
  obtain ⟨bU, oU, cU, rfl, hlU, hcU⟩ := h.lu.some (by omega)
  obtain ⟨bF, oF, cF, rfl, hlF, hcF⟩ := h.lf.some (by omega)
  obtain ⟨bW, oW, cW, rfl, hlW, hcW⟩ := h.lw.some (by omega)
  obtain ⟨bH, oH, cH, rfl, hlH, hcH⟩ := h.lh.some (by omega)
  have eU := hcU u hu
  have eF := hcF f hf
  have eW := hcW f hf
  have eH := hcH u hu
  clear hcU hcF hcW hcH
  have hnu := ok.nu
  have hnf := ok.nf
  have hnu' : (s.nu : Int) ≤ 8 := by omega
  have hnf' : (s.nf : Int) ≤ 8 := by omega
  have hui : (u : Int) < (s.nu : Int) := by omega
  have hfi : (f : Int) < (s.nf : Int) := by omega
  have tU := fun W => refIn_any u 0 ((s.nu : Int) - 1) W
  have tF := fun W => refIn_any f 0 ((s.nf : Int) - 1) W
  have tK := fun W => refIn_any 0 0 1 W
  rw [(inQ_iff _ _ _).2 (by omega)] at tU
  rw [(inQ_iff _ _ _).2 (by omega)] at tF
  rw [(inQ_iff _ _ _).2 (by omega)] at tK
  have tL1 := fun W => refLess_any (s.ul u) (s.fl f) W
  have tL2 := fun W => refLess_any (s.uh u) (s.fw f) W
  have tS1 := fun W (hW : Below w.heap.size w W) (hX : w.heap.size + 3 ≤ W.heap.size) => set_any (fun b => w.heap.size + 3 ≤ b) _ _ _ (u : Int) ((min (s.ul u) (s.fl f) : Nat) : Int) (by omega) W (lU.below hW) (fun b hb => Nat.le_trans hX hb)
  have tS2 := fun W (hW : Below w.heap.size w W) (hX : w.heap.size + 3 ≤ W.heap.size) => set_any (fun b => w.heap.size + 3 ≤ b) _ _ _ (u : Int) ((min (s.uh u) (s.fw f) : Nat) : Int) (by omega) W (lH.below hW) (fun b hb => Nat.le_trans hX hb)
  obtain ⟨W, hW⟩ : ∃ W, ((w.alloc (.cells #[.slice (some ⟨bU, oU, none⟩) s.nu cU, .slice (some ⟨bF, oF, none⟩) s.nf cF, .slice (some ⟨bW, oW, none⟩) s.nf cW, .slice (some ⟨bH, oH, none⟩) s.nu cH] 48)).alloc (.cells #[.int .i64 0, .int .i64 (u : Int), .int .i64 (f : Int), .int .i64 t] 37)).alloc (.cells #[.slice none 0 0, .slice none 0 0, .slice none 0 0, .slice none 0 0] 48) = W := ⟨_, rfl⟩
  obtain ⟨⟨b0, b1, b2, b3, g0, g1, g2, g3, a0, a1, a2, a3, r0, r1, r2, r3, q0, q1, q2, q3⟩, hB, hlt⟩ := desk_of _ _ _ _ _ _ _ _ _ _ _ _ hW
  have e1 := keep_cell hB eU
  have e2 := keep_cell hB eF
  have e3 := keep_cell hB eW
  have e4 := keep_cell hB eH
  have nU : bU ≠ w.heap.size := by omega
  have nF : bF ≠ w.heap.size := by omega
  have nW : bW ≠ w.heap.size := by omega
  have nH : bH ≠ w.heap.size := by omega
  obtain ⟨m1, hm1⟩ : ∃ x, min (s.ul u) (s.fl f) = x := ⟨_, rfl⟩
  obtain ⟨m2, hm2⟩ : ∃ x, min (s.uh u) (s.fw f) = x := ⟨_, rfl⟩
  rw [hm1] at tL1 tS1
  rw [hm2] at tL2 tS2
  have HM1 := Hid.mkI hm1
  have HM2 := Hid.mkI hm2
  obtain ⟨x1, hx1⟩ : ∃ x, s.ul u = x := ⟨_, rfl⟩
  obtain ⟨x2, hx2⟩ : ∃ x, s.fl f = x := ⟨_, rfl⟩
  obtain ⟨x3, hx3⟩ : ∃ x, s.uh u = x := ⟨_, rfl⟩
  obtain ⟨x4, hx4⟩ : ∃ x, s.fw f = x := ⟨_, rfl⟩
  rw [hx1] at e1 tL1
  rw [hx2] at e2 tL1
  rw [hx3] at e4 tL2
  rw [hx4] at e3 tL2
  clear hx1 hx2 hx3 hx4 hm1 hm2 eU eF eW eH hlU hlF hlW hlH lU lH
  go_enter Tryd.func21, Tryd.ntmps21
  go_wp2_with (first | (go_at_call 26; refine (tK _).mono ?_; clear tK; rintro e w' ⟨rfl, hw⟩; obtain rfl := hw.symm) | (go_at_call 26; refine (tU _).mono ?_; clear tU; rintro e w' ⟨rfl, hw⟩; obtain rfl := hw.symm) | (go_at_call 26; refine (tF _).mono ?_; clear tF; rintro e w' ⟨rfl, hw⟩; obtain rfl := hw.symm))
  clear hW
  have hD : Desk w.heap.size W _ _ _ _ _ _ _ _ := ⟨b0, b1, b2, b3, g0, g1, g2, g3, a0, a1, a2, a3, r0, r1, r2, r3, q0, q1, q2, q3⟩
  obtain ⟨f1, hf1⟩ : ∃ x, updI (fun i => (s.ul i : Int)) u m1 = x := ⟨_, rfl⟩
  obtain ⟨f2, hf2⟩ : ∃ x, updI (fun i => (s.uh i : Int)) u m2 = x := ⟨_, rfl⟩
  rw [hf1] at tS1
  rw [hf2] at tS2
  have HF1 := Hid.mkI hf1
  have HF2 := Hid.mkI hf2
  clear hf1 hf2
  refine wp_region_still_tail 17 (by kernel_rfl) (by kernel_rfl) ?_
  simp only [List.take_succ_cons, List.take_zero, List.drop_succ_cons, List.drop_zero]
  have hBd : Below w.heap.size w W.drew := hB.drew
  have hDd := hD.drew
  have e1d : W.drew.cell? ⟨bU, oU + u, none⟩ = some (.int .i64 (x1 : Int)) := e1
  have e2d : W.drew.cell? ⟨bF, oF + f, none⟩ = some (.int .i64 (x2 : Int)) := e2
  have e3d : W.drew.cell? ⟨bW, oW + f, none⟩ = some (.int .i64 (x4 : Int)) := e3
  have e4d : W.drew.cell? ⟨bH, oH + u, none⟩ = some (.int .i64 (x3 : Int)) := e4
  obtain ⟨Wd, hWd⟩ : ∃ x, W.drew = x := ⟨_, rfl⟩
  have hWd2 : { W with drawn := W.drawn + 1 } = Wd := hWd
  rw [hWd] at hBd hDd e1d e2d e3d e4d
  rw [hWd2]
  clear hWd hWd2 hD hB hlt e1 e2 e3 e4 b0 b1 b2 b3 g0 g1 g2 g3 a0 a1 a2 a3 r0 r1 r2 r3 q0 q1 q2 q3 W
  obtain ⟨b0, b1, b2, b3, g0, g1, g2, g3, a0, a1, a2, a3, r0, r1, r2, r3, q0, q1, q2, q3⟩ := id hDd
  have hlt := hDd.lt
  repeat still_step
  still_call (tL1 _)
  refine wpStill_nil ?_
  go_wp2_with (go_at_call 29; refine (tS1 _ hBd hlt).mono ?_; clear tS1; rintro e w4 ⟨v4, rfl, hL4, hB4⟩; have hD4 := hDd.below hB4; clear b0 b1 b2 b3 g0 g1 g2 g3 a0 a1 a2 a3 r0 r1 r2 r3 q0 q1 q2 q3; obtain ⟨b0, b1, b2, b3, g0, g1, g2, g3, a0, a1, a2, a3, r0, r1, r2, r3, q0, q1, q2, q3⟩ := id hD4; obtain ⟨a4, cp4, rfl, -⟩ := id hL4; have hBe := hBd.trans (hB4.mono hBd.size); have e3e := keep_cell hB4 e3d; have e4e := keep_cell hB4 e4d)
  refine wp_region_still_tail 17 (by kernel_rfl) (by kernel_rfl) ?_
  simp only [List.take_succ_cons, List.take_zero, List.drop_succ_cons, List.drop_zero]
  have hD5 := (hD4.put0 (.slice a4 s.nu cp4)).drew
  have hB5 := (hBe.setCell (p := ⟨w.heap.size, 0, none⟩) (Nat.le_refl _) (.slice a4 s.nu cp4)).drew
  have hL5 := (hL4.putN (B := w.heap.size) (o := 0) (by omega) (.slice a4 s.nu cp4)).drew
  have e3f : (w4.setCell ⟨w.heap.size, 0, none⟩ (.slice a4 s.nu cp4)).drew.cell? ⟨bW, oW + f, none⟩ = some (.int .i64 (x4 : Int)) := (cell_far (by omega)).trans e3e
  have e4f : (w4.setCell ⟨w.heap.size, 0, none⟩ (.slice a4 s.nu cp4)).drew.cell? ⟨bH, oH + u, none⟩ = some (.int .i64 (x3 : Int)) := (cell_far (by omega)).trans e4e
  obtain ⟨W5, hW5⟩ : ∃ x, (w4.setCell ⟨w.heap.size, 0, none⟩ (.slice a4 s.nu cp4)).drew = x := ⟨_, rfl⟩
  have hW52 : { (w4.setCell ⟨w.heap.size, 0, none⟩ (.slice a4 s.nu cp4)) with drawn := (w4.setCell ⟨w.heap.size, 0, none⟩ (.slice a4 s.nu cp4)).drawn + 1 } = W5 := hW5
  rw [hW5] at hD5 hB5 hL5 e3f e4f
  rw [hW52]
  clear hW5 hW52 hD4 hBe hL4 hB4 e1d e2d e3d e4d e3e e4e hBd hDd hlt b0 b1 b2 b3 g0 g1 g2 g3 a0 a1 a2 a3 r0 r1 r2 r3 q0 q1 q2 q3 w4 Wd tL1
  obtain ⟨b0, b1, b2, b3, g0, g1, g2, g3, a0, a1, a2, a3, r0, r1, r2, r3, q0, q1, q2, q3⟩ := id hD5
  have hlt := hD5.lt
  repeat still_step
  still_call (tL2 _)
  refine wpStill_nil ?_
  go_wp2_with (go_at_call 29; refine (tS2 _ hB5 hlt).mono ?_; clear tS2; rintro e w6 ⟨v6, rfl, hL6, hB6⟩; have hD6 := hD5.below hB6; clear b0 b1 b2 b3 g0 g1 g2 g3 a0 a1 a2 a3 r0 r1 r2 r3 q0 q1 q2 q3; obtain ⟨b0, b1, b2, b3, g0, g1, g2, g3, a0, a1, a2, a3, r0, r1, r2, r3, q0, q1, q2, q3⟩ := id hD6; obtain ⟨a6, cp6, rfl, -⟩ := id hL6; have hBg := hB5.trans (hB6.mono hB5.size); have hL5g := hL5.below hB6)
  (try simp only [Exit.inBlock, Exit.then])
  have hN3 : w.heap.size < w.heap.size + 3 := by omega
  have hN2 : w.heap.size + 2 < w.heap.size + 3 := by omega
  have hBz := ((((hBg.setCell (p := ⟨w.heap.size, 3, none⟩) (Nat.le_refl _) (.slice a6 s.nu cp6)).setCell (p := ⟨w.heap.size + 2, 0, none⟩) (by simp) (.slice a4 s.nu cp4)).setCell (p := ⟨w.heap.size + 2, 1, none⟩) (by simp) (.slice (some ⟨bF, oF, none⟩) s.nf cF)).setCell (p := ⟨w.heap.size + 2, 2, none⟩) (by simp) (.slice (some ⟨bW, oW, none⟩) s.nf cW)).setCell (p := ⟨w.heap.size + 2, 3, none⟩) (by simp) (.slice a6 s.nu cp6)
  have hLz := fun {fz : Nat → Int} {vz : Value} (hz : Lstp (fun b => w.heap.size + 3 ≤ b) w6 vz s.nu fz) => ((((hz.putN (o := 3) hN3 (.slice a6 s.nu cp6)).putN (o := 0) hN2 (.slice a4 s.nu cp4)).putN (o := 1) hN2 (.slice (some ⟨bF, oF, none⟩) s.nf cF)).putN (o := 2) hN2 (.slice (some ⟨bW, oW, none⟩) s.nf cW)).putN (o := 3) hN2 (.slice a6 s.nu cp6)
  refine bodyPost_ret (v := .tuple #[.agg #[.slice a4 s.nu cp4, .slice (some ⟨bF, oF, none⟩) s.nf cF, .slice (some ⟨bW, oW, none⟩) s.nf cW, .slice a6 s.nu cp6], .int .i64 0]) ?_ rfl ⟨_, _, rfl, ⟨((hLz hL5g).weak (fun b _ hb => hP b (Nat.le_trans (Nat.le_add_right _ 3) hb))).like fun i _ => ?_, h.lf.below hBz, h.lw.below hBz, ((hLz hL6).weak (fun b _ hb => hP b (Nat.le_trans (Nat.le_add_right _ 3) hb))).like fun i _ => ?_⟩, hBz⟩
  · rw [results_cell_tmp rfl]
    go_simp
  · rw [← HF1.out, HM1.out, updI_cast]
  · rw [← HF2.out, HM2.out, updI_cast]
end Go.Proofs.YteheaeihoameeaaDoor
