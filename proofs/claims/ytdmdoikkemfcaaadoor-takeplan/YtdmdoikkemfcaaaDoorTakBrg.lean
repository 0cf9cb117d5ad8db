/- The planner brings a right down a chain (bring), and the plan (Plan). -/
import Derived.WalkKit
import Derived.LoopTactic
import Derived.StillTailTactics
import Derived.Test.YtdmdoikkemfcaaaDoorTakBri
namespace Go.Proofs.YtdmdoikkemfcaaaDoor
open Go.RowKit
set_option maxRecDepth 100000

section
variable {X : Nat} {w w0 : World} {v : Value} {b0 off : Nat} {B O C : Nat → Nat} {g : Gr} {cp : Nat}
set_option maxHeartbeats 2000000 in
theorem bring_any (n0 : Nat) (h : Plnr X w (.slice (some ⟨b0, off, none⟩) g.n cp) [] n0 v) (hG0 : GrAt w0 b0 off B O C g) (ok : g.Ok) (hX : w0.heap.size ≤ X) (hB0 : Below X w0 w) (hn0 : n0 ≤ 20)
    (gb ccp D : Nat) (W : Nat → Nat) (hW : Own w0 gb (D + 1) W) (hlt : ∀ i, i ≤ D → W i < g.n) (hD : D ≤ 1048576) (r over : Nat) (ho : over < g.n) (h0 : W 0 ≠ over) :
    Calls Tryd.prog 29 #[.pointer (some ⟨X, 0, none⟩), .int .i64 r, .int .i64 over, .slice (some ⟨gb, 0, none⟩) (D + 1 : Nat) ccp] w (PlIs X w (.slice (some ⟨b0, off, none⟩) g.n cp) (bringL g r over W D n0) (bringN g over W D n0)) := by
  have hcell : ∀ w1 i, Below X w0 w1 → i ≤ D → w1.cell? ⟨gb, i, none⟩ = some (.int .i64 (W i : Nat)) := fun w1 i k hi => ((k.mono hX).cell (p := ⟨gb, i, none⟩) hW.lt).trans (hW.cell i (by omega))
  have HCe := Hid.mkI hcell
  clear hcell
  go_enter Tryd.func29, Tryd.ntmps29
  go_wp2
  go_loopw [8] (fun p wr => ∃ (i vt : Nat) (l : List Stp) (v : Value), i ≤ D ∧ p = .int .i64 i ∧ Plnr X wr (.slice (some ⟨b0, off, none⟩) g.n cp) l vt v ∧ l.length + 11 * i ≤ 11 * D ∧ vt + 3 * i ≤ n0 + 3 * D ∧ Hid (l ++ bringL g r over W i vt = bringL g r over W D n0 ∧ bringN g over W i vt = bringN g over W D n0) ∧ Below X w wr) (fun p _ => (intOf p).toNat)
  case atStart => exact ⟨D, n0, [], v, by omega, by simp, h, by simp, by omega, ⟨rfl, rfl⟩, Below.refl _ _⟩
  case round =>
    obtain ⟨i, vt, l, v, hi, rfl, hP, hb1, hb2, HF, hBr⟩ := hrel
    have hBw := hB0.trans hBr
    match i, hi, hP, hb1, hb2, HF with
    | 0, hi, hP, hb1, hb2, HF =>
      have HP := Hid.mkI hP
      clear hP
      go_wp2
      go_end0
      refine ⟨⟨_, rfl⟩, ⟨v, ?_⟩, hBr⟩
      obtain ⟨e1, e2⟩ := HF.out
      simp only [bringL, bringN, List.append_nil] at e1 e2
      rw [← e1, ← e2]; exact HP.out
    | 1, hi, hP, hb1, hb2, HF =>
      have d1 := HCe.out wr 1 hBw (by omega)
      have d0 := HCe.out wr 0 hBw (by omega)
      have hq : ((W 0 : Int) != (over : Int)) = true := by simpa using (show (W 0 : Int) ≠ over by omega)
      have t := fun w1 (k : Below wr.heap.size wr w1) => pass_any (hP.below k) hG0 ok hX (hBw.trans (k.mono (Nat.le_of_lt hP.lt))) (by omega) (by omega) r over (W 1) (W 0) (hlt 1 (by omega)) (hlt 0 (by omega))
      have p1 := passL_len g r over (W 1) (W 0) vt
      have p2 := passN_le g (W 1) (W 0)
      have hXr := Nat.le_of_lt hP.lt
      have HL : Hid (l ++ passL g r over (W 1) (W 0) vt ++ bringL g r over W 0 (vt + passN g (W 1) (W 0)) = bringL g r over W D n0 ∧ bringN g over W 0 (vt + passN g (W 1) (W 0)) = bringN g over W D n0) := by
        obtain ⟨e1, e2⟩ := HF.out
        exact ⟨by simpa [bringL] using e1, by simpa [bringN] using e2⟩
      clear hP HF
      obtain ⟨x1, hx1⟩ : ∃ x, W 1 = x := ⟨_, rfl⟩
      obtain ⟨x0, hx0⟩ : ∃ x, W 0 = x := ⟨_, rfl⟩
      rw [hx1] at d1 t p1 p2 HL
      rw [hx0] at d0 t p1 p2 HL hq
      have HX1 := Hid.mkI hx1
      have HX0 := Hid.mkI hx0
      clear hx1 hx0
      obtain ⟨i, hi1⟩ : ∃ i, 1 = i := ⟨_, rfl⟩
      obtain ⟨z, hz0⟩ : ∃ z, 0 = z := ⟨_, rfl⟩
      rw [hi1] at d1
      rw [hz0] at d0
      have s1 : wrap64 ((i : Int) - 1) = (z : Int) := by rw [IntWalk.wrap64_in _ ⟨by omega, by omega⟩]; omega
      have s2 : IntKind.i64.wrap ((i : Int) - 1) = (z : Int) := by rw [wraps62 _ (by omega) (by omega)]; omega
      have b1 : (i : Int) < (D : Int) + 1 := by omega
      have b2 : (z : Int) < (D : Int) + 1 := by omega
      have b3 : (0 : Int) < (i : Int) := by omega
      have HI := Hid.mkI hi1
      have HZ := Hid.mkI hz0
      rw [show ((1 : Nat) : Int) = (i : Int) by omega]
      clear hi1 hz0
      go_wp2
      refine wp_region_still_tail 0xc (by kernel_rfl) (by kernel_rfl) ?_
      simp only [List.take_succ_cons, List.take_zero, List.drop_succ_cons, List.drop_zero]
      obtain ⟨Wd, hWd⟩ : ∃ x, wr.drewN 1 = x := ⟨_, rfl⟩
      have hWd2 : { wr with drawn := wr.drawn + 1 } = Wd := hWd
      have hBd : Below wr.heap.size wr Wd := by rw [← hWd]; exact below_drawn (Below.refl _ _) 1
      have t := t Wd hBd
      have d1 := keep_cell hBd d1
      have d0 := keep_cell hBd d0
      rw [hWd2]
      clear hWd hWd2
      repeat still_step
      refine wpStill_nil ?_
      go_wp2_with fail
      refine t.mono ?_
      clear t d1 d0
      rintro e w2 ⟨⟨u, rfl⟩, ⟨v2, h2⟩, hB2⟩
      have HH := Hid.mkI h2
      clear h2
      go_wp2_with fail
      go_roundw
      case rel => exact ⟨0, vt + passN g x1 x0, l ++ passL g r over x1 x0 vt, v2, by omega, by rw [HZ.out], HH.out, by simp only [List.length_append]; omega, by omega, HL, (hBr.trans (hBd.mono hXr)).trans hB2⟩
      case measure => have := HI.out; have := HZ.out; simp [intOf]; omega
    | j + 2, hi, hP, hb1, hb2, HF =>
      have d2 := HCe.out wr (j + 2) hBw (by omega)
      have d1 := HCe.out wr (j + 1) hBw (by omega)
      have d0 := HCe.out wr j hBw (by omega)
      have hXr := Nat.le_of_lt hP.lt
      have k2 := hlt (j + 2) (by omega)
      have k1 := hlt (j + 1) (by omega)
      have k0 := hlt j (by omega)
      by_cases hq : W (j + 1) = over
      · have t := fun w1 (k : Below wr.heap.size wr w1) => passRound_any (hP.below k) hG0 ok hX (hBw.trans (k.mono hXr)) (by omega) (by omega) r over (W (j + 2)) (W j) ho k2 k0
        have p1 := roundL_len g r over (W (j + 2)) (W j) vt
        have p2 : roundN g over (W (j + 2)) (W j) ≤ 3 := by unfold roundN; have := passN_le g over (W j); have := passN_le g over (W (j + 2)); omega
        have HL : Hid (l ++ roundL g r over (W (j + 2)) (W j) vt ++ bringL g r over W j (vt + roundN g over (W (j + 2)) (W j)) = bringL g r over W D n0 ∧ bringN g over W j (vt + roundN g over (W (j + 2)) (W j)) = bringN g over W D n0) := by
          obtain ⟨e1, e2⟩ := HF.out
          rw [bringL, if_pos hq] at e1
          rw [bringN, if_pos hq] at e2
          exact ⟨by rw [List.append_assoc]; exact e1, e2⟩
        have hqb : ((W (j + 1) : Int) != (over : Int)) = false := by simpa using (show (W (j + 1) : Int) = over by omega)
        clear hP HF hq
        obtain ⟨x2, hx2⟩ : ∃ x, W (j + 2) = x := ⟨_, rfl⟩
        obtain ⟨x1, hx1⟩ : ∃ x, W (j + 1) = x := ⟨_, rfl⟩
        obtain ⟨x0, hx0⟩ : ∃ x, W j = x := ⟨_, rfl⟩
        rw [hx2] at d2 t p1 p2 HL
        rw [hx1] at d1 hqb
        rw [hx0] at d0 t p1 p2 HL
        clear hx2 hx1 hx0
        obtain ⟨i, hi2⟩ : ∃ i, j + 2 = i := ⟨_, rfl⟩
        obtain ⟨i1, hi1⟩ : ∃ i, j + 1 = i := ⟨_, rfl⟩
        rw [hi2] at d2
        rw [hi1] at d1
        have s1 : wrap64 ((i : Int) - 1) = (i1 : Int) := by rw [IntWalk.wrap64_in _ ⟨by omega, by omega⟩]; omega
        have s2 : IntKind.i64.wrap ((i : Int) - 1) = (i1 : Int) := by rw [wraps62 _ (by omega) (by omega)]; omega
        have s3 : wrap64 ((i : Int) - 2) = (j : Int) := by rw [IntWalk.wrap64_in _ ⟨by omega, by omega⟩]; omega
        have s4 : IntKind.i64.wrap ((i : Int) - 2) = (j : Int) := by rw [wraps62 _ (by omega) (by omega)]; omega
        have s5 : wrap64 ((i1 : Int) - 1) = (j : Int) := by rw [IntWalk.wrap64_in _ ⟨by omega, by omega⟩]; omega
        have b1 : (i : Int) < (D : Int) + 1 := by omega
        have b2 : (i1 : Int) < (D : Int) + 1 := by omega
        have b4 : (j : Int) < (D : Int) + 1 := by omega
        have b3 : (0 : Int) < (i : Int) := by omega
        have HI := Hid.mkI hi2
        have HI1 := Hid.mkI hi1
        rw [show ((j + 2 : Nat) : Int) = (i : Int) by omega]
        clear hi1 hi2
        go_wp2
        refine wp_region_still_tail 0xc (by kernel_rfl) (by kernel_rfl) ?_
        simp only [List.take_succ_cons, List.take_zero, List.drop_succ_cons, List.drop_zero]
        obtain ⟨Wd, hWd⟩ : ∃ x, wr.drewN 1 = x := ⟨_, rfl⟩
        have hWd2 : { wr with drawn := wr.drawn + 1 } = Wd := hWd
        have hBd : Below wr.heap.size wr Wd := by rw [← hWd]; exact below_drawn (Below.refl _ _) 1
        have t := t Wd hBd
        have d2 := keep_cell hBd d2
        have d1 := keep_cell hBd d1
        have d0 := keep_cell hBd d0
        rw [hWd2]
        clear hWd hWd2
        repeat still_step
        refine wpStill_nil ?_
        go_wp2_with fail
        refine t.mono ?_
        clear t d2 d1 d0
        rintro e w2 ⟨⟨u, rfl⟩, ⟨v2, h2⟩, hB2⟩
        have HH := Hid.mkI h2
        clear h2
        go_wp2_with fail
        go_roundw
        case rel => exact ⟨j, vt + roundN g over x2 x0, l ++ roundL g r over x2 x0 vt, v2, by omega, by first | rfl | (rw [HI1.out]) | (have e1 := HI1.out; have e2 := HI.out; congr 1; omega), HH.out, by simp only [List.length_append]; omega, by omega, HL, (hBr.trans (hBd.mono hXr)).trans hB2⟩
        case measure => have := HI.out; have := HI1.out; simp [intOf]; omega
      · have t := fun w1 (k : Below wr.heap.size wr w1) => pass_any (hP.below k) hG0 ok hX (hBw.trans (k.mono hXr)) (by omega) (by omega) r over (W (j + 2)) (W (j + 1)) k2 k1
        have p1 := passL_len g r over (W (j + 2)) (W (j + 1)) vt
        have p2 := passN_le g (W (j + 2)) (W (j + 1))
        have HL : Hid (l ++ passL g r over (W (j + 2)) (W (j + 1)) vt ++ bringL g r over W (j + 1) (vt + passN g (W (j + 2)) (W (j + 1))) = bringL g r over W D n0 ∧ bringN g over W (j + 1) (vt + passN g (W (j + 2)) (W (j + 1))) = bringN g over W D n0) := by
          obtain ⟨e1, e2⟩ := HF.out
          rw [bringL, if_neg hq] at e1
          rw [bringN, if_neg hq] at e2
          exact ⟨by rw [List.append_assoc]; exact e1, e2⟩
        have hqb : ((W (j + 1) : Int) != (over : Int)) = true := by simpa using (show (W (j + 1) : Int) ≠ over by omega)
        clear hP HF hq d0
        obtain ⟨x2, hx2⟩ : ∃ x, W (j + 2) = x := ⟨_, rfl⟩
        obtain ⟨x1, hx1⟩ : ∃ x, W (j + 1) = x := ⟨_, rfl⟩
        rw [hx2] at d2 t p1 p2 HL
        rw [hx1] at d1 hqb t p1 p2 HL
        clear hx2 hx1
        obtain ⟨i, hi2⟩ : ∃ i, j + 2 = i := ⟨_, rfl⟩
        obtain ⟨i1, hi1⟩ : ∃ i, j + 1 = i := ⟨_, rfl⟩
        rw [hi2] at d2
        rw [hi1] at d1
        have s1 : wrap64 ((i : Int) - 1) = (i1 : Int) := by rw [IntWalk.wrap64_in _ ⟨by omega, by omega⟩]; omega
        have s2 : IntKind.i64.wrap ((i : Int) - 1) = (i1 : Int) := by rw [wraps62 _ (by omega) (by omega)]; omega
        have b1 : (i : Int) < (D : Int) + 1 := by omega
        have b2 : (i1 : Int) < (D : Int) + 1 := by omega
        have b3 : (0 : Int) < (i : Int) := by omega
        have HI := Hid.mkI hi2
        have HI1 := Hid.mkI hi1
        rw [show ((j + 2 : Nat) : Int) = (i : Int) by omega]
        clear hi1 hi2
        go_wp2
        refine wp_region_still_tail 0xc (by kernel_rfl) (by kernel_rfl) ?_
        simp only [List.take_succ_cons, List.take_zero, List.drop_succ_cons, List.drop_zero]
        obtain ⟨Wd, hWd⟩ : ∃ x, wr.drewN 1 = x := ⟨_, rfl⟩
        have hWd2 : { wr with drawn := wr.drawn + 1 } = Wd := hWd
        have hBd : Below wr.heap.size wr Wd := by rw [← hWd]; exact below_drawn (Below.refl _ _) 1
        have t := t Wd hBd
        have d2 := keep_cell hBd d2
        have d1 := keep_cell hBd d1
        rw [hWd2]
        clear hWd hWd2
        repeat still_step
        refine wpStill_nil ?_
        go_wp2_with fail
        refine t.mono ?_
        clear t d2 d1
        rintro e w2 ⟨⟨u, rfl⟩, ⟨v2, h2⟩, hB2⟩
        have HH := Hid.mkI h2
        clear h2
        go_wp2_with fail
        go_roundw
        case rel => exact ⟨j + 1, vt + passN g x2 x1, l ++ passL g r over x2 x1 vt, v2, by omega, by first | rfl | (rw [HI1.out]) | (have e1 := HI1.out; have e2 := HI.out; congr 1; omega), HH.out, by simp only [List.length_append]; omega, by omega, HL, (hBr.trans (hBd.mono hXr)).trans hB2⟩
        case measure => have := HI.out; have := HI1.out; simp [intOf]; omega
end
end Go.Proofs.YtdmdoikkemfcaaaDoor
