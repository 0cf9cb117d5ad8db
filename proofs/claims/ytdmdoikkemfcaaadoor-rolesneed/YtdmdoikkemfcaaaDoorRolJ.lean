/- The walk of the law RolesNeed. -/
import Derived.WalkKit
import Derived.LoopTactic
import Derived.Test.YtdmdoikkemfcaaaDoorRolI
namespace Go.Proofs.YtdmdoikkemfcaaaDoor
open Go.RowKit
set_option maxRecDepth 100000

set_option maxHeartbeats 4000000 in
theorem rolesNeed_any (aU aA aM : Option Addr) (cU cA cM : Nat) (R : Rol) (user want other : Int) (w : World) (hA : AtRol w aU aA aM R) (hT : Tab w) :
    Calls Tryd.prog 8 #[rolV aU aA aM cU cA cM R, .int .i64 user, .int .i64 want, .int .i64 other] w fun e w' => e = .returned (.bool true) ∧ Below w.heap.size w w' := by
  obtain ⟨w1, hw1⟩ : ∃ w1, w.alloc (.cells #[.slice aU R.mu cU, .slice aA R.m cA, .slice aM R.mm cM, .int .i64 R.few, .int .i64 R.most] 39) = w1 := ⟨_, rfl⟩
  have hB0 : Below w.heap.size w w1 := by rw [← hw1]; exact (Below.refl _ w).alloc (Nat.le_refl _) _
  have hx : Box5 w1 w.heap.size (.slice aU R.mu cU) (.slice aA R.m cA) (.slice aM R.mm cM) (.int .i64 R.few) (.int .i64 R.most) := by rw [← hw1]; exact Box5.new _ _ _ _ _ _ _
  have hA1 := hA.below hB0
  have hT1 := hT.below hB0 hT.size
  have t0 := rolesFact_any w1 hT1
  have t1 := fun W (hb : Below w1.heap.size w1 W) => rneed_any aU aA aM cU cA cM R user want W (hA1.below hb) (hT1.below hb hT1.size)
  have HX := Hid.mkI hx
  by_cases hc : R.needC user want = 0
  · obtain ⟨hk, u, k, rfl, rfl, hu, hk10, hq⟩ := needC_zero hc
    have hfew := need_few hk hA1.la hq
    have hall := hk.has_lt hA1.la (R.own u)
    have h8 := pow8 hk.m8
    have hnN : R.needN u k = R.need u k := by unfold Rol.needN; rw [if_pos hc, Int.toNat_natCast, Int.toNat_natCast]
    rw [hc, hnN, errV_zero] at t1
    have t2 := fun W (hb : Below w1.heap.size w1 W) => rhas_any aU aA aM cU cA cM R u W (hA1.below hb) (hT1.below hb hT1.size)
    rw [Rol.hasN_in hk hu, Rol.hasC_in hk hu, errV_zero] at t2
    have hokn := hfew.1
    unfold Rol.okB at hokn
    rw [Bool.and_eq_true] at hokn
    have hnl : R.need u k < 2 ^ R.m := Nat.lt_of_le_of_lt (sub_le hokn.1) hall
    have tM := fun n (hn : n < 2 ^ R.m) B W (hc : W.cell? ⟨B, 0, none⟩ = some (.int .i64 (n : Int))) (hb : Below w1.heap.size w1 W) => rmay_any (some ⟨B, 0, none⟩) aA aM 1 cA cM (R.one n) 0 W (one_at hc (hA1.ab.below hb) (hA1.ma.below hb) hA1.la hA1.lm) (hT1.below hb hT1.size)
    have HOK := Hid.mkI hk
    have HF := Hid.mkI hfew
    have tM' : ∀ n, n < 2 ^ R.m → ∀ B W, W.cell? ⟨B, 0, none⟩ = some (.int .i64 (n : Int)) → Below w1.heap.size w1 W → Calls Tryd.prog 20 #[.agg #[.slice (some ⟨B, 0, none⟩) 1 1, .slice aA R.m cA, .slice aM R.mm cM, .int .i64 0, .int .i64 8], .int .i64 0] W fun e w' => e = .returned (.tuple #[.int .i64 (R.tasks n : Nat), .nilIface]) ∧ Below W.heap.size W w' := fun n hn B W hc hb => by
      have := tM n hn B W hc hb
      rw [Rol.one_may hk hn, Rol.one_hasC hk hn, errV_zero] at this
      exact this
    have HTl : Hid (∀ s, R.tasks s < 1024) := fun s => hk.tasks_lt s
    obtain ⟨all, hae⟩ : ∃ x, R.has (R.own u) = x := ⟨_, rfl⟩
    rw [hae] at t2 hall hokn hfew HF
    obtain ⟨n, hne⟩ : ∃ x, R.need u k = x := ⟨_, rfl⟩
    rw [hne] at t1 hokn hnl hfew HF
    have tN := many_any n (by omega)
    have tW1 := within_any n all (by omega) (by omega)
    rw [hokn.1] at tW1
    have tW2 := within_any k (R.tasks n) (by omega) (by have := HTl.out n; omega)
    rw [hokn.2] at tW2
    have tP := fun W => pow2_any R.m hk.n12 W
    obtain ⟨p, hpe⟩ : ∃ p, 2 ^ R.m = p := ⟨_, rfl⟩
    have hx0 : (0 : Int) ≤ (n : Int) := by omega
    have hx1 : (n : Int) ≤ 255 := by omega
    have hx2 : (0 : Int) ≤ (all : Int) := by omega
    have hx3 : (all : Int) ≤ 255 := by omega
    have tMn := tM' n hnl
    obtain ⟨xn, hxn⟩ : ∃ x, R.tasks n = x := ⟨_, rfl⟩
    rw [hxn] at tMn tW2
    have hx4 : (0 : Int) ≤ (xn : Int) := by omega
    have hx5 : (xn : Int) ≤ 1023 := by have := HTl.out n; omega
    have HO := Hid.mkI hB0
    have HT1 := Hid.mkI hT1
    have HK10 := Hid.mkI hk10
    have HALL := Hid.mkI hall
    have H8 := Hid.mkI h8
    obtain ⟨x0, x1, x2, x3, x4⟩ := id hx
    clear hA hT hA1 hT1 hc hk hfew hokn hnl hnN hae hxn hx hB0 hq tM hne hu hk10 hall h8
    have HCont : Hid (Tab w1) := HT1
    clear HCont
    go_enter Tryd.func8, Tryd.ntmps8
    go_wp2_with fail
    refine t0.mono ?_
    clear t0
    rintro e w2 ⟨rfl, hB2⟩
    obtain ⟨y0, y1, y2, y3, y4⟩ := HX.out.below hB2
    have t1 := t1 w2 hB2
    go_wp2_with fail
    refine t1.mono ?_
    clear t1
    rintro e w3 ⟨rfl, hB3'⟩
    have hB3 := hB2.trans (hB3'.mono hB2.size)
    clear hB2 hB3' y0 y1 y2 y3 y4
    obtain ⟨y0, y1, y2, y3, y4⟩ := HX.out.below hB3
    have t2 := t2 w3 hB3
    go_wp2_with fail
    refine t2.mono ?_
    clear t2
    rintro e w4 ⟨rfl, hB4'⟩
    have hB4 := hB3.trans (hB4'.mono hB3.size)
    clear hB3 hB4' y0 y1 y2 y3 y4
    obtain ⟨y0, y1, y2, y3, y4⟩ := HX.out.below hB4
    have tW1 := tW1 w4
    go_wp2_with fail
    refine tW1.mono ?_
    clear tW1
    rintro e w' ⟨rfl, hw'⟩
    obtain rfl := hw'.symm
    obtain ⟨Wa, hWa⟩ : ∃ W, w4.alloc (.cells #[.int .i64 (n : Int)] 3) = W := ⟨_, rfl⟩
    have hBa : Below w4.heap.size w4 Wa := by rw [← hWa]; exact (Below.refl _ w4).alloc (Nat.le_refl _) _
    have hsa : Wa.heap.size = w4.heap.size + 1 := by rw [← hWa]; simp
    have ca : Wa.cell? ⟨w4.heap.size, 0, none⟩ = some (.int .i64 (n : Int)) := by rw [← hWa]; exact (cell_new_l w4 (.int .i64 (n : Int)) 3).1
    have fa : Wa.frozen? ⟨w4.heap.size, 0, none⟩ = false := by rw [← hWa]; exact (cell_new_l w4 (.int .i64 (n : Int)) 3).2
    obtain ⟨W5, hW5⟩ : ∃ W, Wa.alloc (.cells #[.slice (some ⟨w4.heap.size, 0, none⟩) 1 1, .slice aA R.m cA, .slice aM R.mm cM, .int .i64 0, .int .i64 8] 39) = W := ⟨_, rfl⟩
    have hB5' : Below w4.heap.size w4 W5 := by rw [← hW5]; exact hBa.alloc hBa.size _
    have hB5 := hB4.trans (hB5'.mono hB4.size)
    have c5 : W5.cell? ⟨w4.heap.size, 0, none⟩ = some (.int .i64 (n : Int)) := by rw [← hW5]; exact cell_alloc_l _ ca
    have f5 : W5.frozen? ⟨w4.heap.size, 0, none⟩ = false := by rw [← hW5]; exact frozen_alloc_l _ ca fa
    have hz : Box5 W5 (w4.heap.size + 1) (.slice (some ⟨w4.heap.size, 0, none⟩) 1 1) (.slice aA R.m cA) (.slice aM R.mm cM) (.int .i64 0) (.int .i64 8) := by
      have := Box5.new Wa (.slice (some ⟨w4.heap.size, 0, none⟩) 1 1) (.slice aA R.m cA) (.slice aM R.mm cM) (.int .i64 0) (.int .i64 8) 39
      rw [hW5, hsa] at this
      exact this
    obtain ⟨u0, u1, u2, u3, u4⟩ := (HX.out.below hB4).below hBa
    clear ca fa
    obtain ⟨z0, z1, z2, z3, z4⟩ := id hz
    have HZ := Hid.mkI hz
    have tMn := tMn w4.heap.size W5 c5 hB5
    clear hz
    go_wp2_with fail
    refine tMn.mono ?_
    clear tMn
    rintro e w6 ⟨rfl, hB6'⟩
    have hB6 := hB5.trans (hB6'.mono hB5.size)
    have c6 := keep_cell hB6' c5
    have f6 := (hB6'.frozen (p := ⟨w4.heap.size, 0, none⟩) (World.block_lt_of_cell? _ _ c5)).trans f5
    have HZ6 := Hid.mkI (HZ.out.below hB6')
    have HW6 : Hid (Below w4.heap.size w4 w6) := hB5'.trans (hB6'.mono hB5'.size)
    obtain ⟨v0, v1, v2, v3, v4⟩ := HX.out.below hB6
    clear hB5 hB6' c5 f5 z0 z1 z2 z3 z4 hW5 HZ y0 y1 y2 y3 y4 hB5' u0 u1 u2 u3 u4 hWa hBa hsa
    have tW2 := tW2 w6
    go_wp2_with fail
    refine tW2.mono ?_
    clear tW2
    rintro e w' ⟨rfl, hw'⟩
    obtain rfl := hw'.symm
    clear hw'
    have HLE : Hid (w1.heap.size ≤ w4.heap.size) := hB4.size
    have HBend := fun W (b : Below w6.heap.size w6 W) => (HO.out.trans ((hB6.trans (b.mono hB6.size)).mono HO.out.size))
    by_cases o0 : other < 0
    · clear tM' tN tP hB4 x0 x1 x2 x3 x4
      go_wp2
      go_ret
      exact ⟨rfl, HBend _ (Below.refl _ _)⟩
    · obtain ⟨o, rfl⟩ : ∃ o : Nat, other = (o : Int) := ⟨other.toNat, by omega⟩
      have o1 : (0 : Int) ≤ (o : Int) := by omega
      rw [hpe] at tP
      by_cases o2 : p ≤ o
      · have o3 : (p : Int) ≤ (o : Int) := by omega
        clear tM' tN hB4 o0 x0 x1 x2 x3 x4
        go_wp2_with (go_at_call 26; (with_reducible refine (tP _).mono ?_); rintro e w' ⟨rfl, rfl⟩)
        go_ret
        exact ⟨rfl, HBend _ (Below.refl _ _)⟩
      · have o3 : (o : Int) < (p : Int) := by omega
        have hol : o < 2 ^ R.m := by omega
        have tW3 := within_any o all (by have := H8.out; omega) (by have := H8.out; have := HALL.out; omega)
        cases hs : subB o all with
        | false =>
          rw [hs] at tW3
          clear tM' tN hB4 o0 x0 x1 x2 x3 x4 hol hs
          go_wp2_with (first | (go_at_call 26; (with_reducible refine (tP _).mono ?_); rintro e w' ⟨rfl, rfl⟩) | (go_at_call 14; (with_reducible refine (tW3 _).mono ?_); rintro e w' ⟨rfl, rfl⟩))
          go_ret
          exact ⟨rfl, HBend _ (Below.refl _ _)⟩
        | true =>
          rw [hs] at tW3
          have tMo := tM' o hol
          have tMany := many_any o (by have := H8.out; omega)
          have HFin : Hid (subB k (R.tasks o) = true → pop n ≤ pop o) := fun q => by
            have := HF.out.2 o (by unfold Rol.okB; rw [hs, q]; rfl)
            omega
          have hyl := HTl.out o
          obtain ⟨y, hye⟩ : ∃ y, R.tasks o = y := ⟨_, rfl⟩
          rw [hye] at tMo HFin hyl
          have tW4 := within_any k y (by have := HK10.out; omega) (by omega)
          have hy0 : (0 : Int) ≤ (y : Int) := by omega
          obtain ⟨pn, hpn⟩ : ∃ x, pop n = x := ⟨_, rfl⟩
          obtain ⟨po, hpo⟩ : ∃ x, pop o = x := ⟨_, rfl⟩
          rw [hpn] at tN HFin
          rw [hpo] at tMany HFin
          obtain ⟨W7, hW7⟩ : ∃ W, w6.setCell ⟨w4.heap.size, 0, none⟩ (.int .i64 (o : Int)) = W := ⟨_, rfl⟩
          have hB7' : Below w4.heap.size w6 W7 := by rw [← hW7]; exact (Below.refl _ w6).setCell (p := ⟨w4.heap.size, 0, none⟩) (Nat.le_refl _) _
          have hB7 : Below w1.heap.size w1 W7 := hB6.trans (hB7'.mono HLE.out)
          have c7 : W7.cell? ⟨w4.heap.size, 0, none⟩ = some (.int .i64 (o : Int)) := by rw [← hW7]; exact World.cell?_setCell_same' _ _ _ (by rw [c6]; rfl)
          obtain ⟨g0, g1, g2, g3, g4⟩ := HZ6.out
          have k0 : W7.cell? ⟨w4.heap.size + 1, 0, none⟩ = some (.slice (some ⟨w4.heap.size, 0, none⟩) 1 1) := by rw [← hW7]; exact (cell_far (by omega)).trans g0
          have k1 : W7.cell? ⟨w4.heap.size + 1, 1, none⟩ = some (.slice aA R.m cA) := by rw [← hW7]; exact (cell_far (by omega)).trans g1
          have k2 : W7.cell? ⟨w4.heap.size + 1, 2, none⟩ = some (.slice aM R.mm cM) := by rw [← hW7]; exact (cell_far (by omega)).trans g2
          have k3 : W7.cell? ⟨w4.heap.size + 1, 3, none⟩ = some (.int .i64 0) := by rw [← hW7]; exact (cell_far (by omega)).trans g3
          have k4 : W7.cell? ⟨w4.heap.size + 1, 4, none⟩ = some (.int .i64 8) := by rw [← hW7]; exact (cell_far (by omega)).trans g4
          have tMo := tMo w4.heap.size W7 c7 hB7
          have HO7 : Hid (Below w.heap.size w W7) := HO.out.trans (hB7.mono HO.out.size)
          clear tM' hB4 o0 x0 x1 x2 x3 x4 hol hs hye hpn hpo hB7' hB7 hyl HBend
          cases hq : subB k y with
          | false =>
            rw [hq] at tW4
            clear hq HFin
            go_wp2_with (first | (go_at_call 26; (with_reducible refine (tP _).mono ?_); rintro e w' ⟨rfl, rfl⟩) | (go_at_call 14; (with_reducible refine (tW3 _).mono ?_); clear tW3; rintro e w' ⟨rfl, rfl⟩) | (go_at_call 20; (with_reducible refine tMo.mono ?_); rintro e w8 ⟨rfl, hB8⟩) | (go_at_call 14; (with_reducible refine (tW4 _).mono ?_); rintro e w' ⟨rfl, rfl⟩))
            go_ret
            exact ⟨rfl, HO7.out.trans (hB8.mono HO7.out.size)⟩
          | true =>
            rw [hq] at tW4
            have hle : (pn : Int) ≤ (po : Int) := by have := HFin.out hq; omega
            clear hq HFin
            go_wp2_with (first | (go_at_call 26; (with_reducible refine (tP _).mono ?_); rintro e w' ⟨rfl, rfl⟩) | (go_at_call 14; (with_reducible refine (tW3 _).mono ?_); clear tW3; rintro e w' ⟨rfl, rfl⟩) | (go_at_call 20; (with_reducible refine tMo.mono ?_); rintro e w8 ⟨rfl, hB8⟩) | (go_at_call 14; (with_reducible refine (tW4 _).mono ?_); rintro e w' ⟨rfl, rfl⟩) | (go_at_call 27; (with_reducible refine (tN _).mono ?_); clear tN; rintro e w' ⟨rfl, rfl⟩) | (go_at_call 27; (with_reducible refine (tMany _).mono ?_); rintro e w' ⟨rfl, rfl⟩))
            go_ret
            exact ⟨rfl, HO7.out.trans (hB8.mono HO7.out.size)⟩
  · rw [needN_no hc, errV_ne hc] at t1
    obtain ⟨x0, x1, x2, x3, x4⟩ := id hx
    obtain ⟨c, hcc⟩ : ∃ c, R.needC user want = c := ⟨_, rfl⟩
    rw [hcc] at t1
    clear hA hT hA1 hT1 hc hcc
    go_enter Tryd.func8, Tryd.ntmps8
    go_wp2_with (first | (go_at_call 24; (with_reducible refine t0.mono ?_); clear t0; rintro e w2 ⟨rfl, hB2⟩; obtain ⟨y0, y1, y2, y3, y4⟩ := HX.out.below hB2; have t1 := t1 _ hB2) | (go_at_call 23; (with_reducible refine t1.mono ?_); clear t1; rintro e w3 ⟨rfl, hB3⟩; have hB4 := hB2.trans (hB3.mono hB2.size)))
    go_ret
    exact ⟨rfl, hB0.trans (hB4.mono hB0.size)⟩
end Go.Proofs.YtdmdoikkemfcaaaDoor
