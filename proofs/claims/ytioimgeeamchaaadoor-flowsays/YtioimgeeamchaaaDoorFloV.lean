/- The walk of the law FlowSays. (Made by gen/flow.py.) -/
import Derived.WalkKit
import Derived.LoopTactic
import Derived.Deep.QuietTactic
import Derived.BigQuiet
import Derived.Test.YtioimgeeamchaaaDoorFloN
import Derived.Test.YtioimgeeamchaaaDoorFloG
import Derived.Test.YtioimgeeamchaaaDoorRunO
import Derived.Test.YtioimgeeamchaaaDoorProR
namespace Go.Proofs.YtioimgeeamchaaaDoor
open Go.RowKit
set_option maxRecDepth 100000
set_option linter.unusedVariables false

theorem told_fits {c : Nat → Nat → Bool} {lv : Nat → Int} (h : ∀ j, j < 6 → 0 ≤ lv j) : toldB c lv = fitsB c lv := by
  have e : toldB c lv = true ↔ fitsB c lv = true := (toldB_iff c lv).trans (Iff.trans ⟨fun k i hi j hj q => k i hi j hj q (h i hi), fun k i hi j hj q _ => k i hi j hj q⟩ (fitsB_iff c lv).symm)
  cases h1 : toldB c lv <;> cases h2 : fitsB c lv <;> simp_all
set_option maxHeartbeats 16000000 in
theorem flowSays_any (a : Option Addr) (cap : Nat) (l : List Nod) (v0 : Value) (nL : Nat) (lv : Nat → Int) (v1 : Value) (nM : Nat) (mv : Nat → Int) (w : World) (h : AtNods w a l.length (nthD l)) (hl : Lst w v0 nL lv) (hm : Lst w v1 nM mv) (hT : Tab w) (hE : ErrT w) :
    Calls Tryd.prog 3 #[.slice a l.length cap, v0, v1] w fun e w' => e = .returned (.bool true) ∧ Below w.heap.size w w' := by
  have hB0 := Below.refl w.heap.size w
  have hE0 := old_of_cell hE
  obtain ⟨vL, cL, rfl, hL⟩ := id hl
  obtain ⟨vM, cM, rfl, hM⟩ := id hm
  have tP : ∀ w1, Below w.heap.size w w1 → Calls Tryd.prog 8 #[.slice a l.length cap] w1 fun e w' => e = .returned (.int .i64 (proC l)) ∧ Below w1.heap.size w1 w' := fun w1 hB => rprog_any l a cap w1 (h.below hB)
  have tQ1 : ∀ w1, Below w.heap.size w w1 → Calls Tryd.prog 10 #[.slice vL nL cL, .int .i64 0] w1 fun e w' => e = .returned (.int .i64 (levC nL lv 0)) ∧ Below w1.heap.size w1 w' := fun w1 hB => (rlevels_any (.slice vL nL cL) nL lv 0 w1 (hl.below hB)).mono fun e w' ⟨he, hw⟩ => ⟨he, by rw [hw]; exact Below.refl _ _⟩
  have tQ2 : ∀ w1, Below w.heap.size w w1 → Calls Tryd.prog 10 #[.slice vM nM cM, .int .i64 (-1)] w1 fun e w' => e = .returned (.int .i64 (levC nM mv (-1))) ∧ Below w1.heap.size w1 w' := fun w1 hB => (rlevels_any (.slice vM nM cM) nM mv (-1) w1 (hm.below hB)).mono fun e w' ⟨he, hw⟩ => ⟨he, by rw [hw]; exact Below.refl _ _⟩
  have tE : ∀ c w1, Below w.heap.size w w1 → Calls Tryd.prog 14 #[errV c, .int .i64 c] w1 fun e w' => e = .returned (.bool true) ∧ Below w1.heap.size w1 w' := fun c w1 hB => rerror_errV c w1 (hE.below hB hE0)
  have tE0 := tE 0
  rw [errV_zero] at tE0
  have HI : Hid (∀ (f : Nat → Int) (u1 u2 : Value) (w1 : World), Lst w1 u1 6 f → Lst w1 u2 6 f → Calls Tryd.prog 15 #[u1, u2] w1 fun e w' => e = .returned (.bool true) ∧ Below w1.heap.size w1 w') := fun f u1 u2 w1 k1 k2 => (rints_same u1 u2 6 (by decide) f w1 k1 k2).mono fun e w' ⟨he, k, hk⟩ => ⟨he, by rw [hk]; exact below_drawn (Below.refl _ _) k⟩
  have tI0 : ∀ w1, Below w.heap.size w w1 → Calls Tryd.prog 15 #[.slice none 0 0, .slice none 0 0] w1 fun e w' => e = .returned (.bool true) ∧ Below w1.heap.size w1 w' := fun w1 _ => (rints_same (.slice none 0 0) (.slice none 0 0) 0 (by decide) (fun _ => 0) w1 ⟨none, 0, rfl, .inl rfl⟩ ⟨none, 0, rfl, .inl rfl⟩).mono fun e w' ⟨he, k, hk⟩ => ⟨he, by rw [hk]; exact below_drawn (Below.refl _ _) k⟩
  have tLo : fitC l nL lv 0 = 0 → ∀ w1, Below w.heap.size w w1 → Calls Tryd.prog 16 #[.slice a l.length cap, .slice vL nL cL] w1 fun e w' => e = .returned (.tuple #[.bool (fitsB (cF l) lv), .nilIface]) ∧ Below w1.heap.size w1 w' := fun hc w1 hB => ffits_ok a cap (.slice vL nL cL) nL lv hc w1 (h.below hB) (hl.below hB) (hT.below hB hT.size)
  have tLe : fitC l nL lv 0 ≠ 0 → ∀ w1, Below w.heap.size w w1 → Calls Tryd.prog 16 #[.slice a l.length cap, .slice vL nL cL] w1 fun e w' => e = .returned (.tuple #[.bool false, .iface 57 (.int .i64 (fitC l nL lv 0))]) ∧ Below w1.heap.size w1 w' := fun hc w1 hB => ffits_no a cap (.slice vL nL cL) nL lv hc w1 (h.below hB) (hl.below hB) (hT.below hB hT.size)
  have tRo : proC l = 0 → ∀ w1, Below w.heap.size w w1 → Calls Tryd.prog 13 #[.slice a l.length cap] w1 fun e w' => ∃ g, e = .returned (.tuple #[.slice (some ⟨g, 0, none⟩) 6 6, .nilIface]) ∧ Hid (Own w' g 6 (comF l)) ∧ Below w1.heap.size w1 w' := fun hp w1 hB => (ffrom_ok hp a cap w1 (h.below hB) (hT.below hB hT.size)).mono fun e w' ⟨g, h1, _, h2, h3⟩ => ⟨g, h1, h2, h3⟩
  have tRe : proC l ≠ 0 → ∀ w1, Below w.heap.size w w1 → Calls Tryd.prog 13 #[.slice a l.length cap] w1 fun e w' => e = .returned (.tuple #[.slice none 0 0, .iface 57 (.int .i64 (proC l))]) ∧ Below w1.heap.size w1 w' := fun hp w1 hB => ffrom_no hp a cap w1 (h.below hB)
  have tMe : fitC l nM mv (-1) ≠ 0 → ∀ w1, Below w.heap.size w w1 → Calls Tryd.prog 17 #[.slice a l.length cap, .slice vM nM cM] w1 fun e w' => e = .returned (.tuple #[.slice none 0 0, .iface 57 (.int .i64 (fitC l nM mv (-1)))]) ∧ Below w1.heap.size w1 w' := fun hc w1 hB => fleast_no1 a cap (.slice vM nM cM) nM mv hc w1 (h.below hB) (hm.below hB) (hT.below hB hT.size)
  have tMc : fitC l nM mv (-1) = 0 → toldB (cF l) mv = false → ∀ w1, Below w.heap.size w w1 → Calls Tryd.prog 17 #[.slice a l.length cap, .slice vM nM cM] w1 fun e w' => e = .returned (.tuple #[.slice none 0 0, .iface 57 (.int .i64 6)]) ∧ Below w1.heap.size w1 w' := fun hc ht w1 hB => by
    have := fleast_any a cap (.slice vM nM cM) nM mv hc w1 (h.below hB) (hm.below hB) (hT.below hB hT.size)
    rw [ht] at this
    exact this.mono fun e w' ⟨h1, h2⟩ => ⟨h2, h1⟩
  have tMo : fitC l nM mv (-1) = 0 → toldB (cF l) mv = true → ∀ w1, Below w.heap.size w w1 → Calls Tryd.prog 17 #[.slice a l.length cap, .slice vM nM cM] w1 fun e w' => ∃ g, e = .returned (.tuple #[.slice (some ⟨g, 0, none⟩) 6 6, .nilIface]) ∧ Hid (Lst w' (.slice (some ⟨g, 0, none⟩) 6 6) 6 (leastI (cF l) mv)) ∧ Below w1.heap.size w1 w' := fun hc ht w1 hB => by
    have := fleast_any a cap (.slice vM nM cM) nM mv hc w1 (h.below hB) (hm.below hB) (hT.below hB hT.size)
    rw [ht] at this
    exact this.mono fun e w' ⟨h1, g, h2, h3⟩ => ⟨g, h2, h3, h1⟩
  have tX : proC l = 0 → ∀ w1, Below w.heap.size w w1 → Calls Tryd.prog 9 #[.slice a l.length cap] w1 fun e w' => ∃ g c, e = .returned (.slice (some ⟨g, 0, none⟩) 6 c) ∧ Hid (Lst w' (.slice (some ⟨g, 0, none⟩) 6 c) 6 (fun i => (comF l i : Int))) ∧ Below w1.heap.size w1 w' := fun hp w1 hB => (rfrom_any hp a cap w1 (h.below hB)).mono fun e w' ⟨g, c, h1, _, h2, h3⟩ => ⟨g, c, h1, (OwnZ.of h2.out).lst, h3⟩
  have tRl : proC l = 0 → ∀ w1, Below w.heap.size w w1 → Calls Tryd.prog 13 #[.slice a l.length cap] w1 fun e w' => ∃ g, e = .returned (.tuple #[.slice (some ⟨g, 0, none⟩) 6 6, .nilIface]) ∧ Hid (Lst w' (.slice (some ⟨g, 0, none⟩) 6 6) 6 (fun i => (comF l i : Int))) ∧ Below w1.heap.size w1 w' := fun hp w1 hB => (tRo hp w1 hB).mono fun e w' ⟨g, h1, h2, h3⟩ => ⟨g, h1, (OwnZ.of h2.out).lst, h3⟩
  have tG1 : proC l = 0 → nL = 6 → ∀ w1, Below w.heap.size w w1 → Calls Tryd.prog 11 #[.slice a l.length cap, .slice vL nL cL] w1 fun e w' => e = .returned (.bool (toldB (cF l) lv)) ∧ Below w1.heap.size w1 w' := fun hp h6 w1 hB => by
    subst h6
    exact rfits_any hp a cap (.slice vL 6 cL) lv w1 (h.below hB) (hl.below hB)
  have tG2 : proC l = 0 → nM = 6 → ∀ w1, Below w.heap.size w w1 → Calls Tryd.prog 11 #[.slice a l.length cap, .slice vM nM cM] w1 fun e w' => e = .returned (.bool (toldB (cF l) mv)) ∧ Below w1.heap.size w1 w' := fun hp h6 w1 hB => by
    subst h6
    exact rfits_any hp a cap (.slice vM 6 cM) mv w1 (h.below hB) (hm.below hB)
  have tZ : proC l = 0 → nM = 6 → ∀ w1, Below w.heap.size w w1 → Calls Tryd.prog 12 #[.slice a l.length cap, .slice vM nM cM] w1 fun e w' => ∃ v', e = .returned v' ∧ Hid (Lst w' v' 6 (leastI (cF l) mv)) ∧ Below w1.heap.size w1 w' := fun hp h6 w1 hB => by
    subst h6
    exact rleast_any hp a cap (.slice vM 6 cM) mv w1 (h.below hB) (hm.below hB)
  by_cases hp : proC l = 0
  · have tX := tX hp
    have tRl := tRl hp
    rw [hp] at tP
    have hf0 := fitC_pro (n := nL) (lv := lv) (low := 0) hp
    have hg0 := fitC_pro (n := nM) (lv := mv) (low := -1) hp
    by_cases hf : levC nL lv 0 = 0
    · by_cases hg : levC nM mv (-1) = 0
      · cases ht : toldB (cF l) mv with
        | false =>
          have tL := tLo (hf0.trans hf)
          have hlv := levC_ok hf
          have tG1 := tG1 hp hlv.1
          rw [told_fits fun j hj => (hlv.2 j hj).1] at tG1
          rw [hf] at tQ1
          obtain ⟨T1, hT1⟩ : ∃ T, fitsB (cF l) lv = T := ⟨_, rfl⟩
          rw [hT1] at tL tG1
          have hbb : (T1 == T1) = true := by cases T1 <;> rfl
          have hmv := levC_ok hg
          have tG2 := tG2 hp hmv.1
          rw [ht] at tG2
          rw [hg] at tQ2
          have tM := tMc (hg0.trans hg) ht
          have tEg : ∀ w1, Below w.heap.size w w1 → Calls Tryd.prog 14 #[.iface 57 (.int .i64 6), .int .i64 6] w1 fun e w' => e = .returned (.bool true) ∧ Below w1.heap.size w1 w' := tE 6
          clear h hT hm hl hM hL hE hE0 tLo tLe tRo tRe tMe tMc tMo tE hp hf hg hf0 hg0 hlv hT1 hmv ht tZ
          generalize l.length = nn at *
          go_enter Tryd.func3, Tryd.ntmps3
          go_wp2_with fail
          refine (tP w hB0).mono ?_
          rintro e w1 ⟨rfl, hx1⟩
          have hB1 := hB0.trans (hx1.mono hB0.size)
          go_wp2_with fail
          refine (tX w1 hB1).mono ?_
          rintro e w2 ⟨gx, cx, rfl, HX, hx2⟩
          have hB2 := hB1.trans (hx2.mono hB1.size)
          go_wp2_with fail
          refine (tQ1 w2 hB2).mono ?_
          rintro e w3 ⟨rfl, hx3⟩
          have hB3 := hB2.trans (hx3.mono hB2.size)
          have HX := Hid.mkI (HX.out.below hx3)
          go_wp2_with fail
          refine (tQ2 w3 hB3).mono ?_
          rintro e w4 ⟨rfl, hx4⟩
          have hB4 := hB3.trans (hx4.mono hB3.size)
          have HX := Hid.mkI (HX.out.below hx4)
          go_wp2_with fail
          refine (tG1 w4 hB4).mono ?_
          rintro e w5 ⟨rfl, hx5⟩
          have hB5 := hB4.trans (hx5.mono hB4.size)
          have HX := Hid.mkI (HX.out.below hx5)
          go_wp2_with fail
          refine (tG2 w5 hB5).mono ?_
          rintro e w6 ⟨rfl, hx6⟩
          have hB6 := hB5.trans (hx6.mono hB5.size)
          have HX := Hid.mkI (HX.out.below hx6)
          go_wp2_with fail
          refine (tRl w6 hB6).mono ?_
          rintro e w7 ⟨g, rfl, HR, hx7⟩
          have hB7 := hB6.trans (hx7.mono hB6.size)
          have HX := Hid.mkI (HX.out.below hx7)
          go_wp2_with fail
          refine (tE0 w7 hB7).mono ?_
          rintro e w8 ⟨rfl, hx8⟩
          have hB8 := hB7.trans (hx8.mono hB7.size)
          have HX := Hid.mkI (HX.out.below hx8)
          have HR := Hid.mkI (HR.out.below hx8)
          have tJ8 := HI.out (fun i => (comF l i : Int)) _ _ w8 HR.out HX.out
          go_wp2_with fail
          refine (tJ8).mono ?_
          rintro e w9 ⟨rfl, hx9⟩
          have hB9 := hB8.trans (hx9.mono hB8.size)
          go_wp2_with fail
          refine (tL w9 hB9).mono ?_
          rintro e w10 ⟨rfl, hx10⟩
          have hB10 := hB9.trans (hx10.mono hB9.size)
          go_wp2_with fail
          refine (tE0 w10 hB10).mono ?_
          rintro e w11 ⟨rfl, hx11⟩
          have hB11 := hB10.trans (hx11.mono hB10.size)
          go_wp2_with fail
          refine (tM w11 hB11).mono ?_
          rintro e w12 ⟨rfl, hx12⟩
          have hB12 := hB11.trans (hx12.mono hB11.size)
          go_wp2_with fail
          refine (tEg w12 hB12).mono ?_
          rintro e w13 ⟨rfl, hx13⟩
          have hB13 := hB12.trans (hx13.mono hB12.size)
          go_wp2_with fail
          refine (tI0 w13 hB13).mono ?_
          rintro e w14 ⟨rfl, hx14⟩
          have hB14 := hB13.trans (hx14.mono hB13.size)
          go_wp2_with fail
          go_ret
          exact ⟨rfl, hB14⟩
        | true =>
          have tL := tLo (hf0.trans hf)
          have hlv := levC_ok hf
          have tG1 := tG1 hp hlv.1
          rw [told_fits fun j hj => (hlv.2 j hj).1] at tG1
          rw [hf] at tQ1
          obtain ⟨T1, hT1⟩ : ∃ T, fitsB (cF l) lv = T := ⟨_, rfl⟩
          rw [hT1] at tL tG1
          have hbb : (T1 == T1) = true := by cases T1 <;> rfl
          have hmv := levC_ok hg
          have tG2 := tG2 hp hmv.1
          rw [ht] at tG2
          rw [hg] at tQ2
          have tM := tMo (hg0.trans hg) ht
          have tZ := tZ hp hmv.1
          clear h hT hm hl hM hL hE hE0 tLo tLe tRo tRe tMe tMc tMo tE hp hf hg hf0 hg0 hlv hT1 hmv ht
          generalize l.length = nn at *
          go_enter Tryd.func3, Tryd.ntmps3
          go_wp2_with fail
          refine (tP w hB0).mono ?_
          rintro e w1 ⟨rfl, hx1⟩
          have hB1 := hB0.trans (hx1.mono hB0.size)
          go_wp2_with fail
          refine (tX w1 hB1).mono ?_
          rintro e w2 ⟨gx, cx, rfl, HX, hx2⟩
          have hB2 := hB1.trans (hx2.mono hB1.size)
          go_wp2_with fail
          refine (tQ1 w2 hB2).mono ?_
          rintro e w3 ⟨rfl, hx3⟩
          have hB3 := hB2.trans (hx3.mono hB2.size)
          have HX := Hid.mkI (HX.out.below hx3)
          go_wp2_with fail
          refine (tQ2 w3 hB3).mono ?_
          rintro e w4 ⟨rfl, hx4⟩
          have hB4 := hB3.trans (hx4.mono hB3.size)
          have HX := Hid.mkI (HX.out.below hx4)
          go_wp2_with fail
          refine (tG1 w4 hB4).mono ?_
          rintro e w5 ⟨rfl, hx5⟩
          have hB5 := hB4.trans (hx5.mono hB4.size)
          have HX := Hid.mkI (HX.out.below hx5)
          go_wp2_with fail
          refine (tG2 w5 hB5).mono ?_
          rintro e w6 ⟨rfl, hx6⟩
          have hB6 := hB5.trans (hx6.mono hB5.size)
          have HX := Hid.mkI (HX.out.below hx6)
          go_wp2_with fail
          refine (tZ w6 hB6).mono ?_
          rintro e w7 ⟨vz, rfl, HZ, hx7⟩
          have hB7 := hB6.trans (hx7.mono hB6.size)
          have HX := Hid.mkI (HX.out.below hx7)
          go_wp2_with fail
          refine (tRl w7 hB7).mono ?_
          rintro e w8 ⟨g, rfl, HR, hx8⟩
          have hB8 := hB7.trans (hx8.mono hB7.size)
          have HX := Hid.mkI (HX.out.below hx8)
          have HZ := Hid.mkI (HZ.out.below hx8)
          go_wp2_with fail
          refine (tE0 w8 hB8).mono ?_
          rintro e w9 ⟨rfl, hx9⟩
          have hB9 := hB8.trans (hx9.mono hB8.size)
          have HX := Hid.mkI (HX.out.below hx9)
          have HZ := Hid.mkI (HZ.out.below hx9)
          have HR := Hid.mkI (HR.out.below hx9)
          have tJ9 := HI.out (fun i => (comF l i : Int)) _ _ w9 HR.out HX.out
          go_wp2_with fail
          refine (tJ9).mono ?_
          rintro e w10 ⟨rfl, hx10⟩
          have hB10 := hB9.trans (hx10.mono hB9.size)
          have HZ := Hid.mkI (HZ.out.below hx10)
          go_wp2_with fail
          refine (tL w10 hB10).mono ?_
          rintro e w11 ⟨rfl, hx11⟩
          have hB11 := hB10.trans (hx11.mono hB10.size)
          have HZ := Hid.mkI (HZ.out.below hx11)
          go_wp2_with fail
          refine (tE0 w11 hB11).mono ?_
          rintro e w12 ⟨rfl, hx12⟩
          have hB12 := hB11.trans (hx12.mono hB11.size)
          have HZ := Hid.mkI (HZ.out.below hx12)
          go_wp2_with fail
          refine (tM w12 hB12).mono ?_
          rintro e w13 ⟨gz, rfl, HY, hx13⟩
          have hB13 := hB12.trans (hx13.mono hB12.size)
          have HZ := Hid.mkI (HZ.out.below hx13)
          go_wp2_with fail
          refine (tE0 w13 hB13).mono ?_
          rintro e w14 ⟨rfl, hx14⟩
          have hB14 := hB13.trans (hx14.mono hB13.size)
          have HZ := Hid.mkI (HZ.out.below hx14)
          have HY := Hid.mkI (HY.out.below hx14)
          have tJ14 := HI.out (leastI (cF l) mv) _ _ w14 HY.out HZ.out
          go_wp2_with fail
          refine (tJ14).mono ?_
          rintro e w15 ⟨rfl, hx15⟩
          have hB15 := hB14.trans (hx15.mono hB14.size)
          go_wp2_with fail
          go_ret
          exact ⟨rfl, hB15⟩
      · skip
        have tL := tLo (hf0.trans hf)
        have hlv := levC_ok hf
        have tG1 := tG1 hp hlv.1
        rw [told_fits fun j hj => (hlv.2 j hj).1] at tG1
        rw [hf] at tQ1
        obtain ⟨T1, hT1⟩ : ∃ T, fitsB (cF l) lv = T := ⟨_, rfl⟩
        rw [hT1] at tL tG1
        have hbb : (T1 == T1) = true := by cases T1 <;> rfl
        have tM := tMe (fun q => hg (hg0.symm.trans q))
        rw [hg0] at tM
        have tEg := tE (levC nM mv (-1))
        rw [show errV (levC nM mv (-1)) = .iface 57 (.int .i64 (levC nM mv (-1))) from if_neg hg] at tEg
        obtain ⟨cg, hcg⟩ : ∃ c, levC nM mv (-1) = c := ⟨_, rfl⟩
        rw [hcg] at tM tEg tQ2 hg
        have hgI : (cg == 0) = false := by simpa using hg
        clear h hT hm hl hM hL hE hE0 tLo tLe tRo tRe tMe tMc tMo tE hp hf hg hf0 hg0 hlv hT1 tG2 tZ hcg
        generalize l.length = nn at *
        go_enter Tryd.func3, Tryd.ntmps3
        go_wp2_with fail
        refine (tP w hB0).mono ?_
        rintro e w1 ⟨rfl, hx1⟩
        have hB1 := hB0.trans (hx1.mono hB0.size)
        go_wp2_with fail
        refine (tX w1 hB1).mono ?_
        rintro e w2 ⟨gx, cx, rfl, HX, hx2⟩
        have hB2 := hB1.trans (hx2.mono hB1.size)
        go_wp2_with fail
        refine (tQ1 w2 hB2).mono ?_
        rintro e w3 ⟨rfl, hx3⟩
        have hB3 := hB2.trans (hx3.mono hB2.size)
        have HX := Hid.mkI (HX.out.below hx3)
        go_wp2_with fail
        refine (tQ2 w3 hB3).mono ?_
        rintro e w4 ⟨rfl, hx4⟩
        have hB4 := hB3.trans (hx4.mono hB3.size)
        have HX := Hid.mkI (HX.out.below hx4)
        go_wp2_with fail
        refine (tG1 w4 hB4).mono ?_
        rintro e w5 ⟨rfl, hx5⟩
        have hB5 := hB4.trans (hx5.mono hB4.size)
        have HX := Hid.mkI (HX.out.below hx5)
        go_wp2_with fail
        refine (tRl w5 hB5).mono ?_
        rintro e w6 ⟨g, rfl, HR, hx6⟩
        have hB6 := hB5.trans (hx6.mono hB5.size)
        have HX := Hid.mkI (HX.out.below hx6)
        go_wp2_with fail
        refine (tE0 w6 hB6).mono ?_
        rintro e w7 ⟨rfl, hx7⟩
        have hB7 := hB6.trans (hx7.mono hB6.size)
        have HX := Hid.mkI (HX.out.below hx7)
        have HR := Hid.mkI (HR.out.below hx7)
        have tJ7 := HI.out (fun i => (comF l i : Int)) _ _ w7 HR.out HX.out
        go_wp2_with fail
        refine (tJ7).mono ?_
        rintro e w8 ⟨rfl, hx8⟩
        have hB8 := hB7.trans (hx8.mono hB7.size)
        go_wp2_with fail
        refine (tL w8 hB8).mono ?_
        rintro e w9 ⟨rfl, hx9⟩
        have hB9 := hB8.trans (hx9.mono hB8.size)
        go_wp2_with fail
        refine (tE0 w9 hB9).mono ?_
        rintro e w10 ⟨rfl, hx10⟩
        have hB10 := hB9.trans (hx10.mono hB9.size)
        go_wp2_with fail
        refine (tM w10 hB10).mono ?_
        rintro e w11 ⟨rfl, hx11⟩
        have hB11 := hB10.trans (hx11.mono hB10.size)
        go_wp2_with fail
        refine (tEg w11 hB11).mono ?_
        rintro e w12 ⟨rfl, hx12⟩
        have hB12 := hB11.trans (hx12.mono hB11.size)
        go_wp2_with fail
        refine (tI0 w12 hB12).mono ?_
        rintro e w13 ⟨rfl, hx13⟩
        have hB13 := hB12.trans (hx13.mono hB12.size)
        go_wp2_with fail
        go_ret
        exact ⟨rfl, hB13⟩
    · by_cases hg : levC nM mv (-1) = 0
      · cases ht : toldB (cF l) mv with
        | false =>
          have tL := tLe (fun q => hf (hf0.symm.trans q))
          rw [hf0] at tL
          have tEf := tE (levC nL lv 0)
          rw [show errV (levC nL lv 0) = .iface 57 (.int .i64 (levC nL lv 0)) from if_neg hf] at tEf
          obtain ⟨cf, hcf⟩ : ∃ c, levC nL lv 0 = c := ⟨_, rfl⟩
          rw [hcf] at tL tEf tQ1 hf
          have hfI : (cf == 0) = false := by simpa using hf
          have hmv := levC_ok hg
          have tG2 := tG2 hp hmv.1
          rw [ht] at tG2
          rw [hg] at tQ2
          have tM := tMc (hg0.trans hg) ht
          have tEg : ∀ w1, Below w.heap.size w w1 → Calls Tryd.prog 14 #[.iface 57 (.int .i64 6), .int .i64 6] w1 fun e w' => e = .returned (.bool true) ∧ Below w1.heap.size w1 w' := tE 6
          clear h hT hm hl hM hL hE hE0 tLo tLe tRo tRe tMe tMc tMo tE hp hf hg hf0 hg0 tG1 hcf hmv ht tZ
          generalize l.length = nn at *
          go_enter Tryd.func3, Tryd.ntmps3
          go_wp2_with fail
          refine (tP w hB0).mono ?_
          rintro e w1 ⟨rfl, hx1⟩
          have hB1 := hB0.trans (hx1.mono hB0.size)
          go_wp2_with fail
          refine (tX w1 hB1).mono ?_
          rintro e w2 ⟨gx, cx, rfl, HX, hx2⟩
          have hB2 := hB1.trans (hx2.mono hB1.size)
          go_wp2_with fail
          refine (tQ1 w2 hB2).mono ?_
          rintro e w3 ⟨rfl, hx3⟩
          have hB3 := hB2.trans (hx3.mono hB2.size)
          have HX := Hid.mkI (HX.out.below hx3)
          go_wp2_with fail
          refine (tQ2 w3 hB3).mono ?_
          rintro e w4 ⟨rfl, hx4⟩
          have hB4 := hB3.trans (hx4.mono hB3.size)
          have HX := Hid.mkI (HX.out.below hx4)
          go_wp2_with fail
          refine (tG2 w4 hB4).mono ?_
          rintro e w5 ⟨rfl, hx5⟩
          have hB5 := hB4.trans (hx5.mono hB4.size)
          have HX := Hid.mkI (HX.out.below hx5)
          go_wp2_with fail
          refine (tRl w5 hB5).mono ?_
          rintro e w6 ⟨g, rfl, HR, hx6⟩
          have hB6 := hB5.trans (hx6.mono hB5.size)
          have HX := Hid.mkI (HX.out.below hx6)
          go_wp2_with fail
          refine (tE0 w6 hB6).mono ?_
          rintro e w7 ⟨rfl, hx7⟩
          have hB7 := hB6.trans (hx7.mono hB6.size)
          have HX := Hid.mkI (HX.out.below hx7)
          have HR := Hid.mkI (HR.out.below hx7)
          have tJ7 := HI.out (fun i => (comF l i : Int)) _ _ w7 HR.out HX.out
          go_wp2_with fail
          refine (tJ7).mono ?_
          rintro e w8 ⟨rfl, hx8⟩
          have hB8 := hB7.trans (hx8.mono hB7.size)
          go_wp2_with fail
          refine (tL w8 hB8).mono ?_
          rintro e w9 ⟨rfl, hx9⟩
          have hB9 := hB8.trans (hx9.mono hB8.size)
          go_wp2_with fail
          refine (tEf w9 hB9).mono ?_
          rintro e w10 ⟨rfl, hx10⟩
          have hB10 := hB9.trans (hx10.mono hB9.size)
          go_wp2_with fail
          refine (tM w10 hB10).mono ?_
          rintro e w11 ⟨rfl, hx11⟩
          have hB11 := hB10.trans (hx11.mono hB10.size)
          go_wp2_with fail
          refine (tEg w11 hB11).mono ?_
          rintro e w12 ⟨rfl, hx12⟩
          have hB12 := hB11.trans (hx12.mono hB11.size)
          go_wp2_with fail
          refine (tI0 w12 hB12).mono ?_
          rintro e w13 ⟨rfl, hx13⟩
          have hB13 := hB12.trans (hx13.mono hB12.size)
          go_wp2_with fail
          go_ret
          exact ⟨rfl, hB13⟩
        | true =>
          have tL := tLe (fun q => hf (hf0.symm.trans q))
          rw [hf0] at tL
          have tEf := tE (levC nL lv 0)
          rw [show errV (levC nL lv 0) = .iface 57 (.int .i64 (levC nL lv 0)) from if_neg hf] at tEf
          obtain ⟨cf, hcf⟩ : ∃ c, levC nL lv 0 = c := ⟨_, rfl⟩
          rw [hcf] at tL tEf tQ1 hf
          have hfI : (cf == 0) = false := by simpa using hf
          have hmv := levC_ok hg
          have tG2 := tG2 hp hmv.1
          rw [ht] at tG2
          rw [hg] at tQ2
          have tM := tMo (hg0.trans hg) ht
          have tZ := tZ hp hmv.1
          clear h hT hm hl hM hL hE hE0 tLo tLe tRo tRe tMe tMc tMo tE hp hf hg hf0 hg0 tG1 hcf hmv ht
          generalize l.length = nn at *
          go_enter Tryd.func3, Tryd.ntmps3
          go_wp2_with fail
          refine (tP w hB0).mono ?_
          rintro e w1 ⟨rfl, hx1⟩
          have hB1 := hB0.trans (hx1.mono hB0.size)
          go_wp2_with fail
          refine (tX w1 hB1).mono ?_
          rintro e w2 ⟨gx, cx, rfl, HX, hx2⟩
          have hB2 := hB1.trans (hx2.mono hB1.size)
          go_wp2_with fail
          refine (tQ1 w2 hB2).mono ?_
          rintro e w3 ⟨rfl, hx3⟩
          have hB3 := hB2.trans (hx3.mono hB2.size)
          have HX := Hid.mkI (HX.out.below hx3)
          go_wp2_with fail
          refine (tQ2 w3 hB3).mono ?_
          rintro e w4 ⟨rfl, hx4⟩
          have hB4 := hB3.trans (hx4.mono hB3.size)
          have HX := Hid.mkI (HX.out.below hx4)
          go_wp2_with fail
          refine (tG2 w4 hB4).mono ?_
          rintro e w5 ⟨rfl, hx5⟩
          have hB5 := hB4.trans (hx5.mono hB4.size)
          have HX := Hid.mkI (HX.out.below hx5)
          go_wp2_with fail
          refine (tZ w5 hB5).mono ?_
          rintro e w6 ⟨vz, rfl, HZ, hx6⟩
          have hB6 := hB5.trans (hx6.mono hB5.size)
          have HX := Hid.mkI (HX.out.below hx6)
          go_wp2_with fail
          refine (tRl w6 hB6).mono ?_
          rintro e w7 ⟨g, rfl, HR, hx7⟩
          have hB7 := hB6.trans (hx7.mono hB6.size)
          have HX := Hid.mkI (HX.out.below hx7)
          have HZ := Hid.mkI (HZ.out.below hx7)
          go_wp2_with fail
          refine (tE0 w7 hB7).mono ?_
          rintro e w8 ⟨rfl, hx8⟩
          have hB8 := hB7.trans (hx8.mono hB7.size)
          have HX := Hid.mkI (HX.out.below hx8)
          have HZ := Hid.mkI (HZ.out.below hx8)
          have HR := Hid.mkI (HR.out.below hx8)
          have tJ8 := HI.out (fun i => (comF l i : Int)) _ _ w8 HR.out HX.out
          go_wp2_with fail
          refine (tJ8).mono ?_
          rintro e w9 ⟨rfl, hx9⟩
          have hB9 := hB8.trans (hx9.mono hB8.size)
          have HZ := Hid.mkI (HZ.out.below hx9)
          go_wp2_with fail
          refine (tL w9 hB9).mono ?_
          rintro e w10 ⟨rfl, hx10⟩
          have hB10 := hB9.trans (hx10.mono hB9.size)
          have HZ := Hid.mkI (HZ.out.below hx10)
          go_wp2_with fail
          refine (tEf w10 hB10).mono ?_
          rintro e w11 ⟨rfl, hx11⟩
          have hB11 := hB10.trans (hx11.mono hB10.size)
          have HZ := Hid.mkI (HZ.out.below hx11)
          go_wp2_with fail
          refine (tM w11 hB11).mono ?_
          rintro e w12 ⟨gz, rfl, HY, hx12⟩
          have hB12 := hB11.trans (hx12.mono hB11.size)
          have HZ := Hid.mkI (HZ.out.below hx12)
          go_wp2_with fail
          refine (tE0 w12 hB12).mono ?_
          rintro e w13 ⟨rfl, hx13⟩
          have hB13 := hB12.trans (hx13.mono hB12.size)
          have HZ := Hid.mkI (HZ.out.below hx13)
          have HY := Hid.mkI (HY.out.below hx13)
          have tJ13 := HI.out (leastI (cF l) mv) _ _ w13 HY.out HZ.out
          go_wp2_with fail
          refine (tJ13).mono ?_
          rintro e w14 ⟨rfl, hx14⟩
          have hB14 := hB13.trans (hx14.mono hB13.size)
          go_wp2_with fail
          go_ret
          exact ⟨rfl, hB14⟩
      · skip
        have tL := tLe (fun q => hf (hf0.symm.trans q))
        rw [hf0] at tL
        have tEf := tE (levC nL lv 0)
        rw [show errV (levC nL lv 0) = .iface 57 (.int .i64 (levC nL lv 0)) from if_neg hf] at tEf
        obtain ⟨cf, hcf⟩ : ∃ c, levC nL lv 0 = c := ⟨_, rfl⟩
        rw [hcf] at tL tEf tQ1 hf
        have hfI : (cf == 0) = false := by simpa using hf
        have tM := tMe (fun q => hg (hg0.symm.trans q))
        rw [hg0] at tM
        have tEg := tE (levC nM mv (-1))
        rw [show errV (levC nM mv (-1)) = .iface 57 (.int .i64 (levC nM mv (-1))) from if_neg hg] at tEg
        obtain ⟨cg, hcg⟩ : ∃ c, levC nM mv (-1) = c := ⟨_, rfl⟩
        rw [hcg] at tM tEg tQ2 hg
        have hgI : (cg == 0) = false := by simpa using hg
        clear h hT hm hl hM hL hE hE0 tLo tLe tRo tRe tMe tMc tMo tE hp hf hg hf0 hg0 tG1 hcf tG2 tZ hcg
        generalize l.length = nn at *
        go_enter Tryd.func3, Tryd.ntmps3
        go_wp2_with fail
        refine (tP w hB0).mono ?_
        rintro e w1 ⟨rfl, hx1⟩
        have hB1 := hB0.trans (hx1.mono hB0.size)
        go_wp2_with fail
        refine (tX w1 hB1).mono ?_
        rintro e w2 ⟨gx, cx, rfl, HX, hx2⟩
        have hB2 := hB1.trans (hx2.mono hB1.size)
        go_wp2_with fail
        refine (tQ1 w2 hB2).mono ?_
        rintro e w3 ⟨rfl, hx3⟩
        have hB3 := hB2.trans (hx3.mono hB2.size)
        have HX := Hid.mkI (HX.out.below hx3)
        go_wp2_with fail
        refine (tQ2 w3 hB3).mono ?_
        rintro e w4 ⟨rfl, hx4⟩
        have hB4 := hB3.trans (hx4.mono hB3.size)
        have HX := Hid.mkI (HX.out.below hx4)
        go_wp2_with fail
        refine (tRl w4 hB4).mono ?_
        rintro e w5 ⟨g, rfl, HR, hx5⟩
        have hB5 := hB4.trans (hx5.mono hB4.size)
        have HX := Hid.mkI (HX.out.below hx5)
        go_wp2_with fail
        refine (tE0 w5 hB5).mono ?_
        rintro e w6 ⟨rfl, hx6⟩
        have hB6 := hB5.trans (hx6.mono hB5.size)
        have HX := Hid.mkI (HX.out.below hx6)
        have HR := Hid.mkI (HR.out.below hx6)
        have tJ6 := HI.out (fun i => (comF l i : Int)) _ _ w6 HR.out HX.out
        go_wp2_with fail
        refine (tJ6).mono ?_
        rintro e w7 ⟨rfl, hx7⟩
        have hB7 := hB6.trans (hx7.mono hB6.size)
        go_wp2_with fail
        refine (tL w7 hB7).mono ?_
        rintro e w8 ⟨rfl, hx8⟩
        have hB8 := hB7.trans (hx8.mono hB7.size)
        go_wp2_with fail
        refine (tEf w8 hB8).mono ?_
        rintro e w9 ⟨rfl, hx9⟩
        have hB9 := hB8.trans (hx9.mono hB8.size)
        go_wp2_with fail
        refine (tM w9 hB9).mono ?_
        rintro e w10 ⟨rfl, hx10⟩
        have hB10 := hB9.trans (hx10.mono hB9.size)
        go_wp2_with fail
        refine (tEg w10 hB10).mono ?_
        rintro e w11 ⟨rfl, hx11⟩
        have hB11 := hB10.trans (hx11.mono hB10.size)
        go_wp2_with fail
        refine (tI0 w11 hB11).mono ?_
        rintro e w12 ⟨rfl, hx12⟩
        have hB12 := hB11.trans (hx12.mono hB11.size)
        go_wp2_with fail
        go_ret
        exact ⟨rfl, hB12⟩
  · have tR := tRe hp
    have hf0 := fitC_bad (n := nL) (lv := lv) (low := 0) hp
    have hg0 := fitC_bad (n := nM) (lv := mv) (low := -1) hp
    have tL := tLe (fun q => hp (hf0.symm.trans q))
    have tM := tMe (fun q => hp (hg0.symm.trans q))
    rw [hf0] at tL
    rw [hg0] at tM
    have tEc := tE (proC l)
    rw [show errV (proC l) = .iface 57 (.int .i64 (proC l)) from if_neg hp] at tEc
    obtain ⟨c, hc⟩ : ∃ c, proC l = c := ⟨_, rfl⟩
    rw [hc] at tP tR tL tM tEc hp
    have hcI : (c == 0) = false := by simpa using hp
    clear h hT hm hl hM hL hE hE0 tLo tLe tRo tRe tMe tMc tMo tX tRl tG1 tG2 tZ tE tE0 HI tQ1 tQ2 hf0 hg0 hc hp
    generalize l.length = nn at *
    go_enter Tryd.func3, Tryd.ntmps3
    go_wp2_with fail
    refine (tP w hB0).mono ?_
    rintro e w1 ⟨rfl, hx1⟩
    have hB1 := hB0.trans (hx1.mono hB0.size)
    go_wp2_with fail
    refine (tR w1 hB1).mono ?_
    rintro e w2 ⟨rfl, hx2⟩
    have hB2 := hB1.trans (hx2.mono hB1.size)
    go_wp2_with fail
    refine (tEc w2 hB2).mono ?_
    rintro e w3 ⟨rfl, hx3⟩
    have hB3 := hB2.trans (hx3.mono hB2.size)
    go_wp2_with fail
    refine (tI0 w3 hB3).mono ?_
    rintro e w4 ⟨rfl, hx4⟩
    have hB4 := hB3.trans (hx4.mono hB3.size)
    go_wp2_with fail
    refine (tL w4 hB4).mono ?_
    rintro e w5 ⟨rfl, hx5⟩
    have hB5 := hB4.trans (hx5.mono hB4.size)
    go_wp2_with fail
    refine (tEc w5 hB5).mono ?_
    rintro e w6 ⟨rfl, hx6⟩
    have hB6 := hB5.trans (hx6.mono hB5.size)
    go_wp2_with fail
    refine (tM w6 hB6).mono ?_
    rintro e w7 ⟨rfl, hx7⟩
    have hB7 := hB6.trans (hx7.mono hB6.size)
    go_wp2_with fail
    refine (tEc w7 hB7).mono ?_
    rintro e w8 ⟨rfl, hx8⟩
    have hB8 := hB7.trans (hx8.mono hB7.size)
    go_wp2_with fail
    refine (tI0 w8 hB8).mono ?_
    rintro e w9 ⟨rfl, hx9⟩
    have hB9 := hB8.trans (hx9.mono hB8.size)
    go_wp2_with fail
    go_ret
    exact ⟨rfl, hB9⟩
end Go.Proofs.YtioimgeeamchaaaDoor
