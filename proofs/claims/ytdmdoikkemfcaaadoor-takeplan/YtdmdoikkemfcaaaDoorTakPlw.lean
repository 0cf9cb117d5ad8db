/- The walk of the law TakePlan. -/
import Derived.WalkKit
import Derived.LoopTactic
import Derived.Test.YtdmdoikkemfcaaaDoorAs
import Derived.Test.YtdmdoikkemfcaaaDoorTakFact
import Derived.Test.YtdmdoikkemfcaaaDoorTakPm
namespace Go.Proofs.YtdmdoikkemfcaaaDoor
open Go.RowKit
set_option maxRecDepth 100000

theorem error_four (w : World) (hE : ErrT w) : Calls Tryd.prog 12 #[.iface 54 (.int .i64 4), .int .i64 4] w fun e w' => e = .returned (.bool true) ∧ Below w.heap.size w w' :=
  (error_err 4 4 w hE).mono fun e w' ⟨he, hb⟩ => ⟨by rw [he]; simp, hb⟩
set_option maxHeartbeats 1000000 in
theorem takePlan_any (a0 : Option Addr) (len0 cap0 : Nat) (L : Nat → Nat) (F : Nat → Nat → Int) (r x y : Int) (w : World) (h : Grd w (.slice a0 len0 cap0) len0 L F) (hT : Tab w) (hE : ErrT w) :
    Calls Tryd.prog 3 #[.slice a0 len0 cap0, .int .i64 r, .int .i64 x, .int .i64 y] w fun e w' => e = .returned (.bool true) ∧ Below w.heap.size w w' := by
  have t0 := takeFact_any w hT
  by_cases hc : askCode len0 L F r x y = 0
  · obtain ⟨hg0, r, x, y, rfl, rfl, rfl, hx, hy, hxy, hr⟩ := askCode_ok hc
    have ok := (graphCode_ok hg0).1
    have tC := fun w1 (hB : Below w.heap.size w w1) => can_ok (h.below hB) (hT.below hB hT.size) hg0 r x y hx hy hxy hr
    have tP := fun w1 (hB : Below w.heap.size w w1) => plan_ok (h.below hB) (hT.below hB hT.size) hg0 r x y hx hy hxy hr
    have HH := Hid.mkI h
    have HE := Hid.mkI hE
    have HG := Hid.mkI hg0
    clear h hT hc hE hg0
    go_enter Tryd.func3, Tryd.ntmps3
    go_wp2_with fail
    refine t0.mono ?_
    clear t0
    rintro e w1 ⟨rfl, hB1⟩
    have tC := tC w1 hB1
    go_wp2_with fail
    refine tC.mono ?_
    clear tC
    rintro e w2 ⟨⟨bl, rfl, hbl⟩, hB2⟩
    have HBL := Hid.mkI hbl
    clear hbl
    have hB2 := hB1.trans (hB2.mono hB1.size)
    have tP := tP w2 hB2
    go_wp2_with fail
    refine tP.mono ?_
    clear tP
    rintro e w3 ⟨hpl, hB3⟩
    have hB3 := hB2.trans (hB3.mono hB2.size)
    rcases hpl with ⟨hno, rfl⟩ | ⟨D, W, hpi, ⟨_, rfl⟩ | ⟨⟨hn20, hl60⟩, sa, scp, rfl, hst⟩⟩
    · have hbf : bl = false := by
        cases bl with
        | false => rfl
        | true => exact absurd (HBL.out.1 rfl) hno
      clear HBL hno
      subst hbf
      go_wp2
      go_ret
      exact ⟨rfl, hB3⟩
    · have hbt : bl = true := HBL.out.2 ⟨D, hpi.2.1.1⟩
      clear HBL hpi
      subst hbt
      have tE := error_four w3 (HE.out.below hB3 (old_of_cell HE.out))
      go_wp2_with (go_at_call 12; refine tE.mono ?_; clear tE; rintro e w4 ⟨rfl, hB4⟩)
      go_ret
      exact ⟨rfl, hB3.trans (hB4.mono hB3.size)⟩
    · have hbt : bl = true := HBL.out.2 ⟨D, hpi.2.1.1⟩
      obtain ⟨g2, hd, hhas⟩ := plan_done ok hpi (show y < (grOf len0 F).n from hy) hxy hr hn20
      obtain ⟨hcs, hrun⟩ := runL_runG _ _ _ hd.1
      have tQ := tplay_any a0 sa len0 cap0 (bringL (grOf len0 F) r y W D len0).length scp L F (nthS (bringL (grOf len0 F) r y W D len0)) w3 (HH.out.below hB3) hst
      have hpe : playE len0 L F (nthS (bringL (grOf len0 F) r y W D len0)) (bringL (grOf len0 F) r y W D len0).length = 0 := by
        unfold playE
        rw [if_pos HG.out, if_neg (by omega)]
        exact firstNZ_none hcs
      have hnn := hd.2.2.1
      have hn0 : (grOf len0 F).n = len0 := rfl
      have HV : Hid (∀ w v, PlayV w v len0 L F (nthS (bringL (grOf len0 F) r y W D len0)) (bringL (grOf len0 F) r y W D len0).length → GrV w v g2) := fun w v hv => by
        rcases hv with ⟨k, _⟩ | ⟨_, k, _⟩
        · exact absurd hpe k
        · have hrun2 : runG (grOf len0 F) (nthS (bringL (grOf len0 F) r y W D len0)) (bringL (grOf len0 F) r y W D len0).length = g2 := hrun
          rw [hrun2] at k; exact k
      rw [hpe, errV_zero] at tQ
      have ok2 := hd.2.1
      have h8 := ok2.lt x y
      have tW := fun W' => within_any r (g2.M x y) (by omega) (by omega) W'
      rw [show subB r (g2.M x y) = true by rw [hasB, Nat.and_comm] at hhas; exact hhas] at tW
      obtain ⟨PV, hPV⟩ : ∃ PV, (fun (w : World) (v : Value) => PlayV w v len0 L F (nthS (bringL (grOf len0 F) r y W D len0)) (bringL (grOf len0 F) r y W D len0).length) = PV := ⟨_, rfl⟩
      obtain ⟨pa, hpa⟩ : ∃ pa, playAt len0 L F (nthS (bringL (grOf len0 F) r y W D len0)) (bringL (grOf len0 F) r y W D len0).length = pa := ⟨_, rfl⟩
      rw [hpa] at tQ
      have tQ : Calls Tryd.prog 13 #[.slice a0 len0 cap0, .slice sa (bringL (grOf len0 F) r y W D len0).length scp] w3 fun e w' => ∃ v, e = .returned (.tuple #[v, .int .i64 (pa : Nat), .nilIface]) ∧ PV w' v ∧ Below w3.heap.size w3 w' := by rw [← hPV]; exact tQ
      have HV : Hid (∀ w v, PV w v → GrV w v g2) := by rw [← hPV]; exact HV
      clear hPV hpa hpe hrun hcs hd hhas hpi HBL hst hn20 hl60 ok HH HG ok2
      obtain ⟨ll, hll⟩ : ∃ q, (bringL (grOf len0 F) r y W D len0).length = q := ⟨_, rfl⟩
      rw [hll] at tQ ⊢
      rw [hn0] at hnn
      clear hll hn0
      subst hbt
      go_wp2_with fail
      refine tQ.mono ?_
      clear tQ
      rintro e w4 ⟨v, rfl, hv, hB4⟩
      have hB4 := hB3.trans (hB4.mono hB3.size)
      have hV := HV.out _ _ hv
      clear hv HV
      obtain ⟨a2, cp2, rfl, hG⟩ := hV.open
      obtain ⟨b, off, B, O, C, rfl, hG2⟩ := hG (by omega)
      clear hG hV
      have a1' := hG2.top x (by omega)
      have a2' := hG2.cell x y (by omega) (by omega)
      have q1 : ¬ ((g2.n : Int) < (len0 : Int)) := by omega
      have q2 : ¬ ((g2.n : Int) ≤ (y : Int)) := by omega
      have q3 : (x : Int) < (g2.n : Int) := by omega
      have q4 : (y : Int) < (g2.n : Int) := by omega
      obtain ⟨z, hz⟩ : ∃ z, g2.M x y = z := ⟨_, rfl⟩
      rw [hz] at a2' h8 tW
      clear hz hG2
      go_wp2_with (go_at_call 14; refine (tW _).mono ?_; clear tW; rintro e w' ⟨rfl, hw⟩; obtain rfl := hw.symm)
      go_ret
      exact ⟨rfl, hB4⟩
  · have tC := fun w1 (hB : Below w.heap.size w w1) => can_err (h.below hB) r x y hc
    have tP := fun w1 (hB : Below w.heap.size w w1) => plan_err (h.below hB) r x y hc
    rw [errV_ne hc] at tC tP
    clear h hT hE
    go_enter Tryd.func3, Tryd.ntmps3
    go_wp2_with fail
    refine t0.mono ?_
    clear t0
    rintro e w1 ⟨rfl, hB1⟩
    have tC := tC w1 hB1
    have tP := tP w1 hB1
    go_wp2_with fail
    refine tC.mono ?_
    clear tC
    rintro e w' ⟨rfl, hw⟩
    obtain rfl := hw.symm
    clear hw
    go_wp2_with fail
    refine tP.mono ?_
    clear tP
    rintro e w' ⟨rfl, hw⟩
    obtain rfl := hw.symm
    clear hw
    go_wp2
    go_ret
    exact ⟨rfl, hB1⟩
end Go.Proofs.YtdmdoikkemfcaaaDoor
