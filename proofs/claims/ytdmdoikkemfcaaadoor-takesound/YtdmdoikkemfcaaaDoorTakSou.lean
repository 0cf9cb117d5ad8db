/- The walks of the laws TakeSound and TakeStays. -/
import Derived.WalkKit
import Derived.LoopTactic
import Derived.Test.YtdmdoikkemfcaaaDoorTakFact
import Derived.Test.YtdmdoikkemfcaaaDoorTakMath
import Derived.Test.YtdmdoikkemfcaaaDoorTakRun
namespace Go.Proofs.YtdmdoikkemfcaaaDoor
open Go.RowKit
set_option maxRecDepth 100000

theorem graphCode_of_ok {g : Gr} (ok : g.Ok) : graphCode g.n (fun _ => g.n) (fun i j => (g.M i j : Int)) = 0 := by
  unfold graphCode
  rw [if_neg (by have := ok.le; omega)]
  refine firstNZ_none fun i hi => ?_
  unfold rowCode
  rw [if_pos rfl]
  refine firstNZ_none fun j hj => ?_
  unfold cellCode
  have h8 := ok.lt i j
  simp only
  rw [if_neg (by omega), if_neg]
  rintro ⟨rfl, h⟩
  exact h (by rw [ok.self i]; rfl)
theorem grOf_of_ok {g : Gr} (ok : g.Ok) : grOf g.n (fun i j => (g.M i j : Int)) = g := by
  obtain ⟨n, M⟩ := g
  unfold grOf
  congr 1
  funext i j
  simp only
  split
  · simp
  · rename_i h
    exact (ok.out i j (by simp only; omega)).symm
set_option maxHeartbeats 1000000 in
theorem takeSound_any (a0 a1 : Option Addr) (len0 cap0 len1 cap1 : Nat) (L : Nat → Nat) (F : Nat → Nat → Int) (S : Nat → Stp) (r x y : Int) (w : World) (h : Grd w (.slice a0 len0 cap0) len0 L F) (hS : AtStps w a1 len1 S) (hT : Tab w) :
    Calls Tryd.prog 4 #[.slice a0 len0 cap0, .slice a1 len1 cap1, .int .i64 r, .int .i64 x, .int .i64 y] w fun e w' => e = .returned (.bool true) ∧ Below w.heap.size w w' := by
  have t0 := takeFact_any w hT
  have tP := fun w1 (hB : Below w.heap.size w w1) => tplay_any a0 a1 len0 cap0 len1 cap1 L F S w1 (h.below hB) (hS.below hB)
  by_cases hc : askCode len0 L F r x y = 0
  · obtain ⟨hg0, r, x, y, rfl, rfl, rfl, hx, hy, hxy, hr⟩ := askCode_ok hc
    have ok := (graphCode_ok hg0).1
    have tC := fun w1 (hB : Below w.heap.size w w1) => can_ok (h.below hB) (hT.below hB hT.size) hg0 r x y hx hy hxy hr
    clear h hS hT hc
    go_enter Tryd.func4, Tryd.ntmps4
    go_wp2_with fail
    refine t0.mono ?_
    clear t0
    rintro e w1 ⟨rfl, hB1⟩
    have tC := tC w1 hB1
    go_wp2_with fail
    refine tC.mono ?_
    clear tC
    rintro e w2 ⟨⟨bl, rfl, hbl⟩, hB2⟩
    have HBL := Hid.mkI hbl
    clear hbl
    have hB2 := hB1.trans (hB2.mono hB1.size)
    have tP := tP w2 hB2
    go_wp2_with fail
    refine tP.mono ?_
    clear tP
    rintro e w3 ⟨v, rfl, hv, hB3⟩
    have hB3 := hB2.trans (hB3.mono hB2.size)
    rcases hv with ⟨hE, rfl⟩ | ⟨hE, hV, ok2⟩
    · rw [errV_ne hE]
      go_wp2
      go_ret
      exact ⟨rfl, hB3⟩
    · rw [hE, errV_zero]
      obtain ⟨hg, hm, hcs⟩ := playE_ok hE
      have hcan := canP_run ok (S := S) (m := len1) hcs hr hx hy
      have hnn := runG_n (grOf len0 F) S len1
      have hn0 : (grOf len0 F).n = len0 := rfl
      obtain ⟨g2, hg2⟩ : ∃ g2, runG (grOf len0 F) S len1 = g2 := ⟨_, rfl⟩
      rw [hg2] at hV ok2 hcan hnn
      obtain ⟨a2, cp2, rfl, hG⟩ := hV.open
      obtain ⟨b, off, B, O, C, rfl, hG'⟩ := hG (by omega)
      clear hG
      have hG := hG'
      clear hG'
      have a1' := hG.top x (by omega)
      have a2' := hG.cell x y (by omega) (by omega)
      have h8 := ok2.lt x y
      have q1 : ¬ ((g2.n : Int) < (len0 : Int)) := by omega
      have q2 : ¬ ((g2.n : Int) ≤ (y : Int)) := by omega
      have q3 : (x : Int) < (g2.n : Int) := by omega
      have q4 : (y : Int) < (g2.n : Int) := by omega
      have tW := fun W => within_any r (g2.M x y) (by omega) (by omega) W
      have hfin : bl = false → subB r (g2.M x y) = false := fun hb => by
        cases hs : subB r (g2.M x y) with
        | false => rfl
        | true =>
          have h1 := HBL.out.2 (hcan.1 (canP_has (show x < g2.n by omega) (by rw [hasB, Nat.and_comm]; exact hs)))
          rw [hb] at h1; cases h1
      have HFin := Hid.mkI hfin
      obtain ⟨z, hz⟩ : ∃ z, g2.M x y = z := ⟨_, rfl⟩
      rw [hz] at a2' h8 tW HFin
      clear hz hfin hcan hcs hE hG hV ok2 hg2 HBL hg0 hg ok hnn hn0
      cases bl with
      | true =>
        go_wp2
        go_ret
        exact ⟨rfl, hB3⟩
      | false =>
        rw [HFin.out rfl] at tW
        go_wp2_with (go_at_call 14; refine (tW _).mono ?_; clear tW; rintro e w' ⟨rfl, hw⟩; obtain rfl := hw.symm)
        go_ret
        exact ⟨rfl, hB3⟩
  · have tC := fun w1 (hB : Below w.heap.size w w1) => can_err (h.below hB) r x y hc
    rw [errV_ne hc] at tC
    clear h hS hT
    go_enter Tryd.func4, Tryd.ntmps4
    go_wp2_with fail
    refine t0.mono ?_
    clear t0
    rintro e w1 ⟨rfl, hB1⟩
    have tC := tC w1 hB1
    go_wp2_with fail
    refine tC.mono ?_
    clear tC
    rintro e w' ⟨rfl, hw⟩
    obtain rfl := hw.symm
    clear hw
    have tP := tP w1 hB1
    go_wp2_with fail
    refine tP.mono ?_
    clear tP
    rintro e w3 ⟨v, rfl, hv, hB3⟩
    have hB3 := hB1.trans (hB3.mono hB1.size)
    go_wp2
    go_ret
    exact ⟨rfl, hB3⟩
set_option maxHeartbeats 1000000 in
theorem takeStays_any (a0 a1 : Option Addr) (len0 cap0 len1 cap1 : Nat) (L : Nat → Nat) (F : Nat → Nat → Int) (S : Nat → Stp) (r x y : Int) (w : World) (h : Grd w (.slice a0 len0 cap0) len0 L F) (hS : AtStps w a1 len1 S) (hT : Tab w) :
    Calls Tryd.prog 5 #[.slice a0 len0 cap0, .slice a1 len1 cap1, .int .i64 r, .int .i64 x, .int .i64 y] w fun e w' => e = .returned (.bool true) ∧ Below w.heap.size w w' := by
  have t0 := takeFact_any w hT
  have tP := fun w1 (hB : Below w.heap.size w w1) => tplay_any a0 a1 len0 cap0 len1 cap1 L F S w1 (h.below hB) (hS.below hB)
  by_cases hc : askCode len0 L F r x y = 0
  · obtain ⟨hg0, r, x, y, rfl, rfl, rfl, hx, hy, hxy, hr⟩ := askCode_ok hc
    have ok := (graphCode_ok hg0).1
    have tC := fun w1 (hB : Below w.heap.size w w1) => can_ok (h.below hB) (hT.below hB hT.size) hg0 r x y hx hy hxy hr
    have HT := Hid.mkI hT
    clear h hS hT hc
    go_enter Tryd.func5, Tryd.ntmps5
    go_wp2_with fail
    refine t0.mono ?_
    clear t0
    rintro e w1 ⟨rfl, hB1⟩
    have tC := tC w1 hB1
    go_wp2_with fail
    refine tC.mono ?_
    clear tC
    rintro e w2 ⟨⟨bl, rfl, hbl⟩, hB2⟩
    have HBL := Hid.mkI hbl
    clear hbl
    have hB2 := hB1.trans (hB2.mono hB1.size)
    have tP := tP w2 hB2
    go_wp2_with fail
    refine tP.mono ?_
    clear tP
    rintro e w3 ⟨v, rfl, hv, hB3⟩
    have hB3 := hB2.trans (hB3.mono hB2.size)
    rcases hv with ⟨hE, rfl⟩ | ⟨hE, hV, ok2⟩
    · rw [errV_ne hE]
      go_wp2
      go_ret
      exact ⟨rfl, hB3⟩
    · rw [hE, errV_zero]
      obtain ⟨hg, hm, hcs⟩ := playE_ok hE
      have hcan := canP_run ok (S := S) (m := len1) hcs hr hx hy
      have hnn := runG_n (grOf len0 F) S len1
      have hn0 : (grOf len0 F).n = len0 := rfl
      obtain ⟨g2, hg2⟩ : ∃ g2, runG (grOf len0 F) S len1 = g2 := ⟨_, rfl⟩
      rw [hg2] at hV ok2 hcan hnn
      obtain ⟨a2, cp2, rfl, -⟩ := hV.open
      have tC2 := can_ok hV (HT.out.below hB3 HT.out.size) (graphCode_of_ok ok2) r x y (by omega) (by omega) hxy hr
      rw [grOf_of_ok ok2] at tC2
      have HC := Hid.mkI hcan
      clear hcan hcs hE hV ok2 hg2 hg0 hg ok hnn hn0
      go_wp2_with fail
      refine tC2.mono ?_
      clear tC2
      rintro e w4 ⟨⟨bl2, rfl, hbl2⟩, hB4⟩
      have hsame : bl2 = bl := by
        rw [Bool.eq_iff_iff]
        exact hbl2.trans (HC.out.trans HBL.out.symm)
      clear hbl2 HBL HC
      subst hsame
      cases bl2
      all_goals
        go_wp2
        go_ret
        exact ⟨rfl, hB3.trans (hB4.mono hB3.size)⟩
  · have tC := fun w1 (hB : Below w.heap.size w w1) => can_err (h.below hB) r x y hc
    rw [errV_ne hc] at tC
    clear h hS hT
    go_enter Tryd.func5, Tryd.ntmps5
    go_wp2_with fail
    refine t0.mono ?_
    clear t0
    rintro e w1 ⟨rfl, hB1⟩
    have tC := tC w1 hB1
    go_wp2_with fail
    refine tC.mono ?_
    clear tC
    rintro e w' ⟨rfl, hw⟩
    obtain rfl := hw.symm
    clear hw
    have tP := tP w1 hB1
    go_wp2_with fail
    refine tP.mono ?_
    clear tP
    rintro e w3 ⟨v, rfl, hv, hB3⟩
    have hB3 := hB1.trans (hB3.mono hB1.size)
    go_wp2
    go_ret
    exact ⟨rfl, hB3⟩
end Go.Proofs.YtdmdoikkemfcaaaDoor
