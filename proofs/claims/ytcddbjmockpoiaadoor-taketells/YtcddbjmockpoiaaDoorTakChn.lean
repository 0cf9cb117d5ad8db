/- Which chain the document takes (Chain). -/
import Derived.WalkKit
import Derived.LoopTactic
import Derived.OwnWalk
import Derived.Test.YtcddbjmockpoiaaDoorTakLex
namespace Go.Proofs.YtcddbjmockpoiaaDoor
open Go.RowKit
set_option maxRecDepth 100000

set_option maxHeartbeats 2000000 in
theorem refChain_any {w : World} {g : Gr} {b off : Nat} {B O C : Nat → Nat} (hG0 : GrAt w b off B O C g) (ok : g.Ok) (cp r x y : Nat) (hr8 : r < 8) (hx : x < g.n) (hy : y < g.n) :
    Calls Tryd.prog 15 #[.slice (some ⟨b, off, none⟩) g.n cp, .int .i64 r, .int .i64 x, .int .i64 y] w fun e w' => ∃ v n f, e = .returned v ∧ Way0 w' v n f ∧ n ≤ 20 ∧ BestOf g.n (lkRows g) (holdN g r y) x g.n n f ∧ Below w.heap.size w w' := by
  have hm := ok.le
  have tl := refLinks_any hG0 ok (by omega) cp
  have hr := lkRows_right ok
  have hyI : (y : Int) < (g.n : Int) := by omega
  go_enter Tryd.func15, Tryd.ntmps15
  go_wp2_with fail
  refine tl.mono ?_
  clear tl
  rintro e w1 ⟨g', cp', rfl, hg', hoL, hB1⟩
  go_wp2
  go_loopw [10, 11] (fun o p wr => ∃ (k n : Nat) (f : Nat → Nat) (ov : Value), ov = o ∧ k ≤ g.n ∧ p = .int .i64 k ∧ Way0 wr ov n f ∧ n ≤ 20 ∧ Hid (BestOf g.n (lkRows g) (holdN g r y) x k n f) ∧ Below w1.heap.size w1 wr) (fun _ p _ => g.n - (intOf p).toNat)
  case atStart => exact ⟨0, 0, fun _ => 0, _, rfl, by omega, rfl, ⟨_, _, rfl, .inl rfl⟩, by omega, BestOf.start _ _ _ _, Below.refl _ _⟩
  case round =>
    obtain ⟨k, n, f, ov, rfl, hk, rfl, hO, hn, HB, hBr⟩ := hrel
    have hbw := hBr.size
    by_cases hlt : k < g.n
    · have hltI : (k : Int) < (g.n : Int) := by omega
      have hG := hG0.below (hB1.trans (hBr.mono hB1.size))
      have a1 := hG.top k hlt
      have a2 := hG.cell k y hlt hy
      have m1 := ok.lt k y
      have tW := fun W => within_any r (g.M k y) (by omega) (by omega) W
      have hT : Hid ((holdN g r y).testBit k = subB r (g.M k y)) := by
        show _ = _
        rw [Bool.eq_iff_iff, holdN_bit]
        have : hasB (g.M k y) r = subB r (g.M k y) := by rw [hasB, subB, Nat.and_comm]
        rw [this]
        exact ⟨fun h => h.2, fun h => ⟨hlt, h⟩⟩
      cases hb : subB r (g.M k y) with
      | false =>
        rw [hb] at tW hT
        have HN : Hid (BestOf g.n (lkRows g) (holdN g r y) x (k + 1) n f) := HB.out.pass fun h => by rw [hT.out] at h; cases h
        obtain ⟨z, hz⟩ : ∃ z, g.M k y = z := ⟨_, rfl⟩
        rw [hz] at a2 tW m1
        clear hb hT hz hG
        go_wp2_with (go_at_call 21; refine (tW _).mono ?_; clear tW; rintro e w' ⟨rfl, hw⟩; obtain rfl := hw.symm)
        go_roundw
        case rel => exact ⟨k + 1, n, f, _, rfl, by omega, by go_num, hO, hn, HN, hBr⟩
        case measure => simp [intOf]; omega
      | true =>
        rw [hb] at tW hT
        have hlies : Lies wr g' 0 g.n (lkRows g) := (hoL.below hBr).lies fun j hj => listOf_get _ hj
        have ts := refSteps_any g' 0 g.n cp' k (lkRows g) hr hlt wr hlies
        obtain ⟨z, hz⟩ : ∃ z, g.M k y = z := ⟨_, rfl⟩
        rw [hz] at a2 tW m1
        clear hb hz hG
        by_cases hR : Reach (lkRows g) x k
        · obtain ⟨D, hd⟩ := hR.dist
          have hDn := hd.few hr hx
          have t := refWay_yes g' 0 g.n cp' x k D (lkRows g) hr hx hlt hd wr hlies ts
          have HD := Hid.mkI hd
          clear ts hR hd hlies
          go_wp2_with (go_at_call 21; refine (tW _).mono ?_; clear tW; rintro e w' ⟨rfl, hw⟩; obtain rfl := hw.symm)
          refine t.mono ?_
          clear t
          rintro e w2 ⟨gv, cpv, V, rfl, hgv, hoV, hV0, hWV, hB2⟩
          have hO2 := hO.below hB2
          have hB2' := hBr.trans (hB2.mono hbw)
          have HWV : Hid (V 0 = x ∧ WayTo g.n (lkRows g) k D D V) := ⟨hV0, hWV⟩
          have hV0 : Way0 w2 (.slice (some ⟨gv, 0, none⟩) (D + 1 : Nat) cpv) (D + 1) V := ⟨_, _, rfl, .inr ⟨gv, rfl, hoV⟩⟩
          have t3 := less3_any _ _ (D + 1) n V f w2 (by omega) (by omega) hV0 hO2
          obtain ⟨c, hc⟩ : ∃ c, lessL (D + 1) V n f = c := ⟨_, rfl⟩
          rw [hc] at t3
          have HC := Hid.mkI hc
          clear hc hO a1 a2 hWV hoV
          cases c with
          | true =>
            have HN : Hid (BestOf g.n (lkRows g) (holdN g r y) x (k + 1) (D + 1) V) := HB.out.better hT.out HD.out HWV.out.2 HWV.out.1 HC.out
            have hO3 := fun q => hV0.below (below_drawn (Below.refl w2.heap.size w2) q)
            have hB3 := fun q => below_drawn hB2' q
            clear hV0
            go_wp2_with (go_at_call 31; refine t3.mono ?_; clear t3; rintro e w3 ⟨rfl, q, rfl⟩)
            go_roundw
            case rel => exact ⟨k + 1, D + 1, V, _, rfl, by omega, by go_num, hO3 _, by omega, HN, hB3 _⟩
            case measure => simp [intOf]; omega
          | false =>
            have HN : Hid (BestOf g.n (lkRows g) (holdN g r y) x (k + 1) n f) := HB.out.worse HD.out HWV.out.2 HWV.out.1 HC.out
            have hO3 := fun q => hO2.below (below_drawn (Below.refl w2.heap.size w2) q)
            have hB3 := fun q => below_drawn hB2' q
            clear hV0
            go_wp2_with (go_at_call 31; refine t3.mono ?_; clear t3; rintro e w3 ⟨rfl, q, rfl⟩)
            go_roundw
            case rel => exact ⟨k + 1, n, f, _, rfl, by omega, by go_num, hO3 _, hn, HN, hB3 _⟩
            case measure => simp [intOf]; omega
        · have t := refWay_no (some ⟨g', 0, none⟩) g.n cp' x k hx wr (ts.mono fun e w' ⟨gg, cc, L, he, hgg, ho, hL, hB⟩ => ⟨gg, cc, L, he, hgg, ho, by
            rcases hL x hx with ⟨h1, _⟩ | ⟨h1, _⟩
            · exact absurd h1.1.reach hR
            · exact h1, hB⟩)
          have HN : Hid (BestOf g.n (lkRows g) (holdN g r y) x (k + 1) n f) := HB.out.pass fun _ => hR
          clear ts hR hlies
          go_wp2_with (first | (go_at_call 21; refine (tW _).mono ?_; clear tW; rintro e w' ⟨rfl, hw⟩; obtain rfl := hw.symm) | (go_at_call 30; refine t.mono ?_; clear t; rintro e w2 ⟨rfl, hB2⟩; have hO2 := hO.below hB2; have hB2' := hBr.trans (hB2.mono hbw); clear hO a1 a2))
          go_roundw
          case rel => exact ⟨k + 1, n, f, _, rfl, by omega, by go_num, hO2, hn, HN, hB2'⟩
          case measure => simp [intOf]; omega
    · obtain rfl : k = g.n := by omega
      have HO := Hid.mkI hO
      clear hO
      go_wp2
      go_ret
      exact ⟨_, n, f, rfl, HO.out, hn, HB.out, hB1.trans (hBr.mono hB1.size)⟩
end Go.Proofs.YtcddbjmockpoiaaDoor
