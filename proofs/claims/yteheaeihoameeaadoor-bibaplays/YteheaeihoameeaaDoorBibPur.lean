/- The walk of the law BibaPure. -/
import Derived.WalkKit
import Derived.LoopTactic
import Derived.Deep.LoopGhost
import Derived.Deep.Cut
import Derived.Deep.QuietTactic
import Derived.BigQuiet
import Derived.Test.YteheaeihoameeaaDoorBibFact
import Derived.Test.YteheaeihoameeaaDoorAsksOpen
namespace Go.Proofs.YteheaeihoameeaaDoor
open Go.RowKit
set_option maxRecDepth 100000

theorem upto100 (q : Nat) : ∃ Z, (Z = q ∧ q ≤ 100) ∨ (Z = 100 ∧ 100 < q) := by
  by_cases h : q ≤ 100
  · exact ⟨q, .inl ⟨rfl, h⟩⟩
  · exact ⟨100, .inr ⟨rfl, by omega⟩⟩
theorem levs_nat {w : World} {a : Option Addr} {m : Nat} {ys : List Int} (h2 : AtNums w a m ys) (hy : AllLev m ys) (h0 : 0 < m) : ∃ b off, a = some ⟨b, off, none⟩ ∧
    ∀ W, Below w.heap.size w W → ∀ g, g < m → W.cell? ⟨b, off + g, none⟩ = some (.int .i64 ((ys[g]?.getD 0).toNat : Int)) := by
  rcases h2 with h | ⟨b, off, rfl, hl⟩
  · omega
  · refine ⟨b, off, rfl, fun W hB g hg => ?_⟩
    rw [(hB.cell (p := ⟨b, off + g, none⟩) hl.old).trans (hl.cell g hg), ← (lev_cast (hy g hg)).1]
set_option maxHeartbeats 1000000 in
theorem bibPur_err (a1 a2 a3 : Option Addr) (n c1 m c2 q c3 : Nat) (c : Int) (w : World) (hF : BFactIs w)
    (hN : ∀ W, Below w.heap.size w W → Calls Tryd.prog 16 #[.slice a1 n c1, .slice a2 m c2] W fun e w' => e = .returned (.tuple #[.pointer none, .iface 63 (.int .i64 c)]) ∧ w' = W) :
    Calls Tryd.prog 4 #[.slice a1 n c1, .slice a2 m c2, .slice a3 q c3] w fun e w' => e = .returned (.bool true) ∧ Below w.heap.size w w' := by
  have tF := hF w (Below.refl _ _)
  clear hF
  go_enter Tryd.func4, Tryd.ntmps4
  go_wp2_with (first | (go_at_call 15; refine tF.mono ?_; clear tF; rintro e w1 ⟨rfl, hB1⟩; have tN := hN w1 hB1; clear hN) | (go_at_call 16; refine tN.mono ?_; clear tN; rintro e w2 ⟨rfl, rfl⟩))
  go_ret
  exact ⟨rfl, hB1⟩
set_option maxHeartbeats 80000000 in
theorem bibPur_in (a1 a2 a3 : Option Addr) (n c1 m c2 q c3 : Nat) (zs ys : List Int) (k0 k1 k2 k3 : Nat → Int) (w : World) (hF : BFactIs w)
    (h2 : AtNums w a2 m ys) (h3 : AtAsks w a3 q k0 k1 k2 k3) (hm8 : m ≤ 8) (hy : AllLev m ys)
    (hN : ∀ W, Below w.heap.size w W → Calls Tryd.prog 16 #[.slice a1 n c1, .slice a2 m c2] W fun e w' => ∃ B au af gu gf cu cf, e = .returned (.tuple #[.pointer (some ⟨B, 0, none⟩), .nilIface]) ∧ BMon W.heap.size w'.heap.size B au af gu gf cu cf w' (newBib n m zs ys) ∧ Below W.heap.size W w')
    (Z : Nat) (hZ : (Z = q ∧ q ≤ 100) ∨ (Z = 100 ∧ 100 < q)) :
    Calls Tryd.prog 4 #[.slice a1 n c1, .slice a2 m c2, .slice a3 q c3] w fun e w' => e = .returned (.bool true) ∧ Below w.heap.size w w' := by
  have tF := hF w (Below.refl _ _)
  have hm8' : (m : Int) ≤ 8 := by omega
  clear hF
  go_enter Tryd.func4, Tryd.ntmps4
  go_wp2_with (first | (go_at_call 15; refine tF.mono ?_; clear tF; rintro e w1 ⟨rfl, hB1⟩; have tN := hN w1 hB1; clear hN) | (go_at_call 16; refine tN.mono ?_; clear tN; rintro e w2 ⟨B, au, af, gu, gf, cu, cf, rfl, hM, hB2⟩))
  have hn0 := hB1.size
  have hB : Below w.heap.size w w2 := hB1.trans (hB2.mono hB1.size)
  clear hB1 hB2
  go_loopg [10] 100 (fun g i wr => ∃ (k : Nat) (s : BibSt), k ≤ Z ∧ g = 100 - k ∧ i = .int .i64 k ∧ BMon w1.heap.size w2.heap.size B au af gu gf cu cf wr s ∧ Hid (BAlike (newBib n m zs ys) s) ∧ Hid (Pure s) ∧ Below w.heap.size w wr)
  case atStart => exact ⟨0, _, by omega, rfl, rfl, hM, BAlike.refl _, pure_new _ _ _ _, hB⟩
  case round =>
    clear hM hB
    obtain ⟨k, s, hk, rfl, rfl, hM, HA, HP, hB⟩ := hrel
    by_cases hlt : k < Z
    · as_aux_lemma =>
      have hq1 : (k : Int) < (q : Int) := by omega
      have hq2 : (k : Int) < 100 := by omega
      rcases h3 with h3 | ⟨b, off, rfl, hl⟩
      · omega
      have e0 := (hB.cell (p := ⟨b, off + k * 4, none⟩) hl.old).trans (hl.c0 k (by omega))
      have e1 := (hB.cell (p := ⟨b, off + k * 4 + 1, none⟩) hl.old).trans (hl.c1 k (by omega))
      have e2 := (hB.cell (p := ⟨b, off + k * 4 + 2, none⟩) hl.old).trans (hl.c2 k (by omega))
      have e3 := (hB.cell (p := ⟨b, off + k * 4 + 3, none⟩) hl.old).trans (hl.c3 k (by omega))
      have tA := biAsk_any hM (k0 k) (k1 k) (k2 k) (k3 k)
      have HA2 : Hid (BAlike (newBib n m zs ys) (askBib s (k0 k) (k1 k) (k2 k)).2) := HA.out.trans (askBib_alike _ _ _ _)
      have HP2 : Hid (Pure (askBib s (k0 k) (k1 k) (k2 k)).2) := pure_ask HP.out _ _ _
      obtain ⟨v, hv⟩ : ∃ v, errV (askBib s (k0 k) (k1 k) (k2 k)).1 = v := ⟨_, rfl⟩
      obtain ⟨s', hs'⟩ : ∃ x, (askBib s (k0 k) (k1 k) (k2 k)).2 = x := ⟨_, rfl⟩
      rw [hv, hs'] at tA
      rw [hs'] at HA2 HP2
      clear hv hs' HA HP
      have hnf : s'.nf = m := HA2.out.nf
      have lB := hM.ltB
      have lo := hM.low
      go_wp2_with (go_at_call 17; refine tA.mono ?_; clear tA; rintro e w3 ⟨rfl, hM3, hBt⟩; have hB3 : Below w.heap.size w w3 := hB.trans ((hBt.below (by omega)).mono hn0); clear hBt)
      clear e0 e1 e2 e3 hM hB hl
      go_loopg [11] m (fun g i wi => ∃ f : Nat, f ≤ m ∧ g = m - f ∧ i = .int .i64 f ∧ BMon w1.heap.size w2.heap.size B au af gu gf cu cf wi s' ∧ Below w.heap.size w wi)
      case atStart => exact ⟨0, by omega, rfl, rfl, hM3, hB3⟩
      case round =>
        clear hM3 hB3
        obtain ⟨f, hf, rfl, rfl, hM, hB⟩ := hrel
        by_cases hft : f < m
        · as_aux_lemma =>
          have hf' : (f : Int) < (m : Int) := by omega
          obtain ⟨b2, o2, rfl, hcl⟩ := levs_nat h2 hy (by omega)
          have j1 := hcl wr hB f hft
          have tH := fun nn => worst_in (hM.drawn nn) f (by omega)
          have hfl : s'.fl f = (ys[f]?.getD 0).toNat := by rw [HA2.out.fl]; rfl
          have hle := HP2.out.fs f (by omega)
          rw [hfl] at hle
          obtain ⟨x, hx⟩ : ∃ x, s'.fw f = x := ⟨_, rfl⟩
          obtain ⟨y, hy'⟩ : ∃ y, (ys[f]?.getD 0).toNat = y := ⟨_, rfl⟩
          rw [hx] at tH hle
          rw [hy'] at j1 hle
          clear hx hy' hfl hcl
          have hle' : (y : Int) ≤ (x : Int) := by omega
          go_wp2
          go_quiet ((go_at_call 18; exact Calls.quiet_of_same (tH _)))
          go_wp2
          go_roundg (m - (f + 1))
          case measure => omega
          case rel => exact ⟨f + 1, by omega, rfl, by go_num, hM.drawn _, below_drawn hB _⟩
        · have hge : (m : Int) ≤ (f : Int) := by omega
          go_wp2
          go_roundg (100 - (k + 1))
          case measure => omega
          case rel => exact ⟨k + 1, s', by omega, rfl, by go_num, hM, HA2, HP2, hB⟩
    · have hex : (q : Int) ≤ (k : Int) ∨ ((k : Int) < (q : Int) ∧ 100 ≤ (k : Int)) := by omega
      clear hlt hZ hk h3
      rcases hex with hx | ⟨hx, hx2⟩
      all_goals as_aux_lemma =>
        go_wp2
        go_ret
        exact ⟨rfl, hB⟩
theorem bibPur_any (a1 a2 a3 : Option Addr) (n c1 m c2 q c3 : Nat) (zs ys : List Int) (k0 k1 k2 k3 : Nat → Int) (w : World) (h1 : AtNums w a1 n zs) (h2 : AtNums w a2 m ys) (h3 : AtAsks w a3 q k0 k1 k2 k3) (hE : ErrT w) :
    Calls Tryd.prog 4 #[.slice a1 n c1, .slice a2 m c2, .slice a3 q c3] w fun e w' => e = .returned (.bool true) ∧ Below w.heap.size w w' := by
  have hF := bibaFact_is w hE
  rcases biNew_is a1 a2 n c1 m c2 zs ys w h1 h2 with ⟨c, _, _, hN⟩ | ⟨hn, hm, hz, hy, hN⟩
  · exact bibPur_err a1 a2 a3 n c1 m c2 q c3 c w hF hN
  · obtain ⟨Z, hZ⟩ := upto100 q
    exact bibPur_in a1 a2 a3 n c1 m c2 q c3 zs ys k0 k1 k2 k3 w hF h2 h3 hm hy hN Z hZ
end Go.Proofs.YteheaeihoameeaaDoor
