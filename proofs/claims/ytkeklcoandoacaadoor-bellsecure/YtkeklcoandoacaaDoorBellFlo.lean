/- The walk of the law BellFlows. -/
import Derived.WalkKit
import Derived.LoopTactic
import Derived.Deep.LoopGhost
import Derived.Deep.Cut
import Derived.Deep.QuietTactic
import Derived.BigQuiet
import Derived.Deep.RegionHeld3
import Derived.Deep.DrawnRows
import Derived.Test.YtkeklcoandoacaaDoorBellLaws
namespace Go.Proofs.YtkeklcoandoacaaDoor
open Go.RowKit
attribute [local go_sem ↓] Go.wp_at_zero Go.wp_at_succ
set_option maxRecDepth 100000

theorem labs_nat {w : World} {a : Option Addr} {m : Nat} {y : Nat → Int × Int} (h2 : AtLabs w a m y) (hy : AllLab m y) (h0 : 0 < m) : ∃ b off, a = some ⟨b, off, none⟩ ∧
    ∀ W, Below w.heap.size w W → ∀ g, g < m → W.cell? ⟨b, off + g * 2, none⟩ = some (.int .i64 ((y g).1.toNat : Int)) ∧ W.cell? ⟨b, off + g * 2 + 1, none⟩ = some (.int .i64 ((y g).2.toNat : Int)) := by
  rcases h2 with h | ⟨b, off, rfl, hl⟩
  · omega
  · refine ⟨b, off, rfl, fun W hB g hg => ⟨?_, ?_⟩⟩
    · rw [(hB.cell (p := ⟨b, off + g * 2, none⟩) hl.old).trans (hl.c1 g hg), ← (lab_cast (hy g hg)).1]
    · rw [(hB.cell (p := ⟨b, off + g * 2 + 1, none⟩) hl.old).trans (hl.c2 g hg), ← (lab_cast (hy g hg)).2.1]

set_option maxHeartbeats 1000000 in
theorem bellFlo_err (a1 a2 a3 : Option Addr) (n c1 m c2 q c3 : Nat) (c : Int) (w : World) (hF : FactIs w)
    (hN : ∀ W, Below w.heap.size w W → Calls Tryd.prog 8 #[.slice a1 n c1, .slice a2 m c2] W fun e w' => e = .returned (.tuple #[.pointer none, .iface 58 (.int .i64 c)]) ∧ Below W.heap.size W w') :
    Calls Tryd.prog 3 #[.slice a1 n c1, .slice a2 m c2, .slice a3 q c3] w fun e w' => e = .returned (.bool true) ∧ Below w.heap.size w w' := by
  have tF := hF w (Below.refl _ _)
  clear hF
  go_enter Tryd.func3, Tryd.ntmps3
  go_wp2_with (first | (go_at_call 7; refine tF.mono ?_; clear tF; rintro e w1 ⟨rfl, hB1⟩; have tN := hN w1 hB1; clear hN) | (go_at_call 8; refine tN.mono ?_; clear tN; rintro e w2 ⟨rfl, hB2⟩))
  go_ret
  exact ⟨rfl, hB1.trans (hB2.mono hB1.size)⟩
set_option maxHeartbeats 80000000 in
theorem bellFlo_in (a1 a2 a3 : Option Addr) (n c1 m c2 q c3 : Nat) (z y : Nat → Int × Int) (k0 k1 k2 k3 : Nat → Int) (w : World) (hT : Tab w) (hF : FactIs w)
    (h2 : AtLabs w a2 m y) (h3 : AtAsks w a3 q k0 k1 k2 k3) (ok0 : BellOk (newSt n m z y)) (hy : AllLab m y)
    (hN : ∀ W, Below w.heap.size w W → Calls Tryd.prog 8 #[.slice a1 n c1, .slice a2 m c2] W fun e w' => ∃ B au af gu gf cu cf, e = .returned (.tuple #[.pointer (some ⟨B, 0, none⟩), .nilIface]) ∧ Mon W.heap.size B au af gu gf cu cf w' (newSt n m z y) ∧ Below W.heap.size W w')
    (Z : Nat) (hZ : (Z = q ∧ q ≤ 100) ∨ (Z = 100 ∧ 100 < q)) :
    Calls Tryd.prog 3 #[.slice a1 n c1, .slice a2 m c2, .slice a3 q c3] w fun e w' => e = .returned (.bool true) ∧ Below w.heap.size w w' := by
  have tF := hF w (Below.refl _ _)
  have hm8 : m ≤ 8 := ok0.nf
  have hm8' : (m : Int) ≤ 8 := by omega
  clear hF
  go_enter Tryd.func3, Tryd.ntmps3
  go_wp2_with (first | (go_at_call 7; refine tF.mono ?_; clear tF; rintro e w1 ⟨rfl, hB1⟩; have tN := hN w1 hB1; clear hN) | (go_at_call 8; refine tN.mono ?_; clear tN; rintro e w2 ⟨B, au, af, gu, gf, cu, cf, rfl, hM, hB2⟩))
  have hn0 := hB1.size
  have hB : Below w.heap.size w w2 := hB1.trans (hB2.mono hB1.size)
  clear hB1 hB2
  go_loopg [10] 100 (fun g i wr => ∃ (k : Nat) (s : BellSt), k ≤ Z ∧ g = 100 - k ∧ i = .int .i64 k ∧ Mon w1.heap.size B au af gu gf cu cf wr s ∧ Hid (BellOk s) ∧ Hid (Alike (newSt n m z y) s) ∧ Hid (Flow s) ∧ Below w.heap.size w wr)
  case atStart => exact ⟨0, _, by omega, rfl, rfl, hM, ok0, Alike.refl _, flow_new _ _ _ _, hB⟩
  case round =>
    clear hM hB
    obtain ⟨k, s, hk, rfl, rfl, hM, HO, HA, HW, hB⟩ := hrel
    by_cases hlt : k < Z
    · as_aux_lemma =>
      have hq1 : (k : Int) < (q : Int) := by omega
      have hq2 : (k : Int) < 100 := by omega
      rcases h3 with h3 | ⟨b, off, rfl, hl⟩
      · omega
      have e0 := (hB.cell (p := ⟨b, off + k * 4, none⟩) hl.old).trans (hl.c0 k (by omega))
      have e1 := (hB.cell (p := ⟨b, off + k * 4 + 1, none⟩) hl.old).trans (hl.c1 k (by omega))
      have e2 := (hB.cell (p := ⟨b, off + k * 4 + 2, none⟩) hl.old).trans (hl.c2 k (by omega))
      have e3 := (hB.cell (p := ⟨b, off + k * 4 + 3, none⟩) hl.old).trans (hl.c3 k (by omega))
      have tA := askIs_of (B := B) (gu := gu) (gf := gf) (cu := cu) (cf := cf) (au := au) (af := af) hT hn0 HO.out (k0 k) (k1 k) (k2 k) (k3 k) wr hB hM
      have HO2 : Hid (BellOk (askB s (k0 k) (k1 k) (k2 k) (k3 k)).2) := askB_ok HO.out _ _ _ _
      have HA2 : Hid (Alike (newSt n m z y) (askB s (k0 k) (k1 k) (k2 k) (k3 k)).2) := HA.out.trans (askB_alike _ _ _ _ _)
      have HW2 : Hid (Flow (askB s (k0 k) (k1 k) (k2 k) (k3 k)).2) := flow_ask HW.out _ _ _ _
      obtain ⟨v, hv⟩ : ∃ v, errV (askB s (k0 k) (k1 k) (k2 k) (k3 k)).1 = v := ⟨_, rfl⟩
      obtain ⟨s', hs'⟩ : ∃ x, (askB s (k0 k) (k1 k) (k2 k) (k3 k)).2 = x := ⟨_, rfl⟩
      rw [hv, hs'] at tA
      rw [hs'] at HO2 HA2 HW2
      clear hv hs' HO HA HW
      have hnf : s'.nf = m := HA2.out.nf
      go_wp2_with (go_at_call 9; refine tA.mono ?_; clear tA; rintro e w3 ⟨rfl, hM3, hB3⟩)
      clear e0 e1 e2 e3 hM hB hl
      go_loopg [11] m (fun g i wi => ∃ f : Nat, f ≤ m ∧ g = m - f ∧ i = .int .i64 f ∧ Mon w1.heap.size B au af gu gf cu cf wi s' ∧ Below w.heap.size w wi)
      case atStart => exact ⟨0, by omega, rfl, rfl, hM3, hB3⟩
      case round =>
        clear hM3 hB3
        obtain ⟨f, hf, rfl, rfl, hM, hB⟩ := hrel
        by_cases hft : f < m
        · as_aux_lemma =>
          have hf' : (f : Int) < (m : Int) := by omega
          obtain ⟨b2, o2, rfl, hcl⟩ := labs_nat h2 hy (by omega)
          have tH := holds_in hM f (by omega)
          have hx : s'.fh f < 256 := by
            have h := HO2.out.fh f (by omega)
            rw [hnf] at h
            exact Nat.lt_of_lt_of_le h (Nat.pow_le_pow_right (by decide) hm8)
          have tO := fun W => bit_any (s'.fh f) f (by omega) (by omega) W
          rw [HW2.out.own f (by omega)] at tO
          have HX : Hid (∀ g, g < m → (s'.fh f).testBit g = true → belB (y g).1.toNat (y g).2.toNat (y f).1.toNat (y f).2.toNat = true) := fun g hg hb => by
            have h := HW2.out.hd f g (by omega) (by omega) hb
            rw [HA2.out.fl, HA2.out.fs] at h
            exact h
          have tG := fun g (hg : g < m) W => bit_any (s'.fh f) g (by omega) (by omega) W
          obtain ⟨x, hxe⟩ : ∃ x, s'.fh f = x := ⟨_, rfl⟩
          rw [hxe] at tH hx tO tG HX
          clear hxe
          have hx1 : (x : Int) ≤ 255 := by omega
          have hx2 : ¬ (x : Int) < 0 := by omega
          have hx3 : ¬ 255 < x := by omega
          go_wp2_with (first | (go_at_call 10; refine tH.mono ?_; clear tH; rintro e w' ⟨rfl, rfl⟩) | (go_at_call 11; refine (tO _).mono ?_; clear tO; rintro e w' ⟨rfl, rfl⟩))
          go_loopg [13] m (fun d i wi => ∃ g : Nat, g ≤ m ∧ d = m - g ∧ i = .int .i64 g ∧ Mon w1.heap.size B au af gu gf cu cf wi s' ∧ Below w.heap.size w wi)
          case atStart => exact ⟨0, by omega, rfl, rfl, hM, hB⟩
          case round =>
            clear hM hB
            obtain ⟨g, hg, rfl, rfl, hM, hB⟩ := hrel
            by_cases hgt : g < m
            · have hg' : (g : Int) < (m : Int) := by omega
              have tB := tG g hgt
              clear tG
              cases hb : x.testBit g with
              | false => as_aux_lemma =>
                rw [hb] at tB
                clear hb HX hcl
                go_wp2
                go_quiet ((go_at_call 11; exact Calls.quiet_of_same (tB _)))
                go_wp2
                go_roundg (m - (g + 1))
                case measure => omega
                case rel => exact ⟨g + 1, by omega, rfl, by go_num, hM.drawn _, below_drawn hB _⟩
              | true => as_aux_lemma =>
                rw [hb] at tB
                have hbe := HX.out g hgt hb
                have tL := fun W => refBelow_ok (y g).1.toNat (y g).2.toNat (y f).1.toNat (y f).2.toNat (lab_cast (hy g hgt)).2.2.2 (lab_cast (hy f hft)).2.2.2 W
                rw [hbe] at tL
                obtain ⟨j1, j2⟩ := hcl wr hB g hgt
                obtain ⟨j3, j4⟩ := hcl wr hB f hft
                obtain ⟨x1, hx1⟩ : ∃ x, (y g).1.toNat = x := ⟨_, rfl⟩
                obtain ⟨x2, hx2⟩ : ∃ x, (y g).2.toNat = x := ⟨_, rfl⟩
                obtain ⟨x3, hx3⟩ : ∃ x, (y f).1.toNat = x := ⟨_, rfl⟩
                obtain ⟨x4, hx4⟩ : ∃ x, (y f).2.toNat = x := ⟨_, rfl⟩
                rw [hx1] at j1 tL
                rw [hx2] at j2 tL
                rw [hx3] at j3 tL
                rw [hx4] at j4 tL
                clear hb hbe HX hcl hx1 hx2 hx3 hx4
                go_wp2
                first | (go_region_held3 (fun w' => w'.cell? ⟨b2, o2 + g * 2, none⟩ = some (.int .i64 (x1 : Int)) ∧ w'.cell? ⟨b2, o2 + g * 2 + 1, none⟩ = some (.int .i64 (x2 : Int)) ∧ w'.cell? ⟨b2, o2 + f * 2, none⟩ = some (.int .i64 (x3 : Int)) ∧ w'.cell? ⟨b2, o2 + f * 2 + 1, none⟩ = some (.int .i64 (x4 : Int))) (first | go_keep | (go_split_ands; refine ⟨?_, ?_, ?_, ?_⟩ <;> exact keep_cell hB6 (by assumption)))
                  (first | (go_at_call 11; refine (tB _).mono ?_; rintro e w' ⟨rfl, rfl⟩) | (go_at_call 12; refine (tL _).mono ?_; rintro e w6 ⟨rfl, hB6⟩))) | fail
                go_wp2
                go_roundg (m - (g + 1))
                case measure => omega
                case rel => exact ⟨g + 1, by omega, rfl, by go_num, hM.below (undrew2 hB6), hB.trans ((undrew2 hB6).mono hB.size)⟩
            · have hge : (m : Int) ≤ (g : Int) := by omega
              clear tG HX hcl
              go_wp2
              go_roundg (m - (f + 1))
              case measure => omega
              case rel => exact ⟨f + 1, by omega, rfl, by go_num, hM, hB⟩
        · have hge : (m : Int) ≤ (f : Int) := by omega
          go_wp2
          go_roundg (100 - (k + 1))
          case measure => omega
          case rel => exact ⟨k + 1, s', by omega, rfl, by go_num, hM, HO2, HA2, HW2, hB⟩
    · have hex : (q : Int) ≤ (k : Int) ∨ ((k : Int) < (q : Int) ∧ 100 ≤ (k : Int)) := by omega
      clear hlt hZ hk h3
      rcases hex with hx | ⟨hx, hx2⟩
      all_goals as_aux_lemma =>
        go_wp2
        go_ret
        exact ⟨rfl, hB⟩
theorem bellFlo_any (a1 a2 a3 : Option Addr) (n c1 m c2 q c3 : Nat) (z y : Nat → Int × Int) (k0 k1 k2 k3 : Nat → Int) (w : World) (h1 : AtLabs w a1 n z) (h2 : AtLabs w a2 m y) (h3 : AtAsks w a3 q k0 k1 k2 k3) (hT : Tab w) (hE : ErrT w) :
    Calls Tryd.prog 3 #[.slice a1 n c1, .slice a2 m c2, .slice a3 q c3] w fun e w' => e = .returned (.bool true) ∧ Below w.heap.size w w' := by
  have hF := bellFact_is w hT hE
  rcases new_is a1 a2 n c1 m c2 z y w h1 h2 with ⟨c, _, _, hN⟩ | ⟨hn, hm, hz, hy, hN⟩
  · exact bellFlo_err a1 a2 a3 n c1 m c2 q c3 c w hF hN
  · obtain ⟨Z, hZ⟩ := hundred q
    exact bellFlo_in a1 a2 a3 n c1 m c2 q c3 z y k0 k1 k2 k3 w hT hF h2 h3 (newSt_ok hn hm hz hy) hy hN Z hZ
end Go.Proofs.YtkeklcoandoacaaDoor
