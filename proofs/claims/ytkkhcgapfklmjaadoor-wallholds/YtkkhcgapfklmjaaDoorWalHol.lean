/- The walk of the law WallHolds. -/
import Derived.WalkKit
import Derived.LoopTactic
import Derived.Deep.LoopGhost
import Derived.Deep.QuietTactic
import Derived.BigQuiet
import Derived.Test.YtkkhcgapfklmjaaDoorWalPure
import Derived.Test.YtkkhcgapfklmjaaDoorAsksOpen
import Derived.Test.YtkkhcgapfklmjaaDoorSets
namespace Go.Proofs.YtkkhcgapfklmjaaDoor
open Go.RowKit
set_option maxRecDepth 100000

set_option maxHeartbeats 1000000 in
theorem waHol_err (a2 a3 : Option Addr) (u : Int) (m c2 q c3 : Nat) (c : Int) (w : World) (hF : WFactIs w)
    (hN : ∀ W, Below w.heap.size w W → Calls Tryd.prog 8 #[.int .i64 u, .slice a2 m c2] W fun e w' => e = .returned (.tuple #[.pointer none, .iface 50 (.int .i64 c)]) ∧ w' = W) :
    Calls Tryd.prog 4 #[.int .i64 u, .slice a2 m c2, .slice a3 q c3] w fun e w' => e = .returned (.bool true) ∧ Below w.heap.size w w' := by
  have tF := hF w (Below.refl _ _)
  clear hF
  go_enter Tryd.func4, Tryd.ntmps4
  go_wp2_with (first | (go_at_call 7; refine tF.mono ?_; clear tF; rintro e w1 ⟨rfl, hB1⟩; have tN := hN w1 hB1; clear hN) | (go_at_call 8; refine tN.mono ?_; clear tN; rintro e w2 ⟨rfl, rfl⟩))
  go_ret
  exact ⟨rfl, hB1⟩
set_option maxHeartbeats 8000000 in
theorem waHol_in (a2 a3 : Option Addr) (n m c2 q c3 : Nat) (ys : List Int) (k0 k1 k2 k3 : Nat → Int) (w : World) (hT : Tab w) (hF : WFactIs w)
    (h2 : AtNums w a2 m ys) (h3 : AtAsks w a3 q k0 k1 k2 k3) (hn8 : n ≤ 8) (hm8 : m ≤ 8) (hy : AllLev m ys)
    (hN : ∀ W, Below w.heap.size w W → Calls Tryd.prog 8 #[.int .i64 (n : Int), .slice a2 m c2] W fun e w' => ∃ B au af gu gf cu cf, e = .returned (.tuple #[.pointer (some ⟨B, 0, none⟩), .nilIface]) ∧ WMon W.heap.size w'.heap.size B au af gu gf cu cf w' (newWall n m ys) ∧ Below W.heap.size W w')
    (Z : Nat) (hZ : (Z = q ∧ q ≤ 100) ∨ (Z = 100 ∧ 100 < q)) :
    Calls Tryd.prog 4 #[.int .i64 (n : Int), .slice a2 m c2, .slice a3 q c3] w fun e w' => e = .returned (.bool true) ∧ Below w.heap.size w w' := by
  have tF := hF w (Below.refl _ _)
  have hm8' : (m : Int) ≤ 8 := by omega
  clear hF
  go_enter Tryd.func4, Tryd.ntmps4
  go_wp2_with (first | (go_at_call 7; refine tF.mono ?_; clear tF; rintro e w1 ⟨rfl, hB1⟩; have tN := hN w1 hB1; clear hN) | (go_at_call 8; refine tN.mono ?_; clear tN; rintro e w2 ⟨B, au, af, gu, gf, cu, cf, rfl, hM, hB2⟩))
  have hn0 := hB1.size
  have hB : Below w.heap.size w w2 := hB1.trans (hB2.mono hB1.size)
  clear hB1 hB2
  go_loopg [10] 100 (fun g i wr => ∃ (k : Nat) (s : WallSt), k ≤ Z ∧ g = 100 - k ∧ i = .int .i64 k ∧ WMon w1.heap.size w2.heap.size B au af gu gf cu cf wr s ∧ Hid (WallOk s) ∧ Hid (WAlike (newWall n m ys) s) ∧ Hid (Holds1 s) ∧ Below w.heap.size w wr)
  case atStart => exact ⟨0, _, by omega, rfl, rfl, hM, newWall_ok hn8 hm8 hy, WAlike.refl _, holds_new _ _ _, hB⟩
  case round =>
    clear hM hB
    obtain ⟨k, s, hk, rfl, rfl, hM, HO, HA, HP, hB⟩ := hrel
    by_cases hlt : k < Z
    · have hq1 : (k : Int) < (q : Int) := by omega
      have hq2 : (k : Int) < 100 := by omega
      rcases h3 with h3 | ⟨b, off, rfl, hl⟩
      · omega
      have e0 := (hB.cell (p := ⟨b, off + k * 4, none⟩) hl.old).trans (hl.c0 k (by omega))
      have e1 := (hB.cell (p := ⟨b, off + k * 4 + 1, none⟩) hl.old).trans (hl.c1 k (by omega))
      have e2 := (hB.cell (p := ⟨b, off + k * 4 + 2, none⟩) hl.old).trans (hl.c2 k (by omega))
      have e3 := (hB.cell (p := ⟨b, off + k * 4 + 3, none⟩) hl.old).trans (hl.c3 k (by omega))
      have tA := waAskIs hT hn0 HO.out (k0 k) (k1 k) (k2 k) (k3 k) hB hM
      have HO2 : Hid (WallOk (askWall s (k0 k) (k1 k) (k2 k)).2) := askWall_ok HO.out _ _ _
      have HA2 : Hid (WAlike (newWall n m ys) (askWall s (k0 k) (k1 k) (k2 k)).2) := HA.out.trans (askWall_alike _ _ _ _)
      have HP2 : Hid (Holds1 (askWall s (k0 k) (k1 k) (k2 k)).2) := holds_ask HP.out _ _ _
      obtain ⟨v, hv⟩ : ∃ v, errV (askWall s (k0 k) (k1 k) (k2 k)).1 = v := ⟨_, rfl⟩
      obtain ⟨s', hs'⟩ : ∃ x, (askWall s (k0 k) (k1 k) (k2 k)).2 = x := ⟨_, rfl⟩
      rw [hv, hs'] at tA
      rw [hs'] at HO2 HA2 HP2
      clear hv hs' HO HA HP hM hB
      as_aux_lemma =>
      go_wp2_with (go_at_call 9; refine tA.mono ?_; clear tA; rintro e w3 ⟨rfl, hM3, hB3⟩)
      go_roundg (100 - (k + 1))
      case measure => omega
      case rel => exact ⟨k + 1, s', by omega, rfl, by go_num, hM3, HO2, HA2, HP2, hB3⟩
    · have hex : (q : Int) ≤ (k : Int) ∨ ((k : Int) < (q : Int) ∧ 100 ≤ (k : Int)) := by omega
      have hnf : s.nf = m := HA.out.nf
      have htr : Hid (s.tr = fun i => (ys[i]?.getD 0).toNat) := HA.out.tr
      clear hlt hZ hk h3 HA
      rcases hex with hx | ⟨hx, hx2⟩
      all_goals
        go_wp2
        go_loopg [11] m (fun g i wi => ∃ f : Nat, f ≤ m ∧ g = m - f ∧ i = .int .i64 f ∧ WMon w1.heap.size w2.heap.size B au af gu gf cu cf wi s ∧ Below w.heap.size w wi)
        case atStart => exact ⟨0, by omega, rfl, rfl, hM, hB⟩
        case round =>
          clear hM hB
          obtain ⟨f, hf, rfl, rfl, hM, hB⟩ := hrel
          by_cases hft : f < m
          · have hf' : (f : Int) < (m : Int) := by omega
            obtain ⟨b2, o2, rfl, hcl⟩ := wlevs_nat h2 hy (by omega)
            have HC := Hid.mkI hcl
            have tH := holds_in hM f (by omega)
            have hx : s.hol f < 256 := by
              have h := HO.out.hol f (by omega)
              rw [hnf] at h
              exact Nat.lt_of_lt_of_le h (Nat.pow_le_pow_right (by decide) hm8)
            have tO := fun W => bit_any (s.hol f) f (by omega) (by omega) W
            rw [HP.out.own f (by omega)] at tO
            have HX : Hid (∀ g, g < m → g ≠ f → (s.hol f).testBit g = true → (ys[g]?.getD 0).toNat = 0) := fun g hg hne hb => by
              have h := HP.out.far f g (by omega) (by omega) hne hb
              rw [htr.out] at h
              exact h
            have tG := fun g (hg : g < m) W => bit_any (s.hol f) g (by omega) (by omega) W
            obtain ⟨x, hxe⟩ : ∃ x, s.hol f = x := ⟨_, rfl⟩
            rw [hxe] at tH hx tO tG HX
            clear hxe hcl
            have hx1 : (x : Int) ≤ 255 := by omega
            have hx2 : ¬ (x : Int) < 0 := by omega
            have hx3 : ¬ 255 < x := by omega
            go_wp2_with (first | (go_at_call 12; refine tH.mono ?_; clear tH; rintro e w' ⟨rfl, rfl⟩) | (go_at_call 11; refine (tO _).mono ?_; clear tO; rintro e w' ⟨rfl, rfl⟩))
            go_loopg [13] m (fun d i wi => ∃ g : Nat, g ≤ m ∧ d = m - g ∧ i = .int .i64 g ∧ WMon w1.heap.size w2.heap.size B au af gu gf cu cf wi s ∧ Below w.heap.size w wi)
            case atStart => exact ⟨0, by omega, rfl, rfl, hM, hB⟩
            case round =>
              clear hM hB
              obtain ⟨g, hg, rfl, rfl, hM, hB⟩ := hrel
              by_cases hgt : g < m
              · have hg' : (g : Int) < (m : Int) := by omega
                have tB := tG g hgt
                clear tG
                by_cases hgf : g = f
                · subst hgf
                  clear HX HC tB
                  as_aux_lemma =>
                  go_wp2
                  go_roundg (m - (g + 1))
                  case measure => omega
                  case rel => exact ⟨g + 1, by omega, rfl, by go_num, hM, hB⟩
                · have hne : ((g : Int) != (f : Int)) = true := by simp; omega
                  cases hb : x.testBit g with
                  | false =>
                    rw [hb] at tB
                    clear hb HX HC hgf
                    as_aux_lemma =>
                    go_wp2_with (go_at_call 11; refine (tB _).mono ?_; clear tB; rintro e w' ⟨rfl, rfl⟩)
                    go_roundg (m - (g + 1))
                    case measure => omega
                    case rel => exact ⟨g + 1, by omega, rfl, by go_num, hM, hB⟩
                  | true =>
                    have j1 := HC.out wr hB g hgt
                    rw [HX.out g hgt hgf hb] at j1
                    rw [hb] at tB
                    clear hb HX HC hgf
                    as_aux_lemma =>
                    go_wp2_with (go_at_call 11; refine (tB _).mono ?_; clear tB; rintro e w' ⟨rfl, rfl⟩)
                    go_roundg (m - (g + 1))
                    case measure => omega
                    case rel => exact ⟨g + 1, by omega, rfl, by go_num, hM, hB⟩
              · have hge : (m : Int) ≤ (g : Int) := by omega
                clear tG HX HC
                go_wp2
                go_roundg (m - (f + 1))
                case measure => omega
                case rel => exact ⟨f + 1, by omega, rfl, by go_num, hM, hB⟩
          · have hge : (m : Int) ≤ (f : Int) := by omega
            go_wp2
            go_ret
            exact ⟨rfl, hB⟩
theorem waHol_any (u : Int) (a2 a3 : Option Addr) (m c2 q c3 : Nat) (ys : List Int) (k0 k1 k2 k3 : Nat → Int) (w : World) (h2 : AtNums w a2 m ys) (h3 : AtAsks w a3 q k0 k1 k2 k3) (hT : Tab w) (hE : ErrT w) :
    Calls Tryd.prog 4 #[.int .i64 u, .slice a2 m c2, .slice a3 q c3] w fun e w' => e = .returned (.bool true) ∧ Below w.heap.size w w' := by
  have hF := wallFact_is w hT hE
  rcases waNew_is a2 u m c2 ys w h2 with ⟨c, _, _, hN⟩ | ⟨n, rfl, hn, hm, hy, hN⟩
  · exact waHol_err a2 a3 u m c2 q c3 c w hF hN
  · obtain ⟨Z, hZ⟩ := upto100w q
    exact waHol_in a2 a3 n m c2 q c3 ys k0 k1 k2 k3 w hT hF h2 h3 hn hm hy hN Z hZ
end Go.Proofs.YtkkhcgapfklmjaaDoor
