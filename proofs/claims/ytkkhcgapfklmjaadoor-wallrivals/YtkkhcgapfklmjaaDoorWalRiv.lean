/- The walk of the law WallRivals. -/
import Derived.WalkKit
import Derived.LoopTactic
import Derived.Deep.LoopGhost
import Derived.Deep.QuietTactic
import Derived.BigQuiet
import Derived.Test.YtkkhcgapfklmjaaDoorWalPure
import Derived.Test.YtkkhcgapfklmjaaDoorAsksOpen
import Derived.Test.YtkkhcgapfklmjaaDoorSets
namespace Go.Proofs.YtkkhcgapfklmjaaDoor
open Go.RowKit
set_option maxRecDepth 100000

theorem levs_beq (a b : Nat) : ((a : Int) == (b : Int)) = (a == b) := by
  rw [Bool.eq_iff_iff, beq_iff_eq, beq_iff_eq]
  omega
theorem levs_bne (a : Nat) : ((a : Int) != 0) = (a != 0) := by
  rw [Bool.eq_iff_iff, bne_iff_ne, bne_iff_ne]
  omega
set_option maxHeartbeats 1000000 in
theorem waRiv_err (a2 a3 : Option Addr) (u : Int) (m c2 q c3 : Nat) (c : Int) (w : World) (hF : WFactIs w)
    (hN : ∀ W, Below w.heap.size w W → Calls Tryd.prog 8 #[.int .i64 u, .slice a2 m c2] W fun e w' => e = .returned (.tuple #[.pointer none, .iface 50 (.int .i64 c)]) ∧ w' = W) :
    Calls Tryd.prog 3 #[.int .i64 u, .slice a2 m c2, .slice a3 q c3] w fun e w' => e = .returned (.bool true) ∧ Below w.heap.size w w' := by
  have tF := hF w (Below.refl _ _)
  clear hF
  go_enter Tryd.func3, Tryd.ntmps3
  go_wp2_with (first | (go_at_call 7; refine tF.mono ?_; clear tF; rintro e w1 ⟨rfl, hB1⟩; have tN := hN w1 hB1; clear hN) | (go_at_call 8; refine tN.mono ?_; clear tN; rintro e w2 ⟨rfl, rfl⟩))
  go_ret
  exact ⟨rfl, hB1⟩
set_option maxHeartbeats 8000000 in
theorem waRiv_in (a2 a3 : Option Addr) (n m c2 q c3 : Nat) (ys : List Int) (k0 k1 k2 k3 : Nat → Int) (w : World) (hT : Tab w) (hF : WFactIs w)
    (h2 : AtNums w a2 m ys) (h3 : AtAsks w a3 q k0 k1 k2 k3) (hn8 : n ≤ 8) (hm8 : m ≤ 8) (hy : AllLev m ys)
    (hN : ∀ W, Below w.heap.size w W → Calls Tryd.prog 8 #[.int .i64 (n : Int), .slice a2 m c2] W fun e w' => ∃ B au af gu gf cu cf, e = .returned (.tuple #[.pointer (some ⟨B, 0, none⟩), .nilIface]) ∧ WMon W.heap.size w'.heap.size B au af gu gf cu cf w' (newWall n m ys) ∧ Below W.heap.size W w')
    (Z : Nat) (hZ : (Z = q ∧ q ≤ 100) ∨ (Z = 100 ∧ 100 < q)) :
    Calls Tryd.prog 3 #[.int .i64 (n : Int), .slice a2 m c2, .slice a3 q c3] w fun e w' => e = .returned (.bool true) ∧ Below w.heap.size w w' := by
  have tF := hF w (Below.refl _ _)
  have hm8' : (m : Int) ≤ 8 := by omega
  have hn8' : (n : Int) ≤ 8 := by omega
  clear hF
  go_enter Tryd.func3, Tryd.ntmps3
  go_wp2_with (first | (go_at_call 7; refine tF.mono ?_; clear tF; rintro e w1 ⟨rfl, hB1⟩; have tN := hN w1 hB1; clear hN) | (go_at_call 8; refine tN.mono ?_; clear tN; rintro e w2 ⟨B, au, af, gu, gf, cu, cf, rfl, hM, hB2⟩))
  have hn0 := hB1.size
  have hB : Below w.heap.size w w2 := hB1.trans (hB2.mono hB1.size)
  clear hB1 hB2
  go_loopg [10] 100 (fun g i wr => ∃ (k : Nat) (s : WallSt), k ≤ Z ∧ g = 100 - k ∧ i = .int .i64 k ∧ WMon w1.heap.size w2.heap.size B au af gu gf cu cf wr s ∧ Hid (WallOk s) ∧ Hid (WAlike (newWall n m ys) s) ∧ Hid (Rivs s) ∧ Below w.heap.size w wr)
  case atStart => exact ⟨0, _, by omega, rfl, rfl, hM, newWall_ok hn8 hm8 hy, WAlike.refl _, rivs_new _ _ _, hB⟩
  case round =>
    clear hM hB
    obtain ⟨k, s, hk, rfl, rfl, hM, HO, HA, HP, hB⟩ := hrel
    by_cases hlt : k < Z
    · have hq1 : (k : Int) < (q : Int) := by omega
      have hq2 : (k : Int) < 100 := by omega
      rcases h3 with h3 | ⟨b, off, rfl, hl⟩
      · omega
      have e0 := (hB.cell (p := ⟨b, off + k * 4, none⟩) hl.old).trans (hl.c0 k (by omega))
      have e1 := (hB.cell (p := ⟨b, off + k * 4 + 1, none⟩) hl.old).trans (hl.c1 k (by omega))
      have e2 := (hB.cell (p := ⟨b, off + k * 4 + 2, none⟩) hl.old).trans (hl.c2 k (by omega))
      have e3 := (hB.cell (p := ⟨b, off + k * 4 + 3, none⟩) hl.old).trans (hl.c3 k (by omega))
      have tA := waAskIs hT hn0 HO.out (k0 k) (k1 k) (k2 k) (k3 k) hB hM
      have HO2 : Hid (WallOk (askWall s (k0 k) (k1 k) (k2 k)).2) := askWall_ok HO.out _ _ _
      have HA2 : Hid (WAlike (newWall n m ys) (askWall s (k0 k) (k1 k) (k2 k)).2) := HA.out.trans (askWall_alike _ _ _ _)
      have HP2 : Hid (Rivs (askWall s (k0 k) (k1 k) (k2 k)).2) := rivs_ask HP.out _ _ _
      obtain ⟨v, hv⟩ : ∃ v, errV (askWall s (k0 k) (k1 k) (k2 k)).1 = v := ⟨_, rfl⟩
      obtain ⟨s', hs'⟩ : ∃ x, (askWall s (k0 k) (k1 k) (k2 k)).2 = x := ⟨_, rfl⟩
      rw [hv, hs'] at tA
      rw [hs'] at HO2 HA2 HP2
      clear hv hs' HO HA HP hM hB
      go_wp2_with (go_at_call 9; refine tA.mono ?_; clear tA; rintro e w3 ⟨rfl, hM3, hB3⟩)
      have hnf : s'.nf = m := HA2.out.nf
      have hnu : s'.nu = n := HA2.out.nu
      have htr : Hid (s'.tr = fun i => (ys[i]?.getD 0).toNat) := HA2.out.tr
      clear e0 e1 e2 e3 hl
      go_loopg [11] n (fun d i wi => ∃ u : Nat, u ≤ n ∧ d = n - u ∧ i = .int .i64 u ∧ WMon w1.heap.size w2.heap.size B au af gu gf cu cf wi s' ∧ Below w.heap.size w wi)
      case atStart => exact ⟨0, by omega, rfl, rfl, hM3, hB3⟩
      case round =>
        clear hM3 hB3
        obtain ⟨u, hu, rfl, rfl, hM, hB⟩ := hrel
        by_cases hut : u < n
        · have hu' : (u : Int) < (n : Int) := by omega
          have hu8 : (u : Int) < 8 := by omega
          have tS := saw_in hM u (by omega)
          have hx : s'.saw u < 256 := by
            have h := HO2.out.saw u (by omega)
            rw [hnf] at h
            exact Nat.lt_of_lt_of_le h (Nat.pow_le_pow_right (by decide) hm8)
          have HG : Hid (∀ g, g < m → ∀ W, Calls Tryd.prog 11 #[.int .i64 (s'.saw u : Int), .int .i64 (g : Int)] W fun e w' => e = .returned (.bool ((s'.saw u).testBit g)) ∧ w' = W) := fun g hg W => bit_any (s'.saw u) g (by omega) (by omega) W
          have HX : Hid (∀ f g, f < m → g < m → f ≠ g → (ys[f]?.getD 0).toNat ≠ 0 → (ys[f]?.getD 0).toNat = (ys[g]?.getD 0).toNat → (s'.saw u).testBit f = true → (s'.saw u).testBit g = true → False) := fun f g hf hg hne h0 he bf bg => by
            have h := HP2.out u (by omega) f g (by omega) (by omega) hne
            rw [htr.out] at h
            exact h h0 he bf bg
          have HR : Hid (∀ f, f < m → (s'.saw u).testBit f = true → ∀ W, Below w.heap.size w W → WMon w1.heap.size w2.heap.size B au af gu gf cu cf W s' → Calls Tryd.prog 9 #[.pointer (some ⟨B, 0, none⟩), ask4 0 u f 0] W fun e w' => e = .returned .nilIface ∧ WMon w1.heap.size w2.heap.size B au af gu gf cu cf w' s' ∧ Below w.heap.size w w') := fun f hf hb W hW hMW => by
            have h := waAskIs hT hn0 HO2.out 0 u f 0 hW hMW
            rw [again HP2.out (by omega) (by omega) hb] at h
            exact h
          obtain ⟨x, hxe⟩ : ∃ x, s'.saw u = x := ⟨_, rfl⟩
          rw [hxe] at tS hx HG HX HR
          clear hxe
          have hx1 : (x : Int) ≤ 255 := by omega
          have hx2 : ¬ (x : Int) < 0 := by omega
          go_wp2_with (go_at_call 10; refine tS.mono ?_; clear tS; rintro e w' ⟨rfl, rfl⟩)
          go_loopg [13] m (fun d i wi => ∃ f : Nat, f ≤ m ∧ d = m - f ∧ i = .int .i64 f ∧ WMon w1.heap.size w2.heap.size B au af gu gf cu cf wi s' ∧ Below w.heap.size w wi)
          case atStart => exact ⟨0, by omega, rfl, rfl, hM, hB⟩
          case round =>
            clear hM hB
            obtain ⟨f, hf, rfl, rfl, hM, hB⟩ := hrel
            by_cases hft : f < m
            · have hf' : (f : Int) < (m : Int) := by omega
              obtain ⟨b2, o2, rfl, hcl⟩ := wlevs_nat h2 hy (by omega)
              have HC := Hid.mkI hcl
              clear hcl
              go_wp2
              go_loopg [14] f (fun d i wi => ∃ g : Nat, g ≤ f ∧ d = f - g ∧ i = .int .i64 g ∧ WMon w1.heap.size w2.heap.size B au af gu gf cu cf wi s' ∧ Below w.heap.size w wi)
              case atStart => exact ⟨0, by omega, rfl, rfl, hM, hB⟩
              case round =>
                clear hM hB
                obtain ⟨g, hg, rfl, rfl, hM, hB⟩ := hrel
                by_cases hgt : g < f
                · have hg' : (g : Int) < (f : Int) := by omega
                  have hgm : (g : Int) < (m : Int) := by omega
                  have j1 := HC.out wr hB f hft
                  have j2 := HC.out wr hB g (by omega)
                  have t1 := HG.out f hft
                  have t2 := HG.out g (by omega)
                  have hno := HX.out f g hft (by omega) (by omega)
                  obtain ⟨y1, hy1⟩ : ∃ x, (ys[f]?.getD 0).toNat = x := ⟨_, rfl⟩
                  obtain ⟨y2, hy2⟩ : ∃ x, (ys[g]?.getD 0).toNat = x := ⟨_, rfl⟩
                  rw [hy1] at j1 hno
                  rw [hy2] at j2 hno
                  clear hy1 hy2
                  obtain ⟨p1, hp1⟩ : ∃ p, x.testBit f = p := ⟨_, rfl⟩
                  obtain ⟨p2, hp2⟩ : ∃ p, x.testBit g = p := ⟨_, rfl⟩
                  rw [hp1] at t1 hno
                  rw [hp2] at t2 hno
                  clear hp1 hp2 HX HR HG HC
                  by_cases hz : y1 = 0
                  · subst hz
                    clear hno t1 t2
                    as_aux_lemma =>
                    go_wp2
                    go_quiet ((go_at_call 11; first | (with_reducible exact Calls.quiet_of_same (t1 _)) | (with_reducible exact Calls.quiet_of_same (t2 _))))
                    go_wp2
                    go_roundg (f - (g + 1))
                    case measure => omega
                    case rel => exact ⟨g + 1, by omega, rfl, by go_num, hM.drawn _, below_drawn hB _⟩
                  · have hz1 : ((y1 : Int) != 0) = true := by simp; omega
                    by_cases he : y1 = y2
                    · subst he
                      cases p1 with
                      | false =>
                        clear hno t2
                        as_aux_lemma =>
                        go_wp2
                        go_quiet ((go_at_call 11; exact Calls.quiet_of_same (t1 _)))
                        go_wp2
                        go_roundg (f - (g + 1))
                        case measure => omega
                        case rel => exact ⟨g + 1, by omega, rfl, by go_num, hM.drawn _, below_drawn hB _⟩
                      | true =>
                        cases p2 with
                        | true => exact (hno hz rfl rfl rfl).elim
                        | false =>
                          clear hno
                          as_aux_lemma =>
                          go_wp2
                          go_quiet ((go_at_call 11; first | (with_reducible exact Calls.quiet_of_same (t1 _)) | (with_reducible exact Calls.quiet_of_same (t2 _))))
                          go_wp2
                          go_roundg (f - (g + 1))
                          case measure => omega
                          case rel => exact ⟨g + 1, by omega, rfl, by go_num, hM.drawn _, below_drawn hB _⟩
                    · have hz2 : ((y1 : Int) == (y2 : Int)) = false := by simp; omega
                      clear hno t1 t2
                      as_aux_lemma =>
                      go_wp2
                      go_quiet ((go_at_call 11; first | (with_reducible exact Calls.quiet_of_same (t1 _)) | (with_reducible exact Calls.quiet_of_same (t2 _))))
                      go_wp2
                      go_roundg (f - (g + 1))
                      case measure => omega
                      case rel => exact ⟨g + 1, by omega, rfl, by go_num, hM.drawn _, below_drawn hB _⟩
                · have hge : (f : Int) ≤ (g : Int) := by omega
                  have t1 := HG.out f hft
                  have tR := HR.out f hft
                  clear HX HR HG HC
                  cases hb : x.testBit f with
                  | false =>
                    rw [hb] at t1
                    clear hb tR
                    as_aux_lemma =>
                    go_wp2_with (go_at_call 11; refine (t1 _).mono ?_; clear t1; rintro e w' ⟨rfl, rfl⟩)
                    go_roundg (m - (f + 1))
                    case measure => omega
                    case rel => exact ⟨f + 1, by omega, rfl, by go_num, hM, hB⟩
                  | true =>
                    replace tR := tR hb wr hB hM
                    rw [hb] at t1
                    clear hb
                    as_aux_lemma =>
                    go_wp2_with (first | (go_at_call 11; refine (t1 _).mono ?_; clear t1; rintro e w' ⟨rfl, rfl⟩) | (go_at_call 9; refine tR.mono ?_; clear tR; rintro e w5 ⟨rfl, hM5, hB5⟩))
                    go_roundg (m - (f + 1))
                    case measure => omega
                    case rel => exact ⟨f + 1, by omega, rfl, by go_num, hM5, hB5⟩
            · have hge : (m : Int) ≤ (f : Int) := by omega
              go_wp2
              go_roundg (n - (u + 1))
              case measure => omega
              case rel => exact ⟨u + 1, by omega, rfl, by go_num, hM, hB⟩
        · have hge : (n : Int) ≤ (u : Int) := by omega
          go_wp2
          go_roundg (100 - (k + 1))
          case measure => omega
          case rel => exact ⟨k + 1, s', by omega, rfl, by go_num, hM, HO2, HA2, HP2, hB⟩
    · have hex : (q : Int) ≤ (k : Int) ∨ ((k : Int) < (q : Int) ∧ 100 ≤ (k : Int)) := by omega
      clear hlt hZ hk h3
      rcases hex with hx | ⟨hx, hx2⟩
      all_goals
        go_wp2
        go_ret
        exact ⟨rfl, hB⟩
theorem waRiv_any (u : Int) (a2 a3 : Option Addr) (m c2 q c3 : Nat) (ys : List Int) (k0 k1 k2 k3 : Nat → Int) (w : World) (h2 : AtNums w a2 m ys) (h3 : AtAsks w a3 q k0 k1 k2 k3) (hT : Tab w) (hE : ErrT w) :
    Calls Tryd.prog 3 #[.int .i64 u, .slice a2 m c2, .slice a3 q c3] w fun e w' => e = .returned (.bool true) ∧ Below w.heap.size w w' := by
  have hF := wallFact_is w hT hE
  rcases waNew_is a2 u m c2 ys w h2 with ⟨c, _, _, hN⟩ | ⟨n, rfl, hn, hm, hy, hN⟩
  · exact waRiv_err a2 a3 u m c2 q c3 c w hF hN
  · obtain ⟨Z, hZ⟩ := upto100w q
    exact waRiv_in a2 a3 n m c2 q c3 ys k0 k1 k2 k3 w hT hF h2 h3 hn hm hy hN Z hZ
end Go.Proofs.YtkkhcgapfklmjaaDoor
