/- The walk of the law TopLabels. -/
import Derived.WalkKit
import Derived.LoopTactic
import Derived.Deep.Cut
import Derived.Deep.CutRange
import Derived.Deep.RegionWith
import Derived.Deep.LoopGhost
import Derived.Deep.QuietTactic
import Derived.BigQuiet
import Derived.Test.YtomencagnppdcaaDoorTopAid
namespace Go.Proofs.YtomencagnppdcaaDoor
open Go.RowKit
set_option maxRecDepth 100000

set_option maxHeartbeats 80000000 in
theorem topLab_walk (b off m cap : Nat) (z : Nat → Int × Int) (i j : Nat) (h0 : 0 < m) (hm : m ≤ 12) (hi : i < m) (hj : j < m) (w : World) (hl : Labs w b off m z) (hT : Tab w) :
    Calls Tryd.prog 7 #[.slice (some ⟨b, off, none⟩) m cap, .int .i64 (i : Int), .int .i64 (j : Int)] w fun e w' => e = .returned (.bool true) ∧ Below w.heap.size w w' := by
  have hb0 : ∀ W, Calls Tryd.prog 19 #[lab 1 1, lab 2 3] W fun e w' => e = .returned (.tuple #[.bool true, .nilIface]) ∧ Below W.heap.size W w' := fun W => labBelow_ok 1 1 2 3 (by decide) (by decide) (by decide) (by decide) W
  have z1 : (0 : Int) < (m : Int) := by omega
  have z0 : ((m : Int) == 0) = false := by simp; omega
  have z2 : (m : Int) ≤ 12 := by omega
  have z3 : (i : Int) < (m : Int) := by omega
  have z4 : (j : Int) < (m : Int) := by omega
  go_enter Tryd.func7, Tryd.ntmps7
  go_upto_region 6 with (go_at_call 19; refine (hb0 _).mono ?_; clear hb0; rintro e w1 ⟨rfl, hB1⟩)
  go_cut [9] from 28 (fun r wx => r = .slice none 0 0 ∧ wx = w1)
  case first =>
    go_wp2_with fail
    go_meet
    case rel => exact ⟨rfl, rfl⟩
  case rest =>
  obtain ⟨rfl, rfl⟩ := hcut
  go_wp2
  go_loopg [9, 10] m (fun g o n wr => ∃ k : Nat, k ≤ m ∧ g = m - k ∧ n = .int .i64 k ∧ wr.ownsRow w.heap.size 3 1 o k (row k (upN m (levN z) (setN z))) ∧ Below w.heap.size w wr ∧ Hid (Seen m z k 0))
  case atStart => exact ⟨0, by omega, rfl, rfl, World.ownsRow_nil _ _ _ _, hB1, ⟨fun x y h => absurd h (by omega), fun y h => absurd h (by omega)⟩⟩
  case round =>
    obtain ⟨k, hk, rfl, rfl, hown, hB, HN⟩ := hrel
    by_cases hlt : k < m
    · have hlt' : (k : Int) < (m : Int) := by omega
      go_wp2
      obtain ⟨wl, rfl⟩ : ∃ wl, wl = wr := ⟨_, rfl⟩
      go_loopg [11, 12] m (fun g o n wi => ∃ q : Nat, q ≤ m ∧ g = m - q ∧ n = .int .i64 q ∧ o = .int .i64 (setOf (upP (levN z) (setN z) k) q : Nat) ∧ Below wl.heap.size wl wi ∧ Hid (Seen m z k q))
      case atStart => exact ⟨0, by omega, rfl, rfl, rfl, Below.refl _ _, HN⟩
      case round =>
        clear HN
        obtain ⟨q, hq, rfl, rfl, rfl, hBi, HN⟩ := hrel
        by_cases hqt : q < m
        · have hqt' : (q : Int) < (m : Int) := by omega
          have a1 := ((hB.trans (hBi.mono hB.size)).cell (p := ⟨b, off + k * 2, none⟩) hl.old).trans (hl.c1 k hlt)
          have a2 := ((hB.trans (hBi.mono hB.size)).cell (p := ⟨b, off + k * 2 + 1, none⟩) hl.old).trans (hl.c2 k hlt)
          have b1 := ((hB.trans (hBi.mono hB.size)).cell (p := ⟨b, off + q * 2, none⟩) hl.old).trans (hl.c1 q hqt)
          have b2 := ((hB.trans (hBi.mono hB.size)).cell (p := ⟨b, off + q * 2 + 1, none⟩) hl.old).trans (hl.c2 q hqt)
          obtain ⟨bb, er, hbel, hcase⟩ := bel_two z k q
          have HC := Hid.of hcase
          clear hcase
          go_wp2
          go_cut [13, 14] from 74 to 114 (fun t e wx => t = .bool bb ∧ e = er ∧ Below wr.heap.size wr wx)
          case first =>
           as_aux_lemma =>
            go_region_with (go_at_call 19; refine (hbel _).mono ?_; rintro e w' ⟨rfl, hB2⟩)
            all_goals
              go_simp
              go_step
              go_meet
              case rel => exact ⟨rfl, rfl, below_undrew hB2⟩
          case rest =>
            obtain ⟨rfl, rfl, hB2⟩ := hcut
            clear a1 a2 b1 b2 hbel
            have hBc := hBi.trans (hB2.mono hBi.size)
            have hBw := hB.trans (hBc.mono hB.size)
            have a1 := (hBw.cell (p := ⟨b, off + k * 2, none⟩) hl.old).trans (hl.c1 k hlt)
            have a2 := (hBw.cell (p := ⟨b, off + k * 2 + 1, none⟩) hl.old).trans (hl.c2 k hlt)
            have b1 := (hBw.cell (p := ⟨b, off + q * 2, none⟩) hl.old).trans (hl.c1 q hqt)
            have b2 := (hBw.cell (p := ⟨b, off + q * 2 + 1, none⟩) hl.old).trans (hl.c2 q hqt)
            rcases HC.out with ⟨rfl, hk1, hq1, hbb⟩ | rfl
            · clear HC
              have HB : Hid (bb = upP (levN z) (setN z) k q) := hbb
              have HK : Hid (IsLab (z k).1 (z k).2 ∧ IsLab (z q).1 (z q).2) := ⟨hk1, hq1⟩
              clear hbb hk1 hq1
              by_cases hkq : k = q
              · have hne : ((k : Int) != (q : Int)) = false := by simp; omega
                have HN2 : Hid (Seen m z k (q + 1)) := seen_next HN.out HK.out (fun h => absurd hkq h)
                clear hkq
                cases bb
                · as_aux_lemma =>
                    have HS : Hid (setOf (upP (levN z) (setN z) k) (q + 1) = setOf (upP (levN z) (setN z) k) q) := setOf_no HB.out.symm
                    obtain ⟨s0, hs0⟩ : ∃ s0, setOf (upP (levN z) (setN z) k) q = s0 := ⟨_, rfl⟩
                    rw [hs0] at HS ⊢
                    clear hs0 HB HK HN
                    go_wp2
                    go_quiet (fail)
                    go_wp2
                    go_roundg (m - (q + 1))
                    case measure => omega
                    case rel => exact ⟨q + 1, by omega, rfl, by go_num, by rw [HS.out], below_drawn hBc _, HN2⟩
                · as_aux_lemma =>
                    have HS : Hid (setOf (upP (levN z) (setN z) k) (q + 1) = setOf (upP (levN z) (setN z) k) q + 2 ^ q) := setOf_yes HB.out.symm
                    have hp := fun W => pow2_any q (by omega) W
                    have h12 := Nat.lt_of_lt_of_le (setOf_lt (upP (levN z) (setN z) k) q) (pow12 (n := q) (by omega))
                    have h13 := pow12 (n := q) (by omega)
                    obtain ⟨s0, hs0⟩ : ∃ s0, setOf (upP (levN z) (setN z) k) q = s0 := ⟨_, rfl⟩
                    obtain ⟨p0, hp0⟩ : ∃ p0, 2 ^ q = p0 := ⟨_, rfl⟩
                    rw [hs0] at HS h12 ⊢
                    rw [hp0] at HS hp h13
                    clear hs0 hp0 HB HK HN
                    go_wp2
                    go_quiet (fail)
                    go_wp2_with (go_at_call 20; refine (hp _).mono ?_; rintro e w' ⟨rfl, rfl⟩)
                    go_roundg (m - (q + 1))
                    case measure => omega
                    case rel => exact ⟨q + 1, by omega, rfl, by go_num, by rw [HS.out]; go_num, below_drawn hBc _, HN2⟩
              · have hne : ((k : Int) != (q : Int)) = true := by simp; omega
                by_cases hz : z k = z q
                · as_aux_lemma =>
                    have e1 : (z k).1 = (z q).1 := by rw [hz]
                    have e2 : (z k).2 = (z q).2 := by rw [hz]
                    clear hz HN HB HK
                    go_wp2
                    go_quiet (fail)
                    go_wp2
                    go_ret
                    exact ⟨rfl, below_drawn hBw _⟩
                · have HN2 : Hid (Seen m z k (q + 1)) := seen_next HN.out HK.out (fun _ => hz)
                  have hd : ((z k).1 == (z q).1) = false ∨ ((z k).1 = (z q).1 ∧ ((z k).2 == (z q).2) = false) := pair_ne hz
                  clear hz
                  rcases hd with hd | ⟨hd1, hd2⟩
                  · cases bb
                    · as_aux_lemma =>
                        have HS : Hid (setOf (upP (levN z) (setN z) k) (q + 1) = setOf (upP (levN z) (setN z) k) q) := setOf_no HB.out.symm
                        obtain ⟨s0, hs0⟩ : ∃ s0, setOf (upP (levN z) (setN z) k) q = s0 := ⟨_, rfl⟩
                        rw [hs0] at HS ⊢
                        clear hs0 HB HK HN
                        go_wp2
                        go_quiet (fail)
                        go_wp2
                        go_roundg (m - (q + 1))
                        case measure => omega
                        case rel => exact ⟨q + 1, by omega, rfl, by go_num, by rw [HS.out], below_drawn hBc _, HN2⟩
                    · as_aux_lemma =>
                        have HS : Hid (setOf (upP (levN z) (setN z) k) (q + 1) = setOf (upP (levN z) (setN z) k) q + 2 ^ q) := setOf_yes HB.out.symm
                        have hp := fun W => pow2_any q (by omega) W
                        have h12 := Nat.lt_of_lt_of_le (setOf_lt (upP (levN z) (setN z) k) q) (pow12 (n := q) (by omega))
                        have h13 := pow12 (n := q) (by omega)
                        obtain ⟨s0, hs0⟩ : ∃ s0, setOf (upP (levN z) (setN z) k) q = s0 := ⟨_, rfl⟩
                        obtain ⟨p0, hp0⟩ : ∃ p0, 2 ^ q = p0 := ⟨_, rfl⟩
                        rw [hs0] at HS h12 ⊢
                        rw [hp0] at HS hp h13
                        clear hs0 hp0 HB HK HN
                        go_wp2
                        go_quiet (fail)
                        go_wp2_with (go_at_call 20; refine (hp _).mono ?_; rintro e w' ⟨rfl, rfl⟩)
                        go_roundg (m - (q + 1))
                        case measure => omega
                        case rel => exact ⟨q + 1, by omega, rfl, by go_num, by rw [HS.out]; go_num, below_drawn hBc _, HN2⟩
                  · cases bb
                    · as_aux_lemma =>
                        have HS : Hid (setOf (upP (levN z) (setN z) k) (q + 1) = setOf (upP (levN z) (setN z) k) q) := setOf_no HB.out.symm
                        obtain ⟨s0, hs0⟩ : ∃ s0, setOf (upP (levN z) (setN z) k) q = s0 := ⟨_, rfl⟩
                        rw [hs0] at HS ⊢
                        clear hs0 HB HK HN
                        go_wp2
                        go_quiet (fail)
                        go_wp2
                        go_roundg (m - (q + 1))
                        case measure => omega
                        case rel => exact ⟨q + 1, by omega, rfl, by go_num, by rw [HS.out], below_drawn hBc _, HN2⟩
                    · as_aux_lemma =>
                        have HS : Hid (setOf (upP (levN z) (setN z) k) (q + 1) = setOf (upP (levN z) (setN z) k) q + 2 ^ q) := setOf_yes HB.out.symm
                        have hp := fun W => pow2_any q (by omega) W
                        have h12 := Nat.lt_of_lt_of_le (setOf_lt (upP (levN z) (setN z) k) q) (pow12 (n := q) (by omega))
                        have h13 := pow12 (n := q) (by omega)
                        obtain ⟨s0, hs0⟩ : ∃ s0, setOf (upP (levN z) (setN z) k) q = s0 := ⟨_, rfl⟩
                        obtain ⟨p0, hp0⟩ : ∃ p0, 2 ^ q = p0 := ⟨_, rfl⟩
                        rw [hs0] at HS h12 ⊢
                        rw [hp0] at HS hp h13
                        clear hs0 hp0 HB HK HN
                        go_wp2
                        go_quiet (fail)
                        go_wp2_with (go_at_call 20; refine (hp _).mono ?_; rintro e w' ⟨rfl, rfl⟩)
                        go_roundg (m - (q + 1))
                        case measure => omega
                        case rel => exact ⟨q + 1, by omega, rfl, by go_num, by rw [HS.out]; go_num, below_drawn hBc _, HN2⟩
            · as_aux_lemma =>
                clear HC HN
                go_wp2
                go_quiet (fail)
                go_wp2
                go_ret
                exact ⟨rfl, below_drawn hBw _⟩
        · have HN2 : Hid (Seen m z (k + 1) 0) := seen_row HN.out (by omega)
          have HS : Hid (setOf (upP (levN z) (setN z) k) q = upN m (levN z) (setN z) k) := by
            obtain rfl : q = m := by omega
            rfl
          have hge : (m : Int) ≤ (q : Int) := by omega
          have hun := upN_lt m (levN z) (setN z) k
          rw [HS.out]
          obtain ⟨D, hD⟩ : ∃ D, upN m (levN z) (setN z) = D := ⟨_, rfl⟩
          have HD : Hid (upN m (levN z) (setN z) = D) := hD
          rw [hD] at hown hun ⊢
          clear hD HS HN
          have hrow := ownsRow_below hown hBi
          have hBw := hB.trans (hBi.mono hB.size)
          have hc4 : k + 1 ≤ maxLen := by unfold maxLen; omega
          have hc5 : (k + 1) * 8 ≤ 140737488355328 := by omega
          obtain ⟨i0, hi0, hz0, hz1, hz2⟩ := info_parts info3'
          have hone : ∀ u ∈ [Value.int .i64 (D k : Int)], u.oneCell' = true := by intro u hu; rw [List.mem_singleton.1 hu]; rfl
          have hbase : w.heap.size ≤ (wr.alloc (.cells #[.int .i64 (D k : Int)] 3)).heap.size := by have := hBw.size; simp; omega
          as_aux_lemma =>
            go_wp2_with (at_builtin; refine wpList_append_own _ rfl _ _ 22 rfl w.heap.size 3 i0 (.int .i64 0) 1 8 Tryd.underlying22 hi0 hz0 hz1 hz2 rfl (by decide) _ k (row k D) rfl (hrow.alloc _) ⟨_, 0, none⟩ 1 1 [.int .i64 (D k : Int)] rfl rfl (cell_one_new _ _ _) hone hc4 hc5 hbase ?_; intro v' w3 hown' hgrow hnil; rw [row_snoc] at hown'; have hB3 : Below w.heap.size w w3 := (hBw.alloc hBw.size _).grown hgrow hbase (ownsRow_block hrow))
            go_roundg (m - (k + 1))
            case measure => omega
            case rel =>
              have hr2 : row (k + 1) (upd D k (D k)) = row (k + 1) D := by
                unfold row; exact List.map_congr_left fun i _ => by
                  by_cases e : i = k
                  · subst e; rw [upd_same]
                  · rw [upd_other _ e]
              rw [hr2] at hown'
              rw [HD.out]
              exact ⟨k + 1, by omega, rfl, by go_num, hown', hB3, HN2⟩
    · obtain rfl : k = m := by omega
      obtain ⟨g, cp, rfl, hg, ho⟩ := own_of_row h0 hown
      have hA : Apart k (levN z) (setN z) := apart_of hm HN.out
      have HI : Hid (∀ x, x < k → IsLab (z x).1 (z x).2) := fun x hx => (HN.out.1 x x hx hx).1
      clear hown HN
      have tC := fun W (hBW : Below wr.heap.size wr W) => Closure_own k g cp _ hm (fun i _ => upN_lt k (levN z) (setN z) i) W (ho.below hBW) (hT.below (hB.trans (hBW.mono hB.size)) hT.size)
      have tO := fun W (hBW : Below wr.heap.size wr W) => Order_own k g cp _ hm (fun i _ => upN_lt k (levN z) (setN z) i) W (ho.below hBW) (hT.below (hB.trans (hBW.mono hB.size)) hT.size)
      rw [ring_up hA] at tO
      obtain ⟨C, hC⟩ : ∃ C, come k (listOf k (upN k (levN z) (setN z))) = C := ⟨_, rfl⟩
      have HC : Hid (come k (listOf k (upN k (levN z) (setN z))) = C) := hC
      have HU : Hid (∀ x, x < k → C x = upN k (levN z) (setN z) x) := fun x hx => by rw [← hC]; exact come_up hm hx
      rw [hC] at tC
      clear hC
      have tC1 := tC wr (Below.refl _ _)
      clear tC
      go_wp2_with (first | (go_at_call 16; refine tC1.mono ?_; clear tC1; rintro e w2 ⟨rfl, hoC, hB2⟩; have tO1 := tO w2 hB2; clear tO) | (go_at_call 18; refine tO1.mono ?_; clear tO1; rintro e w3 ⟨rfl, hB3⟩; have hBw := hB2.trans (hB3.mono hB2.size); have tI := ints_held w3 (.slice (some ⟨wr.heap.size, 0, none⟩) k k) (.slice (some ⟨g, 0, none⟩) k cp) k (upN k (levN z) (setN z)) (by omega) (Held.of ((hoC.below hB3).like HU.out)) (Held.of (ho.below hBw))) | (go_at_call 21; refine tI.mono ?_; clear tI; rintro e w4 ⟨rfl, hB4⟩; replace hBw := hBw.trans (hB4.mono hBw.size)))
      have hci := HI.out i hi
      have hcj := HI.out j hj
      obtain ⟨e1, e2, p1, p2⟩ := hci.casts
      obtain ⟨e3, e4, p3, p4⟩ := hcj.casts
      have tJ := fun W => labJoin_ok (levN z i) (setN z i) (levN z j) (setN z j) p1 p2 p3 p4 W
      have tM := fun W => labMeet_ok (levN z i) (setN z i) (levN z j) (setN z j) p1 p2 p3 p4 W
      have f1 : ∀ W, Below wr.heap.size wr W → W.cell? ⟨b, off + i * 2, none⟩ = some (.int .i64 (levN z i : Int)) := fun W hW => by
        rw [((hB.trans (hW.mono hB.size)).cell (p := ⟨b, off + i * 2, none⟩) hl.old).trans (hl.c1 i hi), e1]
      have f2 : ∀ W, Below wr.heap.size wr W → W.cell? ⟨b, off + i * 2 + 1, none⟩ = some (.int .i64 (setN z i : Int)) := fun W hW => by
        rw [((hB.trans (hW.mono hB.size)).cell (p := ⟨b, off + i * 2 + 1, none⟩) hl.old).trans (hl.c2 i hi), e2]
      have f3 : ∀ W, Below wr.heap.size wr W → W.cell? ⟨b, off + j * 2, none⟩ = some (.int .i64 (levN z j : Int)) := fun W hW => by
        rw [((hB.trans (hW.mono hB.size)).cell (p := ⟨b, off + j * 2, none⟩) hl.old).trans (hl.c1 j hj), e3]
      have f4 : ∀ W, Below wr.heap.size wr W → W.cell? ⟨b, off + j * 2 + 1, none⟩ = some (.int .i64 (setN z j : Int)) := fun W hW => by
        rw [((hB.trans (hW.mono hB.size)).cell (p := ⟨b, off + j * 2 + 1, none⟩) hl.old).trans (hl.c2 j hj), e4]
      have g1 := f1 w4 hBw
      have g2 := f2 w4 hBw
      have g3 := f3 w4 hBw
      have g4 := f4 w4 hBw
      have HM : Hid (∀ x, x < k → levN z x = max (levN z i) (levN z j) → setN z x = setN z i ||| setN z j → bnd k C i j = some x) := fun x hx h1 h2 => by rw [← HC.out]; exact join_up hA hi hj hx h1 h2
      have HW : Hid (∀ x, x < k → levN z x = min (levN z i) (levN z j) → setN z x = setN z i &&& setN z j → bnd k (turnN k C) i j = some x) := fun x hx h1 h2 => by rw [← HC.out]; exact meet_up hA hi hj hx h1 h2
      clear hci hcj e1 e2 e3 e4
      obtain ⟨lx, hlx⟩ : ∃ x, max (levN z i) (levN z j) = x := ⟨_, rfl⟩
      obtain ⟨sx, hsx⟩ : ∃ x, setN z i ||| setN z j = x := ⟨_, rfl⟩
      obtain ⟨ly, hly⟩ : ∃ x, min (levN z i) (levN z j) = x := ⟨_, rfl⟩
      obtain ⟨sy, hsy⟩ : ∃ x, setN z i &&& setN z j = x := ⟨_, rfl⟩
      rw [hlx, hsx] at tJ HM
      rw [hly, hsy] at tM HW
      clear hlx hsx hly hsy
      go_cut [19, 20] from 28 (fun p e wx => ∃ B : Nat, p = .pointer (some ⟨B, 0, none⟩) ∧ e = .nilIface ∧ Place B wx lx sx ∧ wr.heap.size ≤ B ∧ Below wr.heap.size wr wx)
      case first =>
          have t1 := (tJ w4.drew).mono (fun e w' (h : _ ∧ _) => And.intro h.1 (below_undrew h.2))
          have t2 := (tJ (w4.alloc (.cells #[.int .i64 0, .int .i64 0] 43)).drew).mono (fun e w' (h : _ ∧ _) => And.intro h.1 (place_drew h.2))
          have hold : b < w4.heap.size := Nat.lt_of_lt_of_le hl.old (Nat.le_trans hB.size hBw.size)
          go_region_with (first | (go_at_call 22; with_reducible refine t1.mono ?_; rintro e w5 ⟨rfl, hB6⟩) | (go_at_call 22; with_reducible refine t2.mono ?_; rintro e w5 ⟨rfl, hQ, hB6⟩; obtain ⟨q1, q2, q3, q4, q5⟩ := id hQ))
          all_goals as_aux_lemma =>
            go_simp
            go_step
            go_meet
            case rel =>
              have hB7 := hBw.trans (hB6.mono hBw.size)
              first
                | exact ⟨w5.heap.size, rfl, rfl, Place.new w5 _ _ _, hB7.size, hB7.alloc hB7.size _⟩
                | exact ⟨_, rfl, rfl, hQ.set _ _, hBw.size, (hB7.setCell hBw.size _).setCell hBw.size _⟩
      case rest =>
      obtain ⟨Bx, rfl, rfl, hX, hBx, hBv⟩ := hcut
      clear g1 g2 g3 g4 hBw hoC hB2 hB3 hB4
      have hBw := hBv
      clear hBv tJ
      have g1 := f1 wc hBw
      have g2 := f2 wc hBw
      have g3 := f3 wc hBw
      have g4 := f4 wc hBw
      obtain ⟨wx, rfl⟩ : ∃ wx, wx = wc := ⟨_, rfl⟩
      go_wp2
      go_cut [21, 22] from 28 (fun p e wx => ∃ B : Nat, p = .pointer (some ⟨B, 0, none⟩) ∧ e = .nilIface ∧ Place B wx ly sy ∧ wr.heap.size ≤ B ∧ Below wr.heap.size wr wx ∧ Place Bx wx lx sx)
      case first =>
          have t1 := (tM wx.drew).mono (fun e w' (h : _ ∧ _) => And.intro h.1 (below_undrew h.2))
          have t2 := (tM (wx.alloc (.cells #[.int .i64 0, .int .i64 0] 43)).drew).mono (fun e w' (h : _ ∧ _) => And.intro h.1 (place_drew h.2))
          have hold : b < wx.heap.size := Nat.lt_of_lt_of_le hl.old (Nat.le_trans hB.size hBw.size)
          go_region_with (first | (go_at_call 23; with_reducible refine t1.mono ?_; rintro e w5 ⟨rfl, hB6⟩) | (go_at_call 23; with_reducible refine t2.mono ?_; rintro e w5 ⟨rfl, hQ, hB6⟩; obtain ⟨q1, q2, q3, q4, q5⟩ := id hQ))
          all_goals as_aux_lemma =>
            go_simp
            go_step
            go_meet
            case rel =>
              have hB7 := hBw.trans (hB6.mono hBw.size)
              first
                | exact ⟨w5.heap.size, rfl, rfl, Place.new w5 _ _ _, hB7.size, hB7.alloc hB7.size _, (hX.below hB6).below ((Below.refl _ _).alloc (Nat.le_refl _) _)⟩
                | exact ⟨_, rfl, rfl, hQ.set _ _, hBw.size, (hB7.setCell hBw.size _).setCell hBw.size _, (hX.below hB6).others (by have := hX.lt; omega) _ _⟩
      case rest =>
      clear hX g1 g2 g3 g4 hBw tM f1 f2 f3 f4
      obtain ⟨By, rfl, rfl, hY, hBy, hBw, hX⟩ := hcut
      have hz : k ≤ (numsOf k (upN k (levN z) (setN z))).length := by rw [numsOf_length]; exact Nat.le_refl _
      have hG : Good2 k (numsOf k (upN k (levN z) (setN z))) := good_up hA
      have tJ := fun W (hBW : Below wr.heap.size wr W) => Join_in (some ⟨g, 0, none⟩) k cp i j _ hz W (nums_own (ho.below hBW)) (hT.below (hB.trans (hBW.mono hB.size)) hT.size) hG hi hj
      have tM := fun W (hBW : Below wr.heap.size wr W) => Meet_in (some ⟨g, 0, none⟩) k cp i j _ hz W (nums_own (ho.below hBW)) (hT.below (hB.trans (hBW.mono hB.size)) hT.size) hG hi hj
      rw [show abv k (numsOf k (upN k (levN z) (setN z))) = C by rw [← HC.out, abv, rowsOf_nums]] at tJ tM
      have f1 : ∀ W, Below wr.heap.size wr W → ∀ x, x < k → W.cell? ⟨b, off + x * 2, none⟩ = some (.int .i64 (levN z x : Int)) := fun W hW x hx => by
        rw [((hB.trans (hW.mono hB.size)).cell (p := ⟨b, off + x * 2, none⟩) hl.old).trans (hl.c1 x hx), (HI.out x hx).casts.1]
      have f2 : ∀ W, Below wr.heap.size wr W → ∀ x, x < k → W.cell? ⟨b, off + x * 2 + 1, none⟩ = some (.int .i64 (setN z x : Int)) := fun W hW x hx => by
        rw [((hB.trans (hW.mono hB.size)).cell (p := ⟨b, off + x * 2 + 1, none⟩) hl.old).trans (hl.c2 x hx), (HI.out x hx).casts.2.1]
      clear HC HU HI hG hz hA ho
      obtain ⟨bj, hbj⟩ : ∃ x, bnd k C i j = x := ⟨_, rfl⟩
      obtain ⟨bm, hbm⟩ : ∃ x, bnd k (turnN k C) i j = x := ⟨_, rfl⟩
      rw [hbj] at tJ HM
      rw [hbm] at tM HW
      clear hbj hbm
      obtain ⟨wx, rfl⟩ : ∃ wx, wx = wc := ⟨_, rfl⟩
      have tJ1 := tJ wx hBw
      clear tJ
      cases bj with
      | none =>
        cases bm with
        | none => as_aux_lemma =>
          simp only [bndRes] at tJ1 tM
          go_wp2_with (first | (go_at_call 13; refine tJ1.mono ?_; clear tJ1; rintro e w6 ⟨rfl, hB6⟩; replace hBw := hBw.trans (hB6.mono hBw.size); replace hX := hX.below hB6; replace hY := hY.below hB6; clear hB6; have tM1 := tM w6 hBw; clear tM) | (go_at_call 14; refine tM1.mono ?_; clear tM1; rintro e w7 ⟨rfl, hB7⟩; replace hBw := hBw.trans (hB7.mono hBw.size); replace hX := hX.below hB7; replace hY := hY.below hB7; clear hB7))
          go_loopg [27] k (fun g n wi => ∃ p : Nat, p ≤ k ∧ g = k - p ∧ n = .int .i64 p ∧ Below wr.heap.size wr wi ∧ Place Bx wi lx sx ∧ Place By wi ly sy)
          case atStart => exact ⟨0, by omega, rfl, rfl, hBw, hX, hY⟩
          case round =>
            clear hX hY hBw
            obtain ⟨p, hp, rfl, rfl, hBw, hX, hY⟩ := hrel
            by_cases hpt : p < k
            · have hpt' : (p : Int) < (k : Int) := by omega
              have a1 := f1 _ hBw p hpt
              have a2 := f2 _ hBw p hpt
              have HMp := HM.out p hpt
              have HWp := HW.out p hpt
              obtain ⟨x1, x2, _, _, x5⟩ := id hX
              obtain ⟨y1, y2, _, _, y5⟩ := id hY
              obtain ⟨lp, hlp⟩ : ∃ x, levN z p = x := ⟨_, rfl⟩
              obtain ⟨sp, hsp⟩ : ∃ x, setN z p = x := ⟨_, rfl⟩
              rw [hlp] at a1 HMp HWp
              rw [hsp] at a2 HMp HWp
              clear hlp hsp f1 f2 HM HW
              have hxq := case_none HMp
              have hyq := case_none HWp
              clear HMp HWp
              all_goals as_aux_lemma =>
                go_wp2
                go_quiet (fail)
                go_wp2
                go_roundg (k - (p + 1))
                case measure => omega
                case rel => exact ⟨p + 1, by omega, rfl, by go_num, below_drawn hBw _, hX.drewN _, hY.drewN _⟩
            · have hge : (k : Int) ≤ (p : Int) := by omega
              clear HM HW f1 f2
              go_wp2
              go_ret
              exact ⟨rfl, hB.trans (hBw.mono hB.size)⟩
        | some nm => as_aux_lemma =>
          simp only [bndRes] at tJ1 tM
          go_wp2_with (first | (go_at_call 13; refine tJ1.mono ?_; clear tJ1; rintro e w6 ⟨rfl, hB6⟩; replace hBw := hBw.trans (hB6.mono hBw.size); replace hX := hX.below hB6; replace hY := hY.below hB6; clear hB6; have tM1 := tM w6 hBw; clear tM) | (go_at_call 14; refine tM1.mono ?_; clear tM1; rintro e w7 ⟨rfl, hB7⟩; replace hBw := hBw.trans (hB7.mono hBw.size); replace hX := hX.below hB7; replace hY := hY.below hB7; clear hB7))
          go_loopg [27] k (fun g n wi => ∃ p : Nat, p ≤ k ∧ g = k - p ∧ n = .int .i64 p ∧ Below wr.heap.size wr wi ∧ Place Bx wi lx sx ∧ Place By wi ly sy)
          case atStart => exact ⟨0, by omega, rfl, rfl, hBw, hX, hY⟩
          case round =>
            clear hX hY hBw
            obtain ⟨p, hp, rfl, rfl, hBw, hX, hY⟩ := hrel
            by_cases hpt : p < k
            · have hpt' : (p : Int) < (k : Int) := by omega
              have a1 := f1 _ hBw p hpt
              have a2 := f2 _ hBw p hpt
              have HMp := HM.out p hpt
              have HWp := HW.out p hpt
              obtain ⟨x1, x2, _, _, x5⟩ := id hX
              obtain ⟨y1, y2, _, _, y5⟩ := id hY
              obtain ⟨lp, hlp⟩ : ∃ x, levN z p = x := ⟨_, rfl⟩
              obtain ⟨sp, hsp⟩ : ∃ x, setN z p = x := ⟨_, rfl⟩
              rw [hlp] at a1 HMp HWp
              rw [hsp] at a2 HMp HWp
              clear hlp hsp f1 f2 HM HW
              have hxq := case_none HMp
              have hyc := case_some HWp
              clear HMp HWp
              rcases hyc with hyq | ⟨hyq, hy2⟩
              all_goals as_aux_lemma =>
                go_wp2
                go_quiet (fail)
                go_wp2
                go_roundg (k - (p + 1))
                case measure => omega
                case rel => exact ⟨p + 1, by omega, rfl, by go_num, below_drawn hBw _, hX.drewN _, hY.drewN _⟩
            · have hge : (k : Int) ≤ (p : Int) := by omega
              clear HM HW f1 f2
              go_wp2
              go_ret
              exact ⟨rfl, hB.trans (hBw.mono hB.size)⟩
      | some nj =>
        cases bm with
        | none => as_aux_lemma =>
          simp only [bndRes] at tJ1 tM
          go_wp2_with (first | (go_at_call 13; refine tJ1.mono ?_; clear tJ1; rintro e w6 ⟨rfl, hB6⟩; replace hBw := hBw.trans (hB6.mono hBw.size); replace hX := hX.below hB6; replace hY := hY.below hB6; clear hB6; have tM1 := tM w6 hBw; clear tM) | (go_at_call 14; refine tM1.mono ?_; clear tM1; rintro e w7 ⟨rfl, hB7⟩; replace hBw := hBw.trans (hB7.mono hBw.size); replace hX := hX.below hB7; replace hY := hY.below hB7; clear hB7))
          go_loopg [27] k (fun g n wi => ∃ p : Nat, p ≤ k ∧ g = k - p ∧ n = .int .i64 p ∧ Below wr.heap.size wr wi ∧ Place Bx wi lx sx ∧ Place By wi ly sy)
          case atStart => exact ⟨0, by omega, rfl, rfl, hBw, hX, hY⟩
          case round =>
            clear hX hY hBw
            obtain ⟨p, hp, rfl, rfl, hBw, hX, hY⟩ := hrel
            by_cases hpt : p < k
            · have hpt' : (p : Int) < (k : Int) := by omega
              have a1 := f1 _ hBw p hpt
              have a2 := f2 _ hBw p hpt
              have HMp := HM.out p hpt
              have HWp := HW.out p hpt
              obtain ⟨x1, x2, _, _, x5⟩ := id hX
              obtain ⟨y1, y2, _, _, y5⟩ := id hY
              obtain ⟨lp, hlp⟩ : ∃ x, levN z p = x := ⟨_, rfl⟩
              obtain ⟨sp, hsp⟩ : ∃ x, setN z p = x := ⟨_, rfl⟩
              rw [hlp] at a1 HMp HWp
              rw [hsp] at a2 HMp HWp
              clear hlp hsp f1 f2 HM HW
              have hxc := case_some HMp
              have hyq := case_none HWp
              clear HMp HWp
              rcases hxc with hxq | ⟨hxq, hx2⟩
              all_goals as_aux_lemma =>
                go_wp2
                go_quiet (fail)
                go_wp2
                go_roundg (k - (p + 1))
                case measure => omega
                case rel => exact ⟨p + 1, by omega, rfl, by go_num, below_drawn hBw _, hX.drewN _, hY.drewN _⟩
            · have hge : (k : Int) ≤ (p : Int) := by omega
              clear HM HW f1 f2
              go_wp2
              go_ret
              exact ⟨rfl, hB.trans (hBw.mono hB.size)⟩
        | some nm => as_aux_lemma =>
          simp only [bndRes] at tJ1 tM
          go_wp2_with (first | (go_at_call 13; refine tJ1.mono ?_; clear tJ1; rintro e w6 ⟨rfl, hB6⟩; replace hBw := hBw.trans (hB6.mono hBw.size); replace hX := hX.below hB6; replace hY := hY.below hB6; clear hB6; have tM1 := tM w6 hBw; clear tM) | (go_at_call 14; refine tM1.mono ?_; clear tM1; rintro e w7 ⟨rfl, hB7⟩; replace hBw := hBw.trans (hB7.mono hBw.size); replace hX := hX.below hB7; replace hY := hY.below hB7; clear hB7))
          go_loopg [27] k (fun g n wi => ∃ p : Nat, p ≤ k ∧ g = k - p ∧ n = .int .i64 p ∧ Below wr.heap.size wr wi ∧ Place Bx wi lx sx ∧ Place By wi ly sy)
          case atStart => exact ⟨0, by omega, rfl, rfl, hBw, hX, hY⟩
          case round =>
            clear hX hY hBw
            obtain ⟨p, hp, rfl, rfl, hBw, hX, hY⟩ := hrel
            by_cases hpt : p < k
            · have hpt' : (p : Int) < (k : Int) := by omega
              have a1 := f1 _ hBw p hpt
              have a2 := f2 _ hBw p hpt
              have HMp := HM.out p hpt
              have HWp := HW.out p hpt
              obtain ⟨x1, x2, _, _, x5⟩ := id hX
              obtain ⟨y1, y2, _, _, y5⟩ := id hY
              obtain ⟨lp, hlp⟩ : ∃ x, levN z p = x := ⟨_, rfl⟩
              obtain ⟨sp, hsp⟩ : ∃ x, setN z p = x := ⟨_, rfl⟩
              rw [hlp] at a1 HMp HWp
              rw [hsp] at a2 HMp HWp
              clear hlp hsp f1 f2 HM HW
              have hxc := case_some HMp
              have hyc := case_some HWp
              clear HMp HWp
              rcases hxc with hxq | ⟨hxq, hx2⟩ <;> rcases hyc with hyq | ⟨hyq, hy2⟩
              all_goals as_aux_lemma =>
                go_wp2
                go_quiet (fail)
                go_wp2
                go_roundg (k - (p + 1))
                case measure => omega
                case rel => exact ⟨p + 1, by omega, rfl, by go_num, below_drawn hBw _, hX.drewN _, hY.drewN _⟩
            · have hge : (k : Int) ≤ (p : Int) := by omega
              clear HM HW f1 f2
              go_wp2
              go_ret
              exact ⟨rfl, hB.trans (hBw.mono hB.size)⟩
end Go.Proofs.YtomencagnppdcaaDoor
