/- The walk of the law WallPlays. -/
import Derived.WalkKit
import Derived.LoopTactic
import Derived.Deep.LoopGhost
import Derived.Deep.Cut
import Derived.Deep.CutRange
import Derived.Deep.QuietTactic
import Derived.BigQuiet
import Derived.Deep.RegionHeld3
import Derived.Deep.RegionLaw
import Derived.Deep.AppendLies
import Derived.Deep.DrawnRows
import Derived.Test.YtkkhcgapfklmjaaDoorWalPla
namespace Go.Proofs.YtkkhcgapfklmjaaDoor
open Go.RowKit
attribute [local go_sem ↓] Go.wp_at_zero Go.wp_at_succ
set_option maxRecDepth 100000

theorem wref_start {w w2 wr : World} {a2 : Option Addr} {n m c2 X : Nat} {vH : Value} {ys : List Int} (P : Nat → Prop) (hl : Lst w (.slice a2 m c2) m (fun i => ys[i]?.getD 0)) (hy : AllLev m ys) (hB : Below w.heap.size w wr) (hO : Own wr w2.heap.size n (fun _ => 0)) (hoH : wr.ownsRow X 3 1 vH m (rowI m (fun i => ((2 ^ i : Nat) : Int))))
    (h1 : ∀ b, b < w.heap.size → P b) (h2 : P w2.heap.size) (h3 : ∀ b, X ≤ b → P b) : WRef P wr (.slice a2 m c2) (.slice (some ⟨w2.heap.size, 0, none⟩) n n) vH (newWall n m ys) := by
  refine ⟨((lstp_old hl h1).below hB).like fun i hi => (lev_cast (hy i hi)).1, ⟨_, _, rfl, .inr ⟨_, _, rfl, h2, hO.lt, fun i hi => ?_⟩⟩, lstp_of_row hoH h3⟩
  rw [Nat.zero_add]
  exact hO.cell i hi
set_option maxHeartbeats 80000000 in
theorem waPla_in (a2 a3 : Option Addr) (n m c2 q c3 : Nat) (ys : List Int) (k0 k1 k2 k3 : Nat → Int) (w : World) (hT : Tab w) (hE : ErrT w)
    (h2 : AtNums w a2 m ys) (h3 : AtAsks w a3 q k0 k1 k2 k3) (hn8 : n ≤ 8) (hm8 : m ≤ 8) (hy : AllLev m ys)
    (hN : ∀ W, Below w.heap.size w W → Calls Tryd.prog 8 #[.int .i64 (n : Int), .slice a2 m c2] W fun e w' => ∃ B au af gu gf cu cf, e = .returned (.tuple #[.pointer (some ⟨B, 0, none⟩), .nilIface]) ∧ WMon W.heap.size w'.heap.size B au af gu gf cu cf w' (newWall n m ys) ∧ Below W.heap.size W w')
    (Z : Nat) (hZ : (Z = q ∧ q ≤ 100) ∨ (Z = 100 ∧ 100 < q)) :
    Calls Tryd.prog 6 #[.int .i64 (n : Int), .slice a2 m c2, .slice a3 q c3] w fun e w' => e = .returned (.bool true) ∧ Below w.heap.size w w' := by
  have hm8' : (m : Int) ≤ 8 := by omega
  have hn8' : (n : Int) ≤ 8 := by omega
  have hn0' : (0 : Int) ≤ (n : Int) := by omega
  have tL := refLev_code a2 m c2 ys 0 (.inr (.inl ⟨rfl, hm8, hy⟩)) w h2
  have tN := hN w (Below.refl _ _)
  have hsz := hT.size
  have LST := Hid.mkI (lst_of_nums (cp := c2) h2)
  have HY := Hid.mkI hy
  have OK0 := Hid.mkI (newWall_ok (n := n) hn8 hm8 hy)
  have MK := Hid.mkI (fun W => make_any W n (by omega))
  clear hN h2 hy
  obtain ⟨i0, hi0, hz0, hz1, hz2⟩ := info_parts info3i
  go_enter Tryd.func6, Tryd.ntmps6
  go_wp2_with (first | (go_at_call 13; refine tL.mono ?_; clear tL; rintro e w' ⟨rfl, hw⟩; obtain rfl := hw.symm) | (go_at_call 8; refine tN.mono ?_; clear tN; rintro e w2 ⟨B, au, af, gu, gf, cu, cf, rfl, hM, hB2⟩; have hmk := MK.out w2))
  clear hmk MK
  have hBn := hM.ltB
  have hs2 := hB2.size
  have hX1 : w2.heap.size < w2.heap.size + 1 := Nat.lt_succ_self _
  have hmd := Own.made w2 n
  have hBm : Below w2.heap.size w2 (w2.alloc (.cells (madeCells #[.int .i64 0] n) 3)) := (Below.refl _ _).alloc (Nat.le_refl _) _
  have hms : (w2.alloc (.cells (madeCells #[.int .i64 0] n) 3)).heap.size = w2.heap.size + 1 := by simp
  obtain ⟨w3, hw3⟩ : ∃ x, w2.alloc (.cells (madeCells #[.int .i64 0] n) 3) = x := ⟨_, rfl⟩
  rw [hw3] at hmd hBm hms ⊢
  clear hw3
  have hQ0 := Tri.new w3 (.slice a2 m c2) (.slice (some ⟨w2.heap.size, 0, none⟩) n n) (.slice none 0 0) 40
  rw [hms] at hQ0
  have hBa : Below w3.heap.size w3 (w3.alloc (.cells #[.slice a2 m c2, .slice (some ⟨w2.heap.size, 0, none⟩) n n, .slice none 0 0] 40)) := (Below.refl _ _).alloc (Nat.le_refl _) _
  have hO0 := hmd.below hBa
  have hM0 := (hM.below hBm).below hBa
  have hB0 := (hB2.trans (hBm.mono hB2.size)).trans (hBa.mono (Nat.le_trans hB2.size hBm.size))
  clear hBa hBm hmd hM hB2 hms
  go_loopg [11] m (fun g i wr => ∃ (k : Nat) (vH : Value), k ≤ m ∧ g = m - k ∧ i = .int .i64 k ∧ WMon w.heap.size w2.heap.size B au af gu gf cu cf wr (newWall n m ys) ∧ Tri (w2.heap.size + 1) wr (.slice a2 m c2) (.slice (some ⟨w2.heap.size, 0, none⟩) n n) vH ∧ Own wr w2.heap.size n (fun _ => 0) ∧ wr.ownsRow (w2.heap.size + 2) 3 1 vH k (rowI k (fun i => ((2 ^ i : Nat) : Int))) ∧ Below w.heap.size w wr)
  case atStart => exact ⟨0, _, by omega, rfl, rfl, hM0, hQ0, hO0, World.ownsRow_nil _ _ _ _, hB0⟩
  case round =>
    clear hM0 hQ0 hO0 hB0
    obtain ⟨k, vH, hk, rfl, rfl, hM, hQ, hO, hoH, hB⟩ := hrel
    by_cases hlt : k < m
    · have hlt' : (k : Int) < (m : Int) := by omega
      have hb1 : k + 1 ≤ maxLen := by unfold maxLen; omega
      have hb2 : (k + 1) * 8 ≤ 140737488355328 := by omega
      have tP := fun W => pow2_any k (by omega) W
      have hS := rowI_snoc k (fun i => ((2 ^ i : Nat) : Int))
      obtain ⟨xs, hxs⟩ : ∃ x, rowI k (fun i => ((2 ^ i : Nat) : Int)) = x := ⟨_, rfl⟩
      rw [hxs] at hoH hS
      obtain ⟨px, hpx⟩ : ∃ x, 2 ^ k = x := ⟨_, rfl⟩
      simp only [hpx] at tP hS
      have HS := Hid.mkI hS
      have lQ := hQ.lt
      clear hxs hS hpx
      obtain ⟨b0, b1, b2, g0, g1, g2⟩ := id hQ
      have b2a := cell_alloc_l (.cells #[.int .i64 (px : Int)] 3) b2
      go_wp2_with fail
      go_region_law (first | ((refine step_append_lies _ (by rfl) _ _ _ (by rfl) (w2.heap.size + 2) 3 i0 _ 1 8 Tryd.underlying22 hi0 hz0 hz1 hz2 rfl (by omega) vH k xs (by rfl) ((hoH.alloc _).drew) ⟨wr.heap.size, 0, none⟩ 1 1 [.int .i64 (px : Int)] (by rfl) (by rfl) (World.news_of_block (heap_alloc_new wr _)) (by simp [Value.oneCell']) (by omega) hb1 hb2 (by simp; omega) (wr.heap.size + 1) (by simp) ?_; intro gg cap w6 hoH6 hgrow hat hlt6; have hQ6 := ((hQ.below ((Below.refl _ wr).alloc (Nat.le_refl _) _)).drew).grown hgrow (row_apart hoH (by omega)); obtain ⟨d0, d1, d2, f0, f1, f2⟩ := id hQ6)) | (refine wstep_pow2 (by rfl) _ (by rfl) (.int .i64 (k : Int)) (by rfl) (.int .i64 (px : Int)) (tP _) ?_))
      all_goals
        go_wp2_with fail
        go_roundg (m - (k + 1))
        case measure => omega
        case rel => exact ⟨k + 1, _, by omega, rfl, by go_num, ((hM.below ((Below.refl _ wr).alloc (Nat.le_refl _) _)).drew.grown hgrow (fun j e => by have := (hoH.lt j e).1; omega) hBn).far (Nat.le_succ _) hBn _, hQ6.set2 _, Own.far (Own.grown (hO.below ((Below.refl _ wr).alloc (Nat.le_refl _) _).drew) hgrow (row_apart hoH (by omega))) (by omega) _, by rw [← HS.out]; exact ownsRow_setCell_below hoH6 (by show w2.heap.size + 1 < w2.heap.size + 2; omega) _, (((hB.alloc hB.size _).drew).grown hgrow (by simp; have := hB.size; omega) (fun j e => by have := (hoH.lt j e).1; omega)).setCell (by show w.heap.size ≤ w2.heap.size + 1; omega) _⟩
    · have hge : (m : Int) ≤ (k : Int) := by omega
      obtain rfl : k = m := by omega
      obtain ⟨P, hP⟩ : ∃ P : Nat → Prop, (fun b => b < w.heap.size ∨ (w2.heap.size ≤ b ∧ b ≠ w2.heap.size + 1)) = P := ⟨_, rfl⟩
      have hP1 : ∀ b, P b → b < w.heap.size ∨ w2.heap.size ≤ b := fun b hb => by rw [← hP] at hb; exact hb.imp id And.left
      have hP2 : ∀ b, P b → b ≠ w2.heap.size + 1 := fun b hb => by rw [← hP] at hb; rcases hb with h | h <;> omega
      have hP3 : ∀ b, w2.heap.size + 1 < b → P b := fun b hb => by rw [← hP]; exact .inr ⟨by omega, by omega⟩
      have hR0 := wref_start (w2 := w2) P LST.out HY.out hB hO hoH (fun b hb => by rw [← hP]; exact .inl hb) (by rw [← hP]; exact .inr ⟨Nat.le_refl _, by omega⟩) (fun b hb => hP3 b (by omega))
      have HP1 := Hid.mkI hP1
      have HP2 := Hid.mkI hP2
      have HP3 := Hid.mkI hP3
      clear hP hP1 hP2 hP3 hoH hO LST HY hi0 hz0 hz1 hz2 hlt hk
      go_wp2_with fail
      go_loopg [12] 100 (fun g i wr => ∃ (j : Nat) (s : WallSt) (vT vS vH : Value), j ≤ Z ∧ g = 100 - j ∧ i = .int .i64 j ∧ WMon w.heap.size w2.heap.size B au af gu gf cu cf wr s ∧ Tri (w2.heap.size + 1) wr vT vS vH ∧ WRef P wr vT vS vH s ∧ Hid (WallOk s) ∧ Hid (WAlike (newWall n k ys) s) ∧ Below w.heap.size w wr)
      case atStart => exact ⟨0, _, _, _, _, by omega, rfl, rfl, hM, hQ, hR0, OK0, WAlike.refl _, hB⟩
      case round =>
        clear hM hQ hR0 hB OK0
        obtain ⟨j, s, vT, vS, vH, hj, rfl, rfl, hM, hQ, hR, HO, HA, hB⟩ := hrel
        have hnf : Hid (s.nf = k) := HA.out.nf
        have hnu : Hid (s.nu = n) := HA.out.nu
        by_cases hjt : j < Z
        · have hq1 : (j : Int) < (q : Int) := by omega
          have hq2 : (j : Int) < 100 := by omega
          rcases h3 with h3 | ⟨b, off, rfl, hl⟩
          · omega
          have e0 := (hB.cell (p := ⟨b, off + j * 4, none⟩) hl.old).trans (hl.c0 j (by omega))
          have e1 := (hB.cell (p := ⟨b, off + j * 4 + 1, none⟩) hl.old).trans (hl.c1 j (by omega))
          have e2 := (hB.cell (p := ⟨b, off + j * 4 + 2, none⟩) hl.old).trans (hl.c2 j (by omega))
          have e3 := (hB.cell (p := ⟨b, off + j * 4 + 3, none⟩) hl.old).trans (hl.c3 j (by omega))
          have lb : b < wr.heap.size := Nat.lt_of_lt_of_le hl.old hB.size
          have lb0 := hl.old
          have lQ := hQ.lt
          obtain ⟨x0, hx0⟩ : ∃ x, k0 j = x := ⟨_, rfl⟩
          obtain ⟨x1, hx1⟩ : ∃ x, k1 j = x := ⟨_, rfl⟩
          obtain ⟨x2, hx2⟩ : ∃ x, k2 j = x := ⟨_, rfl⟩
          obtain ⟨x3, hx3⟩ : ∃ x, k3 j = x := ⟨_, rfl⟩
          rw [hx0] at e0
          rw [hx1] at e1
          rw [hx2] at e2
          rw [hx3] at e3
          have HO2 : Hid (WallOk (askWall s x0 x1 x2).2) := askWall_ok HO.out _ _ _
          have HA2 : Hid (WAlike (newWall n k ys) (askWall s x0 x1 x2).2) := HA.out.trans (askWall_alike _ _ _ _)
          have tA := fun W (hW : Below w.heap.size w W) (h : WMon w.heap.size w2.heap.size B au af gu gf cu cf W s) => waAsk_any h HO.out (hT.below hW hsz) hsz x0 x1 x2 x3
          have tR := fun W P' (hP' : ∀ b, W.heap.size ≤ b → P' b) (h : WRef P' W vT vS vH s) => refWall_any P' vT vS vH s x0 x1 x2 x3 HO.out W hP' h
          obtain ⟨c, hc⟩ : ∃ c, (askWall s x0 x1 x2).1 = c := ⟨_, rfl⟩
          obtain ⟨s', hs'⟩ : ∃ x, (askWall s x0 x1 x2).2 = x := ⟨_, rfl⟩
          simp only [hc, hs'] at tA tR
          rw [hs'] at HO2 HA2
          have hx0 : Hid (k0 j = x0) := hx0
          have hx1 : Hid (k1 j = x1) := hx1
          have hx2 : Hid (k2 j = x2) := hx2
          have hx3 : Hid (k3 j = x3) := hx3
          clear hc hs' HO HA
          obtain ⟨aT, cpT, rfl, -⟩ := id hR.lt
          obtain ⟨aS, cpS, rfl, -⟩ := id hR.ls
          obtain ⟨aH, cpH, rfl, -⟩ := id hR.lh
          obtain ⟨b0, b1, b2, -, -, -⟩ := id hQ
          go_wp2
          go_cut [13, 14] from 69 to 116 (fun p e wx => ∃ (X : Nat) (uT uS uH : Value), p = .pointer (some ⟨X, 0, none⟩) ∧ e = .int .i64 c ∧ wr.heap.size ≤ X ∧ Tri X wx uT uS uH ∧ WRef P wx uT uS uH s' ∧ Below wr.heap.size wr wx)
          case first => as_aux_lemma =>
            have t1 := tR wr.drew P (fun b hb => HP3.out b (Nat.lt_of_lt_of_le lQ hb)) (hR.drawn 1)
            have hBa : Below wr.heap.size wr (wr.alloc (.cells #[.slice none 0 0, .slice none 0 0, .slice none 0 0] 40)).drew := ((Below.refl _ _).alloc (Nat.le_refl _) _).drew
            have t2 := tR (wr.alloc (.cells #[.slice none 0 0, .slice none 0 0, .slice none 0 0] 40)).drew (fun b => P b ∧ b ≠ wr.heap.size) (fun b hb => by
              have hb' : wr.heap.size + 1 ≤ b := by simpa using hb
              exact ⟨HP3.out b (by omega), by omega⟩) ((hR.weak fun b hl hb => ⟨hb, by omega⟩).below hBa)
            have hQn := (Tri.new wr (.slice none 0 0) (.slice none 0 0) (.slice none 0 0) 40).drew
            clear tR tA
            unfold ask4 at t1 t2
            first | (go_region_held3 (fun w' => w'.cell? ⟨w2.heap.size + 1, 0, none⟩ = some (.slice aT s.nf cpT) ∧ w'.cell? ⟨w2.heap.size + 1, 1, none⟩ = some (.slice aS s.nu cpS) ∧ w'.cell? ⟨w2.heap.size + 1, 2, none⟩ = some (.slice aH s.nf cpH) ∧ w'.cell? ⟨b, off + j * 4, none⟩ = some (.int .i64 x0) ∧ w'.cell? ⟨b, off + j * 4 + 1, none⟩ = some (.int .i64 x1) ∧ w'.cell? ⟨b, off + j * 4 + 2, none⟩ = some (.int .i64 x2) ∧ w'.cell? ⟨b, off + j * 4 + 3, none⟩ = some (.int .i64 x3))
              ((go_split_ands; refine ⟨?_, ?_, ?_, ?_, ?_, ?_, ?_⟩ <;> first | (with_reducible assumption) | (with_reducible (refine keep_cell hB5 ?_; assumption)) | (with_reducible (refine wcell_alloc _ ?_; assumption)) | (with_reducible (refine (cell_far (by omega)).trans ((cell_far (by omega)).trans ((cell_far (by omega)).trans ?_)); assumption)) | go_keep))
              (first | (go_at_call 16; (with_reducible refine t1.mono ?_); rintro e w5 ⟨uT, uS, uH, rfl, hR5, hB5⟩; have hz5 : wr.heap.size ≤ w5.heap.size := hB5.size; have s0 := keep_cell hB5 b0; have s1 := keep_cell hB5 b1; have s2 := keep_cell hB5 b2; have s4 := keep_cell hB5 e0; have s5 := keep_cell hB5 e1; have s6 := keep_cell hB5 e2; have s7 := keep_cell hB5 e3; obtain ⟨pT, qT, rfl, -⟩ := id hR5.lt; obtain ⟨pS, qS, rfl, -⟩ := id hR5.ls; obtain ⟨pH, qH, rfl, -⟩ := id hR5.lh) | (go_at_call 16; (with_reducible refine t2.mono ?_); rintro e w5 ⟨uT, uS, uH, rfl, hR5, hB5⟩; have hQ5 := hQn.below hB5; obtain ⟨z0, z1, z2, y0, y1, y2⟩ := id hQ5; obtain ⟨pT, qT, rfl, -⟩ := id hR5.lt; obtain ⟨pS, qS, rfl, -⟩ := id hR5.ls; obtain ⟨pH, qH, rfl, -⟩ := id hR5.lh))) | fail
            all_goals
              go_simp
              go_step
              go_meet
              case rel =>
                first
                  | exact ⟨_, _, _, _, rfl, rfl, hz5, Tri.new w5 _ _ _ _, hR5.below ((Below.refl _ _).alloc (Nat.le_refl _) _), (undrew2 hB5).alloc hz5 _⟩
                  | exact ⟨_, _, _, _, rfl, rfl, Nat.le_refl _, hQ5.put _ _ _, (hR5.put3 (fun b hb => hb.2)).weak (fun b _ hb => hb.1), below_put3 (hBa.trans (hB5.mono hBa.size)) (Nat.le_refl _)⟩
          case rest =>
          obtain ⟨X, uT, uS, uH, rfl, rfl, hX, hQx, hRx, hBx⟩ := hcut
          have hM4 := (hM.below hBx).put3 (u0 := uT) (u1 := uS) (u2 := uH) (Nat.le_succ w2.heap.size) hBn
          have hQ4 := (hQ.below hBx).put uT uS uH
          have hR4 := hRx.put3 (u0 := uT) (u1 := uS) (u2 := uH) HP2.out
          have hB4 : Below w.heap.size w (put3 wc (w2.heap.size + 1) uT uS uH) := below_put3 (hB.trans (hBx.mono hB.size)) (by omega)
          obtain ⟨z0, z1, z2, -, -, -⟩ := id (hQ.below hBx)
          obtain ⟨-, -, -, y0, y1, y2⟩ := id (hQ.below hBx)
          obtain ⟨d0, d1, d2, -, -, -⟩ := id hQx
          clear e0 e1 e2 e3 b0 b1 b2 tR hR hQ hM
          obtain ⟨pT, qT, rfl, -⟩ := id hRx.lt
          obtain ⟨pS, qS, rfl, -⟩ := id hRx.ls
          obtain ⟨pH, qH, rfl, -⟩ := id hRx.lh
          obtain ⟨W4, hW4⟩ : ∃ x, put3 wc (w2.heap.size + 1) (.slice pT s'.nf qT) (.slice pS s'.nu qS) (.slice pH s'.nf qH) = x := ⟨_, rfl⟩
          rw [hW4] at hM4 hQ4 hR4 hB4
          unfold put3 at hW4
          have e0 := (hB4.cell (p := ⟨b, off + j * 4, none⟩) lb0).trans (hl.c0 j (by omega))
          have e1 := (hB4.cell (p := ⟨b, off + j * 4 + 1, none⟩) lb0).trans (hl.c1 j (by omega))
          have e2 := (hB4.cell (p := ⟨b, off + j * 4 + 2, none⟩) lb0).trans (hl.c2 j (by omega))
          have e3 := (hB4.cell (p := ⟨b, off + j * 4 + 3, none⟩) lb0).trans (hl.c3 j (by omega))
          rw [hx0.out] at e0
          rw [hx1.out] at e1
          rw [hx2.out] at e2
          rw [hx3.out] at e3
          replace tA := tA W4 hB4 hM4
          have tE := fun W hW => werror_errV c W (wErrT.betw hE (w' := W) hW)
          obtain ⟨v, hv⟩ : ∃ v, errV c = v := ⟨_, rfl⟩
          rw [hv] at tA
          simp only [hv] at tE
          clear hv hl
          have l4 := hQ4.lt
          go_wp2_with (first | (go_at_call 9; refine tA.mono ?_; clear tA; rintro e w5 ⟨rfl, hM5, hBt⟩; have hB5 : Below w.heap.size w w5 := hB4.trans (hBt.below hB4.size); replace tE := tE w5 hB5; have hQ5 := hQ4.betw hBt (.inr (Nat.le_succ _)); have hR5 := hR4.betw hBt HP1.out) | (go_at_call 14; refine tE.mono ?_; clear tE; rintro e w6 ⟨rfl, hB6⟩; have hM6 := hM5.below hB6; have hQ6 := hQ5.below hB6; have hR6 := hR5.below hB6; have hBw6 := hB5.trans (hB6.mono hB5.size)))
          clear e0 e1 e2 e3 d0 d1 d2 z0 z1 z2 y0 y1 y2 hW4 hM4 hQ4 hR4 hB4 hM5 hQ5 hR5 hB5 hBt hB6 hQx hRx hBx hB l4
          have hnu' : Hid (s'.nu = n) := HA2.out.nu
          have hnf' : Hid (s'.nf = k) := HA2.out.nf
          go_loopg [15] n (fun g i wi => ∃ u : Nat, u ≤ n ∧ g = n - u ∧ i = .int .i64 u ∧ WMon w.heap.size w2.heap.size B au af gu gf cu cf wi s' ∧ Tri (w2.heap.size + 1) wi (.slice pT s'.nf qT) (.slice pS s'.nu qS) (.slice pH s'.nf qH) ∧ WRef P wi (.slice pT s'.nf qT) (.slice pS s'.nu qS) (.slice pH s'.nf qH) s' ∧ Below w.heap.size w wi)
          case atStart => exact ⟨0, by omega, rfl, rfl, hM6, hQ6, hR6, hBw6⟩
          case round =>
            clear hM6 hQ6 hR6 hBw6
            obtain ⟨u, hu, rfl, rfl, hM, hQ, hR, hB⟩ := hrel
            by_cases hut : u < n
            · as_aux_lemma =>
              have hu' : (u : Int) < (n : Int) := by omega
              have hu2 : u < s'.nu := by rw [hnu'.out]; exact hut
              have hu3 : (u : Int) < (s'.nu : Int) := by omega
              obtain ⟨bu, ou, cpu, hv, hbl, hbc⟩ := hR.ls.some (by omega)
              cases hv
              have e1 := hbc u hu2
              have tH := fun nn => saw_in (hM.drawn nn) u hu2
              obtain ⟨x, hx⟩ : ∃ x, s'.saw u = x := ⟨_, rfl⟩
              simp only [hx] at e1 tH
              obtain ⟨b0, b1, b2, -, -, -⟩ := id hQ
              clear hx hbc
              go_wp2
              go_quiet ((go_at_call 10; exact Calls.quiet_of_same (tH _)))
              go_wp2
              go_roundg (n - (u + 1))
              case measure => omega
              case rel => exact ⟨u + 1, by omega, rfl, by go_num, hM.drawn _, hQ.drawn _, hR.drawn _, below_drawn hB _⟩
            · have hgeu : (n : Int) ≤ (u : Int) := by omega
              go_wp2
              go_loopg [16] k (fun g i wi => ∃ f : Nat, f ≤ k ∧ g = k - f ∧ i = .int .i64 f ∧ WMon w.heap.size w2.heap.size B au af gu gf cu cf wi s' ∧ Tri (w2.heap.size + 1) wi (.slice pT s'.nf qT) (.slice pS s'.nu qS) (.slice pH s'.nf qH) ∧ WRef P wi (.slice pT s'.nf qT) (.slice pS s'.nu qS) (.slice pH s'.nf qH) s' ∧ Below w.heap.size w wi)
              case atStart => exact ⟨0, by omega, rfl, rfl, hM, hQ, hR, hB⟩
              case round =>
                clear hM hQ hR hB
                obtain ⟨f, hf, rfl, rfl, hM, hQ, hR, hB⟩ := hrel
                by_cases hft : f < k
                · as_aux_lemma =>
                  have hf' : (f : Int) < (k : Int) := by omega
                  have hf2 : f < s'.nf := by rw [hnf'.out]; exact hft
                  have hf3 : (f : Int) < (s'.nf : Int) := by omega
                  obtain ⟨bu, ou, cpu, hv, hbl, hbc⟩ := hR.lh.some (by omega)
                  cases hv
                  have e1 := hbc f hf2
                  have tH := fun nn => holds_in (hM.drawn nn) f hf2
                  obtain ⟨x, hx⟩ : ∃ x, s'.hol f = x := ⟨_, rfl⟩
                  simp only [hx] at e1 tH
                  obtain ⟨b0, b1, b2, -, -, -⟩ := id hQ
                  clear hx hbc
                  go_wp2
                  go_quiet ((go_at_call 12; exact Calls.quiet_of_same (tH _)))
                  go_wp2
                  go_roundg (k - (f + 1))
                  case measure => omega
                  case rel => exact ⟨f + 1, by omega, rfl, by go_num, hM.drawn _, hQ.drawn _, hR.drawn _, below_drawn hB _⟩
                · have hge2 : (k : Int) ≤ (f : Int) := by omega
                  go_wp2
                  go_roundg (100 - (j + 1))
                  case measure => omega
                  case rel => exact ⟨j + 1, s', _, _, _, by omega, rfl, by go_num, hM, hQ, hR, HO2, HA2, hB⟩
        · have hex : (q : Int) ≤ (j : Int) ∨ ((j : Int) < (q : Int) ∧ 100 ≤ (j : Int)) := by omega
          have tX := saw_out hM (n : Int) (.inr (by rw [hnu.out]; exact Int.le_refl _))
          have tY := holds_out hM (-1) (.inl (by decide))
          clear hjt hZ hj h3
          rcases hex with hx | ⟨hx, hx2⟩
          all_goals as_aux_lemma =>
            go_wp2_with (first | (go_at_call 10; refine tX.mono ?_; clear tX; rintro e w' ⟨rfl, hw⟩; obtain rfl := hw.symm) | (go_at_call 12; refine tY.mono ?_; clear tY; rintro e w' ⟨rfl, hw⟩; obtain rfl := hw.symm))
            go_ret
            exact ⟨by simp, hB⟩
theorem upto100p (q : Nat) : ∃ Z, (Z = q ∧ q ≤ 100) ∨ (Z = 100 ∧ 100 < q) := by
  by_cases h : q ≤ 100
  · exact ⟨q, .inl ⟨rfl, h⟩⟩
  · exact ⟨100, .inr ⟨rfl, by omega⟩⟩
theorem waPla_any (u : Int) (a2 a3 : Option Addr) (m c2 q c3 : Nat) (ys : List Int) (k0 k1 k2 k3 : Nat → Int) (w : World) (h2 : AtNums w a2 m ys) (h3 : AtAsks w a3 q k0 k1 k2 k3) (hT : Tab w) (hE : ErrT w) :
    Calls Tryd.prog 6 #[.int .i64 u, .slice a2 m c2, .slice a3 q c3] w fun e w' => e = .returned (.bool true) ∧ Below w.heap.size w w' := by
  rcases waNew_is a2 u m c2 ys w h2 with ⟨c, hc0, hc, hN⟩ | ⟨n, rfl, hn, hm, hy, hN⟩
  · have hN := hN w (Below.refl _ _)
    rcases hc with ⟨rfl, hu⟩ | ⟨h0, h8, hc⟩
    · exact waPla_err1 a2 a3 u m c2 q c3 hu w hE hN
    · exact waPla_err2 a2 a3 u m c2 q c3 ys c hc0 h0 h8 hc w hE h2 hN
  · obtain ⟨Z, hZ⟩ := upto100p q
    exact waPla_in a2 a3 n m c2 q c3 ys k0 k1 k2 k3 w hT hE h2 h3 hn hm hy hN Z hZ
end Go.Proofs.YtkkhcgapfklmjaaDoor
