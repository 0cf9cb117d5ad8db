/- The walk of the law BibaPlays, where all are levels. -/
import Derived.WalkKit
import Derived.LoopTactic
import Derived.Deep.LoopGhost
import Derived.Deep.Cut
import Derived.Deep.CutRange
import Derived.Deep.QuietTactic
import Derived.BigQuiet
import Derived.Deep.RegionHeld3
import Derived.Deep.DrawnRows
import Derived.Test.YteheaeihoameeaaDoorBibPla
namespace Go.Proofs.YteheaeihoameeaaDoor
open Go.RowKit
attribute [local go_sem ↓] Go.wp_at_zero Go.wp_at_succ
set_option maxRecDepth 100000

set_option maxHeartbeats 80000000 in
theorem bibPla_in (a1 a2 a3 : Option Addr) (n c1 m c2 q c3 : Nat) (zs ys : List Int) (k0 k1 k2 k3 : Nat → Int) (w : World) (hE : ErrT w)
    (h1 : AtNums w a1 n zs) (h2 : AtNums w a2 m ys) (h3 : AtAsks w a3 q k0 k1 k2 k3) (hn8 : n ≤ 8) (hm8 : m ≤ 8) (hz : AllLev n zs) (hy : AllLev m ys)
    (hN : ∀ W, Below w.heap.size w W → Calls Tryd.prog 16 #[.slice a1 n c1, .slice a2 m c2] W fun e w' => ∃ B au af gu gf cu cf, e = .returned (.tuple #[.pointer (some ⟨B, 0, none⟩), .nilIface]) ∧ BMon W.heap.size w'.heap.size B au af gu gf cu cf w' (newBib n m zs ys) ∧ Below W.heap.size W w')
    (Z : Nat) (hZ : (Z = q ∧ q ≤ 100) ∨ (Z = 100 ∧ 100 < q)) :
    Calls Tryd.prog 6 #[.slice a1 n c1, .slice a2 m c2, .slice a3 q c3] w fun e w' => e = .returned (.bool true) ∧ Below w.heap.size w w' := by
  have hm8' : (m : Int) ≤ 8 := by omega
  have hn8' : (n : Int) ≤ 8 := by omega
  have tL1 := refLev_code a1 n c1 zs 0 (.inr (.inl ⟨rfl, hn8, hz⟩)) w h1
  have tL2 := refLev_code a2 m c2 ys 0 (.inr (.inl ⟨rfl, hm8, hy⟩)) w h2
  have tN := hN w (Below.refl _ _)
  have lst1 := lst_of_nums (cp := c1) h1
  have lst2 := lst_of_nums (cp := c2) h2
  have ok0 := newBib_ok hn8 hm8 hz hy
  have hr0 : ∀ W P, Below w.heap.size w W → (∀ b, b < w.heap.size → P b) → BRef P W (.slice a1 n c1) (.slice a2 m c2) (.slice a2 m c2) (.slice a1 n c1) (newBib n m zs ys) := fun W P hW hP =>
    have l1 : Lstp P W (.slice a1 n c1) n (fun i => (((zs[i]?.getD 0).toNat : Nat) : Int)) := ((lstp_old lst1 hP).below hW).like fun i hi => (lev_cast (hz i hi)).1
    have l2 : Lstp P W (.slice a2 m c2) m (fun i => (((ys[i]?.getD 0).toNat : Nat) : Int)) := ((lstp_old lst2 hP).below hW).like fun i hi => (lev_cast (hy i hi)).1
    ⟨l1, l2, l2, l1⟩
  have HR0 := Hid.mkI hr0
  have OK0 := Hid.mkI ok0
  clear hN hr0 ok0 lst1 lst2 h1 h2 hz hy
  go_enter Tryd.func6, Tryd.ntmps6
  go_wp2_with (first | (go_at_call 20; refine tL1.mono ?_; clear tL1; rintro e w' ⟨rfl, hw⟩; obtain rfl := hw.symm) | (go_at_call 20; refine tL2.mono ?_; clear tL2; rintro e w' ⟨rfl, hw⟩; obtain rfl := hw.symm) | (go_at_call 16; refine tN.mono ?_; clear tN; rintro e w2 ⟨B, au, af, gu, gf, cu, cf, rfl, hM, hB2⟩))
  have hBn := hM.ltB
  have hQ0 := Quad.new w2 (.slice a1 n c1) (.slice a2 m c2) (.slice a2 m c2) (.slice a1 n c1) 48
  have hBa : Below w2.heap.size w2 (w2.alloc (.cells #[.slice a1 n c1, .slice a2 m c2, .slice a2 m c2, .slice a1 n c1] 48)) := (Below.refl _ _).alloc (Nat.le_refl _) _
  have hM0 := hM.below hBa
  have hB0 := hB2.trans (hBa.mono hB2.size)
  have hs2 := hB2.size
  have hR0 := HR0.out _ (fun b => b < w.heap.size ∨ w2.heap.size < b) hB0 (fun b hb => .inl hb)
  clear HR0 hBa hM hB2
  obtain ⟨P, hP⟩ : ∃ P : Nat → Prop, (fun b => b < w.heap.size ∨ w2.heap.size < b) = P := ⟨_, rfl⟩
  have hP1 : ∀ b, P b → b < w.heap.size ∨ w2.heap.size ≤ b := fun b hb => by rw [← hP] at hb; exact hb.imp id Nat.le_of_lt
  have hP2 : ∀ b, P b → b ≠ w2.heap.size := fun b hb => by rw [← hP] at hb; rcases hb with h | h <;> omega
  have hP3 : ∀ b, w2.heap.size < b → P b := fun b hb => by rw [← hP]; exact .inr hb
  rw [hP] at hR0
  have HP1 := Hid.mkI hP1
  have HP2 := Hid.mkI hP2
  have HP3 := Hid.mkI hP3
  clear hP hP1 hP2 hP3
  go_loopg [11] 100 (fun g i wr => ∃ (k : Nat) (s : BibSt) (vU vF vW vH : Value), k ≤ Z ∧ g = 100 - k ∧ i = .int .i64 k ∧ BMon w.heap.size w2.heap.size B au af gu gf cu cf wr s ∧ Quad w2.heap.size wr vU vF vW vH ∧ BRef P wr vU vF vW vH s ∧ Hid (BibOk s) ∧ Hid (BAlike (newBib n m zs ys) s) ∧ Below w.heap.size w wr)
  case atStart => exact ⟨0, _, _, _, _, _, by omega, rfl, rfl, hM0, hQ0, hR0, OK0, BAlike.refl _, hB0⟩
  case round =>
    clear hM0 hQ0 hR0 hB0 OK0
    obtain ⟨k, s, vU, vF, vW, vH, hk, rfl, rfl, hM, hQ, hR, HO, HA, hB⟩ := hrel
    have hnf : Hid (s.nf = m) := HA.out.nf
    have hnu : Hid (s.nu = n) := HA.out.nu
    by_cases hlt : k < Z
    · have hq1 : (k : Int) < (q : Int) := by omega
      have hq2 : (k : Int) < 100 := by omega
      rcases h3 with h3 | ⟨b, off, rfl, hl⟩
      · omega
      have e0 := (hB.cell (p := ⟨b, off + k * 4, none⟩) hl.old).trans (hl.c0 k (by omega))
      have e1 := (hB.cell (p := ⟨b, off + k * 4 + 1, none⟩) hl.old).trans (hl.c1 k (by omega))
      have e2 := (hB.cell (p := ⟨b, off + k * 4 + 2, none⟩) hl.old).trans (hl.c2 k (by omega))
      have e3 := (hB.cell (p := ⟨b, off + k * 4 + 3, none⟩) hl.old).trans (hl.c3 k (by omega))
      have lb : b < wr.heap.size := Nat.lt_of_lt_of_le hl.old hB.size
      have lb0 := hl.old
      have lQ := hQ.lt
      obtain ⟨x0, hx0⟩ : ∃ x, k0 k = x := ⟨_, rfl⟩
      obtain ⟨x1, hx1⟩ : ∃ x, k1 k = x := ⟨_, rfl⟩
      obtain ⟨x2, hx2⟩ : ∃ x, k2 k = x := ⟨_, rfl⟩
      obtain ⟨x3, hx3⟩ : ∃ x, k3 k = x := ⟨_, rfl⟩
      rw [hx0] at e0
      rw [hx1] at e1
      rw [hx2] at e2
      rw [hx3] at e3
      have HO2 : Hid (BibOk (askBib s x0 x1 x2).2) := askBib_ok HO.out _ _ _
      have HA2 : Hid (BAlike (newBib n m zs ys) (askBib s x0 x1 x2).2) := HA.out.trans (askBib_alike _ _ _ _)
      have tA := fun W (h : BMon w.heap.size w2.heap.size B au af gu gf cu cf W s) => biAsk_any h x0 x1 x2 x3
      have tR := fun W P' (hP' : ∀ b, W.heap.size ≤ b → P' b) (h : BRef P' W vU vF vW vH s) => refBib_any P' vU vF vW vH s x0 x1 x2 x3 HO.out W hP' h
      obtain ⟨c, hc⟩ : ∃ c, (askBib s x0 x1 x2).1 = c := ⟨_, rfl⟩
      obtain ⟨s', hs'⟩ : ∃ x, (askBib s x0 x1 x2).2 = x := ⟨_, rfl⟩
      simp only [hc, hs'] at tA tR
      rw [hs'] at HO2 HA2
      have hx0 : Hid (k0 k = x0) := hx0
      have hx1 : Hid (k1 k = x1) := hx1
      have hx2 : Hid (k2 k = x2) := hx2
      have hx3 : Hid (k3 k = x3) := hx3
      clear hc hs' HO HA
      obtain ⟨aU, cpU, rfl, -⟩ := id hR.lu
      obtain ⟨aF, cpF, rfl, -⟩ := id hR.lf
      obtain ⟨aW, cpW, rfl, -⟩ := id hR.lw
      obtain ⟨aH, cpH, rfl, -⟩ := id hR.lh
      obtain ⟨b0, b1, b2, b3, -, -, -, -⟩ := id hQ
      go_wp2
      go_cut [12, 13] from 42 to 100 (fun p e wx => ∃ (X : Nat) (uU uF uW uH : Value), p = .pointer (some ⟨X, 0, none⟩) ∧ e = .int .i64 c ∧ wr.heap.size ≤ X ∧ Quad X wx uU uF uW uH ∧ BRef P wx uU uF uW uH s' ∧ Below wr.heap.size wr wx)
      case first => as_aux_lemma =>
        have t1 := tR wr.drew P (fun b hb => HP3.out b (Nat.lt_of_lt_of_le lQ hb)) (hR.drawn 1)
        have hBa : Below wr.heap.size wr (wr.alloc (.cells #[.slice none 0 0, .slice none 0 0, .slice none 0 0, .slice none 0 0] 48)).drew := ((Below.refl _ _).alloc (Nat.le_refl _) _).drew
        have t2 := tR (wr.alloc (.cells #[.slice none 0 0, .slice none 0 0, .slice none 0 0, .slice none 0 0] 48)).drew (fun b => P b ∧ b ≠ wr.heap.size) (fun b hb => by
          have hb' : wr.heap.size + 1 ≤ b := by simpa using hb
          exact ⟨HP3.out b (by omega), by omega⟩) ((hR.weak fun b hl hb => ⟨hb, by omega⟩).below hBa)
        have hQn := (Quad.new wr (.slice none 0 0) (.slice none 0 0) (.slice none 0 0) (.slice none 0 0) 48).drew
        clear tR tA
        unfold ask4 at t1 t2
        first | (go_region_held3 (fun w' => w'.cell? ⟨w2.heap.size, 0, none⟩ = some (.slice aU s.nu cpU) ∧ w'.cell? ⟨w2.heap.size, 1, none⟩ = some (.slice aF s.nf cpF) ∧ w'.cell? ⟨w2.heap.size, 2, none⟩ = some (.slice aW s.nf cpW) ∧ w'.cell? ⟨w2.heap.size, 3, none⟩ = some (.slice aH s.nu cpH) ∧ w'.cell? ⟨b, off + k * 4, none⟩ = some (.int .i64 x0) ∧ w'.cell? ⟨b, off + k * 4 + 1, none⟩ = some (.int .i64 x1) ∧ w'.cell? ⟨b, off + k * 4 + 2, none⟩ = some (.int .i64 x2) ∧ w'.cell? ⟨b, off + k * 4 + 3, none⟩ = some (.int .i64 x3))
          ((go_split_ands; refine ⟨?_, ?_, ?_, ?_, ?_, ?_, ?_, ?_⟩ <;> first | (with_reducible assumption) | (with_reducible (refine keep_cell hB5 ?_; assumption)) | (with_reducible (refine cell_alloc_g _ ?_; assumption)) | (with_reducible (refine (cell_far (by omega)).trans ((cell_far (by omega)).trans ((cell_far (by omega)).trans ((cell_far (by omega)).trans ?_))); assumption)) | go_keep))
          (first | (go_at_call 21; (with_reducible refine t1.mono ?_); rintro e w5 ⟨uU, uF, uW, uH, rfl, hR5, hB5⟩; have hz5 : wr.heap.size ≤ w5.heap.size := hB5.size; have s0 := keep_cell hB5 b0; have s1 := keep_cell hB5 b1; have s2 := keep_cell hB5 b2; have s3 := keep_cell hB5 b3; have s4 := keep_cell hB5 e0; have s5 := keep_cell hB5 e1; have s6 := keep_cell hB5 e2; have s7 := keep_cell hB5 e3; obtain ⟨pU, qU, rfl, -⟩ := id hR5.lu; obtain ⟨pF, qF, rfl, -⟩ := id hR5.lf; obtain ⟨pW, qW, rfl, -⟩ := id hR5.lw; obtain ⟨pH, qH, rfl, -⟩ := id hR5.lh) | (go_at_call 21; (with_reducible refine t2.mono ?_); rintro e w5 ⟨uU, uF, uW, uH, rfl, hR5, hB5⟩; have hQ5 := hQn.below hB5; obtain ⟨z0, z1, z2, z3, y0, y1, y2, y3⟩ := id hQ5; obtain ⟨pU, qU, rfl, -⟩ := id hR5.lu; obtain ⟨pF, qF, rfl, -⟩ := id hR5.lf; obtain ⟨pW, qW, rfl, -⟩ := id hR5.lw; obtain ⟨pH, qH, rfl, -⟩ := id hR5.lh))) | fail
        all_goals
          go_simp
          go_step
          go_meet
          case rel =>
            first
              | exact ⟨_, _, _, _, _, rfl, rfl, hz5, Quad.new w5 _ _ _ _ _, hR5.below ((Below.refl _ _).alloc (Nat.le_refl _) _), (undrew2 hB5).alloc hz5 _⟩
              | exact ⟨_, _, _, _, _, rfl, rfl, Nat.le_refl _, hQ5.put _ _ _ _, (hR5.put4 (fun b hb => hb.2)).weak (fun b _ hb => hb.1), below_put4 (hBa.trans (hB5.mono hBa.size)) (Nat.le_refl _)⟩
      case rest =>
      obtain ⟨X, uU, uF, uW, uH, rfl, rfl, hX, hQx, hRx, hBx⟩ := hcut
      have hM4 := (hM.below hBx).put4 (u0 := uU) (u1 := uF) (u2 := uW) (u3 := uH) (Nat.le_refl _) hBn
      have hQ4 := (hQ.below hBx).put uU uF uW uH
      have hR4 := hRx.put4 (u0 := uU) (u1 := uF) (u2 := uW) (u3 := uH) HP2.out
      have hB4 : Below w.heap.size w (put4 wc w2.heap.size uU uF uW uH) := below_put4 (hB.trans (hBx.mono hB.size)) hs2
      obtain ⟨z0, z1, z2, z3, -, -, -, -⟩ := id (hQ.below hBx)
      obtain ⟨-, -, -, -, y0, y1, y2, y3⟩ := id (hQ.below hBx)
      obtain ⟨d0, d1, d2, d3, -, -, -, -⟩ := id hQx
      clear e0 e1 e2 e3 b0 b1 b2 b3 tR hR hQ hM
      obtain ⟨pU, qU, rfl, -⟩ := id hRx.lu
      obtain ⟨pF, qF, rfl, -⟩ := id hRx.lf
      obtain ⟨pW, qW, rfl, -⟩ := id hRx.lw
      obtain ⟨pH, qH, rfl, -⟩ := id hRx.lh
      obtain ⟨W4, hW4⟩ : ∃ x, put4 wc w2.heap.size (.slice pU s'.nu qU) (.slice pF s'.nf qF) (.slice pW s'.nf qW) (.slice pH s'.nu qH) = x := ⟨_, rfl⟩
      rw [hW4] at hM4 hQ4 hR4 hB4
      unfold put4 at hW4
      have e0 := (hB4.cell (p := ⟨b, off + k * 4, none⟩) lb0).trans (hl.c0 k (by omega))
      have e1 := (hB4.cell (p := ⟨b, off + k * 4 + 1, none⟩) lb0).trans (hl.c1 k (by omega))
      have e2 := (hB4.cell (p := ⟨b, off + k * 4 + 2, none⟩) lb0).trans (hl.c2 k (by omega))
      have e3 := (hB4.cell (p := ⟨b, off + k * 4 + 3, none⟩) lb0).trans (hl.c3 k (by omega))
      rw [hx0.out] at e0
      rw [hx1.out] at e1
      rw [hx2.out] at e2
      rw [hx3.out] at e3
      replace tA := tA W4 hM4
      have tE := fun W hW => error_errV c W (hE.betw (w' := W) hW)
      obtain ⟨v, hv⟩ : ∃ v, errV c = v := ⟨_, rfl⟩
      rw [hv] at tA
      simp only [hv] at tE
      clear hv hl
      have l4 := hQ4.lt
      go_wp2_with (first | (go_at_call 17; refine tA.mono ?_; clear tA; rintro e w5 ⟨rfl, hM5, hBt⟩; have hB5 : Below w.heap.size w w5 := hB4.trans (hBt.below hB4.size); replace tE := tE w5 hB5; have hQ5 := hQ4.betw hBt (.inr (Nat.le_refl _)); have hR5 := hR4.betw hBt HP1.out) | (go_at_call 9; refine tE.mono ?_; clear tE; rintro e w6 ⟨rfl, hB6⟩; have hM6 := hM5.below hB6; have hQ6 := hQ5.below hB6; have hR6 := hR5.below hB6; have hBw6 := hB5.trans (hB6.mono hB5.size)))
      clear e0 e1 e2 e3 d0 d1 d2 d3 z0 z1 z2 z3 y0 y1 y2 y3 hW4 hM4 hQ4 hR4 hB4 hM5 hQ5 hR5 hB5 hBt hB6 hQx hRx hBx hB l4
      have hnu' : Hid (s'.nu = n) := HA2.out.nu
      have hnf' : Hid (s'.nf = m) := HA2.out.nf
      go_loopg [14] n (fun g i wi => ∃ u : Nat, u ≤ n ∧ g = n - u ∧ i = .int .i64 u ∧ BMon w.heap.size w2.heap.size B au af gu gf cu cf wi s' ∧ Quad w2.heap.size wi (.slice pU s'.nu qU) (.slice pF s'.nf qF) (.slice pW s'.nf qW) (.slice pH s'.nu qH) ∧ BRef P wi (.slice pU s'.nu qU) (.slice pF s'.nf qF) (.slice pW s'.nf qW) (.slice pH s'.nu qH) s' ∧ Below w.heap.size w wi)
      case atStart => exact ⟨0, by omega, rfl, rfl, hM6, hQ6, hR6, hBw6⟩
      case round =>
        clear hM6 hQ6 hR6 hBw6
        obtain ⟨u, hu, rfl, rfl, hM, hQ, hR, hB⟩ := hrel
        by_cases hut : u < n
        · as_aux_lemma =>
          have hu' : (u : Int) < (n : Int) := by omega
          have hu2 : u < s'.nu := by rw [hnu'.out]; exact hut
          have hu3 : (u : Int) < (s'.nu : Int) := by omega
          obtain ⟨bu, ou, cpu, hv, hbl, hbc⟩ := hR.lu.some (by omega)
          cases hv
          have e1 := hbc u hu2
          have tH := fun nn => level_in (hM.drawn nn) u hu2
          obtain ⟨x, hx⟩ : ∃ x, s'.ul u = x := ⟨_, rfl⟩
          simp only [hx] at e1 tH
          obtain ⟨b0, b1, b2, b3, -, -, -, -⟩ := id hQ
          clear hx hbc
          go_wp2
          go_quiet ((go_at_call 19; exact Calls.quiet_of_same (tH _)))
          go_wp2
          go_roundg (n - (u + 1))
          case measure => omega
          case rel => exact ⟨u + 1, by omega, rfl, by go_num, hM.drawn _, hQ.drawn _, hR.drawn _, below_drawn hB _⟩
        · have hge : (n : Int) ≤ (u : Int) := by omega
          go_wp2
          go_loopg [15] m (fun g i wi => ∃ f : Nat, f ≤ m ∧ g = m - f ∧ i = .int .i64 f ∧ BMon w.heap.size w2.heap.size B au af gu gf cu cf wi s' ∧ Quad w2.heap.size wi (.slice pU s'.nu qU) (.slice pF s'.nf qF) (.slice pW s'.nf qW) (.slice pH s'.nu qH) ∧ BRef P wi (.slice pU s'.nu qU) (.slice pF s'.nf qF) (.slice pW s'.nf qW) (.slice pH s'.nu qH) s' ∧ Below w.heap.size w wi)
          case atStart => exact ⟨0, by omega, rfl, rfl, hM, hQ, hR, hB⟩
          case round =>
            clear hM hQ hR hB
            obtain ⟨f, hf, rfl, rfl, hM, hQ, hR, hB⟩ := hrel
            by_cases hft : f < m
            · as_aux_lemma =>
              have hf' : (f : Int) < (m : Int) := by omega
              have hf2 : f < s'.nf := by rw [hnf'.out]; exact hft
              have hf3 : (f : Int) < (s'.nf : Int) := by omega
              obtain ⟨bu, ou, cpu, hv, hbl, hbc⟩ := hR.lw.some (by omega)
              cases hv
              have e1 := hbc f hf2
              have tH := fun nn => worst_in (hM.drawn nn) f hf2
              obtain ⟨x, hx⟩ : ∃ x, s'.fw f = x := ⟨_, rfl⟩
              simp only [hx] at e1 tH
              obtain ⟨b0, b1, b2, b3, -, -, -, -⟩ := id hQ
              clear hx hbc
              go_wp2
              go_quiet ((go_at_call 18; exact Calls.quiet_of_same (tH _)))
              go_wp2
              go_roundg (m - (f + 1))
              case measure => omega
              case rel => exact ⟨f + 1, by omega, rfl, by go_num, hM.drawn _, hQ.drawn _, hR.drawn _, below_drawn hB _⟩
            · have hge2 : (m : Int) ≤ (f : Int) := by omega
              go_wp2
              go_roundg (100 - (k + 1))
              case measure => omega
              case rel => exact ⟨k + 1, s', _, _, _, _, by omega, rfl, by go_num, hM, hQ, hR, HO2, HA2, hB⟩
    · have hex : (q : Int) ≤ (k : Int) ∨ ((k : Int) < (q : Int) ∧ 100 ≤ (k : Int)) := by omega
      have tX := level_out hM (-1) (.inl (by decide))
      have tY := level_out hM (n : Int) (.inr (by rw [hnu.out]; exact Int.le_refl _))
      have tW := worst_out hM (m : Int) (.inr (by rw [hnf.out]; exact Int.le_refl _))
      clear hlt hZ hk h3
      rcases hex with hx | ⟨hx, hx2⟩
      all_goals as_aux_lemma =>
        go_wp2_with (first | (go_at_call 19; refine tX.mono ?_; clear tX; rintro e w' ⟨rfl, hw⟩; obtain rfl := hw.symm) | (go_at_call 19; refine tY.mono ?_; clear tY; rintro e w' ⟨rfl, hw⟩; obtain rfl := hw.symm) | (go_at_call 18; refine tW.mono ?_; clear tW; rintro e w' ⟨rfl, hw⟩; obtain rfl := hw.symm))
        go_ret
        exact ⟨by simp, hB⟩
theorem bibPla_any (a1 a2 a3 : Option Addr) (n c1 m c2 q c3 : Nat) (zs ys : List Int) (k0 k1 k2 k3 : Nat → Int) (w : World) (h1 : AtNums w a1 n zs) (h2 : AtNums w a2 m ys) (h3 : AtAsks w a3 q k0 k1 k2 k3) (hE : ErrT w) :
    Calls Tryd.prog 6 #[.slice a1 n c1, .slice a2 m c2, .slice a3 q c3] w fun e w' => e = .returned (.bool true) ∧ Below w.heap.size w w' := by
  rcases biNew_is a1 a2 n c1 m c2 zs ys w h1 h2 with ⟨c, hc0, hc, hN⟩ | ⟨hn, hm, hz, hy, hN⟩
  · rcases hc with hc | ⟨h0, hc⟩
    · exact bibPla_err1 a1 a2 a3 n c1 m c2 q c3 zs c hc0 hc w hE h1 (hN w (Below.refl _ _))
    · exact bibPla_err2 a1 a2 a3 n c1 m c2 q c3 zs ys c hc0 h0 hc w hE h1 h2 (hN w (Below.refl _ _))
  · obtain ⟨Z, hZ⟩ := upto100 q
    exact bibPla_in a1 a2 a3 n c1 m c2 q c3 zs ys k0 k1 k2 k3 w hE h1 h2 h3 hn hm hz hy hN Z hZ
end Go.Proofs.YteheaeihoameeaaDoor
