/- The walk of the law BellDrop. -/
import Derived.WalkKit
import Derived.LoopTactic
import Derived.Deep.LoopGhost
import Derived.Deep.Cut
import Derived.Deep.RegionHeld3
import Derived.Deep.DrawnRows
import Derived.Test.YtkeklcoandoacaaDoorBellIs
namespace Go.Proofs.YtkeklcoandoacaaDoor
open Go.RowKit
attribute [local go_sem ↓] Go.wp_at_zero Go.wp_at_succ
set_option maxRecDepth 100000

/-- The closed fact holds, whatever was done since. -/
def FactIs (w : World) : Prop := ∀ W, Below w.heap.size w W → Calls Tryd.prog 7 #[] W fun e w' => e = .returned (.bool true) ∧ Below W.heap.size W w'

set_option maxHeartbeats 1000000 in
theorem bellDrop_err (a1 a2 a3 : Option Addr) (n c1 m c2 q c3 : Nat) (u f : Int) (c : Int) (w : World) (hF : FactIs w)
    (hN : ∀ W, Below w.heap.size w W → Calls Tryd.prog 8 #[.slice a1 n c1, .slice a2 m c2] W fun e w' => e = .returned (.tuple #[.pointer none, .iface 58 (.int .i64 c)]) ∧ Below W.heap.size W w') :
    Calls Tryd.prog 5 #[.slice a1 n c1, .slice a2 m c2, .slice a3 q c3, .int .i64 u, .int .i64 f] w fun e w' => e = .returned (.bool true) ∧ Below w.heap.size w w' := by
  have tF := hF w (Below.refl _ _)
  clear hF
  go_enter Tryd.func5, Tryd.ntmps5
  go_wp2_with (first | (go_at_call 7; refine tF.mono ?_; clear tF; rintro e w1 ⟨rfl, hB1⟩; have tN := hN w1 hB1; clear hN) | (go_at_call 8; refine tN.mono ?_; clear tN; rintro e w2 ⟨rfl, hB2⟩))
  go_ret
  exact ⟨rfl, hB1.trans (hB2.mono hB1.size)⟩
set_option maxHeartbeats 1000000 in
theorem bellDrop_out (a1 a2 a3 : Option Addr) (n c1 m c2 q c3 : Nat) (u f : Int) (z y : Nat → Int × Int) (w : World) (hF : FactIs w) (ho : u < 0 ∨ (0 ≤ u ∧ (n : Int) ≤ u) ∨ (0 ≤ u ∧ u < n ∧ f < 0) ∨ (0 ≤ u ∧ u < n ∧ 0 ≤ f ∧ (m : Int) ≤ f))
    (hN : ∀ W, Below w.heap.size w W → Calls Tryd.prog 8 #[.slice a1 n c1, .slice a2 m c2] W fun e w' => ∃ B au af gu gf cu cf, e = .returned (.tuple #[.pointer (some ⟨B, 0, none⟩), .nilIface]) ∧ Mon W.heap.size B au af gu gf cu cf w' (newSt n m z y) ∧ Below W.heap.size W w') :
    Calls Tryd.prog 5 #[.slice a1 n c1, .slice a2 m c2, .slice a3 q c3, .int .i64 u, .int .i64 f] w fun e w' => e = .returned (.bool true) ∧ Below w.heap.size w w' := by
  have tF := hF w (Below.refl _ _)
  clear hF
  rcases ho with h1 | ⟨h1, h2⟩ | ⟨h1, h2, h3⟩ | ⟨h1, h2, h3, h4⟩
  all_goals as_aux_lemma =>
    go_enter Tryd.func5, Tryd.ntmps5
    go_wp2_with (first | (go_at_call 7; refine tF.mono ?_; clear tF; rintro e w1 ⟨rfl, hB1⟩; have tN := hN w1 hB1; clear hN) | (go_at_call 8; refine tN.mono ?_; clear tN; rintro e w2 ⟨B, au, af, gu, gf, cu, cf, rfl, hM, hB2⟩))
    go_ret
    exact ⟨rfl, hB1.trans (hB2.mono hB1.size)⟩
set_option maxHeartbeats 80000000 in
theorem bellDrop_in (a1 a2 a3 : Option Addr) (n c1 m c2 q c3 : Nat) (u f : Nat) (z y : Nat → Int × Int) (k0 k1 k2 k3 : Nat → Int) (w : World) (hT : Tab w) (hF : FactIs w) (hu : u < n) (hf : f < m)
    (h1 : AtLabs w a1 n z) (h2 : AtLabs w a2 m y) (h3 : AtAsks w a3 q k0 k1 k2 k3) (ok0 : BellOk (newSt n m z y)) (hz : AllLab n z) (hy : AllLab m y)
    (hN : ∀ W, Below w.heap.size w W → Calls Tryd.prog 8 #[.slice a1 n c1, .slice a2 m c2] W fun e w' => ∃ B au af gu gf cu cf, e = .returned (.tuple #[.pointer (some ⟨B, 0, none⟩), .nilIface]) ∧ Mon W.heap.size B au af gu gf cu cf w' (newSt n m z y) ∧ Below W.heap.size W w')
    (Z : Nat) (hZ : (Z = q ∧ q ≤ 100) ∨ (Z = 100 ∧ 100 < q)) :
    Calls Tryd.prog 5 #[.slice a1 n c1, .slice a2 m c2, .slice a3 q c3, .int .i64 (u : Int), .int .i64 (f : Int)] w fun e w' => e = .returned (.bool true) ∧ Below w.heap.size w w' := by
  have tF := hF w (Below.refl _ _)
  have z1 : (u : Int) < (n : Int) := by omega
  have z2 : (f : Int) < (m : Int) := by omega
  have z3 : ¬ (u : Int) < 0 := by omega
  have z4 : ¬ (f : Int) < 0 := by omega
  have z5 : ¬ n ≤ u := by omega
  have z6 : ¬ m ≤ f := by omega
  have hm8 : m ≤ 8 := ok0.nf
  clear hF
  go_enter Tryd.func5, Tryd.ntmps5
  go_wp2_with (first | (go_at_call 7; refine tF.mono ?_; clear tF; rintro e w1 ⟨rfl, hB1⟩; have tN := hN w1 hB1; clear hN) | (go_at_call 8; refine tN.mono ?_; clear tN; rintro e w2 ⟨B, au, af, gu, gf, cu, cf, rfl, hM, hB2⟩))
  have hn0 := hB1.size
  have hB : Below w.heap.size w w2 := hB1.trans (hB2.mono hB1.size)
  clear hB1 hB2
  go_loopg [14] 100 (fun g i wr => ∃ (k : Nat) (s : BellSt), k ≤ Z ∧ g = 100 - k ∧ i = .int .i64 k ∧ Mon w1.heap.size B au af gu gf cu cf wr s ∧ Hid (BellOk s) ∧ Hid (Alike (newSt n m z y) s) ∧ Below w.heap.size w wr)
  case atStart => exact ⟨0, _, by omega, rfl, rfl, hM, ok0, Alike.refl _, hB⟩
  case round =>
    clear hM hB
    obtain ⟨k, s, hk, rfl, rfl, hM, HO, HA, hB⟩ := hrel
    by_cases hlt : k < Z
    · as_aux_lemma =>
      have hq1 : (k : Int) < (q : Int) := by omega
      have hq2 : (k : Int) < 100 := by omega
      rcases h3 with h3 | ⟨b, off, rfl, hl⟩
      · omega
      have e0 := (hB.cell (p := ⟨b, off + k * 4, none⟩) hl.old).trans (hl.c0 k (by omega))
      have e1 := (hB.cell (p := ⟨b, off + k * 4 + 1, none⟩) hl.old).trans (hl.c1 k (by omega))
      have e2 := (hB.cell (p := ⟨b, off + k * 4 + 2, none⟩) hl.old).trans (hl.c2 k (by omega))
      have e3 := (hB.cell (p := ⟨b, off + k * 4 + 3, none⟩) hl.old).trans (hl.c3 k (by omega))
      have tA := askIs_of (B := B) (gu := gu) (gf := gf) (cu := cu) (cf := cf) (au := au) (af := af) hT hn0 HO.out (k0 k) (k1 k) (k2 k) (k3 k) wr hB hM
      have HO2 : Hid (BellOk (askB s (k0 k) (k1 k) (k2 k) (k3 k)).2) := askB_ok HO.out _ _ _ _
      have HA2 : Hid (Alike (newSt n m z y) (askB s (k0 k) (k1 k) (k2 k) (k3 k)).2) := HA.out.trans (askB_alike _ _ _ _ _)
      obtain ⟨v, hv⟩ : ∃ v, errV (askB s (k0 k) (k1 k) (k2 k) (k3 k)).1 = v := ⟨_, rfl⟩
      obtain ⟨s', hs'⟩ : ∃ x, (askB s (k0 k) (k1 k) (k2 k) (k3 k)).2 = x := ⟨_, rfl⟩
      rw [hv, hs'] at tA
      rw [hs'] at HO2 HA2
      clear hv hs'
      go_wp2_with (go_at_call 9; refine tA.mono ?_; clear tA; rintro e w3 ⟨rfl, hM3, hB3⟩)
      go_roundg (100 - (k + 1))
      case measure => omega
      case rel => exact ⟨k + 1, s', by omega, rfl, by go_num, hM3, HO2, HA2, hB3⟩
    · have hkq : k = Z := by omega
      have hex : (q : Int) ≤ (k : Int) ∨ ((k : Int) < (q : Int) ∧ 100 ≤ (k : Int)) := by omega
      clear hlt hkq hZ hk h3
      rcases hex with hx | ⟨hx, hx2⟩
      all_goals as_aux_lemma =>
        go_wp2
        obtain ⟨wl, rfl⟩ : ∃ wl, wl = wr := ⟨_, rfl⟩
        go_loopg [15] m (fun g i wr => ∃ (j : Nat) (s : BellSt), j ≤ m ∧ g = m - j ∧ i = .int .i64 j ∧ Mon w1.heap.size B au af gu gf cu cf wr s ∧ Hid (BellOk s) ∧ Hid (Alike (newSt n m z y) s) ∧ Hid (Gone s u j) ∧ Below w.heap.size w wr)
        case atStart => exact ⟨0, s, by omega, rfl, rfl, hM, HO, HA, fun _ h => absurd h (by omega), hB⟩
        case round =>
          clear hM hB HO HA
          obtain ⟨j, s, hj, rfl, rfl, hM, HO, HA, HG, hB⟩ := hrel
          have hsu : u < s.nu := by rw [HA.out.nu]; exact hu
          have hsf : f < s.nf := by rw [HA.out.nf]; exact hf
          have hnf : s.nf = m := HA.out.nf
          by_cases hlt : j < m
          · as_aux_lemma =>
            have hq1 : (j : Int) < (m : Int) := by omega
            have hsj : j < s.nf := by omega
            have tA := askIs_of (B := B) (gu := gu) (gf := gf) (cu := cu) (cf := cf) (au := au) (af := af) hT hn0 HO.out 2 u j 0 wr hB hM
            have HO2 : Hid (BellOk (askB s 2 u j 0).2) := askB_ok HO.out _ _ _ _
            have HA2 : Hid (Alike (newSt n m z y) (askB s 2 u j 0).2) := HA.out.trans (askB_alike _ _ _ _ _)
            have HG2 : Hid (Gone (dropSt s u j) u (j + 1)) := gone_next HG.out
            rw [ask_dropIs hsu hsj] at tA HO2 HA2
            simp only [errV_zero] at tA HO2 HA2
            obtain ⟨s', hs'⟩ : ∃ x, dropSt s u j = x := ⟨_, rfl⟩
            rw [hs'] at tA HO2 HA2 HG2
            clear hs' HO HA HG hnf hsu hsf hsj
            go_wp2_with (go_at_call 9; refine tA.mono ?_; clear tA; rintro e w3 ⟨rfl, hM3, hB3⟩)
            go_roundg (m - (j + 1))
            case measure => omega
            case rel => exact ⟨j + 1, s', by omega, rfl, by go_num, hM3, HO2, HA2, HG2, hB3⟩
          · have hq1 : (m : Int) ≤ (j : Int) := by omega
            obtain rfl : j = m := by omega
            have hg := gone_all HO.out hsu (by rw [hnf]; exact HG.out)
            have tR := reads_in hM u hsu
            have tW := writes_in hM u hsu
            rw [hg.1] at tR
            rw [hg.2] at tW
            rcases h1 with h1 | ⟨b1, o1, rfl, g1⟩
            · omega
            rcases h2 with h2 | ⟨b2, o2, rfl, g2⟩
            · omega
            have i1 := g1.c1 u hu
            have i2 := g1.c2 u hu
            have i3 := g2.c1 f hf
            have i4 := g2.c2 f hf
            obtain ⟨q1, q2, q3, q4⟩ := lab_cast (hz u hu)
            obtain ⟨q5, q6, q7, q8⟩ := lab_cast (hy f hf)
            rw [q1] at i1
            rw [q2] at i2
            rw [q5] at i3
            rw [q6] at i4
            have r1 : (z u).1.toNat = s.ul u := by rw [HA.out.ul]; rfl
            have r2 : (z u).2.toNat = s.us u := by rw [HA.out.us]; rfl
            have r3 : (y f).1.toNat = s.fl f := by rw [HA.out.fl]; rfl
            have r4 : (y f).2.toNat = s.fs f := by rw [HA.out.fs]; rfl
            rw [r1] at i1 q3
            rw [r2] at i2 q4
            rw [r3] at i3 q7
            rw [r4] at i4 q8
            have tB := fun W => refBelow_ok (s.fl f) (s.fs f) (s.ul u) (s.us u) q8 q4 W
            have okd := fun (s1 : BellSt) (o : BellOk s1) => askB_ok o 2 u f 0
            have e1 := ask_readIs hsu hsf
            rw [mayRead_gone hg.2] at e1
            have tA1 := askIs_of (B := B) (gu := gu) (gf := gf) (cu := cu) (cf := cf) (au := au) (af := af) hT hn0 HO.out 0 u f 0 wr hB hM
            rw [e1] at tA1
            have ok1 := askB_ok HO.out 0 u f 0
            rw [e1] at ok1
            clear e1
            clear q1 q2 q3 q4 q5 q6 q7 q8 r1 r2 r3 r4
            cases hb : belB (s.fl f) (s.fs f) (s.ul u) (s.us u) with
            | true => as_aux_lemma =>
              rw [hb] at tA1 tB ok1
              simp only [if_true, errV_zero] at tA1 ok1
              have e2 := ask_dropIs (s := readSt s u f) (u := u) (f := f) hsu hsf
              have ok2 := okd _ ok1
              rw [e2] at ok2
              have e3 := ask_writeIs (s := dropSt (readSt s u f) u f) (u := u) (f := f) hsu hsf
              rw [mayWrite_gone (by simp only [dropSt, readSt, upd_same, hg.1]; exact less_pow f)] at e3
              have tA2 := askIs_of (B := B) (gu := gu) (gf := gf) (cu := cu) (cf := cf) (au := au) (af := af) hT hn0 ok1 2 u f 0
              have tA3 := askIs_of (B := B) (gu := gu) (gf := gf) (cu := cu) (cf := cf) (au := au) (af := af) hT hn0 ok2 1 u f 0
              rw [e2] at tA2
              rw [e3] at tA3
              simp only [if_true, errV_zero] at tA2 tA3
              obtain ⟨s1, hs1⟩ : ∃ x, readSt s u f = x := ⟨_, rfl⟩
              rw [hs1] at tA1 tA2 tA3
              obtain ⟨s2, hs2⟩ : ∃ x, dropSt s1 u f = x := ⟨_, rfl⟩
              rw [hs2] at tA2 tA3
              obtain ⟨s3, hs3⟩ : ∃ x, writeSt s2 u f = x := ⟨_, rfl⟩
              rw [hs3] at tA3
              obtain ⟨x1, hx1⟩ : ∃ x, s.ul u = x := ⟨_, rfl⟩
              obtain ⟨x2, hx2⟩ : ∃ x, s.us u = x := ⟨_, rfl⟩
              obtain ⟨x3, hx3⟩ : ∃ x, s.fl f = x := ⟨_, rfl⟩
              obtain ⟨x4, hx4⟩ : ∃ x, s.fs f = x := ⟨_, rfl⟩
              rw [hx1] at i1 tB
              rw [hx2] at i2 tB
              rw [hx3] at i3 tB
              rw [hx4] at i4 tB
              clear hs1 hs2 hs3 e2 e3 ok1 ok2 okd hg hb HO HA HG hx1 hx2 hx3 hx4 hsu hsf hnf
              go_upto_region 21 with (first | (go_at_call 13; refine tR.mono ?_; clear tR; rintro e w' ⟨rfl, rfl⟩) | (go_at_call 14; refine tW.mono ?_; clear tW; rintro e w' ⟨rfl, rfl⟩) | (go_at_call 9; refine tA1.mono ?_; clear tA1; rintro e w3 ⟨rfl, hM3, hB3⟩; replace tA2 := tA2 w3 hB3 hM3) | (go_at_call 9; refine tA2.mono ?_; clear tA2; rintro e w4 ⟨rfl, hM4, hB4⟩; replace tA3 := tA3 w4 hB4 hM4) | (go_at_call 9; refine tA3.mono ?_; clear tA3; rintro e w5 ⟨rfl, hM5, hB5⟩))
              have j1 := (hB5.cell (p := ⟨b1, o1 + u * 2, none⟩) g1.old).trans i1
              have j2 := (hB5.cell (p := ⟨b1, o1 + u * 2 + 1, none⟩) g1.old).trans i2
              have j3 := (hB5.cell (p := ⟨b2, o2 + f * 2, none⟩) g2.old).trans i3
              have j4 := (hB5.cell (p := ⟨b2, o2 + f * 2 + 1, none⟩) g2.old).trans i4
              first | (go_region_held3 (fun w' => w'.cell? ⟨b1, o1 + u * 2, none⟩ = some (.int .i64 (x1 : Int)) ∧ w'.cell? ⟨b1, o1 + u * 2 + 1, none⟩ = some (.int .i64 (x2 : Int)) ∧ w'.cell? ⟨b2, o2 + f * 2, none⟩ = some (.int .i64 (x3 : Int)) ∧ w'.cell? ⟨b2, o2 + f * 2 + 1, none⟩ = some (.int .i64 (x4 : Int))) (first | go_keep | (go_split_ands; refine ⟨?_, ?_, ?_, ?_⟩ <;> exact keep_cell hB6 (by assumption)))
                ((go_at_call 12; refine (tB _).mono ?_; rintro e w6 ⟨rfl, hB6⟩))) | fail
              go_wp2
              go_ret
              exact ⟨rfl, hB5.trans ((undrew2 hB6).mono hB5.size)⟩
            | false => as_aux_lemma =>
              rw [hb] at tA1 tB ok1
              simp only [Bool.false_eq_true, if_false] at tA1 ok1
              rw [show errV 7 = .iface 58 (.int .i64 7) from rfl] at tA1
              have e2 := ask_dropIs (s := s) (u := u) (f := f) hsu hsf
              have ok2 := okd _ ok1
              rw [e2] at ok2
              have e3 := ask_writeIs (s := dropSt s u f) (u := u) (f := f) hsu hsf
              rw [mayWrite_gone (by simp only [dropSt, upd_same, hg.1]; exact less_zero_left _)] at e3
              have tA2 := askIs_of (B := B) (gu := gu) (gf := gf) (cu := cu) (cf := cf) (au := au) (af := af) hT hn0 ok1 2 u f 0
              have tA3 := askIs_of (B := B) (gu := gu) (gf := gf) (cu := cu) (cf := cf) (au := au) (af := af) hT hn0 ok2 1 u f 0
              rw [e2] at tA2
              rw [e3] at tA3
              simp only [if_true, errV_zero] at tA2 tA3
              obtain ⟨s2, hs2⟩ : ∃ x, dropSt s u f = x := ⟨_, rfl⟩
              rw [hs2] at tA2 tA3
              obtain ⟨s3, hs3⟩ : ∃ x, writeSt s2 u f = x := ⟨_, rfl⟩
              rw [hs3] at tA3
              obtain ⟨x1, hx1⟩ : ∃ x, s.ul u = x := ⟨_, rfl⟩
              obtain ⟨x2, hx2⟩ : ∃ x, s.us u = x := ⟨_, rfl⟩
              obtain ⟨x3, hx3⟩ : ∃ x, s.fl f = x := ⟨_, rfl⟩
              obtain ⟨x4, hx4⟩ : ∃ x, s.fs f = x := ⟨_, rfl⟩
              rw [hx1] at i1 tB
              rw [hx2] at i2 tB
              rw [hx3] at i3 tB
              rw [hx4] at i4 tB
              clear hs2 hs3 e2 e3 ok1 ok2 okd hg hb HO HA HG hx1 hx2 hx3 hx4 hsu hsf hnf
              go_upto_region 21 with (first | (go_at_call 13; refine tR.mono ?_; clear tR; rintro e w' ⟨rfl, rfl⟩) | (go_at_call 14; refine tW.mono ?_; clear tW; rintro e w' ⟨rfl, rfl⟩) | (go_at_call 9; refine tA1.mono ?_; clear tA1; rintro e w3 ⟨rfl, hM3, hB3⟩; replace tA2 := tA2 w3 hB3 hM3) | (go_at_call 9; refine tA2.mono ?_; clear tA2; rintro e w4 ⟨rfl, hM4, hB4⟩; replace tA3 := tA3 w4 hB4 hM4) | (go_at_call 9; refine tA3.mono ?_; clear tA3; rintro e w5 ⟨rfl, hM5, hB5⟩))
              have j1 := (hB5.cell (p := ⟨b1, o1 + u * 2, none⟩) g1.old).trans i1
              have j2 := (hB5.cell (p := ⟨b1, o1 + u * 2 + 1, none⟩) g1.old).trans i2
              have j3 := (hB5.cell (p := ⟨b2, o2 + f * 2, none⟩) g2.old).trans i3
              have j4 := (hB5.cell (p := ⟨b2, o2 + f * 2 + 1, none⟩) g2.old).trans i4
              first | (go_region_held3 (fun w' => w'.cell? ⟨b1, o1 + u * 2, none⟩ = some (.int .i64 (x1 : Int)) ∧ w'.cell? ⟨b1, o1 + u * 2 + 1, none⟩ = some (.int .i64 (x2 : Int)) ∧ w'.cell? ⟨b2, o2 + f * 2, none⟩ = some (.int .i64 (x3 : Int)) ∧ w'.cell? ⟨b2, o2 + f * 2 + 1, none⟩ = some (.int .i64 (x4 : Int))) (first | go_keep | (go_split_ands; refine ⟨?_, ?_, ?_, ?_⟩ <;> exact keep_cell hB6 (by assumption)))
                ((go_at_call 12; refine (tB _).mono ?_; rintro e w6 ⟨rfl, hB6⟩))) | fail
              go_wp2
              go_ret
              exact ⟨rfl, hB5.trans ((undrew2 hB6).mono hB5.size)⟩
end Go.Proofs.YtkeklcoandoacaaDoor
