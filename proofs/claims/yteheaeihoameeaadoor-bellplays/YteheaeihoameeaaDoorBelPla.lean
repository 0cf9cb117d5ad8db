/- The walk of the law BellPlays; ahead of it what any ask of the document's monitor comes to. -/
import Derived.WalkKit
import Derived.LoopTactic
import Derived.Deep.LoopGhost
import Derived.Deep.Cut
import Derived.Deep.CutRange
import Derived.Deep.QuietTactic
import Derived.BigQuiet
import Derived.Deep.RegionHeld3
import Derived.Deep.DrawnRows
import Derived.Test.YteheaeihoameeaaDoorBelRd
import Derived.Test.YteheaeihoameeaaDoorBelWr
import Derived.Test.YteheaeihoameeaaDoorBelDr
import Derived.Test.YteheaeihoameeaaDoorBelCp
import Derived.Test.YteheaeihoameeaaDoorBelNw
import Derived.Test.YteheaeihoameeaaDoorBellBad
import Derived.Test.YteheaeihoameeaaDoorAsksOpen
import Derived.Test.YteheaeihoameeaaDoorAs
namespace Go.Proofs.YteheaeihoameeaaDoor
open Go.RowKit
attribute [local go_sem ↓] Go.wp_at_zero Go.wp_at_succ
set_option maxRecDepth 100000

theorem refBell_any (P : Nat → Prop) (vU vF vR vW vH : Value) (s : BellSt) (k u f t : Int) (ok : BellOk s) (w : World) (hP : ∀ b, w.heap.size ≤ b → P b) (hU : Labl w vU s.nu s.ul s.us) (hF : Labl w vF s.nf s.fl s.fs) (h : LRef P w vR vW vH s) :
    Calls Tryd.prog 10 #[.agg #[vU, vF, vR, vW, vH], ask4 k u f t] w fun e w' => ∃ vR' vW' vH', e = .returned (.tuple #[.agg #[vU, vF, vR', vW', vH'], .int .i64 (askB s k u f t).1]) ∧ LRef P w' vR' vW' vH' (askB s k u f t).2 ∧ Below w.heap.size w w' := by
  cases hin : askIn s k u f t with
  | false =>
    rw [askB, hin]
    exact (refBell_out vU vF vR vW vH s P k u f t ok hin w hU hF h).mono fun e w' ⟨he, hB⟩ => ⟨_, _, _, he, h.below hB, hB⟩
  | true =>
    obtain ⟨⟨k0, k3⟩, ⟨u0, u1⟩, ⟨f0, f1⟩, ht⟩ := (askIn_iff _ _ _ _ _).1 hin
    obtain ⟨u, rfl⟩ := Int.eq_ofNat_of_zero_le u0
    obtain ⟨f, rfl⟩ := Int.eq_ofNat_of_zero_le f0
    have hu : u < s.nu := by omega
    have hf : f < s.nf := by omega
    rw [askB, if_pos hin]
    have hk : k = 0 ∨ k = 1 ∨ k = 2 ∨ k = 3 := by omega
    rcases hk with rfl | rfl | rfl | rfl
    · simp only [Int.toNat_natCast, Int.toNat_zero, askTo, if_pos]
      cases hb : belB (s.fl f) (s.fs f) (s.ul u) (s.us u) with
      | false =>
        have e : mayRead s u f = false := by rw [mayRead, hb, Bool.false_and]
        rw [e]
        exact (refBell_read1 P vU vF vR vW vH s u f t ok hu hf hb w hU hF h).mono fun e w' ⟨he, hB⟩ => ⟨_, _, _, he, h.below hB, hB⟩
      | true =>
        refine (refBell_read2 P vU vF vR vW vH s u f t ok hu hf hb w hP hU hF h).mono fun e w' hh => ?_
        rcases hh with ⟨ha, he, hB⟩ | ⟨ha, vR', he, hL, hB⟩
        · have e : mayRead s u f = false := by rw [mayRead, hb, ha, Bool.true_and]
          rw [e]
          exact ⟨_, _, _, he, h.below hB, hB⟩
        · have e : mayRead s u f = true := by rw [mayRead, hb, ha, Bool.true_and]
          rw [e]
          exact ⟨_, _, _, he, ⟨hL, h.lw.below hB, h.lh.below hB⟩, hB⟩
    · simp only [Int.toNat_natCast, Int.toNat_one, askTo, if_pos, if_neg (show ¬ (1 : Nat) = 0 by decide)]
      refine (refBell_write P vU vF vR vW vH s u f t ok hu hf w hP hU hF h).mono fun e w' hh => ?_
      rcases hh with ⟨ha, he, hB⟩ | ⟨ha, vW', he, hL, hB⟩
      · rw [ha]
        exact ⟨_, _, _, he, h.below hB, hB⟩
      · rw [ha]
        exact ⟨_, _, _, he, ⟨h.lr.below hB, hL, h.lh.below hB⟩, hB⟩
    · have e : askTo s (2 : Int).toNat (u : Int).toNat (f : Int).toNat t.toNat = (0, { s with ur := upd s.ur u (less (s.ur u) (2 ^ f)), uw := upd s.uw u (less (s.uw u) (2 ^ f)) }) := rfl
      rw [e]
      exact (refBell_drop P vU vF vR vW vH s u f t ok hu hf w hP hU hF h).mono fun e w' ⟨vR', vW', he, hL, hL2, hB⟩ => ⟨_, _, _, he, ⟨hL, hL2, h.lh.below hB⟩, hB⟩
    · obtain ⟨t0, t1⟩ : 0 ≤ t ∧ t < s.nf := by omega
      obtain ⟨t, rfl⟩ := Int.eq_ofNat_of_zero_le t0
      have htl : t < s.nf := by omega
      have e : askTo s (3 : Int).toNat (u : Int).toNat (f : Int).toNat (t : Int).toNat = (if (s.ur u).testBit f && (s.uw u).testBit t then (0, { s with fh := upd s.fh t (s.fh t ||| s.fh f) }) else (8, s)) := rfl
      rw [e]
      refine (refBell_copy P vU vF vR vW vH s u f t ok hu hf htl w hP hU hF h).mono fun e w' hh => ?_
      rcases hh with ⟨ha, he, hB⟩ | ⟨ha, vH', he, hL, hB⟩
      · rw [ha]
        exact ⟨_, _, _, he, h.below hB, hB⟩
      · rw [ha]
        exact ⟨_, _, _, he, ⟨h.lr.below hB, h.lw.below hB, hL⟩, hB⟩

theorem errV_told (c : Int) (w : World) (hE : ErrT w) : Calls Tryd.prog 9 #[errV c, .int .i64 c] w fun e w' => e = .returned (.bool true) ∧ Below w.heap.size w w' := by
  by_cases h : c = 0
  · subst h
    exact (error_nil 0 w).mono fun e w' ⟨he, hw⟩ => ⟨by rw [he]; rfl, hw ▸ Below.refl _ _⟩
  · rw [errV, if_neg h]
    exact (error_err c c w hE).mono fun e w' ⟨he, hb⟩ => ⟨by rw [he]; simp, hb⟩
theorem errT_on {w w' : World} (h : ErrT w) (hb : Below w.heap.size w w') : ErrT w' := h.below hb (World.block_lt_of_cell? w ⟨0, 0, none⟩ h)
theorem labl_of {w : World} {a : Option Addr} {n : Nat} {z : Nat → Int × Int} (h : AtLabs w a n z) (hz : AllLab n z) (cp : Nat) : Labl w (.slice a n cp) n (fun i => (z i).1.toNat) (fun i => (z i).2.toNat) := by
  refine ⟨a, cp, rfl, h.imp id fun ⟨b, off, e, hl⟩ => ⟨b, off, e, hl.old, fun i hi => ⟨?_, ?_⟩⟩⟩
  · rw [hl.c1 i hi, ← (lab_cast (hz i hi)).1]
  · rw [hl.c2 i hi, ← (lab_cast (hz i hi)).2.1]
theorem set5_far {W : World} {X b o : Nat} {u0 u1 u2 u3 u4 : Value} (h : b ≠ X) : (((((W.setCell ⟨X, 0, none⟩ u0).setCell ⟨X, 1, none⟩ u1).setCell ⟨X, 2, none⟩ u2).setCell ⟨X, 3, none⟩ u3).setCell ⟨X, 4, none⟩ u4).cell? ⟨b, o, none⟩ = W.cell? ⟨b, o, none⟩ := put5_far h
theorem cell_alloc_p {W : World} {a : Addr} {v : Value} (o : Obj) (h : W.cell? a = some v) : (W.alloc o).cell? a = some v := keep_cell ((Below.refl _ W).alloc (Nat.le_refl _) o) h
section
variable {X n0 n1 : Nat} {W W' : World} {v0 v1 v2 u0 u1 u2 u3 u4 : Value} {P P' : Nat → Prop} {s : BellSt}
theorem LRef.put5 (h : LRef P W v0 v1 v2 s) (hX : ∀ b, P b → b ≠ X) : LRef P (put5 W X u0 u1 u2 u3 u4) v0 v1 v2 s := ⟨h.lr.put5 hX, h.lw.put5 hX, h.lh.put5 hX⟩
theorem LRef.betw (h : LRef P W v0 v1 v2 s) (k : Betw n0 n1 W W') (hP : ∀ b, P b → b < n0 ∨ n1 ≤ b) : LRef P W' v0 v1 v2 s := ⟨h.lr.betw k hP, h.lw.betw k hP, h.lh.betw k hP⟩
theorem LRef.weak (h : LRef P W v0 v1 v2 s) (hP : ∀ b, b < W.heap.size → P b → P' b) : LRef P' W v0 v1 v2 s := ⟨h.lr.weak hP, h.lw.weak hP, h.lh.weak hP⟩
theorem Mon.put5 {B gu gf cu cf : Nat} {au af : Option Addr} (h : Mon n0 n1 B au af gu gf cu cf W s) (hX : X < n0) : Mon n0 n1 B au af gu gf cu cf (put5 W X u0 u1 u2 u3 u4) s := by
  have hu := fun i (hi : i < s.nu) => (h.hu (by omega)).2.1
  have hf := fun i (hi : i < s.nf) => (h.hf (by omega)).2.1
  have hl := h.low
  refine ⟨(put5_far (by omega)).trans h.c0, (put5_far (by omega)).trans h.c1, h.low, h.hu, h.hf, h.ne, fun i hi => ?_, fun i hi => ?_, fun i hi => ?_, fun i hi => ?_, fun i hi => (put5_frozen _).trans (h.r2 i hi), fun i hi => (put5_frozen _).trans (h.r3 i hi), fun i hi => ?_, fun i hi => ?_, fun i hi => ?_, fun i hi => (put5_frozen _).trans (h.q2 i hi)⟩
  · have := hu i hi
    exact (put5_far (by omega)).trans (h.u0 i hi)
  · have := hu i hi
    exact (put5_far (by omega)).trans (h.u1 i hi)
  · have := hu i hi
    exact (put5_far (by omega)).trans (h.u2 i hi)
  · have := hu i hi
    exact (put5_far (by omega)).trans (h.u3 i hi)
  · have := hf i hi
    exact (put5_far (by omega)).trans (h.f0 i hi)
  · have := hf i hi
    exact (put5_far (by omega)).trans (h.f1 i hi)
  · have := hf i hi
    exact (put5_far (by omega)).trans (h.f2 i hi)
end
set_option maxHeartbeats 4000000 in
theorem bellPla_err (a1 a2 a3 : Option Addr) (n c1 m c2 q c3 : Nat) (c : Int) (hc0 : c ≠ 0) (w : World) (hE : ErrT w)
    (tB : Calls Tryd.prog 7 #[.slice a1 n c1, .slice a2 m c2] w fun e w' => e = .returned (.tuple #[.agg #[nil0, nil0, nil0, nil0, nil0], .int .i64 c]) ∧ Below w.heap.size w w')
    (hN : ∀ W, Below w.heap.size w W → Calls Tryd.prog 8 #[.slice a1 n c1, .slice a2 m c2] W fun e w' => e = .returned (.tuple #[.pointer none, .iface 63 (.int .i64 c)]) ∧ Below W.heap.size W w') :
    Calls Tryd.prog 3 #[.slice a1 n c1, .slice a2 m c2, .slice a3 q c3] w fun e w' => e = .returned (.bool true) ∧ Below w.heap.size w w' := by
  have k1 : (c != 0) = true := by simp [hc0]
  clear hc0
  go_enter Tryd.func3, Tryd.ntmps3
  go_wp2_with fail
  refine tB.mono ?_
  clear tB
  rintro e w1 ⟨rfl, hB1⟩
  have hBa : Below w.heap.size w (w1.alloc (.cells #[nil0, nil0, nil0, nil0, nil0] 26)) := hB1.alloc hB1.size _
  go_wp2_with fail
  refine (hN _ hBa).mono ?_
  clear hN
  rintro e w2 ⟨rfl, hB2⟩
  have hB3 := hBa.trans (hB2.mono hBa.size)
  have tE := error_err c c w2 (errT_on hE hB3)
  go_wp2_with fail
  refine tE.mono ?_
  clear tE
  rintro e w4 ⟨rfl, hB4⟩
  go_wp2_with fail
  go_ret
  exact ⟨by simp, hB3.trans (hB4.mono hB3.size)⟩
set_option maxHeartbeats 80000000 in
theorem bellPla_in (a1 a2 a3 : Option Addr) (n c1 m c2 q c3 : Nat) (z y : Nat → Int × Int) (k0 k1 k2 k3 : Nat → Int) (w : World) (hT : Tab w) (hE : ErrT w)
    (h1 : AtLabs w a1 n z) (h2 : AtLabs w a2 m y) (h3 : AtAsks w a3 q k0 k1 k2 k3) (hn8 : n ≤ 8) (hm8 : m ≤ 8) (hz : AllLab n z) (hy : AllLab m y)
    (hN : ∀ W, Below w.heap.size w W → Calls Tryd.prog 8 #[.slice a1 n c1, .slice a2 m c2] W fun e w' => ∃ B au af gu gf cu cf, e = .returned (.tuple #[.pointer (some ⟨B, 0, none⟩), .nilIface]) ∧ Mon W.heap.size w'.heap.size B au af gu gf cu cf w' (newSt n m z y) ∧ Below W.heap.size W w')
    (Z : Nat) (hZ : (Z = q ∧ q ≤ 100) ∨ (Z = 100 ∧ 100 < q)) :
    Calls Tryd.prog 3 #[.slice a1 n c1, .slice a2 m c2, .slice a3 q c3] w fun e w' => e = .returned (.bool true) ∧ Below w.heap.size w w' := by
  have hm8' : (m : Int) ≤ 8 := by omega
  have hn8' : (n : Int) ≤ 8 := by omega
  have tB := refNew_ok a1 a2 n c1 m c2 z y hn8 hm8 hz hy w h1 h2
  have ok0 := newSt_ok hn8 hm8 hz hy
  have hLU := labl_of h1 hz c1
  have hLF := labl_of h2 hy c2
  have HLU := Hid.mkI hLU
  have HLF := Hid.mkI hLF
  have OK0 := Hid.mkI ok0
  have HT := Hid.mkI hT
  clear hLU hLF ok0 h1 h2 hz hy hT
  go_enter Tryd.func3, Tryd.ntmps3
  go_wp2_with fail
  refine tB.mono ?_
  clear tB
  rintro e w1 ⟨vR0, vW0, vH0, rfl, hR1, hB1⟩
  obtain ⟨pR0, qR0, rfl, -⟩ := id hR1.lr
  obtain ⟨pW0, qW0, rfl, -⟩ := id hR1.lw
  obtain ⟨pH0, qH0, rfl, -⟩ := id hR1.lh
  have hQ1 := Quin.new w1 (.slice a1 n c1) (.slice a2 m c2) (.slice pR0 (newSt n m z y).nu qR0) (.slice pW0 (newSt n m z y).nu qW0) (.slice pH0 (newSt n m z y).nf qH0) 26
  have hBa : Below w1.heap.size w1 (w1.alloc (.cells #[.slice a1 n c1, .slice a2 m c2, .slice pR0 (newSt n m z y).nu qR0, .slice pW0 (newSt n m z y).nu qW0, .slice pH0 (newSt n m z y).nf qH0] 26)) := (Below.refl _ _).alloc (Nat.le_refl _) _
  have hRa := (hR1.weak (P' := fun b => b < w1.heap.size) fun b hb _ => hb).below hBa
  have hBx := hB1.trans (hBa.mono hB1.size)
  have hsx : w1.heap.size < (w1.alloc (.cells #[.slice a1 n c1, .slice a2 m c2, .slice pR0 (newSt n m z y).nu qR0, .slice pW0 (newSt n m z y).nu qW0, .slice pH0 (newSt n m z y).nf qH0] 26)).heap.size := by simp
  have tN := hN _ hBx
  obtain ⟨wX, hwX⟩ : ∃ x, w1.alloc (.cells #[.slice a1 n c1, .slice a2 m c2, .slice pR0 (newSt n m z y).nu qR0, .slice pW0 (newSt n m z y).nu qW0, .slice pH0 (newSt n m z y).nf qH0] 26) = x := ⟨_, rfl⟩
  rw [hwX] at hQ1 hRa hBx hsx tN
  clear hN hBa hR1
  go_wp2_with fail
  refine tN.mono ?_
  clear tN
  rintro e w2 ⟨B, au, af, gu, gf, cu, cf, rfl, hM, hB2⟩
  have hQ0 := hQ1.below hB2
  have hB0 := hBx.trans (hB2.mono hBx.size)
  have hs2 := hB2.size
  have hs1 := hB1.size
  obtain ⟨P, hP⟩ : ∃ P : Nat → Prop, (fun b => (b < wX.heap.size ∨ w2.heap.size ≤ b) ∧ b ≠ w1.heap.size) = P := ⟨_, rfl⟩
  have hP1 : ∀ b, P b → b < wX.heap.size ∨ w2.heap.size ≤ b := fun b hb => by rw [← hP] at hb; exact hb.1
  have hP2 : ∀ b, P b → b ≠ w1.heap.size := fun b hb => by rw [← hP] at hb; exact hb.2
  have hP3 : ∀ b, w2.heap.size ≤ b → P b := fun b hb => by rw [← hP]; exact ⟨.inr hb, by omega⟩
  have hR0 : LRef P w2 _ _ _ _ := (hRa.below hB2).weak (P' := P) fun b _ hb => by rw [← hP]; exact ⟨.inl (by omega), by omega⟩
  have HP1 := Hid.mkI hP1
  have HP2 := Hid.mkI hP2
  have HP3 := Hid.mkI hP3
  clear hP hP1 hP2 hP3 hRa hQ1 hBx hwX hB1 hB2
  go_wp2_with fail
  go_loopg [11] 100 (fun g i wr => ∃ (k : Nat) (s : BellSt) (vR vW vH : Value), k ≤ Z ∧ g = 100 - k ∧ i = .int .i64 k ∧ Mon wX.heap.size w2.heap.size B au af gu gf cu cf wr s ∧ Quin w1.heap.size wr (.slice a1 n c1) (.slice a2 m c2) vR vW vH ∧ LRef P wr vR vW vH s ∧ Hid (BellOk s) ∧ Hid (Alike (newSt n m z y) s) ∧ Below w.heap.size w wr ∧ w2.heap.size ≤ wr.heap.size)
  case atStart => exact ⟨0, _, _, _, _, by omega, rfl, rfl, hM, hQ0, hR0, OK0, Alike.refl _, hB0, Nat.le_refl _⟩
  case round =>
    clear hM hQ0 hR0 hB0 OK0
    obtain ⟨k, s, vR, vW, vH, hk, rfl, rfl, hM, hQ, hR, HO, HA, hB, hsr⟩ := hrel
    have hnf : Hid (s.nf = m) := HA.out.nf
    have hnu : Hid (s.nu = n) := HA.out.nu
    by_cases hlt : k < Z
    · have hq1 : (k : Int) < (q : Int) := by omega
      have hq2 : (k : Int) < 100 := by omega
      rcases h3 with h3 | ⟨b, off, rfl, hl⟩
      · omega
      have e0 := (hB.cell (p := ⟨b, off + k * 4, none⟩) hl.old).trans (hl.c0 k (by omega))
      have e1 := (hB.cell (p := ⟨b, off + k * 4 + 1, none⟩) hl.old).trans (hl.c1 k (by omega))
      have e2 := (hB.cell (p := ⟨b, off + k * 4 + 2, none⟩) hl.old).trans (hl.c2 k (by omega))
      have e3 := (hB.cell (p := ⟨b, off + k * 4 + 3, none⟩) hl.old).trans (hl.c3 k (by omega))
      have lb : b < wr.heap.size := Nat.lt_of_lt_of_le hl.old hB.size
      have lb0 := hl.old
      have lQ := hQ.lt
      obtain ⟨x0, hx0⟩ : ∃ x, k0 k = x := ⟨_, rfl⟩
      obtain ⟨x1, hx1⟩ : ∃ x, k1 k = x := ⟨_, rfl⟩
      obtain ⟨x2, hx2⟩ : ∃ x, k2 k = x := ⟨_, rfl⟩
      obtain ⟨x3, hx3⟩ : ∃ x, k3 k = x := ⟨_, rfl⟩
      rw [hx0] at e0
      rw [hx1] at e1
      rw [hx2] at e2
      rw [hx3] at e3
      have HO2 : Hid (BellOk (askB s x0 x1 x2 x3).2) := askB_ok HO.out _ _ _ _
      have HA2 : Hid (Alike (newSt n m z y) (askB s x0 x1 x2 x3).2) := HA.out.trans (askB_alike _ _ _ _ _)
      have tA := fun W (hW : Below w.heap.size w W) (h : Mon wX.heap.size w2.heap.size B au af gu gf cu cf W s) => ask_any h HO.out (HT.out.below hW HT.out.size) x0 x1 x2 x3
      have hL1 : ∀ W, Below w.heap.size w W → Labl W (.slice a1 n c1) s.nu s.ul s.us := fun W hW => by rw [HA.out.nu, HA.out.ul, HA.out.us]; exact HLU.out.below hW
      have hL2 : ∀ W, Below w.heap.size w W → Labl W (.slice a2 m c2) s.nf s.fl s.fs := fun W hW => by rw [HA.out.nf, HA.out.fl, HA.out.fs]; exact HLF.out.below hW
      have tR := fun W (hW : Below w.heap.size w W) P' (hP' : ∀ b, W.heap.size ≤ b → P' b) (h : LRef P' W vR vW vH s) => refBell_any P' (.slice a1 n c1) (.slice a2 m c2) vR vW vH s x0 x1 x2 x3 HO.out W hP' (hL1 W hW) (hL2 W hW) h
      obtain ⟨c, hc⟩ : ∃ c, (askB s x0 x1 x2 x3).1 = c := ⟨_, rfl⟩
      obtain ⟨s', hs'⟩ : ∃ x, (askB s x0 x1 x2 x3).2 = x := ⟨_, rfl⟩
      simp only [hc, hs'] at tA tR
      rw [hs'] at HO2 HA2
      have hx0 : Hid (k0 k = x0) := hx0
      have hx1 : Hid (k1 k = x1) := hx1
      have hx2 : Hid (k2 k = x2) := hx2
      have hx3 : Hid (k3 k = x3) := hx3
      clear hc hs' HO HA hL1 hL2
      obtain ⟨aR, cpR, rfl, -⟩ := id hR.lr
      obtain ⟨aW, cpW, rfl, -⟩ := id hR.lw
      obtain ⟨aH, cpH, rfl, -⟩ := id hR.lh
      obtain ⟨b0, b1, b2, b3, b4, -, -, -, -, -⟩ := id hQ
      go_wp2_with fail
      go_cut [12, 13] from 37 to 106 (fun p e wx => ∃ (X : Nat) (uR uW uH : Value), p = .pointer (some ⟨X, 0, none⟩) ∧ e = .int .i64 c ∧ wr.heap.size ≤ X ∧ Quin X wx (.slice a1 n c1) (.slice a2 m c2) uR uW uH ∧ LRef P wx uR uW uH s' ∧ Below wr.heap.size wr wx)
      case first =>
        have t1 := tR wr.drew hB.drew P (fun b hb => HP3.out b (Nat.le_trans hsr hb)) (hR.drawn 1)
        have hBa : Below wr.heap.size wr (wr.alloc (.cells #[.slice none 0 0, .slice none 0 0, .slice none 0 0, .slice none 0 0, .slice none 0 0] 26)).drew := ((Below.refl _ _).alloc (Nat.le_refl _) _).drew
        have t2 := tR (wr.alloc (.cells #[.slice none 0 0, .slice none 0 0, .slice none 0 0, .slice none 0 0, .slice none 0 0] 26)).drew (hB.trans (hBa.mono hB.size)) (fun b => P b ∧ b ≠ wr.heap.size) (fun b hb => by
          have hb' : wr.heap.size + 1 ≤ b := by simpa using hb
          exact ⟨HP3.out b (by omega), by omega⟩) ((hR.weak fun b hl hb => ⟨hb, by omega⟩).below hBa)
        have hQn := (Quin.new wr (.slice none 0 0) (.slice none 0 0) (.slice none 0 0) (.slice none 0 0) (.slice none 0 0) 26).drew
        have nQ : w1.heap.size ≠ wr.heap.size := by omega
        have nb : b ≠ wr.heap.size := by omega
        have b0d : wr.drew.cell? ⟨w1.heap.size, 0, none⟩ = some (.slice a1 n c1) := b0
        have b0f : (wr.alloc (.cells #[.slice none 0 0, .slice none 0 0, .slice none 0 0, .slice none 0 0, .slice none 0 0] 26)).drew.cell? ⟨w1.heap.size, 0, none⟩ = some (.slice a1 n c1) := cell_alloc_p _ b0
        have b1d : wr.drew.cell? ⟨w1.heap.size, 1, none⟩ = some (.slice a2 m c2) := b1
        have b1f : (wr.alloc (.cells #[.slice none 0 0, .slice none 0 0, .slice none 0 0, .slice none 0 0, .slice none 0 0] 26)).drew.cell? ⟨w1.heap.size, 1, none⟩ = some (.slice a2 m c2) := cell_alloc_p _ b1
        have b2d : wr.drew.cell? ⟨w1.heap.size, 2, none⟩ = some (.slice aR s.nu cpR) := b2
        have b2f : (wr.alloc (.cells #[.slice none 0 0, .slice none 0 0, .slice none 0 0, .slice none 0 0, .slice none 0 0] 26)).drew.cell? ⟨w1.heap.size, 2, none⟩ = some (.slice aR s.nu cpR) := cell_alloc_p _ b2
        have b3d : wr.drew.cell? ⟨w1.heap.size, 3, none⟩ = some (.slice aW s.nu cpW) := b3
        have b3f : (wr.alloc (.cells #[.slice none 0 0, .slice none 0 0, .slice none 0 0, .slice none 0 0, .slice none 0 0] 26)).drew.cell? ⟨w1.heap.size, 3, none⟩ = some (.slice aW s.nu cpW) := cell_alloc_p _ b3
        have b4d : wr.drew.cell? ⟨w1.heap.size, 4, none⟩ = some (.slice aH s.nf cpH) := b4
        have b4f : (wr.alloc (.cells #[.slice none 0 0, .slice none 0 0, .slice none 0 0, .slice none 0 0, .slice none 0 0] 26)).drew.cell? ⟨w1.heap.size, 4, none⟩ = some (.slice aH s.nf cpH) := cell_alloc_p _ b4
        have e0d : wr.drew.cell? ⟨b, off + k * 4, none⟩ = some (.int .i64 x0) := e0
        have e0f : (wr.alloc (.cells #[.slice none 0 0, .slice none 0 0, .slice none 0 0, .slice none 0 0, .slice none 0 0] 26)).drew.cell? ⟨b, off + k * 4, none⟩ = some (.int .i64 x0) := cell_alloc_p _ e0
        have e1d : wr.drew.cell? ⟨b, off + k * 4 + 1, none⟩ = some (.int .i64 x1) := e1
        have e1f : (wr.alloc (.cells #[.slice none 0 0, .slice none 0 0, .slice none 0 0, .slice none 0 0, .slice none 0 0] 26)).drew.cell? ⟨b, off + k * 4 + 1, none⟩ = some (.int .i64 x1) := cell_alloc_p _ e1
        have e2d : wr.drew.cell? ⟨b, off + k * 4 + 2, none⟩ = some (.int .i64 x2) := e2
        have e2f : (wr.alloc (.cells #[.slice none 0 0, .slice none 0 0, .slice none 0 0, .slice none 0 0, .slice none 0 0] 26)).drew.cell? ⟨b, off + k * 4 + 2, none⟩ = some (.int .i64 x2) := cell_alloc_p _ e2
        have e3d : wr.drew.cell? ⟨b, off + k * 4 + 3, none⟩ = some (.int .i64 x3) := e3
        have e3f : (wr.alloc (.cells #[.slice none 0 0, .slice none 0 0, .slice none 0 0, .slice none 0 0, .slice none 0 0] 26)).drew.cell? ⟨b, off + k * 4 + 3, none⟩ = some (.int .i64 x3) := cell_alloc_p _ e3
        clear tR tA
        unfold ask4 at t1 t2
        first | (go_region_held3 (fun w' => w'.cell? ⟨w1.heap.size, 0, none⟩ = some (.slice a1 n c1) ∧ w'.cell? ⟨w1.heap.size, 1, none⟩ = some (.slice a2 m c2) ∧ w'.cell? ⟨w1.heap.size, 2, none⟩ = some (.slice aR s.nu cpR) ∧ w'.cell? ⟨w1.heap.size, 3, none⟩ = some (.slice aW s.nu cpW) ∧ w'.cell? ⟨w1.heap.size, 4, none⟩ = some (.slice aH s.nf cpH) ∧ w'.cell? ⟨b, off + k * 4, none⟩ = some (.int .i64 x0) ∧ w'.cell? ⟨b, off + k * 4 + 1, none⟩ = some (.int .i64 x1) ∧ w'.cell? ⟨b, off + k * 4 + 2, none⟩ = some (.int .i64 x2) ∧ w'.cell? ⟨b, off + k * 4 + 3, none⟩ = some (.int .i64 x3))
          ((go_split_ands; refine ⟨?_, ?_, ?_, ?_, ?_, ?_, ?_, ?_, ?_⟩ <;> first | (with_reducible assumption) | (with_reducible (refine (set5_far (by assumption)).trans ?_; assumption)) | (with_reducible (refine keep_cell hB5 ?_; assumption)) | (with_reducible (refine cell_alloc_p _ ?_; assumption))))
          (first | (go_at_call 10; (with_reducible refine t1.mono ?_); rintro e w5 ⟨uR, uW, uH, rfl, hR5, hB5⟩; have hz5 : wr.heap.size ≤ w5.heap.size := hB5.size; have s0 := keep_cell hB5 b0; have s1 := keep_cell hB5 b1; have s2 := keep_cell hB5 b2; have s3 := keep_cell hB5 b3; have s8 := keep_cell hB5 b4; have s4 := keep_cell hB5 e0; have s5 := keep_cell hB5 e1; have s6 := keep_cell hB5 e2; have s7 := keep_cell hB5 e3; obtain ⟨pR, qR, rfl, -⟩ := id hR5.lr; obtain ⟨pW, qW, rfl, -⟩ := id hR5.lw; obtain ⟨pH, qH, rfl, -⟩ := id hR5.lh) | (go_at_call 10; (with_reducible refine t2.mono ?_); rintro e w5 ⟨uR, uW, uH, rfl, hR5, hB5⟩; have hQ5 := hQn.below hB5; obtain ⟨z0, z1, z2, z3, z4, y0, y1, y2, y3, y4⟩ := id hQ5; obtain ⟨pR, qR, rfl, -⟩ := id hR5.lr; obtain ⟨pW, qW, rfl, -⟩ := id hR5.lw; obtain ⟨pH, qH, rfl, -⟩ := id hR5.lh))) | fail
        all_goals
          go_simp
          go_step
          go_meet
          case rel =>
            first
              | exact ⟨_, _, _, _, rfl, rfl, hz5, Quin.new w5 _ _ _ _ _ _, hR5.below ((Below.refl _ _).alloc (Nat.le_refl _) _), (undrew2 hB5).alloc hz5 _⟩
              | exact ⟨_, _, _, _, rfl, rfl, Nat.le_refl _, hQ5.put _ _ _ _ _, (hR5.put5 (fun b hb => hb.2)).weak (fun b _ hb => hb.1), below_put5 (hBa.trans (hB5.mono hBa.size)) (Nat.le_refl _)⟩
      case rest =>
      obtain ⟨X, uR, uW, uH, rfl, rfl, hX, hQx, hRx, hBx⟩ := hcut
      have hM4 := (hM.below hBx).put5 (u0 := .slice a1 n c1) (u1 := .slice a2 m c2) (u2 := uR) (u3 := uW) (u4 := uH) hsx
      have hQ4 := (hQ.below hBx).put (.slice a1 n c1) (.slice a2 m c2) uR uW uH
      have hR4 := hRx.put5 (u0 := .slice a1 n c1) (u1 := .slice a2 m c2) (u2 := uR) (u3 := uW) (u4 := uH) HP2.out
      have hB4 : Below w.heap.size w (put5 wc w1.heap.size (.slice a1 n c1) (.slice a2 m c2) uR uW uH) := below_put5 (hB.trans (hBx.mono hB.size)) hs1
      have hz4 : wc.heap.size ≤ (put5 wc w1.heap.size (.slice a1 n c1) (.slice a2 m c2) uR uW uH).heap.size := (below_put5 (Below.refl 0 wc) (Nat.zero_le _)).size
      have hzc := hBx.size
      obtain ⟨z0, z1, z2, z3, z4, y0, y1, y2, y3, y4⟩ := id (hQ.below hBx)
      obtain ⟨d0, d1, d2, d3, d4, -, -, -, -, -⟩ := id hQx
      clear e0 e1 e2 e3 b0 b1 b2 b3 b4 tR hR hQ hM
      obtain ⟨pR, qR, rfl, -⟩ := id hRx.lr
      obtain ⟨pW, qW, rfl, -⟩ := id hRx.lw
      obtain ⟨pH, qH, rfl, -⟩ := id hRx.lh
      obtain ⟨W4, hW4⟩ : ∃ x, put5 wc w1.heap.size (.slice a1 n c1) (.slice a2 m c2) (.slice pR s'.nu qR) (.slice pW s'.nu qW) (.slice pH s'.nf qH) = x := ⟨_, rfl⟩
      rw [hW4] at hM4 hQ4 hR4 hB4 hz4
      unfold put5 at hW4
      have e0 := (hB4.cell (p := ⟨b, off + k * 4, none⟩) lb0).trans (hl.c0 k (by omega))
      have e1 := (hB4.cell (p := ⟨b, off + k * 4 + 1, none⟩) lb0).trans (hl.c1 k (by omega))
      have e2 := (hB4.cell (p := ⟨b, off + k * 4 + 2, none⟩) lb0).trans (hl.c2 k (by omega))
      have e3 := (hB4.cell (p := ⟨b, off + k * 4 + 3, none⟩) lb0).trans (hl.c3 k (by omega))
      rw [hx0.out] at e0
      rw [hx1.out] at e1
      rw [hx2.out] at e2
      rw [hx3.out] at e3
      replace tA := tA W4 hB4 hM4
      have tE := fun W hW => errV_told c W (errT_on (w' := W) hE hW)
      obtain ⟨v, hv⟩ : ∃ v, errV c = v := ⟨_, rfl⟩
      rw [hv] at tA
      simp only [hv] at tE
      clear hv hl
      have l4 := hQ4.lt
      go_wp2_with fail
      refine tA.mono ?_
      clear tA
      rintro e w5 ⟨rfl, hM5, hBt⟩
      have hB5 : Below w.heap.size w w5 := hB4.trans ((hBt.below (by omega)).mono (by omega))
      replace tE := tE w5 hB5
      have hQ5 := hQ4.betw hBt (.inl hsx)
      have hR5 := hR4.betw hBt HP1.out
      have hz5 := hBt.size
      go_wp2_with fail
      refine tE.mono ?_
      clear tE
      rintro e w6 ⟨rfl, hB6⟩
      have hM6 := hM5.below hB6
      have hQ6 := hQ5.below hB6
      have hR6 := hR5.below hB6
      have hBw6 := hB5.trans (hB6.mono hB5.size)
      have hz6 : w2.heap.size ≤ w6.heap.size := by have := hB6.size; omega
      clear e0 e1 e2 e3 d0 d1 d2 d3 d4 z0 z1 z2 z3 z4 y0 y1 y2 y3 y4 hW4 hM4 hQ4 hR4 hB4 hM5 hQ5 hR5 hB5 hBt hB6 hQx hRx hBx hB l4 hz4 hz5 hzc
      have hnu' : Hid (s'.nu = n) := HA2.out.nu
      have hnf' : Hid (s'.nf = m) := HA2.out.nf
      go_wp2_with fail
      go_loopg [14] n (fun g i wi => ∃ u : Nat, u ≤ n ∧ g = n - u ∧ i = .int .i64 u ∧ Mon wX.heap.size w2.heap.size B au af gu gf cu cf wi s' ∧ Quin w1.heap.size wi (.slice a1 n c1) (.slice a2 m c2) (.slice pR s'.nu qR) (.slice pW s'.nu qW) (.slice pH s'.nf qH) ∧ LRef P wi (.slice pR s'.nu qR) (.slice pW s'.nu qW) (.slice pH s'.nf qH) s' ∧ Below w.heap.size w wi ∧ w2.heap.size ≤ wi.heap.size)
      case atStart => exact ⟨0, by omega, rfl, rfl, hM6, hQ6, hR6, hBw6, hz6⟩
      case round =>
        clear hM6 hQ6 hR6 hBw6 hz6
        obtain ⟨u, hu, rfl, rfl, hM, hQ, hR, hB, hz6⟩ := hrel
        by_cases hut : u < n
        · have hu' : (u : Int) < (n : Int) := by omega
          have hu2 : u < s'.nu := by rw [hnu'.out]; exact hut
          have hu3 : (u : Int) < (s'.nu : Int) := by omega
          obtain ⟨bu, ou, cpu, hv, hbl, hbc⟩ := hR.lr.some (by omega)
          cases hv
          obtain ⟨bv, ov, cpv, hv, hbl2, hbc2⟩ := hR.lw.some (by omega)
          cases hv
          have e1 := hbc u hu2
          have e2 := hbc2 u hu2
          have tH := fun nn => reads_in (hM.drawn nn) u hu2
          have tW := fun nn => writes_in (hM.drawn nn) u hu2
          obtain ⟨x, hx⟩ : ∃ x, s'.ur u = x := ⟨_, rfl⟩
          obtain ⟨x', hx'⟩ : ∃ x, s'.uw u = x := ⟨_, rfl⟩
          simp only [hx] at e1 tH
          simp only [hx'] at e2 tW
          obtain ⟨b0, b1, b2, b3, b4, -, -, -, -, -⟩ := id hQ
          clear hx hx' hbc hbc2
          go_wp2_with fail
          go_quiet ((first | (go_at_call 12; exact Calls.quiet_of_same (tH _)) | (go_at_call 13; exact Calls.quiet_of_same (tW _))))
          go_wp2_with fail
          go_roundg (n - (u + 1))
          case measure => omega
          case rel => exact ⟨u + 1, by omega, rfl, by go_num, hM.drawn _, hQ.drawn _, hR.drawn _, below_drawn hB _, hz6⟩
        · have hge : (n : Int) ≤ (u : Int) := by omega
          go_wp2_with fail
          go_loopg [15] m (fun g i wi => ∃ f : Nat, f ≤ m ∧ g = m - f ∧ i = .int .i64 f ∧ Mon wX.heap.size w2.heap.size B au af gu gf cu cf wi s' ∧ Quin w1.heap.size wi (.slice a1 n c1) (.slice a2 m c2) (.slice pR s'.nu qR) (.slice pW s'.nu qW) (.slice pH s'.nf qH) ∧ LRef P wi (.slice pR s'.nu qR) (.slice pW s'.nu qW) (.slice pH s'.nf qH) s' ∧ Below w.heap.size w wi ∧ w2.heap.size ≤ wi.heap.size)
          case atStart => exact ⟨0, by omega, rfl, rfl, hM, hQ, hR, hB, hz6⟩
          case round =>
            clear hM hQ hR hB hz6
            obtain ⟨f, hf, rfl, rfl, hM, hQ, hR, hB, hz6⟩ := hrel
            by_cases hft : f < m
            · have hf' : (f : Int) < (m : Int) := by omega
              have hf2 : f < s'.nf := by rw [hnf'.out]; exact hft
              have hf3 : (f : Int) < (s'.nf : Int) := by omega
              obtain ⟨bu, ou, cpu, hv, hbl, hbc⟩ := hR.lh.some (by omega)
              cases hv
              have e1 := hbc f hf2
              have tH := fun nn => holds_in (hM.drawn nn) f hf2
              obtain ⟨x, hx⟩ : ∃ x, s'.fh f = x := ⟨_, rfl⟩
              simp only [hx] at e1 tH
              obtain ⟨b0, b1, b2, b3, b4, -, -, -, -, -⟩ := id hQ
              clear hx hbc
              go_wp2_with fail
              go_quiet ((go_at_call 14; exact Calls.quiet_of_same (tH _)))
              go_wp2_with fail
              go_roundg (m - (f + 1))
              case measure => omega
              case rel => exact ⟨f + 1, by omega, rfl, by go_num, hM.drawn _, hQ.drawn _, hR.drawn _, below_drawn hB _, hz6⟩
            · have hge2 : (m : Int) ≤ (f : Int) := by omega
              go_wp2_with fail
              go_roundg (100 - (k + 1))
              case measure => omega
              case rel => exact ⟨k + 1, s', _, _, _, by omega, rfl, by go_num, hM, hQ, hR, HO2, HA2, hB, hz6⟩
    · have hex : (q : Int) ≤ (k : Int) ∨ ((k : Int) < (q : Int) ∧ 100 ≤ (k : Int)) := by omega
      have tX := reads_out hM (-1) (.inl (by decide))
      have tY := writes_out hM (n : Int) (.inr (by rw [hnu.out]; exact Int.le_refl _))
      have tW := holds_out hM (m : Int) (.inr (by rw [hnf.out]; exact Int.le_refl _))
      clear hlt hZ hk h3
      rcases hex with hx | ⟨hx, hx2⟩
      all_goals
        go_wp2_with (first | (go_at_call 12; refine tX.mono ?_; clear tX; rintro e w' ⟨rfl, hw⟩; obtain rfl := hw.symm) | (go_at_call 13; refine tY.mono ?_; clear tY; rintro e w' ⟨rfl, hw⟩; obtain rfl := hw.symm) | (go_at_call 14; refine tW.mono ?_; clear tW; rintro e w' ⟨rfl, hw⟩; obtain rfl := hw.symm))
        go_ret
        exact ⟨by simp, hB⟩
theorem upto100b (q : Nat) : ∃ Z, (Z = q ∧ q ≤ 100) ∨ (Z = 100 ∧ 100 < q) := by
  by_cases h : q ≤ 100
  · exact ⟨q, .inl ⟨rfl, h⟩⟩
  · exact ⟨100, .inr ⟨rfl, by omega⟩⟩
theorem bellPla_any (a1 a2 a3 : Option Addr) (n c1 m c2 q c3 : Nat) (z y : Nat → Int × Int) (k0 k1 k2 k3 : Nat → Int) (w : World) (h1 : AtLabs w a1 n z) (h2 : AtLabs w a2 m y) (h3 : AtAsks w a3 q k0 k1 k2 k3) (hT : Tab w) (hE : ErrT w) :
    Calls Tryd.prog 3 #[.slice a1 n c1, .slice a2 m c2, .slice a3 q c3] w fun e w' => e = .returned (.bool true) ∧ Below w.heap.size w w' := by
  rcases new_is a1 a2 n c1 m c2 z y w h1 h2 with ⟨c, hc0, hc, hN⟩ | ⟨hn, hm, hz, hy, hN⟩
  · rcases hc with hc | ⟨h0, hc⟩
    · exact bellPla_err a1 a2 a3 n c1 m c2 q c3 c hc0 w hE (refNew_err1 a1 a2 n c1 m c2 z c hc0 hc w h1) hN
    · exact bellPla_err a1 a2 a3 n c1 m c2 q c3 c hc0 w hE (refNew_err2 a1 a2 n c1 m c2 z y c hc0 h0 hc w h1 h2) hN
  · obtain ⟨Z, hZ⟩ := upto100b q
    exact bellPla_in a1 a2 a3 n c1 m c2 q c3 z y k0 k1 k2 k3 w hT hE h1 h2 h3 hn hm hz hy hN Z hZ
end Go.Proofs.YteheaeihoameeaaDoor
