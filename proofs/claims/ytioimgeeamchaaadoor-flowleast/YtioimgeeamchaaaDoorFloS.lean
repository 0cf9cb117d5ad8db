/- What flows into what in one step, as the program has it: what a Set adds (deed). -/
import Derived.WalkKit
import Derived.LoopTactic
import Derived.OwnWalk
import Derived.Deep.RegionHeld3
import Derived.Deep.QuietTactic
import Derived.Test.YtioimgeeamchaaaDoorFloK
namespace Go.Proofs.YtioimgeeamchaaaDoor
open Go.RowKit
set_option maxRecDepth 100000
set_option linter.unusedVariables false

section
variable {l : List Nod} {w0 : World} {X M cM cp i : Nat} {a : Option Addr}
set_option maxHeartbeats 2000000 in
theorem fdeed_set (hG : Good l) (hat : AtNods w0 a l.length (nthD l)) (hi : i < l.length) (hk : (nthD l i).kd = 6) (tV : ∀ j, j < i → (nthD l j).kd < 5 → FVal w0 X M cM (.slice a l.length cp) l j) : FDeed w0 X M cM (.slice a l.length cp) l i := by
  intro c F w hc hF h
  obtain ⟨A, k, eA, ek, hA, hk6, kA⟩ := hG.setN hi hk
  have h80 := hG.r.few
  have HSt := Hid.mkI (fun v => flD_set hk eA ek c v)
  have hnA := nm_small hG (i := A) (by omega) kA
  have tV := tV A hA kA F
  obtain ⟨x, hx⟩ : ∃ x, nthD l i = x := ⟨_, rfl⟩
  rw [hx] at hk ek eA
  obtain ⟨kd, num, pa, pb, pc⟩ := x
  simp only at hk ek eA
  subst hk ek eA
  obtain ⟨b, off, wx, rfl, hb, z0, z1, z2, z3, z4, p0, hwx, N, H, Ap, yM⟩ := fdeed_start hat h hi hx
  have hnI : (l.length : Int) ≤ 80 := by omega
  have hiI : (i : Int) < (l.length : Int) := by omega
  have hkI : (k : Int) < 6 := by omega
  have hor1 := or_i64 c (nm l A) (Nat.lt_trans hc (by decide)) (Nat.lt_trans hnA (by decide))
  have hor2 := or_i64 (F k) (c ||| nm l A) (Nat.lt_trans (hF k) (by decide)) (Nat.lt_trans (or_small hc hnA) (by decide))
  have HG : Hid (F k ||| (c ||| nm l A) = F k ||| flD l i c k) := by show _ = _; rw [HSt.out, if_pos rfl, Nat.or_comm c]
  rw [HG.out] at hor2
  have HO : Hid (∀ j, j < 6 → j ≠ k → F j ||| flD l i c j = F j) := fun j _ hj => by rw [HSt.out, if_neg hj, Nat.or_zero]
  obtain ⟨y, hy⟩ : ∃ y, nm l A = y := ⟨_, rfl⟩
  rw [hy] at tV hor1 hor2
  obtain ⟨y1, hy1⟩ : ∃ z, c ||| y = z := ⟨_, rfl⟩
  rw [hy1] at hor1 hor2
  obtain ⟨y2, hy2⟩ : ∃ z, F k ||| flD l i c k = z := ⟨_, rfl⟩
  rw [hy2] at hor2
  obtain ⟨v0, hv0⟩ : ∃ z, F k = z := ⟨_, rfl⟩
  rw [hv0] at hor2
  have HV0 := Hid.mkI hv0
  have HY2 := Hid.mkI hy2
  obtain ⟨n, hn⟩ : ∃ n, l.length = n := ⟨_, rfl⟩
  rw [hn] at hnI hiI p0 tV H
  rw [hn]
  have H := Hid.mkI H
  have Ap := Hid.mkI Ap
  have d0 := N.c0
  have d1 := N.c1
  have d2 := N.c2
  have x1 := H.out.c1
  have hMX := H.out.ne
  clear h hat hi h80 hx hn hG hy hy1 hy2 hv0 HG HSt hF N hc hnA
  go_enter Tryd.func30, Tryd.ntmps30
  go_wp2
  have H0 := Hid.mkI (H.out.below ((Below.refl _ wx).drew))
  have tV := tV wx.drew H0.out
  have cM0 : wx.drew.cell? ⟨M, k, none⟩ = some (.int .i64 (v0 : Int)) := by rw [← HV0.out]; exact H0.out.own.cell k hk6
  have x1 : wx.drew.cell? ⟨X, 1, none⟩ = some (.slice (some ⟨M, 0, none⟩) 6 cM) := x1
  have d1 : wx.drew.cell? ⟨w.heap.size, 1, none⟩ = some (.int .i64 (k : Int)) := d1
  have d2 : wx.drew.cell? ⟨w.heap.size, 2, none⟩ = some (.int .i64 (A : Int)) := d2
  have tV2 : Calls Tryd.prog 46 #[fdP X, .int .i64 (A : Int)] wx.drew fun e w2 => e = .returned (.int .i64 (y : Int)) ∧ Hid (Fnd w0 X M cM (.slice (some ⟨b, off, none⟩) n cp) F w2) ∧ Hid (Apart M M w w2) ∧ w2.frozen? ⟨M, k, none⟩ = false ∧ w2.cell? ⟨M, k, none⟩ = some (.int .i64 (v0 : Int)) ∧ w2.cell? ⟨X, 1, none⟩ = some (.slice (some ⟨M, 0, none⟩) 6 cM) ∧ w2.cell? ⟨w.heap.size, 1, none⟩ = some (.int .i64 (k : Int)) ∧ w2.cell? ⟨w.heap.size, 2, none⟩ = some (.int .i64 (A : Int)) := tV.mono fun e w2 ⟨he, hB2⟩ => by
    have H2 := H0.out.below hB2
    exact ⟨he, H2, Ap.out.trans (Apart.ofBelow ((Below.refl _ wx).drew.trans hB2)), H2.own.free k hk6, by rw [← HV0.out]; exact H2.own.cell k hk6, keep_cell hB2 x1, keep_cell hB2 d1, keep_cell hB2 d2⟩
  clear tV
  go_region_with (go_at_call 46; (with_reducible refine tV2.mono ?_); rintro e w2 ⟨rfl, H2, A2, fM, cM2, x1, d1, d2⟩)
  all_goals go_wp2
  all_goals go_end0
  all_goals exact ⟨rfl, H2.out.put hk6 HY2.out HO.out, A2.out.trans (Apart.setX w2 k _)⟩
end
end Go.Proofs.YtioimgeeamchaaaDoor
