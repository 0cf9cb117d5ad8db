/- What flows into what in one step, as the program has it: what each deed adds (deed). -/
import Derived.WalkKit
import Derived.LoopTactic
import Derived.OwnWalk
import Derived.Deep.RegionHeld3
import Derived.Deep.QuietTactic
import Derived.Test.YtioimgeeamchaaaDoorFloS
namespace Go.Proofs.YtioimgeeamchaaaDoor
open Go.RowKit
set_option maxRecDepth 100000
set_option linter.unusedVariables false

section
variable {l : List Nod} {w0 : World} {X M cM cp i : Nat} {a : Option Addr}
theorem fdeed_skip (hat : AtNods w0 a l.length (nthD l)) (hi : i < l.length) (h80 : l.length ≤ 80) (hk : (nthD l i).kd = 5) : FDeed w0 X M cM (.slice a l.length cp) l i := by
  intro c F w hc hF h
  have HS := Hid.mkI (fun v => show F v ||| flD l i c v = F v by rw [flD_skip hk, Nat.or_zero])
  obtain ⟨x, hx⟩ : ∃ x, nthD l i = x := ⟨_, rfl⟩
  rw [hx] at hk
  obtain ⟨kd, num, pa, pb, pc⟩ := x
  simp only at hk
  subst hk
  obtain ⟨b, off, wx, rfl, hb, z0, z1, z2, z3, z4, p0, hwx, N, H, A, -⟩ := fdeed_start hat h hi hx
  have hE := Hid.mkI (And.intro H A)
  have hnI : (l.length : Int) ≤ 80 := by omega
  have hiI : (i : Int) < (l.length : Int) := by omega
  have d0 := N.c0
  obtain ⟨n, hn⟩ : ∃ n, l.length = n := ⟨_, rfl⟩
  rw [hn] at hnI hiI p0 hE
  rw [hn]
  clear N H A h hat hi h80 hx hn hF
  go_enter Tryd.func30, Tryd.ntmps30
  go_wp2
  go_end0
  exact ⟨rfl, hE.out.1.like HS.out, hE.out.2⟩
set_option maxHeartbeats 2000000 in
theorem fdeed_both (hG : Good l) (hat : AtNods w0 a l.length (nthD l)) (hi : i < l.length) (hk : (nthD l i).kd = 7) (tD : ∀ j, j < i → 5 ≤ (nthD l j).kd → FDeed w0 X M cM (.slice a l.length cp) l j) : FDeed w0 X M cM (.slice a l.length cp) l i := by
  intro c F w hc hF h
  obtain ⟨A, D, eA, eD, hA, hD, kA, kD⟩ := hG.bothN hi hk
  have h80 := hG.r.few
  have HB := Hid.mkI (fun v => show F v ||| flD l i c v = (F v ||| flD l A c v) ||| flD l D c v by rw [flD_both hG hi hk eA eD hA hD kA kD, Nat.or_assoc])
  have hF2 : ∀ v, F v ||| flD l A c v < 2 ^ 6 := fun v => or_small (hF v) (flD_small hG (by omega) kA hc v)
  have tA := tD A hA kA c F
  have tC := fun w' h => tD D hD kD c (fun v => F v ||| flD l A c v) w' hc hF2 h
  have tA := fun w' h => tA w' hc hF h
  obtain ⟨x, hx⟩ : ∃ x, nthD l i = x := ⟨_, rfl⟩
  rw [hx] at hk eA eD
  obtain ⟨kd, num, pa, pb, pc⟩ := x
  simp only at hk eA eD
  subst hk eA eD
  obtain ⟨b, off, wx, rfl, hb, z0, z1, z2, z3, z4, p0, hwx, N, H, Ap, yM⟩ := fdeed_start hat h hi hx
  have hnI : (l.length : Int) ≤ 80 := by omega
  have hiI : (i : Int) < (l.length : Int) := by omega
  obtain ⟨n, hn⟩ : ∃ n, l.length = n := ⟨_, rfl⟩
  rw [hn] at hnI hiI p0 tA tC H
  rw [hn]
  have H := Hid.mkI H
  have Ap := Hid.mkI Ap
  have d0 := N.c0
  have d2 := N.c2
  have d3 := N.c3
  clear h hat hi h80 hx hn hG hF hF2 tD N
  go_enter Tryd.func30, Tryd.ntmps30
  go_wp2_with (first | (go_at_call 30; (with_reducible refine (tA _ H.out).mono ?_); clear tA; rintro e w1 ⟨rfl, H1, A1⟩; have H1 := Hid.mkI H1; have d3 := A1.cell d3 yM yM; have A1 := Hid.mkI (Ap.out.trans A1)) | (go_at_call 30; (with_reducible refine (tC _ H1.out).mono ?_); clear tC; rintro e w2 ⟨rfl, H2, A2⟩; have H2 := Hid.mkI H2; have A2 := Hid.mkI (A1.out.trans A2)))
  go_end0
  exact ⟨rfl, H2.out.like HB.out, A2.out⟩
set_option maxHeartbeats 2000000 in
theorem fdeed_if (hG : Good l) (hat : AtNods w0 a l.length (nthD l)) (hi : i < l.length) (hk : (nthD l i).kd = 8) (tV : ∀ j, j < i → (nthD l j).kd < 5 → FVal w0 X M cM (.slice a l.length cp) l j) (tD : ∀ j, j < i → 5 ≤ (nthD l j).kd → FDeed w0 X M cM (.slice a l.length cp) l j) : FDeed w0 X M cM (.slice a l.length cp) l i := by
  intro c F w hc hF h
  obtain ⟨A, D, E, eA, eD, eE, hA, hD, hE, kA, kD, kE⟩ := hG.ifN hi hk
  have h80 := hG.r.few
  have hnA := nm_small hG (i := A) (by omega) kA
  have hc2 := or_small hc hnA
  have HB := Hid.mkI (fun v => show F v ||| flD l i c v = (F v ||| flD l D (c ||| nm l A) v) ||| flD l E (c ||| nm l A) v by rw [flD_if hG hi hk eA eD eE hD hE kD kE, Nat.or_assoc])
  have hF2 : ∀ v, F v ||| flD l D (c ||| nm l A) v < 2 ^ 6 := fun v => or_small (hF v) (flD_small hG (by omega) kD hc2 v)
  have tV := tV A hA kA F
  have t1 := fun w' h => tD D hD kD (c ||| nm l A) F w' hc2 hF h
  have t2 := fun w' h => tD E hE kE (c ||| nm l A) (fun v => F v ||| flD l D (c ||| nm l A) v) w' hc2 hF2 h
  have hor := or_i64 c (nm l A) (Nat.lt_trans hc (by decide)) (Nat.lt_trans hnA (by decide))
  obtain ⟨y, hy⟩ : ∃ y, nm l A = y := ⟨_, rfl⟩
  rw [hy] at tV hor t1 t2 HB
  obtain ⟨c2, hc2'⟩ : ∃ y', c ||| y = y' := ⟨_, rfl⟩
  rw [hc2'] at hor t1 t2 HB
  obtain ⟨x, hx⟩ : ∃ x, nthD l i = x := ⟨_, rfl⟩
  rw [hx] at hk eA eD eE
  obtain ⟨kd, num, pa, pb, pc⟩ := x
  simp only at hk eA eD eE
  subst hk eA eD eE
  obtain ⟨b, off, wx, rfl, hb, z0, z1, z2, z3, z4, p0, hwx, N, H, Ap, yM⟩ := fdeed_start hat h hi hx
  have hnI : (l.length : Int) ≤ 80 := by omega
  have hiI : (i : Int) < (l.length : Int) := by omega
  obtain ⟨n, hn⟩ : ∃ n, l.length = n := ⟨_, rfl⟩
  rw [hn] at hnI hiI p0 t1 t2 tV H
  rw [hn]
  have H := Hid.mkI H
  have Ap := Hid.mkI Ap
  have d0 := N.c0
  have d2 := N.c2
  have d3 := N.c3
  have d4 := N.c4
  clear h hat hi h80 hx hn hG hF hF2 tD N hc hc2 hc2' hy hnA
  go_enter Tryd.func30, Tryd.ntmps30
  go_wp2_with (first | (go_at_call 46; (with_reducible refine (tV _ H.out).mono ?_); clear tV; rintro e w1 ⟨rfl, hB1⟩; have H1 := Hid.mkI (H.out.below hB1); have d3 := keep_cell hB1 d3; have d4 := keep_cell hB1 d4; have A1 := Hid.mkI (Ap.out.trans (Apart.ofBelow hB1))) | (go_at_call 30; (with_reducible refine (t1 _ H1.out).mono ?_); clear t1; rintro e w2 ⟨rfl, H2, A2⟩; have H2 := Hid.mkI H2; have d4 := A2.cell d4 yM yM; have A2 := Hid.mkI (A1.out.trans A2)) | (go_at_call 30; (with_reducible refine (t2 _ H2.out).mono ?_); clear t2; rintro e w3 ⟨rfl, H3, A3⟩; have H3 := Hid.mkI H3; have A3 := Hid.mkI (A2.out.trans A3)))
  go_end0
  exact ⟨rfl, H3.out.like HB.out, A3.out⟩
set_option maxHeartbeats 2000000 in
theorem fdeed_while (hG : Good l) (hat : AtNods w0 a l.length (nthD l)) (hi : i < l.length) (hk : (nthD l i).kd = 9) (tV : ∀ j, j < i → (nthD l j).kd < 5 → FVal w0 X M cM (.slice a l.length cp) l j) (tD : ∀ j, j < i → 5 ≤ (nthD l j).kd → FDeed w0 X M cM (.slice a l.length cp) l j) : FDeed w0 X M cM (.slice a l.length cp) l i := by
  intro c F w hc hF h
  obtain ⟨A, D, eA, eD, hA, hD, kA, kD⟩ := hG.whlN hi hk
  have h80 := hG.r.few
  have hnA := nm_small hG (i := A) (by omega) kA
  have hc2 := or_small hc hnA
  have HB := Hid.mkI (fun v => show F v ||| flD l i c v = F v ||| flD l D (c ||| nm l A) v by rw [flD_whl hG hi hk eA eD hD kD])
  have tV := tV A hA kA F
  have t1 := fun w' h => tD D hD kD (c ||| nm l A) F w' hc2 hF h
  have hor := or_i64 c (nm l A) (Nat.lt_trans hc (by decide)) (Nat.lt_trans hnA (by decide))
  obtain ⟨y, hy⟩ : ∃ y, nm l A = y := ⟨_, rfl⟩
  rw [hy] at tV hor t1 HB
  obtain ⟨c2, hc2'⟩ : ∃ y', c ||| y = y' := ⟨_, rfl⟩
  rw [hc2'] at hor t1 HB
  obtain ⟨x, hx⟩ : ∃ x, nthD l i = x := ⟨_, rfl⟩
  rw [hx] at hk eA eD
  obtain ⟨kd, num, pa, pb, pc⟩ := x
  simp only at hk eA eD
  subst hk eA eD
  obtain ⟨b, off, wx, rfl, hb, z0, z1, z2, z3, z4, p0, hwx, N, H, Ap, yM⟩ := fdeed_start hat h hi hx
  have hnI : (l.length : Int) ≤ 80 := by omega
  have hiI : (i : Int) < (l.length : Int) := by omega
  obtain ⟨n, hn⟩ : ∃ n, l.length = n := ⟨_, rfl⟩
  rw [hn] at hnI hiI p0 t1 tV H
  rw [hn]
  have H0 := Hid.mkI (H.below ((Below.refl _ wx).drew))
  have Ap := Hid.mkI (Ap.trans (Apart.ofBelow ((Below.refl _ wx).drew)))
  have d0 := N.c0
  have d2 : wx.drew.cell? ⟨w.heap.size, 2, none⟩ = some (.int .i64 (A : Int)) := N.c2
  have d3 : wx.drew.cell? ⟨w.heap.size, 3, none⟩ = some (.int .i64 (D : Int)) := N.c3
  clear h hat hi h80 hx hn hG hF tD N hc hc2 hc2' hy hnA H
  go_enter Tryd.func30, Tryd.ntmps30
  go_wp2
  first | (go_region_held3 (fun w' => w'.cell? ⟨w.heap.size, 2, none⟩ = some (.int .i64 (A : Int)) ∧ w'.cell? ⟨w.heap.size, 3, none⟩ = some (.int .i64 (D : Int))) ((go_split_ands; refine ⟨?_, ?_⟩ <;> (with_reducible assumption))) (first | (go_at_call 46; (with_reducible refine (tV _ H0.out).mono ?_); clear tV; rintro e w1 ⟨rfl, hB1⟩; have H1 := Hid.mkI (H0.out.below hB1); have d2 := keep_cell hB1 d2; have d3 := keep_cell hB1 d3; have A1 := Hid.mkI (Ap.out.trans (Apart.ofBelow hB1))) | (go_at_call 30; (with_reducible refine (t1 _ H1.out).mono ?_); clear t1; rintro e w2 ⟨rfl, H2, A2⟩; have H2 := Hid.mkI H2; have d2 := A2.cell d2 yM yM; have d3 := A2.cell d3 yM yM; have A2 := Hid.mkI (A1.out.trans A2)))) | fail
  all_goals go_wp2
  all_goals go_end0
  all_goals exact ⟨rfl, H2.out.like HB.out, A2.out⟩
theorem fdeed_any (hG : Good l) (hat : AtNods w0 a l.length (nthD l)) : ∀ (m i : Nat), i < m → i < l.length → 5 ≤ (nthD l i).kd → FDeed w0 X M cM (.slice a l.length cp) l i
  | 0, _, h, _, _ => absurd h (by omega)
  | m + 1, i, him, hi, h5 => by
    have hkd := hG.kd hi
    have h80 := hG.r.few
    have tD : ∀ j, j < i → 5 ≤ (nthD l j).kd → FDeed w0 X M cM (.slice a l.length cp) l j := fun j hj h => fdeed_any hG hat m j (by omega) (by omega) h
    have tV : ∀ j, j < i → (nthD l j).kd < 5 → FVal w0 X M cM (.slice a l.length cp) l j := fun j hj h F w hf => fvalue_any hG hat (j + 1) j (by omega) (by omega) h F w hf
    obtain hk | hk | hk | hk | hk : (nthD l i).kd = 5 ∨ (nthD l i).kd = 6 ∨ (nthD l i).kd = 7 ∨ (nthD l i).kd = 8 ∨ (nthD l i).kd = 9 := by omega
    · exact fdeed_skip hat hi h80 hk
    · exact fdeed_set hG hat hi hk tV
    · exact fdeed_both hG hat hi hk tD
    · exact fdeed_if hG hat hi hk tV tD
    · exact fdeed_while hG hat hi hk tV tD
end
end Go.Proofs.YtioimgeeamchaaaDoor
