/- What flows into what in so many steps, as the document has it (From). -/
import Derived.WalkKit
import Derived.LoopTactic
import Derived.OwnWalk
import Derived.Laws.MakeOwn
import Derived.StillTailTactics
import Derived.Test.YtioimgeeamchaaaDoorFloG
import Derived.Test.YtioimgeeamchaaaDoorRefCl
namespace Go.Proofs.YtioimgeeamchaaaDoor
open Go.RowKit
set_option maxRecDepth 100000
set_option linter.unusedVariables false

theorem Own.drew' {w : World} {B m : Nat} {f : Nat → Nat} (h : Own w B m f) : Own w.drew B m f := ⟨h.lt, h.cell, h.free⟩
theorem Own.likeF {w : World} {B m : Nat} {f g : Nat → Nat} (h : Own w B m f) (e : ∀ j, j < m → g j = f j) : Own w B m g := ⟨h.lt, fun j hj => by rw [e j hj]; exact h.cell j hj, h.free⟩
theorem rowP_six {l : List Nod} {i k : Nat} (h6 : (nthD l i).kd = 6) (hk : (nthD l i).num = (k : Int)) (v : Nat) : rowP l v (i + 1) = if v = k then rowP l v i ||| stF l i else rowP l v i := by
  rw [rowP, hk, Int.toNat_natCast]
  by_cases e : v = k
  · rw [if_pos ⟨h6, e.symm⟩, if_pos e]
  · rw [if_neg (fun q => e q.2.symm), if_neg e]
theorem rowP_not {l : List Nod} {i : Nat} (h6 : (nthD l i).kd ≠ 6) (v : Nat) : rowP l v (i + 1) = rowP l v i := by rw [rowP, if_neg (fun q => h6 q.1)]
theorem stF_small {l : List Nod} (h : proC l = 0) {i : Nat} (hi : i < l.length) (h6 : (nthD l i).kd = 6) : stF l i < 2 ^ 6 := by
  obtain ⟨a, k0, ea, ek, ha, hk0, ka⟩ := (good_of h).setN hi h6
  unfold stF
  rw [ea, Int.toNat_natCast]
  exact or_small (nm_small (good_of h) (by omega) ka) (ctx_small h _ _)
theorem rowP_small {l : List Nod} (h : proC l = 0) (v : Nat) : ∀ n, n ≤ l.length → rowP l v n < 2 ^ 6
  | 0, _ => show 0 < 2 ^ 6 by decide
  | n + 1, hn => by
    rw [rowP]
    split
    · rename_i q
      exact or_small (rowP_small h v n (by omega)) (stF_small h (by omega) q.1)
    · exact rowP_small h v n (by omega)
theorem or_into {a b c d : Nat} (h : a ||| b = d) (e : b = c) : a ||| c = d := by rw [← e]; exact h
set_option maxHeartbeats 8000000 in
theorem rfrom_any {l : List Nod} (hp : proC l = 0) (a : Option Addr) (cp : Nat) (w : World) (hat : AtNods w a l.length (nthD l)) :
    Calls Tryd.prog 9 #[.slice a l.length cp] w fun e w' => ∃ g c, e = .returned (.slice (some ⟨g, 0, none⟩) 6 c) ∧ w.heap.size ≤ g ∧ Hid (Own w' g 6 (comF l)) ∧ Below w.heap.size w w' := by
  have hG := good_of hp
  have h80 := hG.r.few
  have tN := Hid.mkI (fun (i : Nat) (hi : i < l.length) (h5 : (nthD l i).kd < 5) (w' : World) (k : Below w.heap.size w w') => rnames_any hG (a := a) (cp := cp) (i + 1) i (Nat.lt_succ_self _) hi h5 w' (hat.below k))
  have tA := Hid.mkI (fun (i : Nat) (w' : World) (k : Below w.heap.size w w') => rabove_any (a := a) (cp := cp) i w' h80 (hat.below k))
  have tC := Hid.mkI (fun (g c : Nat) (w' : World) (h : Own w' g 6 (fun v => rowF l v)) => refClosure_some g 0 6 c (rowsF l) (rowsF_right hG) (by decide) w' (h.lies fun j hj => rowsF_get l hj))
  have HSet := Hid.mkI (fun (i : Nat) (hi : i < l.length) (h6 : (nthD l i).kd = 6) => hG.setN hi h6)
  have HIf := Hid.mkI (fun (i : Nat) (hi : i < l.length) (h8 : (nthD l i).kd = 8) => hG.ifN hi h8)
  have HWh := Hid.mkI (fun (i : Nat) (hi : i < l.length) (h9 : (nthD l i).kd = 9) => hG.whlN hi h9)
  have HUp := Hid.mkI (fun (i k : Nat) (hi : i < l.length) (e : abv l i = some k) => ctx_up hp hi e)
  have HAbv := Hid.mkI (fun (i k : Nat) (e : abv l i = some k) => abv_some hp e)
  have HNm := Hid.mkI (fun (i : Nat) (hi : i < l.length) (h5 : (nthD l i).kd < 5) => nm_small hG hi h5)
  have HRS := Hid.mkI (fun (v n : Nat) (hn : n ≤ l.length) => rowP_small hp v n hn)
  have HSS := Hid.mkI (fun (i : Nat) (hi : i < l.length) (h6 : (nthD l i).kd = 6) => stF_small hp hi h6)
  have HAll := Hid.mkI (fun v => rowP_all hp v)
  obtain ⟨n, hn⟩ : ∃ n, l.length = n := ⟨_, rfl⟩
  obtain ⟨S, hS⟩ : ∃ S, nthD l = S := ⟨_, rfl⟩
  have H6 := Hid.mkI (fun (i k : Nat) (h6 : (S i).kd = 6) (hk : (S i).num = (k : Int)) (v : Nat) => rowP_six (l := l) (i := i) (by rw [hS]; exact h6) (by rw [hS]; exact hk) v)
  have HN6 := Hid.mkI (fun (i : Nat) (h6 : (S i).kd ≠ 6) (v : Nat) => rowP_not (l := l) (i := i) (by rw [hS]; exact h6) v)
  have HStF := Hid.mkI (fun (i : Nat) => show stF l i = nm l (S i).pa.toNat ||| ctx l i by rw [← hS]; rfl)
  rw [hn] at hat h80 tN tA HSet HIf HWh HUp HAbv HNm HRS HSS HAll ⊢
  rw [hS] at hat tN HSet HIf HWh HUp HNm HSS
  have h80I : (n : Int) ≤ 80 := by omega
  clear hG hp hn hS
  have hmk : (Instr.makeSlice 23 (.int .i64 6) (.int .i64 6)).run Tryd.prog w = .ok (.slice (some ⟨w.heap.size, 0, none⟩) 6 6) (w.alloc (.cells (madeCells #[.int .i64 0] 6) 3)) := make_any w 6 (by decide)
  have hmd := Own.made w 6
  have hBm : Below w.heap.size w (w.alloc (.cells (madeCells #[.int .i64 0] 6) 3)) := (Below.refl _ w).alloc (Nat.le_refl _) _
  obtain ⟨w1, hw1⟩ : ∃ x, w.alloc (.cells (madeCells #[.int .i64 0] 6) 3) = x := ⟨_, rfl⟩
  rw [hw1] at hmk hmd hBm
  clear hw1
  have hM := Hid.mkI (And.intro hmd.lt hBm.size)
  go_enter Tryd.func9, Tryd.ntmps9
  go_wp2
  go_loopw [4] (fun p wr => ∃ i : Nat, i ≤ n ∧ p = .int .i64 (i : Int) ∧ Hid (Own wr w.heap.size 6 (fun v => rowP l v i)) ∧ Hid (Below w.heap.size w wr)) (fun p _ => n - (intOf p).toNat)
  case atStart => exact ⟨0, by omega, rfl, hmd, hBm⟩
  case round =>
    clear hmd hBm hmk hM
    obtain ⟨i, hi, rfl, HO, HB⟩ := hrel
    by_cases hin : i < n
    · have hiI : (i : Int) < (n : Int) := by omega
      obtain ⟨x, hx⟩ : ∃ x, S i = x := ⟨_, rfl⟩
      obtain ⟨b, off, rfl, hb, z0, z1, z2, z3, z4⟩ := nod_cells5 (hat.below HB.out) hin hx
      by_cases h6 : x.kd = 6
      · obtain ⟨pa, k0, ea, ek, ha, hk0, ka⟩ := HSet.out i hin (by rw [hx]; exact h6)
        have HH6 := Hid.mkI (H6.out i k0 (by rw [hx]; exact h6) ek)
        have HSt := Hid.mkI (HStF.out i)
        have HSz := Hid.mkI (HSS.out i hin (by rw [hx]; exact h6))
        have tNa := tN.out pa (by omega) ka wr HB.out
        have tAb := fun w' k => tA.out i w' k
        have hnz := HNm.out pa (by omega) ka
        rw [ea, Int.toNat_natCast] at HSt
        rw [hx] at ea ek
        have HX := Hid.mkI hx
        obtain ⟨kd, num, pa', pb, pc⟩ := x
        simp only at z0 z1 z2 z3 z4 h6 ea ek
        subst h6; subst ea; subst ek
        obtain ⟨y, hy⟩ : ∃ y, nm l pa = y := ⟨_, rfl⟩
        rw [hy] at tNa HSt hnz
        obtain ⟨R, hR⟩ : ∃ R, abv l i = R := ⟨_, rfl⟩
        rw [hR] at tAb
        have hR' := Hid.mkI hR
        have HY : Hid (y ||| ctx l i = stF l i) := HSt.out.symm
        clear hx hy hR HSt
        go_wp2_with (first | (go_at_call 25; (with_reducible refine tNa.mono ?_); clear tNa; rintro e w2 ⟨rfl, hB2⟩; have HB2 := Hid.mkI (HB.out.trans (hB2.mono HB.out.size)); have HO2 := Hid.mkI (HO.out.below hB2); clear hB2 z0 z1 z2 z3 z4) | (go_at_call 26; (with_reducible refine (tAb _ HB2.out).mono ?_); clear tAb; rintro e w3 ⟨rfl, hB3⟩; have HB3 := Hid.mkI (HB2.out.trans (hB3.mono HB2.out.size)); have HO3 := Hid.mkI (HO2.out.below hB3); clear hB3))
        go_loopw [5, 6] (fun s p wz => ∃ (set : Nat) (j : Nat) (R : Option Nat), set < 2 ^ 6 ∧ j < n ∧ s = .int .i64 (set : Int) ∧ p = .int .i64 (abI R) ∧ Hid (abv l j = R) ∧ Hid (set ||| ctx l j = stF l i) ∧ Hid (Own wz w.heap.size 6 (fun v => rowP l v i)) ∧ Hid (Below w.heap.size w wz)) (fun _ p _ => if intOf p < 0 then 0 else n + 1 - (intOf p).toNat)
        case atStart => exact ⟨y, i, R, hnz, hin, rfl, rfl, hR'.out, HY.out, HO3.out, HB3.out⟩
        case round =>
          clear HB2 HB3 HO2 HO3 HY hR' HO HB hnz
          obtain ⟨set, j, R, hset, hjn, rfl, rfl, HR, HC, HO, HB⟩ := hrel
          cases R with
          | none =>
            have HSe : Hid (set = stF l i) := by
              have := HC.out
              rw [ctx_none HR.out, Nat.or_zero] at this
              exact this
            have hlt1 : (abI none : Int) = -1 := rfl
            obtain ⟨b', off', eb, -, y0, y1, y2, y3, y4⟩ := nod_cells5 (hat.below HB.out) hin HX.out
            obtain ⟨rfl, rfl⟩ : b = b' ∧ off = off' := by cases eb; exact ⟨rfl, rfl⟩
            simp only at y0 y1 y2 y3 y4
            have cM := HO.out.cell k0 hk0
            have fM := HO.out.free k0 hk0
            have hkI : (k0 : Int) < 6 := by omega
            have hrs := HRS.out k0 i hi
            have tE := fun w' => either_any (rowP l k0 i) set (small12 hrs) (small12 hset) w'
            have HNew : Hid (rowP l k0 i ||| set = rowP l k0 (i + 1)) := by show _ = _; rw [HH6.out, if_pos rfl, HSe.out]
            rw [HNew.out] at tE
            obtain ⟨v0, hv0⟩ : ∃ v, rowP l k0 i = v := ⟨_, rfl⟩
            obtain ⟨v1, hv1⟩ : ∃ v, rowP l k0 (i + 1) = v := ⟨_, rfl⟩
            rw [hv0] at cM tE
            rw [hv1] at tE
            have HV1 := Hid.mkI hv1
            have HOx : Hid (∀ q, q < 6 → q ≠ k0 → rowP l q (i + 1) = rowP l q i) := fun q _ hq => by rw [HH6.out, if_neg hq]
            clear eb hv0 hv1 HNew hrs HH6 HC HSe HR HUp HAbv HIf HWh HNm HRS HSS HSet tN tA HSz
            go_wp2
            refine wp_region_still_tail 17 (by kernel_rfl) (by kernel_rfl) ?_
            simp only [List.take_succ_cons, List.take_zero, List.drop_succ_cons, List.drop_zero]
            have HOd := Hid.mkI HO.out.drew'
            have HBd := Hid.mkI HB.out.drew
            have cM : wr.drew.cell? ⟨w.heap.size, k0, none⟩ = some (.int .i64 (v0 : Int)) := cM
            have fM : wr.drew.frozen? ⟨w.heap.size, k0, none⟩ = false := fM
            have y1 : wr.drew.cell? ⟨b, off + i * 5 + 1, none⟩ = some (.int .i64 (k0 : Int)) := y1
            obtain ⟨Wd, hWd⟩ : ∃ x, wr.drew = x := ⟨_, rfl⟩
            have hWd2 : { wr with drawn := wr.drawn + 1 } = Wd := hWd
            rw [hWd] at HOd HBd cM fM y1
            rw [hWd2]
            clear hWd hWd2 HO HB y0 y2 y3 y4
            repeat still_step
            still_call (tE _)
            repeat still_step
            refine wpStill_nil ?_
            go_wp2
            go_roundw
            case rel => exact ⟨i + 1, by omega, by go_num, HOd.out.put hk0 HV1.out HOx.out, HBd.out.setCell (by simp) _⟩
            case measure => simp [intOf]; omega
          | some k =>
            obtain ⟨hkn, hkm, hjk⟩ := HAbv.out j k HR.out
            have HCu := Hid.mkI (HUp.out j k hjn HR.out)
            have hkI : (k : Int) < (n : Int) := by omega
            obtain ⟨xk, hxk⟩ : ∃ x, S k = x := ⟨_, rfl⟩
            obtain ⟨b', off', eb, -, y0, y1, y2, y3, y4⟩ := nod_cells5 (hat.below HB.out) hkn hxk
            obtain ⟨rfl, rfl⟩ : b = b' ∧ off = off' := by cases eb; exact ⟨rfl, rfl⟩
            have hab : abI (some k) = (k : Int) := rfl
            rw [hab]
            obtain ⟨R', hR'⟩ : ∃ R, abv l k = R := ⟨_, rfl⟩
            have tAb := fun w' q => tA.out k w' q
            rw [hR'] at tAb
            have HR2 := Hid.mkI hR'
            have HMs : Hid ((if intOf (.int .i64 (abI R')) < 0 then 0 else n + 1 - (intOf (.int .i64 (abI R'))).toNat) < n + 1 - k) := by
              show _ < _
              cases hq : R' with
              | none => simp [abI, intOf]; omega
              | some k' =>
                have := HAbv.out k k' (by rw [hR', hq])
                show (if (k' : Int) < 0 then 0 else n + 1 - k') < n + 1 - k
                rw [if_neg (by omega)]
                omega
            by_cases h89 : (S k).kd = 8 ∨ (S k).kd = 9
            · have hval : ∃ A : Nat, (S k).pa = (A : Int) ∧ A < n ∧ (S A).kd < 5 := by
                rcases h89 with h8 | h9
                · obtain ⟨A, B, D, eA, -, -, hA, -, -, kA, -⟩ := HIf.out k hkn h8
                  exact ⟨A, eA, by omega, kA⟩
                · obtain ⟨A, B, eA, -, hA, -, kA, -⟩ := HWh.out k hkn h9
                  exact ⟨A, eA, by omega, kA⟩
              obtain ⟨A, eA, hA, kA⟩ := hval
              have hnA := HNm.out A hA kA
              have tNA := tN.out A hA kA wr HB.out
              have HC2 : Hid ((set ||| nm l A) ||| ctx l k = stF l i) := by
                have h := HC.out
                rw [HCu.out, if_pos h89, eA, Int.toNat_natCast, ← Nat.or_assoc] at h
                exact h
              have tE := fun w' => either_any set (nm l A) (small12 hset) (small12 hnA) w'
              have hs2 := or_small hset hnA
              rw [hxk] at eA h89
              obtain ⟨kd, num, pa', pb, pc⟩ := xk
              simp only at y0 y2 eA h89
              subst eA
              obtain ⟨yA, hyA⟩ : ∃ y, nm l A = y := ⟨_, rfl⟩
              rw [hyA] at tNA tE HC2 hs2
              obtain ⟨s2, hse⟩ : ∃ y, set ||| yA = y := ⟨_, rfl⟩
              rw [hse] at tE HC2 hs2
              clear eb hse hyA hnA HCu HC HR HUp HAbv HIf HWh HNm HRS HSS HSet tN tA HSz hR' hxk y1 y3 y4 hkm
              rcases h89 with h8 | h9
              · subst h8
                go_wp2_with (first | (go_at_call 25; (with_reducible refine tNA.mono ?_); clear tNA; rintro e w2 ⟨rfl, hB2⟩; have HB2 := Hid.mkI (HB.out.trans (hB2.mono HB.out.size)); have HO2 := Hid.mkI (HO.out.below hB2); clear hB2 y0 y2) | (go_at_call 27; (with_reducible refine (tE _).mono ?_); clear tE; rintro e w4 ⟨rfl, hw⟩; obtain rfl := hw.symm) | (go_at_call 26; (with_reducible refine (tAb _ HB2.out).mono ?_); clear tAb; rintro e w3 ⟨rfl, hB3⟩; have HB3 := Hid.mkI (HB2.out.trans (hB3.mono HB2.out.size)); have HO3 := Hid.mkI (HO2.out.below hB3); clear hB3))
                go_roundw
                case rel => exact ⟨s2, k, R', hs2, hkn, rfl, rfl, HR2.out, HC2.out, HO3.out, HB3.out⟩
                case measure => exact HMs.out
              · subst h9
                go_wp2_with (first | (go_at_call 25; (with_reducible refine tNA.mono ?_); clear tNA; rintro e w2 ⟨rfl, hB2⟩; have HB2 := Hid.mkI (HB.out.trans (hB2.mono HB.out.size)); have HO2 := Hid.mkI (HO.out.below hB2); clear hB2 y0 y2) | (go_at_call 27; (with_reducible refine (tE _).mono ?_); clear tE; rintro e w4 ⟨rfl, hw⟩; obtain rfl := hw.symm) | (go_at_call 26; (with_reducible refine (tAb _ HB2.out).mono ?_); clear tAb; rintro e w3 ⟨rfl, hB3⟩; have HB3 := Hid.mkI (HB2.out.trans (hB3.mono HB2.out.size)); have HO3 := Hid.mkI (HO2.out.below hB3); clear hB3))
                go_roundw
                case rel => exact ⟨s2, k, R', hs2, hkn, rfl, rfl, HR2.out, HC2.out, HO3.out, HB3.out⟩
                case measure => exact HMs.out
            · have HC2 : Hid (set ||| ctx l k = stF l i) := by
                have h := HC.out
                rw [HCu.out, if_neg h89, Nat.zero_or] at h
                exact h
              rw [hxk, not_or] at h89
              obtain ⟨kd, num, pa', pb, pc⟩ := xk
              simp only at y0 h89
              have h8I : (kd == 8) = false := by simpa using h89.1
              have h9I : (kd == 9) = false := by simpa using h89.2
              clear eb HCu HC HR HUp HAbv HIf HWh HNm HRS HSS HSet tN tA HSz hR' hxk y1 y2 y3 y4 hkm h89
              go_wp2_with (go_at_call 26; (with_reducible refine (tAb _ HB.out).mono ?_); clear tAb; rintro e w3 ⟨rfl, hB3⟩; have HB3 := Hid.mkI (HB.out.trans (hB3.mono HB.out.size)); have HO3 := Hid.mkI (HO.out.below hB3); clear hB3)
              go_roundw
              case rel => exact ⟨set, k, R', hset, hkn, rfl, rfl, HR2.out, HC2.out, HO3.out, HB3.out⟩
              case measure => exact HMs.out
      · have HO2 : Hid (Own wr w.heap.size 6 (fun v => rowP l v (i + 1))) := HO.out.likeF fun v _ => HN6.out i (by rw [hx]; exact h6) v
        have h6I : (x.kd != 6) = true := by simpa using h6
        obtain ⟨kd, num, pa', pb, pc⟩ := x
        simp only at z0 h6I
        clear HUp HAbv HIf HWh HNm HRS HSS HSet tN tA H6 HO h6 hx z1 z2 z3 z4
        go_wp2
        go_roundw
        case rel => exact ⟨i + 1, by omega, by go_num, HO2.out, HB.out⟩
        case measure => simp [intOf]; omega
    · obtain rfl : i = n := by omega
      have tC := fun c => tC.out w.heap.size c wr (HO.out.likeF fun v _ => (HAll.out v).symm)
      clear HUp HAbv HIf HWh HNm HRS HSS HSet tN tA H6 HN6 HO HAll hat
      go_wp2_with (go_at_call 28; (with_reducible refine (tC _).mono ?_); clear tC; rintro e w2 ⟨g, c, rfl, hg, ho, hB2⟩)
      go_ret
      exact ⟨g, c, rfl, Nat.le_trans HB.out.size hg, ho, HB.out.trans (hB2.mono HB.out.size)⟩
end Go.Proofs.YtioimgeeamchaaaDoor
