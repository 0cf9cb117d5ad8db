/- What flows into what, and levels, as the document has them: Names, above, From, Levels, Fits, Least. -/
import Derived.WalkKit
import Derived.LoopTactic
import Derived.OwnWalk
import Derived.Deep.QuietTactic
import Derived.BigQuiet
import Derived.Deep.RegionHeld3
import Derived.Laws.MakeOwn
import Derived.StillTailTactics
import Derived.Maps.AppendAt
import Derived.Test.YtioimgeeamchaaaDoorFloA
import Derived.Test.YtioimgeeamchaaaDoorProP
import Derived.Test.YtioimgeeamchaaaDoorRunB
import Derived.Test.YtioimgeeamchaaaDoorRefs
import Derived.Test.YtioimgeeamchaaaDoorWith
import Derived.Test.YtioimgeeamchaaaDoorRefCl
import Derived.Test.YtioimgeeamchaaaDoorLst
namespace Go.Proofs.YtioimgeeamchaaaDoor
open Go.RowKit
set_option maxRecDepth 100000
set_option linter.unusedVariables false

theorem newNums_keep {w w' : World} {B : Nat} {a : Option Addr} {l : List Int} (h : NewNums w B a l) (k : Below w.heap.size w w') : NewNums w' B a l :=
  h.imp id fun ⟨b, e, hb, hc⟩ => ⟨b, e, hb, fun j v hj => keep_cell k (hc j v hj)⟩
theorem newNums_at {w : World} {B : Nat} {a : Option Addr} {l : List Int} (h : NewNums w B a l) {k : Nat} {v : Int} (hk : l[k]? = some v) : ∃ b, a = some ⟨b, 0, none⟩ ∧ w.cell? ⟨b, k, none⟩ = some (.int .i64 v) := by
  rcases h with h | ⟨b, e, _, hc⟩
  · rw [h] at hk; simp at hk
  · exact ⟨b, e, hc k v hk⟩
theorem small12 {a : Nat} (h : a < 2 ^ 6) : a < 4096 := Nat.lt_trans h (by decide)

set_option maxHeartbeats 4000000 in
theorem rnames_any {l : List Nod} (hG : Good l) {a : Option Addr} {cp : Nat} : ∀ (m i : Nat), i < m → i < l.length → (nthD l i).kd < 5 → ∀ (w : World), AtNods w a l.length (nthD l) →
    Calls Tryd.prog 25 #[.slice a l.length cp, .int .i64 (i : Int)] w fun e w' => e = .returned (.int .i64 (nm l i : Nat)) ∧ Below w.heap.size w w'
  | 0, _, h, _, _, _, _ => absurd h (by omega)
  | m + 1, i, him, hi, h5, w, hat => by
    have hkd := hG.kd hi
    have h80 := hG.r.few
    obtain ⟨x, hx⟩ : ∃ x, nthD l i = x := ⟨_, rfl⟩
    obtain ⟨b, off, rfl, hb, z0, z1, z2, z3, z4⟩ := nod_cells5 hat hi hx
    have hiI : (i : Int) < (l.length : Int) := by omega
    have hnI : (l.length : Int) ≤ 80 := by omega
    by_cases h1 : x.kd = 1
    · obtain ⟨k, ek, hk6⟩ := hG.var hi (.inl (by rw [hx]; exact h1))
      rw [nm_var (by rw [hx]; exact h1), ek, Int.toNat_natCast]
      rw [hx] at ek
      have tP := pow2_any k (by omega) w
      obtain ⟨y, hy⟩ : ∃ y, 2 ^ k = y := ⟨_, rfl⟩
      rw [hy] at tP ⊢
      obtain ⟨kd, num, pa, pb, pc⟩ := x
      simp only at z0 z1 z2 z3 z4 h1 ek
      subst h1; subst ek
      obtain ⟨n, hn⟩ : ∃ n, l.length = n := ⟨_, rfl⟩
      rw [hn] at hiI hnI ⊢
      clear hG hat hx hn hy
      go_enter Tryd.func25, Tryd.ntmps25
      go_wp2_with (go_at_call 40; (with_reducible refine tP.mono ?_); clear tP; rintro e w1 ⟨rfl, hw⟩; obtain rfl := hw.symm)
      go_ret
      exact ⟨rfl, Below.refl _ _⟩
    · have HV := Hid.mkI (fun (k : Nat) (p : Int) (h : (prtL (nthD l i))[k]? = some p) => parts_val hG hi h5 h)
      have HNm := Hid.mkI (nm_orP hG hi h5 (by rw [hx]; exact h1))
      have HR := Hid.mkI (fun (q : Nat) (hq : q < i) (hk : (nthD l q).kd < 5) (w' : World) (k : Below w.heap.size w w') => rnames_any hG (a := some ⟨b, off, none⟩) (cp := cp) m q (by omega) (by omega) hk w' (hat.below k))
      have HS := Hid.mkI (orP_small (l := l) (ps := prtL (nthD l i)) fun j p h => by
        obtain ⟨q, rfl, hq, hk⟩ := HV.out j p h
        rw [Int.toNat_natCast]; exact nm_small hG (by omega) hk)
      rw [hx] at HV HNm HS
      have tP := rparts_any x w
      obtain ⟨pl, hpl⟩ : ∃ pl, prtL x = pl := ⟨_, rfl⟩
      have hp3 : (pl.length : Int) ≤ 3 := by have := prtL_len x; rw [hpl] at this; omega
      rw [hpl] at tP HV HNm HS
      rw [HNm.out]
      have hcI : (x.kd == 1) = false := by simpa using h1
      obtain ⟨kd, num, pa, pb, pc⟩ := x
      simp only at z0 z1 z2 z3 z4 tP hcI
      obtain ⟨n, hn⟩ : ∃ n, l.length = n := ⟨_, rfl⟩
      rw [hn] at hiI hnI HR ⊢
      clear hG hat hx hpl hn HNm h1 h5 hkd him hi hb
      go_enter Tryd.func25, Tryd.ntmps25
      go_wp2_with (go_at_call 23; (with_reducible refine tP.mono ?_); clear tP; rintro e w1 ⟨a2, c2, rfl, hN, hB1⟩)
      have HN1 := Hid.mkI hN
      have HB1 := Hid.mkI hB1
      clear hN hB1
      go_loopw [5, 7] (fun s p wr => ∃ k : Nat, k ≤ pl.length ∧ s = .int .i64 (orP l pl k : Nat) ∧ p = .int .i64 (k : Int) ∧ Hid (Below w.heap.size w wr) ∧ Hid (NewNums wr (w.heap.size + 1) a2 pl)) (fun _ p _ => pl.length - (intOf p).toNat)
      case atStart => exact ⟨0, by omega, rfl, rfl, HB1, HN1⟩
      case round =>
        clear HB1 HN1
        obtain ⟨k, hk, rfl, rfl, HB, HN⟩ := hrel
        by_cases hkt : k < pl.length
        · have hkI : (k : Int) < (pl.length : Int) := by omega
          obtain ⟨P, hPk⟩ : ∃ P, pl[k]? = some P := ⟨_, List.getElem?_eq_getElem hkt⟩
          obtain ⟨b2, rfl, cP⟩ := newNums_at HN.out hPk
          obtain ⟨q, rfl, hq, hk5⟩ := HV.out k P hPk
          have tN := HR.out q hq hk5 wr HB.out
          have tE := fun w' => either_any (orP l pl k) (nm l q) (small12 (HS.out k hk)) (by have := HS.out (k + 1) (by omega); rw [orP, List.getD_eq_getElem?_getD, hPk] at this; exact small12 (Nat.lt_of_le_of_lt (Nat.right_le_or) this)) w'
          have HE : Hid (orP l pl k ||| nm l q = orP l pl (k + 1)) := by show _ = _; rw [orP, List.getD_eq_getElem?_getD, hPk]; rfl
          rw [HE.out] at tE
          obtain ⟨y0, hy0⟩ : ∃ y, orP l pl k = y := ⟨_, rfl⟩
          obtain ⟨y1, hy1⟩ : ∃ y, nm l q = y := ⟨_, rfl⟩
          obtain ⟨y2, hy2⟩ : ∃ y, orP l pl (k + 1) = y := ⟨_, rfl⟩
          rw [hy0, hy1, hy2] at tE
          rw [hy1] at tN
          rw [hy0]
          have HY := Hid.mkI hy2
          clear hy0 hy1 hy2 HE hPk
          go_wp2_with (first | (go_at_call 25; (with_reducible refine tN.mono ?_); clear tN; rintro e w2 ⟨rfl, hB2⟩; have HB2 := Hid.mkI (HB.out.trans (hB2.mono HB.out.size)); have HN2 := Hid.mkI (newNums_keep HN.out hB2)) | (go_at_call 27; (with_reducible refine (tE _).mono ?_); clear tE; rintro e w3 ⟨rfl, hw⟩; obtain rfl := hw.symm))
          go_roundw
          case rel => exact ⟨k + 1, by omega, by rw [HY.out], by go_num, HB2, HN2⟩
          case measure => simp [intOf]; omega
        · obtain rfl : k = pl.length := by omega
          go_wp2
          go_ret
          exact ⟨rfl, HB.out⟩
/-- Which node is the first from k on of which one is a deed. -/
def abvK (l : List Nod) (i : Int) (k : Nat) : Option Nat := ((List.range l.length).drop k).find? fun k => decide (i ∈ dpt (nthD l k))
theorem range_drop {n k : Nat} (h : k < n) : (List.range n).drop k = k :: (List.range n).drop (k + 1) := by
  rw [List.drop_eq_getElem_cons (by simpa using h)]
  simp
theorem abvK_yes {l : List Nod} {i : Int} {k : Nat} (hk : k < l.length) (h : i ∈ dpt (nthD l k)) : abvK l i k = some k := by
  unfold abvK
  rw [range_drop hk, List.find?_cons_of_pos (by simpa using h)]
theorem abvK_no {l : List Nod} {i : Int} {k : Nat} (hk : k < l.length) (h : ¬ i ∈ dpt (nthD l k)) : abvK l i k = abvK l i (k + 1) := by
  unfold abvK
  rw [range_drop hk, List.find?_cons_of_neg (by simpa using h)]
theorem abvK_end (l : List Nod) (i : Int) : abvK l i l.length = none := by
  unfold abvK
  rw [List.drop_of_length_le (by simp)]; rfl
set_option maxHeartbeats 8000000 in
theorem rabove_any {l : List Nod} {a : Option Addr} {cp : Nat} (i : Nat) (w : World) (h80 : l.length ≤ 80) (hat : AtNods w a l.length (nthD l)) :
    Calls Tryd.prog 26 #[.slice a l.length cp, .int .i64 (i : Int)] w fun e w' => e = .returned (.int .i64 (abI (abv l i))) ∧ Below w.heap.size w w' := by
  have hR : abvK l (i : Int) 0 = abv l i := rfl
  have HY := Hid.mkI (fun (k : Nat) (hk : k < l.length) (h : (i : Int) ∈ dpt (nthD l k)) => abvK_yes hk h)
  have HNo := Hid.mkI (fun (k : Nat) (hk : k < l.length) (h : ¬ (i : Int) ∈ dpt (nthD l k)) => abvK_no hk h)
  have HEnd := Hid.mkI (abvK_end l (i : Int))
  obtain ⟨R, hRe⟩ : ∃ R, abv l i = R := ⟨_, rfl⟩
  rw [hRe] at hR ⊢
  have HR := Hid.mkI hR
  have HD := Hid.mkI (fun (k : Nat) => dpt_iff (nthD l k) (i : Int))
  obtain ⟨S, hS⟩ : ∃ S, nthD l = S := ⟨_, rfl⟩
  obtain ⟨n, hn⟩ : ∃ n, l.length = n := ⟨_, rfl⟩
  rw [hS] at hat
  rw [hn] at hat HY HNo HEnd h80 ⊢
  rw [hS] at HY HNo HD
  have h80I : (n : Int) ≤ 80 := by omega
  clear hR hRe hS hn
  go_enter Tryd.func26, Tryd.ntmps26
  go_wp2
  go_loopw [5] (fun p wr => ∃ k : Nat, k ≤ n ∧ p = .int .i64 (k : Int) ∧ Hid (abvK l (i : Int) k = R) ∧ Hid (Below w.heap.size w wr)) (fun p _ => n - (intOf p).toNat)
  case atStart => exact ⟨0, by omega, rfl, HR.out, Below.refl _ _⟩
  case round =>
    clear HR
    obtain ⟨k, hk, rfl, HR, HB⟩ := hrel
    by_cases hkn : k < n
    · have hkI : (k : Int) < (n : Int) := by omega
      obtain ⟨x, hx⟩ : ∃ x, S k = x := ⟨_, rfl⟩
      obtain ⟨b, off, rfl, hb, z0, z1, z2, z3, z4⟩ := nod_cells5 (hat.below HB.out) hkn hx
      have HYk := Hid.mkI (HY.out k hkn)
      have HNk := Hid.mkI (HNo.out k hkn)
      have HDk := Hid.mkI (HD.out k)
      rw [hx] at HYk HNk HDk
      have tP := rparts_any x wr
      obtain ⟨pl, hpl⟩ : ∃ pl, prtL x = pl := ⟨_, rfl⟩
      have hp3 : (pl.length : Int) ≤ 3 := by have := prtL_len x; rw [hpl] at this; omega
      rw [hpl] at tP HDk
      have tV := fun j w' => rval_any x.kd j w'
      have HX := Hid.mkI hx
      clear hpl hx
      obtain ⟨kd, num, pa, pb, pc⟩ := x
      simp only at z0 z1 z2 z3 z4 tP tV
      go_wp2_with (go_at_call 23; (with_reducible refine tP.mono ?_); clear tP; rintro e w1 ⟨a2, c2, rfl, hN, hB1⟩)
      have HB1 := Hid.mkI (HB.out.trans (hB1.mono HB.out.size))
      have HN1 := Hid.mkI hN
      clear hN hB1 z0 z1 z2 z3 z4
      go_loopw [7] (fun p wz => ∃ j : Nat, j ≤ pl.length ∧ p = .int .i64 (j : Int) ∧ Hid (∀ q, q < j → ∀ v, pl[q]? = some v → ¬ (v = (i : Int) ∧ valB kd q = false)) ∧ Hid (Below w.heap.size w wz) ∧ Hid (NewNums wz (wr.heap.size + 1) a2 pl)) (fun p _ => pl.length - (intOf p).toNat)
      case atStart => exact ⟨0, by omega, rfl, fun q hq => absurd hq (by omega), HB1, HN1⟩
      case round =>
        clear HB1 HN1
        obtain ⟨j, hj, rfl, HQ, HB2, HN⟩ := hrel
        by_cases hjt : j < pl.length
        · have hjI : (j : Int) < (pl.length : Int) := by omega
          obtain ⟨P, hPk⟩ : ∃ P, pl[j]? = some P := ⟨_, List.getElem?_eq_getElem hjt⟩
          obtain ⟨b2, rfl, cP⟩ := newNums_at HN.out hPk
          obtain ⟨b', off', eb, -, z0, -, -, -, -⟩ := nod_cells5 (hat.below HB2.out) hkn HX.out
          obtain ⟨rfl, rfl⟩ : b = b' ∧ off = off' := by cases eb; exact ⟨rfl, rfl⟩
          have HPk := Hid.mkI hPk
          have tV := tV j
          clear eb hPk
          simp only at z0
          by_cases hPi : P = (i : Int)
          · subst hPi
            cases hv : valB kd j with
            | false =>
              rw [hv] at tV
              have HE : Hid (R = some k) := by
                show _ = _
                rw [← HR.out]
                exact HYk.out (HDk.out.2 ⟨j, HPk.out, hv⟩)
              clear HYk HNk HDk HQ HR hv
              go_wp2_with (go_at_call 24; (with_reducible refine (tV _).mono ?_); clear tV; rintro e w2 ⟨rfl, hw⟩; obtain rfl := hw.symm)
              go_ret
              rw [HE.out]
              exact ⟨rfl, HB2.out⟩
            | true =>
              rw [hv] at tV
              have HQ2 : Hid (∀ q, q < j + 1 → ∀ v, pl[q]? = some v → ¬ (v = (i : Int) ∧ valB kd q = false)) := fun q hq v hv2 hc => by
                by_cases e : q = j
                · subst e; rw [hv] at hc; cases hc.2
                · exact HQ.out q (by omega) v hv2 hc
              clear HYk HNk HDk HQ HR hv
              go_wp2_with (go_at_call 24; (with_reducible refine (tV _).mono ?_); clear tV; rintro e w2 ⟨rfl, hw⟩; obtain rfl := hw.symm)
              go_roundw
              case rel => exact ⟨j + 1, by omega, by go_num, HQ2, HB2, HN⟩
              case measure => simp [intOf]; omega
          · have hcI : (P == (i : Int)) = false := by simpa using hPi
            have HQ2 : Hid (∀ q, q < j + 1 → ∀ v, pl[q]? = some v → ¬ (v = (i : Int) ∧ valB kd q = false)) := fun q hq v hv2 hc => by
              by_cases e : q = j
              · subst e; rw [HPk.out] at hv2; cases hv2; exact hPi hc.1
              · exact HQ.out q (by omega) v hv2 hc
            clear HYk HNk HDk HQ HR tV hPi
            go_wp2
            go_roundw
            case rel => exact ⟨j + 1, by omega, by go_num, HQ2, HB2, HN⟩
            case measure => simp [intOf]; omega
        · obtain rfl : j = pl.length := by omega
          have HR2 : Hid (abvK l (i : Int) (k + 1) = R) := by
            show _ = _
            rw [← HNk.out fun hm => ?_]
            · exact HR.out
            · obtain ⟨q, hq, hv⟩ := HDk.out.1 hm
              have hlt : q < pl.length := by
                rcases Nat.lt_or_ge q pl.length with c | c
                · exact c
                · rw [List.getElem?_eq_none c] at hq; cases hq
              exact HQ.out q hlt _ hq ⟨rfl, hv⟩
          clear HYk HNk HDk HQ HR tV
          go_wp2
          go_roundw
          case rel => exact ⟨k + 1, by omega, by go_num, HR2, HB2⟩
          case measure => simp [intOf]; omega
    · obtain rfl : k = n := by omega
      have HE : Hid (R = none) := by show _ = _; rw [← HR.out, HEnd.out]
      go_wp2
      go_ret
      rw [HE.out]
      exact ⟨rfl, HB.out⟩

theorem Own.drew' {w : World} {B m : Nat} {f : Nat → Nat} (h : Own w B m f) : Own w.drew B m f := ⟨h.lt, h.cell, h.free⟩
theorem Own.likeF {w : World} {B m : Nat} {f g : Nat → Nat} (h : Own w B m f) (e : ∀ j, j < m → g j = f j) : Own w B m g := ⟨h.lt, fun j hj => by rw [e j hj]; exact h.cell j hj, h.free⟩
theorem rowP_six {l : List Nod} {i k : Nat} (h6 : (nthD l i).kd = 6) (hk : (nthD l i).num = (k : Int)) (v : Nat) : rowP l v (i + 1) = if v = k then rowP l v i ||| stF l i else rowP l v i := by
  rw [rowP, hk, Int.toNat_natCast]
  by_cases e : v = k
  · rw [if_pos ⟨h6, e.symm⟩, if_pos e]
  · rw [if_neg (fun q => e q.2.symm), if_neg e]
theorem rowP_not {l : List Nod} {i : Nat} (h6 : (nthD l i).kd ≠ 6) (v : Nat) : rowP l v (i + 1) = rowP l v i := by rw [rowP, if_neg (fun q => h6 q.1)]
theorem stF_small {l : List Nod} (h : proC l = 0) {i : Nat} (hi : i < l.length) (h6 : (nthD l i).kd = 6) : stF l i < 2 ^ 6 := by
  obtain ⟨a, k0, ea, ek, ha, hk0, ka⟩ := (good_of h).setN hi h6
  unfold stF
  rw [ea, Int.toNat_natCast]
  exact or_small (nm_small (good_of h) (by omega) ka) (ctx_small h _ _)
theorem rowP_small {l : List Nod} (h : proC l = 0) (v : Nat) : ∀ n, n ≤ l.length → rowP l v n < 2 ^ 6
  | 0, _ => show 0 < 2 ^ 6 by decide
  | n + 1, hn => by
    rw [rowP]
    split
    · rename_i q
      exact or_small (rowP_small h v n (by omega)) (stF_small h (by omega) q.1)
    · exact rowP_small h v n (by omega)
theorem or_into {a b c d : Nat} (h : a ||| b = d) (e : b = c) : a ||| c = d := by rw [← e]; exact h
set_option maxHeartbeats 8000000 in
theorem rfrom_any {l : List Nod} (hp : proC l = 0) (a : Option Addr) (cp : Nat) (w : World) (hat : AtNods w a l.length (nthD l)) :
    Calls Tryd.prog 9 #[.slice a l.length cp] w fun e w' => ∃ g c, e = .returned (.slice (some ⟨g, 0, none⟩) 6 c) ∧ w.heap.size ≤ g ∧ Hid (Own w' g 6 (comF l)) ∧ Below w.heap.size w w' := by
  have hG := good_of hp
  have h80 := hG.r.few
  have tN := Hid.mkI (fun (i : Nat) (hi : i < l.length) (h5 : (nthD l i).kd < 5) (w' : World) (k : Below w.heap.size w w') => rnames_any hG (a := a) (cp := cp) (i + 1) i (Nat.lt_succ_self _) hi h5 w' (hat.below k))
  have tA := Hid.mkI (fun (i : Nat) (w' : World) (k : Below w.heap.size w w') => rabove_any (a := a) (cp := cp) i w' h80 (hat.below k))
  have tC := Hid.mkI (fun (g c : Nat) (w' : World) (h : Own w' g 6 (fun v => rowF l v)) => refClosure_some g 0 6 c (rowsF l) (rowsF_right hG) (by decide) w' (h.lies fun j hj => rowsF_get l hj))
  have HSet := Hid.mkI (fun (i : Nat) (hi : i < l.length) (h6 : (nthD l i).kd = 6) => hG.setN hi h6)
  have HIf := Hid.mkI (fun (i : Nat) (hi : i < l.length) (h8 : (nthD l i).kd = 8) => hG.ifN hi h8)
  have HWh := Hid.mkI (fun (i : Nat) (hi : i < l.length) (h9 : (nthD l i).kd = 9) => hG.whlN hi h9)
  have HUp := Hid.mkI (fun (i k : Nat) (hi : i < l.length) (e : abv l i = some k) => ctx_up hp hi e)
  have HAbv := Hid.mkI (fun (i k : Nat) (e : abv l i = some k) => abv_some hp e)
  have HNm := Hid.mkI (fun (i : Nat) (hi : i < l.length) (h5 : (nthD l i).kd < 5) => nm_small hG hi h5)
  have HRS := Hid.mkI (fun (v n : Nat) (hn : n ≤ l.length) => rowP_small hp v n hn)
  have HSS := Hid.mkI (fun (i : Nat) (hi : i < l.length) (h6 : (nthD l i).kd = 6) => stF_small hp hi h6)
  have HAll := Hid.mkI (fun v => rowP_all hp v)
  obtain ⟨n, hn⟩ : ∃ n, l.length = n := ⟨_, rfl⟩
  obtain ⟨S, hS⟩ : ∃ S, nthD l = S := ⟨_, rfl⟩
  have H6 := Hid.mkI (fun (i k : Nat) (h6 : (S i).kd = 6) (hk : (S i).num = (k : Int)) (v : Nat) => rowP_six (l := l) (i := i) (by rw [hS]; exact h6) (by rw [hS]; exact hk) v)
  have HN6 := Hid.mkI (fun (i : Nat) (h6 : (S i).kd ≠ 6) (v : Nat) => rowP_not (l := l) (i := i) (by rw [hS]; exact h6) v)
  have HStF := Hid.mkI (fun (i : Nat) => show stF l i = nm l (S i).pa.toNat ||| ctx l i by rw [← hS]; rfl)
  rw [hn] at hat h80 tN tA HSet HIf HWh HUp HAbv HNm HRS HSS HAll ⊢
  rw [hS] at hat tN HSet HIf HWh HUp HNm HSS
  have h80I : (n : Int) ≤ 80 := by omega
  clear hG hp hn hS
  have hmk : (Instr.makeSlice 23 (.int .i64 6) (.int .i64 6)).run Tryd.prog w = .ok (.slice (some ⟨w.heap.size, 0, none⟩) 6 6) (w.alloc (.cells (madeCells #[.int .i64 0] 6) 3)) := make_any w 6 (by decide)
  have hmd := Own.made w 6
  have hBm : Below w.heap.size w (w.alloc (.cells (madeCells #[.int .i64 0] 6) 3)) := (Below.refl _ w).alloc (Nat.le_refl _) _
  obtain ⟨w1, hw1⟩ : ∃ x, w.alloc (.cells (madeCells #[.int .i64 0] 6) 3) = x := ⟨_, rfl⟩
  rw [hw1] at hmk hmd hBm
  clear hw1
  have hM := Hid.mkI (And.intro hmd.lt hBm.size)
  go_enter Tryd.func9, Tryd.ntmps9
  go_wp2
  go_loopw [4] (fun p wr => ∃ i : Nat, i ≤ n ∧ p = .int .i64 (i : Int) ∧ Hid (Own wr w.heap.size 6 (fun v => rowP l v i)) ∧ Hid (Below w.heap.size w wr)) (fun p _ => n - (intOf p).toNat)
  case atStart => exact ⟨0, by omega, rfl, hmd, hBm⟩
  case round =>
    clear hmd hBm hmk hM
    obtain ⟨i, hi, rfl, HO, HB⟩ := hrel
    by_cases hin : i < n
    · have hiI : (i : Int) < (n : Int) := by omega
      obtain ⟨x, hx⟩ : ∃ x, S i = x := ⟨_, rfl⟩
      obtain ⟨b, off, rfl, hb, z0, z1, z2, z3, z4⟩ := nod_cells5 (hat.below HB.out) hin hx
      by_cases h6 : x.kd = 6
      · obtain ⟨pa, k0, ea, ek, ha, hk0, ka⟩ := HSet.out i hin (by rw [hx]; exact h6)
        have HH6 := Hid.mkI (H6.out i k0 (by rw [hx]; exact h6) ek)
        have HSt := Hid.mkI (HStF.out i)
        have HSz := Hid.mkI (HSS.out i hin (by rw [hx]; exact h6))
        have tNa := tN.out pa (by omega) ka wr HB.out
        have tAb := fun w' k => tA.out i w' k
        have hnz := HNm.out pa (by omega) ka
        rw [ea, Int.toNat_natCast] at HSt
        rw [hx] at ea ek
        have HX := Hid.mkI hx
        obtain ⟨kd, num, pa', pb, pc⟩ := x
        simp only at z0 z1 z2 z3 z4 h6 ea ek
        subst h6; subst ea; subst ek
        obtain ⟨y, hy⟩ : ∃ y, nm l pa = y := ⟨_, rfl⟩
        rw [hy] at tNa HSt hnz
        obtain ⟨R, hR⟩ : ∃ R, abv l i = R := ⟨_, rfl⟩
        rw [hR] at tAb
        have hR' := Hid.mkI hR
        have HY : Hid (y ||| ctx l i = stF l i) := HSt.out.symm
        clear hx hy hR HSt
        go_wp2_with (first | (go_at_call 25; (with_reducible refine tNa.mono ?_); clear tNa; rintro e w2 ⟨rfl, hB2⟩; have HB2 := Hid.mkI (HB.out.trans (hB2.mono HB.out.size)); have HO2 := Hid.mkI (HO.out.below hB2); clear hB2 z0 z1 z2 z3 z4) | (go_at_call 26; (with_reducible refine (tAb _ HB2.out).mono ?_); clear tAb; rintro e w3 ⟨rfl, hB3⟩; have HB3 := Hid.mkI (HB2.out.trans (hB3.mono HB2.out.size)); have HO3 := Hid.mkI (HO2.out.below hB3); clear hB3))
        go_loopw [5, 6] (fun s p wz => ∃ (set : Nat) (j : Nat) (R : Option Nat), set < 2 ^ 6 ∧ j < n ∧ s = .int .i64 (set : Int) ∧ p = .int .i64 (abI R) ∧ Hid (abv l j = R) ∧ Hid (set ||| ctx l j = stF l i) ∧ Hid (Own wz w.heap.size 6 (fun v => rowP l v i)) ∧ Hid (Below w.heap.size w wz)) (fun _ p _ => if intOf p < 0 then 0 else n + 1 - (intOf p).toNat)
        case atStart => exact ⟨y, i, R, hnz, hin, rfl, rfl, hR'.out, HY.out, HO3.out, HB3.out⟩
        case round =>
          clear HB2 HB3 HO2 HO3 HY hR' HO HB hnz
          obtain ⟨set, j, R, hset, hjn, rfl, rfl, HR, HC, HO, HB⟩ := hrel
          cases R with
          | none =>
            have HSe : Hid (set = stF l i) := by
              have := HC.out
              rw [ctx_none HR.out, Nat.or_zero] at this
              exact this
            have hlt1 : (abI none : Int) = -1 := rfl
            obtain ⟨b', off', eb, -, y0, y1, y2, y3, y4⟩ := nod_cells5 (hat.below HB.out) hin HX.out
            obtain ⟨rfl, rfl⟩ : b = b' ∧ off = off' := by cases eb; exact ⟨rfl, rfl⟩
            simp only at y0 y1 y2 y3 y4
            have cM := HO.out.cell k0 hk0
            have fM := HO.out.free k0 hk0
            have hkI : (k0 : Int) < 6 := by omega
            have hrs := HRS.out k0 i hi
            have tE := fun w' => either_any (rowP l k0 i) set (small12 hrs) (small12 hset) w'
            have HNew : Hid (rowP l k0 i ||| set = rowP l k0 (i + 1)) := by show _ = _; rw [HH6.out, if_pos rfl, HSe.out]
            rw [HNew.out] at tE
            obtain ⟨v0, hv0⟩ : ∃ v, rowP l k0 i = v := ⟨_, rfl⟩
            obtain ⟨v1, hv1⟩ : ∃ v, rowP l k0 (i + 1) = v := ⟨_, rfl⟩
            rw [hv0] at cM tE
            rw [hv1] at tE
            have HV1 := Hid.mkI hv1
            have HOx : Hid (∀ q, q < 6 → q ≠ k0 → rowP l q (i + 1) = rowP l q i) := fun q _ hq => by rw [HH6.out, if_neg hq]
            clear eb hv0 hv1 HNew hrs HH6 HC HSe HR HUp HAbv HIf HWh HNm HRS HSS HSet tN tA HSz
            go_wp2
            refine wp_region_still_tail 17 (by kernel_rfl) (by kernel_rfl) ?_
            simp only [List.take_succ_cons, List.take_zero, List.drop_succ_cons, List.drop_zero]
            have HOd := Hid.mkI HO.out.drew'
            have HBd := Hid.mkI HB.out.drew
            have cM : wr.drew.cell? ⟨w.heap.size, k0, none⟩ = some (.int .i64 (v0 : Int)) := cM
            have fM : wr.drew.frozen? ⟨w.heap.size, k0, none⟩ = false := fM
            have y1 : wr.drew.cell? ⟨b, off + i * 5 + 1, none⟩ = some (.int .i64 (k0 : Int)) := y1
            obtain ⟨Wd, hWd⟩ : ∃ x, wr.drew = x := ⟨_, rfl⟩
            have hWd2 : { wr with drawn := wr.drawn + 1 } = Wd := hWd
            rw [hWd] at HOd HBd cM fM y1
            rw [hWd2]
            clear hWd hWd2 HO HB y0 y2 y3 y4
            repeat still_step
            still_call (tE _)
            repeat still_step
            refine wpStill_nil ?_
            go_wp2
            go_roundw
            case rel => exact ⟨i + 1, by omega, by go_num, HOd.out.put hk0 HV1.out HOx.out, HBd.out.setCell (by simp) _⟩
            case measure => simp [intOf]; omega
          | some k =>
            obtain ⟨hkn, hkm, hjk⟩ := HAbv.out j k HR.out
            have HCu := Hid.mkI (HUp.out j k hjn HR.out)
            have hkI : (k : Int) < (n : Int) := by omega
            obtain ⟨xk, hxk⟩ : ∃ x, S k = x := ⟨_, rfl⟩
            obtain ⟨b', off', eb, -, y0, y1, y2, y3, y4⟩ := nod_cells5 (hat.below HB.out) hkn hxk
            obtain ⟨rfl, rfl⟩ : b = b' ∧ off = off' := by cases eb; exact ⟨rfl, rfl⟩
            have hab : abI (some k) = (k : Int) := rfl
            rw [hab]
            obtain ⟨R', hR'⟩ : ∃ R, abv l k = R := ⟨_, rfl⟩
            have tAb := fun w' q => tA.out k w' q
            rw [hR'] at tAb
            have HR2 := Hid.mkI hR'
            have HMs : Hid ((if intOf (.int .i64 (abI R')) < 0 then 0 else n + 1 - (intOf (.int .i64 (abI R'))).toNat) < n + 1 - k) := by
              show _ < _
              cases hq : R' with
              | none => simp [abI, intOf]; omega
              | some k' =>
                have := HAbv.out k k' (by rw [hR', hq])
                show (if (k' : Int) < 0 then 0 else n + 1 - k') < n + 1 - k
                rw [if_neg (by omega)]
                omega
            by_cases h89 : (S k).kd = 8 ∨ (S k).kd = 9
            · have hval : ∃ A : Nat, (S k).pa = (A : Int) ∧ A < n ∧ (S A).kd < 5 := by
                rcases h89 with h8 | h9
                · obtain ⟨A, B, D, eA, -, -, hA, -, -, kA, -⟩ := HIf.out k hkn h8
                  exact ⟨A, eA, by omega, kA⟩
                · obtain ⟨A, B, eA, -, hA, -, kA, -⟩ := HWh.out k hkn h9
                  exact ⟨A, eA, by omega, kA⟩
              obtain ⟨A, eA, hA, kA⟩ := hval
              have hnA := HNm.out A hA kA
              have tNA := tN.out A hA kA wr HB.out
              have HC2 : Hid ((set ||| nm l A) ||| ctx l k = stF l i) := by
                have h := HC.out
                rw [HCu.out, if_pos h89, eA, Int.toNat_natCast, ← Nat.or_assoc] at h
                exact h
              have tE := fun w' => either_any set (nm l A) (small12 hset) (small12 hnA) w'
              have hs2 := or_small hset hnA
              rw [hxk] at eA h89
              obtain ⟨kd, num, pa', pb, pc⟩ := xk
              simp only at y0 y2 eA h89
              subst eA
              obtain ⟨yA, hyA⟩ : ∃ y, nm l A = y := ⟨_, rfl⟩
              rw [hyA] at tNA tE HC2 hs2
              obtain ⟨s2, hse⟩ : ∃ y, set ||| yA = y := ⟨_, rfl⟩
              rw [hse] at tE HC2 hs2
              clear eb hse hyA hnA HCu HC HR HUp HAbv HIf HWh HNm HRS HSS HSet tN tA HSz hR' hxk y1 y3 y4 hkm
              rcases h89 with h8 | h9
              · subst h8
                go_wp2_with (first | (go_at_call 25; (with_reducible refine tNA.mono ?_); clear tNA; rintro e w2 ⟨rfl, hB2⟩; have HB2 := Hid.mkI (HB.out.trans (hB2.mono HB.out.size)); have HO2 := Hid.mkI (HO.out.below hB2); clear hB2 y0 y2) | (go_at_call 27; (with_reducible refine (tE _).mono ?_); clear tE; rintro e w4 ⟨rfl, hw⟩; obtain rfl := hw.symm) | (go_at_call 26; (with_reducible refine (tAb _ HB2.out).mono ?_); clear tAb; rintro e w3 ⟨rfl, hB3⟩; have HB3 := Hid.mkI (HB2.out.trans (hB3.mono HB2.out.size)); have HO3 := Hid.mkI (HO2.out.below hB3); clear hB3))
                go_roundw
                case rel => exact ⟨s2, k, R', hs2, hkn, rfl, rfl, HR2.out, HC2.out, HO3.out, HB3.out⟩
                case measure => exact HMs.out
              · subst h9
                go_wp2_with (first | (go_at_call 25; (with_reducible refine tNA.mono ?_); clear tNA; rintro e w2 ⟨rfl, hB2⟩; have HB2 := Hid.mkI (HB.out.trans (hB2.mono HB.out.size)); have HO2 := Hid.mkI (HO.out.below hB2); clear hB2 y0 y2) | (go_at_call 27; (with_reducible refine (tE _).mono ?_); clear tE; rintro e w4 ⟨rfl, hw⟩; obtain rfl := hw.symm) | (go_at_call 26; (with_reducible refine (tAb _ HB2.out).mono ?_); clear tAb; rintro e w3 ⟨rfl, hB3⟩; have HB3 := Hid.mkI (HB2.out.trans (hB3.mono HB2.out.size)); have HO3 := Hid.mkI (HO2.out.below hB3); clear hB3))
                go_roundw
                case rel => exact ⟨s2, k, R', hs2, hkn, rfl, rfl, HR2.out, HC2.out, HO3.out, HB3.out⟩
                case measure => exact HMs.out
            · have HC2 : Hid (set ||| ctx l k = stF l i) := by
                have h := HC.out
                rw [HCu.out, if_neg h89, Nat.zero_or] at h
                exact h
              rw [hxk, not_or] at h89
              obtain ⟨kd, num, pa', pb, pc⟩ := xk
              simp only at y0 h89
              have h8I : (kd == 8) = false := by simpa using h89.1
              have h9I : (kd == 9) = false := by simpa using h89.2
              clear eb HCu HC HR HUp HAbv HIf HWh HNm HRS HSS HSet tN tA HSz hR' hxk y1 y2 y3 y4 hkm h89
              go_wp2_with (go_at_call 26; (with_reducible refine (tAb _ HB.out).mono ?_); clear tAb; rintro e w3 ⟨rfl, hB3⟩; have HB3 := Hid.mkI (HB.out.trans (hB3.mono HB.out.size)); have HO3 := Hid.mkI (HO.out.below hB3); clear hB3)
              go_roundw
              case rel => exact ⟨set, k, R', hset, hkn, rfl, rfl, HR2.out, HC2.out, HO3.out, HB3.out⟩
              case measure => exact HMs.out
      · have HO2 : Hid (Own wr w.heap.size 6 (fun v => rowP l v (i + 1))) := HO.out.likeF fun v _ => HN6.out i (by rw [hx]; exact h6) v
        have h6I : (x.kd != 6) = true := by simpa using h6
        obtain ⟨kd, num, pa', pb, pc⟩ := x
        simp only at z0 h6I
        clear HUp HAbv HIf HWh HNm HRS HSS HSet tN tA H6 HO h6 hx z1 z2 z3 z4
        go_wp2
        go_roundw
        case rel => exact ⟨i + 1, by omega, by go_num, HO2.out, HB.out⟩
        case measure => simp [intOf]; omega
    · obtain rfl : i = n := by omega
      have tC := fun c => tC.out w.heap.size c wr (HO.out.likeF fun v _ => (HAll.out v).symm)
      clear HUp HAbv HIf HWh HNm HRS HSS HSet tN tA H6 HN6 HO HAll hat
      go_wp2_with (go_at_call 28; (with_reducible refine (tC _).mono ?_); clear tC; rintro e w2 ⟨g, c, rfl, hg, ho, hB2⟩)
      go_ret
      exact ⟨g, c, rfl, Nat.le_trans HB.out.size hg, ho, HB.out.trans (hB2.mono HB.out.size)⟩

theorem Own.drawnF {w : World} {B m : Nat} {f : Nat → Nat} (h : Own w B m f) (k : Nat) : Own (w.drewN k) B m f := ⟨h.lt, h.cell, h.free⟩
/-- A list of six lies somewhere. -/
theorem lst_six_at {w : World} {v : Value} {n : Nat} {f : Nat → Int} (h : Lst w v n f) (h0 : 0 < n) : ∃ b off cp, v = .slice (some ⟨b, off, none⟩) n cp ∧ b < w.heap.size ∧ ∀ i, i < n → w.cell? ⟨b, off + i, none⟩ = some (.int .i64 (f i)) := by
  obtain ⟨a, cp, rfl, h⟩ := h
  obtain ⟨b, off, rfl, hb, hc⟩ := h.resolve_left (by omega)
  exact ⟨b, off, cp, rfl, hb, hc⟩
theorem rlevels_any (v : Value) (n : Nat) (lv : Nat → Int) (low : Int) (w : World) (hl : Lst w v n lv) :
    Calls Tryd.prog 10 #[v, .int .i64 low] w fun e w' => e = .returned (.int .i64 (levC n lv low)) ∧ w' = w := by
  by_cases hn : n = 6
  · subst hn
    obtain ⟨b, off, cp, rfl, hb, hc⟩ := lst_six_at hl (by decide)
    have HBad := Hid.mkI (fun (j : Nat) (hj : j < 6) (h : lv j < low ∨ 7 < lv j) => levC_bad hj h)
    have HFine := Hid.mkI (fun (h : ∀ j, j < 6 → low ≤ lv j ∧ lv j ≤ 7) => levC_fine h)
    obtain ⟨c, hcc⟩ : ∃ c, levC 6 lv low = c := ⟨_, rfl⟩
    rw [hcc] at HBad HFine ⊢
    have HC := Hid.mkI hc
    clear hcc hl hc
    go_enter Tryd.func10, Tryd.ntmps10
    go_wp2
    go_loop [5] (fun p => ∃ i : Nat, i ≤ 6 ∧ p = .int .i64 (i : Int) ∧ Hid (∀ j, j < i → low ≤ lv j ∧ lv j ≤ 7)) (fun p => 6 - (intOf p).toNat)
    case atStart => exact ⟨0, by omega, rfl, fun j hj => absurd hj (by omega)⟩
    case round =>
      obtain ⟨i, hi, rfl, HQ⟩ := hrel
      by_cases hlt : i < 6
      · have hiI : (i : Int) < 6 := by omega
        have z := HC.out i hlt
        have tI := fun w' => rin_any (lv i) low 7 w'
        have HB := Hid.mkI (HBad.out i hlt)
        by_cases hg : low ≤ lv i ∧ lv i ≤ 7
        · rw [decide_eq_true hg] at tI
          have HQ2 : Hid (∀ j, j < i + 1 → low ≤ lv j ∧ lv j ≤ 7) := fun j hj => by
            by_cases e : j = i
            · rw [e]; exact hg
            · exact HQ.out j (by omega)
          obtain ⟨y, hy⟩ : ∃ y, lv i = y := ⟨_, rfl⟩
          rw [hy] at z tI
          clear HB hg hy
          go_wp2_with (go_at_call 22; (with_reducible refine (tI _).mono ?_); clear tI; rintro e w1 ⟨rfl, hw⟩; obtain rfl := hw.symm)
          go_round
          case rel => exact ⟨i + 1, by omega, by go_num, HQ2.out⟩
          case measure => simp [intOf]; omega
        · obtain rfl := (HB.out (by omega)).symm
          rw [decide_eq_false hg] at tI
          obtain ⟨y, hy⟩ : ∃ y, lv i = y := ⟨_, rfl⟩
          rw [hy] at z tI
          clear HB HBad HFine hg hy
          go_wp2_with (go_at_call 22; (with_reducible refine (tI _).mono ?_); clear tI; rintro e w1 ⟨rfl, hw⟩; obtain rfl := hw.symm)
          go_ret
          exact ⟨rfl, rfl⟩
      · obtain rfl : i = 6 := by omega
        obtain rfl := (HFine.out HQ.out).symm
        clear HBad HFine
        go_wp2
        go_ret
        exact ⟨rfl, rfl⟩
  · have e : levC n lv low = 3 := by unfold levC; rw [if_pos hn]
    rw [e]
    obtain ⟨a, cp, rfl, -⟩ := hl
    have hnI : ((n : Int) != 6) = true := by simp; omega
    clear e hn
    go_enter Tryd.func10, Tryd.ntmps10
    go_wp2
    go_ret
    exact ⟨rfl, rfl⟩
set_option maxHeartbeats 4000000 in
theorem rfits_any {l : List Nod} (hp : proC l = 0) (a : Option Addr) (cp : Nat) (v : Value) (lv : Nat → Int) (w : World) (hat : AtNods w a l.length (nthD l)) (hl : Lst w v 6 lv) :
    Calls Tryd.prog 11 #[.slice a l.length cp, v] w fun e w' => e = .returned (.bool (toldB (cF l) lv)) ∧ Below w.heap.size w w' := by
  have hG := good_of hp
  have tF := rfrom_any hp a cp w hat
  have HS := Hid.mkI (fun (i : Nat) (hi : i < 6) => comF_lt hG hi)
  obtain ⟨b, off, cv, rfl, hb, hc⟩ := lst_six_at hl (by decide)
  have HT := Hid.mkI (toldB_iff (cF l) lv)
  obtain ⟨T, hT⟩ : ∃ T, toldB (cF l) lv = T := ⟨_, rfl⟩
  rw [hT] at HT ⊢
  obtain ⟨n, hn⟩ : ∃ n, l.length = n := ⟨_, rfl⟩
  rw [hn] at tF ⊢
  clear hG hp hat hl hT hn
  go_enter Tryd.func11, Tryd.ntmps11
  go_wp2_with (go_at_call 9; (with_reducible refine tF.mono ?_); clear tF; rintro e w1 ⟨g, cg, rfl, hg, HO, hB1⟩)
  have HB1 := Hid.mkI hB1
  have HL1 := Hid.mkI (fun (i : Nat) (hi : i < 6) => keep_cell hB1 (hc i hi))
  clear hB1 hc hb
  go_loopw [6] (fun p wr => ∃ (i q : Nat), i ≤ 6 ∧ p = .int .i64 (i : Int) ∧ Hid (w1.drewN q = wr) ∧ Hid (∀ i', i' < i → ∀ j, j < 6 → cF l i' j = true → 0 ≤ lv i' → lv j ≤ lv i')) (fun p _ => 6 - (intOf p).toNat)
  case atStart => exact ⟨0, 0, by omega, rfl, rfl, fun j hj => absurd hj (by omega)⟩
  case round =>
    obtain ⟨i, q, hi, rfl, HW, HQ⟩ := hrel
    by_cases hlt : i < 6
    · have hiI : (i : Int) < 6 := by omega
      go_wp2
      go_loopw [7] (fun p wz => ∃ (j q : Nat), j ≤ 6 ∧ p = .int .i64 (j : Int) ∧ Hid (w1.drewN q = wz) ∧ Hid (∀ j', j' < j → cF l i j' = true → 0 ≤ lv i → lv j' ≤ lv i)) (fun p _ => 6 - (intOf p).toNat)
      case atStart => exact ⟨0, q, by omega, rfl, HW.out, fun j hj => absurd hj (by omega)⟩
      case round =>
        clear HW q
        obtain ⟨j, q, hj, rfl, HW, HJ⟩ := hrel
        by_cases hjt : j < 6
        · have hjI : (j : Int) < 6 := by omega
          have zr : wr.cell? ⟨g, i, none⟩ = some (.int .i64 (comF l i : Nat)) := by rw [← HW.out]; exact (HO.out.drawnF q).cell i hlt
          have zx : wr.cell? ⟨b, off + i, none⟩ = some (.int .i64 (lv i)) := by rw [← HW.out]; exact HL1.out i hlt
          have zy : wr.cell? ⟨b, off + j, none⟩ = some (.int .i64 (lv j)) := by rw [← HW.out]; exact HL1.out j hjt
          have tB := fun w' => bit_any (comF l i) j (small12 (HS.out i hlt)) (by omega) w'
          have HJn := Hid.mkI (fun (h : cF l i j = true → 0 ≤ lv i → lv j ≤ lv i) => show ∀ j', j' < j + 1 → cF l i j' = true → 0 ≤ lv i → lv j' ≤ lv i from fun j' hj' => by
            by_cases e : j' = j
            · rw [e]; exact h
            · exact HJ.out j' (by omega))
          have HBad := Hid.mkI (fun (h1 : (comF l i).testBit j = true) (h2 : 0 ≤ lv i) (h3 : lv i < lv j) => show T = false by
            cases hT : T with
            | false => rfl
            | true => have := HT.out.1 hT i hlt j hjt h1 h2; omega)
          have Hbit := Hid.mkI (show cF l i j = (comF l i).testBit j from rfl)
          obtain ⟨x, hx⟩ : ∃ x, lv i = x := ⟨_, rfl⟩
          obtain ⟨y, hy⟩ : ∃ y, lv j = y := ⟨_, rfl⟩
          rw [hx] at zx HBad
          rw [hy] at zy HBad
          have Hx := Hid.mkI hx
          have Hy := Hid.mkI hy
          obtain ⟨bt, hbt⟩ : ∃ z, (comF l i).testBit j = z := ⟨_, rfl⟩
          rw [hbt] at tB HBad Hbit
          obtain ⟨set, hset⟩ : ∃ z, comF l i = z := ⟨_, rfl⟩
          rw [hset] at zr tB
          clear hx hy hbt hset HJ HL1 HO HS HT
          cases bt with
          | false =>
            have HJ2 := HJn.out (fun h => by rw [Hbit.out] at h; cases h)
            have HJ2 := Hid.mkI HJ2
            clear HJn HBad Hbit
            go_wp2
            go_quiet ((go_at_call 20; exact Calls.quiet_of_same (tB _)))
            go_wp2
            go_roundw
            case rel => exact ⟨j + 1, q + nq, by omega, by go_num, by show _ = _; rw [← HW.out, World.drewN_drewN], HJ2⟩
            case measure => simp [intOf]; omega
          | true =>
            by_cases h0 : 0 ≤ x
            · have d1 : decide (x ≥ 0) = true := decide_eq_true h0
              have d1' : decide (0 ≤ x) = true := decide_eq_true h0
              by_cases hxy : x < y
              · have d2 : decide (y > x) = true := decide_eq_true hxy
                have d2' : decide (x < y) = true := decide_eq_true hxy
                obtain rfl := (HBad.out rfl h0 hxy).symm
                clear HJn HBad Hbit hxy h0
                go_wp2
                go_quiet ((go_at_call 20; exact Calls.quiet_of_same (tB _)))
                go_wp2
                go_ret
                exact ⟨rfl, by rw [← HW.out, World.drewN_drewN]; exact below_drawn HB1.out _⟩
              · have d2 : decide (y > x) = false := decide_eq_false hxy
                have d2' : decide (x < y) = false := decide_eq_false hxy
                have HJ2 := Hid.mkI (HJn.out (fun _ _ => by rw [Hx.out, Hy.out]; omega))
                clear HJn HBad Hbit hxy h0
                go_wp2
                go_quiet ((go_at_call 20; exact Calls.quiet_of_same (tB _)))
                go_wp2
                go_roundw
                case rel => exact ⟨j + 1, q + nq, by omega, by go_num, by show _ = _; rw [← HW.out, World.drewN_drewN], HJ2⟩
                case measure => simp [intOf]; omega
            · have d1 : decide (x ≥ 0) = false := decide_eq_false h0
              have d1' : decide (0 ≤ x) = false := decide_eq_false h0
              have HJ2 := Hid.mkI (HJn.out (fun _ h => absurd (by rw [← Hx.out]; exact h) h0))
              clear HJn HBad Hbit h0
              go_wp2
              go_quiet ((go_at_call 20; exact Calls.quiet_of_same (tB _)))
              go_wp2
              go_roundw
              case rel => exact ⟨j + 1, q + nq, by omega, by go_num, by show _ = _; rw [← HW.out, World.drewN_drewN], HJ2⟩
              case measure => simp [intOf]; omega
        · obtain rfl : j = 6 := by omega
          have HQ2 : Hid (∀ i', i' < i + 1 → ∀ j, j < 6 → cF l i' j = true → 0 ≤ lv i' → lv j ≤ lv i') := fun i' hi' => by
            by_cases e : i' = i
            · rw [e]; exact HJ.out
            · exact HQ.out i' (by omega)
          clear HJ HQ HT
          go_wp2
          go_roundw
          case rel => exact ⟨i + 1, q, by omega, by go_num, HW.out, HQ2⟩
          case measure => simp [intOf]; omega
    · obtain rfl : i = 6 := by omega
      obtain rfl := (HT.out.2 (fun i' hi' j hj hcj h0 => HQ.out i' hi' j hj hcj h0)).symm
      clear HT HQ
      go_wp2
      go_ret
      exact ⟨rfl, by rw [← HW.out]; exact below_drawn HB1.out q⟩

set_option maxHeartbeats 4000000 in
theorem rleast_any {l : List Nod} (hp : proC l = 0) (a : Option Addr) (cp : Nat) (v : Value) (lv : Nat → Int) (w : World) (hat : AtNods w a l.length (nthD l)) (hl : Lst w v 6 lv) :
    Calls Tryd.prog 12 #[.slice a l.length cp, v] w fun e w' => ∃ v', e = .returned v' ∧ Hid (Lst w' v' 6 (leastI (cF l) lv)) ∧ Below w.heap.size w w' := by
  have hG := good_of hp
  have tF := rfrom_any hp a cp w hat
  have HS := Hid.mkI (fun (i : Nat) (hi : i < 6) => comF_lt hG hi)
  obtain ⟨b, off, cv, rfl, hb, hc⟩ := lst_six_at hl (by decide)
  obtain ⟨i0, hi0, hz0, hz1, hz2⟩ := info_parts info3
  obtain ⟨n, hn⟩ : ∃ n, l.length = n := ⟨_, rfl⟩
  rw [hn] at tF ⊢
  clear hG hp hat hl hn
  go_enter Tryd.func12, Tryd.ntmps12
  go_wp2_with (go_at_call 9; (with_reducible refine tF.mono ?_); clear tF; rintro e w1 ⟨g, cg, rfl, hg, HO, hB1⟩)
  have HB1 := Hid.mkI hB1
  have HL1 := Hid.mkI (fun (i : Nat) (hi : i < 6) => keep_cell hB1 (hc i hi))
  have hg1 := HO.out.lt
  have hb1 : b < w1.heap.size := old_of_cell (HL1.out 0 (by decide))
  clear hB1 hc hb
  go_loopw [6, 7] (fun o p wr => ∃ i : Nat, i ≤ 6 ∧ p = .int .i64 (i : Int) ∧ Hid (wr.ownsRow w1.heap.size 3 1 o i (rowI i (leastI (cF l) lv))) ∧ Hid (Below w1.heap.size w1 wr)) (fun _ p _ => 6 - (intOf p).toNat)
  case atStart => exact ⟨0, by omega, rfl, World.ownsRow_nil _ _ _ _, Below.refl _ _⟩
  case round =>
    obtain ⟨i, hi, rfl, HW, HB⟩ := hrel
    by_cases hlt : i < 6
    · have hiI : (i : Int) < 6 := by omega
      have zr : wr.cell? ⟨g, i, none⟩ = some (.int .i64 (comF l i : Nat)) := keep_cell HB.out (HO.out.cell i hlt)
      have zx : wr.cell? ⟨b, off + i, none⟩ = some (.int .i64 (lv i)) := keep_cell HB.out (HL1.out i hlt)
      have HZ := Hid.mkI (fun (j : Nat) (hj : j < 6) => show wr.cell? ⟨b, off + j, none⟩ = some (.int .i64 (lv j)) from keep_cell HB.out (HL1.out j hj))
      have tB := fun (j : Nat) (hj : j < 6) w' => bit_any (comF l i) j (small12 (HS.out i hlt)) (by omega) w'
      have Hbit := Hid.mkI (fun j => show cF l i j = (comF l i).testBit j from rfl)
      have HMx := Hid.mkI (fun (t : Nat) => show mx (cF l) lv i (t + 1) = if cF l i t = true ∧ mx (cF l) lv i t < lv t then lv t else mx (cF l) lv i t from rfl)
      have HM0 : Hid (mx (cF l) lv i 0 = 0) := rfl
      have hc4 : i + 1 ≤ maxLen := by unfold maxLen; omega
      have hc5 : (i + 1) * 8 ≤ 140737488355328 := by omega
      by_cases h0 : 0 ≤ lv i
      · have HE : Hid (leastI (cF l) lv i = lv i) := least_told h0
        obtain ⟨x, hx⟩ : ∃ x, lv i = x := ⟨_, rfl⟩
        rw [hx] at zx h0 HE
        have d1 : decide (x < 0) = false := decide_eq_false (by omega)
        have hone : ∀ u ∈ [Value.int .i64 x], u.oneCell' = true := by intro u hu; rw [List.mem_singleton.1 hu]; rfl
        have hbase : w1.heap.size ≤ (wr.alloc (.cells #[.int .i64 x] 3)).heap.size := by have := HB.out.size; simp; omega
        clear HMx HM0 Hbit tB HZ hx
        go_wp2
        go_loop [8, 9] (fun m p => m = .int .i64 x ∧ p = .int .i64 0) (fun _ _ => 0)
        case atStart => exact ⟨rfl, rfl⟩
        case round =>
          obtain ⟨rfl, rfl⟩ := hrel
          go_wp2_with (at_builtin; refine wpList_append_own _ rfl _ _ 23 rfl w1.heap.size 3 i0 (.int .i64 0) 1 8 Tryd.underlying23 hi0 hz0 hz1 hz2 rfl (by decide) _ i (rowI i (leastI (cF l) lv)) rfl (HW.out.alloc _) ⟨_, 0, none⟩ 1 1 [.int .i64 x] rfl rfl (cell_one_new _ _ _) hone hc4 hc5 hbase ?_; intro v' w3 hown' hgrow hnil; have hB3 : Below w1.heap.size w1 w3 := (HB.out.alloc HB.out.size _).grown hgrow hbase (rowI_block HW.out); rw [← HE.out, rowI_snoc] at hown')
          go_roundw
          case rel => exact ⟨i + 1, by omega, by go_num, hown', hB3⟩
          case measure => simp [intOf]; omega
      · have HE : Hid (leastI (cF l) lv i = mx (cF l) lv i 6) := by show _ = _; unfold leastI; rw [if_neg h0]
        obtain ⟨x, hx⟩ : ∃ x, lv i = x := ⟨_, rfl⟩
        rw [hx] at zx h0
        have d1 : decide (x < 0) = true := decide_eq_true (by omega)
        have d2 : decide (x ≥ 0) = false := decide_eq_false (by omega)
        have hx0 : x < 0 := by omega
        clear hx h0
        go_wp2
        go_loop [8, 9] (fun m p => ∃ j : Nat, j ≤ 6 ∧ m = .int .i64 (mx (cF l) lv i j) ∧ p = .int .i64 (j : Int)) (fun _ p => 6 - (intOf p).toNat)
        case atStart => exact ⟨0, by omega, by rw [HM0.out], rfl⟩
        case round =>
          obtain ⟨j, hj, rfl, rfl⟩ := hrel
          by_cases hjt : j < 6
          · have hjI : (j : Int) < 6 := by omega
            have zy := HZ.out j hjt
            have tB := tB j hjt
            have HMj := Hid.mkI (HMx.out j)
            rw [Hbit.out j] at HMj
            obtain ⟨bt, hbt⟩ : ∃ z, (comF l i).testBit j = z := ⟨_, rfl⟩
            rw [hbt] at tB HMj
            obtain ⟨set, hset⟩ : ∃ z, comF l i = z := ⟨_, rfl⟩
            rw [hset] at zr tB
            obtain ⟨y, hy⟩ : ∃ y, lv j = y := ⟨_, rfl⟩
            rw [hy] at zy HMj
            obtain ⟨m, hm⟩ : ∃ m, mx (cF l) lv i j = m := ⟨_, rfl⟩
            rw [hm] at HMj
            rw [hm]
            clear hbt hset hy hm HMx HM0 Hbit HZ
            cases bt with
            | false =>
              have HMk : Hid (mx (cF l) lv i (j + 1) = m) := by
                have := HMj.out
                rw [if_neg (fun q => by cases q.1)] at this
                exact this
              clear HMj
              go_wp2_with (go_at_call 20; (with_reducible refine (tB _).mono ?_); clear tB; rintro e w2 ⟨rfl, hw⟩; obtain rfl := hw.symm)
              go_round
              case rel => exact ⟨j + 1, by omega, by rw [HMk.out], by go_num⟩
              case measure => simp [intOf]; omega
            | true =>
              by_cases hmy : m < y
              · have HMk : Hid (mx (cF l) lv i (j + 1) = y) := by
                  have := HMj.out
                  rw [if_pos ⟨rfl, hmy⟩] at this
                  exact this
                have e1 : decide (y > m) = true := decide_eq_true hmy
                have e2 : decide (m < y) = true := decide_eq_true hmy
                clear HMj
                go_wp2_with (go_at_call 20; (with_reducible refine (tB _).mono ?_); clear tB; rintro e w2 ⟨rfl, hw⟩; obtain rfl := hw.symm)
                go_round
                case rel => exact ⟨j + 1, by omega, by rw [HMk.out], by go_num⟩
                case measure => simp [intOf]; omega
              · have HMk : Hid (mx (cF l) lv i (j + 1) = m) := by
                  have := HMj.out
                  rw [if_neg (fun q => hmy q.2)] at this
                  exact this
                have e1 : decide (y > m) = false := decide_eq_false hmy
                have e2 : decide (m < y) = false := decide_eq_false hmy
                clear HMj
                go_wp2_with (go_at_call 20; (with_reducible refine (tB _).mono ?_); clear tB; rintro e w2 ⟨rfl, hw⟩; obtain rfl := hw.symm)
                go_round
                case rel => exact ⟨j + 1, by omega, by rw [HMk.out], by go_num⟩
                case measure => simp [intOf]; omega
          · obtain rfl : j = 6 := by omega
            clear HMx HM0 Hbit tB HZ
            obtain ⟨m, hm⟩ : ∃ m, mx (cF l) lv i 6 = m := ⟨_, rfl⟩
            rw [hm] at HE
            rw [hm]
            have hone : ∀ u ∈ [Value.int .i64 m], u.oneCell' = true := by intro u hu; rw [List.mem_singleton.1 hu]; rfl
            have hbase : w1.heap.size ≤ (wr.alloc (.cells #[.int .i64 m] 3)).heap.size := by have := HB.out.size; simp; omega
            clear hm
            go_wp2_with (at_builtin; refine wpList_append_own _ rfl _ _ 23 rfl w1.heap.size 3 i0 (.int .i64 0) 1 8 Tryd.underlying23 hi0 hz0 hz1 hz2 rfl (by decide) _ i (rowI i (leastI (cF l) lv)) rfl (HW.out.alloc _) ⟨_, 0, none⟩ 1 1 [.int .i64 m] rfl rfl (cell_one_new _ _ _) hone hc4 hc5 hbase ?_; intro v' w3 hown' hgrow hnil; have hB3 : Below w1.heap.size w1 w3 := (HB.out.alloc HB.out.size _).grown hgrow hbase (rowI_block HW.out); rw [← HE.out, rowI_snoc] at hown')
            go_roundw
            case rel => exact ⟨i + 1, by omega, by go_num, hown', hB3⟩
            case measure => simp [intOf]; omega
    · obtain rfl : i = 6 := by omega
      go_wp2
      go_ret
      exact ⟨_, rfl, lst_of_row HW.out, HB1.out.trans (HB.out.mono HB1.out.size)⟩
end Go.Proofs.YtioimgeeamchaaaDoor
