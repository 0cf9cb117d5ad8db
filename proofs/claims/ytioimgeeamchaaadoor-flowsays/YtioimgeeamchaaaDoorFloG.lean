/- What flows where, as the document has it: the variables of a value (Names), the node above one (above). -/
import Derived.WalkKit
import Derived.LoopTactic
import Derived.OwnWalk
import Derived.Deep.QuietTactic
import Derived.BigQuiet
import Derived.Deep.RegionHeld3
import Derived.Test.YtioimgeeamchaaaDoorFloF
import Derived.Test.YtioimgeeamchaaaDoorProP
import Derived.Test.YtioimgeeamchaaaDoorRunB
import Derived.Test.YtioimgeeamchaaaDoorRefs
import Derived.Test.YtioimgeeamchaaaDoorWith
namespace Go.Proofs.YtioimgeeamchaaaDoor
open Go.RowKit
set_option maxRecDepth 100000
set_option linter.unusedVariables false

theorem newNums_keep {w w' : World} {B : Nat} {a : Option Addr} {l : List Int} (h : NewNums w B a l) (k : Below w.heap.size w w') : NewNums w' B a l :=
  h.imp id fun ⟨b, e, hb, hc⟩ => ⟨b, e, hb, fun j v hj => keep_cell k (hc j v hj)⟩
theorem newNums_at {w : World} {B : Nat} {a : Option Addr} {l : List Int} (h : NewNums w B a l) {k : Nat} {v : Int} (hk : l[k]? = some v) : ∃ b, a = some ⟨b, 0, none⟩ ∧ w.cell? ⟨b, k, none⟩ = some (.int .i64 v) := by
  rcases h with h | ⟨b, e, _, hc⟩
  · rw [h] at hk; simp at hk
  · exact ⟨b, e, hc k v hk⟩
theorem small12 {a : Nat} (h : a < 2 ^ 6) : a < 4096 := Nat.lt_trans h (by decide)

set_option maxHeartbeats 4000000 in
theorem rnames_any {l : List Nod} (hG : Good l) {a : Option Addr} {cp : Nat} : ∀ (m i : Nat), i < m → i < l.length → (nthD l i).kd < 5 → ∀ (w : World), AtNods w a l.length (nthD l) →
    Calls Tryd.prog 25 #[.slice a l.length cp, .int .i64 (i : Int)] w fun e w' => e = .returned (.int .i64 (nm l i : Nat)) ∧ Below w.heap.size w w'
  | 0, _, h, _, _, _, _ => absurd h (by omega)
  | m + 1, i, him, hi, h5, w, hat => by
    have hkd := hG.kd hi
    have h80 := hG.r.few
    obtain ⟨x, hx⟩ : ∃ x, nthD l i = x := ⟨_, rfl⟩
    obtain ⟨b, off, rfl, hb, z0, z1, z2, z3, z4⟩ := nod_cells5 hat hi hx
    have hiI : (i : Int) < (l.length : Int) := by omega
    have hnI : (l.length : Int) ≤ 80 := by omega
    by_cases h1 : x.kd = 1
    · obtain ⟨k, ek, hk6⟩ := hG.var hi (.inl (by rw [hx]; exact h1))
      rw [nm_var (by rw [hx]; exact h1), ek, Int.toNat_natCast]
      rw [hx] at ek
      have tP := pow2_any k (by omega) w
      obtain ⟨y, hy⟩ : ∃ y, 2 ^ k = y := ⟨_, rfl⟩
      rw [hy] at tP ⊢
      obtain ⟨kd, num, pa, pb, pc⟩ := x
      simp only at z0 z1 z2 z3 z4 h1 ek
      subst h1; subst ek
      obtain ⟨n, hn⟩ : ∃ n, l.length = n := ⟨_, rfl⟩
      rw [hn] at hiI hnI ⊢
      clear hG hat hx hn hy
      go_enter Tryd.func25, Tryd.ntmps25
      go_wp2_with (go_at_call 40; (with_reducible refine tP.mono ?_); clear tP; rintro e w1 ⟨rfl, hw⟩; obtain rfl := hw.symm)
      go_ret
      exact ⟨rfl, Below.refl _ _⟩
    · have HV := Hid.mkI (fun (k : Nat) (p : Int) (h : (prtL (nthD l i))[k]? = some p) => parts_val hG hi h5 h)
      have HNm := Hid.mkI (nm_orP hG hi h5 (by rw [hx]; exact h1))
      have HR := Hid.mkI (fun (q : Nat) (hq : q < i) (hk : (nthD l q).kd < 5) (w' : World) (k : Below w.heap.size w w') => rnames_any hG (a := some ⟨b, off, none⟩) (cp := cp) m q (by omega) (by omega) hk w' (hat.below k))
      have HS := Hid.mkI (orP_small (l := l) (ps := prtL (nthD l i)) fun j p h => by
        obtain ⟨q, rfl, hq, hk⟩ := HV.out j p h
        rw [Int.toNat_natCast]; exact nm_small hG (by omega) hk)
      rw [hx] at HV HNm HS
      have tP := rparts_any x w
      obtain ⟨pl, hpl⟩ : ∃ pl, prtL x = pl := ⟨_, rfl⟩
      have hp3 : (pl.length : Int) ≤ 3 := by have := prtL_len x; rw [hpl] at this; omega
      rw [hpl] at tP HV HNm HS
      rw [HNm.out]
      have hcI : (x.kd == 1) = false := by simpa using h1
      obtain ⟨kd, num, pa, pb, pc⟩ := x
      simp only at z0 z1 z2 z3 z4 tP hcI
      obtain ⟨n, hn⟩ : ∃ n, l.length = n := ⟨_, rfl⟩
      rw [hn] at hiI hnI HR ⊢
      clear hG hat hx hpl hn HNm h1 h5 hkd him hi hb
      go_enter Tryd.func25, Tryd.ntmps25
      go_wp2_with (go_at_call 23; (with_reducible refine tP.mono ?_); clear tP; rintro e w1 ⟨a2, c2, rfl, hN, hB1⟩)
      have HN1 := Hid.mkI hN
      have HB1 := Hid.mkI hB1
      clear hN hB1
      go_loopw [5, 7] (fun s p wr => ∃ k : Nat, k ≤ pl.length ∧ s = .int .i64 (orP l pl k : Nat) ∧ p = .int .i64 (k : Int) ∧ Hid (Below w.heap.size w wr) ∧ Hid (NewNums wr (w.heap.size + 1) a2 pl)) (fun _ p _ => pl.length - (intOf p).toNat)
      case atStart => exact ⟨0, by omega, rfl, rfl, HB1, HN1⟩
      case round =>
        clear HB1 HN1
        obtain ⟨k, hk, rfl, rfl, HB, HN⟩ := hrel
        by_cases hkt : k < pl.length
        · have hkI : (k : Int) < (pl.length : Int) := by omega
          obtain ⟨P, hPk⟩ : ∃ P, pl[k]? = some P := ⟨_, List.getElem?_eq_getElem hkt⟩
          obtain ⟨b2, rfl, cP⟩ := newNums_at HN.out hPk
          obtain ⟨q, rfl, hq, hk5⟩ := HV.out k P hPk
          have tN := HR.out q hq hk5 wr HB.out
          have tE := fun w' => either_any (orP l pl k) (nm l q) (small12 (HS.out k hk)) (by have := HS.out (k + 1) (by omega); rw [orP, List.getD_eq_getElem?_getD, hPk] at this; exact small12 (Nat.lt_of_le_of_lt (Nat.right_le_or) this)) w'
          have HE : Hid (orP l pl k ||| nm l q = orP l pl (k + 1)) := by show _ = _; rw [orP, List.getD_eq_getElem?_getD, hPk]; rfl
          rw [HE.out] at tE
          obtain ⟨y0, hy0⟩ : ∃ y, orP l pl k = y := ⟨_, rfl⟩
          obtain ⟨y1, hy1⟩ : ∃ y, nm l q = y := ⟨_, rfl⟩
          obtain ⟨y2, hy2⟩ : ∃ y, orP l pl (k + 1) = y := ⟨_, rfl⟩
          rw [hy0, hy1, hy2] at tE
          rw [hy1] at tN
          rw [hy0]
          have HY := Hid.mkI hy2
          clear hy0 hy1 hy2 HE hPk
          go_wp2_with (first | (go_at_call 25; (with_reducible refine tN.mono ?_); clear tN; rintro e w2 ⟨rfl, hB2⟩; have HB2 := Hid.mkI (HB.out.trans (hB2.mono HB.out.size)); have HN2 := Hid.mkI (newNums_keep HN.out hB2)) | (go_at_call 27; (with_reducible refine (tE _).mono ?_); clear tE; rintro e w3 ⟨rfl, hw⟩; obtain rfl := hw.symm))
          go_roundw
          case rel => exact ⟨k + 1, by omega, by rw [HY.out], by go_num, HB2, HN2⟩
          case measure => simp [intOf]; omega
        · obtain rfl : k = pl.length := by omega
          go_wp2
          go_ret
          exact ⟨rfl, HB.out⟩
/-- Which node is the first from k on of which one is a deed. -/
def abvK (l : List Nod) (i : Int) (k : Nat) : Option Nat := ((List.range l.length).drop k).find? fun k => decide (i ∈ dpt (nthD l k))
theorem range_drop {n k : Nat} (h : k < n) : (List.range n).drop k = k :: (List.range n).drop (k + 1) := by
  rw [List.drop_eq_getElem_cons (by simpa using h)]
  simp
theorem abvK_yes {l : List Nod} {i : Int} {k : Nat} (hk : k < l.length) (h : i ∈ dpt (nthD l k)) : abvK l i k = some k := by
  unfold abvK
  rw [range_drop hk, List.find?_cons_of_pos (by simpa using h)]
theorem abvK_no {l : List Nod} {i : Int} {k : Nat} (hk : k < l.length) (h : ¬ i ∈ dpt (nthD l k)) : abvK l i k = abvK l i (k + 1) := by
  unfold abvK
  rw [range_drop hk, List.find?_cons_of_neg (by simpa using h)]
theorem abvK_end (l : List Nod) (i : Int) : abvK l i l.length = none := by
  unfold abvK
  rw [List.drop_of_length_le (by simp)]; rfl
set_option maxHeartbeats 8000000 in
theorem rabove_any {l : List Nod} {a : Option Addr} {cp : Nat} (i : Nat) (w : World) (h80 : l.length ≤ 80) (hat : AtNods w a l.length (nthD l)) :
    Calls Tryd.prog 26 #[.slice a l.length cp, .int .i64 (i : Int)] w fun e w' => e = .returned (.int .i64 (abI (abv l i))) ∧ Below w.heap.size w w' := by
  have hR : abvK l (i : Int) 0 = abv l i := rfl
  have HY := Hid.mkI (fun (k : Nat) (hk : k < l.length) (h : (i : Int) ∈ dpt (nthD l k)) => abvK_yes hk h)
  have HNo := Hid.mkI (fun (k : Nat) (hk : k < l.length) (h : ¬ (i : Int) ∈ dpt (nthD l k)) => abvK_no hk h)
  have HEnd := Hid.mkI (abvK_end l (i : Int))
  obtain ⟨R, hRe⟩ : ∃ R, abv l i = R := ⟨_, rfl⟩
  rw [hRe] at hR ⊢
  have HR := Hid.mkI hR
  have HD := Hid.mkI (fun (k : Nat) => dpt_iff (nthD l k) (i : Int))
  obtain ⟨S, hS⟩ : ∃ S, nthD l = S := ⟨_, rfl⟩
  obtain ⟨n, hn⟩ : ∃ n, l.length = n := ⟨_, rfl⟩
  rw [hS] at hat
  rw [hn] at hat HY HNo HEnd h80 ⊢
  rw [hS] at HY HNo HD
  have h80I : (n : Int) ≤ 80 := by omega
  clear hR hRe hS hn
  go_enter Tryd.func26, Tryd.ntmps26
  go_wp2
  go_loopw [5] (fun p wr => ∃ k : Nat, k ≤ n ∧ p = .int .i64 (k : Int) ∧ Hid (abvK l (i : Int) k = R) ∧ Hid (Below w.heap.size w wr)) (fun p _ => n - (intOf p).toNat)
  case atStart => exact ⟨0, by omega, rfl, HR.out, Below.refl _ _⟩
  case round =>
    clear HR
    obtain ⟨k, hk, rfl, HR, HB⟩ := hrel
    by_cases hkn : k < n
    · have hkI : (k : Int) < (n : Int) := by omega
      obtain ⟨x, hx⟩ : ∃ x, S k = x := ⟨_, rfl⟩
      obtain ⟨b, off, rfl, hb, z0, z1, z2, z3, z4⟩ := nod_cells5 (hat.below HB.out) hkn hx
      have HYk := Hid.mkI (HY.out k hkn)
      have HNk := Hid.mkI (HNo.out k hkn)
      have HDk := Hid.mkI (HD.out k)
      rw [hx] at HYk HNk HDk
      have tP := rparts_any x wr
      obtain ⟨pl, hpl⟩ : ∃ pl, prtL x = pl := ⟨_, rfl⟩
      have hp3 : (pl.length : Int) ≤ 3 := by have := prtL_len x; rw [hpl] at this; omega
      rw [hpl] at tP HDk
      have tV := fun j w' => rval_any x.kd j w'
      have HX := Hid.mkI hx
      clear hpl hx
      obtain ⟨kd, num, pa, pb, pc⟩ := x
      simp only at z0 z1 z2 z3 z4 tP tV
      go_wp2_with (go_at_call 23; (with_reducible refine tP.mono ?_); clear tP; rintro e w1 ⟨a2, c2, rfl, hN, hB1⟩)
      have HB1 := Hid.mkI (HB.out.trans (hB1.mono HB.out.size))
      have HN1 := Hid.mkI hN
      clear hN hB1 z0 z1 z2 z3 z4
      go_loopw [7] (fun p wz => ∃ j : Nat, j ≤ pl.length ∧ p = .int .i64 (j : Int) ∧ Hid (∀ q, q < j → ∀ v, pl[q]? = some v → ¬ (v = (i : Int) ∧ valB kd q = false)) ∧ Hid (Below w.heap.size w wz) ∧ Hid (NewNums wz (wr.heap.size + 1) a2 pl)) (fun p _ => pl.length - (intOf p).toNat)
      case atStart => exact ⟨0, by omega, rfl, fun q hq => absurd hq (by omega), HB1, HN1⟩
      case round =>
        clear HB1 HN1
        obtain ⟨j, hj, rfl, HQ, HB2, HN⟩ := hrel
        by_cases hjt : j < pl.length
        · have hjI : (j : Int) < (pl.length : Int) := by omega
          obtain ⟨P, hPk⟩ : ∃ P, pl[j]? = some P := ⟨_, List.getElem?_eq_getElem hjt⟩
          obtain ⟨b2, rfl, cP⟩ := newNums_at HN.out hPk
          obtain ⟨b', off', eb, -, z0, -, -, -, -⟩ := nod_cells5 (hat.below HB2.out) hkn HX.out
          obtain ⟨rfl, rfl⟩ : b = b' ∧ off = off' := by cases eb; exact ⟨rfl, rfl⟩
          have HPk := Hid.mkI hPk
          have tV := tV j
          clear eb hPk
          simp only at z0
          by_cases hPi : P = (i : Int)
          · subst hPi
            cases hv : valB kd j with
            | false =>
              rw [hv] at tV
              have HE : Hid (R = some k) := by
                show _ = _
                rw [← HR.out]
                exact HYk.out (HDk.out.2 ⟨j, HPk.out, hv⟩)
              clear HYk HNk HDk HQ HR hv
              go_wp2_with (go_at_call 24; (with_reducible refine (tV _).mono ?_); clear tV; rintro e w2 ⟨rfl, hw⟩; obtain rfl := hw.symm)
              go_ret
              rw [HE.out]
              exact ⟨rfl, HB2.out⟩
            | true =>
              rw [hv] at tV
              have HQ2 : Hid (∀ q, q < j + 1 → ∀ v, pl[q]? = some v → ¬ (v = (i : Int) ∧ valB kd q = false)) := fun q hq v hv2 hc => by
                by_cases e : q = j
                · subst e; rw [hv] at hc; cases hc.2
                · exact HQ.out q (by omega) v hv2 hc
              clear HYk HNk HDk HQ HR hv
              go_wp2_with (go_at_call 24; (with_reducible refine (tV _).mono ?_); clear tV; rintro e w2 ⟨rfl, hw⟩; obtain rfl := hw.symm)
              go_roundw
              case rel => exact ⟨j + 1, by omega, by go_num, HQ2, HB2, HN⟩
              case measure => simp [intOf]; omega
          · have hcI : (P == (i : Int)) = false := by simpa using hPi
            have HQ2 : Hid (∀ q, q < j + 1 → ∀ v, pl[q]? = some v → ¬ (v = (i : Int) ∧ valB kd q = false)) := fun q hq v hv2 hc => by
              by_cases e : q = j
              · subst e; rw [HPk.out] at hv2; cases hv2; exact hPi hc.1
              · exact HQ.out q (by omega) v hv2 hc
            clear HYk HNk HDk HQ HR tV hPi
            go_wp2
            go_roundw
            case rel => exact ⟨j + 1, by omega, by go_num, HQ2, HB2, HN⟩
            case measure => simp [intOf]; omega
        · obtain rfl : j = pl.length := by omega
          have HR2 : Hid (abvK l (i : Int) (k + 1) = R) := by
            show _ = _
            rw [← HNk.out fun hm => ?_]
            · exact HR.out
            · obtain ⟨q, hq, hv⟩ := HDk.out.1 hm
              have hlt : q < pl.length := by
                rcases Nat.lt_or_ge q pl.length with c | c
                · exact c
                · rw [List.getElem?_eq_none c] at hq; cases hq
              exact HQ.out q hlt _ hq ⟨rfl, hv⟩
          clear HYk HNk HDk HQ HR tV
          go_wp2
          go_roundw
          case rel => exact ⟨k + 1, by omega, by go_num, HR2, HB2⟩
          case measure => simp [intOf]; omega
    · obtain rfl : k = n := by omega
      have HE : Hid (R = none) := by show _ = _; rw [← HR.out, HEnd.out]
      go_wp2
      go_ret
      rw [HE.out]
      exact ⟨rfl, HB.out⟩
end Go.Proofs.YtioimgeeamchaaaDoor
