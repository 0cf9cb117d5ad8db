/- What is wrong with a program, as the document has it (Prog). Made by wip/tools/gen/proprog.py. -/
import Derived.WalkKit
import Derived.LoopTactic
import Derived.OwnWalk
import Derived.Laws.MakeOwn
import Derived.Deep.QuietTactic
import Derived.BigQuiet
import Derived.Test.YtioimgeeamchaaaDoorProQ
namespace Go.Proofs.YtioimgeeamchaaaDoor
open Go.RowKit
set_option maxRecDepth 100000

theorem prtL_len (x : Nod) : (prtL x).length ≤ 3 := by
  unfold prtL
  split
  · simp
  · split
    · simp
    · split <;> simp
theorem pwrap_int {a : Int} (h1 : -4096 ≤ a) (h2 : a < 2 ^ 61) : wrap64 a = a ∧ IntKind.i64.wrap a = a :=
  ⟨IntWalk.wrap64_in _ ⟨by omega, by omega⟩, by rw [IntKind.wrap_i64]; omega⟩
theorem pwrap_eq {a : Int} {c : Nat} (h : a = (c : Int)) (hc : c < 2 ^ 61) : wrap64 a = (c : Int) ∧ IntKind.i64.wrap a = (c : Int) := by
  subst h
  exact ⟨IntWalk.wrap64_in _ ⟨by omega, by omega⟩, wraps62 _ (by omega) (by omega)⟩
theorem PrtSt.start {wr w w2 : World} {n : Nat} {u : Nat → Nat} {a : Option Addr} {pl : List Int} {kd num pa pb pc : Int} (ho : OwnU wr w.heap.size n u) (hB : Below w.heap.size w wr)
    (hN : NewNums w2 ((wr.alloc (.cells #[.int .i64 kd, .int .i64 num, .int .i64 pa, .int .i64 pb, .int .i64 pc] 47)).heap.size + 1) a pl)
    (h2 : Below (wr.alloc (.cells #[.int .i64 kd, .int .i64 num, .int .i64 pa, .int .i64 pb, .int .i64 pc] 47)).heap.size (wr.alloc (.cells #[.int .i64 kd, .int .i64 num, .int .i64 pa, .int .i64 pb, .int .i64 pc] 47)) w2) : PrtSt w2 w n wr.heap.size kd a pl u := by
  have hs := World.size_alloc wr (.cells #[.int .i64 kd, .int .i64 num, .int .i64 pa, .int .i64 pb, .int .i64 pc] 47)
  have b1 : Below wr.heap.size wr (wr.alloc (.cells #[.int .i64 kd, .int .i64 num, .int .i64 pa, .int .i64 pb, .int .i64 pc] 47)) := (Below.refl _ wr).alloc (Nat.le_refl _) _
  have b2 : Below wr.heap.size wr w2 := b1.trans (h2.mono b1.size)
  have lt := ho.lt
  refine ⟨ho.below b2, hB.trans (b2.mono hB.size), ho.lt, ?_, hN.imp id fun ⟨b, e, hb, hc⟩ => ⟨b, e, by omega, hc⟩⟩
  have c := cell_five_new wr ⟨kd, num, pa, pb, pc⟩ 47 0 _ rfl
  exact keep_cell h2 c
theorem prtC_bad {l : List Nod} {i k : Nat} {kd p : Int} {ps : List Int} {v : Nat → Nat} (h : p < 0 ∨ (i : Int) ≤ p) : prtC l i kd k (p :: ps) v = (1, v) := by rw [prtC, if_pos h]
theorem prtC_two {l : List Nod} {i k p : Nat} {kd : Int} {ps : List Int} {v : Nat → Nat} (h : p < i) (hv : v p = 1) : prtC l i kd k ((p : Int) :: ps) v = (3, upd v p 2) := by
  rw [prtC, if_neg (by omega), if_pos (.inl (by rw [Int.toNat_natCast]; omega)), Int.toNat_natCast, hv]
theorem prtC_odd {l : List Nod} {i k p : Nat} {kd : Int} {ps : List Int} {v : Nat → Nat} (h : p < i) (hv : v p = 0) (hd : decide ((nthD l p).kd < 5) ≠ valB kd k) : prtC l i kd k ((p : Int) :: ps) v = (3, upd v p 1) := by
  rw [prtC, if_neg (by omega), if_pos (.inr (by rw [Int.toNat_natCast]; exact hd)), Int.toNat_natCast, hv]
theorem prtC_on {l : List Nod} {i k p : Nat} {kd : Int} {ps : List Int} {v : Nat → Nat} (h : p < i) (hv : v p = 0) (hd : decide ((nthD l p).kd < 5) = valB kd k) : prtC l i kd k ((p : Int) :: ps) v = prtC l i kd (k + 1) ps (upd v p 1) := by
  rw [prtC, if_neg (by omega), if_neg (by rw [Int.toNat_natCast, hv]; exact fun q => q.elim (by omega) (fun q => q hd)), Int.toNat_natCast, hv]
theorem upd_le {v : Nat → Nat} (h : ∀ j, v j ≤ 1) (p : Nat) : ∀ j, upd v p 1 j ≤ 1 := fun j => by
  unfold upd; split
  · exact Nat.le_refl 1
  · exact h j
theorem drop_at {pl : List Int} {k : Nat} {P : Int} (h : pl[k]? = some P) : pl.drop k = P :: pl.drop (k + 1) := by
  obtain ⟨hk, rfl⟩ := List.getElem?_eq_some_iff.1 h
  exact List.drop_eq_getElem_cons hk

set_option maxHeartbeats 8000000 in
theorem rprog_any (l : List Nod) (a : Option Addr) (cp : Nat) (w : World) (hat : AtNods w a l.length (nthD l)) :
    Calls Tryd.prog 8 #[.slice a l.length cp] w fun e w' => e = .returned (.int .i64 (proC l)) ∧ Below w.heap.size w w' := by
  by_cases h0 : l.length = 0
  · have hc : proC l = 5 := by unfold proC; rw [if_pos h0]
    rw [hc, h0]
    clear hc hat
    go_enter Tryd.func8, Tryd.ntmps8
    go_wp2
    go_ret
    exact ⟨rfl, Below.refl _ w⟩
  by_cases h80 : 80 < l.length
  · have hc : proC l = 4 := by unfold proC; rw [if_neg h0, if_pos h80]
    rw [hc]
    obtain ⟨n, hn⟩ : ∃ n, l.length = n := ⟨_, rfl⟩
    rw [hn] at h0 h80 ⊢
    have h0I : (n : Int) ≠ 0 := by omega
    have h80I : (80 : Int) < (n : Int) := by omega
    clear hc hat hn h0
    go_enter Tryd.func8, Tryd.ntmps8
    go_wp2
    go_ret
    exact ⟨rfl, Below.refl _ w⟩
  obtain ⟨b, off, rfl, hs⟩ : ∃ b off, a = some ⟨b, off, none⟩ ∧ Nods w b off l.length (nthD l) := by
    rcases hat with h | h
    · exact absurd h h0
    · exact h
  have HSt := Hid.mkI (fun (m : Nat) (c : Int) (u : Nat → Nat) (h : nodC l m = (c, u)) (hc : c ≠ 0) (hm : m ≤ l.length) => proC_stuck h hc hm (by omega) (by omega))
  have HEnd := Hid.mkI (fun (u : Nat → Nat) (h : nodC l l.length = (0, u)) => show proC l = if (List.range (l.length - 1)).any (fun i => u i == 0) = true then 3 else if (nthD l (l.length - 1)).kd < 5 then 3 else 0 by
    unfold proC; rw [if_neg h0, if_neg h80, h, if_neg (by simp)])
  obtain ⟨c, hc⟩ : ∃ c, proC l = c := ⟨_, rfl⟩
  obtain ⟨n, hn⟩ : ∃ n, l.length = n := ⟨_, rfl⟩
  obtain ⟨S, hS⟩ : ∃ S, nthD l = S := ⟨_, rfl⟩
  rw [hS] at hs
  rw [hc, hn] at HSt HEnd
  rw [hS] at HEnd
  rw [hn] at hs h0 h80 ⊢
  rw [hc]
  have HK := Hid.mkI (fun (i : Nat) (u : Nat → Nat) (h : nodC l i = (0, u)) (hk : kinB (S i) = false) => show nodC l (i + 1) = (1, u) from nodC_kin h (by rw [hS]; exact hk))
  have HG := Hid.mkI (fun (i : Nat) (u : Nat → Nat) (h : nodC l i = (0, u)) (hk : kinB (S i) = true) => show nodC l (i + 1) = prtC l i (S i).kd 0 (prtL (S i)) u by have := nodC_prt h (by rw [hS]; exact hk); rwa [hS] at this)
  have HO := Hid.mkI (fun (i k p : Nat) (kd : Int) (ps : List Int) (v : Nat → Nat) (h : p < i) (hv : v p = 0) (hd : decide ((S p).kd < 5) ≠ valB kd k) => show prtC l i kd k ((p : Int) :: ps) v = (3, upd v p 1) from prtC_odd h hv (by rw [hS]; exact hd))
  have HN := Hid.mkI (fun (i k p : Nat) (kd : Int) (ps : List Int) (v : Nat → Nat) (h : p < i) (hv : v p = 0) (hd : decide ((S p).kd < 5) = valB kd k) => show prtC l i kd k ((p : Int) :: ps) v = prtC l i kd (k + 1) ps (upd v p 1) from prtC_on h hv (by rw [hS]; exact hd))
  clear hat hS hn hc
  have h0I : ((n : Int) == 0) = false := by simpa using (show (n : Int) ≠ 0 by omega)
  have h80I : (n : Int) ≤ 80 := by omega
  have hmk := makeU_any w n (by omega)
  have hmd := OwnU.made w n
  have hBm : Below w.heap.size w (w.alloc (.cells (madeCells #[.int .i64 0] n) 3)) := (Below.refl _ w).alloc (Nat.le_refl _) _
  obtain ⟨w1, hw1⟩ : ∃ x, w.alloc (.cells (madeCells #[.int .i64 0] n) 3) = x := ⟨_, rfl⟩
  rw [hw1] at hmk hmd hBm
  clear hw1
  go_enter Tryd.func8, Tryd.ntmps8
  go_wp2
  go_loopw [4] (fun p wr => ∃ (i : Nat) (u : Nat → Nat), i ≤ n ∧ p = .int .i64 i ∧ Hid (nodC l i = (0, u)) ∧ Hid (∀ j, u j ≤ 1) ∧ OwnU wr w.heap.size n u ∧ Below w.heap.size w wr) (fun p _ => n - (intOf p).toNat)
  case atStart => exact ⟨0, fun _ => 0, by omega, rfl, rfl, fun _ => Nat.zero_le 1, hmd, hBm⟩
  case round =>
    obtain ⟨i, u, hi, rfl, HU, H1, ho, hB⟩ := hrel
    clear hmd hBm hmk
    by_cases hlt : i < n
    · have hiI : (i : Int) < (n : Int) := by omega
      have hsr := hs.below hB
      have x0 := hsr.c0 i hlt
      have x1 := hsr.c1 i hlt
      have x2 := hsr.c2 i hlt
      have x3 := hsr.c3 i hlt
      have x4 := hsr.c4 i hlt
      have hk1 := HK.out i u HU.out
      have hk2 := HG.out i u HU.out
      clear hsr
      obtain ⟨g, hg⟩ : ∃ g, S i = g := ⟨_, rfl⟩
      rw [hg] at x0 x1 x2 x3 x4 hk1 hk2
      clear hg
      obtain ⟨kd, num, pa, pb, pc⟩ := g
      simp only at x0 x1 x2 x3 x4 hk2
      have tI := fun lo hi w => rin_any kd lo hi w
      have tN := fun lo hi w => rin_any num lo hi w
      have hBa : Below w.heap.size w (wr.alloc (.cells #[.int .i64 kd, .int .i64 num, .int .i64 pa, .int .i64 pb, .int .i64 pc] 47)) := hB.alloc hB.size _
      have HBa := Hid.mkI hBa
      clear hBa
      cases hkin : kinB ⟨kd, num, pa, pb, pc⟩ with
      | false =>
        obtain rfl : c = 1 := HSt.out (i + 1) 1 u (hk1 hkin) (by decide) (by omega)
        clear hk1 hk2
        unfold kinB at hkin
        simp only [decide_eq_false_iff_not] at hkin
        have e4 : ¬ (0 ≤ kd ∧ kd ≤ 9) ∨ (kd = 0 ∧ ¬ (0 ≤ num ∧ num ≤ 999999)) ∨ (kd = 1 ∧ ¬ (0 ≤ num ∧ num ≤ 5)) ∨ (kd = 6 ∧ ¬ (0 ≤ num ∧ num ≤ 5)) := by omega
        clear hkin
        rcases e4 with e | ⟨rfl, e⟩ | ⟨rfl, e⟩ | ⟨rfl, e⟩
        · have t1 := fun w => tI 0 9 w
          rw [decide_eq_false (by omega)] at t1
          clear tI tN
          go_wp2_with (go_at_call 22; (with_reducible refine (t1 _).mono ?_); clear t1; rintro e w' ⟨rfl, hw⟩; obtain rfl := hw.symm)
          go_ret
          exact ⟨rfl, HBa.out⟩
        · have t1 := fun w => tI 0 9 w
          rw [decide_eq_true (by omega)] at t1
          have t2 := fun w => tN 0 999999 w
          rw [decide_eq_false (by omega)] at t2
          clear tI tN
          go_wp2_with (first | (go_at_call 22; (with_reducible refine (t1 _).mono ?_); clear t1; rintro e w' ⟨rfl, hw⟩; obtain rfl := hw.symm) | (go_at_call 22; (with_reducible refine (t2 _).mono ?_); clear t2; rintro e w' ⟨rfl, hw⟩; obtain rfl := hw.symm))
          go_ret
          exact ⟨rfl, HBa.out⟩
        · have t1 := fun w => tI 0 9 w
          rw [decide_eq_true (by omega)] at t1
          have t2 := fun w => tN 0 5 w
          rw [decide_eq_false (by omega)] at t2
          clear tI tN
          go_wp2_with (first | (go_at_call 22; (with_reducible refine (t1 _).mono ?_); clear t1; rintro e w' ⟨rfl, hw⟩; obtain rfl := hw.symm) | (go_at_call 22; (with_reducible refine (t2 _).mono ?_); clear t2; rintro e w' ⟨rfl, hw⟩; obtain rfl := hw.symm))
          go_ret
          exact ⟨rfl, HBa.out⟩
        · have t1 := fun w => tI 0 9 w
          rw [decide_eq_true (by omega)] at t1
          have t2 := fun w => tN 0 5 w
          rw [decide_eq_false (by omega)] at t2
          clear tI tN
          go_wp2_with (first | (go_at_call 22; (with_reducible refine (t1 _).mono ?_); clear t1; rintro e w' ⟨rfl, hw⟩; obtain rfl := hw.symm) | (go_at_call 22; (with_reducible refine (t2 _).mono ?_); clear t2; rintro e w' ⟨rfl, hw⟩; obtain rfl := hw.symm))
          go_ret
          exact ⟨rfl, HBa.out⟩
      | true =>
        have HE := Hid.mkI (hk2 hkin)
        clear hk1 hk2
        unfold kinB at hkin
        simp only [decide_eq_true_eq] at hkin
        have e4 : (kd = 0 ∧ (0 ≤ num ∧ num ≤ 999999)) ∨ (kd = 1 ∧ (0 ≤ num ∧ num ≤ 5)) ∨ (kd = 6 ∧ (0 ≤ num ∧ num ≤ 5)) ∨ ((0 ≤ kd ∧ kd ≤ 9) ∧ kd ≠ 0 ∧ kd ≠ 1 ∧ kd ≠ 6) := by omega
        clear hkin
        have tP := rparts_any ⟨kd, num, pa, pb, pc⟩ (wr.alloc (.cells #[.int .i64 kd, .int .i64 num, .int .i64 pa, .int .i64 pb, .int .i64 pc] 47))
        simp only at tP
        obtain ⟨pl, hpl⟩ : ∃ pl, prtL ⟨kd, num, pa, pb, pc⟩ = pl := ⟨_, rfl⟩
        have hp3 := prtL_len ⟨kd, num, pa, pb, pc⟩
        rw [hpl] at tP HE hp3
        clear hpl
        rcases e4 with ⟨rfl, e⟩ | ⟨rfl, e⟩ | ⟨rfl, e⟩ | ⟨e, f0, f1, f6⟩
        · have t1 := fun w => tI 0 9 w
          rw [decide_eq_true (by omega)] at t1
          have t2 := fun w => tN 0 999999 w
          rw [decide_eq_true (by omega)] at t2
          clear tI tN
          go_wp2_with (first | (go_at_call 22; (with_reducible refine (t1 _).mono ?_); clear t1; rintro e w' ⟨rfl, hw⟩; obtain rfl := hw.symm) | (go_at_call 22; (with_reducible refine (t2 _).mono ?_); clear t2; rintro e w' ⟨rfl, hw⟩; obtain rfl := hw.symm) | (go_at_call 23; (with_reducible refine tP.mono ?_); clear tP; rintro e w2 ⟨a2, c2, rfl, hN, hB2⟩))
          clear x0 x1 x2 x3 x4 HBa
          have hPS := PrtSt.start ho hB hN hB2
          clear hN hB2 ho hB
          obtain ⟨xb, hxb⟩ : ∃ x, wr.heap.size = x := ⟨_, rfl⟩
          rw [hxb] at hPS
          go_wp2
          rw [hxb]
          clear hxb
          go_loopw [7] (fun p wr => ∃ (k : Nat) (v : Nat → Nat), k ≤ pl.length ∧ p = .int .i64 k ∧ Hid (nodC l (i + 1) = prtC l i 0 k (pl.drop k) v) ∧ Hid (∀ j, v j ≤ 1) ∧ PrtSt wr w n xb 0 a2 pl v) (fun p _ => pl.length - (intOf p).toNat)
          case atStart => exact ⟨0, u, by omega, rfl, HE, H1, hPS⟩
          case round =>
            clear hPS HE HU H1
            obtain ⟨k, v, hk, rfl, HE, H1, hPS⟩ := hrel
            by_cases hkt : k < pl.length
            · have hkI : (k : Int) < (pl.length : Int) := by omega
              have hk3 : (k : Int) ≤ 3 := by omega
              obtain ⟨P, hP⟩ : ∃ P, pl[k]? = some P := ⟨_, List.getElem?_eq_getElem hkt⟩
              have HE : Hid (nodC l (i + 1) = prtC l i 0 k (P :: pl.drop (k + 1)) v) := by show _ = _; rw [HE.out, drop_at hP]
              obtain ⟨b2, rfl, hb2, hc2⟩ : ∃ b2, a2 = some ⟨b2, 0, none⟩ ∧ w.heap.size < b2 ∧ ∀ (j : Nat) (v : Int), pl[j]? = some v → wr.cell? ⟨b2, j, none⟩ = some (.int .i64 v) := by
                rcases hPS.cp with h | h
                · rw [h] at hkt; exact absurd hkt (by simp)
                · exact h
              have cP := hc2 k P hP
              clear hc2
              obtain ⟨s1, s2⟩ := pwrap_int (a := (i : Int) - 1) (by omega) (by omega)
              have tR := fun w => rin_any P 0 ((i : Int) - 1) w
              by_cases hr : 0 ≤ P ∧ P ≤ (i : Int) - 1
              · rw [decide_eq_true hr] at tR
                obtain ⟨p, rfl⟩ := Int.eq_ofNat_of_zero_le hr.1
                have hpi : p < i := by omega
                have hpn : p < n := by omega
                have hpI : (p : Int) < (n : Int) := by omega
                have cu := hPS.own.cell p hpn
                have fu := hPS.own.free p hpn
                have t5 := fun w => rval_any 0 k w
                have HOx := fun hv0 => HO.out i k p 0 (pl.drop (k + 1)) v hpi hv0
                have HNx := fun hv0 => HN.out i k p 0 (pl.drop (k + 1)) v hpi hv0
                have HSx := Hid.mkI (fun u' h => HSt.out (i + 1) 3 u' h (by decide) (by omega))
                have hv := H1.out p
                have hv2 : v p = 0 ∨ v p = 1 := by omega
                rcases hv2 with hv0 | hv1
                · have HOx := Hid.mkI (HOx hv0)
                  have HNx := Hid.mkI (HNx hv0)
                  rw [hv0] at cu
                  have cu : wr.cell? ⟨w.heap.size, p, none⟩ = some (.int .i64 0) := cu
                  have hP1 : PrtSt (wr.setCell ⟨w.heap.size, p, none⟩ (.int .i64 1)) w n xb 0 _ pl (upd v p 1) := hPS.put 1 hpn
                  have cu1 := hP1.own.cell p hpn
                  rw [upd_same] at cu1
                  have cx1 := hP1.cx
                  have cP1 := (cell_far (W := wr) (b := b2) (o := k) (b' := w.heap.size) (o' := p) (v := .int .i64 1) (by omega)).trans cP
                  have y0 := (hs.below hP1.bel).c0 p hpn
                  obtain ⟨y, hy⟩ : ∃ y, (S p).kd = y := ⟨_, rfl⟩
                  rw [hy] at y0 HOx HNx
                  obtain ⟨q, hq⟩ : ∃ q, valB 0 k = q := ⟨_, rfl⟩
                  rw [hq] at t5 HOx HNx
                  obtain ⟨W1, hW1⟩ : ∃ W, wr.setCell ⟨w.heap.size, p, none⟩ (.int .i64 1) = W := ⟨_, rfl⟩
                  rw [hW1] at hP1 cu1 cx1 cP1 y0
                  have cu1 : W1.cell? ⟨w.heap.size, p, none⟩ = some (.int .i64 1) := cu1
                  have HH := Hid.mkI (upd_le H1.out p)
                  clear hy hq hPS hv0 hr hv
                  go_wp2_with (go_at_call 22; (with_reducible refine (tR _).mono ?_); clear tR; rintro e w' ⟨rfl, hw⟩; obtain rfl := hw.symm)
                  try rw [hW1]
                  clear hW1 cP cu fu
                  by_cases hy5 : y < 5
                  · have hd : decide (y < 5) = true := decide_eq_true hy5
                    cases q with
                    | false =>
                      obtain rfl : c = 3 := HSx.out (upd v p 1) (by rw [HE.out]; exact HOx.out (by rw [hd]; decide))
                      clear HSx HOx HNx HE hd
                      go_quiet ((go_at_call 24; exact Calls.quiet_of_same (t5 _)))
                      go_wp2
                      go_ret
                      exact ⟨rfl, (hP1.drawn nq).bel⟩
                    | true =>
                      have HE2 : Hid (nodC l (i + 1) = prtC l i 0 (k + 1) (pl.drop (k + 1)) (upd v p 1)) := by show _ = _; rw [HE.out]; exact HNx.out (by rw [hd])
                      clear HSx HOx HNx HE hd
                      go_quiet ((go_at_call 24; exact Calls.quiet_of_same (t5 _)))
                      go_wp2
                      go_roundw
                      case rel => exact ⟨k + 1, upd v p 1, by omega, by go_num, HE2, HH, hP1.drawn nq⟩
                      case measure => simp [intOf]; omega
                  · have hd : decide (y < 5) = false := decide_eq_false hy5
                    cases q with
                    | true =>
                      obtain rfl : c = 3 := HSx.out (upd v p 1) (by rw [HE.out]; exact HOx.out (by rw [hd]; decide))
                      clear HSx HOx HNx HE hd
                      go_quiet ((go_at_call 24; exact Calls.quiet_of_same (t5 _)))
                      go_wp2
                      go_ret
                      exact ⟨rfl, (hP1.drawn nq).bel⟩
                    | false =>
                      have HE2 : Hid (nodC l (i + 1) = prtC l i 0 (k + 1) (pl.drop (k + 1)) (upd v p 1)) := by show _ = _; rw [HE.out]; exact HNx.out (by rw [hd])
                      clear HSx HOx HNx HE hd
                      go_quiet ((go_at_call 24; exact Calls.quiet_of_same (t5 _)))
                      go_wp2
                      go_roundw
                      case rel => exact ⟨k + 1, upd v p 1, by omega, by go_num, HE2, HH, hP1.drawn nq⟩
                      case measure => simp [intOf]; omega
                · rw [hv1] at cu
                  have cu : wr.cell? ⟨w.heap.size, p, none⟩ = some (.int .i64 1) := cu
                  obtain rfl : c = 3 := HSx.out (upd v p 2) (by rw [HE.out]; exact prtC_two hpi hv1)
                  have hP1 : PrtSt (wr.setCell ⟨w.heap.size, p, none⟩ (.int .i64 2)) w n xb 0 _ pl (upd v p 2) := hPS.put 2 hpn
                  have cu1 := hP1.own.cell p hpn
                  rw [upd_same] at cu1
                  have cx1 := hP1.cx
                  have cP1 := (cell_far (W := wr) (b := b2) (o := k) (b' := w.heap.size) (o' := p) (v := .int .i64 2) (by omega)).trans cP
                  obtain ⟨W1, hW1⟩ : ∃ W, wr.setCell ⟨w.heap.size, p, none⟩ (.int .i64 2) = W := ⟨_, rfl⟩
                  rw [hW1] at hP1 cu1 cx1 cP1
                  have cu1 : W1.cell? ⟨w.heap.size, p, none⟩ = some (.int .i64 2) := cu1
                  clear HOx HNx HSx hPS HE hr hv t5
                  go_wp2_with (go_at_call 22; (with_reducible refine (tR _).mono ?_); clear tR; rintro e w' ⟨rfl, hw⟩; obtain rfl := hw.symm)
                  try rw [hW1]
                  clear hW1 cP cu fu
                  go_quiet (fail)
                  go_wp2
                  go_ret
                  exact ⟨rfl, (hP1.drawn nq).bel⟩
              · rw [decide_eq_false hr] at tR
                obtain rfl : c = 1 := HSt.out (i + 1) 1 v (by rw [HE.out]; exact prtC_bad (by omega)) (by decide) (by omega)
                have hBe := hPS.bel
                clear hPS HE hr
                go_wp2_with (go_at_call 22; (with_reducible refine (tR _).mono ?_); clear tR; rintro e w' ⟨rfl, hw⟩; obtain rfl := hw.symm)
                go_ret
                exact ⟨rfl, hBe⟩
            · obtain rfl : k = pl.length := by omega
              have HE2 : Hid (nodC l (i + 1) = (0, v)) := by show _ = _; rw [HE.out, List.drop_length]; rfl
              have ho := hPS.own
              have hB := hPS.bel
              clear hPS HE
              go_wp2
              go_roundw
              case rel => exact ⟨i + 1, v, by omega, by go_num, HE2, H1, ho, hB⟩
              case measure => simp [intOf]; omega
        · have t1 := fun w => tI 0 9 w
          rw [decide_eq_true (by omega)] at t1
          have t2 := fun w => tN 0 5 w
          rw [decide_eq_true (by omega)] at t2
          clear tI tN
          go_wp2_with (first | (go_at_call 22; (with_reducible refine (t1 _).mono ?_); clear t1; rintro e w' ⟨rfl, hw⟩; obtain rfl := hw.symm) | (go_at_call 22; (with_reducible refine (t2 _).mono ?_); clear t2; rintro e w' ⟨rfl, hw⟩; obtain rfl := hw.symm) | (go_at_call 23; (with_reducible refine tP.mono ?_); clear tP; rintro e w2 ⟨a2, c2, rfl, hN, hB2⟩))
          clear x0 x1 x2 x3 x4 HBa
          have hPS := PrtSt.start ho hB hN hB2
          clear hN hB2 ho hB
          obtain ⟨xb, hxb⟩ : ∃ x, wr.heap.size = x := ⟨_, rfl⟩
          rw [hxb] at hPS
          go_wp2
          rw [hxb]
          clear hxb
          go_loopw [7] (fun p wr => ∃ (k : Nat) (v : Nat → Nat), k ≤ pl.length ∧ p = .int .i64 k ∧ Hid (nodC l (i + 1) = prtC l i 1 k (pl.drop k) v) ∧ Hid (∀ j, v j ≤ 1) ∧ PrtSt wr w n xb 1 a2 pl v) (fun p _ => pl.length - (intOf p).toNat)
          case atStart => exact ⟨0, u, by omega, rfl, HE, H1, hPS⟩
          case round =>
            clear hPS HE HU H1
            obtain ⟨k, v, hk, rfl, HE, H1, hPS⟩ := hrel
            by_cases hkt : k < pl.length
            · have hkI : (k : Int) < (pl.length : Int) := by omega
              have hk3 : (k : Int) ≤ 3 := by omega
              obtain ⟨P, hP⟩ : ∃ P, pl[k]? = some P := ⟨_, List.getElem?_eq_getElem hkt⟩
              have HE : Hid (nodC l (i + 1) = prtC l i 1 k (P :: pl.drop (k + 1)) v) := by show _ = _; rw [HE.out, drop_at hP]
              obtain ⟨b2, rfl, hb2, hc2⟩ : ∃ b2, a2 = some ⟨b2, 0, none⟩ ∧ w.heap.size < b2 ∧ ∀ (j : Nat) (v : Int), pl[j]? = some v → wr.cell? ⟨b2, j, none⟩ = some (.int .i64 v) := by
                rcases hPS.cp with h | h
                · rw [h] at hkt; exact absurd hkt (by simp)
                · exact h
              have cP := hc2 k P hP
              clear hc2
              obtain ⟨s1, s2⟩ := pwrap_int (a := (i : Int) - 1) (by omega) (by omega)
              have tR := fun w => rin_any P 0 ((i : Int) - 1) w
              by_cases hr : 0 ≤ P ∧ P ≤ (i : Int) - 1
              · rw [decide_eq_true hr] at tR
                obtain ⟨p, rfl⟩ := Int.eq_ofNat_of_zero_le hr.1
                have hpi : p < i := by omega
                have hpn : p < n := by omega
                have hpI : (p : Int) < (n : Int) := by omega
                have cu := hPS.own.cell p hpn
                have fu := hPS.own.free p hpn
                have t5 := fun w => rval_any 1 k w
                have HOx := fun hv0 => HO.out i k p 1 (pl.drop (k + 1)) v hpi hv0
                have HNx := fun hv0 => HN.out i k p 1 (pl.drop (k + 1)) v hpi hv0
                have HSx := Hid.mkI (fun u' h => HSt.out (i + 1) 3 u' h (by decide) (by omega))
                have hv := H1.out p
                have hv2 : v p = 0 ∨ v p = 1 := by omega
                rcases hv2 with hv0 | hv1
                · have HOx := Hid.mkI (HOx hv0)
                  have HNx := Hid.mkI (HNx hv0)
                  rw [hv0] at cu
                  have cu : wr.cell? ⟨w.heap.size, p, none⟩ = some (.int .i64 0) := cu
                  have hP1 : PrtSt (wr.setCell ⟨w.heap.size, p, none⟩ (.int .i64 1)) w n xb 1 _ pl (upd v p 1) := hPS.put 1 hpn
                  have cu1 := hP1.own.cell p hpn
                  rw [upd_same] at cu1
                  have cx1 := hP1.cx
                  have cP1 := (cell_far (W := wr) (b := b2) (o := k) (b' := w.heap.size) (o' := p) (v := .int .i64 1) (by omega)).trans cP
                  have y0 := (hs.below hP1.bel).c0 p hpn
                  obtain ⟨y, hy⟩ : ∃ y, (S p).kd = y := ⟨_, rfl⟩
                  rw [hy] at y0 HOx HNx
                  obtain ⟨q, hq⟩ : ∃ q, valB 1 k = q := ⟨_, rfl⟩
                  rw [hq] at t5 HOx HNx
                  obtain ⟨W1, hW1⟩ : ∃ W, wr.setCell ⟨w.heap.size, p, none⟩ (.int .i64 1) = W := ⟨_, rfl⟩
                  rw [hW1] at hP1 cu1 cx1 cP1 y0
                  have cu1 : W1.cell? ⟨w.heap.size, p, none⟩ = some (.int .i64 1) := cu1
                  have HH := Hid.mkI (upd_le H1.out p)
                  clear hy hq hPS hv0 hr hv
                  go_wp2_with (go_at_call 22; (with_reducible refine (tR _).mono ?_); clear tR; rintro e w' ⟨rfl, hw⟩; obtain rfl := hw.symm)
                  try rw [hW1]
                  clear hW1 cP cu fu
                  by_cases hy5 : y < 5
                  · have hd : decide (y < 5) = true := decide_eq_true hy5
                    cases q with
                    | false =>
                      obtain rfl : c = 3 := HSx.out (upd v p 1) (by rw [HE.out]; exact HOx.out (by rw [hd]; decide))
                      clear HSx HOx HNx HE hd
                      go_quiet ((go_at_call 24; exact Calls.quiet_of_same (t5 _)))
                      go_wp2
                      go_ret
                      exact ⟨rfl, (hP1.drawn nq).bel⟩
                    | true =>
                      have HE2 : Hid (nodC l (i + 1) = prtC l i 1 (k + 1) (pl.drop (k + 1)) (upd v p 1)) := by show _ = _; rw [HE.out]; exact HNx.out (by rw [hd])
                      clear HSx HOx HNx HE hd
                      go_quiet ((go_at_call 24; exact Calls.quiet_of_same (t5 _)))
                      go_wp2
                      go_roundw
                      case rel => exact ⟨k + 1, upd v p 1, by omega, by go_num, HE2, HH, hP1.drawn nq⟩
                      case measure => simp [intOf]; omega
                  · have hd : decide (y < 5) = false := decide_eq_false hy5
                    cases q with
                    | true =>
                      obtain rfl : c = 3 := HSx.out (upd v p 1) (by rw [HE.out]; exact HOx.out (by rw [hd]; decide))
                      clear HSx HOx HNx HE hd
                      go_quiet ((go_at_call 24; exact Calls.quiet_of_same (t5 _)))
                      go_wp2
                      go_ret
                      exact ⟨rfl, (hP1.drawn nq).bel⟩
                    | false =>
                      have HE2 : Hid (nodC l (i + 1) = prtC l i 1 (k + 1) (pl.drop (k + 1)) (upd v p 1)) := by show _ = _; rw [HE.out]; exact HNx.out (by rw [hd])
                      clear HSx HOx HNx HE hd
                      go_quiet ((go_at_call 24; exact Calls.quiet_of_same (t5 _)))
                      go_wp2
                      go_roundw
                      case rel => exact ⟨k + 1, upd v p 1, by omega, by go_num, HE2, HH, hP1.drawn nq⟩
                      case measure => simp [intOf]; omega
                · rw [hv1] at cu
                  have cu : wr.cell? ⟨w.heap.size, p, none⟩ = some (.int .i64 1) := cu
                  obtain rfl : c = 3 := HSx.out (upd v p 2) (by rw [HE.out]; exact prtC_two hpi hv1)
                  have hP1 : PrtSt (wr.setCell ⟨w.heap.size, p, none⟩ (.int .i64 2)) w n xb 1 _ pl (upd v p 2) := hPS.put 2 hpn
                  have cu1 := hP1.own.cell p hpn
                  rw [upd_same] at cu1
                  have cx1 := hP1.cx
                  have cP1 := (cell_far (W := wr) (b := b2) (o := k) (b' := w.heap.size) (o' := p) (v := .int .i64 2) (by omega)).trans cP
                  obtain ⟨W1, hW1⟩ : ∃ W, wr.setCell ⟨w.heap.size, p, none⟩ (.int .i64 2) = W := ⟨_, rfl⟩
                  rw [hW1] at hP1 cu1 cx1 cP1
                  have cu1 : W1.cell? ⟨w.heap.size, p, none⟩ = some (.int .i64 2) := cu1
                  clear HOx HNx HSx hPS HE hr hv t5
                  go_wp2_with (go_at_call 22; (with_reducible refine (tR _).mono ?_); clear tR; rintro e w' ⟨rfl, hw⟩; obtain rfl := hw.symm)
                  try rw [hW1]
                  clear hW1 cP cu fu
                  go_quiet (fail)
                  go_wp2
                  go_ret
                  exact ⟨rfl, (hP1.drawn nq).bel⟩
              · rw [decide_eq_false hr] at tR
                obtain rfl : c = 1 := HSt.out (i + 1) 1 v (by rw [HE.out]; exact prtC_bad (by omega)) (by decide) (by omega)
                have hBe := hPS.bel
                clear hPS HE hr
                go_wp2_with (go_at_call 22; (with_reducible refine (tR _).mono ?_); clear tR; rintro e w' ⟨rfl, hw⟩; obtain rfl := hw.symm)
                go_ret
                exact ⟨rfl, hBe⟩
            · obtain rfl : k = pl.length := by omega
              have HE2 : Hid (nodC l (i + 1) = (0, v)) := by show _ = _; rw [HE.out, List.drop_length]; rfl
              have ho := hPS.own
              have hB := hPS.bel
              clear hPS HE
              go_wp2
              go_roundw
              case rel => exact ⟨i + 1, v, by omega, by go_num, HE2, H1, ho, hB⟩
              case measure => simp [intOf]; omega
        · have t1 := fun w => tI 0 9 w
          rw [decide_eq_true (by omega)] at t1
          have t2 := fun w => tN 0 5 w
          rw [decide_eq_true (by omega)] at t2
          clear tI tN
          go_wp2_with (first | (go_at_call 22; (with_reducible refine (t1 _).mono ?_); clear t1; rintro e w' ⟨rfl, hw⟩; obtain rfl := hw.symm) | (go_at_call 22; (with_reducible refine (t2 _).mono ?_); clear t2; rintro e w' ⟨rfl, hw⟩; obtain rfl := hw.symm) | (go_at_call 23; (with_reducible refine tP.mono ?_); clear tP; rintro e w2 ⟨a2, c2, rfl, hN, hB2⟩))
          clear x0 x1 x2 x3 x4 HBa
          have hPS := PrtSt.start ho hB hN hB2
          clear hN hB2 ho hB
          obtain ⟨xb, hxb⟩ : ∃ x, wr.heap.size = x := ⟨_, rfl⟩
          rw [hxb] at hPS
          go_wp2
          rw [hxb]
          clear hxb
          go_loopw [7] (fun p wr => ∃ (k : Nat) (v : Nat → Nat), k ≤ pl.length ∧ p = .int .i64 k ∧ Hid (nodC l (i + 1) = prtC l i 6 k (pl.drop k) v) ∧ Hid (∀ j, v j ≤ 1) ∧ PrtSt wr w n xb 6 a2 pl v) (fun p _ => pl.length - (intOf p).toNat)
          case atStart => exact ⟨0, u, by omega, rfl, HE, H1, hPS⟩
          case round =>
            clear hPS HE HU H1
            obtain ⟨k, v, hk, rfl, HE, H1, hPS⟩ := hrel
            by_cases hkt : k < pl.length
            · have hkI : (k : Int) < (pl.length : Int) := by omega
              have hk3 : (k : Int) ≤ 3 := by omega
              obtain ⟨P, hP⟩ : ∃ P, pl[k]? = some P := ⟨_, List.getElem?_eq_getElem hkt⟩
              have HE : Hid (nodC l (i + 1) = prtC l i 6 k (P :: pl.drop (k + 1)) v) := by show _ = _; rw [HE.out, drop_at hP]
              obtain ⟨b2, rfl, hb2, hc2⟩ : ∃ b2, a2 = some ⟨b2, 0, none⟩ ∧ w.heap.size < b2 ∧ ∀ (j : Nat) (v : Int), pl[j]? = some v → wr.cell? ⟨b2, j, none⟩ = some (.int .i64 v) := by
                rcases hPS.cp with h | h
                · rw [h] at hkt; exact absurd hkt (by simp)
                · exact h
              have cP := hc2 k P hP
              clear hc2
              obtain ⟨s1, s2⟩ := pwrap_int (a := (i : Int) - 1) (by omega) (by omega)
              have tR := fun w => rin_any P 0 ((i : Int) - 1) w
              by_cases hr : 0 ≤ P ∧ P ≤ (i : Int) - 1
              · rw [decide_eq_true hr] at tR
                obtain ⟨p, rfl⟩ := Int.eq_ofNat_of_zero_le hr.1
                have hpi : p < i := by omega
                have hpn : p < n := by omega
                have hpI : (p : Int) < (n : Int) := by omega
                have cu := hPS.own.cell p hpn
                have fu := hPS.own.free p hpn
                have t5 := fun w => rval_any 6 k w
                have HOx := fun hv0 => HO.out i k p 6 (pl.drop (k + 1)) v hpi hv0
                have HNx := fun hv0 => HN.out i k p 6 (pl.drop (k + 1)) v hpi hv0
                have HSx := Hid.mkI (fun u' h => HSt.out (i + 1) 3 u' h (by decide) (by omega))
                have hv := H1.out p
                have hv2 : v p = 0 ∨ v p = 1 := by omega
                rcases hv2 with hv0 | hv1
                · have HOx := Hid.mkI (HOx hv0)
                  have HNx := Hid.mkI (HNx hv0)
                  rw [hv0] at cu
                  have cu : wr.cell? ⟨w.heap.size, p, none⟩ = some (.int .i64 0) := cu
                  have hP1 : PrtSt (wr.setCell ⟨w.heap.size, p, none⟩ (.int .i64 1)) w n xb 6 _ pl (upd v p 1) := hPS.put 1 hpn
                  have cu1 := hP1.own.cell p hpn
                  rw [upd_same] at cu1
                  have cx1 := hP1.cx
                  have cP1 := (cell_far (W := wr) (b := b2) (o := k) (b' := w.heap.size) (o' := p) (v := .int .i64 1) (by omega)).trans cP
                  have y0 := (hs.below hP1.bel).c0 p hpn
                  obtain ⟨y, hy⟩ : ∃ y, (S p).kd = y := ⟨_, rfl⟩
                  rw [hy] at y0 HOx HNx
                  obtain ⟨q, hq⟩ : ∃ q, valB 6 k = q := ⟨_, rfl⟩
                  rw [hq] at t5 HOx HNx
                  obtain ⟨W1, hW1⟩ : ∃ W, wr.setCell ⟨w.heap.size, p, none⟩ (.int .i64 1) = W := ⟨_, rfl⟩
                  rw [hW1] at hP1 cu1 cx1 cP1 y0
                  have cu1 : W1.cell? ⟨w.heap.size, p, none⟩ = some (.int .i64 1) := cu1
                  have HH := Hid.mkI (upd_le H1.out p)
                  clear hy hq hPS hv0 hr hv
                  go_wp2_with (go_at_call 22; (with_reducible refine (tR _).mono ?_); clear tR; rintro e w' ⟨rfl, hw⟩; obtain rfl := hw.symm)
                  try rw [hW1]
                  clear hW1 cP cu fu
                  by_cases hy5 : y < 5
                  · have hd : decide (y < 5) = true := decide_eq_true hy5
                    cases q with
                    | false =>
                      obtain rfl : c = 3 := HSx.out (upd v p 1) (by rw [HE.out]; exact HOx.out (by rw [hd]; decide))
                      clear HSx HOx HNx HE hd
                      go_quiet ((go_at_call 24; exact Calls.quiet_of_same (t5 _)))
                      go_wp2
                      go_ret
                      exact ⟨rfl, (hP1.drawn nq).bel⟩
                    | true =>
                      have HE2 : Hid (nodC l (i + 1) = prtC l i 6 (k + 1) (pl.drop (k + 1)) (upd v p 1)) := by show _ = _; rw [HE.out]; exact HNx.out (by rw [hd])
                      clear HSx HOx HNx HE hd
                      go_quiet ((go_at_call 24; exact Calls.quiet_of_same (t5 _)))
                      go_wp2
                      go_roundw
                      case rel => exact ⟨k + 1, upd v p 1, by omega, by go_num, HE2, HH, hP1.drawn nq⟩
                      case measure => simp [intOf]; omega
                  · have hd : decide (y < 5) = false := decide_eq_false hy5
                    cases q with
                    | true =>
                      obtain rfl : c = 3 := HSx.out (upd v p 1) (by rw [HE.out]; exact HOx.out (by rw [hd]; decide))
                      clear HSx HOx HNx HE hd
                      go_quiet ((go_at_call 24; exact Calls.quiet_of_same (t5 _)))
                      go_wp2
                      go_ret
                      exact ⟨rfl, (hP1.drawn nq).bel⟩
                    | false =>
                      have HE2 : Hid (nodC l (i + 1) = prtC l i 6 (k + 1) (pl.drop (k + 1)) (upd v p 1)) := by show _ = _; rw [HE.out]; exact HNx.out (by rw [hd])
                      clear HSx HOx HNx HE hd
                      go_quiet ((go_at_call 24; exact Calls.quiet_of_same (t5 _)))
                      go_wp2
                      go_roundw
                      case rel => exact ⟨k + 1, upd v p 1, by omega, by go_num, HE2, HH, hP1.drawn nq⟩
                      case measure => simp [intOf]; omega
                · rw [hv1] at cu
                  have cu : wr.cell? ⟨w.heap.size, p, none⟩ = some (.int .i64 1) := cu
                  obtain rfl : c = 3 := HSx.out (upd v p 2) (by rw [HE.out]; exact prtC_two hpi hv1)
                  have hP1 : PrtSt (wr.setCell ⟨w.heap.size, p, none⟩ (.int .i64 2)) w n xb 6 _ pl (upd v p 2) := hPS.put 2 hpn
                  have cu1 := hP1.own.cell p hpn
                  rw [upd_same] at cu1
                  have cx1 := hP1.cx
                  have cP1 := (cell_far (W := wr) (b := b2) (o := k) (b' := w.heap.size) (o' := p) (v := .int .i64 2) (by omega)).trans cP
                  obtain ⟨W1, hW1⟩ : ∃ W, wr.setCell ⟨w.heap.size, p, none⟩ (.int .i64 2) = W := ⟨_, rfl⟩
                  rw [hW1] at hP1 cu1 cx1 cP1
                  have cu1 : W1.cell? ⟨w.heap.size, p, none⟩ = some (.int .i64 2) := cu1
                  clear HOx HNx HSx hPS HE hr hv t5
                  go_wp2_with (go_at_call 22; (with_reducible refine (tR _).mono ?_); clear tR; rintro e w' ⟨rfl, hw⟩; obtain rfl := hw.symm)
                  try rw [hW1]
                  clear hW1 cP cu fu
                  go_quiet (fail)
                  go_wp2
                  go_ret
                  exact ⟨rfl, (hP1.drawn nq).bel⟩
              · rw [decide_eq_false hr] at tR
                obtain rfl : c = 1 := HSt.out (i + 1) 1 v (by rw [HE.out]; exact prtC_bad (by omega)) (by decide) (by omega)
                have hBe := hPS.bel
                clear hPS HE hr
                go_wp2_with (go_at_call 22; (with_reducible refine (tR _).mono ?_); clear tR; rintro e w' ⟨rfl, hw⟩; obtain rfl := hw.symm)
                go_ret
                exact ⟨rfl, hBe⟩
            · obtain rfl : k = pl.length := by omega
              have HE2 : Hid (nodC l (i + 1) = (0, v)) := by show _ = _; rw [HE.out, List.drop_length]; rfl
              have ho := hPS.own
              have hB := hPS.bel
              clear hPS HE
              go_wp2
              go_roundw
              case rel => exact ⟨i + 1, v, by omega, by go_num, HE2, H1, ho, hB⟩
              case measure => simp [intOf]; omega
        · have f0 : (kd == 0) = false := by simpa using f0
          have f1 : (kd == 1) = false := by simpa using f1
          have f6 : (kd == 6) = false := by simpa using f6
          have t1 := fun w => tI 0 9 w
          rw [decide_eq_true (by omega)] at t1
          clear tI tN
          go_wp2_with (first | (go_at_call 22; (with_reducible refine (t1 _).mono ?_); clear t1; rintro e w' ⟨rfl, hw⟩; obtain rfl := hw.symm) | (go_at_call 23; (with_reducible refine tP.mono ?_); clear tP; rintro e w2 ⟨a2, c2, rfl, hN, hB2⟩))
          clear x0 x1 x2 x3 x4 HBa
          have hPS := PrtSt.start ho hB hN hB2
          clear hN hB2 ho hB
          obtain ⟨xb, hxb⟩ : ∃ x, wr.heap.size = x := ⟨_, rfl⟩
          rw [hxb] at hPS
          go_wp2
          rw [hxb]
          clear hxb
          go_loopw [7] (fun p wr => ∃ (k : Nat) (v : Nat → Nat), k ≤ pl.length ∧ p = .int .i64 k ∧ Hid (nodC l (i + 1) = prtC l i kd k (pl.drop k) v) ∧ Hid (∀ j, v j ≤ 1) ∧ PrtSt wr w n xb kd a2 pl v) (fun p _ => pl.length - (intOf p).toNat)
          case atStart => exact ⟨0, u, by omega, rfl, HE, H1, hPS⟩
          case round =>
            clear hPS HE HU H1
            obtain ⟨k, v, hk, rfl, HE, H1, hPS⟩ := hrel
            by_cases hkt : k < pl.length
            · have hkI : (k : Int) < (pl.length : Int) := by omega
              have hk3 : (k : Int) ≤ 3 := by omega
              obtain ⟨P, hP⟩ : ∃ P, pl[k]? = some P := ⟨_, List.getElem?_eq_getElem hkt⟩
              have HE : Hid (nodC l (i + 1) = prtC l i kd k (P :: pl.drop (k + 1)) v) := by show _ = _; rw [HE.out, drop_at hP]
              obtain ⟨b2, rfl, hb2, hc2⟩ : ∃ b2, a2 = some ⟨b2, 0, none⟩ ∧ w.heap.size < b2 ∧ ∀ (j : Nat) (v : Int), pl[j]? = some v → wr.cell? ⟨b2, j, none⟩ = some (.int .i64 v) := by
                rcases hPS.cp with h | h
                · rw [h] at hkt; exact absurd hkt (by simp)
                · exact h
              have cP := hc2 k P hP
              clear hc2
              obtain ⟨s1, s2⟩ := pwrap_int (a := (i : Int) - 1) (by omega) (by omega)
              have tR := fun w => rin_any P 0 ((i : Int) - 1) w
              by_cases hr : 0 ≤ P ∧ P ≤ (i : Int) - 1
              · rw [decide_eq_true hr] at tR
                obtain ⟨p, rfl⟩ := Int.eq_ofNat_of_zero_le hr.1
                have hpi : p < i := by omega
                have hpn : p < n := by omega
                have hpI : (p : Int) < (n : Int) := by omega
                have cu := hPS.own.cell p hpn
                have fu := hPS.own.free p hpn
                have t5 := fun w => rval_any kd k w
                have HOx := fun hv0 => HO.out i k p kd (pl.drop (k + 1)) v hpi hv0
                have HNx := fun hv0 => HN.out i k p kd (pl.drop (k + 1)) v hpi hv0
                have HSx := Hid.mkI (fun u' h => HSt.out (i + 1) 3 u' h (by decide) (by omega))
                have hv := H1.out p
                have hv2 : v p = 0 ∨ v p = 1 := by omega
                rcases hv2 with hv0 | hv1
                · have HOx := Hid.mkI (HOx hv0)
                  have HNx := Hid.mkI (HNx hv0)
                  rw [hv0] at cu
                  have cu : wr.cell? ⟨w.heap.size, p, none⟩ = some (.int .i64 0) := cu
                  have hP1 : PrtSt (wr.setCell ⟨w.heap.size, p, none⟩ (.int .i64 1)) w n xb kd _ pl (upd v p 1) := hPS.put 1 hpn
                  have cu1 := hP1.own.cell p hpn
                  rw [upd_same] at cu1
                  have cx1 := hP1.cx
                  have cP1 := (cell_far (W := wr) (b := b2) (o := k) (b' := w.heap.size) (o' := p) (v := .int .i64 1) (by omega)).trans cP
                  have y0 := (hs.below hP1.bel).c0 p hpn
                  obtain ⟨y, hy⟩ : ∃ y, (S p).kd = y := ⟨_, rfl⟩
                  rw [hy] at y0 HOx HNx
                  obtain ⟨q, hq⟩ : ∃ q, valB kd k = q := ⟨_, rfl⟩
                  rw [hq] at t5 HOx HNx
                  obtain ⟨W1, hW1⟩ : ∃ W, wr.setCell ⟨w.heap.size, p, none⟩ (.int .i64 1) = W := ⟨_, rfl⟩
                  rw [hW1] at hP1 cu1 cx1 cP1 y0
                  have cu1 : W1.cell? ⟨w.heap.size, p, none⟩ = some (.int .i64 1) := cu1
                  have HH := Hid.mkI (upd_le H1.out p)
                  clear hy hq hPS hv0 hr hv
                  go_wp2_with (go_at_call 22; (with_reducible refine (tR _).mono ?_); clear tR; rintro e w' ⟨rfl, hw⟩; obtain rfl := hw.symm)
                  try rw [hW1]
                  clear hW1 cP cu fu
                  by_cases hy5 : y < 5
                  · have hd : decide (y < 5) = true := decide_eq_true hy5
                    cases q with
                    | false =>
                      obtain rfl : c = 3 := HSx.out (upd v p 1) (by rw [HE.out]; exact HOx.out (by rw [hd]; decide))
                      clear HSx HOx HNx HE hd
                      go_quiet ((go_at_call 24; exact Calls.quiet_of_same (t5 _)))
                      go_wp2
                      go_ret
                      exact ⟨rfl, (hP1.drawn nq).bel⟩
                    | true =>
                      have HE2 : Hid (nodC l (i + 1) = prtC l i kd (k + 1) (pl.drop (k + 1)) (upd v p 1)) := by show _ = _; rw [HE.out]; exact HNx.out (by rw [hd])
                      clear HSx HOx HNx HE hd
                      go_quiet ((go_at_call 24; exact Calls.quiet_of_same (t5 _)))
                      go_wp2
                      go_roundw
                      case rel => exact ⟨k + 1, upd v p 1, by omega, by go_num, HE2, HH, hP1.drawn nq⟩
                      case measure => simp [intOf]; omega
                  · have hd : decide (y < 5) = false := decide_eq_false hy5
                    cases q with
                    | true =>
                      obtain rfl : c = 3 := HSx.out (upd v p 1) (by rw [HE.out]; exact HOx.out (by rw [hd]; decide))
                      clear HSx HOx HNx HE hd
                      go_quiet ((go_at_call 24; exact Calls.quiet_of_same (t5 _)))
                      go_wp2
                      go_ret
                      exact ⟨rfl, (hP1.drawn nq).bel⟩
                    | false =>
                      have HE2 : Hid (nodC l (i + 1) = prtC l i kd (k + 1) (pl.drop (k + 1)) (upd v p 1)) := by show _ = _; rw [HE.out]; exact HNx.out (by rw [hd])
                      clear HSx HOx HNx HE hd
                      go_quiet ((go_at_call 24; exact Calls.quiet_of_same (t5 _)))
                      go_wp2
                      go_roundw
                      case rel => exact ⟨k + 1, upd v p 1, by omega, by go_num, HE2, HH, hP1.drawn nq⟩
                      case measure => simp [intOf]; omega
                · rw [hv1] at cu
                  have cu : wr.cell? ⟨w.heap.size, p, none⟩ = some (.int .i64 1) := cu
                  obtain rfl : c = 3 := HSx.out (upd v p 2) (by rw [HE.out]; exact prtC_two hpi hv1)
                  have hP1 : PrtSt (wr.setCell ⟨w.heap.size, p, none⟩ (.int .i64 2)) w n xb kd _ pl (upd v p 2) := hPS.put 2 hpn
                  have cu1 := hP1.own.cell p hpn
                  rw [upd_same] at cu1
                  have cx1 := hP1.cx
                  have cP1 := (cell_far (W := wr) (b := b2) (o := k) (b' := w.heap.size) (o' := p) (v := .int .i64 2) (by omega)).trans cP
                  obtain ⟨W1, hW1⟩ : ∃ W, wr.setCell ⟨w.heap.size, p, none⟩ (.int .i64 2) = W := ⟨_, rfl⟩
                  rw [hW1] at hP1 cu1 cx1 cP1
                  have cu1 : W1.cell? ⟨w.heap.size, p, none⟩ = some (.int .i64 2) := cu1
                  clear HOx HNx HSx hPS HE hr hv t5
                  go_wp2_with (go_at_call 22; (with_reducible refine (tR _).mono ?_); clear tR; rintro e w' ⟨rfl, hw⟩; obtain rfl := hw.symm)
                  try rw [hW1]
                  clear hW1 cP cu fu
                  go_quiet (fail)
                  go_wp2
                  go_ret
                  exact ⟨rfl, (hP1.drawn nq).bel⟩
              · rw [decide_eq_false hr] at tR
                obtain rfl : c = 1 := HSt.out (i + 1) 1 v (by rw [HE.out]; exact prtC_bad (by omega)) (by decide) (by omega)
                have hBe := hPS.bel
                clear hPS HE hr
                go_wp2_with (go_at_call 22; (with_reducible refine (tR _).mono ?_); clear tR; rintro e w' ⟨rfl, hw⟩; obtain rfl := hw.symm)
                go_ret
                exact ⟨rfl, hBe⟩
            · obtain rfl : k = pl.length := by omega
              have HE2 : Hid (nodC l (i + 1) = (0, v)) := by show _ = _; rw [HE.out, List.drop_length]; rfl
              have ho := hPS.own
              have hB := hPS.bel
              clear hPS HE
              go_wp2
              go_roundw
              case rel => exact ⟨i + 1, v, by omega, by go_num, HE2, H1, ho, hB⟩
              case measure => simp [intOf]; omega
    · obtain rfl : i = n := by omega
      have HC := Hid.mkI (HEnd.out u HU.out)
      obtain ⟨m, hm⟩ : ∃ m, i = m + 1 := ⟨i - 1, by omega⟩
      have hmI : (i : Int) = (m : Int) + 1 := by omega
      clear HK HG HO HN HSt HEnd HU H1
      have s3 : (i : Int) - 1 = (m : Int) := by omega
      obtain ⟨s1, s2⟩ := pwrap_eq s3 (by omega)
      have y0 := (hs.below hB).c0 m (by omega)
      have hmi : (m : Int) < (i : Int) := by omega
      clear hs
      go_wp2
      go_loop [8] (fun p => ∃ j : Nat, j ≤ m ∧ p = .int .i64 j ∧ Hid (∀ t, t < j → u t ≠ 0)) (fun p => i - (intOf p).toNat)
      case atStart => exact ⟨0, by omega, rfl, fun t ht => absurd ht (by omega)⟩
      case round =>
        obtain ⟨j, hj, rfl, HZ⟩ := hrel
        by_cases hjm : j < m
        · have cu := ho.cell j (by omega)
          have hjI : (j : Int) + 1 < (i : Int) := by omega
          have hjI2 : (j : Int) < (i : Int) := by omega
          by_cases hz : u j = 0
          · obtain rfl : c = 3 := by
              rw [HC.out, if_pos (List.any_eq_true.2 ⟨j, List.mem_range.2 (by omega), by simp [hz]⟩)]
            rw [hz] at cu
            have cu : wr.cell? ⟨w.heap.size, j, none⟩ = some (.int .i64 0) := cu
            clear HC hz ho y0 s3 s1 s2
            go_wp2
            go_ret
            exact ⟨rfl, hB⟩
          · have HZ2 : Hid (∀ t, t < j + 1 → u t ≠ 0) := fun t ht => by
              by_cases e : t = j
              · subst e; exact hz
              · exact HZ.out t (by omega)
            obtain ⟨x, hx⟩ : ∃ x, u j = x := ⟨_, rfl⟩
            rw [hx] at cu hz
            have hzI : ((x : Int) == 0) = false := by simpa using (show (x : Int) ≠ 0 by omega)
            clear hx hz HC ho y0 s3 s1 s2
            go_wp2
            go_round
            case rel => exact ⟨j + 1, by omega, by go_num, HZ2⟩
            case measure => simp [intOf]; omega
        · obtain rfl : j = m := by omega
          have hany : (List.range (i - 1)).any (fun i => u i == 0) = false := by
            rw [List.any_eq_false]
            intro t ht
            have := HZ.out t (by have := List.mem_range.1 ht; omega)
            simpa using this
          have HC : Hid (c = if (S j).kd < 5 then 3 else 0) := by show _ = _; rw [HC.out, hany, if_neg (by simp), show i - 1 = j by omega]
          obtain ⟨y, hy⟩ : ∃ y, (S j).kd = y := ⟨_, rfl⟩
          rw [hy] at y0 HC
          have hge : (i : Int) ≤ (j : Int) + 1 := by omega
          have hji : (j : Int) < (i : Int) := by omega
          clear hany hy HZ ho
          by_cases hy5 : y < 5
          · obtain rfl : c = 3 := by rw [HC.out, if_pos hy5]
            clear HC
            go_wp2
            go_ret
            exact ⟨rfl, hB⟩
          · obtain rfl : c = 0 := by rw [HC.out, if_neg hy5]
            clear HC
            go_wp2
            go_ret
            exact ⟨rfl, hB⟩
end Go.Proofs.YtioimgeeamchaaaDoor
