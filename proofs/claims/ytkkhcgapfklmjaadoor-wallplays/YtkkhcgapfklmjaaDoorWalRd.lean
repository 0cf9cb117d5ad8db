/- What the document's wall answers where a user reads (AskWall). -/
import Derived.WalkKit
import Derived.LoopTactic
import Derived.Deep.LoopGhost
import Derived.Laws.ResultCell
import Derived.Deep.Cut
import Derived.Deep.QuietTactic
import Derived.BigQuiet
import Derived.StillTailTactics
import Derived.Test.YtkkhcgapfklmjaaDoorWalRef
import Derived.Test.YtkkhcgapfklmjaaDoorRefs
namespace Go.Proofs.YtkkhcgapfklmjaaDoor
open Go.RowKit
set_option maxRecDepth 100000

theorem ask_in (s : WallSt) (k : Int) {u f : Nat} (hu : u < s.nu) (hf : f < s.nf) : askWall s k u f =
    if k = 0 then
      if anyB s.nf (less (s.saw u) (2 ^ f)) (isRival s f) then (7, s) else (0, { s with saw := upd s.saw u (s.saw u ||| 2 ^ f) })
    else if k = 1 then
      if anyB s.nf (less (s.saw u) (2 ^ f)) (isClosed s) then (7, s) else (0, { s with hol := upd s.hol f (s.hol f ||| holOr (s.saw u) s.hol s.nf) })
    else (1, s) := by
  unfold askWall
  rw [if_pos (by rw [Bool.and_eq_true, inB_iff, inB_iff]; omega), Int.toNat_natCast, Int.toNat_natCast]
section
variable {s : WallSt} {u f : Nat}
theorem den0 (hu : u < s.nu) (hf : f < s.nf) {i : Nat} (hi : i < s.nf) (hb : (s.saw u).testBit i = true) (hne : i ≠ f) (h0 : s.tr i ≠ 0) (he : s.tr i = s.tr f) : askWall s 0 u f = (7, s) := by
  rw [ask_in s 0 hu hf, if_pos rfl, if_pos ((anyB_iff _ _ _).2 ⟨i, hi, (less_self_bit _ _ _).2 ⟨hb, fun e => hne e.symm⟩, by unfold isRival; rw [Bool.and_eq_true, bne_iff_ne, beq_iff_eq]; exact ⟨h0, he⟩⟩)]
theorem den1 (hu : u < s.nu) (hf : f < s.nf) {i : Nat} (hi : i < s.nf) (hb : (s.saw u).testBit i = true) (hne : i ≠ f) (h0 : s.tr i ≠ 0) : askWall s 1 u f = (7, s) := by
  rw [ask_in s 1 hu hf, if_neg (by decide), if_pos rfl, if_pos ((anyB_iff _ _ _).2 ⟨i, hi, (less_self_bit _ _ _).2 ⟨hb, fun e => hne e.symm⟩, by simp [isClosed, h0]⟩)]
theorem all0 (hu : u < s.nu) (hf : f < s.nf) (h : ∀ i, i < s.nf → (s.saw u).testBit i = true → i ≠ f → s.tr i ≠ 0 → s.tr i ≠ s.tr f) : askWall s 0 u f = (0, { s with saw := upd s.saw u (s.saw u ||| 2 ^ f) }) := by
  have hno : anyB s.nf (less (s.saw u) (2 ^ f)) (isRival s f) = false := (anyB_no _ _ _).2 fun g hg hg2 => by
    obtain ⟨h1, h2⟩ := (less_self_bit _ _ _).1 hg2
    cases hr : isRival s f g with
    | false => rfl
    | true =>
      simp only [isRival, Bool.and_eq_true, bne_iff_ne, beq_iff_eq] at hr
      exact absurd hr.2 (h g hg h1 (fun e => h2 e.symm) hr.1)
  rw [ask_in s 0 hu hf, if_pos rfl, if_neg (by rw [hno]; simp)]
theorem all1 (hu : u < s.nu) (hf : f < s.nf) (h : ∀ i, i < s.nf → (s.saw u).testBit i = true → i ≠ f → s.tr i = 0) : askWall s 1 u f = (0, { s with hol := upd s.hol f (s.hol f ||| holOr (s.saw u) s.hol s.nf) }) := by
  have hno : anyB s.nf (less (s.saw u) (2 ^ f)) (isClosed s) = false := (anyB_no _ _ _).2 fun g hg hg2 => by
    obtain ⟨h1, h2⟩ := (less_self_bit _ _ _).1 hg2
    have := h g hg h1 (fun e => h2 e.symm)
    simp [isClosed, this]
  rw [ask_in s 1 hu hf, if_neg (by decide), if_pos rfl, if_neg (by rw [hno]; simp)]
end
set_option maxHeartbeats 8000000 in
theorem refWall_0 (P : Nat → Prop) (vT vS vH : Value) (s : WallSt) (u f : Nat) (t : Int) (ok : WallOk s) (hu : u < s.nu) (hf : f < s.nf) (w : World) (hP : ∀ b, w.heap.size ≤ b → P b) (h : WRef P w vT vS vH s) :
    Calls Tryd.prog 16 #[.agg #[vT, vS, vH], ask4 0 u f t] w fun e w' => ∃ vT' vS' vH', e = .returned (.tuple #[.agg #[vT', vS', vH'], .int .i64 (askWall s 0 u f).1]) ∧ WRef P w' vT' vS' vH' (askWall s 0 u f).2 ∧ Below w.heap.size w w' := by
  have lS := h.ls.lst
  have lH := h.lh.lst
  obtain ⟨bT, oT, cT, rfl, hlT, hcT⟩ := h.lt.some (by omega)
  obtain ⟨bS, oS, cS, rfl, hlS, hcS⟩ := h.ls.some (by omega)
  obtain ⟨bH, oH, cH, rfl, hlH, hcH⟩ := h.lh.some (by omega)
  have HT := Hid.mkI (fun W (hW : Below w.heap.size w W) i hi => keep_cell hW (hcT i hi))
  have HH := Hid.mkI (fun W (hW : Below w.heap.size w W) i hi => keep_cell hW (hcH i hi))
  have HS := Hid.mkI (fun W (hW : Below w.heap.size w W) => keep_cell hW (hcS u hu))
  have eH := hcH f hf
  clear hcT hcS hcH
  have hnu := ok.nu
  have hnf := ok.nf
  have h12 : 2 ^ s.nf ≤ 4096 := pow12 (by omega)
  have hnu' : (s.nu : Int) ≤ 8 := by omega
  have hnf' : (s.nf : Int) ≤ 8 := by omega
  have hui : (u : Int) < (s.nu : Int) := by omega
  have hfi : (f : Int) < (s.nf : Int) := by omega
  have tU := fun W => refIn_any u 0 ((s.nu : Int) - 1) W
  have tF := fun W => refIn_any f 0 ((s.nf : Int) - 1) W
  have tK := fun W => refIn_any 0 0 1 W
  rw [(inQ_iff _ _ _).2 (by omega)] at tU
  rw [(inQ_iff _ _ _).2 (by omega)] at tF
  rw [(inQ_iff _ _ _).2 (by omega)] at tK
  have hsaw : s.saw u < 4096 := Nat.lt_of_lt_of_le (ok.saw u hu) h12
  have HB := Hid.mkI (fun i (hi : i < s.nf) W => bit_any (s.saw u) i hsaw (by omega) W)
  have hho : ∀ j, j ≤ s.nf → s.hol f ||| holOr (s.saw u) s.hol j < 4096 := fun j hj => Nat.lt_of_lt_of_le (Nat.or_lt_two_pow (ok.hol f hf) (holOr_lt ok.hol j hj)) h12
  have HE := Hid.mkI (fun j (hj : j < s.nf) W => either_any (s.hol f ||| holOr (s.saw u) s.hol j) (s.hol j) (hho j (by omega)) (Nat.lt_of_lt_of_le (ok.hol j hj) h12) W)
  clear hho
  have tW := fun W => with_any (s.saw u) f hsaw (by omega) W
  have tS := fun W (hW : Below w.heap.size w W) (hX : w.heap.size + 3 ≤ W.heap.size) => set_any (fun b => w.heap.size + 3 ≤ b) _ _ _ (u : Int) ((s.saw u ||| 2 ^ f : Nat) : Int) (by omega) W (lS.below hW) (fun b hb => Nat.le_trans hX hb)
  obtain ⟨W, hW⟩ : ∃ W, ((w.alloc (.cells #[.slice (some ⟨bT, oT, none⟩) s.nf cT, .slice (some ⟨bS, oS, none⟩) s.nu cS, .slice (some ⟨bH, oH, none⟩) s.nf cH] 40)).alloc (.cells #[.int .i64 0, .int .i64 (u : Int), .int .i64 (f : Int), .int .i64 t] 32)).alloc (.cells #[.slice none 0 0, .slice none 0 0, .slice none 0 0] 40) = W := ⟨_, rfl⟩
  obtain ⟨hD, hB, hlt⟩ := desk3_of _ _ _ _ _ _ _ _ _ _ _ hW
  obtain ⟨b0, b1, b2, g0, g1, g2, a0, a1, a2, a3, r0, r1, r2, q0, q1, q2⟩ := id hD
  have eH1 := keep_cell hB eH
  obtain ⟨x0, hx0⟩ : ∃ x, s.hol f = x := ⟨_, rfl⟩
  rw [hx0] at eH1
  have hX0 : Hid (s.hol f = x0) := hx0
  clear hx0 eH
  go_enter Tryd.func16, Tryd.ntmps16
  go_wp2_with (first | (go_at_call 22; refine (tK _).mono ?_; clear tK; rintro e w' ⟨rfl, hw⟩; obtain rfl := hw.symm) | (go_at_call 22; refine (tU _).mono ?_; clear tU; rintro e w' ⟨rfl, hw⟩; obtain rfl := hw.symm) | (go_at_call 22; refine (tF _).mono ?_; clear tF; rintro e w' ⟨rfl, hw⟩; obtain rfl := hw.symm))
  clear hW b0 b1 b2 g0 g1 g2 a0 a1 a2 a3 r0 r1 r2 q0 q1 q2 eH1
  go_loopg [8, 9] s.nf (fun d c i wi => ∃ j : Nat, j ≤ s.nf ∧ d = s.nf - j ∧ c = .int .i64 ((s.hol f ||| holOr (s.saw u) s.hol j : Nat) : Int) ∧ i = .int .i64 j ∧ Desk3 w.heap.size wi (.slice (some ⟨bT, oT, none⟩) s.nf cT) (.slice (some ⟨bS, oS, none⟩) s.nu cS) (.slice (some ⟨bH, oH, none⟩) s.nf cH) 0 u f t ∧ Below w.heap.size w wi ∧ Hid (∀ i, i < j → (s.saw u).testBit i = true → i ≠ f → s.tr i ≠ 0 → s.tr i ≠ s.tr f))
  case atStart => exact ⟨0, by omega, rfl, by rw [show holOr (s.saw u) s.hol 0 = 0 from rfl, Nat.or_zero, hX0.out], rfl, hD, hB, fun _ h => absurd h (by omega)⟩
  case round =>
    clear hD hB
    obtain ⟨j, hj, rfl, rfl, rfl, hD, hB, HNB⟩ := hrel
    obtain ⟨b0, b1, b2, g0, g1, g2, a0, a1, a2, a3, r0, r1, r2, q0, q1, q2⟩ := id hD
    have eS := HS.out wr hB
    by_cases hjt : j < s.nf
    · have hji : (j : Int) < (s.nf : Int) := by omega
      have tB := HB.out j hjt
      have tE := HE.out j hjt
      have eHj := HH.out wr hB j hjt
      have eTj := HT.out wr hB j hjt
      have eTf := HT.out wr hB f hf
      have HO : Hid (holOr (s.saw u) s.hol (j + 1) = if (s.saw u).testBit j = true then holOr (s.saw u) s.hol j ||| s.hol j else holOr (s.saw u) s.hol j) := rfl
      cases hb : (s.saw u).testBit j with
      | false =>
        rw [hb] at tB
        rw [Hid, hb] at HO
        have HO2 : Hid (holOr (s.saw u) s.hol (j + 1) = holOr (s.saw u) s.hol j) := HO
        have HNB2 : Hid (∀ i, i < j + 1 → (s.saw u).testBit i = true → i ≠ f → s.tr i ≠ 0 → s.tr i ≠ s.tr f) := fun i hi hbi => by
          by_cases e : i = j
          · subst e; rw [hb] at hbi; cases hbi
          · exact HNB.out i (by omega) hbi
        obtain ⟨cc, hcc⟩ : ∃ x, s.hol f ||| holOr (s.saw u) s.hol j = x := ⟨_, rfl⟩
        obtain ⟨sw, hsw⟩ : ∃ x, s.saw u = x := ⟨_, rfl⟩
        have HCC := Hid.mkI hcc
        rw [hcc]
        rw [hsw] at eS tB
        clear hb HO HNB hcc tE eHj eTj eTf hsw
        as_aux_lemma =>
        go_wp2_with (go_at_call 11; refine (tB _).mono ?_; clear tB; rintro e w' ⟨rfl, hw⟩; obtain rfl := hw.symm)
        go_roundg (s.nf - (j + 1))
        case measure => omega
        case rel => exact ⟨j + 1, by omega, rfl, by rw [HO2.out, HCC.out], by go_num, hD, hB, HNB2⟩
      | true =>
        rw [hb] at tB
        rw [Hid, hb, if_pos rfl] at HO
        have HO2 : Hid ((s.hol f ||| holOr (s.saw u) s.hol j) ||| s.hol j = s.hol f ||| holOr (s.saw u) s.hol (j + 1)) := by rw [Hid, HO, Nat.or_assoc]
        have HNB2 : Hid ((j ≠ f → s.tr j ≠ 0 → s.tr j ≠ s.tr f) → ∀ i, i < j + 1 → (s.saw u).testBit i = true → i ≠ f → s.tr i ≠ 0 → s.tr i ≠ s.tr f) := fun hq i hi hbi hne => by
          by_cases e : i = j
          · subst e; exact hq hne
          · exact HNB.out i (by omega) hbi hne
        have HDEN : Hid (j ≠ f → s.tr j ≠ 0 → s.tr j = s.tr f → askWall s 0 u f = (7, s)) := fun h1 h2 h3 => den0 hu hf hjt hb h1 h2 h3
        obtain ⟨cc, hcc⟩ : ∃ x, s.hol f ||| holOr (s.saw u) s.hol j = x := ⟨_, rfl⟩
        obtain ⟨hj2, hhj⟩ : ∃ x, s.hol j = x := ⟨_, rfl⟩
        obtain ⟨nx, hnx⟩ : ∃ x, cc ||| hj2 = x := ⟨_, rfl⟩
        obtain ⟨sw, hsw⟩ : ∃ x, s.saw u = x := ⟨_, rfl⟩
        obtain ⟨y1, hy1⟩ : ∃ x, s.tr j = x := ⟨_, rfl⟩
        obtain ⟨y2, hy2⟩ : ∃ x, s.tr f = x := ⟨_, rfl⟩
        rw [hcc, hhj, hnx] at HO2 tE
        rw [hhj] at eHj
        rw [hcc]
        rw [hsw] at eS tB
        rw [hy1] at eTj HDEN
        rw [hy2] at eTf HDEN
        have HY1 := Hid.mkI hy1
        have HY2 := Hid.mkI hy2
        clear hb HO HNB hcc hhj hnx hsw hy1 hy2 HT HH HS HB HE
        by_cases hjf : j = f
        · subst hjf
          clear HDEN eTj eTf
          as_aux_lemma =>
          go_wp2_with (first | (go_at_call 11; refine (tB _).mono ?_; clear tB; rintro e w' ⟨rfl, hw⟩; obtain rfl := hw.symm) | (go_at_call 24; refine (tE _).mono ?_; clear tE; rintro e w' ⟨rfl, hw⟩; obtain rfl := hw.symm))
          go_quiet (fail)
          go_wp2
          go_roundg (s.nf - (j + 1))
          case measure => omega
          case rel => exact ⟨j + 1, by omega, rfl, by rw [HO2.out], by go_num, hD.drawn _, below_drawn hB _, HNB2.out fun q => absurd rfl q⟩
        · have hjn : ((j : Int) != (f : Int)) = true := by simp; omega
          by_cases hz : y1 = 0
          · subst hz
            clear HDEN eTf
            as_aux_lemma =>
            go_wp2_with (first | (go_at_call 11; refine (tB _).mono ?_; clear tB; rintro e w' ⟨rfl, hw⟩; obtain rfl := hw.symm) | (go_at_call 24; refine (tE _).mono ?_; clear tE; rintro e w' ⟨rfl, hw⟩; obtain rfl := hw.symm))
            go_quiet (fail)
            go_wp2
            go_roundg (s.nf - (j + 1))
            case measure => omega
            case rel => exact ⟨j + 1, by omega, rfl, by rw [HO2.out], by go_num, hD.drawn _, below_drawn hB _, HNB2.out fun _ => by rw [HY1.out]; exact fun q => absurd rfl q⟩
          · have hz1 : ((y1 : Int) != 0) = true := by simp; omega
            by_cases he : y1 = y2
            · have hden := HDEN.out hjf hz he
              subst he
              clear HDEN HNB2 HO2
              as_aux_lemma =>
              go_wp2_with (first | (go_at_call 11; refine (tB _).mono ?_; clear tB; rintro e w' ⟨rfl, hw⟩; obtain rfl := hw.symm) | (go_at_call 24; refine (tE _).mono ?_; clear tE; rintro e w' ⟨rfl, hw⟩; obtain rfl := hw.symm))
              go_quiet (fail)
              rename_i nq
              have hD2 := hD.drawn nq
              have hB2 := below_drawn hB nq
              obtain ⟨Wq, hWq⟩ : ∃ x, wr.drewN nq = x := ⟨_, rfl⟩
              rw [hWq] at hD2 hB2 ⊢
              clear hWq b0 b1 b2 g0 g1 g2 a0 a1 a2 a3 r0 r1 r2 q0 q1 q2
              obtain ⟨b0, b1, b2, g0, g1, g2, a0, a1, a2, a3, r0, r1, r2, q0, q1, q2⟩ := id hD2
              go_wp2
              (try simp only [Exit.inBlock, Exit.then])
              have hBz := ((hB2.setCell (p := ⟨w.heap.size + 2, 0, none⟩) (by simp) (.slice (some ⟨bT, oT, none⟩) s.nf cT)).setCell (p := ⟨w.heap.size + 2, 1, none⟩) (by simp) (.slice (some ⟨bS, oS, none⟩) s.nu cS)).setCell (p := ⟨w.heap.size + 2, 2, none⟩) (by simp) (.slice (some ⟨bH, oH, none⟩) s.nf cH)
              refine bodyPost_ret (v := .tuple #[.agg #[.slice (some ⟨bT, oT, none⟩) s.nf cT, .slice (some ⟨bS, oS, none⟩) s.nu cS, .slice (some ⟨bH, oH, none⟩) s.nf cH], .int .i64 7]) ?_ rfl ⟨_, _, _, by rw [hden], by rw [hden]; exact ⟨h.lt.below hBz, h.ls.below hBz, h.lh.below hBz⟩, hBz⟩
              rw [results_cell_tmp rfl]
              go_simp
            · have he1 : ((y1 : Int) == (y2 : Int)) = false := by simp; omega
              clear HDEN
              as_aux_lemma =>
              go_wp2_with (first | (go_at_call 11; refine (tB _).mono ?_; clear tB; rintro e w' ⟨rfl, hw⟩; obtain rfl := hw.symm) | (go_at_call 24; refine (tE _).mono ?_; clear tE; rintro e w' ⟨rfl, hw⟩; obtain rfl := hw.symm))
              go_quiet (fail)
              go_wp2
              go_roundg (s.nf - (j + 1))
              case measure => omega
              case rel => exact ⟨j + 1, by omega, rfl, by rw [HO2.out], by go_num, hD.drawn _, below_drawn hB _, HNB2.out fun _ _ => by rw [HY1.out, HY2.out]; exact he⟩
    · have hge : (s.nf : Int) ≤ (j : Int) := by omega
      obtain rfl : j = s.nf := by omega
      clear HB HE HT HH
      have hall := all0 hu hf HNB.out
      clear HNB
      obtain ⟨m1, hm1⟩ : ∃ x, s.saw u ||| 2 ^ f = x := ⟨_, rfl⟩
      rw [hm1] at tW tS hall
      obtain ⟨cc, hcc⟩ : ∃ x, s.hol f ||| holOr (s.saw u) s.hol s.nf = x := ⟨_, rfl⟩
      rw [hcc]
      obtain ⟨f1, hf1⟩ : ∃ x, updI (fun i => (s.saw i : Int)) u m1 = x := ⟨_, rfl⟩
      rw [hf1] at tS
      have HF1 := Hid.mkI hf1
      obtain ⟨sw, hsw⟩ : ∃ x, s.saw u = x := ⟨_, rfl⟩
      rw [hsw] at tW eS
      clear hf1 hcc hm1 hsw
      as_aux_lemma =>
      go_wp2
      refine wp_region_still_tail 10 (by kernel_rfl) (by kernel_rfl) ?_
      simp only [List.take_succ_cons, List.take_zero, List.drop_succ_cons, List.drop_zero]
      have hBd : Below w.heap.size w wr.drew := hB.drew
      have hDd := hD.drew
      have eSd : wr.drew.cell? ⟨bS, oS + u, none⟩ = some (.int .i64 (sw : Int)) := eS
      obtain ⟨Wd, hWd⟩ : ∃ x, wr.drew = x := ⟨_, rfl⟩
      have hWd2 : { wr with drawn := wr.drawn + 1 } = Wd := hWd
      rw [hWd] at hBd hDd eSd
      rw [hWd2]
      clear hWd hWd2 hD hB eS HS b0 b1 b2 g0 g1 g2 a0 a1 a2 a3 r0 r1 r2 q0 q1 q2 wr
      obtain ⟨b0, b1, b2, g0, g1, g2, a0, a1, a2, a3, r0, r1, r2, q0, q1, q2⟩ := id hDd
      have hlt3 := hDd.lt
      repeat still_step
      still_call (tW _)
      refine wpStill_nil ?_
      go_wp2_with (go_at_call 25; refine (tS _ hBd hlt3).mono ?_; clear tS; rintro e w4 ⟨v4, rfl, hL4, hB4⟩; have hD4 := hDd.below hB4; clear b0 b1 b2 g0 g1 g2 a0 a1 a2 a3 r0 r1 r2 q0 q1 q2; obtain ⟨b0, b1, b2, g0, g1, g2, a0, a1, a2, a3, r0, r1, r2, q0, q1, q2⟩ := id hD4; obtain ⟨a4, cp4, rfl, -⟩ := id hL4; have hBe := hBd.trans (hB4.mono hBd.size))
      (try simp only [Exit.inBlock, Exit.then])
      have hN3 : w.heap.size < w.heap.size + 3 := by omega
      have hN2 : w.heap.size + 2 < w.heap.size + 3 := by omega
      have hBz := (((hBe.setCell (p := ⟨w.heap.size, 1, none⟩) (Nat.le_refl _) (.slice a4 s.nu cp4)).setCell (p := ⟨w.heap.size + 2, 0, none⟩) (by simp) (.slice (some ⟨bT, oT, none⟩) s.nf cT)).setCell (p := ⟨w.heap.size + 2, 1, none⟩) (by simp) (.slice a4 s.nu cp4)).setCell (p := ⟨w.heap.size + 2, 2, none⟩) (by simp) (.slice (some ⟨bH, oH, none⟩) s.nf cH)
      have hLz := (((hL4.putN (o := 1) hN3 (.slice a4 s.nu cp4)).putN (o := 0) hN2 (.slice (some ⟨bT, oT, none⟩) s.nf cT)).putN (o := 1) hN2 (.slice a4 s.nu cp4)).putN (o := 2) hN2 (.slice (some ⟨bH, oH, none⟩) s.nf cH)
      refine bodyPost_ret (v := .tuple #[.agg #[.slice (some ⟨bT, oT, none⟩) s.nf cT, .slice a4 s.nu cp4, .slice (some ⟨bH, oH, none⟩) s.nf cH], .int .i64 0]) ?_ rfl ⟨_, _, _, by rw [hall], by rw [hall]; exact ⟨h.lt.below hBz, (hLz.weak (fun b _ hb => hP b (Nat.le_trans (Nat.le_add_right _ 3) hb))).like fun i _ => by rw [← HF1.out, updI_cast], h.lh.below hBz⟩, hBz⟩
      rw [results_cell_tmp rfl]
      go_simp
end Go.Proofs.YtkkhcgapfklmjaaDoor
