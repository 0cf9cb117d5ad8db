/- What the document's wall answers where a user writes (AskWall). -/
import Derived.WalkKit
import Derived.LoopTactic
import Derived.Deep.LoopGhost
import Derived.Laws.ResultCell
import Derived.Deep.Cut
import Derived.Deep.QuietTactic
import Derived.BigQuiet
import Derived.StillTailTactics
import Derived.Test.YtkkhcgapfklmjaaDoorWalRd
namespace Go.Proofs.YtkkhcgapfklmjaaDoor
open Go.RowKit
set_option maxRecDepth 100000

set_option maxHeartbeats 8000000 in
theorem refWall_1 (P : Nat → Prop) (vT vS vH : Value) (s : WallSt) (u f : Nat) (t : Int) (ok : WallOk s) (hu : u < s.nu) (hf : f < s.nf) (w : World) (hP : ∀ b, w.heap.size ≤ b → P b) (h : WRef P w vT vS vH s) :
    Calls Tryd.prog 16 #[.agg #[vT, vS, vH], ask4 1 u f t] w fun e w' => ∃ vT' vS' vH', e = .returned (.tuple #[.agg #[vT', vS', vH'], .int .i64 (askWall s 1 u f).1]) ∧ WRef P w' vT' vS' vH' (askWall s 1 u f).2 ∧ Below w.heap.size w w' := by
  have lS := h.ls.lst
  have lH := h.lh.lst
  obtain ⟨bT, oT, cT, rfl, hlT, hcT⟩ := h.lt.some (by omega)
  obtain ⟨bS, oS, cS, rfl, hlS, hcS⟩ := h.ls.some (by omega)
  obtain ⟨bH, oH, cH, rfl, hlH, hcH⟩ := h.lh.some (by omega)
  have HT := Hid.mkI (fun W (hW : Below w.heap.size w W) i hi => keep_cell hW (hcT i hi))
  have HH := Hid.mkI (fun W (hW : Below w.heap.size w W) i hi => keep_cell hW (hcH i hi))
  have HS := Hid.mkI (fun W (hW : Below w.heap.size w W) => keep_cell hW (hcS u hu))
  have eH := hcH f hf
  clear hcT hcS hcH
  have hnu := ok.nu
  have hnf := ok.nf
  have h12 : 2 ^ s.nf ≤ 4096 := pow12 (by omega)
  have hnu' : (s.nu : Int) ≤ 8 := by omega
  have hnf' : (s.nf : Int) ≤ 8 := by omega
  have hui : (u : Int) < (s.nu : Int) := by omega
  have hfi : (f : Int) < (s.nf : Int) := by omega
  have tU := fun W => refIn_any u 0 ((s.nu : Int) - 1) W
  have tF := fun W => refIn_any f 0 ((s.nf : Int) - 1) W
  have tK := fun W => refIn_any 1 0 1 W
  rw [(inQ_iff _ _ _).2 (by omega)] at tU
  rw [(inQ_iff _ _ _).2 (by omega)] at tF
  rw [(inQ_iff _ _ _).2 (by omega)] at tK
  have hsaw : s.saw u < 4096 := Nat.lt_of_lt_of_le (ok.saw u hu) h12
  have HB := Hid.mkI (fun i (hi : i < s.nf) W => bit_any (s.saw u) i hsaw (by omega) W)
  have hho : ∀ j, j ≤ s.nf → s.hol f ||| holOr (s.saw u) s.hol j < 4096 := fun j hj => Nat.lt_of_lt_of_le (Nat.or_lt_two_pow (ok.hol f hf) (holOr_lt ok.hol j hj)) h12
  have HE := Hid.mkI (fun j (hj : j < s.nf) W => either_any (s.hol f ||| holOr (s.saw u) s.hol j) (s.hol j) (hho j (by omega)) (Nat.lt_of_lt_of_le (ok.hol j hj) h12) W)
  clear hho
  have tS := fun W (hW : Below w.heap.size w W) (hX : w.heap.size + 3 ≤ W.heap.size) => set_any (fun b => w.heap.size + 3 ≤ b) _ _ _ (f : Int) ((s.hol f ||| holOr (s.saw u) s.hol s.nf : Nat) : Int) (by omega) W (lH.below hW) (fun b hb => Nat.le_trans hX hb)
  obtain ⟨W, hW⟩ : ∃ W, ((w.alloc (.cells #[.slice (some ⟨bT, oT, none⟩) s.nf cT, .slice (some ⟨bS, oS, none⟩) s.nu cS, .slice (some ⟨bH, oH, none⟩) s.nf cH] 40)).alloc (.cells #[.int .i64 1, .int .i64 (u : Int), .int .i64 (f : Int), .int .i64 t] 32)).alloc (.cells #[.slice none 0 0, .slice none 0 0, .slice none 0 0] 40) = W := ⟨_, rfl⟩
  obtain ⟨hD, hB, hlt⟩ := desk3_of _ _ _ _ _ _ _ _ _ _ _ hW
  obtain ⟨b0, b1, b2, g0, g1, g2, a0, a1, a2, a3, r0, r1, r2, q0, q1, q2⟩ := id hD
  have eH1 := keep_cell hB eH
  obtain ⟨x0, hx0⟩ : ∃ x, s.hol f = x := ⟨_, rfl⟩
  rw [hx0] at eH1
  have hX0 : Hid (s.hol f = x0) := hx0
  clear hx0 eH
  go_enter Tryd.func16, Tryd.ntmps16
  go_wp2_with (first | (go_at_call 22; refine (tK _).mono ?_; clear tK; rintro e w' ⟨rfl, hw⟩; obtain rfl := hw.symm) | (go_at_call 22; refine (tU _).mono ?_; clear tU; rintro e w' ⟨rfl, hw⟩; obtain rfl := hw.symm) | (go_at_call 22; refine (tF _).mono ?_; clear tF; rintro e w' ⟨rfl, hw⟩; obtain rfl := hw.symm))
  clear hW b0 b1 b2 g0 g1 g2 a0 a1 a2 a3 r0 r1 r2 q0 q1 q2 eH1
  go_loopg [8, 9] s.nf (fun d c i wi => ∃ j : Nat, j ≤ s.nf ∧ d = s.nf - j ∧ c = .int .i64 ((s.hol f ||| holOr (s.saw u) s.hol j : Nat) : Int) ∧ i = .int .i64 j ∧ Desk3 w.heap.size wi (.slice (some ⟨bT, oT, none⟩) s.nf cT) (.slice (some ⟨bS, oS, none⟩) s.nu cS) (.slice (some ⟨bH, oH, none⟩) s.nf cH) 1 u f t ∧ Below w.heap.size w wi ∧ Hid (∀ i, i < j → (s.saw u).testBit i = true → i ≠ f → s.tr i = 0))
  case atStart => exact ⟨0, by omega, rfl, by rw [show holOr (s.saw u) s.hol 0 = 0 from rfl, Nat.or_zero, hX0.out], rfl, hD, hB, fun _ h => absurd h (by omega)⟩
  case round =>
    clear hD hB
    obtain ⟨j, hj, rfl, rfl, rfl, hD, hB, HNB⟩ := hrel
    obtain ⟨b0, b1, b2, g0, g1, g2, a0, a1, a2, a3, r0, r1, r2, q0, q1, q2⟩ := id hD
    have eS := HS.out wr hB
    by_cases hjt : j < s.nf
    · have hji : (j : Int) < (s.nf : Int) := by omega
      have tB := HB.out j hjt
      have tE := HE.out j hjt
      have eHj := HH.out wr hB j hjt
      have eTj := HT.out wr hB j hjt
      have eTf := HT.out wr hB f hf
      have HO : Hid (holOr (s.saw u) s.hol (j + 1) = if (s.saw u).testBit j = true then holOr (s.saw u) s.hol j ||| s.hol j else holOr (s.saw u) s.hol j) := rfl
      cases hb : (s.saw u).testBit j with
      | false =>
        rw [hb] at tB
        rw [Hid, hb] at HO
        have HO2 : Hid (holOr (s.saw u) s.hol (j + 1) = holOr (s.saw u) s.hol j) := HO
        have HNB2 : Hid (∀ i, i < j + 1 → (s.saw u).testBit i = true → i ≠ f → s.tr i = 0) := fun i hi hbi => by
          by_cases e : i = j
          · subst e; rw [hb] at hbi; cases hbi
          · exact HNB.out i (by omega) hbi
        obtain ⟨cc, hcc⟩ : ∃ x, s.hol f ||| holOr (s.saw u) s.hol j = x := ⟨_, rfl⟩
        obtain ⟨sw, hsw⟩ : ∃ x, s.saw u = x := ⟨_, rfl⟩
        have HCC := Hid.mkI hcc
        rw [hcc]
        rw [hsw] at eS tB
        clear hb HO HNB hcc tE eHj eTj eTf hsw
        as_aux_lemma =>
        go_wp2_with (go_at_call 11; refine (tB _).mono ?_; clear tB; rintro e w' ⟨rfl, hw⟩; obtain rfl := hw.symm)
        go_roundg (s.nf - (j + 1))
        case measure => omega
        case rel => exact ⟨j + 1, by omega, rfl, by rw [HO2.out, HCC.out], by go_num, hD, hB, HNB2⟩
      | true =>
        rw [hb] at tB
        rw [Hid, hb, if_pos rfl] at HO
        have HO2 : Hid ((s.hol f ||| holOr (s.saw u) s.hol j) ||| s.hol j = s.hol f ||| holOr (s.saw u) s.hol (j + 1)) := by rw [Hid, HO, Nat.or_assoc]
        have HNB2 : Hid ((j ≠ f → s.tr j = 0) → ∀ i, i < j + 1 → (s.saw u).testBit i = true → i ≠ f → s.tr i = 0) := fun hq i hi hbi hne => by
          by_cases e : i = j
          · subst e; exact hq hne
          · exact HNB.out i (by omega) hbi hne
        have HDEN : Hid (j ≠ f → s.tr j ≠ 0 → askWall s 1 u f = (7, s)) := fun h1 h2 => den1 hu hf hjt hb h1 h2
        obtain ⟨cc, hcc⟩ : ∃ x, s.hol f ||| holOr (s.saw u) s.hol j = x := ⟨_, rfl⟩
        obtain ⟨hj2, hhj⟩ : ∃ x, s.hol j = x := ⟨_, rfl⟩
        obtain ⟨nx, hnx⟩ : ∃ x, cc ||| hj2 = x := ⟨_, rfl⟩
        obtain ⟨sw, hsw⟩ : ∃ x, s.saw u = x := ⟨_, rfl⟩
        obtain ⟨y1, hy1⟩ : ∃ x, s.tr j = x := ⟨_, rfl⟩
        obtain ⟨y2, hy2⟩ : ∃ x, s.tr f = x := ⟨_, rfl⟩
        rw [hcc, hhj, hnx] at HO2 tE
        rw [hhj] at eHj
        rw [hcc]
        rw [hsw] at eS tB
        rw [hy1] at eTj HDEN
        rw [hy2] at eTf
        have HY1 := Hid.mkI hy1
        have HY2 := Hid.mkI hy2
        clear hb HO HNB hcc hhj hnx hsw hy1 hy2 HT HH HS HB HE
        by_cases hjf : j = f
        · subst hjf
          clear HDEN eTj eTf
          as_aux_lemma =>
          go_wp2_with (first | (go_at_call 11; refine (tB _).mono ?_; clear tB; rintro e w' ⟨rfl, hw⟩; obtain rfl := hw.symm) | (go_at_call 24; refine (tE _).mono ?_; clear tE; rintro e w' ⟨rfl, hw⟩; obtain rfl := hw.symm))
          go_quiet (fail)
          go_wp2
          go_roundg (s.nf - (j + 1))
          case measure => omega
          case rel => exact ⟨j + 1, by omega, rfl, by rw [HO2.out], by go_num, hD.drawn _, below_drawn hB _, HNB2.out fun q => absurd rfl q⟩
        · have hjn : ((j : Int) != (f : Int)) = true := by simp; omega
          by_cases hz : y1 = 0
          · subst hz
            clear HDEN eTf
            as_aux_lemma =>
            go_wp2_with (first | (go_at_call 11; refine (tB _).mono ?_; clear tB; rintro e w' ⟨rfl, hw⟩; obtain rfl := hw.symm) | (go_at_call 24; refine (tE _).mono ?_; clear tE; rintro e w' ⟨rfl, hw⟩; obtain rfl := hw.symm))
            go_quiet (fail)
            go_wp2
            go_roundg (s.nf - (j + 1))
            case measure => omega
            case rel => exact ⟨j + 1, by omega, rfl, by rw [HO2.out], by go_num, hD.drawn _, below_drawn hB _, HNB2.out fun _ => HY1.out⟩
          · have hz1 : ((y1 : Int) != 0) = true := by simp; omega
            have hden := HDEN.out hjf hz
            clear HDEN HNB2 HO2
            as_aux_lemma =>
            go_wp2_with (first | (go_at_call 11; refine (tB _).mono ?_; clear tB; rintro e w' ⟨rfl, hw⟩; obtain rfl := hw.symm) | (go_at_call 24; refine (tE _).mono ?_; clear tE; rintro e w' ⟨rfl, hw⟩; obtain rfl := hw.symm))
            go_quiet (fail)
            rename_i nq
            have hD2 := hD.drawn nq
            have hB2 := below_drawn hB nq
            obtain ⟨Wq, hWq⟩ : ∃ x, wr.drewN nq = x := ⟨_, rfl⟩
            rw [hWq] at hD2 hB2 ⊢
            clear hWq b0 b1 b2 g0 g1 g2 a0 a1 a2 a3 r0 r1 r2 q0 q1 q2
            obtain ⟨b0, b1, b2, g0, g1, g2, a0, a1, a2, a3, r0, r1, r2, q0, q1, q2⟩ := id hD2
            go_wp2
            (try simp only [Exit.inBlock, Exit.then])
            have hBz := ((hB2.setCell (p := ⟨w.heap.size + 2, 0, none⟩) (by simp) (.slice (some ⟨bT, oT, none⟩) s.nf cT)).setCell (p := ⟨w.heap.size + 2, 1, none⟩) (by simp) (.slice (some ⟨bS, oS, none⟩) s.nu cS)).setCell (p := ⟨w.heap.size + 2, 2, none⟩) (by simp) (.slice (some ⟨bH, oH, none⟩) s.nf cH)
            refine bodyPost_ret (v := .tuple #[.agg #[.slice (some ⟨bT, oT, none⟩) s.nf cT, .slice (some ⟨bS, oS, none⟩) s.nu cS, .slice (some ⟨bH, oH, none⟩) s.nf cH], .int .i64 7]) ?_ rfl ⟨_, _, _, by rw [hden], by rw [hden]; exact ⟨h.lt.below hBz, h.ls.below hBz, h.lh.below hBz⟩, hBz⟩
            rw [results_cell_tmp rfl]
            go_simp
    · have hge : (s.nf : Int) ≤ (j : Int) := by omega
      obtain rfl : j = s.nf := by omega
      clear HB HE HT HH
      have hall := all1 hu hf HNB.out
      clear HNB
      obtain ⟨m1, hm1⟩ : ∃ x, s.hol f ||| holOr (s.saw u) s.hol s.nf = x := ⟨_, rfl⟩
      rw [hm1] at tS hall ⊢
      obtain ⟨f1, hf1⟩ : ∃ x, updI (fun i => (s.hol i : Int)) f m1 = x := ⟨_, rfl⟩
      rw [hf1] at tS
      have HF1 := Hid.mkI hf1
      clear hf1 hm1 eS HS
      have hlt3 := hD.lt
      as_aux_lemma =>
      go_wp2_with (go_at_call 25; refine (tS _ hB hlt3).mono ?_; clear tS; rintro e w4 ⟨v4, rfl, hL4, hB4⟩; have hD4 := hD.below hB4; clear b0 b1 b2 g0 g1 g2 a0 a1 a2 a3 r0 r1 r2 q0 q1 q2; obtain ⟨b0, b1, b2, g0, g1, g2, a0, a1, a2, a3, r0, r1, r2, q0, q1, q2⟩ := id hD4; obtain ⟨a4, cp4, rfl, -⟩ := id hL4; have hBe := hB.trans (hB4.mono hB.size))
      (try simp only [Exit.inBlock, Exit.then])
      have hN3 : w.heap.size < w.heap.size + 3 := by omega
      have hN2 : w.heap.size + 2 < w.heap.size + 3 := by omega
      have hBz := (((hBe.setCell (p := ⟨w.heap.size, 2, none⟩) (Nat.le_refl _) (.slice a4 s.nf cp4)).setCell (p := ⟨w.heap.size + 2, 0, none⟩) (by simp) (.slice (some ⟨bT, oT, none⟩) s.nf cT)).setCell (p := ⟨w.heap.size + 2, 1, none⟩) (by simp) (.slice (some ⟨bS, oS, none⟩) s.nu cS)).setCell (p := ⟨w.heap.size + 2, 2, none⟩) (by simp) (.slice a4 s.nf cp4)
      have hLz := (((hL4.putN (o := 2) hN3 (.slice a4 s.nf cp4)).putN (o := 0) hN2 (.slice (some ⟨bT, oT, none⟩) s.nf cT)).putN (o := 1) hN2 (.slice (some ⟨bS, oS, none⟩) s.nu cS)).putN (o := 2) hN2 (.slice a4 s.nf cp4)
      refine bodyPost_ret (v := .tuple #[.agg #[.slice (some ⟨bT, oT, none⟩) s.nf cT, .slice (some ⟨bS, oS, none⟩) s.nu cS, .slice a4 s.nf cp4], .int .i64 0]) ?_ rfl ⟨_, _, _, by rw [hall], by rw [hall]; exact ⟨h.lt.below hBz, h.ls.below hBz, (hLz.weak (fun b _ hb => hP b (Nat.le_trans (Nat.le_add_right _ 3) hb))).like fun i _ => by rw [← HF1.out, updI_cast]⟩, hBz⟩
      rw [results_cell_tmp rfl]
      go_simp
/-- What any ask of the document's wall comes to. -/
theorem refWall_any (P : Nat → Prop) (vT vS vH : Value) (s : WallSt) (k u f t : Int) (ok : WallOk s) (w : World) (hP : ∀ b, w.heap.size ≤ b → P b) (h : WRef P w vT vS vH s) :
    Calls Tryd.prog 16 #[.agg #[vT, vS, vH], ask4 k u f t] w fun e w' => ∃ vT' vS' vH', e = .returned (.tuple #[.agg #[vT', vS', vH'], .int .i64 (askWall s k u f).1]) ∧ WRef P w' vT' vS' vH' (askWall s k u f).2 ∧ Below w.heap.size w w' := by
  have same : (askWall s k u f = (1, s)) → (inQ k 0 1 && (inB u s.nu && inB f s.nf)) = false →
      Calls Tryd.prog 16 #[.agg #[vT, vS, vH], ask4 k u f t] w fun e w' => ∃ vT' vS' vH', e = .returned (.tuple #[.agg #[vT', vS', vH'], .int .i64 (askWall s k u f).1]) ∧ WRef P w' vT' vS' vH' (askWall s k u f).2 ∧ Below w.heap.size w w' := fun ha hin => by
    rw [ha]
    exact (refWall_out P vT vS vH s k u f t ok hin w h).mono fun e w' ⟨he, hB⟩ => ⟨_, _, _, he, ⟨h.lt.below hB, h.ls.below hB, h.lh.below hB⟩, hB⟩
  cases hin : (inB u s.nu && inB f s.nf) with
  | false => exact same (by unfold askWall; rw [hin]; rfl) (by rw [hin, Bool.and_false])
  | true =>
    have hin' := hin
    rw [Bool.and_eq_true, inB_iff, inB_iff] at hin'
    obtain ⟨⟨u0, u1⟩, f0, f1⟩ := hin'
    obtain ⟨u, rfl⟩ := Int.eq_ofNat_of_zero_le u0
    obtain ⟨f, rfl⟩ := Int.eq_ofNat_of_zero_le f0
    by_cases hk : k = 0
    · subst hk
      exact refWall_0 P vT vS vH s u f t ok (by omega) (by omega) w hP h
    · by_cases hk1 : k = 1
      · subst hk1
        exact refWall_1 P vT vS vH s u f t ok (by omega) (by omega) w hP h
      · exact same (by unfold askWall; rw [hin, if_pos rfl, if_neg hk, if_neg hk1]) (by rw [show inQ k 0 1 = false from decide_eq_false (by omega), Bool.false_and])
end Go.Proofs.YtkkhcgapfklmjaaDoor
