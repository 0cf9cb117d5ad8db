/- The walk of the law FlowLeast. (Made by gen/flow.py.) -/
import Derived.WalkKit
import Derived.LoopTactic
import Derived.Deep.QuietTactic
import Derived.BigQuiet
import Derived.Test.YtioimgeeamchaaaDoorFloQ
import Derived.Test.YtioimgeeamchaaaDoorRunO
namespace Go.Proofs.YtioimgeeamchaaaDoor
open Go.RowKit
set_option maxRecDepth 100000
set_option linter.unusedVariables false

/-- No program, no levels are wrong by a clash. -/
theorem prtC_codes {l : List Nod} {i : Nat} {kd : Int} : ∀ (ps : List Int) (k : Nat) (u : Nat → Nat), (prtC l i kd k ps u).1 = 0 ∨ (prtC l i kd k ps u).1 = 1 ∨ (prtC l i kd k ps u).1 = 3
  | [], k, u => .inl rfl
  | p :: ps, k, u => by
    rw [prtC]
    split
    · exact .inr (.inl rfl)
    split
    · exact .inr (.inr rfl)
    · exact prtC_codes ps _ _
theorem nodC_codes (l : List Nod) : ∀ n, (nodC l n).1 = 0 ∨ (nodC l n).1 = 1 ∨ (nodC l n).1 = 3
  | 0 => .inl rfl
  | n + 1 => by
    rw [nodC]
    split
    · exact nodC_codes l n
    split
    · exact .inr (.inl rfl)
    · exact prtC_codes _ _ _
theorem proC_codes (l : List Nod) : proC l = 0 ∨ proC l = 1 ∨ proC l = 3 ∨ proC l = 4 ∨ proC l = 5 := by
  unfold proC
  have := nodC_codes l l.length
  split
  · exact .inr (.inr (.inr (.inr rfl)))
  split
  · exact .inr (.inr (.inr (.inl rfl)))
  split
  · rcases this with e | e | e
    · exact .inl e
    · exact .inr (.inl e)
    · exact .inr (.inr (.inl e))
  split
  · exact .inr (.inr (.inl rfl))
  split
  · exact .inr (.inr (.inl rfl))
  · exact .inl rfl
theorem fitC_codes (l : List Nod) (n : Nat) (lv : Nat → Int) (low : Int) : fitC l n lv low ≠ 6 := by
  have h1 := proC_codes l
  have h2 : levC n lv low = 0 ∨ levC n lv low = 1 ∨ levC n lv low = 3 := by
    unfold levC
    split
    · exact .inr (.inr rfl)
    split
    · exact .inr (.inl rfl)
    · exact .inl rfl
  unfold fitC
  split <;> omega
theorem least_levels {l : List Nod} {mv : Nat → Int} (hm : ∀ j, j < 6 → -1 ≤ mv j ∧ mv j ≤ 7) {i : Nat} (hi : i < 6) : 0 ≤ leastI (cF l) mv i ∧ leastI (cF l) mv i ≤ 7 := by
  unfold leastI
  split
  · have := hm i hi; omega
  · exact ⟨mx_nonneg _ _ _ _, mx_le _ _ _ _ (by decide) _ fun j hj _ => (hm j hj).2⟩
set_option maxHeartbeats 16000000 in
theorem flowLeast_any (a : Option Addr) (cap : Nat) (l : List Nod) (v1 : Value) (nM : Nat) (mv : Nat → Int) (v0 : Value) (nL : Nat) (lv : Nat → Int) (w : World) (h : AtNods w a l.length (nthD l)) (hm : Lst w v1 nM mv) (hl : Lst w v0 nL lv) (hT : Tab w) (hE : ErrT w) :
    Calls Tryd.prog 7 #[.slice a l.length cap, v1, v0] w fun e w' => e = .returned (.bool true) ∧ Below w.heap.size w w' := by
  have hB0 := Below.refl w.heap.size w
  have tF : ∀ w1, Below w.heap.size w w1 → Calls Tryd.prog 18 #[] w1 fun e w' => e = .returned (.bool true) ∧ Below w1.heap.size w1 w' := fun w1 hB => flowFact_any w1 (hT.below hB hT.size)
  have hE0 := old_of_cell hE
  obtain ⟨vM, cM, rfl, hM⟩ := id hm
  obtain ⟨vL, cL, rfl, hL⟩ := id hl
  have tE : ∀ c w1, Below w.heap.size w w1 → Calls Tryd.prog 14 #[.iface 57 (.int .i64 c), .int .i64 6] w1 fun e w' => e = .returned (.bool (c == 6)) ∧ Below w1.heap.size w1 w' := fun c w1 hB => error_err c 6 w1 (hE.below hB hE0)
  have tLo : fitC l nL lv 0 = 0 → ∀ w1, Below w.heap.size w w1 → Calls Tryd.prog 16 #[.slice a l.length cap, .slice vL nL cL] w1 fun e w' => e = .returned (.tuple #[.bool (fitsB (cF l) lv), .nilIface]) ∧ Below w1.heap.size w1 w' := fun hc w1 hB => ffits_ok a cap (.slice vL nL cL) nL lv hc w1 (h.below hB) (hl.below hB) (hT.below hB hT.size)
  have tLe : fitC l nL lv 0 ≠ 0 → ∀ w1, Below w.heap.size w w1 → Calls Tryd.prog 16 #[.slice a l.length cap, .slice vL nL cL] w1 fun e w' => e = .returned (.tuple #[.bool false, .iface 57 (.int .i64 (fitC l nL lv 0))]) ∧ Below w1.heap.size w1 w' := fun hc w1 hB => ffits_no a cap (.slice vL nL cL) nL lv hc w1 (h.below hB) (hl.below hB) (hT.below hB hT.size)
  have tLw : ∀ w1, Below w.heap.size w w1 → Calls Tryd.prog 16 #[.slice a l.length cap, .slice vL nL cL] w1 fun e w' => ∃ x0 x1, e = .returned (.tuple #[x0, x1]) ∧ Below w1.heap.size w1 w' := fun w1 hB => by
    by_cases hc : fitC l nL lv 0 = 0
    · exact (tLo hc w1 hB).mono fun e w' ⟨h1, h2⟩ => ⟨_, _, h1, h2⟩
    · exact (tLe hc w1 hB).mono fun e w' ⟨h1, h2⟩ => ⟨_, _, h1, h2⟩
  have tMe : fitC l nM mv (-1) ≠ 0 → ∀ w1, Below w.heap.size w w1 → Calls Tryd.prog 17 #[.slice a l.length cap, .slice vM nM cM] w1 fun e w' => e = .returned (.tuple #[.slice none 0 0, .iface 57 (.int .i64 (fitC l nM mv (-1)))]) ∧ Below w1.heap.size w1 w' := fun hc w1 hB => fleast_no1 a cap (.slice vM nM cM) nM mv hc w1 (h.below hB) (hm.below hB) (hT.below hB hT.size)
  have tMc : fitC l nM mv (-1) = 0 → toldB (cF l) mv = false → ∀ w1, Below w.heap.size w w1 → Calls Tryd.prog 17 #[.slice a l.length cap, .slice vM nM cM] w1 fun e w' => e = .returned (.tuple #[.slice none 0 0, .iface 57 (.int .i64 6)]) ∧ Below w1.heap.size w1 w' := fun hc ht w1 hB => by
    have := fleast_any a cap (.slice vM nM cM) nM mv hc w1 (h.below hB) (hm.below hB) (hT.below hB hT.size)
    rw [ht] at this
    exact this.mono fun e w' ⟨h1, h2⟩ => ⟨h2, h1⟩
  have tMo : fitC l nM mv (-1) = 0 → toldB (cF l) mv = true → ∀ w1, Below w.heap.size w w1 → Calls Tryd.prog 17 #[.slice a l.length cap, .slice vM nM cM] w1 fun e w' => ∃ g, e = .returned (.tuple #[.slice (some ⟨g, 0, none⟩) 6 6, .nilIface]) ∧ Hid (Lst w' (.slice (some ⟨g, 0, none⟩) 6 6) 6 (leastI (cF l) mv)) ∧ Below w1.heap.size w1 w' := fun hc ht w1 hB => by
    have := fleast_any a cap (.slice vM nM cM) nM mv hc w1 (h.below hB) (hm.below hB) (hT.below hB hT.size)
    rw [ht] at this
    exact this.mono fun e w' ⟨h1, g, h2, h3⟩ => ⟨g, h2, h3, h1⟩
  by_cases hc : fitC l nM mv (-1) = 0
  · obtain ⟨hp, rfl, hmv⟩ := fitC_ok hc
    have hG := good_of hp
    have hflw := cF_flw hG
    obtain ⟨b1, o1, e1, -, c1⟩ : ∃ b off, vM = some ⟨b, off, none⟩ ∧ b < w.heap.size ∧ ∀ i, i < 6 → w.cell? ⟨b, off + i, none⟩ = some (.int .i64 (mv i)) := hM.resolve_left (by omega)
    subst e1
    have HC1 := Hid.mkI c1
    clear c1
    cases ht : toldB (cF l) mv with
    | false =>
      have tM := tMc hc ht
      have tE := tE 6
      rw [show ((6 : Int) == 6) = true from rfl] at tE
      by_cases hcl : fitC l nL lv 0 = 0
      · have tL := tLo hcl
        cases hf : fitsB (cF l) lv with
        | false =>
          rw [hf] at tL
          clear tMe tMc tMo tLo tLe h hT hm hl hL hE hE0 hf hcl hc hp hG hflw hmv ht tLw HC1
          generalize l.length = nn at *
          go_enter Tryd.func7, Tryd.ntmps7
          go_wp2_with fail
          refine (tF w hB0).mono ?_
          rintro e w1 ⟨rfl, hx1⟩
          have hB1 := hB0.trans (hx1.mono hB0.size)
          go_wp2_with fail
          refine (tM w1 hB1).mono ?_
          rintro e w2 ⟨rfl, hx2⟩
          have hB2 := hB1.trans (hx2.mono hB1.size)
          go_wp2_with fail
          refine (tL w2 hB2).mono ?_
          rintro e w3 ⟨rfl, hx3⟩
          have hB3 := hB2.trans (hx3.mono hB2.size)
          go_wp2_with fail
          refine (tE w3 hB3).mono ?_
          rintro e w4 ⟨rfl, hx4⟩
          have hB4 := hB3.trans (hx4.mono hB3.size)
          go_wp2
          go_loop [12, 13] (fun f p => f = .bool false ∧ p = .int .i64 0) (fun _ _ => 0)
          case atStart => exact ⟨rfl, rfl⟩
          case round =>
            obtain ⟨rfl, rfl⟩ := hrel
            go_wp2
            go_ret
            exact ⟨rfl, hB4⟩
        | true =>
          rw [hf] at tL
          obtain ⟨_, rfl, hlv⟩ := fitC_ok hcl
          have HNo := Hid.mkI (fun (hh : ∀ j, j < 6 → mv j < 0 ∨ mv j = lv j) => show False by
            have := told_of_fits ((fitsB_iff _ _).1 hf) (fun j hj => (hlv j hj).1) hh
            rw [(toldB_iff _ _).2 this] at ht
            cases ht)
          obtain ⟨b0, o0, e0, -, c0⟩ : ∃ b off, vL = some ⟨b, off, none⟩ ∧ b < w.heap.size ∧ ∀ i, i < 6 → w.cell? ⟨b, off + i, none⟩ = some (.int .i64 (lv i)) := hL.resolve_left (by omega)
          subst e0
          have HC0 := Hid.mkI c0
          clear c0
          clear tMe tMc tMo tLo tLe h hT hm hl hL hE hE0 hf hcl hc hp hG hflw hmv ht tLw hlv
          generalize l.length = nn at *
          go_enter Tryd.func7, Tryd.ntmps7
          go_wp2_with fail
          refine (tF w hB0).mono ?_
          rintro e w1 ⟨rfl, hx1⟩
          have hB1 := hB0.trans (hx1.mono hB0.size)
          go_wp2_with fail
          refine (tM w1 hB1).mono ?_
          rintro e w2 ⟨rfl, hx2⟩
          have hB2 := hB1.trans (hx2.mono hB1.size)
          go_wp2_with fail
          refine (tL w2 hB2).mono ?_
          rintro e w3 ⟨rfl, hx3⟩
          have hB3 := hB2.trans (hx3.mono hB2.size)
          go_wp2_with fail
          refine (tE w3 hB3).mono ?_
          rintro e w4 ⟨rfl, hx4⟩
          have hB4 := hB3.trans (hx4.mono hB3.size)
          have HB4 := Hid.mkI hB4
          clear hB1 hB2 hB3 hB4 hx1 hx2 hx3 hx4 tF tL tM tE hB0
          go_wp2
          go_loopw [12, 13] (fun f p wr => ∃ (i q : Nat) (sb : Bool), i ≤ 6 ∧ f = .bool sb ∧ p = .int .i64 (i : Int) ∧ Hid (w4.drewN q = wr) ∧ Hid (sb = true → ∀ j, j < i → mv j < 0 ∨ mv j = lv j)) (fun _ p _ => 7 - (intOf p).toNat)
          case atStart => exact ⟨0, 0, true, by omega, rfl, rfl, rfl, fun _ j hj => absurd hj (by omega)⟩
          case round =>
            obtain ⟨i, q, sb, hi, rfl, rfl, HW, HQ⟩ := hrel
            by_cases hlt : i < 6
            · have hiI : (i : Int) < 6 := by omega
              cases sb with
              | false =>
                clear HQ
                go_wp2
                go_ret
                exact ⟨rfl, by rw [← HW.out]; exact below_drawn HB4.out q⟩
              | true =>
                have z1 : wr.cell? ⟨b1, o1 + i, none⟩ = some (.int .i64 (mv i)) := by rw [← HW.out]; exact keep_cell (below_drawn HB4.out q) (HC1.out i hlt)
                have z2 : wr.cell? ⟨b0, o0 + i, none⟩ = some (.int .i64 (lv i)) := by rw [← HW.out]; exact keep_cell (below_drawn HB4.out q) (HC0.out i hlt)
                have HN := Hid.mkI (fun (sb' : Bool) (hh : sb' = true → mv i < 0 ∨ mv i = lv i) => show sb' = true → ∀ j, j < i + 1 → mv j < 0 ∨ mv j = lv j from fun e j hj => by
                  by_cases e' : j = i
                  · rw [e']; exact hh e
                  · exact HQ.out rfl j (by omega))
                obtain ⟨x1, hx1⟩ : ∃ z, mv i = z := ⟨_, rfl⟩
                obtain ⟨x2, hx2⟩ : ∃ z, lv i = z := ⟨_, rfl⟩
                have HH := Hid.mkI (fun (sb' : Bool) (hh : sb' = true → x1 < 0 ∨ x1 = x2) => HN.out sb' (by rw [hx1, hx2]; exact hh))
                rw [hx1] at z1
                rw [hx2] at z2
                clear hx1 hx2 HN HQ HC0 HC1
                by_cases h0 : x1 < 0
                · have HO := Hid.mkI (HH.out true (fun _ => .inl h0))
                  have g0 : decide (x1 < 0) = true := decide_eq_true h0
                  clear HH h0
                  go_wp2
                  go_quiet (fail)
                  go_wp2
                  go_roundw
                  case rel => exact ⟨i + 1, q + nq, true, by omega, by first | rfl | trivial, by go_num, by show _ = _; rw [← HW.out, World.drewN_drewN], fun _ => HO.out (by first | trivial | rfl)⟩
                  case measure => simp [intOf]; omega
                · have g0 : decide (x1 < 0) = false := decide_eq_false h0
                  by_cases hxx : x1 = x2
                  · have HO := Hid.mkI (HH.out true (fun _ => .inr hxx))
                    subst hxx
                    have hyy : (x1 == x1) = true := by simp
                    clear HH h0
                    go_wp2
                    go_quiet (fail)
                    go_wp2
                    go_roundw
                    case rel => exact ⟨i + 1, q + nq, true, by omega, by first | rfl | trivial, by go_num, by show _ = _; rw [← HW.out, World.drewN_drewN], fun _ => HO.out (by first | trivial | rfl)⟩
                    case measure => simp [intOf]; omega
                  · have hyy : (x1 == x2) = false := by simpa using hxx
                    clear HH h0 hxx
                    go_wp2
                    go_quiet (fail)
                    go_wp2
                    go_roundw
                    case rel => exact ⟨i + 1, q + nq, false, by omega, by first | rfl | trivial, by go_num, by show _ = _; rw [← HW.out, World.drewN_drewN], fun q => by cases q⟩
                    case measure => simp [intOf]; omega
            · obtain rfl : i = 6 := by omega
              cases sb with
              | false =>
                clear HQ
                go_wp2
                go_ret
                exact ⟨rfl, by rw [← HW.out]; exact below_drawn HB4.out q⟩
              | true =>
                exact absurd (HNo.out (HQ.out rfl)) (fun q => q)
      · have tL := tLe hcl
        clear tMe tMc tMo tLo tLe h hT hm hl hL hE hE0 hcl hc hp hG hflw hmv ht tLw HC1
        generalize l.length = nn at *
        generalize fitC l nL lv 0 = pc at *
        go_enter Tryd.func7, Tryd.ntmps7
        go_wp2_with fail
        refine (tF w hB0).mono ?_
        rintro e w1 ⟨rfl, hx1⟩
        have hB1 := hB0.trans (hx1.mono hB0.size)
        go_wp2_with fail
        refine (tM w1 hB1).mono ?_
        rintro e w2 ⟨rfl, hx2⟩
        have hB2 := hB1.trans (hx2.mono hB1.size)
        go_wp2_with fail
        refine (tL w2 hB2).mono ?_
        rintro e w3 ⟨rfl, hx3⟩
        have hB3 := hB2.trans (hx3.mono hB2.size)
        go_wp2_with fail
        refine (tE w3 hB3).mono ?_
        rintro e w4 ⟨rfl, hx4⟩
        have hB4 := hB3.trans (hx4.mono hB3.size)
        go_wp2
        go_loop [12, 13] (fun f p => f = .bool false ∧ p = .int .i64 0) (fun _ _ => 0)
        case atStart => exact ⟨rfl, rfl⟩
        case round =>
          obtain ⟨rfl, rfl⟩ := hrel
          go_wp2
          go_ret
          exact ⟨rfl, hB4⟩
    | true =>
      have tM := tMo hc ht
      have htp := (toldB_iff _ _).1 ht
      have HFx := Hid.mkI (fun (g : Nat) (w1 : World) (hB : Below w.heap.size w w1) (hx : Lst w1 (.slice (some ⟨g, 0, none⟩) 6 6) 6 (leastI (cF l) mv)) => show Calls Tryd.prog 16 #[.slice a l.length cap, .slice (some ⟨g, 0, none⟩) 6 6] w1 fun e w' => e = .returned (.tuple #[.bool true, .nilIface]) ∧ Below w1.heap.size w1 w' by
        have hcx : fitC l 6 (leastI (cF l) mv) 0 = 0 := by rw [fitC_pro hp]; exact levC_fine fun j hj => least_levels hmv hj
        have := ffits_ok a cap (.slice (some ⟨g, 0, none⟩) 6 6) 6 (leastI (cF l) mv) hcx w1 (h.below hB) hx (hT.below hB hT.size)
        rw [(fitsB_iff _ _).2 (least_fits hflw htp)] at this
        exact this)
      have HTold := Hid.mkI (fun (i : Nat) (hi : 0 ≤ mv i) => least_told (c := cF l) hi)
      by_cases hcl : fitC l nL lv 0 = 0
      · have tL := tLo hcl
        cases hf : fitsB (cF l) lv with
        | false =>
          rw [hf] at tL
          clear tMe tMc tMo tLo tLe h hT hm hl hL hE hE0 hf hcl hc hp hG hflw hmv ht htp tLw tE
          generalize l.length = nn at *
          go_enter Tryd.func7, Tryd.ntmps7
          go_wp2_with fail
          refine (tF w hB0).mono ?_
          rintro e w1 ⟨rfl, hx1⟩
          have hB1 := hB0.trans (hx1.mono hB0.size)
          go_wp2_with fail
          refine (tM w1 hB1).mono ?_
          rintro e w2 ⟨g, rfl, HX, hx2⟩
          have hB2 := hB1.trans (hx2.mono hB1.size)
          go_wp2_with fail
          refine (tL w2 hB2).mono ?_
          rintro e w3 ⟨rfl, hx3⟩
          have hB3 := hB2.trans (hx3.mono hB2.size)
          have HX := Hid.mkI (HX.out.below hx3)
          have HB3 := Hid.mkI hB3
          clear hB1 hB2 hB3 hx1 hx2 hx3 tF tL tM hB0
          go_wp2
          go_loopw [12, 13] (fun f p wr => f = .bool false ∧ p = .int .i64 0 ∧ Hid (wr = w3)) (fun _ _ _ => 0)
          case atStart => exact ⟨rfl, rfl, rfl⟩
          case round =>
            obtain ⟨rfl, rfl, HW3⟩ := hrel
            obtain rfl := HW3.out
            have HBr := Hid.mkI HB3.out
            have HXr := Hid.mkI HX.out
            have tX := HFx.out g wr HBr.out HXr.out
            clear HFx
            go_wp2_with fail
            refine tX.mono ?_
            clear tX
            rintro e w5 ⟨rfl, hx5⟩
            have HX5 := Hid.mkI (HXr.out.below hx5)
            have HB5 := Hid.mkI (HBr.out.trans (hx5.mono HBr.out.size))
            clear hx5 HBr HXr
            go_wp2
            go_loopw [16] (fun p wr => ∃ (i q : Nat), i ≤ 6 ∧ p = .int .i64 (i : Int) ∧ Hid (w5.drewN q = wr)) (fun p _ => 7 - (intOf p).toNat)
            case atStart => exact ⟨0, 0, by omega, rfl, rfl⟩
            case round =>
              obtain ⟨i, q, hi, rfl, HW⟩ := hrel
              by_cases hlt : i < 6
              · have hiI : (i : Int) < 6 := by omega
                have z1 : wr.cell? ⟨b1, o1 + i, none⟩ = some (.int .i64 (mv i)) := by rw [← HW.out]; exact keep_cell (below_drawn HB5.out q) (HC1.out i hlt)
                have z2 : wr.cell? ⟨g, i, none⟩ = some (.int .i64 (leastI (cF l) mv i)) := by rw [← HW.out]; exact lst_at HX5.out hlt
                have HTi := Hid.mkI (HTold.out i)
                obtain ⟨x2, hx2⟩ : ∃ z, leastI (cF l) mv i = z := ⟨_, rfl⟩
                rw [hx2] at z2 HTi
                obtain ⟨x1, hx1⟩ : ∃ z, mv i = z := ⟨_, rfl⟩
                rw [hx1] at z1 HTi
                clear hx1 hx2 HX5 HC1 HTold
                by_cases h0 : 0 ≤ x1
                · obtain rfl := HTi.out h0
                  have g0 : decide (x2 ≥ 0) = true := decide_eq_true h0
                  have g1 : decide (0 ≤ x2) = true := decide_eq_true h0
                  have hyy : (x2 != x2) = false := by simp
                  clear HTi h0
                  go_wp2
                  go_quiet (fail)
                  go_wp2
                  go_roundw
                  case rel => exact ⟨i + 1, q + nq, by omega, by go_num, by show _ = _; rw [← HW.out, World.drewN_drewN]⟩
                  case measure => simp [intOf]; omega
                · have g0 : decide (x1 ≥ 0) = false := decide_eq_false h0
                  have g1 : decide (0 ≤ x1) = false := decide_eq_false h0
                  clear HTi h0
                  go_wp2
                  go_quiet (fail)
                  go_wp2
                  go_roundw
                  case rel => exact ⟨i + 1, q + nq, by omega, by go_num, by show _ = _; rw [← HW.out, World.drewN_drewN]⟩
                  case measure => simp [intOf]; omega
              · obtain rfl : i = 6 := by omega
                go_wp2
                go_ret
                exact ⟨rfl, by rw [← HW.out]; exact below_drawn HB5.out q⟩
        | true =>
          rw [hf] at tL
          obtain ⟨_, rfl, hlv⟩ := fitC_ok hcl
          have HLs := Hid.mkI (fun (hh : ∀ j, j < 6 → mv j < 0 ∨ mv j = lv j) => least_least ((fitsB_iff _ _).1 hf) (fun j hj => (hlv j hj).1) hh)
          obtain ⟨b0, o0, e0, -, c0⟩ : ∃ b off, vL = some ⟨b, off, none⟩ ∧ b < w.heap.size ∧ ∀ i, i < 6 → w.cell? ⟨b, off + i, none⟩ = some (.int .i64 (lv i)) := hL.resolve_left (by omega)
          subst e0
          have HC0 := Hid.mkI c0
          clear c0
          clear tMe tMc tMo tLo tLe h hT hm hl hL hE hE0 hf hcl hc hp hG hflw hmv ht htp tLw tE hlv
          generalize l.length = nn at *
          go_enter Tryd.func7, Tryd.ntmps7
          go_wp2_with fail
          refine (tF w hB0).mono ?_
          rintro e w1 ⟨rfl, hx1⟩
          have hB1 := hB0.trans (hx1.mono hB0.size)
          go_wp2_with fail
          refine (tM w1 hB1).mono ?_
          rintro e w2 ⟨g, rfl, HX, hx2⟩
          have hB2 := hB1.trans (hx2.mono hB1.size)
          go_wp2_with fail
          refine (tL w2 hB2).mono ?_
          rintro e w3 ⟨rfl, hx3⟩
          have hB3 := hB2.trans (hx3.mono hB2.size)
          have HX := Hid.mkI (HX.out.below hx3)
          have HB3 := Hid.mkI hB3
          clear hB1 hB2 hB3 hx1 hx2 hx3 tF tL tM hB0
          go_wp2
          go_loopw [12, 13] (fun f p wr => ∃ (i q : Nat) (sb : Bool), i ≤ 6 ∧ f = .bool sb ∧ p = .int .i64 (i : Int) ∧ Hid (w3.drewN q = wr) ∧ Hid (sb = true → ∀ j, j < i → mv j < 0 ∨ mv j = lv j)) (fun _ p _ => 7 - (intOf p).toNat)
          case atStart => exact ⟨0, 0, true, by omega, rfl, rfl, rfl, fun _ j hj => absurd hj (by omega)⟩
          case round =>
            obtain ⟨i, q, sb, hi, rfl, rfl, HW, HQ⟩ := hrel
            by_cases hlt : i < 6
            · have hiI : (i : Int) < 6 := by omega
              cases sb with
              | false =>
                clear HQ
                have HBr := Hid.mkI (show Below w.heap.size w wr by rw [← HW.out]; exact below_drawn HB3.out q)
                have HXr := Hid.mkI (show Lst wr (.slice (some ⟨g, 0, none⟩) 6 6) 6 (leastI (cF l) mv) by rw [← HW.out]; exact HX.out.drawn q)
                clear HC0 HX HB3 HLs HW
                have tX := HFx.out g wr HBr.out HXr.out
                clear HFx
                go_wp2_with fail
                refine tX.mono ?_
                clear tX
                rintro e w5 ⟨rfl, hx5⟩
                have HX5 := Hid.mkI (HXr.out.below hx5)
                have HB5 := Hid.mkI (HBr.out.trans (hx5.mono HBr.out.size))
                clear hx5 HBr HXr
                go_wp2
                go_loopw [16] (fun p wr => ∃ (i q : Nat), i ≤ 6 ∧ p = .int .i64 (i : Int) ∧ Hid (w5.drewN q = wr)) (fun p _ => 7 - (intOf p).toNat)
                case atStart => exact ⟨0, 0, by omega, rfl, rfl⟩
                case round =>
                  obtain ⟨i, q, hi, rfl, HW⟩ := hrel
                  by_cases hlt : i < 6
                  · have hiI : (i : Int) < 6 := by omega
                    have z1 : wr.cell? ⟨b1, o1 + i, none⟩ = some (.int .i64 (mv i)) := by rw [← HW.out]; exact keep_cell (below_drawn HB5.out q) (HC1.out i hlt)
                    have z2 : wr.cell? ⟨g, i, none⟩ = some (.int .i64 (leastI (cF l) mv i)) := by rw [← HW.out]; exact lst_at HX5.out hlt
                    have HTi := Hid.mkI (HTold.out i)
                    obtain ⟨x2, hx2⟩ : ∃ z, leastI (cF l) mv i = z := ⟨_, rfl⟩
                    rw [hx2] at z2 HTi
                    obtain ⟨x1, hx1⟩ : ∃ z, mv i = z := ⟨_, rfl⟩
                    rw [hx1] at z1 HTi
                    clear hx1 hx2 HX5 HC1 HTold
                    by_cases h0 : 0 ≤ x1
                    · obtain rfl := HTi.out h0
                      have g0 : decide (x2 ≥ 0) = true := decide_eq_true h0
                      have g1 : decide (0 ≤ x2) = true := decide_eq_true h0
                      have hyy : (x2 != x2) = false := by simp
                      clear HTi h0
                      go_wp2
                      go_quiet (fail)
                      go_wp2
                      go_roundw
                      case rel => exact ⟨i + 1, q + nq, by omega, by go_num, by show _ = _; rw [← HW.out, World.drewN_drewN]⟩
                      case measure => simp [intOf]; omega
                    · have g0 : decide (x1 ≥ 0) = false := decide_eq_false h0
                      have g1 : decide (0 ≤ x1) = false := decide_eq_false h0
                      clear HTi h0
                      go_wp2
                      go_quiet (fail)
                      go_wp2
                      go_roundw
                      case rel => exact ⟨i + 1, q + nq, by omega, by go_num, by show _ = _; rw [← HW.out, World.drewN_drewN]⟩
                      case measure => simp [intOf]; omega
                  · obtain rfl : i = 6 := by omega
                    go_wp2
                    go_ret
                    exact ⟨rfl, by rw [← HW.out]; exact below_drawn HB5.out q⟩
              | true =>
                have z1 : wr.cell? ⟨b1, o1 + i, none⟩ = some (.int .i64 (mv i)) := by rw [← HW.out]; exact keep_cell (below_drawn HB3.out q) (HC1.out i hlt)
                have z2 : wr.cell? ⟨b0, o0 + i, none⟩ = some (.int .i64 (lv i)) := by rw [← HW.out]; exact keep_cell (below_drawn HB3.out q) (HC0.out i hlt)
                have HN := Hid.mkI (fun (sb' : Bool) (hh : sb' = true → mv i < 0 ∨ mv i = lv i) => show sb' = true → ∀ j, j < i + 1 → mv j < 0 ∨ mv j = lv j from fun e j hj => by
                  by_cases e' : j = i
                  · rw [e']; exact hh e
                  · exact HQ.out rfl j (by omega))
                obtain ⟨x1, hx1⟩ : ∃ z, mv i = z := ⟨_, rfl⟩
                obtain ⟨x2, hx2⟩ : ∃ z, lv i = z := ⟨_, rfl⟩
                have HH := Hid.mkI (fun (sb' : Bool) (hh : sb' = true → x1 < 0 ∨ x1 = x2) => HN.out sb' (by rw [hx1, hx2]; exact hh))
                rw [hx1] at z1
                rw [hx2] at z2
                clear hx1 hx2 HN HQ HC0 HC1
                by_cases h0 : x1 < 0
                · have HO := Hid.mkI (HH.out true (fun _ => .inl h0))
                  have g0 : decide (x1 < 0) = true := decide_eq_true h0
                  clear HH h0
                  go_wp2
                  go_quiet (fail)
                  go_wp2
                  go_roundw
                  case rel => exact ⟨i + 1, q + nq, true, by omega, by first | rfl | trivial, by go_num, by show _ = _; rw [← HW.out, World.drewN_drewN], fun _ => HO.out (by first | trivial | rfl)⟩
                  case measure => simp [intOf]; omega
                · have g0 : decide (x1 < 0) = false := decide_eq_false h0
                  by_cases hxx : x1 = x2
                  · have HO := Hid.mkI (HH.out true (fun _ => .inr hxx))
                    subst hxx
                    have hyy : (x1 == x1) = true := by simp
                    clear HH h0
                    go_wp2
                    go_quiet (fail)
                    go_wp2
                    go_roundw
                    case rel => exact ⟨i + 1, q + nq, true, by omega, by first | rfl | trivial, by go_num, by show _ = _; rw [← HW.out, World.drewN_drewN], fun _ => HO.out (by first | trivial | rfl)⟩
                    case measure => simp [intOf]; omega
                  · have hyy : (x1 == x2) = false := by simpa using hxx
                    clear HH h0 hxx
                    go_wp2
                    go_quiet (fail)
                    go_wp2
                    go_roundw
                    case rel => exact ⟨i + 1, q + nq, false, by omega, by first | rfl | trivial, by go_num, by show _ = _; rw [← HW.out, World.drewN_drewN], fun q => by cases q⟩
                    case measure => simp [intOf]; omega
            · obtain rfl : i = 6 := by omega
              cases sb with
              | false =>
                clear HQ
                have HBr := Hid.mkI (show Below w.heap.size w wr by rw [← HW.out]; exact below_drawn HB3.out q)
                have HXr := Hid.mkI (show Lst wr (.slice (some ⟨g, 0, none⟩) 6 6) 6 (leastI (cF l) mv) by rw [← HW.out]; exact HX.out.drawn q)
                clear HC0 HX HB3 HLs HW
                have tX := HFx.out g wr HBr.out HXr.out
                clear HFx
                go_wp2_with fail
                refine tX.mono ?_
                clear tX
                rintro e w5 ⟨rfl, hx5⟩
                have HX5 := Hid.mkI (HXr.out.below hx5)
                have HB5 := Hid.mkI (HBr.out.trans (hx5.mono HBr.out.size))
                clear hx5 HBr HXr
                go_wp2
                go_loopw [16] (fun p wr => ∃ (i q : Nat), i ≤ 6 ∧ p = .int .i64 (i : Int) ∧ Hid (w5.drewN q = wr)) (fun p _ => 7 - (intOf p).toNat)
                case atStart => exact ⟨0, 0, by omega, rfl, rfl⟩
                case round =>
                  obtain ⟨i, q, hi, rfl, HW⟩ := hrel
                  by_cases hlt : i < 6
                  · have hiI : (i : Int) < 6 := by omega
                    have z1 : wr.cell? ⟨b1, o1 + i, none⟩ = some (.int .i64 (mv i)) := by rw [← HW.out]; exact keep_cell (below_drawn HB5.out q) (HC1.out i hlt)
                    have z2 : wr.cell? ⟨g, i, none⟩ = some (.int .i64 (leastI (cF l) mv i)) := by rw [← HW.out]; exact lst_at HX5.out hlt
                    have HTi := Hid.mkI (HTold.out i)
                    obtain ⟨x2, hx2⟩ : ∃ z, leastI (cF l) mv i = z := ⟨_, rfl⟩
                    rw [hx2] at z2 HTi
                    obtain ⟨x1, hx1⟩ : ∃ z, mv i = z := ⟨_, rfl⟩
                    rw [hx1] at z1 HTi
                    clear hx1 hx2 HX5 HC1 HTold
                    by_cases h0 : 0 ≤ x1
                    · obtain rfl := HTi.out h0
                      have g0 : decide (x2 ≥ 0) = true := decide_eq_true h0
                      have g1 : decide (0 ≤ x2) = true := decide_eq_true h0
                      have hyy : (x2 != x2) = false := by simp
                      clear HTi h0
                      go_wp2
                      go_quiet (fail)
                      go_wp2
                      go_roundw
                      case rel => exact ⟨i + 1, q + nq, by omega, by go_num, by show _ = _; rw [← HW.out, World.drewN_drewN]⟩
                      case measure => simp [intOf]; omega
                    · have g0 : decide (x1 ≥ 0) = false := decide_eq_false h0
                      have g1 : decide (0 ≤ x1) = false := decide_eq_false h0
                      clear HTi h0
                      go_wp2
                      go_quiet (fail)
                      go_wp2
                      go_roundw
                      case rel => exact ⟨i + 1, q + nq, by omega, by go_num, by show _ = _; rw [← HW.out, World.drewN_drewN]⟩
                      case measure => simp [intOf]; omega
                  · obtain rfl : i = 6 := by omega
                    go_wp2
                    go_ret
                    exact ⟨rfl, by rw [← HW.out]; exact below_drawn HB5.out q⟩
              | true =>
                have HBr := Hid.mkI (show Below w.heap.size w wr by rw [← HW.out]; exact below_drawn HB3.out q)
                have HXr := Hid.mkI (show Lst wr (.slice (some ⟨g, 0, none⟩) 6 6) 6 (leastI (cF l) mv) by rw [← HW.out]; exact HX.out.drawn q)
                have HLe := Hid.mkI (HLs.out (HQ.out rfl))
                clear HX HB3 HLs HW HQ
                have tX := HFx.out g wr HBr.out HXr.out
                clear HFx
                go_wp2_with fail
                refine tX.mono ?_
                clear tX
                rintro e w5 ⟨rfl, hx5⟩
                have HX5 := Hid.mkI (HXr.out.below hx5)
                have HB5 := Hid.mkI (HBr.out.trans (hx5.mono HBr.out.size))
                clear hx5 HBr HXr
                go_wp2
                go_loopw [16] (fun p wr => ∃ (i q : Nat), i ≤ 6 ∧ p = .int .i64 (i : Int) ∧ Hid (w5.drewN q = wr)) (fun p _ => 7 - (intOf p).toNat)
                case atStart => exact ⟨0, 0, by omega, rfl, rfl⟩
                case round =>
                  obtain ⟨i, q, hi, rfl, HW⟩ := hrel
                  by_cases hlt : i < 6
                  · have hiI : (i : Int) < 6 := by omega
                    have z1 : wr.cell? ⟨b1, o1 + i, none⟩ = some (.int .i64 (mv i)) := by rw [← HW.out]; exact keep_cell (below_drawn HB5.out q) (HC1.out i hlt)
                    have z2 : wr.cell? ⟨g, i, none⟩ = some (.int .i64 (leastI (cF l) mv i)) := by rw [← HW.out]; exact lst_at HX5.out hlt
                    have HTi := Hid.mkI (HTold.out i)
                    obtain ⟨x2, hx2⟩ : ∃ z, leastI (cF l) mv i = z := ⟨_, rfl⟩
                    have z3 : wr.cell? ⟨b0, o0 + i, none⟩ = some (.int .i64 (lv i)) := by rw [← HW.out]; exact keep_cell (below_drawn HB5.out q) (HC0.out i hlt)
                    have hle := HLe.out i hlt
                    obtain ⟨x3, hx3⟩ : ∃ z, lv i = z := ⟨_, rfl⟩
                    rw [hx3] at z3 hle
                    clear hx3
                    rw [hx2] at z2 HTi hle
                    obtain ⟨x1, hx1⟩ : ∃ z, mv i = z := ⟨_, rfl⟩
                    rw [hx1] at z1 HTi
                    have g3 : decide (x2 > x3) = false := decide_eq_false (by omega)
                    have g4 : decide (x3 < x2) = false := decide_eq_false (by omega)
                    clear hx1 hx2 HX5 HC1 HC0 HLe HTold hle
                    by_cases h0 : 0 ≤ x1
                    · obtain rfl := HTi.out h0
                      have g0 : decide (x2 ≥ 0) = true := decide_eq_true h0
                      have g1 : decide (0 ≤ x2) = true := decide_eq_true h0
                      have hyy : (x2 != x2) = false := by simp
                      clear HTi h0
                      go_wp2
                      go_quiet (fail)
                      go_wp2
                      go_roundw
                      case rel => exact ⟨i + 1, q + nq, by omega, by go_num, by show _ = _; rw [← HW.out, World.drewN_drewN]⟩
                      case measure => simp [intOf]; omega
                    · have g0 : decide (x1 ≥ 0) = false := decide_eq_false h0
                      have g1 : decide (0 ≤ x1) = false := decide_eq_false h0
                      clear HTi h0
                      go_wp2
                      go_quiet (fail)
                      go_wp2
                      go_roundw
                      case rel => exact ⟨i + 1, q + nq, by omega, by go_num, by show _ = _; rw [← HW.out, World.drewN_drewN]⟩
                      case measure => simp [intOf]; omega
                  · obtain rfl : i = 6 := by omega
                    go_wp2
                    go_ret
                    exact ⟨rfl, by rw [← HW.out]; exact below_drawn HB5.out q⟩
      · have tL := tLe hcl
        clear tMe tMc tMo tLo tLe h hT hm hl hL hE hE0 hcl hc hp hG hflw hmv ht htp tLw tE
        generalize l.length = nn at *
        generalize fitC l nL lv 0 = pc at *
        go_enter Tryd.func7, Tryd.ntmps7
        go_wp2_with fail
        refine (tF w hB0).mono ?_
        rintro e w1 ⟨rfl, hx1⟩
        have hB1 := hB0.trans (hx1.mono hB0.size)
        go_wp2_with fail
        refine (tM w1 hB1).mono ?_
        rintro e w2 ⟨g, rfl, HX, hx2⟩
        have hB2 := hB1.trans (hx2.mono hB1.size)
        go_wp2_with fail
        refine (tL w2 hB2).mono ?_
        rintro e w3 ⟨rfl, hx3⟩
        have hB3 := hB2.trans (hx3.mono hB2.size)
        have HX := Hid.mkI (HX.out.below hx3)
        have HB3 := Hid.mkI hB3
        clear hB1 hB2 hB3 hx1 hx2 hx3 tF tL tM hB0
        go_wp2
        go_loopw [12, 13] (fun f p wr => f = .bool false ∧ p = .int .i64 0 ∧ Hid (wr = w3)) (fun _ _ _ => 0)
        case atStart => exact ⟨rfl, rfl, rfl⟩
        case round =>
          obtain ⟨rfl, rfl, HW3⟩ := hrel
          obtain rfl := HW3.out
          have HBr := Hid.mkI HB3.out
          have HXr := Hid.mkI HX.out
          have tX := HFx.out g wr HBr.out HXr.out
          clear HFx
          go_wp2_with fail
          refine tX.mono ?_
          clear tX
          rintro e w5 ⟨rfl, hx5⟩
          have HX5 := Hid.mkI (HXr.out.below hx5)
          have HB5 := Hid.mkI (HBr.out.trans (hx5.mono HBr.out.size))
          clear hx5 HBr HXr
          go_wp2
          go_loopw [16] (fun p wr => ∃ (i q : Nat), i ≤ 6 ∧ p = .int .i64 (i : Int) ∧ Hid (w5.drewN q = wr)) (fun p _ => 7 - (intOf p).toNat)
          case atStart => exact ⟨0, 0, by omega, rfl, rfl⟩
          case round =>
            obtain ⟨i, q, hi, rfl, HW⟩ := hrel
            by_cases hlt : i < 6
            · have hiI : (i : Int) < 6 := by omega
              have z1 : wr.cell? ⟨b1, o1 + i, none⟩ = some (.int .i64 (mv i)) := by rw [← HW.out]; exact keep_cell (below_drawn HB5.out q) (HC1.out i hlt)
              have z2 : wr.cell? ⟨g, i, none⟩ = some (.int .i64 (leastI (cF l) mv i)) := by rw [← HW.out]; exact lst_at HX5.out hlt
              have HTi := Hid.mkI (HTold.out i)
              obtain ⟨x2, hx2⟩ : ∃ z, leastI (cF l) mv i = z := ⟨_, rfl⟩
              rw [hx2] at z2 HTi
              obtain ⟨x1, hx1⟩ : ∃ z, mv i = z := ⟨_, rfl⟩
              rw [hx1] at z1 HTi
              clear hx1 hx2 HX5 HC1 HTold
              by_cases h0 : 0 ≤ x1
              · obtain rfl := HTi.out h0
                have g0 : decide (x2 ≥ 0) = true := decide_eq_true h0
                have g1 : decide (0 ≤ x2) = true := decide_eq_true h0
                have hyy : (x2 != x2) = false := by simp
                clear HTi h0
                go_wp2
                go_quiet (fail)
                go_wp2
                go_roundw
                case rel => exact ⟨i + 1, q + nq, by omega, by go_num, by show _ = _; rw [← HW.out, World.drewN_drewN]⟩
                case measure => simp [intOf]; omega
              · have g0 : decide (x1 ≥ 0) = false := decide_eq_false h0
                have g1 : decide (0 ≤ x1) = false := decide_eq_false h0
                clear HTi h0
                go_wp2
                go_quiet (fail)
                go_wp2
                go_roundw
                case rel => exact ⟨i + 1, q + nq, by omega, by go_num, by show _ = _; rw [← HW.out, World.drewN_drewN]⟩
                case measure => simp [intOf]; omega
            · obtain rfl : i = 6 := by omega
              go_wp2
              go_ret
              exact ⟨rfl, by rw [← HW.out]; exact below_drawn HB5.out q⟩
  · have tM := tMe hc
    have h6 := fitC_codes l nM mv (-1)
    have tE := tE (fitC l nM mv (-1))
    rw [show (fitC l nM mv (-1) == 6) = false by simpa using h6] at tE
    clear tMe tMc tMo tLo tLe h hT hm hl hM hL hE hE0 hc h6
    generalize l.length = nn at *
    generalize fitC l nM mv (-1) = pc at *
    go_enter Tryd.func7, Tryd.ntmps7
    go_wp2_with fail
    refine (tF w hB0).mono ?_
    rintro e w1 ⟨rfl, hx1⟩
    have hB1 := hB0.trans (hx1.mono hB0.size)
    go_wp2_with fail
    refine (tM w1 hB1).mono ?_
    rintro e w2 ⟨rfl, hx2⟩
    have hB2 := hB1.trans (hx2.mono hB1.size)
    go_wp2_with fail
    refine (tLw w2 hB2).mono ?_
    rintro e w3 ⟨x0, x1, rfl, hx3⟩
    have hB3 := hB2.trans (hx3.mono hB2.size)
    go_wp2_with fail
    refine (tE w3 hB3).mono ?_
    rintro e w4 ⟨rfl, hx4⟩
    have hB4 := hB3.trans (hx4.mono hB3.size)
    go_wp2_with fail
    go_ret
    exact ⟨rfl, hB4⟩
end Go.Proofs.YtioimgeeamchaaaDoor
