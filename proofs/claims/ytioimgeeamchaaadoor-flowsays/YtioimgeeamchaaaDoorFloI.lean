/- Levels, as the document has them: what is wrong with some (Levels), whether they fit (Fits), the least (Least). -/
import Derived.WalkKit
import Derived.LoopTactic
import Derived.OwnWalk
import Derived.Maps.AppendAt
import Derived.Deep.QuietTactic
import Derived.BigQuiet
import Derived.Test.YtioimgeeamchaaaDoorFloH
import Derived.Test.YtioimgeeamchaaaDoorLst
namespace Go.Proofs.YtioimgeeamchaaaDoor
open Go.RowKit
set_option maxRecDepth 100000
set_option linter.unusedVariables false

theorem Own.drawnF {w : World} {B m : Nat} {f : Nat → Nat} (h : Own w B m f) (k : Nat) : Own (w.drewN k) B m f := ⟨h.lt, h.cell, h.free⟩
/-- A list of six lies somewhere. -/
theorem lst_six_at {w : World} {v : Value} {n : Nat} {f : Nat → Int} (h : Lst w v n f) (h0 : 0 < n) : ∃ b off cp, v = .slice (some ⟨b, off, none⟩) n cp ∧ b < w.heap.size ∧ ∀ i, i < n → w.cell? ⟨b, off + i, none⟩ = some (.int .i64 (f i)) := by
  obtain ⟨a, cp, rfl, h⟩ := h
  obtain ⟨b, off, rfl, hb, hc⟩ := h.resolve_left (by omega)
  exact ⟨b, off, cp, rfl, hb, hc⟩
theorem rlevels_any (v : Value) (n : Nat) (lv : Nat → Int) (low : Int) (w : World) (hl : Lst w v n lv) :
    Calls Tryd.prog 10 #[v, .int .i64 low] w fun e w' => e = .returned (.int .i64 (levC n lv low)) ∧ w' = w := by
  by_cases hn : n = 6
  · subst hn
    obtain ⟨b, off, cp, rfl, hb, hc⟩ := lst_six_at hl (by decide)
    have HBad := Hid.mkI (fun (j : Nat) (hj : j < 6) (h : lv j < low ∨ 7 < lv j) => levC_bad hj h)
    have HFine := Hid.mkI (fun (h : ∀ j, j < 6 → low ≤ lv j ∧ lv j ≤ 7) => levC_fine h)
    obtain ⟨c, hcc⟩ : ∃ c, levC 6 lv low = c := ⟨_, rfl⟩
    rw [hcc] at HBad HFine ⊢
    have HC := Hid.mkI hc
    clear hcc hl hc
    go_enter Tryd.func10, Tryd.ntmps10
    go_wp2
    go_loop [5] (fun p => ∃ i : Nat, i ≤ 6 ∧ p = .int .i64 (i : Int) ∧ Hid (∀ j, j < i → low ≤ lv j ∧ lv j ≤ 7)) (fun p => 6 - (intOf p).toNat)
    case atStart => exact ⟨0, by omega, rfl, fun j hj => absurd hj (by omega)⟩
    case round =>
      obtain ⟨i, hi, rfl, HQ⟩ := hrel
      by_cases hlt : i < 6
      · have hiI : (i : Int) < 6 := by omega
        have z := HC.out i hlt
        have tI := fun w' => rin_any (lv i) low 7 w'
        have HB := Hid.mkI (HBad.out i hlt)
        by_cases hg : low ≤ lv i ∧ lv i ≤ 7
        · rw [decide_eq_true hg] at tI
          have HQ2 : Hid (∀ j, j < i + 1 → low ≤ lv j ∧ lv j ≤ 7) := fun j hj => by
            by_cases e : j = i
            · rw [e]; exact hg
            · exact HQ.out j (by omega)
          obtain ⟨y, hy⟩ : ∃ y, lv i = y := ⟨_, rfl⟩
          rw [hy] at z tI
          clear HB hg hy
          go_wp2_with (go_at_call 22; (with_reducible refine (tI _).mono ?_); clear tI; rintro e w1 ⟨rfl, hw⟩; obtain rfl := hw.symm)
          go_round
          case rel => exact ⟨i + 1, by omega, by go_num, HQ2.out⟩
          case measure => simp [intOf]; omega
        · obtain rfl := (HB.out (by omega)).symm
          rw [decide_eq_false hg] at tI
          obtain ⟨y, hy⟩ : ∃ y, lv i = y := ⟨_, rfl⟩
          rw [hy] at z tI
          clear HB HBad HFine hg hy
          go_wp2_with (go_at_call 22; (with_reducible refine (tI _).mono ?_); clear tI; rintro e w1 ⟨rfl, hw⟩; obtain rfl := hw.symm)
          go_ret
          exact ⟨rfl, rfl⟩
      · obtain rfl : i = 6 := by omega
        obtain rfl := (HFine.out HQ.out).symm
        clear HBad HFine
        go_wp2
        go_ret
        exact ⟨rfl, rfl⟩
  · have e : levC n lv low = 3 := by unfold levC; rw [if_pos hn]
    rw [e]
    obtain ⟨a, cp, rfl, -⟩ := hl
    have hnI : ((n : Int) != 6) = true := by simp; omega
    clear e hn
    go_enter Tryd.func10, Tryd.ntmps10
    go_wp2
    go_ret
    exact ⟨rfl, rfl⟩
set_option maxHeartbeats 4000000 in
theorem rfits_any {l : List Nod} (hp : proC l = 0) (a : Option Addr) (cp : Nat) (v : Value) (lv : Nat → Int) (w : World) (hat : AtNods w a l.length (nthD l)) (hl : Lst w v 6 lv) :
    Calls Tryd.prog 11 #[.slice a l.length cp, v] w fun e w' => e = .returned (.bool (toldB (cF l) lv)) ∧ Below w.heap.size w w' := by
  have hG := good_of hp
  have tF := rfrom_any hp a cp w hat
  have HS := Hid.mkI (fun (i : Nat) (hi : i < 6) => comF_lt hG hi)
  obtain ⟨b, off, cv, rfl, hb, hc⟩ := lst_six_at hl (by decide)
  have HT := Hid.mkI (toldB_iff (cF l) lv)
  obtain ⟨T, hT⟩ : ∃ T, toldB (cF l) lv = T := ⟨_, rfl⟩
  rw [hT] at HT ⊢
  obtain ⟨n, hn⟩ : ∃ n, l.length = n := ⟨_, rfl⟩
  rw [hn] at tF ⊢
  clear hG hp hat hl hT hn
  go_enter Tryd.func11, Tryd.ntmps11
  go_wp2_with (go_at_call 9; (with_reducible refine tF.mono ?_); clear tF; rintro e w1 ⟨g, cg, rfl, hg, HO, hB1⟩)
  have HB1 := Hid.mkI hB1
  have HL1 := Hid.mkI (fun (i : Nat) (hi : i < 6) => keep_cell hB1 (hc i hi))
  clear hB1 hc hb
  go_loopw [6] (fun p wr => ∃ (i q : Nat), i ≤ 6 ∧ p = .int .i64 (i : Int) ∧ Hid (w1.drewN q = wr) ∧ Hid (∀ i', i' < i → ∀ j, j < 6 → cF l i' j = true → 0 ≤ lv i' → lv j ≤ lv i')) (fun p _ => 6 - (intOf p).toNat)
  case atStart => exact ⟨0, 0, by omega, rfl, rfl, fun j hj => absurd hj (by omega)⟩
  case round =>
    obtain ⟨i, q, hi, rfl, HW, HQ⟩ := hrel
    by_cases hlt : i < 6
    · have hiI : (i : Int) < 6 := by omega
      go_wp2
      go_loopw [7] (fun p wz => ∃ (j q : Nat), j ≤ 6 ∧ p = .int .i64 (j : Int) ∧ Hid (w1.drewN q = wz) ∧ Hid (∀ j', j' < j → cF l i j' = true → 0 ≤ lv i → lv j' ≤ lv i)) (fun p _ => 6 - (intOf p).toNat)
      case atStart => exact ⟨0, q, by omega, rfl, HW.out, fun j hj => absurd hj (by omega)⟩
      case round =>
        clear HW q
        obtain ⟨j, q, hj, rfl, HW, HJ⟩ := hrel
        by_cases hjt : j < 6
        · have hjI : (j : Int) < 6 := by omega
          have zr : wr.cell? ⟨g, i, none⟩ = some (.int .i64 (comF l i : Nat)) := by rw [← HW.out]; exact (HO.out.drawnF q).cell i hlt
          have zx : wr.cell? ⟨b, off + i, none⟩ = some (.int .i64 (lv i)) := by rw [← HW.out]; exact HL1.out i hlt
          have zy : wr.cell? ⟨b, off + j, none⟩ = some (.int .i64 (lv j)) := by rw [← HW.out]; exact HL1.out j hjt
          have tB := fun w' => bit_any (comF l i) j (small12 (HS.out i hlt)) (by omega) w'
          have HJn := Hid.mkI (fun (h : cF l i j = true → 0 ≤ lv i → lv j ≤ lv i) => show ∀ j', j' < j + 1 → cF l i j' = true → 0 ≤ lv i → lv j' ≤ lv i from fun j' hj' => by
            by_cases e : j' = j
            · rw [e]; exact h
            · exact HJ.out j' (by omega))
          have HBad := Hid.mkI (fun (h1 : (comF l i).testBit j = true) (h2 : 0 ≤ lv i) (h3 : lv i < lv j) => show T = false by
            cases hT : T with
            | false => rfl
            | true => have := HT.out.1 hT i hlt j hjt h1 h2; omega)
          have Hbit := Hid.mkI (show cF l i j = (comF l i).testBit j from rfl)
          obtain ⟨x, hx⟩ : ∃ x, lv i = x := ⟨_, rfl⟩
          obtain ⟨y, hy⟩ : ∃ y, lv j = y := ⟨_, rfl⟩
          rw [hx] at zx HBad
          rw [hy] at zy HBad
          have Hx := Hid.mkI hx
          have Hy := Hid.mkI hy
          obtain ⟨bt, hbt⟩ : ∃ z, (comF l i).testBit j = z := ⟨_, rfl⟩
          rw [hbt] at tB HBad Hbit
          obtain ⟨set, hset⟩ : ∃ z, comF l i = z := ⟨_, rfl⟩
          rw [hset] at zr tB
          clear hx hy hbt hset HJ HL1 HO HS HT
          cases bt with
          | false =>
            have HJ2 := HJn.out (fun h => by rw [Hbit.out] at h; cases h)
            have HJ2 := Hid.mkI HJ2
            clear HJn HBad Hbit
            go_wp2
            go_quiet ((go_at_call 20; exact Calls.quiet_of_same (tB _)))
            go_wp2
            go_roundw
            case rel => exact ⟨j + 1, q + nq, by omega, by go_num, by show _ = _; rw [← HW.out, World.drewN_drewN], HJ2⟩
            case measure => simp [intOf]; omega
          | true =>
            by_cases h0 : 0 ≤ x
            · have d1 : decide (x ≥ 0) = true := decide_eq_true h0
              have d1' : decide (0 ≤ x) = true := decide_eq_true h0
              by_cases hxy : x < y
              · have d2 : decide (y > x) = true := decide_eq_true hxy
                have d2' : decide (x < y) = true := decide_eq_true hxy
                obtain rfl := (HBad.out rfl h0 hxy).symm
                clear HJn HBad Hbit hxy h0
                go_wp2
                go_quiet ((go_at_call 20; exact Calls.quiet_of_same (tB _)))
                go_wp2
                go_ret
                exact ⟨rfl, by rw [← HW.out, World.drewN_drewN]; exact below_drawn HB1.out _⟩
              · have d2 : decide (y > x) = false := decide_eq_false hxy
                have d2' : decide (x < y) = false := decide_eq_false hxy
                have HJ2 := Hid.mkI (HJn.out (fun _ _ => by rw [Hx.out, Hy.out]; omega))
                clear HJn HBad Hbit hxy h0
                go_wp2
                go_quiet ((go_at_call 20; exact Calls.quiet_of_same (tB _)))
                go_wp2
                go_roundw
                case rel => exact ⟨j + 1, q + nq, by omega, by go_num, by show _ = _; rw [← HW.out, World.drewN_drewN], HJ2⟩
                case measure => simp [intOf]; omega
            · have d1 : decide (x ≥ 0) = false := decide_eq_false h0
              have d1' : decide (0 ≤ x) = false := decide_eq_false h0
              have HJ2 := Hid.mkI (HJn.out (fun _ h => absurd (by rw [← Hx.out]; exact h) h0))
              clear HJn HBad Hbit h0
              go_wp2
              go_quiet ((go_at_call 20; exact Calls.quiet_of_same (tB _)))
              go_wp2
              go_roundw
              case rel => exact ⟨j + 1, q + nq, by omega, by go_num, by show _ = _; rw [← HW.out, World.drewN_drewN], HJ2⟩
              case measure => simp [intOf]; omega
        · obtain rfl : j = 6 := by omega
          have HQ2 : Hid (∀ i', i' < i + 1 → ∀ j, j < 6 → cF l i' j = true → 0 ≤ lv i' → lv j ≤ lv i') := fun i' hi' => by
            by_cases e : i' = i
            · rw [e]; exact HJ.out
            · exact HQ.out i' (by omega)
          clear HJ HQ HT
          go_wp2
          go_roundw
          case rel => exact ⟨i + 1, q, by omega, by go_num, HW.out, HQ2⟩
          case measure => simp [intOf]; omega
    · obtain rfl : i = 6 := by omega
      obtain rfl := (HT.out.2 (fun i' hi' j hj hcj h0 => HQ.out i' hi' j hj hcj h0)).symm
      clear HT HQ
      go_wp2
      go_ret
      exact ⟨rfl, by rw [← HW.out]; exact below_drawn HB1.out q⟩
end Go.Proofs.YtioimgeeamchaaaDoor
