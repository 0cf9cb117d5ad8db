/- The least levels, as the document has them (Least). -/
import Derived.WalkKit
import Derived.LoopTactic
import Derived.OwnWalk
import Derived.Maps.AppendAt
import Derived.Test.YtioimgeeamchaaaDoorFloI
namespace Go.Proofs.YtioimgeeamchaaaDoor
open Go.RowKit
set_option maxRecDepth 100000
set_option linter.unusedVariables false

set_option maxHeartbeats 4000000 in
theorem rleast_any {l : List Nod} (hp : proC l = 0) (a : Option Addr) (cp : Nat) (v : Value) (lv : Nat → Int) (w : World) (hat : AtNods w a l.length (nthD l)) (hl : Lst w v 6 lv) :
    Calls Tryd.prog 12 #[.slice a l.length cp, v] w fun e w' => ∃ v', e = .returned v' ∧ Hid (Lst w' v' 6 (leastI (cF l) lv)) ∧ Below w.heap.size w w' := by
  have hG := good_of hp
  have tF := rfrom_any hp a cp w hat
  have HS := Hid.mkI (fun (i : Nat) (hi : i < 6) => comF_lt hG hi)
  obtain ⟨b, off, cv, rfl, hb, hc⟩ := lst_six_at hl (by decide)
  obtain ⟨i0, hi0, hz0, hz1, hz2⟩ := info_parts info3
  obtain ⟨n, hn⟩ : ∃ n, l.length = n := ⟨_, rfl⟩
  rw [hn] at tF ⊢
  clear hG hp hat hl hn
  go_enter Tryd.func12, Tryd.ntmps12
  go_wp2_with (go_at_call 9; (with_reducible refine tF.mono ?_); clear tF; rintro e w1 ⟨g, cg, rfl, hg, HO, hB1⟩)
  have HB1 := Hid.mkI hB1
  have HL1 := Hid.mkI (fun (i : Nat) (hi : i < 6) => keep_cell hB1 (hc i hi))
  have hg1 := HO.out.lt
  have hb1 : b < w1.heap.size := old_of_cell (HL1.out 0 (by decide))
  clear hB1 hc hb
  go_loopw [6, 7] (fun o p wr => ∃ i : Nat, i ≤ 6 ∧ p = .int .i64 (i : Int) ∧ Hid (wr.ownsRow w1.heap.size 3 1 o i (rowI i (leastI (cF l) lv))) ∧ Hid (Below w1.heap.size w1 wr)) (fun _ p _ => 6 - (intOf p).toNat)
  case atStart => exact ⟨0, by omega, rfl, World.ownsRow_nil _ _ _ _, Below.refl _ _⟩
  case round =>
    obtain ⟨i, hi, rfl, HW, HB⟩ := hrel
    by_cases hlt : i < 6
    · have hiI : (i : Int) < 6 := by omega
      have zr : wr.cell? ⟨g, i, none⟩ = some (.int .i64 (comF l i : Nat)) := keep_cell HB.out (HO.out.cell i hlt)
      have zx : wr.cell? ⟨b, off + i, none⟩ = some (.int .i64 (lv i)) := keep_cell HB.out (HL1.out i hlt)
      have HZ := Hid.mkI (fun (j : Nat) (hj : j < 6) => show wr.cell? ⟨b, off + j, none⟩ = some (.int .i64 (lv j)) from keep_cell HB.out (HL1.out j hj))
      have tB := fun (j : Nat) (hj : j < 6) w' => bit_any (comF l i) j (small12 (HS.out i hlt)) (by omega) w'
      have Hbit := Hid.mkI (fun j => show cF l i j = (comF l i).testBit j from rfl)
      have HMx := Hid.mkI (fun (t : Nat) => show mx (cF l) lv i (t + 1) = if cF l i t = true ∧ mx (cF l) lv i t < lv t then lv t else mx (cF l) lv i t from rfl)
      have HM0 : Hid (mx (cF l) lv i 0 = 0) := rfl
      have hc4 : i + 1 ≤ maxLen := by unfold maxLen; omega
      have hc5 : (i + 1) * 8 ≤ 140737488355328 := by omega
      by_cases h0 : 0 ≤ lv i
      · have HE : Hid (leastI (cF l) lv i = lv i) := least_told h0
        obtain ⟨x, hx⟩ : ∃ x, lv i = x := ⟨_, rfl⟩
        rw [hx] at zx h0 HE
        have d1 : decide (x < 0) = false := decide_eq_false (by omega)
        have hone : ∀ u ∈ [Value.int .i64 x], u.oneCell' = true := by intro u hu; rw [List.mem_singleton.1 hu]; rfl
        have hbase : w1.heap.size ≤ (wr.alloc (.cells #[.int .i64 x] 3)).heap.size := by have := HB.out.size; simp; omega
        clear HMx HM0 Hbit tB HZ hx
        go_wp2
        go_loop [8, 9] (fun m p => m = .int .i64 x ∧ p = .int .i64 0) (fun _ _ => 0)
        case atStart => exact ⟨rfl, rfl⟩
        case round =>
          obtain ⟨rfl, rfl⟩ := hrel
          go_wp2_with (at_builtin; refine wpList_append_own _ rfl _ _ 23 rfl w1.heap.size 3 i0 (.int .i64 0) 1 8 Tryd.underlying23 hi0 hz0 hz1 hz2 rfl (by decide) _ i (rowI i (leastI (cF l) lv)) rfl (HW.out.alloc _) ⟨_, 0, none⟩ 1 1 [.int .i64 x] rfl rfl (cell_one_new _ _ _) hone hc4 hc5 hbase ?_; intro v' w3 hown' hgrow hnil; have hB3 : Below w1.heap.size w1 w3 := (HB.out.alloc HB.out.size _).grown hgrow hbase (rowI_block HW.out); rw [← HE.out, rowI_snoc] at hown')
          go_roundw
          case rel => exact ⟨i + 1, by omega, by go_num, hown', hB3⟩
          case measure => simp [intOf]; omega
      · have HE : Hid (leastI (cF l) lv i = mx (cF l) lv i 6) := by show _ = _; unfold leastI; rw [if_neg h0]
        obtain ⟨x, hx⟩ : ∃ x, lv i = x := ⟨_, rfl⟩
        rw [hx] at zx h0
        have d1 : decide (x < 0) = true := decide_eq_true (by omega)
        have d2 : decide (x ≥ 0) = false := decide_eq_false (by omega)
        have hx0 : x < 0 := by omega
        clear hx h0
        go_wp2
        go_loop [8, 9] (fun m p => ∃ j : Nat, j ≤ 6 ∧ m = .int .i64 (mx (cF l) lv i j) ∧ p = .int .i64 (j : Int)) (fun _ p => 6 - (intOf p).toNat)
        case atStart => exact ⟨0, by omega, by rw [HM0.out], rfl⟩
        case round =>
          obtain ⟨j, hj, rfl, rfl⟩ := hrel
          by_cases hjt : j < 6
          · have hjI : (j : Int) < 6 := by omega
            have zy := HZ.out j hjt
            have tB := tB j hjt
            have HMj := Hid.mkI (HMx.out j)
            rw [Hbit.out j] at HMj
            obtain ⟨bt, hbt⟩ : ∃ z, (comF l i).testBit j = z := ⟨_, rfl⟩
            rw [hbt] at tB HMj
            obtain ⟨set, hset⟩ : ∃ z, comF l i = z := ⟨_, rfl⟩
            rw [hset] at zr tB
            obtain ⟨y, hy⟩ : ∃ y, lv j = y := ⟨_, rfl⟩
            rw [hy] at zy HMj
            obtain ⟨m, hm⟩ : ∃ m, mx (cF l) lv i j = m := ⟨_, rfl⟩
            rw [hm] at HMj
            rw [hm]
            clear hbt hset hy hm HMx HM0 Hbit HZ
            cases bt with
            | false =>
              have HMk : Hid (mx (cF l) lv i (j + 1) = m) := by
                have := HMj.out
                rw [if_neg (fun q => by cases q.1)] at this
                exact this
              clear HMj
              go_wp2_with (go_at_call 20; (with_reducible refine (tB _).mono ?_); clear tB; rintro e w2 ⟨rfl, hw⟩; obtain rfl := hw.symm)
              go_round
              case rel => exact ⟨j + 1, by omega, by rw [HMk.out], by go_num⟩
              case measure => simp [intOf]; omega
            | true =>
              by_cases hmy : m < y
              · have HMk : Hid (mx (cF l) lv i (j + 1) = y) := by
                  have := HMj.out
                  rw [if_pos ⟨rfl, hmy⟩] at this
                  exact this
                have e1 : decide (y > m) = true := decide_eq_true hmy
                have e2 : decide (m < y) = true := decide_eq_true hmy
                clear HMj
                go_wp2_with (go_at_call 20; (with_reducible refine (tB _).mono ?_); clear tB; rintro e w2 ⟨rfl, hw⟩; obtain rfl := hw.symm)
                go_round
                case rel => exact ⟨j + 1, by omega, by rw [HMk.out], by go_num⟩
                case measure => simp [intOf]; omega
              · have HMk : Hid (mx (cF l) lv i (j + 1) = m) := by
                  have := HMj.out
                  rw [if_neg (fun q => hmy q.2)] at this
                  exact this
                have e1 : decide (y > m) = false := decide_eq_false hmy
                have e2 : decide (m < y) = false := decide_eq_false hmy
                clear HMj
                go_wp2_with (go_at_call 20; (with_reducible refine (tB _).mono ?_); clear tB; rintro e w2 ⟨rfl, hw⟩; obtain rfl := hw.symm)
                go_round
                case rel => exact ⟨j + 1, by omega, by rw [HMk.out], by go_num⟩
                case measure => simp [intOf]; omega
          · obtain rfl : j = 6 := by omega
            clear HMx HM0 Hbit tB HZ
            obtain ⟨m, hm⟩ : ∃ m, mx (cF l) lv i 6 = m := ⟨_, rfl⟩
            rw [hm] at HE
            rw [hm]
            have hone : ∀ u ∈ [Value.int .i64 m], u.oneCell' = true := by intro u hu; rw [List.mem_singleton.1 hu]; rfl
            have hbase : w1.heap.size ≤ (wr.alloc (.cells #[.int .i64 m] 3)).heap.size := by have := HB.out.size; simp; omega
            clear hm
            go_wp2_with (at_builtin; refine wpList_append_own _ rfl _ _ 23 rfl w1.heap.size 3 i0 (.int .i64 0) 1 8 Tryd.underlying23 hi0 hz0 hz1 hz2 rfl (by decide) _ i (rowI i (leastI (cF l) lv)) rfl (HW.out.alloc _) ⟨_, 0, none⟩ 1 1 [.int .i64 m] rfl rfl (cell_one_new _ _ _) hone hc4 hc5 hbase ?_; intro v' w3 hown' hgrow hnil; have hB3 : Below w1.heap.size w1 w3 := (HB.out.alloc HB.out.size _).grown hgrow hbase (rowI_block HW.out); rw [← HE.out, rowI_snoc] at hown')
            go_roundw
            case rel => exact ⟨i + 1, by omega, by go_num, hown', hB3⟩
            case measure => simp [intOf]; omega
    · obtain rfl : i = 6 := by omega
      go_wp2
      go_ret
      exact ⟨_, rfl, lst_of_row HW.out, HB1.out.trans (HB.out.mono HB1.out.size)⟩
end Go.Proofs.YtioimgeeamchaaaDoor
