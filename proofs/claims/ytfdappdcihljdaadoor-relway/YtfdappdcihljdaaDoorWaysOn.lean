/- The walk of the law RelWay where there is a way. -/
import Derived.WalkKit
import Derived.LoopTactic
import Derived.Outline
import Derived.Deep.QuietTactic
import Derived.BigQuiet
import Derived.Test.YtfdappdcihljdaaDoorWays
namespace Go.Proofs.YtfdappdcihljdaaDoor
open Go.RowKit

/-- What the walk is told of the way. -/
structure Leads (m : Nat) (R : Nat → Nat) (i j D : Nat) (W : Nat → Nat) : Prop where
  few : D ≤ 4096
  start : W 0 = i
  stop : W D = j
  lt : ∀ s, s ≤ D → W s < m
  on : ∀ s, s < D → (R (W s)).testBit (W (s + 1)) = true
  once : ∀ s t, s < t → t ≤ D → W s ≠ W t

set_option maxRecDepth 100000 in
set_option maxHeartbeats 800000 in
theorem ways_some (b off m cap i j D : Nat) (k : Int) (w : World) (R C : Nat → Nat) (hm : m ≤ 12) (hi : i < m) (hj : j < m) (hC : C i < 4096) (hb : (C i).testBit j = true) (hR : ∀ x, x < m → R x < 4096) (hr : Sets w b off m R)
    (hfact : Calls Tryd.prog 20 #[] w fun e w' => e = .returned (.bool true) ∧ Below w.heap.size w w')
    (hcl : ∀ w1, Below w.heap.size w w1 → Calls Tryd.prog 15 #[.slice (some ⟨b, off, none⟩) m cap] w1 fun e w' => e = .returned (.tuple #[.slice (some ⟨w1.heap.size, 0, none⟩) m m, .nilIface]) ∧ Own w' w1.heap.size m C ∧ Below w1.heap.size w1 w')
    (hwy : ∀ w1, Below w.heap.size w w1 → Calls Tryd.prog 19 #[.slice (some ⟨b, off, none⟩) m cap, .int .i64 i, .int .i64 j] w1 fun e w' => ∃ g cp W, e = .returned (.tuple #[.slice (some ⟨g, 0, none⟩) (D + 1 : Nat) cp, .nilIface]) ∧ Own w' g (D + 1) W ∧ Leads m R i j D W ∧ Below w1.heap.size w1 w')
    (hwk : ∀ w1 x, Below w.heap.size w w1 → x < m → (R j).testBit x = true → Calls Tryd.prog 19 #[.slice (some ⟨b, off, none⟩) m cap, .int .i64 i, .int .i64 x] w1 fun e w' => ∃ g cp E, e = .returned (.tuple #[.slice (some ⟨g, 0, none⟩) (E + 1 : Nat) cp, .nilIface]) ∧ E ≤ D + 1 ∧ Below w1.heap.size w1 w') :
    Calls Tryd.prog 6 #[.slice (some ⟨b, off, none⟩) m cap, .int .i64 i, .int .i64 j, .int .i64 k] w fun e w' => e = .returned (.bool true) ∧ Below w.heap.size w w' := by
  have t1 := bit_true (C i) j hC (by omega) hb
  have hii : (i : Int) < (m : Int) := by omega
  have hjj : (j : Int) < (m : Int) := by omega
  have HR : Hid (∀ x, x < m → R x < 4096) := hR
  clear hb hR
  go_enter Tryd.func6, Tryd.ntmps6
  go_wp2_with (first | (go_at_call 20; refine hfact.mono ?_; rintro e w1 ⟨rfl, hB⟩; have hcl1 := hcl w1 hB; clear hcl) | (go_at_call 15; refine hcl1.mono ?_; rintro e w2 ⟨rfl, ho, hB2⟩; have hBb := hB.trans (hB2.mono hB.size); have hwy1 := hwy w2 hBb; clear hwy) | (go_at_call 19; refine hwy1.mono ?_; rintro e w3 ⟨g, cp, W, rfl, hoW, hL, hB3⟩))
  have hBc := hBb.trans (hB3.mono hBb.size)
  have e1 := (ho.below hB3).cell i hi
  go_quiet ((first | (go_at_call 21; exact Calls.quiet_of_same (t1 _))))
  have hBd := below_drawn hBc nq
  have hoV := hoW.drawn nq
  have hrs : Sets (w3.drewN nq) b off m R := ⟨Nat.lt_of_lt_of_le hr.old hBd.size, fun x hx => (hBd.cell (p := ⟨b, off + x, none⟩) hr.old).trans (hr.cell x hx)⟩
  have hf := hL.few
  have c0 := hoV.cell 0 (by omega)
  rw [hL.start] at c0
  have cD := hoV.cell D (by omega)
  rw [hL.stop] at cD
  generalize hw4 : w3.drewN nq = w4 at hBd hoV hrs c0 cD ⊢
  clear hw4 hoW hB3 hBc hB2 hBb ho e1 hcl1 hwy1
  go_wp2
  go_loopw [14] (fun i wr => ∃ s : Nat, s ≤ D + 1 ∧ i = .int .i64 s ∧ Drawn w4 wr) (fun i _ => D + 1 - (intOf i).toNat)
  case atStart => exact ⟨0, by omega, rfl, Drawn.refl _⟩
  case round =>
    obtain ⟨s, hs, rfl, hDr⟩ := hrel
    have hBr := hDr.below hBd
    have hor : Own wr g (D + 1) W := by obtain ⟨n, rfl⟩ := hDr; exact hoV.drawn n
    have hsr := hDr.sets hrs
    by_cases hlt : s < D + 1
    · have hsi : (s : Int) < ((D + 1 : Nat) : Int) := by omega
      have e1 := hor.cell s hlt
      have l1 := hL.lt s (by omega)
      have d0 : decide ((W s : Int) < 0) = false := decide_eq_false (by omega)
      have d1 : decide ((m : Int) ≤ (W s : Int)) = false := decide_eq_false (by omega)
      have d1n : decide (m ≤ W s) = false := decide_eq_false (by omega)
      by_cases hs0 : s = 0
      · have d2 : decide (0 < (s : Int)) = false := decide_eq_false (by omega)
        have d3 : decide (0 < s) = false := decide_eq_false (by omega)
        clear hs0
        go_wp2
        go_quiet (fail)
        go_wp2
        clear d2 d3 e1
        go_loopw [15] (fun j wr => ∃ q : Nat, q ≤ s ∧ j = .int .i64 q ∧ Drawn w4 wr) (fun j _ => s - (intOf j).toNat)
        case atStart => exact ⟨0, by omega, rfl, hDr.more nq⟩
        case round =>
          obtain ⟨q, hq, rfl, hDr⟩ := hrel
          have hor : Own wr g (D + 1) W := by obtain ⟨n, rfl⟩ := hDr; exact hoV.drawn n
          have e1 := hor.cell s hlt
          by_cases hqt : q < s
          · have hqi : (q : Int) < ((D + 1 : Nat) : Int) := by omega
            have hqs : (q : Int) < (s : Int) := by omega
            have e2 := hor.cell q (by omega)
            have hne : ((W q : Int) == (W s : Int)) = false := by
              have := hL.once q s hqt (by omega)
              simp; omega
            go_wp2
            go_quiet (fail)
            go_wp2
            go_roundw
            case rel => exact ⟨q + 1, by omega, by go_num, hDr.more _⟩
            case measure => simp [intOf]; omega
          · go_wp2
            go_roundw
            case rel => exact ⟨s + 1, by omega, by go_num, hDr⟩
            case measure => simp [intOf]; omega
      · have d2 : decide (0 < (s : Int)) = true := decide_eq_true (by omega)
        have d3 : decide (0 < s) = true := decide_eq_true (by omega)
        have hon := hL.on (s - 1) (by omega)
        rw [show s - 1 + 1 = s by omega] at hon
        have e2 := hor.cell (s - 1) (by omega)
        have l2 := hL.lt (s - 1) (by omega)
        obtain ⟨P, hP⟩ : ∃ P, W (s - 1) = P := ⟨_, rfl⟩
        rw [hP] at hon e2 l2
        clear hP
        have e3 := hsr.cell P l2
        have hPi : (P : Int) < (m : Int) := by omega
        have hs1 : (s : Int) - 1 < ((D + 1 : Nat) : Int) := by omega
        have t2 := bit_true (R P) (W s) (HR.out P l2) (by omega) hon
        clear hon
        go_wp2
        go_quiet ((first | (go_at_call 21; exact Calls.quiet_of_same (t2 _))))
        go_wp2
        clear d2 d3 e1 e2 e3 t2
        go_loopw [15] (fun j wr => ∃ q : Nat, q ≤ s ∧ j = .int .i64 q ∧ Drawn w4 wr) (fun j _ => s - (intOf j).toNat)
        case atStart => exact ⟨0, by omega, rfl, hDr.more nq⟩
        case round =>
          obtain ⟨q, hq, rfl, hDr⟩ := hrel
          have hor : Own wr g (D + 1) W := by obtain ⟨n, rfl⟩ := hDr; exact hoV.drawn n
          have e1 := hor.cell s hlt
          by_cases hqt : q < s
          · have hqi : (q : Int) < ((D + 1 : Nat) : Int) := by omega
            have hqs : (q : Int) < (s : Int) := by omega
            have e2 := hor.cell q (by omega)
            have hne : ((W q : Int) == (W s : Int)) = false := by
              have := hL.once q s hqt (by omega)
              simp; omega
            go_wp2
            go_quiet (fail)
            go_wp2
            go_roundw
            case rel => exact ⟨q + 1, by omega, by go_num, hDr.more _⟩
            case measure => simp [intOf]; omega
          · go_wp2
            go_roundw
            case rel => exact ⟨s + 1, by omega, by go_num, hDr⟩
            case measure => simp [intOf]; omega
    · by_cases hk0 : k < 0
      · go_wp2
        go_ret
        exact ⟨rfl, hBr⟩
      · obtain ⟨x, rfl⟩ := Int.eq_ofNat_of_zero_le (show 0 ≤ k by omega)
        by_cases hxm : x < m
        · have hxi : (x : Int) < (m : Int) := by omega
          have e1 := hsr.cell j hj
          have l1 := HR.out j hj
          have hba := bit_any (R j) x l1 (by omega) wr
          cases hbt : (R j).testBit x with
          | false =>
            rw [hbt] at hba
            clear hbt
            go_wp2_with (go_at_call 21; refine hba.mono ?_; rintro e w' ⟨rfl, rfl⟩)
            go_ret
            exact ⟨rfl, hBr⟩
          | true =>
            rw [hbt] at hba
            have hw2 := hwk wr x hBr hxm hbt
            clear hbt hwk
            go_wp2_with (first | (go_at_call 21; refine hba.mono ?_; rintro e w' ⟨rfl, rfl⟩) | (go_at_call 19; refine hw2.mono ?_; rintro e w5 ⟨g5, cp5, E, rfl, hE, hB5⟩))
            go_ret
            exact ⟨by simp; omega, hBr.trans (hB5.mono hBr.size)⟩
        · have hxi : (m : Int) ≤ (x : Int) := by omega
          go_wp2
          go_ret
          exact ⟨rfl, hBr⟩
end Go.Proofs.YtfdappdcihljdaaDoor
