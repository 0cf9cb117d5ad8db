/- What is wrong with a program, its variables and fuel, as the document has it (Running). -/
import Derived.WalkKit
import Derived.LoopTactic
import Derived.OwnWalk
import Derived.Test.YtahdbhehaoeemaaDoorRunB
import Derived.Test.YtahdbhehaoeemaaDoorProR
namespace Go.Proofs.YtahdbhehaoeemaaDoor
open Go.RowKit
set_option maxRecDepth 100000
set_option linter.unusedVariables false

/-- What is wrong with a program, so many variables, and fuel. -/
def runC (l : List Nod) (n : Nat) (s : Nat → Int) (F : Int) : Int :=
  if proC l ≠ 0 then proC l else if n ≠ 6 then 3 else if (List.range 6).any (fun j => decide (s j < 0 ∨ 999999 < s j)) = true then 1 else if F < 0 ∨ 5000 < F then 1 else 0
theorem runC_ok {l : List Nod} {n : Nat} {s : Nat → Int} {F : Int} (h : runC l n s F = 0) : proC l = 0 ∧ n = 6 ∧ Bnd6 s ∧ 0 ≤ F ∧ F ≤ 5000 := by
  unfold runC at h
  split at h
  · rename_i q; exact absurd h q
  rename_i q
  split at h
  · cases h
  rename_i q2
  split at h
  · cases h
  rename_i q3
  split at h
  · cases h
  rename_i q4
  refine ⟨Classical.not_not.1 q, by omega, fun j hj => ?_, by omega, by omega⟩
  simp only [List.any_eq_true, List.mem_range, decide_eq_true_eq, not_exists, not_and] at q3
  have := q3 j hj
  omega
theorem bnd_any {s : Nat → Int} (h : Bnd6 s) : (List.range 6).any (fun j => decide (s j < 0 ∨ 999999 < s j)) = false := by
  rw [List.any_eq_false]
  intro j hj
  have := h j (List.mem_range.1 hj)
  simp
  omega
theorem bad_any {s : Nat → Int} {j : Nat} (hj : j < 6) (h : s j < 0 ∨ 999999 < s j) : (List.range 6).any (fun j => decide (s j < 0 ∨ 999999 < s j)) = true := by
  rw [List.any_eq_true]
  exact ⟨j, List.mem_range.2 hj, by simpa using h⟩
set_option maxHeartbeats 4000000 in
theorem refRunning_any (l : List Nod) (a : Option Addr) (cp : Nat) (v : Value) (nv : Nat) (s : Nat → Int) (F : Int) (w : World) (hat : AtNods w a l.length (nthD l)) (hl : Lst w v nv s) :
    Calls Tryd.prog 5 #[.slice a l.length cp, v, .int .i64 F] w fun e w' => e = .returned (.int .i64 (runC l nv s F)) ∧ Below w.heap.size w w' := by
  have tP := rprog_any l a cp w hat
  have tI := fun x lo hi (w : World) => rin_any x lo hi w
  obtain ⟨av, cv, rfl, hlv⟩ := hl
  unfold runC
  by_cases hc : proC l = 0
  · rw [hc] at tP ⊢
    rw [if_neg (by simp)]
    by_cases h6 : nv = 6
    · subst h6
      rw [if_neg (by simp)]
      obtain ⟨bv, ov, rfl, hbv, hcv⟩ := hlv.resolve_left (by omega)
      obtain ⟨R, hR⟩ : ∃ R : Int, (if (List.range 6).any (fun j => decide (s j < 0 ∨ 999999 < s j)) = true then 1 else if F < 0 ∨ 5000 < F then 1 else 0) = R := ⟨_, rfl⟩
      rw [hR]
      have HR := Hid.mkI hR
      have Hcv := Hid.mkI hcv
      clear hR hcv hlv hat hc
      obtain ⟨n, hn⟩ : ∃ n, l.length = n := ⟨_, rfl⟩
      rw [hn] at tP ⊢
      clear hn
      go_enter Tryd.func5, Tryd.ntmps5
      go_wp2_with (go_at_call 12; (with_reducible refine tP.mono ?_); clear tP; rintro e w1 ⟨rfl, hB1⟩)
      go_loopw [7, 8] (fun e p wr => (∃ k : Nat, k ≤ 6 ∧ p = .int .i64 (k : Int) ∧ e = .int .i64 0 ∧ Below w.heap.size w wr ∧ Hid (∀ j, j < k → 0 ≤ s j ∧ s j ≤ 999999)) ∨ (∃ k : Nat, k ≤ 6 ∧ p = .int .i64 (k : Int) ∧ e = .int .i64 1 ∧ Below w.heap.size w wr ∧ Hid (R = 1))) (fun e p _ => 7 - (intOf p).toNat)
      case atStart => exact .inl ⟨0, by omega, rfl, rfl, hB1, fun j hj => absurd hj (by omega)⟩
      case round =>
        clear hB1
        rcases hrel with ⟨k, hk, rfl, rfl, hB1, H⟩ | ⟨k, hk, rfl, rfl, hB1, H⟩
        · by_cases hlt : k < 6
          · have hkI : (k : Int) < 6 := by omega
            have c1 := keep_cell hB1 (Hcv.out k hlt)
            have tX := fun w' => tI (s k) 0 999999 w'
            by_cases hs : 0 ≤ s k ∧ s k ≤ 999999
            · rw [decide_eq_true hs] at tX
              have H2 : Hid (∀ j, j < k + 1 → 0 ≤ s j ∧ s j ≤ 999999) := fun j hj => by
                by_cases e : j = k
                · rw [e]; exact hs
                · exact H.out j (by omega)
              obtain ⟨y, hy⟩ : ∃ y, s k = y := ⟨_, rfl⟩
              rw [hy] at c1 tX
              clear hs hy tI
              go_wp2_with (go_at_call 13; (with_reducible refine (tX _).mono ?_); clear tX; rintro e w' ⟨rfl, hw⟩; obtain rfl := hw.symm)
              go_roundw
              case measure => simp [intOf]; omega
              case rel => exact .inl ⟨k + 1, by omega, by go_num, rfl, hB1, H2⟩
            · rw [decide_eq_false hs] at tX
              have H2 : Hid (R = 1) := by
                show R = 1
                rw [← HR.out, if_pos (bad_any hlt (by omega))]
              obtain ⟨y, hy⟩ : ∃ y, s k = y := ⟨_, rfl⟩
              rw [hy] at c1 tX
              clear hs hy tI
              go_wp2_with (go_at_call 13; (with_reducible refine (tX _).mono ?_); clear tX; rintro e w' ⟨rfl, hw⟩; obtain rfl := hw.symm)
              go_roundw
              case measure => simp [intOf]; omega
              case rel => exact .inr ⟨k + 1, by omega, by go_num, rfl, hB1, H2⟩
          · obtain rfl : k = 6 := by omega
            have hE : R = if F < 0 ∨ 5000 < F then 1 else 0 := by rw [← HR.out, if_neg (by rw [bnd_any H.out]; decide)]
            have tX := fun w' => tI F 0 5000 w'
            by_cases hF : 0 ≤ F ∧ F ≤ 5000
            · rw [decide_eq_true hF] at tX
              rw [if_neg (by omega)] at hE
              subst hE
              clear tI HR hF
              go_wp2_with (go_at_call 13; (with_reducible refine (tX _).mono ?_); clear tX; rintro e w' ⟨rfl, hw⟩; obtain rfl := hw.symm)
              go_ret
              exact ⟨rfl, hB1⟩
            · rw [decide_eq_false hF] at tX
              rw [if_pos (by omega)] at hE
              subst hE
              clear tI HR hF
              go_wp2_with (go_at_call 13; (with_reducible refine (tX _).mono ?_); clear tX; rintro e w' ⟨rfl, hw⟩; obtain rfl := hw.symm)
              go_ret
              exact ⟨rfl, hB1⟩
        · obtain rfl := H.out
          clear tI HR
          by_cases hlt : k < 6
          · have hkI : (k : Int) < 6 := by omega
            go_wp2
            go_ret
            exact ⟨rfl, hB1⟩
          · obtain rfl : k = 6 := by omega
            go_wp2
            go_ret
            exact ⟨rfl, hB1⟩
    · rw [if_pos h6]
      have h6I : ((nv : Int) != 6) = true := by simpa using (show (nv : Int) ≠ 6 by omega)
      clear hlv hat hc tI
      obtain ⟨n, hn⟩ : ∃ n, l.length = n := ⟨_, rfl⟩
      rw [hn] at tP ⊢
      clear hn
      go_enter Tryd.func5, Tryd.ntmps5
      go_wp2_with (go_at_call 12; (with_reducible refine tP.mono ?_); clear tP; rintro e w1 ⟨rfl, hB1⟩)
      go_loopw [7, 8] (fun e p wr => e = .int .i64 3 ∧ p = .int .i64 0 ∧ Below w.heap.size w wr) (fun e p _ => 0)
      case atStart => exact ⟨rfl, rfl, hB1⟩
      case round =>
        clear hB1
        obtain ⟨rfl, rfl, hB1⟩ := hrel
        by_cases h0 : (0 : Int) < (nv : Int)
        · go_wp2
          go_ret
          exact ⟨rfl, hB1⟩
        · go_wp2
          go_ret
          exact ⟨rfl, hB1⟩
  · rw [if_pos hc]
    obtain ⟨c, hc2⟩ : ∃ c, proC l = c := ⟨_, rfl⟩
    rw [hc2] at tP hc ⊢
    have hcI : (c == 0) = false := by simpa using hc
    clear hlv hat tI hc2
    obtain ⟨n, hn⟩ : ∃ n, l.length = n := ⟨_, rfl⟩
    rw [hn] at tP ⊢
    clear hn
    go_enter Tryd.func5, Tryd.ntmps5
    go_wp2_with (go_at_call 12; (with_reducible refine tP.mono ?_); clear tP; rintro e w1 ⟨rfl, hB1⟩)
    go_loopw [7, 8] (fun e p wr => e = .int .i64 c ∧ p = .int .i64 0 ∧ Below w.heap.size w wr) (fun e p _ => 0)
    case atStart => exact ⟨rfl, rfl, hB1⟩
    case round =>
      clear hB1
      obtain ⟨rfl, rfl, hB1⟩ := hrel
      by_cases h0 : (0 : Int) < (nv : Int)
      · go_wp2
        go_ret
        exact ⟨rfl, hB1⟩
      · go_wp2
        go_ret
        exact ⟨rfl, hB1⟩
end Go.Proofs.YtahdbhehaoeemaaDoor
