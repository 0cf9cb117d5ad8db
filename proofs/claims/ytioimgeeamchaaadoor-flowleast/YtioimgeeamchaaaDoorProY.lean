/- What is wrong with a program, as the program has it: Check. -/
import Derived.WalkKit
import Derived.LoopTactic
import Derived.OwnWalk
import Derived.Laws.MakeOwn
import Derived.Deep.QuietTactic
import Derived.BigQuiet
import Derived.Test.YtioimgeeamchaaaDoorProX
namespace Go.Proofs.YtioimgeeamchaaaDoor
open Go.RowKit
set_option maxRecDepth 100000
set_option linter.unusedVariables false

theorem windex_any (M m c : Nat) (f : Nat → Nat) (hm : m ≤ 80) (w : World) (h : ∀ j, j < m → w.cell? ⟨M, j, none⟩ = some (.bool (decide (f j ≠ 0)))) :
    Calls Tryd.prog 60 #[.slice (some ⟨M, 0, none⟩) m c, .bool false] w fun e w' => (∃ q : Int, e = .returned (.int .i64 q) ∧ decide (0 ≤ q) = (List.range m).any fun i => f i == 0) ∧ w' = w := by
  have hm0 : (m : Int) ≤ 80 := by omega
  go_enter Tryd.func60, Tryd.ntmps60
  go_wp2
  go_loop [8] (fun p => ∃ j : Nat, j ≤ m ∧ p = .int .i64 j ∧ Hid (∀ t, t < j → f t ≠ 0)) (fun p => m - (intOf p).toNat)
  case atStart => exact ⟨0, by omega, rfl, fun t ht => absurd ht (by omega)⟩
  case round =>
    obtain ⟨j, hj, rfl, H⟩ := hrel
    by_cases hlt : j < m
    · have hI : (j : Int) < (m : Int) := by omega
      by_cases h0 : f j = 0
      · have HQ : Hid (decide (0 ≤ (j : Int)) = (List.range m).any fun i => f i == 0) := by
          show _ = _
          rw [decide_eq_true (by omega)]
          symm
          rw [List.any_eq_true]
          exact ⟨j, List.mem_range.2 hlt, by simpa using h0⟩
        have c0 : w.cell? ⟨M, j, none⟩ = some (.bool false) := by rw [h j hlt, h0]; rfl
        clear H h0 h
        go_wp2
        go_ret
        exact ⟨⟨_, rfl, HQ.out⟩, rfl⟩
      · have c0 : w.cell? ⟨M, j, none⟩ = some (.bool true) := by rw [h j hlt, decide_eq_true h0]
        have HS : Hid (∀ t, t < j + 1 → f t ≠ 0) := fun t ht => by
          by_cases e : t = j
          · rw [e]; exact h0
          · exact H.out t (by omega)
        clear H h0 h
        go_wp2
        go_round
        case rel => exact ⟨j + 1, by omega, by go_num, HS⟩
        case measure => simp [intOf]; omega
    · obtain rfl : j = m := by omega
      have HQ : Hid (decide (0 ≤ (-1 : Int)) = (List.range j).any fun i => f i == 0) := by
        show _ = _
        rw [decide_eq_false (by omega)]
        symm
        rw [List.any_eq_false]
        intro t ht
        simpa using H.out t (List.mem_range.1 ht)
      clear H h
      go_wp2
      go_ret
      exact ⟨⟨_, rfl, HQ.out⟩, rfl⟩
theorem wcontains_any (M m c : Nat) (f : Nat → Nat) (hm : m ≤ 80) (w : World) (h : ∀ j, j < m → w.cell? ⟨M, j, none⟩ = some (.bool (decide (f j ≠ 0)))) :
    Calls Tryd.prog 44 #[.slice (some ⟨M, 0, none⟩) m c, .bool false] w fun e w' => e = .returned (.bool ((List.range m).any fun i => f i == 0)) ∧ w' = w := by
  have t := windex_any M m c f hm w h
  clear h
  go_enter Tryd.func44, Tryd.ntmps44
  go_wp2_with (go_at_call 60; (with_reducible refine t.mono ?_); clear t; rintro e w1 ⟨⟨q, rfl, hq⟩, rfl⟩; have HQ := Hid.mkI hq; clear hq)
  go_ret
  exact ⟨by rw [← HQ.out]; rfl, rfl⟩
set_option maxHeartbeats 8000000 in
theorem wcheck_any (l : List Nod) (a : Option Addr) (cp : Nat) (w : World) (hat : AtNods w a l.length (nthD l)) :
    Calls Tryd.prog 29 #[.slice a l.length cp] w fun e w' => e = .returned (errV (proC l)) ∧ Below w.heap.size w w' := by
  by_cases h0 : l.length = 0
  · have hc : proC l = 5 := by unfold proC; rw [if_pos h0]
    rw [hc, h0]
    clear hc hat
    go_enter Tryd.func29, Tryd.ntmps29
    go_wp2
    go_ret
    exact ⟨rfl, Below.refl _ w⟩
  by_cases h80 : 80 < l.length
  · have hc : proC l = 4 := by unfold proC; rw [if_neg h0, if_pos h80]
    rw [hc]
    obtain ⟨n, hn⟩ : ∃ n, l.length = n := ⟨_, rfl⟩
    rw [hn] at h0 h80 ⊢
    have h0I : ((n : Int) == 0) = false := by simpa using (show (n : Int) ≠ 0 by omega)
    have h80I : (80 : Int) < (n : Int) := by omega
    clear hc hat hn
    go_enter Tryd.func29, Tryd.ntmps29
    go_wp2
    go_ret
    exact ⟨rfl, Below.refl _ w⟩
  have HR : ∀ i (wr : World) (u : Nat → Nat), i < l.length → (∀ j, u j ≤ 1) → (∀ j, j ≤ i → 0 ≤ (nthD l j).kd) → ChkSt wr w l.length u → Calls Tryd.prog 43 #[.slice a l.length cp, .int .i64 (i : Int), .slice (some ⟨w.heap.size, 0, none⟩) l.length l.length] wr fun e w' => PrtV w l.length (prtC l i (nthD l i).kd 0 (prtL (nthD l i)) u) e w' :=
    fun i wr u hi hu hp h => wprts_any l a cp w hat (by omega) i hi u hu hp wr h
  obtain ⟨b, off, rfl, hs⟩ : ∃ b off, a = some ⟨b, off, none⟩ ∧ Nods w b off l.length (nthD l) := by
    rcases hat with h | h
    · omega
    · exact h
  have HEnd := Hid.mkI (fun (u : Nat → Nat) (h : nodC l l.length = (0, u)) => show proC l = if (List.range (l.length - 1)).any (fun i => u i == 0) = true then 3 else if (nthD l (l.length - 1)).kd < 5 then 3 else 0 by
    unfold proC; rw [if_neg h0, if_neg h80, h, if_neg (by simp)])
  have HSt := Hid.mkI (fun (m : Nat) (c : Int) (u : Nat → Nat) (h : nodC l m = (c, u)) (hc : c ≠ 0) (hm : m ≤ l.length) => proC_stuck h hc hm (by omega) (by omega))
  obtain ⟨S, hS⟩ : ∃ S, nthD l = S := ⟨_, rfl⟩
  have HK := Hid.mkI (fun (i : Nat) (u : Nat → Nat) (h : nodC l i = (0, u)) (hk : kinB (S i) = false) => show nodC l (i + 1) = (1, u) from nodC_kin h (by rw [hS]; exact hk))
  have HG := Hid.mkI (fun (i : Nat) (u : Nat → Nat) (h : nodC l i = (0, u)) (hk : kinB (S i) = true) => show nodC l (i + 1) = prtC l i (S i).kd 0 (prtL (S i)) u by have := nodC_prt h (by rw [hS]; exact hk); rwa [hS] at this)
  rw [hS] at hs HR HEnd
  obtain ⟨c, hc⟩ : ∃ c, proC l = c := ⟨_, rfl⟩
  rw [hc] at HEnd HSt ⊢
  obtain ⟨n, hn⟩ : ∃ n, l.length = n := ⟨_, rfl⟩
  rw [hn] at hs HR HEnd HSt h0 h80 ⊢
  have HRH := Hid.mkI HR
  have Hs := Hid.mkI hs
  clear hat hS hn hc HR hs
  have h0I : ((n : Int) == 0) = false := by simpa using (show (n : Int) ≠ 0 by omega)
  have h80I : (n : Int) ≤ 80 := by omega
  have hmk := makeM_any w n (by omega)
  have hmd := OwnM.made w n
  have hBm : Below w.heap.size w (w.alloc (.cells (madeCells #[.bool false] n) 4)) := (Below.refl _ w).alloc (Nat.le_refl _) _
  obtain ⟨w1, hw1⟩ : ∃ x, w.alloc (.cells (madeCells #[.bool false] n) 4) = x := ⟨_, rfl⟩
  rw [hw1] at hmk hmd hBm
  clear hw1
  have hC0 : ChkSt w1 w n (fun _ => 0) := ⟨hmd, hBm⟩
  clear hmd hBm
  go_enter Tryd.func29, Tryd.ntmps29
  go_wp2
  go_loopw [21] (fun p wr => ∃ (i : Nat) (u : Nat → Nat), i ≤ n ∧ p = .int .i64 i ∧ Hid (nodC l i = (0, u)) ∧ Hid (∀ j, u j ≤ 1) ∧ Hid (∀ j, j < i → 0 ≤ (S j).kd) ∧ ChkSt wr w n u) (fun p _ => n - (intOf p).toNat)
  case atStart => exact ⟨0, fun _ => 0, by omega, rfl, rfl, fun _ => Nat.zero_le 1, fun j hj => absurd hj (by omega), hC0⟩
  case round =>
    clear hC0 hmk
    obtain ⟨i, u, hi, rfl, HU, H1, HP, hC⟩ := hrel
    by_cases hlt : i < n
    · have hiI : (i : Int) < (n : Int) := by omega
      obtain ⟨x, hx⟩ : ∃ x, S i = x := ⟨_, rfl⟩
      obtain ⟨x0, x1, x2, x3, x4⟩ := five_cells (Hs.out.below hC.bel) hlt hx
      have tI := fun w => winRange_any x w
      have HKx := Hid.mkI (fun hk => HSt.out (i + 1) 1 u (HK.out i u HU.out hk) (by decide) (by omega))
      have HGx := Hid.mkI (HG.out i u HU.out)
      have HRx := Hid.mkI (fun wr hp hC => HRH.out i wr u hlt H1.out hp hC)
      rw [hx] at HKx HGx HRx
      have Hx := Hid.mkI hx
      obtain ⟨y, hy⟩ : ∃ y, kinB x = y := ⟨_, rfl⟩
      rw [hy] at tI HKx HGx
      have Hy := Hid.mkI hy
      clear hx hy HK HG HEnd
      have HC := Hid.mkI hC
      clear hC
      have hL : Below wr.heap.size wr (wr.alloc (.cells #[.int .i64 x.kd, .int .i64 x.num, .int .i64 x.pa, .int .i64 x.pb, .int .i64 x.pc] 47)) := (Below.refl _ wr).alloc (Nat.le_refl _) _
      obtain ⟨kd, num, pa, pb, pc⟩ := x
      simp only at x0 x1 x2 x3 x4 hL tI
      have hC2 := HC.out.below hL
      clear HC
      obtain ⟨wx, hwx⟩ : ∃ W, wr.alloc (.cells #[.int .i64 kd, .int .i64 num, .int .i64 pa, .int .i64 pb, .int .i64 pc] 47) = W := ⟨_, rfl⟩
      cases y with
      | false =>
        obtain rfl : c = 1 := HKx.out rfl
        clear HKx HGx HRx Hy Hs HRH HSt HU H1 HP Hx hwx
        go_wp2_with (go_at_call 42; (with_reducible refine (tI _).mono ?_); clear tI; rintro e w3 ⟨rfl, hB3⟩; have hC3 := hC2.below hB3)
        go_ret
        exact ⟨rfl, hC3.bel⟩
      | true =>
        have HGy := Hid.mkI (HGx.out rfl)
        have hk0 : 0 ≤ kd := by
          have := Hy.out
          unfold kinB at this
          simp only [decide_eq_true_eq] at this
          exact this.1
        have HPn : Hid (∀ j, j < i + 1 → 0 ≤ (S j).kd) := fun j hj => by
          by_cases e : j = i
          · rw [e, Hx.out]; exact hk0
          · exact HP.out j (by omega)
        have tP := fun wr hC => HRx.out wr (fun j hj => HPn.out j (by omega)) hC
        have HSx := Hid.mkI (fun c' u' h hc' => HSt.out (i + 1) c' u' h hc' (by omega))
        rw [← HGy.out] at tP
        obtain ⟨R, hR⟩ : ∃ R, nodC l (i + 1) = R := ⟨_, rfl⟩
        rw [hR] at tP
        have HR2 := Hid.mkI hR
        clear HKx HGx HRx Hy Hs HRH HSt HU H1 HP Hx hwx HGy hk0 hR
        obtain ⟨rc, ru⟩ := R
        by_cases hrc : rc = 0
        · subst hrc
          have tP : ∀ wr, ChkSt wr w n u → Calls Tryd.prog 43 #[.slice (some ⟨b, off, none⟩) n cp, .int .i64 (i : Int), .slice (some ⟨w.heap.size, 0, none⟩) n n] wr fun e w' => e = .returned .nilIface ∧ ChkSt w' w n ru ∧ ∀ j, ru j ≤ 1 := fun wr hC => (tP wr hC).mono fun e w' ⟨h1, h2, h3⟩ => ⟨h1, h3 rfl⟩
          go_wp2_with (first | (go_at_call 42; (with_reducible refine (tI _).mono ?_); clear tI; rintro e w3 ⟨rfl, hB3⟩; have hC3 := hC2.below hB3; clear hC2) | (go_at_call 43; (with_reducible refine (tP _ hC3).mono ?_); clear tP; rintro e w4 ⟨rfl, hC4, hu4⟩; have HU4 := Hid.mkI hu4; clear hu4))
          go_roundw
          case measure => simp [intOf]; omega
          case rel => exact ⟨i + 1, ru, by omega, by go_num, HR2, HU4, HPn, hC4⟩
        · obtain rfl : c = rc := HSx.out rc ru HR2.out hrc
          have he : errV c = .iface 57 (.int .i64 c) := if_neg hrc
          have tP : ∀ wr, ChkSt wr w n u → Calls Tryd.prog 43 #[.slice (some ⟨b, off, none⟩) n cp, .int .i64 (i : Int), .slice (some ⟨w.heap.size, 0, none⟩) n n] wr fun e w' => e = .returned (.iface 57 (.int .i64 c)) ∧ Below w.heap.size w w' := fun wr hC => (tP wr hC).mono fun e w' ⟨h1, h2, _⟩ => ⟨by rw [h1]; exact congrArg _ he, h2⟩
          have He := Hid.mkI he
          clear HR2 HSx he
          go_wp2_with (first | (go_at_call 42; (with_reducible refine (tI _).mono ?_); clear tI; rintro e w3 ⟨rfl, hB3⟩; have hC3 := hC2.below hB3; clear hC2) | (go_at_call 43; (with_reducible refine (tP _ hC3).mono ?_); clear tP; rintro e w4 ⟨rfl, hB4⟩))
          go_ret
          exact ⟨congrArg Ending.returned He.out.symm, hB4⟩
    · obtain rfl : i = n := by omega
      obtain ⟨m, hm⟩ : ∃ m, i = m + 1 := ⟨i - 1, by omega⟩
      have HE := HEnd.out u HU.out
      obtain ⟨x, hx⟩ : ∃ x, S m = x := ⟨_, rfl⟩
      obtain ⟨x0, x1, x2, x3, x4⟩ := five_cells (Hs.out.below hC.bel) (show m < i by omega) hx
      have hk0 : 0 ≤ x.kd := by rw [← hx]; exact HP.out m (by omega)
      rw [show i - 1 = m by omega, hx] at HE
      have tC := wcontains_any w.heap.size m i u (by omega) wr (fun j hj => hC.own.cell j (by omega))
      obtain ⟨y, hy⟩ : ∃ y, (List.range m).any (fun i => u i == 0) = y := ⟨_, rfl⟩
      rw [hy] at tC HE
      have tV := fun w => wisValue_any x w
      rw [show decide (0 ≤ x.kd ∧ x.kd ≤ 4) = decide (x.kd < 5) from decide_eq_decide.2 (by omega)] at tV
      have hBel := hC.bel
      have s1 : (i : Int) - 1 = (m : Int) := by omega
      have hmI : (m : Int) ≤ (i : Int) := by omega
      have hmI2 : (m : Int) < (i : Int) := by omega
      have HE2 := Hid.mkI HE
      have hSz := hC.bel.size
      clear HE hy hx HEnd HSt HK HG HRH Hs HU H1 HP hC hm
      obtain ⟨kd, num, pa, pb, pc⟩ := x
      simp only at x0 x1 x2 x3 x4 tV HE2
      cases y with
      | true =>
        obtain rfl : c = 3 := by rw [HE2.out, if_pos rfl]
        clear HE2 tV
        go_wp2_with (go_at_call 44; (with_reducible refine tC.mono ?_); clear tC; rintro e w3 ⟨rfl, hw⟩; obtain rfl := hw.symm)
        go_ret
        exact ⟨rfl, hBel⟩
      | false =>
        rw [if_neg (by decide)] at HE2
        by_cases h5 : kd < 5
        · rw [decide_eq_true h5] at tV
          obtain rfl : c = 3 := by rw [HE2.out, if_pos h5]
          clear HE2 h5
          go_wp2_with (first | (go_at_call 44; (with_reducible refine tC.mono ?_); clear tC; rintro e w3 ⟨rfl, hw⟩; obtain rfl := hw.symm) | (go_at_call 45; (with_reducible refine (tV _).mono ?_); clear tV; rintro e w4 ⟨rfl, hB4⟩; have hE := hBel.trans (hB4.mono hSz)))
          go_ret
          exact ⟨rfl, hE⟩
        · rw [decide_eq_false h5] at tV
          obtain rfl : c = 0 := by rw [HE2.out, if_neg h5]
          clear HE2 h5
          go_wp2_with (first | (go_at_call 44; (with_reducible refine tC.mono ?_); clear tC; rintro e w3 ⟨rfl, hw⟩; obtain rfl := hw.symm) | (go_at_call 45; (with_reducible refine (tV _).mono ?_); clear tV; rintro e w4 ⟨rfl, hB4⟩; have hE := hBel.trans (hB4.mono hSz)))
          go_ret
          exact ⟨rfl, hE⟩
end Go.Proofs.YtioimgeeamchaaaDoor
