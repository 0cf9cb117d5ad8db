/- What is told of a graph (Check), by the program and by the document (Graph). -/
import Derived.WalkKit
import Derived.LoopTactic
import Derived.Outline
import Derived.Deep.QuietTactic
import Derived.BigQuiet
import Derived.Test.YtdmdoikkemfcaaaDoorTakG
import Derived.Test.YtdmdoikkemfcaaaDoorRefLb
namespace Go.Proofs.YtdmdoikkemfcaaaDoor
open Go.RowKit
set_option maxRecDepth 100000

theorem errV_ne {c : Int} (h : c ≠ 0) : errV c = .iface 54 (.int .i64 c) := if_neg h
set_option maxHeartbeats 400000 in
theorem checkRow_any (a : Option Addr) (L cap i n : Nat) (hn : n < 2 ^ 62) (f : Nat → Int) (w : World) (h : Lst w (.slice a L cap) L f) :
    Calls Tryd.prog 55 #[.slice a L cap, .int .i64 i, .int .i64 n] w fun e w' => e = .returned (errV (rowCode n i L f)) ∧ w' = w := by
  by_cases hl : L = n
  · subst hl
    have hc : ∀ k, k < L → ∃ b off, a = some ⟨b, off, none⟩ ∧ w.cell? ⟨b, off + k, none⟩ = some (.int .i64 (f k)) := by
      obtain ⟨a', cp, e, h | ⟨b, off, ea, hl, hc⟩⟩ := h
      · intro k hk; omega
      · intro k hk
        cases e
        exact ⟨b, off, ea, hc k hk⟩
    clear h
    have hr : rowCode L i L f = firstNZ (fun j => cellCode i j (f j)) L := if_pos rfl
    have HR : Hid (rowCode L i L f = firstNZ (fun j => cellCode i j (f j)) L) := hr
    clear hr
    go_enter Tryd.func55, Tryd.ntmps55
    go_wp2
    go_loop [16] (fun p => ∃ k : Nat, k ≤ L ∧ p = .int .i64 k ∧ Hid (∀ j, j < k → cellCode i j (f j) = 0)) (fun p => L - (intOf p).toNat)
    case atStart => exact ⟨0, by omega, rfl, fun j h => absurd h (by omega)⟩
    case round =>
      obtain ⟨k, hk, rfl, HG⟩ := hrel
      by_cases hlt : k < L
      · obtain ⟨b, off, rfl, hcell⟩ := hc k hlt
        obtain ⟨x, hx⟩ : ∃ x, f k = x := ⟨_, rfl⟩
        rw [hx] at hcell
        have HX : Hid (f k = x) := hx
        clear hx
        by_cases h0 : x < 0
        · have HC : Hid (cellCode i k (f k) = 1) := by show _ = _; rw [HX.out]; exact if_pos (.inl h0)
          go_wp2
          go_ret
          refine ⟨?_, rfl⟩
          rw [HR.out, firstNZ_hit HG.out hlt (by rw [HC.out]; decide), HC.out]
          all_goals rfl
        · by_cases h1 : 7 < x
          · have HC : Hid (cellCode i k (f k) = 1) := by show _ = _; rw [HX.out]; exact if_pos (.inr h1)
            go_wp2
            go_ret
            refine ⟨?_, rfl⟩
            rw [HR.out, firstNZ_hit HG.out hlt (by rw [HC.out]; decide), HC.out]
            all_goals rfl
          · by_cases h2 : k = i
            · by_cases h3 : x = 0
              · have HC : Hid (cellCode i k (f k) = 0) := by show _ = _; rw [HX.out, cellCode, if_neg (by omega), if_neg (by omega)]
                subst h2
                subst h3
                go_wp2
                go_round
                case rel => exact ⟨k + 1, by omega, by go_num, fun j hj => by
                  by_cases e : j = k
                  · subst e; exact HC.out
                  · exact HG.out j (by omega)⟩
                case measure => simp [intOf]; omega
              · have HC : Hid (cellCode i k (f k) = 6) := by show _ = _; rw [HX.out, cellCode, if_neg (by omega), if_pos ⟨h2.symm, h3⟩]
                have hb : (x != 0) = true := by simpa using h3
                subst h2
                go_wp2
                go_ret
                refine ⟨?_, rfl⟩
                rw [HR.out, firstNZ_hit HG.out hlt (by rw [HC.out]; decide), HC.out]
                all_goals rfl
            · have HC : Hid (cellCode i k (f k) = 0) := by show _ = _; rw [HX.out, cellCode, if_neg (by omega), if_neg (by omega)]
              have hb : ((k : Int) == (i : Int)) = false := by simpa using (show (k : Int) ≠ i by omega)
              go_wp2
              go_round
              case rel => exact ⟨k + 1, by omega, by go_num, fun j hj => by
                by_cases e : j = k
                · subst e; exact HC.out
                · exact HG.out j (by omega)⟩
              case measure => simp [intOf]; omega
      · go_wp2
        go_ret
        refine ⟨?_, rfl⟩
        rw [HR.out, firstNZ_none fun j hj => HG.out j (by omega)]
        all_goals rfl
  · have hb : ((L : Int) != (n : Int)) = true := by simpa using (show (L : Int) ≠ n by omega)
    have HR : Hid (rowCode n i L f = 3) := if_neg hl
    go_enter Tryd.func55, Tryd.ntmps55
    go_wp2
    go_ret
    refine ⟨?_, rfl⟩
    rw [HR.out]
    all_goals rfl

set_option maxHeartbeats 400000 in
theorem tcheck_any (a : Option Addr) (n cap : Nat) (L : Nat → Nat) (F : Nat → Nat → Int) (w : World) (h : Grd w (.slice a n cap) n L F) :
    Calls Tryd.prog 31 #[.slice a n cap] w fun e w' => e = .returned (errV (graphCode n L F)) ∧ w' = w := by
  by_cases hn : 20 < n
  · have HR : Hid (graphCode n L F = 4) := if_pos hn
    go_enter Tryd.func31, Tryd.ntmps31
    go_wp2
    go_ret
    refine ⟨?_, rfl⟩
    rw [HR.out]
    all_goals rfl
  · have HR : Hid (graphCode n L F = firstNZ (fun i => rowCode n i (L i) (F i)) n) := if_neg hn
    have hc : ∀ k, k < n → ∃ b off ar C, a = some ⟨b, off, none⟩ ∧ w.cell? ⟨b, off + k, none⟩ = some (.slice ar (L k) C) ∧ Lst w (.slice ar (L k) C) (L k) (F k) := by
      obtain ⟨a', cp, e, h | ⟨b, off, A, C, ea, hg⟩⟩ := h
      · intro k hk; omega
      · intro k hk
        cases e
        exact ⟨b, off, A k, C k, ea, hg.top k hk, hg.lst hk⟩
    clear h
    go_enter Tryd.func31, Tryd.ntmps31
    go_wp2
    go_loop [12] (fun p => ∃ k : Nat, k ≤ n ∧ p = .int .i64 k ∧ Hid (∀ j, j < k → rowCode n j (L j) (F j) = 0)) (fun p => n - (intOf p).toNat)
    case atStart => exact ⟨0, by omega, rfl, fun j h => absurd h (by omega)⟩
    case round =>
      obtain ⟨k, hk, rfl, HG⟩ := hrel
      by_cases hlt : k < n
      · obtain ⟨b, off, ar, C, rfl, hcell, hrow⟩ := hc k hlt
        have t := fun W => checkRow_any ar (L k) C k n (by omega) (F k) W
        have t1 := t w hrow
        clear t hrow
        obtain ⟨c, hcc⟩ : ∃ c, rowCode n k (L k) (F k) = c := ⟨_, rfl⟩
        rw [hcc] at t1
        have HC : Hid (rowCode n k (L k) (F k) = c) := hcc
        clear hcc
        by_cases h0 : c = 0
        · subst h0
          rw [errV_zero] at t1
          go_wp2_with (go_at_call 55; refine t1.mono ?_; rintro e w' ⟨rfl, hw⟩; obtain rfl := hw.symm)
          go_round
          case rel => exact ⟨k + 1, by omega, by go_num, fun j hj => by
            by_cases e : j = k
            · subst e; exact HC.out
            · exact HG.out j (by omega)⟩
          case measure => simp [intOf]; omega
        · rw [errV_ne h0] at t1
          go_wp2_with (go_at_call 55; refine t1.mono ?_; rintro e w' ⟨rfl, hw⟩; obtain rfl := hw.symm)
          go_ret
          refine ⟨?_, rfl⟩
          rw [HR.out, firstNZ_hit HG.out hlt (by rw [HC.out]; exact h0), HC.out, errV_ne h0]
          all_goals rfl
      · go_wp2
        go_ret
        refine ⟨?_, rfl⟩
        rw [HR.out, firstNZ_none fun j hj => HG.out j (by omega)]
        all_goals rfl

end Go.Proofs.YtdmdoikkemfcaaaDoor
