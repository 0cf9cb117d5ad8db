/- What an ask of a monitor answers, and what becomes of the monitor (inRange, Ask). -/
import Derived.WalkKit
import Derived.LoopTactic
import Derived.Deep.Cut
import Derived.Deep.QuietTactic
import Derived.BigQuiet
import Derived.Test.YteheaeihoameeaaDoorBellWri
import Derived.Test.YteheaeihoameeaaDoorBellCopy
namespace Go.Proofs.YteheaeihoameeaaDoor
open Go.RowKit
set_option maxRecDepth 100000

/-- Is an ask one of a monitor's? -/
def askIn (s : BellSt) (k u f t : Int) : Bool := decide (0 ≤ k ∧ k ≤ 3) && (inB u s.nu && (inB f s.nf && (decide (k ≠ 3) || inB t s.nf)))
section
variable {B cu cf nu nf : Nat} {au af : Option Addr} {W : World}
set_option maxHeartbeats 400000 in
theorem inRange_kind (k u f t : Int) (hk : k < 0 ∨ (0 ≤ k ∧ 3 < k)) :
    Calls Tryd.prog 32 #[.pointer (some ⟨B, 0, none⟩), ask4 k u f t] W fun e w' => e = .returned (.bool false) ∧ Below W.heap.size W w' := by
  have hB : Below W.heap.size W (W.alloc (.cells #[.int .i64 k, .int .i64 u, .int .i64 f, .int .i64 t] 37)) := (Below.refl _ W).alloc (Nat.le_refl _) _
  rcases hk with h | ⟨h, h2⟩
  · go_enter Tryd.func32, Tryd.ntmps32
    go_wp2
    go_ret
    exact ⟨rfl, hB⟩
  · go_enter Tryd.func32, Tryd.ntmps32
    go_wp2
    go_ret
    exact ⟨rfl, hB⟩
set_option maxHeartbeats 400000 in
theorem inRange_rest (k u f t : Int) (h0 : 0 ≤ k) (h3 : k ≤ 3) (h1 : W.cell? ⟨B, 0, none⟩ = some (.slice au nu cu)) (h2 : W.cell? ⟨B, 1, none⟩ = some (.slice af nf cf)) :
    Calls Tryd.prog 32 #[.pointer (some ⟨B, 0, none⟩), ask4 k u f t] W fun e w' => e = .returned (.bool (inB u nu && (inB f nf && (decide (k ≠ 3) || inB t nf)))) ∧ Below W.heap.size W w' := by
  have hB : Below W.heap.size W (W.alloc (.cells #[.int .i64 k, .int .i64 u, .int .i64 f, .int .i64 t] 37)) := (Below.refl _ W).alloc (Nat.le_refl _) _
  have tU := fun o => isUser_any B au nu cu u (W.alloc o) (cell_alloc_l o h1)
  have tF := fun o => isFile_any B af nf cf f (W.alloc o) (cell_alloc_l o h2)
  have tT := fun o => isFile_any B af nf cf t (W.alloc o) (cell_alloc_l o h2)
  have l1 := World.block_lt_of_cell? W _ h1
  cases hu : inB u nu with
  | false =>
    rw [hu] at tU
    clear tF tT hu
    go_enter Tryd.func32, Tryd.ntmps32
    go_wp2_with (go_at_call 37; refine (tU _).mono ?_; rintro e w' ⟨rfl, rfl⟩)
    go_ret
    exact ⟨rfl, hB⟩
  | true =>
    rw [hu] at tU
    cases hf : inB f nf with
    | false =>
      rw [hf] at tF
      clear tT hu hf
      go_enter Tryd.func32, Tryd.ntmps32
      go_wp2_with (first | (go_at_call 37; refine (tU _).mono ?_; clear tU; rintro e w' ⟨rfl, rfl⟩) | (go_at_call 38; refine (tF _).mono ?_; clear tF; rintro e w' ⟨rfl, rfl⟩))
      go_ret
      exact ⟨rfl, hB⟩
    | true =>
      rw [hf] at tF
      by_cases hk : k = 3
      · subst hk
        cases ht : inB t nf with
        | false =>
          rw [ht] at tT
          clear hu hf ht h0 h3
          go_enter Tryd.func32, Tryd.ntmps32
          go_wp2_with (first | (go_at_call 37; refine (tU _).mono ?_; clear tU; rintro e w' ⟨rfl, rfl⟩) | (go_at_call 38; refine (tF _).mono ?_; clear tF; rintro e w' ⟨rfl, rfl⟩) | (go_at_call 38; refine (tT _).mono ?_; clear tT; rintro e w' ⟨rfl, rfl⟩))
          go_ret
          exact ⟨rfl, hB⟩
        | true =>
          rw [ht] at tT
          clear hu hf ht h0 h3
          go_enter Tryd.func32, Tryd.ntmps32
          go_wp2_with (first | (go_at_call 37; refine (tU _).mono ?_; clear tU; rintro e w' ⟨rfl, rfl⟩) | (go_at_call 38; refine (tF _).mono ?_; clear tF; rintro e w' ⟨rfl, rfl⟩) | (go_at_call 38; refine (tT _).mono ?_; clear tT; rintro e w' ⟨rfl, rfl⟩))
          go_ret
          exact ⟨rfl, hB⟩
      · have hk' : (k != 3) = true := by simpa using hk
        have hd : Hid ((decide (k ≠ 3) || inB t nf) = true) := by rw [Hid, decide_eq_true hk, Bool.true_or]
        clear tT hu hf hk
        go_enter Tryd.func32, Tryd.ntmps32
        go_wp2_with (first | (go_at_call 37; refine (tU _).mono ?_; clear tU; rintro e w' ⟨rfl, rfl⟩) | (go_at_call 38; refine (tF _).mono ?_; clear tF; rintro e w' ⟨rfl, rfl⟩))
        go_ret
        exact ⟨by rw [hd.out]; rfl, hB⟩
end
theorem inRange_any {n0 n1 B gu gf cu cf : Nat} {au af : Option Addr} {W : World} {s : BellSt} (h : Mon n0 n1 B au af gu gf cu cf W s) (k u f t : Int) :
    Calls Tryd.prog 32 #[.pointer (some ⟨B, 0, none⟩), ask4 k u f t] W fun e w' => e = .returned (.bool (askIn s k u f t)) ∧ Below W.heap.size W w' := by
  by_cases h0 : 0 ≤ k ∧ k ≤ 3
  · rw [askIn, decide_eq_true h0, Bool.true_and]
    exact inRange_rest k u f t h0.1 h0.2 h.c0 h.c1
  · rw [askIn, decide_eq_false h0, Bool.false_and]
    exact inRange_kind k u f t (by omega)

section
variable {n0 n1 B gu gf cu cf : Nat} {au af : Option Addr} {W : World} {s : BellSt}
set_option maxHeartbeats 400000 in
theorem ask_out (h : Mon n0 n1 B au af gu gf cu cf W s) (k u f t : Int) (hin : askIn s k u f t = false) :
    Calls Tryd.prog 11 #[.pointer (some ⟨B, 0, none⟩), ask4 k u f t] W fun e w' => e = .returned (.iface 63 (.int .i64 1)) ∧ Mon n0 n1 B au af gu gf cu cf w' s ∧ Betw n0 n1 W w' := by
  have tI := fun o => inRange_any (h.below ((Below.refl _ W).alloc (Nat.le_refl _) o)) k u f t
  rw [hin] at tI
  clear hin
  go_enter Tryd.func11, Tryd.ntmps11
  go_wp2_with (go_at_call 32; refine (tI _).mono ?_; clear tI; rintro e w2 ⟨rfl, S⟩; have hX := box4_of S; clear S)
  go_ret
  exact ⟨rfl, h.below hX.bel, betw_of hX.bel⟩
set_option maxHeartbeats 1000000 in
theorem ask_read (h : Mon n0 n1 B au af gu gf cu cf W s) (u f : Nat) (t : Int) (hin : askIn s 0 u f t = true) (v : Value) (s' : BellSt) (hu : u < s.nu)
    (tR : ∀ W', Below W.heap.size W W' → Calls Tryd.prog 33 #[.pointer (some ⟨B, 0, none⟩), .pointer (some ⟨gu, u * 4, none⟩), .int .i64 (f : Int)] W' fun e w' => e = .returned v ∧ Mon n0 n1 B au af gu gf cu cf w' s' ∧ Betw n0 n1 W' w') :
    Calls Tryd.prog 11 #[.pointer (some ⟨B, 0, none⟩), ask4 0 u f t] W fun e w' => e = .returned v ∧ Mon n0 n1 B au af gu gf cu cf w' s' ∧ Betw n0 n1 W w' := by
  have tI := fun o => inRange_any (h.below ((Below.refl _ W).alloc (Nat.le_refl _) o)) 0 u f t
  rw [hin] at tI
  obtain ⟨rfl, _, _⟩ := h.hu (by omega)
  have hui : (u : Int) < (s.nu : Int) := by omega
  have hc0 := h.c0
  obtain ⟨k, hk⟩ : ∃ x, s.nu = x := ⟨_, rfl⟩
  rw [hk] at hc0 hui
  clear hin hk
  go_enter Tryd.func11, Tryd.ntmps11
  go_upto_region 3 with (go_at_call 32; refine (tI _).mono ?_; clear tI; rintro e w2 ⟨rfl, S⟩; have hX := box4_of S; clear S; have hd0 := keep_cell hX.bel hc0; obtain ⟨x0, x1, x2, x3, hb⟩ := hX)
  clear hc0
  go_quiet (fail)
  go_wp2_with (go_at_call 33; refine (tR _ (below_drawn hb _)).mono ?_; clear tR; rintro e w3 ⟨rfl, hM, hB3⟩)
  go_ret
  exact ⟨rfl, hM, ((betw_of hb).drewN _).trans hB3⟩
end
end Go.Proofs.YteheaeihoameeaaDoor
