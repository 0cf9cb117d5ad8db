/- What a monitor tells of its users and files (Reads, Writes, Holds). -/
import Derived.WalkKit
import Derived.LoopTactic
import Derived.Test.YteheaeihoameeaaDoorBellMon
namespace Go.Proofs.YteheaeihoameeaaDoor
open Go.RowKit
set_option maxRecDepth 100000

section
variable {n0 n1 B gu gf cu cf : Nat} {au af : Option Addr} {W : World} {s : BellSt}
theorem reads_in (h : Mon n0 n1 B au af gu gf cu cf W s) (i : Nat) (hi : i < s.nu) :
    Calls Tryd.prog 12 #[.pointer (some ⟨B, 0, none⟩), .int .i64 (i : Int)] W fun e w' => e = .returned (.int .i64 (s.ur i : Int)) ∧ w' = W := by
  obtain ⟨rfl, _, _⟩ := h.hu (by omega)
  have c := h.c0
  have t := isUser_any B _ s.nu _ (i : Int) W c
  rw [inB_yes (by omega) (by omega)] at t
  have u := h.u2 i hi
  have hii : (i : Int) < (s.nu : Int) := by omega
  obtain ⟨x, hx⟩ : ∃ x, s.ur i = x := ⟨_, rfl⟩
  obtain ⟨k, hk⟩ : ∃ x, s.nu = x := ⟨_, rfl⟩
  rw [hx] at u ⊢
  rw [hk] at c hii
  clear hx hk
  go_enter Tryd.func12, Tryd.ntmps12
  go_wp2_with (go_at_call 37; refine t.mono ?_; rintro e w' ⟨rfl, rfl⟩)
  go_ret
  exact ⟨rfl, rfl⟩
theorem reads_out (h : Mon n0 n1 B au af gu gf cu cf W s) (i : Int) (hi : i < 0 ∨ (s.nu : Int) ≤ i) :
    Calls Tryd.prog 12 #[.pointer (some ⟨B, 0, none⟩), .int .i64 i] W fun e w' => e = .returned (.int .i64 0) ∧ w' = W := by
  have t := isUser_any B _ s.nu _ i W h.c0
  rw [inB_no hi] at t
  go_enter Tryd.func12, Tryd.ntmps12
  go_wp2_with (go_at_call 37; refine t.mono ?_; rintro e w' ⟨rfl, rfl⟩)
  go_ret
  exact ⟨rfl, rfl⟩
theorem writes_in (h : Mon n0 n1 B au af gu gf cu cf W s) (i : Nat) (hi : i < s.nu) :
    Calls Tryd.prog 13 #[.pointer (some ⟨B, 0, none⟩), .int .i64 (i : Int)] W fun e w' => e = .returned (.int .i64 (s.uw i : Int)) ∧ w' = W := by
  obtain ⟨rfl, _, _⟩ := h.hu (by omega)
  have c := h.c0
  have t := isUser_any B _ s.nu _ (i : Int) W c
  rw [inB_yes (by omega) (by omega)] at t
  have u := h.u3 i hi
  have hii : (i : Int) < (s.nu : Int) := by omega
  obtain ⟨x, hx⟩ : ∃ x, s.uw i = x := ⟨_, rfl⟩
  obtain ⟨k, hk⟩ : ∃ x, s.nu = x := ⟨_, rfl⟩
  rw [hx] at u ⊢
  rw [hk] at c hii
  clear hx hk
  go_enter Tryd.func13, Tryd.ntmps13
  go_wp2_with (go_at_call 37; refine t.mono ?_; rintro e w' ⟨rfl, rfl⟩)
  go_ret
  exact ⟨rfl, rfl⟩
theorem writes_out (h : Mon n0 n1 B au af gu gf cu cf W s) (i : Int) (hi : i < 0 ∨ (s.nu : Int) ≤ i) :
    Calls Tryd.prog 13 #[.pointer (some ⟨B, 0, none⟩), .int .i64 i] W fun e w' => e = .returned (.int .i64 0) ∧ w' = W := by
  have t := isUser_any B _ s.nu _ i W h.c0
  rw [inB_no hi] at t
  go_enter Tryd.func13, Tryd.ntmps13
  go_wp2_with (go_at_call 37; refine t.mono ?_; rintro e w' ⟨rfl, rfl⟩)
  go_ret
  exact ⟨rfl, rfl⟩
theorem holds_in (h : Mon n0 n1 B au af gu gf cu cf W s) (i : Nat) (hi : i < s.nf) :
    Calls Tryd.prog 14 #[.pointer (some ⟨B, 0, none⟩), .int .i64 (i : Int)] W fun e w' => e = .returned (.int .i64 (s.fh i : Int)) ∧ w' = W := by
  obtain ⟨rfl, _, _⟩ := h.hf (by omega)
  have c := h.c1
  have t := isFile_any B _ s.nf _ (i : Int) W c
  rw [inB_yes (by omega) (by omega)] at t
  have u := h.f2 i hi
  have hii : (i : Int) < (s.nf : Int) := by omega
  obtain ⟨x, hx⟩ : ∃ x, s.fh i = x := ⟨_, rfl⟩
  obtain ⟨k, hk⟩ : ∃ x, s.nf = x := ⟨_, rfl⟩
  rw [hx] at u ⊢
  rw [hk] at c hii
  clear hx hk
  go_enter Tryd.func14, Tryd.ntmps14
  go_wp2_with (go_at_call 38; refine t.mono ?_; rintro e w' ⟨rfl, rfl⟩)
  go_ret
  exact ⟨rfl, rfl⟩
theorem holds_out (h : Mon n0 n1 B au af gu gf cu cf W s) (i : Int) (hi : i < 0 ∨ (s.nf : Int) ≤ i) :
    Calls Tryd.prog 14 #[.pointer (some ⟨B, 0, none⟩), .int .i64 i] W fun e w' => e = .returned (.int .i64 0) ∧ w' = W := by
  have t := isFile_any B _ s.nf _ i W h.c1
  rw [inB_no hi] at t
  go_enter Tryd.func14, Tryd.ntmps14
  go_wp2_with (go_at_call 38; refine t.mono ?_; rintro e w' ⟨rfl, rfl⟩)
  go_ret
  exact ⟨rfl, rfl⟩
end
end Go.Proofs.YteheaeihoameeaaDoor
