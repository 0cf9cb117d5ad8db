/- Whether a number is from one to another one, and what is wrong with a label, as the document has it (in, Label). -/
import Derived.WalkKit
import Derived.LoopTactic
import Derived.Test.YteheaeihoameeaaDoorRefs
import Derived.Test.YteheaeihoameeaaDoorRefBel
namespace Go.Proofs.YteheaeihoameeaaDoor
open Go.RowKit
set_option maxRecDepth 100000

theorem in_yes (x a b : Int) (h1 : a ≤ x) (h2 : x ≤ b) (w : World) :
    Calls Tryd.prog 26 #[.int .i64 x, .int .i64 a, .int .i64 b] w fun e w' => e = .returned (.bool true) ∧ w' = w := by
  go_enter Tryd.func26, Tryd.ntmps26
  go_wp2
  go_ret
  exact ⟨rfl, rfl⟩
theorem in_low (x a b : Int) (h1 : x < a) (w : World) :
    Calls Tryd.prog 26 #[.int .i64 x, .int .i64 a, .int .i64 b] w fun e w' => e = .returned (.bool false) ∧ w' = w := by
  go_enter Tryd.func26, Tryd.ntmps26
  go_wp2
  go_ret
  exact ⟨rfl, rfl⟩
theorem in_high (x a b : Int) (h1 : a ≤ x) (h2 : b < x) (w : World) :
    Calls Tryd.prog 26 #[.int .i64 x, .int .i64 a, .int .i64 b] w fun e w' => e = .returned (.bool false) ∧ w' = w := by
  go_enter Tryd.func26, Tryd.ntmps26
  go_wp2
  go_ret
  exact ⟨by simp; omega, rfl⟩
theorem refLabel_ok (l s : Int) (h : IsLab l s) (w : World) :
    Calls Tryd.prog 45 #[lab l s] w fun e w' => e = .returned (.int .i64 0) ∧ Below w.heap.size w w' := by
  obtain ⟨h0, h1, h2, h3⟩ := h
  have t := fun W => in_yes l 0 7 h0 h1 W
  have u := fun W => mask_any s 8 (by decide) W
  rw [goodB_yes ⟨h2, by omega⟩] at u
  go_enter Tryd.func45, Tryd.ntmps45
  go_wp2_with (first | (go_at_call 26; refine (t _).mono ?_; rintro e w' ⟨rfl, rfl⟩) | (go_at_call 55; refine (u _).mono ?_; rintro e w' ⟨rfl, rfl⟩))
  go_ret
  exact ⟨rfl, (Below.refl _ w).alloc (Nat.le_refl _) _⟩
theorem refLabel_no (l s : Int) (h : NoLab l s) (w : World) :
    Calls Tryd.prog 45 #[lab l s] w fun e w' => e = .returned (.int .i64 1) ∧ Below w.heap.size w w' := by
  have ht : (∀ W, Calls Tryd.prog 26 #[.int .i64 l, .int .i64 0, .int .i64 7] W fun e w' => e = .returned (.bool false) ∧ w' = W) ∨ ((∀ W, Calls Tryd.prog 26 #[.int .i64 l, .int .i64 0, .int .i64 7] W fun e w' => e = .returned (.bool true) ∧ w' = W) ∧ (∀ W, Calls Tryd.prog 55 #[.int .i64 s, .int .i64 8] W fun e w' => e = .returned (.bool false) ∧ w' = W)) := by
    have u := fun W => mask_any s 8 (by decide) W
    rcases h with h0 | ⟨h0, h1⟩ | ⟨h0, h1, h2⟩ | ⟨h0, h1, h2, h3⟩
    · exact .inl fun W => in_low l 0 7 h0 W
    · exact .inl fun W => in_high l 0 7 h0 h1 W
    · rw [goodB_no fun h => by have := h.1; omega] at u
      exact .inr ⟨fun W => in_yes l 0 7 h0 h1 W, u⟩
    · rw [goodB_no fun h => by have := h.2; omega] at u
      exact .inr ⟨fun W => in_yes l 0 7 h0 h1 W, u⟩
  clear h
  rcases ht with t | ⟨t, u⟩
  · go_enter Tryd.func45, Tryd.ntmps45
    go_wp2_with (go_at_call 26; refine (t _).mono ?_; rintro e w' ⟨rfl, rfl⟩)
    go_ret
    exact ⟨rfl, (Below.refl _ w).alloc (Nat.le_refl _) _⟩
  · go_enter Tryd.func45, Tryd.ntmps45
    go_wp2_with (first | (go_at_call 26; refine (t _).mono ?_; rintro e w' ⟨rfl, rfl⟩) | (go_at_call 55; refine (u _).mono ?_; rintro e w' ⟨rfl, rfl⟩))
    go_ret
    exact ⟨rfl, (Below.refl _ w).alloc (Nat.le_refl _) _⟩
end Go.Proofs.YteheaeihoameeaaDoor
