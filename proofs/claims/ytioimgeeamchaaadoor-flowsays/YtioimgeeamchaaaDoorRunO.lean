/- Whether lists of numbers are the same (Ints), where they are; an error of a number (Error). -/
import Derived.WalkKit
import Derived.LoopTactic
import Derived.Deep.QuietTactic
import Derived.BigQuiet
import Derived.Test.YtioimgeeamchaaaDoorAs
import Derived.Test.YtioimgeeamchaaaDoorLst
namespace Go.Proofs.YtioimgeeamchaaaDoor
open Go.RowKit
set_option maxRecDepth 100000
set_option linter.unusedVariables false

theorem rints_same (v1 v2 : Value) (n : Nat) (hn : n < 2 ^ 62) (f : Nat → Int) (w : World) (h1 : Lst w v1 n f) (h2 : Lst w v2 n f) :
    Calls Tryd.prog 15 #[v1, v2] w fun e w' => e = .returned (.bool true) ∧ ∃ k, w' = w.drewN k := by
  obtain ⟨a1, c1, rfl, h1⟩ := h1
  obtain ⟨a2, c2, rfl, h2⟩ := h2
  have h1 : ∀ i, i < n → ∃ b off, a1 = some ⟨b, off, none⟩ ∧ w.cell? ⟨b, off + i, none⟩ = some (.int .i64 (f i)) := fun i hi => by
    rcases h1 with h | ⟨b, off, e, _, hc⟩
    · omega
    · exact ⟨b, off, e, hc i hi⟩
  have h2 : ∀ i, i < n → ∃ b off, a2 = some ⟨b, off, none⟩ ∧ w.cell? ⟨b, off + i, none⟩ = some (.int .i64 (f i)) := fun i hi => by
    rcases h2 with h | ⟨b, off, e, _, hc⟩
    · omega
    · exact ⟨b, off, e, hc i hi⟩
  go_enter Tryd.func15, Tryd.ntmps15
  go_wp2
  go_loopw [5] (fun p wr => ∃ (k q : Nat), k ≤ n ∧ p = .int .i64 k ∧ w.drewN q = wr) (fun p _ => n - (intOf p).toNat)
  case atStart => exact ⟨0, 0, by omega, rfl, rfl⟩
  case round =>
    obtain ⟨k, q, hk, rfl, hwr⟩ := hrel
    by_cases hlt : k < n
    · obtain ⟨b1, o1, rfl, e1⟩ := h1 k hlt
      obtain ⟨b2, o2, rfl, e2⟩ := h2 k hlt
      have e1 : wr.cell? ⟨b1, o1 + k, none⟩ = some (.int .i64 (f k)) := by rw [← hwr]; exact e1
      have e2 : wr.cell? ⟨b2, o2 + k, none⟩ = some (.int .i64 (f k)) := by rw [← hwr]; exact e2
      have HW := Hid.mkI hwr
      clear hwr
      go_wp2
      go_quiet (fail)
      go_wp2
      go_roundw
      case rel => exact ⟨k + 1, q + nq, by omega, by go_num, by rw [← HW.out, World.drewN_drewN]⟩
      case measure => simp [intOf]; omega
    · have HW := Hid.mkI hwr
      clear hwr
      go_wp2
      go_ret
      exact ⟨rfl, q, HW.out.symm⟩
theorem rerror_errV (c : Int) (w : World) (hE : ErrT w) : Calls Tryd.prog 14 #[errV c, .int .i64 c] w fun e w' => e = .returned (.bool true) ∧ Below w.heap.size w w' := by
  by_cases h : c = 0
  · subst h
    exact (error_nil 0 w).mono fun e w' ⟨he, hw⟩ => ⟨by rw [he]; rfl, hw ▸ Below.refl _ _⟩
  · rw [errV, if_neg h]
    exact (error_err c c w hE).mono fun e w' ⟨he, hb⟩ => ⟨by rw [he]; simp, hb⟩
end Go.Proofs.YtioimgeeamchaaaDoor
