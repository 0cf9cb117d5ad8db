/- What the document's set answers: a list with one number in another one's place; and whether a number is from one to another one (in), and the lesser of two (less). -/
import Derived.WalkKit
import Derived.LoopTactic
import Derived.Deep.LoopGhost
import Derived.Test.YtoecomgiggalkaaDoorLsto
namespace Go.Proofs.YtoecomgiggalkaaDoor
open Go.RowKit
set_option maxRecDepth 100000

/-- Is a number from one to another one? -/
def inQ (x a b : Int) : Bool := decide (a ≤ x ∧ x ≤ b)
theorem inQ_iff (x a b : Int) : inQ x a b = true ↔ a ≤ x ∧ x ≤ b := by rw [inQ, decide_eq_true_eq]
theorem refIn_any (x a b : Int) (w : World) :
    Calls Tryd.prog 21 #[.int .i64 x, .int .i64 a, .int .i64 b] w fun e w' => e = .returned (.bool (inQ x a b)) ∧ w' = w := by
  by_cases h1 : a ≤ x
  · by_cases h2 : x ≤ b
    · rw [(inQ_iff x a b).2 ⟨h1, h2⟩]
      go_enter Tryd.func21, Tryd.ntmps21
      go_wp2
      go_ret
      exact ⟨rfl, rfl⟩
    · rw [show inQ x a b = false from decide_eq_false (by omega)]
      have h3 : b < x := by omega
      go_enter Tryd.func21, Tryd.ntmps21
      go_wp2
      go_ret
      exact ⟨by simp, rfl⟩
  · rw [show inQ x a b = false from decide_eq_false (by omega)]
    have h3 : x < a := by omega
    go_enter Tryd.func21, Tryd.ntmps21
    go_wp2
    go_ret
    exact ⟨rfl, rfl⟩
end Go.Proofs.YtoecomgiggalkaaDoor
