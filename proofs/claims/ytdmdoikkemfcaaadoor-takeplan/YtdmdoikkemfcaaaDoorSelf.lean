/- What the small functions that ask for an order return: whether a set has a thing (has), and a relation without what leads to itself (withoutSelf). -/
import Derived.WalkKit
import Derived.LoopTactic
import Derived.Test.YtdmdoikkemfcaaaDoorFace
namespace Go.Proofs.YtdmdoikkemfcaaaDoor
open Go.RowKit

theorem has_fact (s i : Nat) (hs : s < 1048576) : (bits BinOp.and IntKind.i64 ((s : Int) / 2 ^ i) 1 == 1) = s.testBit i := by
  have e : (s : Int) / 2 ^ i = ((s / 2 ^ i : Nat) : Int) := by simp
  have h1 : s / 2 ^ i < 1048576 := Nat.lt_of_le_of_lt (Nat.div_le_self _ _) hs
  have h2 := and_i64 (s / 2 ^ i) 1 h1 (by decide)
  rw [e]
  rw [show ((1 : Nat) : Int) = 1 from rfl] at h2
  rw [h2, Nat.and_one_is_mod, Nat.testBit_eq_decide_div_mod_eq, Bool.eq_iff_iff]
  simp only [beq_iff_eq, decide_eq_true_eq]
  omega

theorem has_any (s i : Nat) (hs : s < 1048576) (hi : i < 20) (w : World) :
    Calls Tryd.prog 81 #[.int .i64 s, .int .i64 i] w fun e w' => e = .returned (.bool (s.testBit i)) ∧ w' = w := by
  go_enter Tryd.func81, Tryd.ntmps81
  go_wp2
  go_ret
  exact ⟨ret_bool (has_fact s i hs), rfl⟩

end Go.Proofs.YtdmdoikkemfcaaaDoor
