/- The program's writer, whole: a node's text; Write. -/
import Derived.WalkKit
import Derived.LoopTactic
import Derived.OwnWalk
import Derived.Laws.Strings
import Derived.Laws.Strings2
import Derived.Laws.Concat
import Derived.Deep.RegionHeld3
import Derived.Test.YtahdbhehaoeemaaDoorPrwB
import Derived.Test.YtahdbhehaoeemaaDoorProY
namespace Go.Proofs.YtahdbhehaoeemaaDoor
open Go.RowKit
set_option maxRecDepth 100000
set_option linter.unusedVariables false

theorem digF_lt : ∀ (f n : Nat), ∀ c ∈ digF f n, c < 256
  | 0, n, c, hc => by simp [digF] at hc
  | f + 1, n, c, hc => by
    rw [digF] at hc
    split at hc
    · simp at hc; omega
    · rcases List.mem_append.1 hc with hc | hc
      · exact digF_lt f _ c hc
      · simp at hc; omega
theorem hash_add (m : Nat) (hm : m ≤ 999999) (W : World) : (Op.stringOp .add (⟨#[35]⟩ : ByteArray) (strB (digs m))).run Tryd.prog W = .ok (.string (strB (35 :: digs m))) W := by
  have h1 : (⟨#[35]⟩ : ByteArray) = strB [35] := rfl
  have hl := digs_len hm
  rw [h1, run_string_add (P := Tryd.prog) W (strB [35]) (strB (digs m)) (by rw [strB_size]; simp) (by rw [strB_size]; omega), strB_app]
  rfl
section
variable {B X b off n : Nat} {S : Nat → Nod} {pv : Value}
end
end Go.Proofs.YtahdbhehaoeemaaDoor
