/- The value of a node, as the document has it (Value). -/
import Derived.WalkKit
import Derived.LoopTactic
import Derived.OwnWalk
import Derived.Test.YtioimgeeamchaaaDoorRunA
import Derived.Test.YtioimgeeamchaaaDoorProG
import Derived.Test.YtioimgeeamchaaaDoorLst
namespace Go.Proofs.YtioimgeeamchaaaDoor
open Go.RowKit
set_option maxRecDepth 100000
set_option linter.unusedVariables false

theorem nod_cells5 {w : World} {a : Option Addr} {n i : Nat} {S : Nat → Nod} (h : AtNods w a n S) (hi : i < n) {x : Nod} (e : S i = x) : ∃ b off, a = some ⟨b, off, none⟩ ∧ b < w.heap.size ∧ w.cell? ⟨b, off + i * 5, none⟩ = some (.int .i64 x.kd) ∧ w.cell? ⟨b, off + i * 5 + 1, none⟩ = some (.int .i64 x.num) ∧ w.cell? ⟨b, off + i * 5 + 2, none⟩ = some (.int .i64 x.pa) ∧ w.cell? ⟨b, off + i * 5 + 3, none⟩ = some (.int .i64 x.pb) ∧ w.cell? ⟨b, off + i * 5 + 4, none⟩ = some (.int .i64 x.pc) := by
  subst e
  rcases h with h | ⟨b, off, e, h⟩
  · omega
  · exact ⟨b, off, e, h.old, h.c0 i hi, h.c1 i hi, h.c2 i hi, h.c3 i hi, h.c4 i hi⟩
theorem nods_five {w : World} {b off n i : Nat} {S : Nat → Nod} (h : Nods w b off n S) (hi : i < n) {x : Nod} (e : S i = x) : w.cell? ⟨b, off + i * 5, none⟩ = some (.int .i64 x.kd) ∧ w.cell? ⟨b, off + i * 5 + 1, none⟩ = some (.int .i64 x.num) ∧ w.cell? ⟨b, off + i * 5 + 2, none⟩ = some (.int .i64 x.pa) ∧ w.cell? ⟨b, off + i * 5 + 3, none⟩ = some (.int .i64 x.pb) ∧ w.cell? ⟨b, off + i * 5 + 4, none⟩ = some (.int .i64 x.pc) := by
  subst e
  exact ⟨h.c0 i hi, h.c1 i hi, h.c2 i hi, h.c3 i hi, h.c4 i hi⟩
end Go.Proofs.YtioimgeeamchaaaDoor
