/- What a step, a spread and a closure of package rel return. -/
import Derived.RangeFuncNested
import Derived.RangeFuncBound
import Derived.RangeFuncCalls
import Derived.RangeFuncLeaves
import Derived.RangeFuncFrom
import Derived.Shelf.Abstract
import Derived.Shelf.RegionOpen
import Derived.WalkKit
import Derived.OwnWalkIn
import Derived.TacticsInMore
import Derived.LoopNIn
import Derived.LoopIn
import Derived.Outline
import Derived.Test.YtoecomgiggalkaaDoorLeaf
import Derived.Test.YtoecomgiggalkaaDoorGen
namespace Go.Proofs.YtoecomgiggalkaaDoor
open Go.RowKit Go.Shelf
attribute [local go_sem] Oper.semAt_some

theorem cell_new_l (W : World) (v : Value) (t : TypeId) : (W.alloc (.cells #[v] t)).cell? ⟨W.heap.size, 0, none⟩ = some v ∧ (W.alloc (.cells #[v] t)).frozen? ⟨W.heap.size, 0, none⟩ = false := by
  constructor <;> simp [go_sem]
theorem cell_alloc_l {W : World} {a : Addr} {v : Value} (o : Obj) (h : W.cell? a = some v) : (W.alloc o).cell? a = some v := cell_kept h (World.grownBy_alloc W o none) (fun r e => by cases e)
theorem frozen_alloc_l {W : World} {a : Addr} {v : Value} (o : Obj) (h : W.cell? a = some v) (hf : W.frozen? a = false) : (W.alloc o).frozen? a = false := (frozen_kept h (World.grownBy_alloc W o none) (fun r e => by cases e)).trans hf

/-- A relation lies in memory. -/
structure Lies (w : World) (b off m : Nat) (rows : List Nat) : Prop where
  old : b < w.heap.size
  cell : ∀ i, i < m → w.cell? ⟨b, off + i, none⟩ = some (.int .i64 (rows.getD i 0 : Nat))

theorem Lies.below {w w' : World} {b off m : Nat} {rows : List Nat} (h : Lies w b off m rows) (hb : Below w.heap.size w w') : Lies w' b off m rows :=
  ⟨Nat.lt_of_lt_of_le h.old hb.size, fun i hi => (hb.cell (p := ⟨b, off + i, none⟩) h.old).trans (h.cell i hi)⟩

/-- A slice of m numbers holds a relation; of no thing at all it may lie anywhere. -/
def At (w : World) (a : Option Addr) (m : Nat) (rows : List Nat) : Prop := m = 0 ∨ ∃ b off, a = some ⟨b, off, none⟩ ∧ Lies w b off m rows
theorem At.below {w w' : World} {a : Option Addr} {m : Nat} {rows : List Nat} (h : At w a m rows) (hb : Below w.heap.size w w') : At w' a m rows :=
  h.elim .inl fun ⟨b, off, e, l⟩ => .inr ⟨b, off, e, l.below hb⟩

end Go.Proofs.YtoecomgiggalkaaDoor
