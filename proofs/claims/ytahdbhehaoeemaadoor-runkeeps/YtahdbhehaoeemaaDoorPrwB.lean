/- The program's writer: each of its functions by what it calls, way by way (made by a program: gen/prowrite.py). -/
import Derived.WalkKit
import Derived.LoopTactic
import Derived.OwnWalk
import Derived.Laws.Strings
import Derived.Laws.Strings2
import Derived.Laws.Concat
import Derived.Deep.RegionHeld3
import Derived.Test.YtahdbhehaoeemaaDoorPrwA
import Derived.Test.YtahdbhehaoeemaaDoorProK
import Derived.Test.YtahdbhehaoeemaaDoorProX
namespace Go.Proofs.YtahdbhehaoeemaaDoor
open Go.RowKit
set_option maxRecDepth 100000
set_option linter.unusedVariables false

/-- What the writer leans on: the program lies as it did, and what the library needs. -/
structure Ctx (B b off n : Nat) (S : Nat → Nod) (w : World) : Prop where
  nods : Nods w b off n S
  lt : b < B
  lib : LibT B w
theorem Ctx.on {B b off n : Nat} {S : Nat → Nod} {w w' : World} (h : Ctx B b off n S w) (k : Below B w w') : Ctx B b off n S w' := by
  have c := fun o => k.cell (p := ⟨b, o, none⟩) h.lt
  exact ⟨⟨Nat.lt_of_lt_of_le h.nods.old k.size, fun i hi => (c _).trans (h.nods.c0 i hi), fun i hi => (c _).trans (h.nods.c1 i hi), fun i hi => (c _).trans (h.nods.c2 i hi), fun i hi => (c _).trans (h.nods.c3 i hi), fun i hi => (c _).trans (h.nods.c4 i hi)⟩, h.lt, h.lib.on k⟩
/-- A node in a place of its own. -/
def BxN (Y : Nat) (x : Nod) (W : World) : Prop := W.heap[Y]? = some (.cells #[.int .i64 x.kd, .int .i64 x.num, .int .i64 x.pa, .int .i64 x.pb, .int .i64 x.pc] 37 (0, 0))
theorem BxN.fr {X Y : Nat} {x : Nod} {w w' : World} (h : BxN Y x w) (k : FrW X w w') (hne : Y ≠ X) : BxN Y x w' := k Y _ _ _ hne (by decide) h
theorem BxN.cells {Y : Nat} {kd num pa pb pc : Int} {w : World} (h : BxN Y ⟨kd, num, pa, pb, pc⟩ w) : w.cell? ⟨Y, 0, none⟩ = some (.int .i64 kd) ∧ w.cell? ⟨Y, 1, none⟩ = some (.int .i64 num) ∧ w.cell? ⟨Y, 2, none⟩ = some (.int .i64 pa) ∧ w.cell? ⟨Y, 3, none⟩ = some (.int .i64 pb) ∧ w.cell? ⟨Y, 4, none⟩ = some (.int .i64 pc) := by
  refine ⟨?_, ?_, ?_, ?_, ?_⟩ <;> (rw [Lib.cell_of_heap h]; rfl)
section
variable {B X b off n : Nat} {S : Nat → Nod} {pv : Value}
end
end Go.Proofs.YtahdbhehaoeemaaDoor
