/- What a spread and a closure of package rel return. -/
import Derived.WalkKit
import Derived.LoopTactic
import Derived.Laws.MakeOwn
import Derived.Test.YtpmcijfeobmmjaaDoorStep
namespace Go.Proofs.YtpmcijfeobmmjaaDoor
open Go.RowKit Go.Shelf

/-- A relation lies in memory. -/
structure Lies (w : World) (b off m : Nat) (rows : List Nat) : Prop where
  old : b < w.heap.size
  cell : ∀ i, i < m → w.cell? ⟨b, off + i, none⟩ = some (.int .i64 (rows.getD i 0 : Nat))

theorem Lies.below {w w' : World} {b off m : Nat} {rows : List Nat} (h : Lies w b off m rows) (hb : Below w.heap.size w w') : Lies w' b off m rows :=
  ⟨Nat.lt_of_lt_of_le h.old hb.size, fun i hi => (hb.cell (p := ⟨b, off + i, none⟩) h.old).trans (h.cell i hi)⟩

theorem pow_wrap {a : Nat} (h : a ≤ 12) : wrap64 ((2 : Int) ^ a) = ((2 ^ a : Nat) : Int) := by
  have h1 : 2 ^ a ≤ 4096 := pow12 h
  have h2 : (2 : Int) ^ a = ((2 ^ a : Nat) : Int) := by simp
  rw [h2]
  obtain ⟨p, hp⟩ : ∃ p, 2 ^ a = p := ⟨_, rfl⟩
  rw [hp] at h1 ⊢
  exact IntWalk.wrap64_in _ ⟨by omega, by omega⟩

end Go.Proofs.YtpmcijfeobmmjaaDoor
