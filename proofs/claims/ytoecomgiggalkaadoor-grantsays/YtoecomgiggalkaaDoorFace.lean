/- What the closure of any relation is (Closure), and the closed fact on three things. -/
import Derived.WalkKit
import Derived.LoopTactic
import Derived.Test.YtoecomgiggalkaaDoorFact
namespace Go.Proofs.YtoecomgiggalkaaDoor
open Go.RowKit

theorem rowsOf_right {m : Nat} {zs : List Int} (hm : m ≤ 12) (hz : m ≤ zs.length) (h : ∀ i, i < m → IsRow m (zs[i]?.getD 0)) : Right m (rowsOf m zs) := by
  refine ⟨hm, by simp [rowsOf]; omega, fun i => ?_⟩
  by_cases hi : i < m
  · have a := rowsOf_get h hi
    have b := (h i hi).2
    omega
  · have : (rowsOf m zs).getD i 0 = 0 := by
      unfold rowsOf
      rw [List.getD_eq_getElem?_getD, List.getElem?_map, List.getElem?_take, if_neg hi]; rfl
    rw [this]
    exact Nat.two_pow_pos m
theorem AtNums.at {w : World} {a : Option Addr} {m : Nat} {zs : List Int} (hn : AtNums w a m zs) (h : ∀ i, i < m → IsRow m (zs[i]?.getD 0)) : At w a m (rowsOf m zs) :=
  hn.elim .inl fun ⟨b, off, e, l⟩ => .inr ⟨b, off, e, l.old, fun i hi => by rw [l.cell i hi, rowsOf_get h hi]⟩
/-- All is right with m numbers. -/
def Fine (m : Nat) (zs : List Int) : Prop := m ≤ 12 ∧ ∀ i, i < m → IsRow m (zs[i]?.getD 0)

/-- The number of what is wrong. -/
def wrongN (m : Nat) : Int := if 12 < m then 4 else 1
theorem three_lies (w : World) (x y z : Nat) : Lies (w.alloc (.cells #[.int .i64 x, .int .i64 y, .int .i64 z] 3)) w.heap.size 0 3 [x, y, z] := by
  have h := World.alloc_heap_new w (.cells #[.int .i64 x, .int .i64 y, .int .i64 z] 3)
  refine ⟨by simp, fun i hi => ?_⟩
  have hi' : i = 0 ∨ i = 1 ∨ i = 2 := by omega
  rcases hi' with rfl | rfl | rfl <;> simp only [World.cell?] <;> rw [h] <;> simp
theorem three_nums (w : World) (x y z : Nat) : Nums (w.alloc (.cells #[.int .i64 x, .int .i64 y, .int .i64 z] 3)) w.heap.size 0 3 [(x : Int), y, z] := by
  have l := three_lies w x y z
  refine ⟨l.old, fun i hi => ?_⟩
  rw [l.cell i hi]
  have hi' : i = 0 ∨ i = 1 ∨ i = 2 := by omega
  rcases hi' with rfl | rfl | rfl <;> simp

end Go.Proofs.YtoecomgiggalkaaDoor
