/- The program's writer of texts: where it lies in memory; what the library's Builder does in it (copyCheck, WriteByte, WriteString, Len, String). -/
import Derived.WalkKit
import Derived.LoopTactic
import Derived.OwnWalk
import Derived.Laws.Strings
import Derived.Laws.Strings2
import Derived.Lib.Builder
import Derived.Lib.AppendStr
import Derived.Lib.UnsafeStr
import Derived.Laws.Externs
import Derived.Shelf.RegionOpenPlain
import Derived.Test.YtahdbhehaoeemaaDoorProJ
namespace Go.Proofs.YtahdbhehaoeemaaDoor
open Go.RowKit
set_option maxRecDepth 100000
set_option linter.unusedVariables false

/-- Bytes as cells. -/
def byR (t : List Nat) : List Value := t.map fun (c : Nat) => Value.int .u8 (c : Int)
theorem byR_len (t : List Nat) : (byR t).length = t.length := by simp [byR]
theorem byR_app (t s : List Nat) : byR (t ++ s) = byR t ++ byR s := by simp [byR]
theorem byR_of {t : List Nat} (h : ∀ c ∈ t, c < 256) : Lib.byteCells (t.map UInt8.ofNat) = byR t := by
  unfold Lib.byteCells byR
  rw [List.map_map]
  refine List.map_congr_left fun c hc => ?_
  have := h c hc
  have e : (UInt8.ofNat c).toNat = c := by simp; omega
  simp only [Function.comp, e]
theorem byR_str {t : List Nat} (h : ∀ c ∈ t, c < 256) : Lib.strCells (strB t) = byR t := byR_of h
abbrev wrP (X : Nat) : Value := .pointer (some ⟨X, 0, none⟩)
/-- Whatever is no row of bytes stays, the writer aside. -/
def FrW (X : Nat) (w w' : World) : Prop := ∀ (k : Nat) (cs : Array Value) (T : TypeId) (fr : Nat × Nat), k ≠ X → T ≠ 5 → w.heap[k]? = some (.cells cs T fr) → w'.heap[k]? = some (.cells cs T fr)
theorem FrW.refl (X : Nat) (w : World) : FrW X w w := fun _ _ _ _ _ _ h => h
theorem FrW.trans {X : Nat} {a b c : World} (h : FrW X a b) (k : FrW X b c) : FrW X a c := fun i cs T fr h1 h2 h3 => k i cs T fr h1 h2 (h i cs T fr h1 h2 h3)
theorem FrW.ofBelow {X : Nat} {w w' : World} (h : Below w.heap.size w w') : FrW X w w' := fun k cs T fr _ _ h3 => by
  have hk : k < w.heap.size := by
    rcases Nat.lt_or_ge k w.heap.size with q | q
    · exact q
    · simp [Array.getElem?_eq_none q] at h3
  exact (h.block k hk).trans h3
theorem FrW.set {X : Nat} {w w' : World} (h : FrW X w w') (o : Nat) (u : Value) : FrW X w (w'.setCell ⟨X, o, none⟩ u) := fun k cs T fr h1 h2 h3 => by
  rw [Below.heap_setCell _ _ _ k h1]; exact h k cs T fr h1 h2 h3
theorem FrW.grown {X B n : Nat} {w w' w2 : World} {v : Value} {xs : List Value} (h : FrW X w w') (ho : w'.ownsRow B 5 1 v n xs) (hg : w'.grownBy w2 v.ownBlock) : FrW X w w2 := fun k cs T fr h1 h2 h3 => by
  have h4 := h k cs T fr h1 h2 h3
  have hk : k < w'.heap.size := by
    rcases Nat.lt_or_ge k w'.heap.size with q | q
    · exact q
    · simp [Array.getElem?_eq_none q] at h4
  exact (hg.block k hk fun e => Lib.ownBlock_ne ho h4 h2 e.symm).trans h4
theorem infoByt : (Tryd.prog.info? 5).map (fun i => (i.zero, i.size, i.bytes)) = some (some (.int .u8 0), 1, 1) := by kernel_rfl
theorem cellsByt : Tryd.prog.cellsOf 5 = 1 := by kernel_rfl
end Go.Proofs.YtahdbhehaoeemaaDoor
