/- What Write of package label answers: a label's text. -/
import Derived.RangeFuncNested
import Derived.RangeFuncBound
import Derived.RangeFuncCalls
import Derived.RangeFuncLeaves
import Derived.RangeFuncFrom
import Derived.RangeFuncBox
import Derived.Shelf.Abstract
import Derived.Shelf.RegionOpen
import Derived.WalkKit
import Derived.OwnWalkIn
import Derived.TacticsInMore
import Derived.LoopNIn
import Derived.LoopIn
import Derived.Outline
import Derived.Laws.BytesArg
import Derived.Test.YtomencagnppdcaaDoorLabel
import Derived.Test.YtomencagnppdcaaDoorRowk
namespace Go.Proofs.YtomencagnppdcaaDoor
open Go.RowKit Go.Shelf
attribute [local go_sem] Oper.semAt_some

/-- The letters of a label's text, as numbers. -/
def txt (l : Nat) (pre : List (Thing 8)) : List Int := (48 + (l : Int)) :: pre.map fun i => 97 + (i.1 : Int)
theorem txt_snoc (l : Nat) (pre : List (Thing 8)) (i : Thing 8) : txt l (pre ++ [i]) = txt l pre ++ [97 + (i.1 : Int)] := by simp [txt]
theorem txt_length (l : Nat) (pre : List (Thing 8)) : (txt l pre).length = pre.length + 1 := by simp [txt]
/-- A label's text. -/
def wrt (l s : Nat) : ByteArray := strOfNums (txt l (memN 8 s))

/-- What lies in one new label's place, behind whatever was done since. -/
theorem one_of {w w' : World} {x y : Value} {t : TypeId} (S : Below (w.alloc (.cells #[x, y] t)).heap.size (w.alloc (.cells #[x, y] t)) w') :
    w'.cell? ⟨w.heap.size, 0, none⟩ = some x ∧ w'.cell? ⟨w.heap.size, 1, none⟩ = some y ∧ w.heap.size < w'.heap.size ∧ Below w.heap.size w w' := by
  have h1 := World.alloc_heap_new w (.cells #[x, y] t)
  have c := fun (o : Nat) => S.cell (p := ⟨w.heap.size, o, none⟩) (by simp)
  have hz := S.size
  have hs : (w.alloc (.cells #[x, y] t)).heap.size = w.heap.size + 1 := by simp
  rw [hs] at hz
  refine ⟨(c 0).trans ?_, (c 1).trans ?_, hz, ((Below.refl _ w).alloc (Nat.le_refl _) _).trans (S.mono (by simp))⟩
  · simp only [World.cell?]; rw [h1]; simp
  · simp only [World.cell?]; rw [h1]; simp

theorem info5 : (Tryd.prog.info? 5).map (fun i => (i.zero, i.size, i.bytes)) = some (some (.int .u8 0), 1, 1) := by kernel_rfl
theorem wrt_fact : wrt 3 5 = ⟨#[51, 97, 99]⟩ := by decide +kernel
end Go.Proofs.YtomencagnppdcaaDoor
