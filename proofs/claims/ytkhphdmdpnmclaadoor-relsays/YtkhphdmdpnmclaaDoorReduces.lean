/- The walk of the law RelReduces. -/
import Derived.WalkKit
import Derived.LoopTactic
import Derived.Deep.RegionWith
import Derived.OpenShut
import Derived.OwnWalk
import Derived.Test.YtkhphdmdpnmclaaDoorRowk
import Derived.Test.YtkhphdmdpnmclaaDoorReduce
import Derived.Test.YtkhphdmdpnmclaaDoorClosesAny
namespace Go.Proofs.YtkhphdmdpnmclaaDoor
open Go.RowKit

theorem ints_own (m B1 B2 c1 c2 : Nat) (f g : Nat → Nat) (b : Bool) (hm : m ≤ 12) (hb : sameB m (listOf m f) (listOf m g) = b) (w : World) (h1 : Own w B1 m f) (h2 : Own w B2 m g) :
    Calls Tryd.prog 13 #[.slice (some ⟨B1, 0, none⟩) m c1, .slice (some ⟨B2, 0, none⟩) m c2] w fun e w' => e = .returned (.bool b) ∧ ∃ n, w' = w.drewN n := by
  rw [← hb]
  exact ints_some B1 0 c1 B2 0 c2 m (by omega) (listOf m f) (listOf m g) w (h1.lies fun _ hj => listOf_get _ hj) (h2.lies fun _ hj => listOf_get _ hj)
/-- What the walk is told of an order and its steps. -/
structure Tells (w : World) (a : Option Addr) (m cap : Nat) (C D : Nat → Nat) : Prop where
  few : m ≤ 12
  lt : ∀ i, i < m → D i < 2 ^ m
  reduce : ∀ w1, Below w.heap.size w w1 → Calls Tryd.prog 15 #[.slice a m cap] w1 fun e w' => ∃ B, e = .returned (.tuple #[.slice (some ⟨B, 0, none⟩) m m, .nilIface]) ∧ w1.heap.size ≤ B ∧ Own w' B m D ∧ Below w1.heap.size w1 w'
  close : ∀ w1, Below w.heap.size w w1 → Calls Tryd.prog 12 #[.slice a m cap] w1 fun e w' => e = .returned (.tuple #[.slice (some ⟨w1.heap.size, 0, none⟩) m m, .nilIface]) ∧ Own w' w1.heap.size m C ∧ Below w1.heap.size w1 w'
  again : ∀ w1 B, Below w.heap.size w w1 → Own w1 B m D → Calls Tryd.prog 12 #[.slice (some ⟨B, 0, none⟩) m m] w1 fun e w' => e = .returned (.tuple #[.slice (some ⟨w1.heap.size, 0, none⟩) m m, .nilIface]) ∧ Own w' w1.heap.size m C ∧ Below w1.heap.size w1 w'
  spared : ∀ w1 B cp i j, Below w.heap.size w w1 → i < m → (D i).testBit j = true → Own w1 B m (upd D i (less (D i) (2 ^ j))) →
    ∃ Y, sameB m (listOf m Y) (listOf m C) = false ∧ Calls Tryd.prog 12 #[.slice (some ⟨B, 0, none⟩) m cp] w1 fun e w' => e = .returned (.tuple #[.slice (some ⟨w1.heap.size, 0, none⟩) m m, .nilIface]) ∧ Own w' w1.heap.size m Y ∧ Below w1.heap.size w1 w'

/-- Where the law asks for no step. -/
def Off (m : Nat) (D : Nat → Nat) (xi xj : Int) : Prop := xi < 0 ∨ (0 ≤ xi ∧ (m : Int) ≤ xi) ∨ (0 ≤ xi ∧ xi < m ∧ xj < 0) ∨ (0 ≤ xi ∧ xi < m ∧ 0 ≤ xj ∧ (m : Int) ≤ xj) ∨ ∃ i j : Nat, xi = i ∧ xj = j ∧ i < m ∧ j < m ∧ (D i).testBit j = false

theorem tells_of (a : Option Addr) (m cap : Nat) (z : List Int) (hz : m ≤ z.length) (w : World) (h1 : AtNums w a m z) (hT : Tab w) (hf : Fine m z) (hn : noRing m (come m (rowsOf m z)) = true) :
    Tells w a m cap (come m (rowsOf m z)) (steps m (come m (rowsOf m z))) := by
  have hr := rowsOf_right hf.1 hz hf.2
  have hO := ord_of hr hn
  have hTb : ∀ w1, Below w.heap.size w w1 → Tab w1 := fun w1 hB => hT.below hB hT.size
  refine ⟨hf.1, hO.slt hf.1, fun w1 hB => ?_, fun w1 hB => Closure_fine a m cap z hz w1 (h1.below hB) (hTb w1 hB) hf, fun w1 B hB ho => ?_, fun w1 B cp i j hB hi hs ho => ?_⟩
  · refine Reduce_good a m cap _ hf.1 hO w1 (hTb w1 hB) (check_fine a m cap z w1 (h1.below hB) hf) (closure_any m cap a _ hr w1 ((h1.below hB).at hf.2) (hTb w1 hB)) fun w2 ho hB2 => ?_
    have := isOrder_any m w1.heap.size m _ hf.1 (fun i hi => come_lt hr hi) w2 ho ((hTb w1 hB).below hB2 (hTb w1 hB).size)
    rwa [hn] at this
  · exact (Closure_own m B m _ hf.1 (hO.slt hf.1) w1 ho (hTb w1 hB)).mono fun e w' ⟨he, ho', hB'⟩ => ⟨he, ho'.like fun j hj => hO.same hf.1 j hj, hB'⟩
  · have hl : ∀ x, x < m → upd (steps m (come m (rowsOf m z))) i (less (steps m (come m (rowsOf m z)) i) (2 ^ j)) x < 2 ^ m := fun x hx => by
      by_cases e : x = i
      · subst e
        rw [upd_same]
        exact lt_of_bits fun y hy => by
          rw [less_bit, Bool.and_eq_true] at hy
          exact bit_lt (hO.slt hf.1 x hx) hy.1
      · rw [upd_other _ e]; exact hO.slt hf.1 x hx
    refine ⟨_, ?_, Closure_own m B cp _ hf.1 hl w1 ho (hTb w1 hB)⟩
    cases hsb : sameB m (listOf m (come m (listOf m (upd (steps m (come m (rowsOf m z))) i (less (steps m (come m (rowsOf m z)) i) (2 ^ j)))))) (listOf m (come m (rowsOf m z))) with
    | false => rfl
    | true =>
      have h1 := (sameB_iff _ _ _).1 hsb i hi
      rw [listOf_get _ hi, listOf_get _ hi] at h1
      have h2 := hO.spared hf.1 i j hi hs
      rw [h1, hO.steps_sub hf.1 i hi j hs] at h2
      cases h2

end Go.Proofs.YtkhphdmdpnmclaaDoor
