/- What the closure of any relation is (Closure), and the closed fact on three things. -/
import Derived.WalkKit
import Derived.LoopTactic
import Derived.Test.YtioimgeeamchaaaDoorFact
namespace Go.Proofs.YtioimgeeamchaaaDoor
open Go.RowKit

theorem rowsOf_right {m : Nat} {zs : List Int} (hm : m ≤ 12) (hz : m ≤ zs.length) (h : ∀ i, i < m → IsRow m (zs[i]?.getD 0)) : Right m (rowsOf m zs) := by
  refine ⟨hm, by simp [rowsOf]; omega, fun i => ?_⟩
  by_cases hi : i < m
  · have a := rowsOf_get h hi
    have b := (h i hi).2
    omega
  · have : (rowsOf m zs).getD i 0 = 0 := by
      unfold rowsOf
      rw [List.getD_eq_getElem?_getD, List.getElem?_map, List.getElem?_take, if_neg hi]; rfl
    rw [this]
    exact Nat.two_pow_pos m
theorem AtNums.at {w : World} {a : Option Addr} {m : Nat} {zs : List Int} (hn : AtNums w a m zs) (h : ∀ i, i < m → IsRow m (zs[i]?.getD 0)) : At w a m (rowsOf m zs) :=
  hn.elim .inl fun ⟨b, off, e, l⟩ => .inr ⟨b, off, e, l.old, fun i hi => by rw [l.cell i hi, rowsOf_get h hi]⟩
/-- All is right with m numbers. -/
def Fine (m : Nat) (zs : List Int) : Prop := m ≤ 12 ∧ ∀ i, i < m → IsRow m (zs[i]?.getD 0)

theorem check_fine (a : Option Addr) (m cap : Nat) (zs : List Int) (w : World) (hn : AtNums w a m zs) (hf : Fine m zs) :
    Calls Tryd.prog 38 #[.slice a m cap] w fun e w' => e = .returned .nilIface ∧ w' = w :=
  (check_any a m cap zs hf.1 w hn).mono fun e w' ⟨h, hw⟩ => by
    rcases h with ⟨he, _⟩ | ⟨_, i, hi, hg⟩
    · exact ⟨he, hw⟩
    · exact absurd (hf.2 i hi) hg
/-- The number of what is wrong. -/
def wrongN (m : Nat) : Int := if 12 < m then 4 else 1
theorem check_wrong (a : Option Addr) (m cap : Nat) (zs : List Int) (w : World) (hn : AtNums w a m zs) (hf : ¬ Fine m zs) :
    Calls Tryd.prog 38 #[.slice a m cap] w fun e w' => e = .returned (.iface 57 (.int .i64 (wrongN m))) ∧ w' = w := by
  by_cases hm : 12 < m
  · have : wrongN m = 4 := by simp [wrongN, hm]
    rw [this]
    exact check_full a m cap hm w
  · have : wrongN m = 1 := by simp [wrongN, hm]
    rw [this]
    refine (check_any a m cap zs (by omega) w hn).mono fun e w' ⟨h, hw⟩ => ?_
    rcases h with ⟨_, hg⟩ | ⟨he, _⟩
    · exact absurd ⟨by omega, hg⟩ hf
    · exact ⟨he, hw⟩

theorem Closure_fine (a : Option Addr) (m cap : Nat) (zs : List Int) (hz : m ≤ zs.length) (w : World) (hn : AtNums w a m zs) (hT : Tab w) (hf : Fine m zs) :
    Calls Tryd.prog 21 #[.slice a m cap] w fun e w' => e = .returned (.tuple #[.slice (some ⟨w.heap.size, 0, none⟩) m m, .nilIface]) ∧ Own w' w.heap.size m (come m (rowsOf m zs)) ∧ Below w.heap.size w w' :=
  Closure_good a m cap (rowsOf m zs) w (rowsOf_right hf.1 hz hf.2) (hn.at hf.2) hT (check_fine a m cap zs w hn hf)
theorem Closure_wrong (a : Option Addr) (m cap : Nat) (zs : List Int) (w : World) (hn : AtNums w a m zs) (hf : ¬ Fine m zs) :
    Calls Tryd.prog 21 #[.slice a m cap] w fun e w' => e = .returned (.tuple #[.slice none 0 0, .iface 57 (.int .i64 (wrongN m))]) ∧ w' = w :=
  Closure_bad a m cap (wrongN m) w (check_wrong a m cap zs w hn hf)

theorem three_lies (w : World) (x y z : Nat) : Lies (w.alloc (.cells #[.int .i64 x, .int .i64 y, .int .i64 z] 3)) w.heap.size 0 3 [x, y, z] := by
  have h := World.alloc_heap_new w (.cells #[.int .i64 x, .int .i64 y, .int .i64 z] 3)
  refine ⟨by simp, fun i hi => ?_⟩
  have hi' : i = 0 ∨ i = 1 ∨ i = 2 := by omega
  rcases hi' with rfl | rfl | rfl <;> simp only [World.cell?] <;> rw [h] <;> simp
theorem three_nums (w : World) (x y z : Nat) : Nums (w.alloc (.cells #[.int .i64 x, .int .i64 y, .int .i64 z] 3)) w.heap.size 0 3 [(x : Int), y, z] := by
  have l := three_lies w x y z
  refine ⟨l.old, fun i hi => ?_⟩
  rw [l.cell i hi]
  have hi' : i = 0 ∨ i = 1 ∨ i = 2 := by omega
  rcases hi' with rfl | rfl | rfl <;> simp

theorem fact_closure (w : World) (hT : Tab w) :
    Calls Tryd.prog 21 #[.slice (some ⟨w.heap.size, 0, none⟩) 3 3] (w.alloc (.cells #[.int .i64 2, .int .i64 4, .int .i64 0] 3)) fun e w' =>
      e = .returned (.tuple #[.slice (some ⟨w.heap.size + 1, 0, none⟩) 3 3, .nilIface]) ∧ Lies w' (w.heap.size + 1) 0 3 [7, 6, 4] ∧ Below w.heap.size w w' := by
  have hB : Below w.heap.size w (w.alloc (.cells #[.int .i64 2, .int .i64 4, .int .i64 0] 3)) := (Below.refl _ w).alloc (Nat.le_refl _) _
  have hn := three_nums w 2 4 0
  have hf : Fine 3 [((2 : Nat) : Int), ((4 : Nat) : Int), ((0 : Nat) : Int)] := ⟨by decide, fun i hi => by
    have hi' : i = 0 ∨ i = 1 ∨ i = 2 := by omega
    rcases hi' with rfl | rfl | rfl <;> simp [IsRow]⟩
  have h := Closure_fine (some ⟨w.heap.size, 0, none⟩) 3 3 _ (by simp) _ (.inr ⟨_, _, rfl, hn⟩) (hT.below hB hT.size) hf
  refine h.mono fun e w' ⟨he, ho, hb⟩ => ⟨by rw [he, World.size_alloc], ?_, hB.trans (hb.mono (by simp))⟩
  rw [World.size_alloc] at ho
  refine ho.lies fun j hj => ?_
  have hi' : j = 0 ∨ j = 1 ∨ j = 2 := by omega
  rcases hi' with rfl | rfl | rfl <;> decide +kernel

end Go.Proofs.YtioimgeeamchaaaDoor
