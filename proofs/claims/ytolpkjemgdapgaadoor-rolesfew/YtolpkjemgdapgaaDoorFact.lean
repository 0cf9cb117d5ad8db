/- Whether two lists are the same (Ints); what the closure of any relation is (Closure); the closed fact. -/
import Derived.WalkKit
import Derived.LoopTactic
import Derived.Deep.QuietTactic
import Derived.BigQuiet
import Derived.Test.YtolpkjemgdapgaaDoorCheck
namespace Go.Proofs.YtolpkjemgdapgaaDoor
open Go.RowKit

/-- The rows of m numbers that are sets. -/
def rowsOf (m : Nat) (zs : List Int) : List Nat := (zs.take m).map Int.toNat
theorem rowsOf_get {m : Nat} {zs : List Int} (h : ∀ i, i < m → Good m (zs[i]?.getD 0)) {i : Nat} (hi : i < m) : ((rowsOf m zs).getD i 0 : Int) = zs[i]?.getD 0 := by
  have := (h i hi).1
  unfold rowsOf
  rw [List.getD_eq_getElem?_getD, List.getElem?_map, List.getElem?_take, if_pos hi]
  cases hz : zs[i]? with
  | none => simp
  | some z => rw [hz] at this; simp at this ⊢; omega

theorem Closure_bad (a : Option Addr) (m cap : Nat) (c : Int) (w : World)
    (hc : Calls Tryd.prog 23 #[.slice a m cap] w fun e w' => e = .returned (.iface 36 (.int .i64 c)) ∧ w' = w) :
    Calls Tryd.prog 18 #[.slice a m cap] w fun e w' => e = .returned (.tuple #[.slice none 0 0, .iface 36 (.int .i64 c)]) ∧ w' = w := by
  go_enter Tryd.func18, Tryd.ntmps18
  go_wp2_with (go_at_call 23; refine hc.mono ?_; rintro e w' ⟨rfl, rfl⟩)
  go_ret2
  exact ⟨rfl, rfl⟩

theorem Closure_good (a : Option Addr) (m cap : Nat) (rows : List Nat) (w : World) (hr : Right m rows) (hl : At w a m rows) (hT : Tab w)
    (hc : Calls Tryd.prog 23 #[.slice a m cap] w fun e w' => e = .returned .nilIface ∧ w' = w) :
    Calls Tryd.prog 18 #[.slice a m cap] w fun e w' => e = .returned (.tuple #[.slice (some ⟨w.heap.size, 0, none⟩) m m, .nilIface]) ∧ Own w' w.heap.size m (come m rows) ∧ Below w.heap.size w w' := by
  have hcl := closure_any m cap a rows hr w hl hT
  go_enter Tryd.func18, Tryd.ntmps18
  go_wp2_with (first | (go_at_call 23; refine hc.mono ?_; rintro e w' ⟨rfl, rfl⟩) | (go_at_call 24; refine hcl.mono ?_; rintro e w' ⟨rfl, ho, hB⟩))
  go_ret2
  exact ⟨rfl, ho, hB⟩
end Go.Proofs.YtolpkjemgdapgaaDoor
