/- Whether a label is below another one, as the document has it (Below). -/
import Derived.WalkKit
import Derived.LoopTactic
import Derived.Test.YteheaeihoameeaaDoorLabOpen
namespace Go.Proofs.YteheaeihoameeaaDoor
open Go.RowKit
set_option maxRecDepth 100000

theorem refBelow_ok (l1 s1 l2 s2 : Nat) (b1 : s1 < 256) (b2 : s2 < 256) (w : World) :
    Calls Tryd.prog 27 #[lab l1 s1, lab l2 s2] w fun e w' => e = .returned (.bool (belB l1 s1 l2 s2)) ∧ Below w.heap.size w w' := by
  have u := fun W => within_any s1 s2 (by omega) (by omega) W
  by_cases hl : l1 ≤ l2
  · have HE : Hid (belB l1 s1 l2 s2 = subB s1 s2) := by rw [Hid, belB, decide_eq_true hl, Bool.true_and]
    have hl' : (l1 : Int) ≤ (l2 : Int) := by omega
    go_enter Tryd.func27, Tryd.ntmps27
    go_wp2_with (go_at_call 48; refine (u _).mono ?_; rintro e w' ⟨rfl, rfl⟩)
    go_ret
    exact ⟨ret_bool HE.out.symm, ((Below.refl _ w).alloc (Nat.le_refl _) _).alloc (by simp) _⟩
  · have HE : Hid (belB l1 s1 l2 s2 = false) := by rw [Hid, belB, decide_eq_false hl, Bool.false_and]
    have hl' : (l2 : Int) < (l1 : Int) := by omega
    go_enter Tryd.func27, Tryd.ntmps27
    go_wp2
    go_ret
    exact ⟨ret_bool (by first | exact HE.out.symm | (rw [HE.out]; simp; omega)), ((Below.refl _ w).alloc (Nat.le_refl _) _).alloc (by simp) _⟩

end Go.Proofs.YteheaeihoameeaaDoor
