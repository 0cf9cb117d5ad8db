/- What is read has just the text that was read. -/
import Derived.WalkKit
import Derived.LoopTactic
import Derived.OwnWalk
import Derived.Laws.Strings
import Derived.Laws.Strings2
import Derived.KernelRfl
import Derived.Test.YtahdbhehaoeemaaGreatDoorPrwD
import Derived.Test.YtahdbhehaoeemaaGreatDoorProO
namespace Go.Proofs.YtahdbhehaoeemaaGreatDoor
open Go.RowKit
set_option maxRecDepth 100000
set_option linter.unusedVariables false

theorem fact_red : redP [97, 61, 43, 98, 35, 50, 59] = .ok [⟨1, 1, 0, 0, 0⟩, ⟨0, 2, 0, 0, 0⟩, ⟨2, 0, 0, 1, 0⟩, ⟨6, 0, 2, 0, 0⟩] := by kernel_rfl
theorem LibT.call {w w' : World} (h : LibT w.heap.size w) (k : Below w.heap.size w w') : LibT w'.heap.size w' := (h.on k).up k.size
theorem progFact_any (w : World) (hL : LibT w.heap.size w) :
    Calls Tryz.prog 6 #[] w fun e w' => e = .returned (.bool true) ∧ Below w.heap.size w w' := by
  have t := read_any ⟨#[97, 61, 43, 98, 35, 50, 59]⟩ w hL
  rw [show numsB ⟨#[97, 61, 43, 98, 35, 50, 59]⟩ = [97, 61, 43, 98, 35, 50, 59] from rfl, fact_red] at t
  have t : Calls Tryz.prog 8 #[.string ⟨#[97, 61, 43, 98, 35, 50, 59]⟩] w fun E w' => Below w.heap.size w w' ∧ ∃ g cp, E = .returned (.tuple #[.slice (some ⟨g, 0, none⟩) 4 cp, .nilIface]) ∧ w'.cell? ⟨g, 15, none⟩ = some (.int .i64 6) ∧ w'.cell? ⟨g, 10, none⟩ = some (.int .i64 2) := t.mono fun E w' ⟨b, p, cp, e, ho⟩ => by
    obtain ⟨g, c, hv⟩ := drow_someK ho (by decide)
    rw [hv] at ho
    refine ⟨b, g, c, by rw [e, hv]; rfl, ?_, ?_⟩
    · exact (ho.cellAt 15 (by decide)).trans rfl
    · exact (ho.cellAt 10 (by decide)).trans rfl
  go_enter Tryz.func6, Tryz.ntmps6
  go_wp2_with (go_at_call 8; refine t.mono ?_; clear t; rintro e w1 ⟨hB, g, cp, rfl, c3, c2⟩)
  go_ret
  exact ⟨rfl, hB⟩
end Go.Proofs.YtahdbhehaoeemaaGreatDoor
