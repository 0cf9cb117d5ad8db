/- The closed fact on running; the walk of the law RunKeeps. -/
import Derived.WalkKit
import Derived.LoopTactic
import Derived.Deep.QuietTactic
import Derived.BigQuiet
import Derived.KernelRfl
import Derived.Test.YtahdbhehaoeemaaGreatDoorRunO
import Derived.Test.YtahdbhehaoeemaaGreatDoorPrgA
namespace Go.Proofs.YtahdbhehaoeemaaGreatDoor
open Go.RowKit
set_option maxRecDepth 100000
set_option linter.unusedVariables false

/-- The closed fact's program, its variables ahead of it, and behind it. -/
def factL : List Nod := [⟨1, 1, 0, 0, 0⟩, ⟨0, 2, 0, 0, 0⟩, ⟨2, 0, 0, 1, 0⟩, ⟨6, 0, 2, 0, 0⟩]
def factS : Nat → Int := fun i => ([0, 5, 0, 0, 0, 0] : List Int).getD i 0
def factZ : Nat → Int := fun i => ([7, 5, 0, 0, 0, 0] : List Int).getD i 0
theorem fact_run : (match runIs factL 6 factS 9 with | .ok b => (List.range 6).map b.1 == (List.range 6).map factZ && b.2 == 1 | .error _ => false) = true := by kernel_rfl
theorem fact_ok : ∃ b, runIs factL 6 factS 9 = .ok b ∧ b.2 = 1 ∧ ∀ j, j < 6 → b.1 j = factZ j := by
  have h := fact_run
  cases e : runIs factL 6 factS 9 with
  | error c => rw [e] at h; cases h
  | ok b =>
    rw [e] at h
    simp only [Bool.and_eq_true, beq_iff_eq] at h
    refine ⟨b, rfl, h.2, fun j hj => ?_⟩
    have := congrArg (fun l => l[j]?) h.1
    simpa [hj] using this
theorem lst_six (w : World) (x0 x1 x2 x3 x4 x5 : Int) (t : TypeId) : Lst (w.alloc (.cells #[.int .i64 x0, .int .i64 x1, .int .i64 x2, .int .i64 x3, .int .i64 x4, .int .i64 x5] t)) (.slice (some ⟨w.heap.size, 0, none⟩) 6 6) 6 (fun i => ([x0, x1, x2, x3, x4, x5] : List Int).getD i 0) := by
  have h1 := World.alloc_heap_new w (.cells #[.int .i64 x0, .int .i64 x1, .int .i64 x2, .int .i64 x3, .int .i64 x4, .int .i64 x5] t)
  refine ⟨_, 6, rfl, .inr ⟨w.heap.size, 0, rfl, by simp, fun i hi => ?_⟩⟩
  simp only [World.cell?]
  rw [h1]
  match i, hi with
  | 0, _ => rfl
  | 1, _ => rfl
  | 2, _ => rfl
  | 3, _ => rfl
  | 4, _ => rfl
  | 5, _ => rfl
theorem runFact_any (w : World) (hL : LibT w.heap.size w) :
    Calls Tryz.prog 13 #[] w fun e w' => e = .returned (.bool true) ∧ Below w.heap.size w w' := by
  have t := read_any ⟨#[97, 61, 43, 98, 35, 50, 59]⟩ w hL
  rw [show numsB ⟨#[97, 61, 43, 98, 35, 50, 59]⟩ = [97, 61, 43, 98, 35, 50, 59] from rfl, fact_red] at t
  have t : Calls Tryz.prog 8 #[.string ⟨#[97, 61, 43, 98, 35, 50, 59]⟩] w fun E w' => Below w.heap.size w w' ∧ ∃ p cp, E = .returned (.tuple #[.slice p 4 cp, .nilIface]) ∧ Hid (AtNods w' p 4 (nthD factL)) := t.mono fun E w' ⟨b, p, cp, e, ho⟩ => by
    obtain ⟨a, c, e2, hat⟩ := nods_of (l := factL) ho
    obtain ⟨rfl, rfl⟩ : p = a ∧ cp = c := by injection e2; exact ⟨by assumption, by assumption⟩
    exact ⟨b, p, cp, e, hat⟩
  obtain ⟨b, hb, hb2, hb1⟩ := fact_ok
  have tR := fun (w1 : World) p cp (h : AtNods w1 p 4 (nthD factL)) => run_any factL p cp (.slice (some ⟨w1.heap.size, 0, none⟩) 6 6) 6 factS 9 (w1.alloc (.cells #[.int .i64 0, .int .i64 5, .int .i64 0, .int .i64 0, .int .i64 0, .int .i64 0] 3)) (AtNods.below h ((Below.refl _ w1).alloc (Nat.le_refl _) _)) (lst_six w1 0 5 0 0 0 0 3)
  rw [hb] at tR
  have tR : ∀ (w1 : World) p cp (h : AtNods w1 p 4 (nthD factL)), Calls Tryz.prog 11 #[.slice p 4 cp, .slice (some ⟨w1.heap.size, 0, none⟩) 6 6, .int .i64 9] (w1.alloc (.cells #[.int .i64 0, .int .i64 5, .int .i64 0, .int .i64 0, .int .i64 0, .int .i64 0] 3)) fun e w' => ∃ g cp, e = .returned (.tuple #[.slice (some ⟨g, 0, none⟩) 6 cp, .int .i64 1, .nilIface]) ∧ Hid (Lst w' (.slice (some ⟨g, 0, none⟩) 6 cp) 6 factZ) ∧ Below w1.heap.size w1 w' := fun w1 p cp h => (tR w1 p cp h).mono fun e w' ⟨k, g, cg, e1, e2⟩ => ⟨g, cg, by rw [e1, hb2]; rfl, e2.like hb1, ((Below.refl _ w1).alloc (Nat.le_refl _) _).trans (k.mono (by simp))⟩
  have tI := fun (w2 : World) g cg (h : Lst w2 (.slice (some ⟨g, 0, none⟩) 6 cg) 6 factZ) => rints_same (.slice (some ⟨g, 0, none⟩) 6 cg) (.slice (some ⟨w2.heap.size, 0, none⟩) 6 6) 6 (by decide) factZ (w2.alloc (.cells #[.int .i64 7, .int .i64 5, .int .i64 0, .int .i64 0, .int .i64 0, .int .i64 0] 3)) (h.below ((Below.refl _ w2).alloc (Nat.le_refl _) _)) (lst_six w2 7 5 0 0 0 0 3)
  have HTR := Hid.mkI tR
  have HTI := Hid.mkI tI
  clear tR tI hb hb1 hb2 hL
  go_enter Tryz.func13, Tryz.ntmps13
  go_wp2_with fail
  refine t.mono ?_
  clear t
  rintro e w1 ⟨hB1, p, cp, rfl, hN⟩
  have tR := HTR.out w1 p cp hN.out
  go_wp2_with fail
  refine tR.mono ?_
  clear tR
  rintro e w2 ⟨g, cg, rfl, hL2, hx2⟩
  have hB2 := hB1.trans (hx2.mono hB1.size)
  have tI := HTI.out w2 g cg hL2.out
  go_wp2_with fail
  refine tI.mono ?_
  clear tI
  rintro e w3 ⟨rfl, k, rfl⟩
  go_wp2_with fail
  go_ret
  exact ⟨rfl, below_drawn (hB2.alloc hB2.size _) k⟩
end Go.Proofs.YtahdbhehaoeemaaGreatDoor
