/- What is read has just the text that was read. -/
import Derived.WalkKit
import Derived.LoopTactic
import Derived.OwnWalk
import Derived.Laws.Strings
import Derived.Laws.Strings2
import Derived.KernelRfl
import Derived.Test.YtdmdoikkemfcaabDoorPrwD
import Derived.Test.YtdmdoikkemfcaabDoorProO
namespace Go.Proofs.YtdmdoikkemfcaabDoor
open Go.RowKit
set_option maxRecDepth 100000
set_option linter.unusedVariables false

theorem fact_red : redP [97, 61, 43, 98, 35, 50, 59] = .ok [⟨1, 1, 0, 0, 0⟩, ⟨0, 2, 0, 0, 0⟩, ⟨2, 0, 0, 1, 0⟩, ⟨6, 0, 2, 0, 0⟩] := by kernel_rfl
theorem LibT.call {w w' : World} (h : LibT w.heap.size w) (k : Below w.heap.size w w') : LibT w'.heap.size w' := (h.on k).up k.size
theorem progFact_any (w : World) (hL : LibT w.heap.size w) :
    Calls Tryd.prog 9 #[] w fun e w' => e = .returned (.bool true) ∧ Below w.heap.size w w' := by
  have t := read_any ⟨#[97, 61, 43, 98, 35, 50, 59]⟩ w hL
  rw [show numsB ⟨#[97, 61, 43, 98, 35, 50, 59]⟩ = [97, 61, 43, 98, 35, 50, 59] from rfl, fact_red] at t
  have t : Calls Tryd.prog 10 #[.string ⟨#[97, 61, 43, 98, 35, 50, 59]⟩] w fun E w' => Below w.heap.size w w' ∧ ∃ g cp, E = .returned (.tuple #[.slice (some ⟨g, 0, none⟩) 4 cp, .nilIface]) ∧ w'.cell? ⟨g, 15, none⟩ = some (.int .i64 6) ∧ w'.cell? ⟨g, 10, none⟩ = some (.int .i64 2) := t.mono fun E w' ⟨b, p, cp, e, ho⟩ => by
    obtain ⟨g, c, hv⟩ := drow_someK ho (by decide)
    rw [hv] at ho
    refine ⟨b, g, c, by rw [e, hv]; rfl, ?_, ?_⟩
    · exact (ho.cellAt 15 (by decide)).trans rfl
    · exact (ho.cellAt 10 (by decide)).trans rfl
  go_enter Tryd.func9, Tryd.ntmps9
  go_wp2_with (go_at_call 10; refine t.mono ?_; clear t; rintro e w1 ⟨hB, g, cp, rfl, c3, c2⟩)
  go_ret
  exact ⟨rfl, hB⟩
theorem progAgain_any (y : ByteArray) (w : World) (hL : LibT w.heap.size w) :
    Calls Tryd.prog 4 #[.string y] w fun e w' => e = .returned (.bool true) ∧ Below w.heap.size w w' := by
  have tF := progFact_any w hL
  have tR := fun w' (k : Below w.heap.size w w') => read_any y w' (hL.call k)
  cases hr : redP (numsB y) with
  | error c =>
    rw [hr] at tR
    have tR : ∀ w', Below w.heap.size w w' → Calls Tryd.prog 10 #[.string y] w' fun E w2 => E = .returned (.tuple #[.slice none 0 0, .iface 42 (.int .i64 c)]) ∧ Below w'.heap.size w' w2 := fun w' k => (tR w' k).mono fun E w2 ⟨h1, h2⟩ => ⟨h2, h1⟩
    clear hr
    go_enter Tryd.func4, Tryd.ntmps4
    go_wp2_with (first | (go_at_call 9; (with_reducible refine tF.mono ?_); clear tF; rintro e w1 ⟨rfl, hB1⟩) | (go_at_call 10; (with_reducible refine (tR _ hB1).mono ?_); clear tR; rintro e w2 ⟨rfl, hB2⟩; have hB3 := hB1.trans (hB2.mono hB1.size)))
    go_ret
    exact ⟨rfl, hB3⟩
  | ok o =>
    rw [hr] at tR
    obtain ⟨hs, ho0, ho80, hc, hwf, htx⟩ := again_ok (redP_ok hr)
    have tR : ∀ w', Below w.heap.size w w' → Calls Tryd.prog 10 #[.string y] w' fun E w2 => (∃ p cp, E = .returned (.tuple #[.slice p o.length cp, .nilIface]) ∧ NodV w2 (.slice p o.length cp) o) ∧ Below w'.heap.size w' w2 := fun w' k => (tR w' k).mono fun E w2 ⟨h1, p, cp, h2, h3⟩ => ⟨⟨p, cp, h2, nods_of h3⟩, h1⟩
    have tW : ∀ w' p cp, Below w.heap.size w w' → NodV w' (.slice p o.length cp) o → Calls Tryd.prog 11 #[.slice p o.length cp] w' fun E w2 => E = .returned (.tuple #[.string y, .nilIface]) ∧ Below w'.heap.size w' w2 := fun w' p cp k hn => by
      obtain ⟨a, c, e, hat⟩ := hn
      obtain ⟨rfl, rfl⟩ : p = a ∧ cp = c := by injection e; exact ⟨by assumption, by assumption⟩
      refine (write_ok o p cp w' hat hc (hL.call k)).mono fun E w2 ⟨h1, h2⟩ => ⟨?_, h1⟩
      rw [h2, hc, htx, if_neg (by simp), if_neg (by omega), strB_numsB]
    obtain ⟨n, hn⟩ : ∃ n, o.length = n := ⟨_, rfl⟩
    rw [hn] at tR tW
    clear hr hs ho0 ho80 hc hwf htx hn
    go_enter Tryd.func4, Tryd.ntmps4
    go_wp2_with (first | (go_at_call 9; (with_reducible refine tF.mono ?_); clear tF; rintro e w1 ⟨rfl, hB1⟩) | (go_at_call 10; (with_reducible refine (tR _ hB1).mono ?_); clear tR; rintro e w2 ⟨⟨p2, q2, rfl, hn2⟩, hB2⟩; have hB3 := hB1.trans (hB2.mono hB1.size)) | (go_at_call 11; (with_reducible refine (tW _ _ _ hB3 hn2).mono ?_); clear tW; rintro e w4 ⟨rfl, hB4⟩; have hB5 := hB3.trans (hB4.mono hB3.size)))
    go_ret
    exact ⟨rfl, hB5⟩
end Go.Proofs.YtdmdoikkemfcaabDoor
