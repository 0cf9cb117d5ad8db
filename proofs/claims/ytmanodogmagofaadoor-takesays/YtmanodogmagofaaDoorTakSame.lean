/- Whether lists of lists are the same (Rows, Ints), where they are. -/
import Derived.WalkKit
import Derived.LoopTactic
import Derived.Deep.QuietTactic
import Derived.BigQuiet
import Derived.Test.YtmanodogmagofaaDoorTakG
namespace Go.Proofs.YtmanodogmagofaaDoor
open Go.RowKit
set_option maxRecDepth 100000

theorem tints_same (v1 v2 : Value) (n : Nat) (hn : n < 2 ^ 62) (f : Nat → Int) (w : World) (h1 : Lst w v1 n f) (h2 : Lst w v2 n f) :
    Calls Tryd.prog 28 #[v1, v2] w fun e w' => e = .returned (.bool true) ∧ ∃ k, w' = w.drewN k := by
  obtain ⟨a1, c1, rfl, h1⟩ := h1
  obtain ⟨a2, c2, rfl, h2⟩ := h2
  have h1 : ∀ i, i < n → ∃ b off, a1 = some ⟨b, off, none⟩ ∧ w.cell? ⟨b, off + i, none⟩ = some (.int .i64 (f i)) := fun i hi => by
    rcases h1 with h | ⟨b, off, e, _, hc⟩
    · omega
    · exact ⟨b, off, e, hc i hi⟩
  have h2 : ∀ i, i < n → ∃ b off, a2 = some ⟨b, off, none⟩ ∧ w.cell? ⟨b, off + i, none⟩ = some (.int .i64 (f i)) := fun i hi => by
    rcases h2 with h | ⟨b, off, e, _, hc⟩
    · omega
    · exact ⟨b, off, e, hc i hi⟩
  go_enter Tryd.func28, Tryd.ntmps28
  go_wp2
  go_loopw [5] (fun p wr => ∃ (k q : Nat), k ≤ n ∧ p = .int .i64 k ∧ w.drewN q = wr) (fun p _ => n - (intOf p).toNat)
  case atStart => exact ⟨0, 0, by omega, rfl, rfl⟩
  case round =>
    obtain ⟨k, q, hk, rfl, hwr⟩ := hrel
    by_cases hlt : k < n
    · obtain ⟨b1, o1, rfl, e1⟩ := h1 k hlt
      obtain ⟨b2, o2, rfl, e2⟩ := h2 k hlt
      have e1 : wr.cell? ⟨b1, o1 + k, none⟩ = some (.int .i64 (f k)) := by rw [← hwr]; exact e1
      have e2 : wr.cell? ⟨b2, o2 + k, none⟩ = some (.int .i64 (f k)) := by rw [← hwr]; exact e2
      have HW := Hid.mkI hwr
      clear hwr
      go_wp2
      go_quiet (fail)
      go_wp2
      go_roundw
      case rel => exact ⟨k + 1, q + nq, by omega, by go_num, by rw [← HW.out, World.drewN_drewN]⟩
      case measure => simp [intOf]; omega
    · have HW := Hid.mkI hwr
      clear hwr
      go_wp2
      go_ret
      exact ⟨rfl, q, HW.out.symm⟩
theorem trows_same (v1 v2 : Value) (g : Gr) (hn : g.n < 2 ^ 62) (w : World) (h1 : GrV w v1 g) (h2 : GrV w v2 g) :
    Calls Tryd.prog 13 #[v1, v2] w fun e w' => e = .returned (.bool true) ∧ ∃ k, w' = w.drewN k := by
  obtain ⟨a1, c1, rfl, k1⟩ := h1.open
  obtain ⟨a2, c2, rfl, k2⟩ := h2.open
  clear h1 h2
  go_enter Tryd.func13, Tryd.ntmps13
  go_wp2
  go_loopw [5] (fun p wr => ∃ (k q : Nat), k ≤ g.n ∧ p = .int .i64 k ∧ w.drewN q = wr) (fun p _ => g.n - (intOf p).toNat)
  case atStart => exact ⟨0, 0, by omega, rfl, rfl⟩
  case round =>
    obtain ⟨k, q, hk, rfl, hwr⟩ := hrel
    by_cases hlt : k < g.n
    · obtain ⟨b1, o1, B1, O1, C1, rfl, g1⟩ := k1 (by omega)
      obtain ⟨b2, o2, B2, O2, C2, rfl, g2⟩ := k2 (by omega)
      have g1 := g1.drawn q
      have g2 := g2.drawn q
      rw [hwr] at g1 g2
      have e1 := g1.top k hlt
      have e2 := g2.top k hlt
      have t := fun q => tints_same _ _ g.n hn (fun j => (g.M k j : Int)) (wr.drewN q) (((g1.drawn q).grd).lst hlt) (((g2.drawn q).grd).lst hlt)
      have HW := Hid.mkI hwr
      clear hwr g1 g2
      go_wp2
      go_quiet ((go_at_call 28; exact Calls.quiet_of (t _)))
      go_wp2
      go_roundw
      case rel => exact ⟨k + 1, q + nq, by omega, by go_num, by rw [← HW.out, World.drewN_drewN]⟩
      case measure => simp [intOf]; omega
    · have HW := Hid.mkI hwr
      clear hwr
      go_wp2
      go_ret
      exact ⟨rfl, q, HW.out.symm⟩
end Go.Proofs.YtmanodogmagofaaDoor
