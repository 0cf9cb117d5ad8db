/- Whether lists of grants are the same (Givens), and lists of numbers (Ints), where they are; and the closed fact (grantFact). -/
import Derived.WalkKit
import Derived.LoopTactic
import Derived.Deep.QuietTactic
import Derived.BigQuiet
import Derived.Test.YtoecomgiggalkaaDoorGraC
namespace Go.Proofs.YtoecomgiggalkaaDoor
open Go.RowKit
set_option maxRecDepth 100000

theorem gints_same (v1 v2 : Value) (n : Nat) (hn : n < 2 ^ 62) (f : Nat → Int) (w : World) (h1 : Lst w v1 n f) (h2 : Lst w v2 n f) :
    Calls Tryd.prog 14 #[v1, v2] w fun e w' => e = .returned (.bool true) ∧ ∃ k, w' = w.drewN k := by
  obtain ⟨a1, c1, rfl, h1⟩ := h1
  obtain ⟨a2, c2, rfl, h2⟩ := h2
  have h1 : ∀ i, i < n → ∃ b off, a1 = some ⟨b, off, none⟩ ∧ w.cell? ⟨b, off + i, none⟩ = some (.int .i64 (f i)) := fun i hi => by
    rcases h1 with h | ⟨b, off, e, _, hc⟩
    · omega
    · exact ⟨b, off, e, hc i hi⟩
  have h2 : ∀ i, i < n → ∃ b off, a2 = some ⟨b, off, none⟩ ∧ w.cell? ⟨b, off + i, none⟩ = some (.int .i64 (f i)) := fun i hi => by
    rcases h2 with h | ⟨b, off, e, _, hc⟩
    · omega
    · exact ⟨b, off, e, hc i hi⟩
  go_enter Tryd.func14, Tryd.ntmps14
  go_wp2
  go_loopw [5] (fun p wr => ∃ (k q : Nat), k ≤ n ∧ p = .int .i64 k ∧ w.drewN q = wr) (fun p _ => n - (intOf p).toNat)
  case atStart => exact ⟨0, 0, by omega, rfl, rfl⟩
  case round =>
    obtain ⟨k, q, hk, rfl, hwr⟩ := hrel
    by_cases hlt : k < n
    · obtain ⟨b1, o1, rfl, e1⟩ := h1 k hlt
      obtain ⟨b2, o2, rfl, e2⟩ := h2 k hlt
      have e1 : wr.cell? ⟨b1, o1 + k, none⟩ = some (.int .i64 (f k)) := by rw [← hwr]; exact e1
      have e2 : wr.cell? ⟨b2, o2 + k, none⟩ = some (.int .i64 (f k)) := by rw [← hwr]; exact e2
      have HW := Hid.mkI hwr
      clear hwr
      go_wp2
      go_quiet (fail)
      go_wp2
      go_roundw
      case rel => exact ⟨k + 1, q + nq, by omega, by go_num, by rw [← HW.out, World.drewN_drewN]⟩
      case measure => simp [intOf]; omega
    · have HW := Hid.mkI hwr
      clear hwr
      go_wp2
      go_ret
      exact ⟨rfl, q, HW.out.symm⟩
theorem ggivs_same (v1 v2 : Value) (l : List Giv) (hl : l.length < 2 ^ 30) (w : World) (h1 : GivV w v1 l) (h2 : GivV w v2 l) :
    Calls Tryd.prog 17 #[v1, v2] w fun e w' => e = .returned (.bool true) ∧ ∃ k, w' = w.drewN k := by
  obtain ⟨a1, c1, rfl, h1⟩ := h1
  obtain ⟨a2, c2, rfl, h2⟩ := h2
  obtain ⟨n, hn⟩ : ∃ n, l.length = n := ⟨_, rfl⟩
  rw [hn] at h1 h2 hl ⊢
  clear hn
  go_enter Tryd.func17, Tryd.ntmps17
  go_wp2
  go_loopw [5] (fun p wr => ∃ (k q : Nat), k ≤ n ∧ p = .int .i64 k ∧ w.drewN q = wr) (fun p _ => n - (intOf p).toNat)
  case atStart => exact ⟨0, 0, by omega, rfl, rfl⟩
  case round =>
    obtain ⟨k, q, hk, rfl, hwr⟩ := hrel
    by_cases hlt : k < n
    · obtain ⟨b1, o1, rfl, g1⟩ : ∃ b off, a1 = some ⟨b, off, none⟩ ∧ Givs w b off n (nthV l) := by
        rcases h1 with h0 | h
        · omega
        · exact h
      obtain ⟨b2, o2, rfl, g2⟩ : ∃ b off, a2 = some ⟨b, off, none⟩ ∧ Givs w b off n (nthV l) := by
        rcases h2 with h0 | h
        · omega
        · exact h
      have x0 : wr.cell? ⟨b1, o1 + k * 3, none⟩ = some (.int .i64 (nthV l k).fr) := by rw [← hwr]; exact g1.c0 k hlt
      have x1 : wr.cell? ⟨b1, o1 + k * 3 + 1, none⟩ = some (.int .i64 (nthV l k).to) := by rw [← hwr]; exact g1.c1 k hlt
      have x2 : wr.cell? ⟨b1, o1 + k * 3 + 2, none⟩ = some (.int .i64 (nthV l k).tm) := by rw [← hwr]; exact g1.c2 k hlt
      have y0 : wr.cell? ⟨b2, o2 + k * 3, none⟩ = some (.int .i64 (nthV l k).fr) := by rw [← hwr]; exact g2.c0 k hlt
      have y1 : wr.cell? ⟨b2, o2 + k * 3 + 1, none⟩ = some (.int .i64 (nthV l k).to) := by rw [← hwr]; exact g2.c1 k hlt
      have y2 : wr.cell? ⟨b2, o2 + k * 3 + 2, none⟩ = some (.int .i64 (nthV l k).tm) := by rw [← hwr]; exact g2.c2 k hlt
      have HW := Hid.mkI hwr
      have HG := Hid.mkI (And.intro g1 g2)
      clear hwr g1 g2 h1 h2
      obtain ⟨g, hg⟩ : ∃ g, nthV l k = g := ⟨_, rfl⟩
      rw [hg] at x0 x1 x2 y0 y1 y2
      clear hg
      obtain ⟨fr, to, tm⟩ := g
      simp only at x0 x1 x2 y0 y1 y2
      go_wp2
      go_quiet (fail)
      go_wp2
      go_roundw
      case rel => exact ⟨k + 1, q + nq, by omega, by go_num, by rw [← HW.out, World.drewN_drewN]⟩
      case measure => simp [intOf]; omega
    · have HW := Hid.mkI hwr
      clear hwr
      go_wp2
      go_ret
      exact ⟨rfl, q, HW.out.symm⟩
end Go.Proofs.YtoecomgiggalkaaDoor
