/- What a spread and a closure of package rel return. -/
import Derived.WalkKit
import Derived.LoopTactic
import Derived.Laws.MakeOwn
import Derived.Test.YtioimgeeamchaaaDoorStep
namespace Go.Proofs.YtioimgeeamchaaaDoor
open Go.RowKit Go.Shelf

/-- A step over rows of any numbers. -/
theorem step_all (m : Nat) (hm : m ≤ 12) (a : Option Addr) (cap set : Nat) (rows : List Nat) (hr : ∀ i, rows.getD i 0 < 4096) (hs : set < 2 ^ m) (w : World) (hl : At w a m rows) (hT : Tab w) :
    Calls Tryd.prog 68 #[.slice a m cap, .int .i64 set] w fun e w' => e = .returned (.int .i64 (stepN m rows set : Nat)) ∧ Below w.heap.size w w' :=
  (callsIn_wide (n := 3)).1 (step_in 3 m (by omega) hm a cap set rows hr hs w hl hT)
theorem step_any (m b off cap set : Nat) (rows : List Nat) (hr : Right m rows) (hs : set < 2 ^ m) (w : World) (hl : Lies w b off m rows) (hT : Tab w) :
    Calls Tryd.prog 68 #[.slice (some ⟨b, off, none⟩) m cap, .int .i64 set] w fun e w' => e = .returned (.int .i64 (stepN m rows set : Nat)) ∧ Below w.heap.size w w' :=
  step_all m hr.1 _ cap set rows hr.lt12 hs w (.inr ⟨b, off, rfl, hl⟩) hT

theorem pow_wrap {a : Nat} (h : a ≤ 12) : wrap64 ((2 : Int) ^ a) = ((2 ^ a : Nat) : Int) := by
  have h1 : 2 ^ a ≤ 4096 := pow12 h
  have h2 : (2 : Int) ^ a = ((2 ^ a : Nat) : Int) := by simp
  rw [h2]
  obtain ⟨p, hp⟩ : ∃ p, 2 ^ a = p := ⟨_, rfl⟩
  rw [hp] at h1 ⊢
  exact IntWalk.wrap64_in _ ⟨by omega, by omega⟩

set_option maxHeartbeats 400000 in
theorem spread_any (m b off cap a : Nat) (ha : a < m) (rows : List Nat) (hr : Right m rows) (w : World) (hl : Lies w b off m rows) (hT : Tab w) :
    Calls Tryd.prog 55 #[.slice (some ⟨b, off, none⟩) m cap, .int .i64 a] w fun e w' => e = .returned (.int .i64 (come m rows a : Nat)) ∧ Below w.heap.size w w' := by
  have hm := hr.1
  go_enter Tryd.func55, Tryd.ntmps55
  go_wp2
  go_loopw [5, 6] (fun f g wr => ∃ found fresh : Nat, f = .int .i64 found ∧ g = .int .i64 fresh ∧ Spread m rows a found fresh ∧ Below w.heap.size w wr)
    (fun f _ _ => 4096 - (intOf f).toNat)
  case atStart => exact ⟨0, 2 ^ a, rfl, by rw [pow_wrap (by omega)], Spread.begin ha, Below.refl _ _⟩
  case round =>
    obtain ⟨found, fresh, rfl, rfl, hsp, hB⟩ := hrel
    have h12 := pow12 hm
    have l1 := hsp.lf
    have l2 := hsp.lg
    by_cases h0 : fresh = 0
    · subst h0
      have he : Hid (found = come m rows a) := hsp.come hr ha
      clear l1 l2
      go_wp2
      go_ret
      exact ⟨by rw [he.out]; rfl, hB⟩
    · have hne : ((fresh : Int) != 0) = true := by simp; omega
      have l3 := (hsp.next hr).lf
      have l4 := stepN_lt hr fresh
      have hor := or_i64 found fresh (by omega) (by omega)
      have hnn := andNot_i64 (stepN m rows fresh) (found ||| fresh) (by omega) (by omega)
      have hst := step_any m b off cap fresh rows hr l2 wr (hl.below hB) (hT.below hB hT.size)
      go_wp2_with (go_at_call 68; refine hst.mono ?_; rintro e w' ⟨rfl, hB'⟩)
      go_roundw
      case rel => exact ⟨found ||| fresh, less (stepN m rows fresh) (found ||| fresh), rfl, rfl, hsp.next hr, hB.trans (hB'.mono hB.size)⟩
      case measure =>
        have := hsp.grows h0
        simp [intOf]; omega
end Go.Proofs.YtioimgeeamchaaaDoor
