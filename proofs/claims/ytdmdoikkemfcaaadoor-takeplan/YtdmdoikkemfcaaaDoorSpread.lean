/- What a spread and a closure of package rel return. -/
import Derived.WalkKit
import Derived.LoopTactic
import Derived.Laws.MakeOwn
import Derived.Test.YtdmdoikkemfcaaaDoorStep
namespace Go.Proofs.YtdmdoikkemfcaaaDoor
open Go.RowKit Go.Shelf

/-- A step over rows of any numbers. -/
theorem step_all (m : Nat) (hm : m ≤ 20) (a : Option Addr) (cap set : Nat) (rows : List Nat) (hr : ∀ i, rows.getD i 0 < 1048576) (hs : set < 2 ^ m) (w : World) (hl : At w a m rows) (hT : Tab w) :
    Calls Tryd.prog 43 #[.slice a m cap, .int .i64 set] w fun e w' => e = .returned (.int .i64 (stepN m rows set : Nat)) ∧ Below w.heap.size w w' :=
  (callsIn_wide (n := 3)).1 (step_in 3 m (by omega) hm a cap set rows hr hs w hl hT)
theorem step_any (m b off cap set : Nat) (rows : List Nat) (hr : Right m rows) (hs : set < 2 ^ m) (w : World) (hl : Lies w b off m rows) (hT : Tab w) :
    Calls Tryd.prog 43 #[.slice (some ⟨b, off, none⟩) m cap, .int .i64 set] w fun e w' => e = .returned (.int .i64 (stepN m rows set : Nat)) ∧ Below w.heap.size w w' :=
  step_all m hr.1 _ cap set rows hr.lt12 hs w (.inr ⟨b, off, rfl, hl⟩) hT

theorem pow_wrap {a : Nat} (h : a ≤ 20) : wrap64 ((2 : Int) ^ a) = ((2 ^ a : Nat) : Int) := by
  have h1 : 2 ^ a ≤ 1048576 := pow12 h
  have h2 : (2 : Int) ^ a = ((2 ^ a : Nat) : Int) := by simp
  rw [h2]
  obtain ⟨p, hp⟩ : ∃ p, 2 ^ a = p := ⟨_, rfl⟩
  rw [hp] at h1 ⊢
  exact IntWalk.wrap64_in _ ⟨by omega, by omega⟩

end Go.Proofs.YtdmdoikkemfcaaaDoor
