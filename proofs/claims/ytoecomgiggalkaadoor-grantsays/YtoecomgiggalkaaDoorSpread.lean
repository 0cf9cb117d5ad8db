/- What a spread and a closure of package rel return. -/
import Derived.WalkKit
import Derived.LoopTactic
import Derived.Laws.MakeOwn
import Derived.Test.YtoecomgiggalkaaDoorStep
namespace Go.Proofs.YtoecomgiggalkaaDoor
open Go.RowKit Go.Shelf

theorem pow_wrap {a : Nat} (h : a ≤ 12) : wrap64 ((2 : Int) ^ a) = ((2 ^ a : Nat) : Int) := by
  have h1 : 2 ^ a ≤ 4096 := pow12 h
  have h2 : (2 : Int) ^ a = ((2 ^ a : Nat) : Int) := by simp
  rw [h2]
  obtain ⟨p, hp⟩ : ∃ p, 2 ^ a = p := ⟨_, rfl⟩
  rw [hp] at h1 ⊢
  exact IntWalk.wrap64_in _ ⟨by omega, by omega⟩

end Go.Proofs.YtoecomgiggalkaaDoor
