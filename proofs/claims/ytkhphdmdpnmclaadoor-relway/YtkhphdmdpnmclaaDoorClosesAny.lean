/- The walk of the law RelCloses at any two lists of numbers. -/
import Derived.WalkKit
import Derived.LoopTactic
import Derived.Outline
import Derived.OpenShut
import Derived.Test.YtkhphdmdpnmclaaDoorCloses
import Derived.Test.YtkhphdmdpnmclaaDoorRowk
namespace Go.Proofs.YtkhphdmdpnmclaaDoor
open Go.RowKit

theorem come_closed {m : Nat} {rows : List Nat} (hr : Right m rows) : Closed m (fun i => rows.getD i 0) (come m rows) where
  few := hr.1
  lr := fun i _ => Nat.lt_of_lt_of_le (hr.2.2 i) (pow12 hr.1)
  lc := fun _ hi => Nat.lt_of_lt_of_le (come_lt hr hi) (pow12 hr.1)
  self := fun i hi => (come_bit hr hi i).2 (Reach.refl _ _)
  all := fun _ hi => (subB_iff _ _).2 fun j hj => (come_bit hr hi j).2 ((Reach.refl _ _).step hj)
  on := fun _ j hi hj hb => (subB_iff _ _).2 fun k hk => (come_bit hr hi k).2 (((come_bit hr hi j).1 hb).trans ((come_bit hr hj k).1 hk))

/-- No closed relation that has all of a relation has less than its closure. -/
theorem come_least {m : Nat} {rows : List Nat} (hr : Right m rows) {S : Nat → Nat} (hg : GoesOn m (fun i => rows.getD i 0) S) (i : Nat) (hi : i < m) : subB (come m rows i) (S i) = true := by
  refine (subB_iff _ _).2 fun j hj => ?_
  have hR := (come_bit hr hi j).1 hj
  have := hR (fun k => k < m ∧ (S i).testBit k = true) ⟨hi, hg.self i hi⟩ fun a b ⟨ha, hb⟩ hab =>
    ⟨bit_lt (hr.2.2 a) hab, (subB_iff _ _).1 (hg.on i a hi ha hb) b ((subB_iff _ _).1 (hg.all a ha) b hab)⟩
  exact this.2

end Go.Proofs.YtkhphdmdpnmclaaDoor
