/- A region that draws, inside a round over a function: what only reads may be taken in the text's own order. -/
import Derived.StillTailTactics
import Derived.OrdersIn
import Derived.RangeFuncCalls
import Derived.WalkKit
import Derived.Test.YtioimgeeamchaaaDoorGen
namespace Go.Proofs.YtioimgeeamchaaaDoor
open Go.RowKit

section
variable {l n : Nat} {P : Program} {md : Region.Mode} {ops : Array Oper} {Q : Exit → Act → World → Prop}
/-- An operation outside a round does the same inside one, if it defers nothing. -/
theorem oper_round {o : Oper} {a : Act} {w : World} {K : Act → World → Prop} (hd : ∀ c, o.op ≠ .defer c) (h : o.wp P a w K Q) : o.wpIn (Fence.wide.inRound l) n P a w K Q := by
  refine ⟨fun _ _ => trivial, ?_⟩
  rw [Oper.semAt_eq _ _ _ hd]
  unfold Oper.wp at h
  generalize (execOp a.eval o).run P w = r at h
  have hdep : ((Fence.wide.inRound l).depth.isSome = true → 1 ≤ n) := fun q => by simp [Fence.wide] at q
  cases r with
  | ok x w' =>
    cases x with
    | enter f args => exact ⟨hdep, (callsIn_wide.2 h).inRound l⟩
    | row r args => exact ⟨hdep, fun c cs _ => (h c cs).elim fun v q => q.elim fun w'' q => ⟨v, w'', q.1, stepsIn_wide.2 q.2⟩⟩
    | round => exact absurd h (by simp [Oper.upon])
    | _ => exact h
  | halt x w' => cases x <;> exact h
theorem any_round (hd : ∀ (i : Nat) (o : Oper), ops[i]? = some o → ∀ c, o.op ≠ .defer c) (hQ : ¬ LetsOut Q) : ∀ (fuel : Nat) (listed : Array Bool) (a : Act) (w : World), wpAny P md ops Q fuel listed a w → wpAnyIn (Fence.wide.inRound l) n P md ops Q fuel listed a w
  | 0, _, _, _, h => h
  | fuel + 1, listed, a, w, h => ⟨h.1, fun i hi => by
      refine wpOpIn_mono (fun a w => any_round hd hQ fuel _ a w) ?_
      have hi := h.2 i hi
      unfold wpOp at hi
      unfold wpOpIn
      cases ho : ops[i]? with
      | none => simpa only [ho] using hi
      | some o =>
        simp only [ho] at hi ⊢
        split
        · rename_i hw
          rw [if_pos hw] at hi
          exact hi.elim (oper_round (hd i o ho)) fun q => absurd q.2 hQ
        · rename_i hw
          rw [if_neg hw] at hi
          exact ⟨fun _ _ => trivial, hi⟩⟩
/-- No operation of a list defers. -/
def noDefer (L : List Oper) : Bool := L.all fun o => match o.op with | .defer _ => false | _ => true
theorem noDefer_spec {L : List Oper} (h : noDefer L = true) : ∀ (i : Nat) (o : Oper), L.toArray[i]? = some o → ∀ c, o.op ≠ .defer c := fun i o ho c e => by
  have hm : o ∈ L := by simpa using Array.mem_of_getElem? ho
  have := List.all_eq_true.1 h o hm
  rw [e] at this
  cases this
theorem round_still_tail {id : Nat} {a : Act} {w : World} {L : List Oper} (k : Nat) (hm : P.follows .mixedOrders = true) (hB : Region.lexTailB .any L.toArray k = true) (hd : noDefer L = true) (hQ : ¬ LetsOut Q)
    (h : wpStill P L.toArray w.drew (fun a' => wpList P L.toArray Q (L.drop k) a' w.drew) (L.take k) a) : (Code.region id L.toArray true).wpIn (Fence.wide.inRound l) n P Q a w := by
  refine wpIn_region_any hm (any_round (noDefer_spec hd) hQ _ _ _ _ ?_)
  simp only [Region.lexTailB, Bool.and_eq_true, decide_eq_true_eq] at hB
  obtain ⟨⟨⟨⟨h1, h2⟩, h3⟩, h4⟩, h5⟩ := hB
  have hk : k < L.length := by simpa using h2
  have e1 : (L.take k).length = k := by simp; omega
  have e2 : (L.drop k).length = L.toArray.size - k := by simp
  have inv : HeadInv .any L.toArray k (Array.replicate L.toArray.size false) := by
    refine ⟨by simp, fun j oj _ q => ?_, fun t _ q => getD_in (by simpa using q) (getD_replicate_false _ _)⟩
    rw [getD_replicate_false] at q
    cases q
  have head := wpAnyL_lex (md := .any) (g := L.toArray.size - k) h1 h3 h4 h2 (L.take k) 0 _ a (fun j hj => by rw [e1] at hj; simp [hj]) (by simpa using e1) inv (by rw [e1]; exact h5) h
  have all := wpAny_of_head (Q' := Q) (g := L.toArray.size - k) (fun listed a' q => by
    have t := wpAny_of_seq (md := .any) (Q' := Q) (L.drop k) k listed a' w.drew (fun j => by simp [List.getElem?_drop]) (by rw [e2]; exact q.1) q.2
    rwa [e2] at t) _ _ _ head
  rw [e1, Nat.add_sub_cancel' (by simp; omega)] at all
  exact all
end
end Go.Proofs.YtioimgeeamchaaaDoor
