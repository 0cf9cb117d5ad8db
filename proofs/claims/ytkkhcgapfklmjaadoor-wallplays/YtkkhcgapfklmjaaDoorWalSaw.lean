/- Whether a user saw another firm that is as is asked (isClosed, read$1, sawAnother). -/
import Derived.RangeFuncNested
import Derived.RangeFuncBound
import Derived.RangeFuncCalls
import Derived.RangeFuncLeaves
import Derived.RangeFuncFrom
import Derived.Shelf.Abstract
import Derived.Shelf.RegionOpen
import Derived.WalkKit
import Derived.OwnWalkIn
import Derived.TacticsInMore
import Derived.LoopNIn
import Derived.LoopIn
import Derived.LoopTactic
import Derived.Deep.QuietTactic
import Derived.BigQuiet
import Derived.Test.YtkkhcgapfklmjaaDoorWalMon
namespace Go.Proofs.YtkkhcgapfklmjaaDoor
open Go.RowKit Go.Shelf
attribute [local go_sem] Oper.semAt_some
set_option maxRecDepth 100000

theorem pow_wrapJ {a : Nat} (h : a ≤ 12) : IntKind.i64.wrap ((2 : Int) ^ a) = ((2 ^ a : Nat) : Int) := by
  have h1 : 2 ^ a ≤ 4096 := pow12 h
  have h2 : (2 : Int) ^ a = ((2 ^ a : Nat) : Int) := by simp
  rw [h2]
  obtain ⟨p, hp⟩ : ∃ p, 2 ^ a = p := ⟨_, rfl⟩
  rw [hp] at h1 ⊢
  exact wraps62 _ (by omega) (by omega)
theorem then_normal {K : Act → World → Prop} {ex : Exit} {a : Act} {w : World} (h : Exit.then K (fun _ _ _ => False) ex a w) : ex = .normal ∧ K a w := by
  cases ex <;> first | exact ⟨rfl, h⟩ | exact h.elim
theorem others_of2 {W W2 : World} (h : Below W.heap.size W W2) : KeepsOthers W W2 := ⟨h.size, fun k _ hk _ => (h.block k (Array.getElem?_eq_some_iff.1 hk).1).trans hk⟩
section
variable {n0 n1 B gu gf cu cf : Nat} {au af : Option Addr} {W : World} {s : WallSt}
theorem waClosed_any (h : WMon n0 n1 B au af gu gf cu cf W s) (q : Nat) (hq : q < s.nf) :
    Calls Tryd.prog 28 #[.pointer (some ⟨B, 0, none⟩), .int .i64 (q : Int)] W fun e w' => e = .returned (.bool (isClosed s q)) ∧ w' = W := by
  obtain ⟨rfl, _, _⟩ := h.hf (by omega)
  have c1 := h.c1
  have f0 := h.f0 q hq
  have hqi : (q : Int) < (s.nf : Int) := by omega
  have hb : isClosed s q = ((s.tr q : Int) != 0) := by
    unfold isClosed
    rw [Bool.eq_iff_iff, bne_iff_ne, bne_iff_ne]
    omega
  rw [hb]
  obtain ⟨x, hx⟩ : ∃ x, s.tr q = x := ⟨_, rfl⟩
  obtain ⟨k, hk⟩ : ∃ x, s.nf = x := ⟨_, rfl⟩
  rw [hx] at f0 ⊢
  rw [hk] at c1 hqi
  clear hb hx hk h hq
  go_enter Tryd.func28, Tryd.ntmps28
  go_wp2
  go_ret
  exact ⟨rfl, rfl⟩
/-- What lies in the places that the function of all firms captured. -/
structure WCaught (W : World) (p r B t : Nat) : Prop where
  m : W.cell? ⟨p, 0, none⟩ = some (.pointer (some ⟨B, 0, none⟩))
  c : W.cell? ⟨r, 0, none⟩ = some (.int .i64 (t : Int))
theorem WCaught.below {W W' : World} {p r B t : Nat} (h : WCaught W p r B t) (b : Below W.heap.size W W') : WCaught W' p r B t := ⟨keep_cell b h.m, keep_cell b h.c⟩
set_option maxHeartbeats 1000000 in
theorem waRead1_any (h : WMon n0 n1 B au af gu gf cu cf W s) (p r f : Nat) (hc : WCaught W p r B (s.tr f)) (q : Nat) (hq : q < s.nf) :
    Calls Tryd.prog 27 #[.int .i64 (q : Int), .pointer (some ⟨p, 0, none⟩), .pointer (some ⟨r, 0, none⟩)] W fun e w' => e = .returned (.bool (isRival s f q)) ∧ Below W.heap.size W w' := by
  obtain ⟨rfl, _, _⟩ := h.hf (by omega)
  obtain ⟨m1, m2⟩ := hc
  have c1 := h.c1
  have f0 := h.f0 q hq
  have hqi : (q : Int) < (s.nf : Int) := by omega
  have hb : isRival s f q = (isClosed s q && ((s.tr q : Int) == (s.tr f : Int))) := by
    have e : ((s.tr q : Int) == (s.tr f : Int)) = (s.tr q == s.tr f) := by
      rw [Bool.eq_iff_iff, beq_iff_eq, beq_iff_eq]
      omega
    unfold isRival isClosed
    rw [e]
  rw [hb]
  have t := fun nn => waClosed_any (h.drawn nn) q hq
  obtain ⟨b, hbe⟩ : ∃ b, isClosed s q = b := ⟨_, rfl⟩
  simp only [hbe] at t
  rw [hbe]
  obtain ⟨x, hx⟩ : ∃ x, s.tr q = x := ⟨_, rfl⟩
  obtain ⟨y, hy⟩ : ∃ x, s.tr f = x := ⟨_, rfl⟩
  obtain ⟨k, hk⟩ : ∃ x, s.nf = x := ⟨_, rfl⟩
  rw [hx] at f0 ⊢
  rw [hy] at m2 ⊢
  rw [hk] at c1 hqi
  clear hb hbe hx hy hk h hq
  cases b with
  | false =>
    go_enter Tryd.func27, Tryd.ntmps27
    go_wp2
    go_quiet ((go_at_call 28; exact Calls.quiet_of_same (t _)))
    go_wp2
    go_ret
    exact ⟨rfl, below_drawn (Below.refl _ _) _⟩
  | true =>
    go_enter Tryd.func27, Tryd.ntmps27
    go_wp2
    go_quiet ((go_at_call 28; exact Calls.quiet_of_same (t _)))
    go_wp2
    go_ret
    exact ⟨by simp, below_drawn (Below.refl _ _) _⟩
end
end Go.Proofs.YtkkhcgapfklmjaaDoor
