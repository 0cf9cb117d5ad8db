/- What the small functions of package bell return: whether a label is below another one (below), whether a set has a thing (has), whether there is a user or a file (isUser, isFile), what is asked of all things of a set (all). -/
import Derived.RangeFuncNested
import Derived.RangeFuncBound
import Derived.RangeFuncCalls
import Derived.RangeFuncLeaves
import Derived.RangeFuncFrom
import Derived.Shelf.Abstract
import Derived.Shelf.RegionOpen
import Derived.WalkKit
import Derived.OwnWalkIn
import Derived.TacticsInMore
import Derived.LoopNIn
import Derived.LoopIn
import Derived.Test.YteheaeihoameeaaDoorLabsOpen
namespace Go.Proofs.YteheaeihoameeaaDoor
open Go.RowKit Go.Shelf
attribute [local go_sem] Oper.semAt_some
set_option maxRecDepth 100000

theorem bbelow_ok (l1 s1 l2 s2 : Nat) (a1 : l1 ≤ 7) (b1 : s1 < 256) (a2 : l2 ≤ 7) (b2 : s2 < 256) (w : World) :
    Calls Tryd.prog 51 #[lab l1 s1, lab l2 s2] w fun e w' => e = .returned (.bool (belB l1 s1 l2 s2)) ∧ Below w.heap.size w w' := by
  have t := fun W => labBelow_ok l1 s1 l2 s2 a1 b1 a2 b2 W
  obtain ⟨b, hb⟩ : ∃ b, belB l1 s1 l2 s2 = b := ⟨_, rfl⟩
  rw [hb] at t ⊢
  clear hb
  go_enter Tryd.func51, Tryd.ntmps51
  go_wp2_with (go_at_call 61; refine (t _).mono ?_; clear t; rintro e w' ⟨rfl, S1⟩; obtain ⟨c1, c2, c3, c4, hB⟩ := two_of S1; clear S1)
  go_ret
  exact ⟨rfl, hB⟩
theorem bhas_any (s i : Nat) (hs : s < 4096) (hi : i < 12) (w : World) :
    Calls Tryd.prog 54 #[.int .i64 s, .int .i64 i] w fun e w' => e = .returned (.bool (s.testBit i)) ∧ w' = w := by
  go_enter Tryd.func54, Tryd.ntmps54
  go_wp2
  go_ret
  exact ⟨ret_bool (has_fact s i hs), rfl⟩
theorem isUser_any (B : Nat) (a : Option Addr) (n cap : Nat) (i : Int) (w : World) (hc : w.cell? ⟨B, 0, none⟩ = some (.slice a n cap)) :
    Calls Tryd.prog 37 #[.pointer (some ⟨B, 0, none⟩), .int .i64 i] w fun e w' => e = .returned (.bool (inB i n)) ∧ w' = w := by
  rcases in_or i n with ⟨h0, h1⟩ | h | ⟨h0, h1⟩
  · rw [inB_yes h0 h1]
    go_enter Tryd.func37, Tryd.ntmps37
    go_wp2
    go_ret
    exact ⟨rfl, rfl⟩
  · rw [inB_no (.inl h)]
    have h0 : ¬ 0 ≤ i := by omega
    go_enter Tryd.func37, Tryd.ntmps37
    go_wp2
    go_ret
    exact ⟨rfl, rfl⟩
  · rw [inB_no (.inr h1)]
    have h2 : ¬ i < (n : Int) := by omega
    go_enter Tryd.func37, Tryd.ntmps37
    go_wp2
    go_ret
    exact ⟨by simp, rfl⟩
theorem isFile_any (B : Nat) (a : Option Addr) (n cap : Nat) (i : Int) (w : World) (hc : w.cell? ⟨B, 1, none⟩ = some (.slice a n cap)) :
    Calls Tryd.prog 38 #[.pointer (some ⟨B, 0, none⟩), .int .i64 i] w fun e w' => e = .returned (.bool (inB i n)) ∧ w' = w := by
  rcases in_or i n with ⟨h0, h1⟩ | h | ⟨h0, h1⟩
  · rw [inB_yes h0 h1]
    go_enter Tryd.func38, Tryd.ntmps38
    go_wp2
    go_ret
    exact ⟨rfl, rfl⟩
  · rw [inB_no (.inl h)]
    have h0 : ¬ 0 ≤ i := by omega
    go_enter Tryd.func38, Tryd.ntmps38
    go_wp2
    go_ret
    exact ⟨rfl, rfl⟩
  · rw [inB_no (.inr h1)]
    have h2 : ¬ i < (n : Int) := by omega
    go_enter Tryd.func38, Tryd.ntmps38
    go_wp2
    go_ret
    exact ⟨by simp, rfl⟩

/-- Are all things of a set so? -/
def allB (m set : Nat) (p : Nat → Bool) : Bool := (List.range m).all fun g => !set.testBit g || p g
theorem allB_iff (m set : Nat) (p : Nat → Bool) : allB m set p = true ↔ ∀ g, g < m → set.testBit g = true → p g = true := by
  simp only [allB, List.all_eq_true, List.mem_range, Bool.or_eq_true, Bool.not_eq_true']
  constructor
  · intro h g hg hb
    rcases h g hg with h | h
    · rw [hb] at h; cases h
    · exact h
  · intro h g hg
    cases hb : set.testBit g with
    | false => exact .inl rfl
    | true => exact .inr (h g hg hb)
end Go.Proofs.YteheaeihoameeaaDoor
