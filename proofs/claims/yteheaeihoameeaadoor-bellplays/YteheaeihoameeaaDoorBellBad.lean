/- What is wrong ahead of a new monitor (New). -/
import Derived.WalkKit
import Derived.LoopTactic
import Derived.Test.YteheaeihoameeaaDoorBellNew
import Derived.Test.YteheaeihoameeaaDoorBellIs
namespace Go.Proofs.YteheaeihoameeaaDoor
open Go.RowKit
set_option maxRecDepth 100000

theorem new_bad1 (a1 a2 : Option Addr) (n c1 m c2 : Nat) (c : Int) (w : World) (t : Calls Tryd.prog 24 #[.slice a1 n c1, .int .i64 8] w fun e w' => e = .returned (.iface 63 (.int .i64 c)) ∧ Below w.heap.size w w') :
    Calls Tryd.prog 8 #[.slice a1 n c1, .slice a2 m c2] w fun e w' => e = .returned (.tuple #[.pointer none, .iface 63 (.int .i64 c)]) ∧ Below w.heap.size w w' := by
  go_enter Tryd.func8, Tryd.ntmps8
  go_wp2_with (go_at_call 24; refine t.mono ?_; rintro e w1 ⟨rfl, hB1⟩)
  go_ret2
  exact ⟨rfl, hB1⟩
theorem new_bad2 (a1 a2 : Option Addr) (n c1 m c2 : Nat) (c : Int) (w : World) (t1 : Calls Tryd.prog 24 #[.slice a1 n c1, .int .i64 8] w fun e w' => e = .returned .nilIface ∧ Below w.heap.size w w')
    (t2 : ∀ W, Below w.heap.size w W → Calls Tryd.prog 24 #[.slice a2 m c2, .int .i64 8] W fun e w' => e = .returned (.iface 63 (.int .i64 c)) ∧ Below W.heap.size W w') :
    Calls Tryd.prog 8 #[.slice a1 n c1, .slice a2 m c2] w fun e w' => e = .returned (.tuple #[.pointer none, .iface 63 (.int .i64 c)]) ∧ Below w.heap.size w w' := by
  go_enter Tryd.func8, Tryd.ntmps8
  go_wp2_with (first | (go_at_call 24; refine t1.mono ?_; clear t1; rintro e w1 ⟨rfl, hB1⟩; have t3 := t2 w1 hB1; clear t2) | (go_at_call 24; refine t3.mono ?_; clear t3; rintro e w2 ⟨rfl, hB2⟩))
  go_ret2
  exact ⟨rfl, hB1.trans (hB2.mono hB1.size)⟩
theorem labs_told (a : Option Addr) (n c : Nat) (z : Nat → Int × Int) (w : World) (h : AtLabs w a n z) :
    (n ≤ 8 ∧ AllLab n z ∧ ∀ W, Below w.heap.size w W → Calls Tryd.prog 24 #[.slice a n c, .int .i64 8] W fun e w' => e = .returned .nilIface ∧ Below W.heap.size W w') ∨
    ∃ x : Int, x ≠ 0 ∧ labsCode n z x ∧ ∀ W, Below w.heap.size w W → Calls Tryd.prog 24 #[.slice a n c, .int .i64 8] W fun e w' => e = .returned (.iface 63 (.int .i64 x)) ∧ Below W.heap.size W w' := by
  by_cases hn : 8 < n
  · exact .inr ⟨4, by decide, .inl ⟨rfl, hn⟩, fun W _ => (bcheck_full a n c hn W).mono fun e w' ⟨he, hw⟩ => ⟨he, hw ▸ Below.refl _ _⟩⟩
  · rcases allLab_or n z with hz | hz
    · exact .inl ⟨by omega, hz, fun W b => bcheck_ok a n c z (by omega) hz W (h.below b)⟩
    · exact .inr ⟨1, by decide, .inr (.inr ⟨rfl, by omega, hz⟩), fun W b => bcheck_no a n c z (by omega) hz W (h.below b)⟩
theorem new_is (a1 a2 : Option Addr) (n c1 m c2 : Nat) (z y : Nat → Int × Int) (w : World) (h1 : AtLabs w a1 n z) (h2 : AtLabs w a2 m y) : NewIs a1 a2 n c1 m c2 z y w := by
  rcases labs_told a1 n c1 z w h1 with ⟨hn, hz, t1⟩ | ⟨c, hc, hl, t1⟩
  · rcases labs_told a2 m c2 y w h2 with ⟨hm, hy, _⟩ | ⟨c, hc, hl, t2⟩
    · exact .inr ⟨hn, hm, hz, hy, fun W b => new_walk a1 a2 n c1 m c2 z y hn hm W (h1.below b) (h2.below b) hz hy⟩
    · exact .inl ⟨c, hc, .inr ⟨.inr (.inl ⟨rfl, hn, hz⟩), hl⟩, fun W b => new_bad2 a1 a2 n c1 m c2 c W (t1 W b) fun W' b' => t2 W' (b.trans (b'.mono b.size))⟩
  · exact .inl ⟨c, hc, .inl hl, fun W b => new_bad1 a1 a2 n c1 m c2 c W (t1 W b)⟩
end Go.Proofs.YteheaeihoameeaaDoor
