/- The walk of the law RelWay. -/
import Derived.WalkKit
import Derived.LoopTactic
import Derived.Deep.QuietTactic
import Derived.BigQuiet
import Derived.Test.YtfdappdcihljdaaDoorWay
import Derived.Test.YtfdappdcihljdaaDoorAs
namespace Go.Proofs.YtfdappdcihljdaaDoor
open Go.RowKit

set_option maxRecDepth 100000 in
theorem ways_wrong (a : Option Addr) (m cap : Nat) (x y k c : Int) (w : World)
    (hfact : Calls Tryd.prog 20 #[] w fun e w' => e = .returned (.bool true) ∧ Below w.heap.size w w')
    (hcl : ∀ w1, Below w.heap.size w w1 → Calls Tryd.prog 15 #[.slice a m cap] w1 fun e w' => e = .returned (.tuple #[.slice none 0 0, .iface 45 (.int .i64 c)]) ∧ w' = w1)
    (hwy : ∀ w1, Below w.heap.size w w1 → Calls Tryd.prog 19 #[.slice a m cap, .int .i64 x, .int .i64 y] w1 fun e w' => e = .returned (.tuple #[.slice none 0 0, .iface 45 (.int .i64 c)]) ∧ w' = w1) :
    Calls Tryd.prog 6 #[.slice a m cap, .int .i64 x, .int .i64 y, .int .i64 k] w fun e w' => e = .returned (.bool true) ∧ Below w.heap.size w w' := by
  go_enter Tryd.func6, Tryd.ntmps6
  go_wp2_with (first | (go_at_call 20; refine hfact.mono ?_; rintro e w1 ⟨rfl, hB⟩; have hcl1 := hcl w1 hB; have hwy1 := hwy w1 hB; clear hcl hwy) | (go_at_call 15; refine hcl1.mono ?_; rintro e w' ⟨rfl, rfl⟩) | (go_at_call 19; refine hwy1.mono ?_; rintro e w' ⟨rfl, rfl⟩))
  go_ret
  exact ⟨rfl, hB⟩

/-- Where a number is no thing. -/
def Out (m : Nat) (x y : Int) : Prop := x < 0 ∨ (0 ≤ x ∧ (m : Int) ≤ x) ∨ (0 ≤ x ∧ x < m ∧ y < 0) ∨ (0 ≤ x ∧ x < m ∧ 0 ≤ y ∧ (m : Int) ≤ y)

set_option maxRecDepth 100000 in
set_option maxHeartbeats 1000000 in
theorem ways_out (a : Option Addr) (m cap : Nat) (x y k : Int) (w : World) (_hm : m ≤ 12) (hout : Out m x y)
    (hfact : Calls Tryd.prog 20 #[] w fun e w' => e = .returned (.bool true) ∧ Below w.heap.size w w')
    (hcl : ∀ w1, Below w.heap.size w w1 → Calls Tryd.prog 15 #[.slice a m cap] w1 fun e w' => ∃ v, e = .returned (.tuple #[v, .nilIface]) ∧ Below w1.heap.size w1 w')
    (hwy : ∀ w1, Below w.heap.size w w1 → Calls Tryd.prog 19 #[.slice a m cap, .int .i64 x, .int .i64 y] w1 fun e w' => e = .returned (.tuple #[.slice none 0 0, .iface 45 (.int .i64 1)]) ∧ w' = w1) :
    Calls Tryd.prog 6 #[.slice a m cap, .int .i64 x, .int .i64 y, .int .i64 k] w fun e w' => e = .returned (.bool true) ∧ Below w.heap.size w w' := by
  rcases hout with h | ⟨h, h'⟩ | ⟨h, h', h2⟩ | ⟨h, h', h2, h2'⟩
  all_goals
    go_enter Tryd.func6, Tryd.ntmps6
    go_wp2_with (first | (go_at_call 20; refine hfact.mono ?_; rintro e w1 ⟨rfl, hB⟩; have hcl1 := hcl w1 hB; clear hcl) | (go_at_call 15; refine hcl1.mono ?_; rintro e w2 ⟨v, rfl, hB2⟩; have hBb := hB.trans (hB2.mono hB.size); have hwy1 := hwy w2 hBb; clear hwy) | (go_at_call 19; refine hwy1.mono ?_; rintro e w' ⟨rfl, rfl⟩))
    go_ret
    exact ⟨rfl, hBb⟩

set_option maxRecDepth 100000 in
set_option maxHeartbeats 1000000 in
theorem ways_none (a : Option Addr) (m cap i j : Nat) (k : Int) (w : World) (C : Nat → Nat) (hm : m ≤ 12) (hi : i < m) (hj : j < m) (hC : C i < 4096) (hb : (C i).testBit j = false) (hE : ErrT w)
    (hfact : Calls Tryd.prog 20 #[] w fun e w' => e = .returned (.bool true) ∧ Below w.heap.size w w')
    (hcl : ∀ w1, Below w.heap.size w w1 → Calls Tryd.prog 15 #[.slice a m cap] w1 fun e w' => e = .returned (.tuple #[.slice (some ⟨w1.heap.size, 0, none⟩) m m, .nilIface]) ∧ Own w' w1.heap.size m C ∧ Below w1.heap.size w1 w')
    (hwy : ∀ w1, Below w.heap.size w w1 → Calls Tryd.prog 19 #[.slice a m cap, .int .i64 i, .int .i64 j] w1 fun e w' => e = .returned (.tuple #[.slice none 0 0, .iface 45 (.int .i64 5)]) ∧ Below w1.heap.size w1 w') :
    Calls Tryd.prog 6 #[.slice a m cap, .int .i64 i, .int .i64 j, .int .i64 k] w fun e w' => e = .returned (.bool true) ∧ Below w.heap.size w w' := by
  have t1 := bit_false (C i) j hC (by omega) hb
  have hii : (i : Int) < (m : Int) := by omega
  have hjj : (j : Int) < (m : Int) := by omega
  have h0 : 0 < w.heap.size := old_of_cell hE
  clear hb
  go_enter Tryd.func6, Tryd.ntmps6
  go_wp2_with (first | (go_at_call 20; refine hfact.mono ?_; rintro e w1 ⟨rfl, hB⟩; have hcl1 := hcl w1 hB; clear hcl) | (go_at_call 15; refine hcl1.mono ?_; rintro e w2 ⟨rfl, ho, hB2⟩; have hBb := hB.trans (hB2.mono hB.size); have hwy1 := hwy w2 hBb; clear hwy) | (go_at_call 19; refine hwy1.mono ?_; rintro e w3 ⟨rfl, hB3⟩))
  have hBc := hBb.trans (hB3.mono hBb.size)
  have e1 := (ho.below hB3).cell i hi
  have hE3 : ErrT w3 := hE.below hBc h0
  clear hE
  go_quiet ((first | (go_at_call 21; exact Calls.quiet_of_same (t1 _))))
  have hn4 := error_err 5 5 (w3.drewN nq) hE3
  go_wp2_with (go_at_call 9; refine hn4.mono ?_; rintro e w4 ⟨rfl, hB4⟩)
  go_ret
  exact ⟨rfl, (below_drawn hBc nq).trans (hB4.mono hBc.size)⟩
end Go.Proofs.YtfdappdcihljdaaDoor
