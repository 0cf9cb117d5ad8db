/- What the law LatticeBounds is told; its walk where there is nothing to ask. -/
import Derived.WalkKit
import Derived.LoopTactic
import Derived.Test.YtomencagnppdcaaDoorLRules
namespace Go.Proofs.YtomencagnppdcaaDoor
open Go.RowKit

set_option maxRecDepth 100000 in
set_option maxHeartbeats 1000000 in
theorem lbounds_skip (a : Option Addr) (m cap : Nat) (x y z c : Int) (w : World)
    (hF : Calls Tryd.prog 15 #[] w fun e w' => e = .returned (.bool true) ∧ Below w.heap.size w w')
    (hC : ∀ w1, Below w.heap.size w w1 → Calls Tryd.prog 16 #[.slice a m cap] w1 fun e w' => e = .returned (.tuple #[.slice none 0 0, .iface 51 (.int .i64 c)]) ∧ Below w1.heap.size w1 w') :
    Calls Tryd.prog 4 #[.slice a m cap, .int .i64 x, .int .i64 y, .int .i64 z] w fun e w' => e = .returned (.bool true) ∧ Below w.heap.size w w' := by
  go_enter Tryd.func4, Tryd.ntmps4
  go_wp2_with (first | (go_at_call 15; refine hF.mono ?_; rintro e w1 ⟨rfl, hB⟩) | (go_at_call 16; refine (hC _ hB).mono ?_; rintro e w1 ⟨rfl, S⟩; replace hB := hB.trans (S.mono hB.size); clear S))
  go_ret
  exact ⟨rfl, hB⟩
set_option maxRecDepth 100000 in
set_option maxHeartbeats 1000000 in
theorem lbounds_out (a : Option Addr) (m cap : Nat) (x y z : Int) (hout : Out6 m x y z) (C : Nat → Nat) (w : World)
    (hF : Calls Tryd.prog 15 #[] w fun e w' => e = .returned (.bool true) ∧ Below w.heap.size w w')
    (hC : ∀ w1, Below w.heap.size w w1 → Calls Tryd.prog 16 #[.slice a m cap] w1 fun e w' => ∃ g, e = .returned (.tuple #[.slice (some ⟨g, 0, none⟩) m m, .nilIface]) ∧ Own w' g m C ∧ Below w1.heap.size w1 w') :
    Calls Tryd.prog 4 #[.slice a m cap, .int .i64 x, .int .i64 y, .int .i64 z] w fun e w' => e = .returned (.bool true) ∧ Below w.heap.size w w' := by
  rcases hout with h1 | ⟨h1, h2⟩ | ⟨h1, h2, h3⟩ | ⟨h1, h2, h3, h4⟩ | ⟨h1, h2, h3, h4, h5⟩ | ⟨h1, h2, h3, h4, h5, h6⟩
  all_goals as_aux_lemma =>
    go_enter Tryd.func4, Tryd.ntmps4
    go_wp2_with (first | (go_at_call 15; refine hF.mono ?_; rintro e w1 ⟨rfl, hB⟩) | (go_at_call 16; refine (hC _ hB).mono ?_; rintro e w1 ⟨g, rfl, ho, S⟩; replace hB := hB.trans (S.mono hB.size); clear S))
    go_ret
    exact ⟨rfl, hB⟩

/-- What the document answers of a bit. -/
def Bt (s i : Nat) (b : Bool) : Prop := ∀ W, Calls Tryd.prog 17 #[.int .i64 s, .int .i64 i] W fun e w' => e = .returned (.bool b) ∧ w' = W
theorem bt_of {m : Nat} {C : Nat → Nat} (hL : m ≤ 12 ∧ ∀ i, i < m → C i < 2 ^ m) {i k : Nat} (hi : i < m) (hk : k < m) {b : Bool} (h : (C i).testBit k = b) : Bt (C i) k b := fun W => by
  rw [← h]
  exact bit_any (C i) k (Nat.lt_of_lt_of_le (hL.2 i hi) (pow12 hL.1)) (by have := hL.1; omega) W

/-- What the law is told of the Join. -/
def JB (w : World) (a : Option Addr) (m cap i j k : Nat) (C : Nat → Nat) : Prop :=
  (∃ c : Int, ∀ w1, Below w.heap.size w w1 → Calls Tryd.prog 13 #[.slice a m cap, .int .i64 i, .int .i64 j] w1 fun e w' => e = .returned (.tuple #[.int .i64 0, .iface 51 (.int .i64 c)]) ∧ Below w1.heap.size w1 w') ∨
  ∃ n : Nat, n < m ∧ (∀ w1, Below w.heap.size w w1 → Calls Tryd.prog 13 #[.slice a m cap, .int .i64 i, .int .i64 j] w1 fun e w' => e = .returned (.tuple #[.int .i64 n, .nilIface]) ∧ Below w1.heap.size w1 w') ∧ Bt (C i) n true ∧ Bt (C j) n true ∧
    (Bt (C i) k false ∨ (Bt (C i) k true ∧ Bt (C j) k false) ∨ (Bt (C i) k true ∧ Bt (C j) k true ∧ Bt (C n) k true))
/-- What the law is told of the Meet. -/
def MB (w : World) (a : Option Addr) (m cap i j k : Nat) (C : Nat → Nat) : Prop :=
  (∃ c : Int, ∀ w1, Below w.heap.size w w1 → Calls Tryd.prog 14 #[.slice a m cap, .int .i64 i, .int .i64 j] w1 fun e w' => e = .returned (.tuple #[.int .i64 0, .iface 51 (.int .i64 c)]) ∧ Below w1.heap.size w1 w') ∨
  ∃ y : Nat, y < m ∧ (∀ w1, Below w.heap.size w w1 → Calls Tryd.prog 14 #[.slice a m cap, .int .i64 i, .int .i64 j] w1 fun e w' => e = .returned (.tuple #[.int .i64 y, .nilIface]) ∧ Below w1.heap.size w1 w') ∧ Bt (C y) i true ∧ Bt (C y) j true ∧
    (Bt (C k) i false ∨ (Bt (C k) i true ∧ Bt (C k) j false) ∨ (Bt (C k) i true ∧ Bt (C k) j true ∧ Bt (C k) y true))

end Go.Proofs.YtomencagnppdcaaDoor
