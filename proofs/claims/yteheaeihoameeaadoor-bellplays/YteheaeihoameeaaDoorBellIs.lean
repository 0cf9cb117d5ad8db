/- What the laws on monitors lean on: what a new monitor is, and what asks of it come to. -/
import Derived.WalkKit
import Derived.LoopTactic
import Derived.Test.YteheaeihoameeaaDoorBellChk
import Derived.Test.YteheaeihoameeaaDoorBellGet
import Derived.Test.YteheaeihoameeaaDoorBellPure
import Derived.Test.YteheaeihoameeaaDoorAsksOpen
import Derived.Test.YteheaeihoameeaaDoorRefBel
namespace Go.Proofs.YteheaeihoameeaaDoor
open Go.RowKit
set_option maxRecDepth 100000

/-- What a new monitor is, or what is wrong. -/
def NewIs (a1 a2 : Option Addr) (n c1 m c2 : Nat) (z y : Nat → Int × Int) (w : World) : Prop :=
  (∃ c : Int, c ≠ 0 ∧ ((labsCode n z c) ∨ (labsCode n z 0 ∧ labsCode m y c)) ∧ ∀ W, Below w.heap.size w W → Calls Tryd.prog 8 #[.slice a1 n c1, .slice a2 m c2] W fun e w' => e = .returned (.tuple #[.pointer none, .iface 63 (.int .i64 c)]) ∧ Below W.heap.size W w') ∨
  (n ≤ 8 ∧ m ≤ 8 ∧ AllLab n z ∧ AllLab m y ∧ ∀ W, Below w.heap.size w W → Calls Tryd.prog 8 #[.slice a1 n c1, .slice a2 m c2] W fun e w' => ∃ B au af gu gf cu cf, e = .returned (.tuple #[.pointer (some ⟨B, 0, none⟩), .nilIface]) ∧ Mon W.heap.size w'.heap.size B au af gu gf cu cf w' (newSt n m z y) ∧ Below W.heap.size W w')
/-- What an ask comes to, whatever was done since. -/
def AskIs (w : World) (n0 n1 B : Nat) (au af : Option Addr) (gu gf cu cf : Nat) (s : BellSt) (k u f t : Int) (v : Value) (s' : BellSt) : Prop :=
  ∀ W, Below w.heap.size w W → Mon n0 n1 B au af gu gf cu cf W s → Calls Tryd.prog 11 #[.pointer (some ⟨B, 0, none⟩), ask4 k u f t] W fun e w' => e = .returned v ∧ Mon n0 n1 B au af gu gf cu cf w' s' ∧ Below w.heap.size w w'
theorem askIs_of {w : World} {n0 n1 B gu gf cu cf : Nat} {au af : Option Addr} {s : BellSt} (hT : Tab w) (hn : w.heap.size ≤ n0) (ok : BellOk s) (k u f t : Int) : AskIs w n0 n1 B au af gu gf cu cf s k u f t (errV (askB s k u f t).1) (askB s k u f t).2 :=
  fun W b h => (ask_any h ok (hT.below b hT.size) k u f t).mono fun e w' ⟨he, hM, hB⟩ => ⟨he, hM, b.trans ((hB.below (by have := h.low; have := h.ltB; omega)).mono hn)⟩
/-- A user lets a file go. -/
def dropSt (s : BellSt) (u f : Nat) : BellSt := { s with ur := upd s.ur u (less (s.ur u) (2 ^ f)), uw := upd s.uw u (less (s.uw u) (2 ^ f)) }
def readSt (s : BellSt) (u f : Nat) : BellSt := { s with ur := upd s.ur u (s.ur u ||| 2 ^ f) }
def writeSt (s : BellSt) (u f : Nat) : BellSt := { s with uw := upd s.uw u (s.uw u ||| 2 ^ f) }
theorem in_of {s : BellSt} {k u f : Nat} (hk : k < 3) (hu : u < s.nu) (hf : f < s.nf) (t : Int) : askIn s k u f t = true := (askIn_iff _ _ _ _ _).2 (by omega)
theorem ask_dropIs {s : BellSt} {u f : Nat} (hu : u < s.nu) (hf : f < s.nf) : askB s 2 u f 0 = (0, dropSt s u f) := by
  have h := in_of (s := s) (k := 2) (by omega) hu hf 0
  rw [askB, if_pos (show askIn s 2 u f 0 = true from h)]
  rfl
theorem ask_readIs {s : BellSt} {u f : Nat} (hu : u < s.nu) (hf : f < s.nf) : askB s 0 u f 0 = if mayRead s u f then (0, readSt s u f) else (7, s) := by
  have h := in_of (s := s) (k := 0) (by omega) hu hf 0
  rw [askB, if_pos (show askIn s 0 u f 0 = true from h)]
  rfl
theorem ask_writeIs {s : BellSt} {u f : Nat} (hu : u < s.nu) (hf : f < s.nf) : askB s 1 u f 0 = if mayWrite s u f then (0, writeSt s u f) else (7, s) := by
  have h := in_of (s := s) (k := 1) (by omega) hu hf 0
  rw [askB, if_pos (show askIn s 1 u f 0 = true from h)]
  rfl
theorem allB_zero (m : Nat) (p : Nat → Bool) : allB m 0 p = true := (allB_iff _ _ _).2 fun g _ h => by simp at h
/-- What a user has let go of the first files. -/
def Gone (s : BellSt) (u k : Nat) : Prop := ∀ j, j < k → (s.ur u).testBit j = false ∧ (s.uw u).testBit j = false
theorem gone_next {s : BellSt} {u k : Nat} (h : Gone s u k) : Gone (dropSt s u k) u (k + 1) := by
  intro j hj
  simp only [dropSt, upd_same, less_bit, Nat.testBit_two_pow]
  by_cases e : j = k
  · subst e; simp
  · have := h j (by omega)
    simp [this.1, this.2]
theorem zero_of {x m : Nat} (hx : x < 2 ^ m) (h : ∀ j, j < m → x.testBit j = false) : x = 0 := by
  refine Nat.eq_of_testBit_eq fun j => ?_
  rw [Nat.zero_testBit]
  by_cases hj : j < m
  · exact h j hj
  · exact Nat.testBit_lt_two_pow (Nat.lt_of_lt_of_le hx (Nat.pow_le_pow_right (by decide) (by omega)))
theorem gone_all {s : BellSt} {u : Nat} (ok : BellOk s) (hu : u < s.nu) (h : Gone s u s.nf) : s.ur u = 0 ∧ s.uw u = 0 :=
  ⟨zero_of (ok.ur u hu) fun j hj => (h j hj).1, zero_of (ok.uw u hu) fun j hj => (h j hj).2⟩
theorem less_zero_left (x : Nat) : less 0 x = 0 := by simp [less]
theorem less_pow (f : Nat) : less (0 ||| 2 ^ f) (2 ^ f) = 0 := by simp [less]
theorem mayWrite_gone {s : BellSt} {u f : Nat} (h : s.ur u = 0) : mayWrite s u f = true := by rw [mayWrite, h]; exact allB_zero _ _
theorem mayRead_gone {s : BellSt} {u f : Nat} (h : s.uw u = 0) : mayRead s u f = belB (s.fl f) (s.fs f) (s.ul u) (s.us u) := by rw [mayRead, h, allB_zero, Bool.and_true]
end Go.Proofs.YteheaeihoameeaaDoor
