/- Plain facts on the table by which package bits finds the least thing of a set, and on the operations on bits. -/
import Derived.Laws.BitsLemmas
import Derived.Laws.Bits64
import Derived.Test.YtoecomgiggalkaaDoorMath
import Derived.Test.YtoecomgiggalkaaDoorGen
namespace Go.Proofs.YtoecomgiggalkaaDoor

/-- The table of package bits. -/
def tab : List Int := [0, 1, 56, 2, 57, 49, 28, 3, 61, 58, 42, 50, 38, 29, 17, 4, 62, 47, 59, 36, 45, 43, 51, 22, 53, 39, 33, 30, 24, 18, 12, 5, 63, 55, 48, 27, 60, 41, 37, 16, 46, 35, 44, 21, 52, 32, 23, 11, 54, 26, 40, 15, 34, 20, 31, 10, 25, 14, 19, 9, 13, 8, 7, 6]
/-- Where the table tells of a set's least thing. -/
def ix (x : Nat) : Nat := 2 ^ low x * 285870213051353865 % 18446744073709551616 / 288230376151711744
theorem and_neg (x : Nat) (h : x < 4096) (h0 : x ≠ 0) : x &&& (18446744073709551616 - x) = 2 ^ low x := by
  obtain ⟨_, h1, h3⟩ := mem_low x h h0
  have e : 18446744073709551616 - x = 2 ^ 64 - ((x - 1) + 1) := by omega
  refine Nat.eq_of_testBit_eq fun i => ?_
  rw [e, Nat.testBit_and, Nat.testBit_two_pow_sub_succ (by omega), Nat.testBit_two_pow]
  have h4 := h3 i
  rw [Nat.testBit_and] at h4
  by_cases hi : i = low x
  · subst hi
    have hb := bit_lt (show x < 2 ^ 64 by omega) h1
    rw [h1] at h4 ⊢
    simp only [Bool.true_and, ne_eq, not_true_eq_false, decide_false] at h4
    rw [h4]
    simp [hb]
  · rw [decide_eq_true hi, Bool.and_true] at h4
    rw [decide_eq_false (show ¬ low x = i from fun q => hi q.symm)]
    cases hx : x.testBit i with
    | false => rfl
    | true =>
      rw [hx, Bool.true_and] at h4
      rw [h4]; simp
theorem ix_fact (x : Nat) (h0 : x ≠ 0) (h : x < 4096) :
    IntKind.u64.wrap (bits BinOp.and IntKind.u64 (x : Int) (IntKind.u64.wrap (-(x : Int))) * 285870213051353865) / 288230376151711744 = (ix x : Int) ∧ ix x < 64 ∧ tab.getD (ix x) 0 = (low x : Int) := by
  have hlo := low_lt (n := 12) (by decide) h h0
  have hw : IntKind.u64.wrap (-(x : Int)) = ((18446744073709551616 - x : Nat) : Int) := by rw [IntKind.wrap_u64]; omega
  have hb : bits BinOp.and IntKind.u64 (x : Int) ((18446744073709551616 - x : Nat) : Int) = ((x &&& (18446744073709551616 - x) : Nat) : Int) :=
    (bits_nat .u64 64 (by decide) (fun n h0 h1 => by rw [IntKind.wrap_u64]; omega) x (18446744073709551616 - x) (by omega) (by omega)).1
  rw [hw, hb, and_neg x h h0]
  have twelve : ∀ l : Nat, l < 12 → IntKind.u64.wrap (((2 ^ l : Nat) : Int) * 285870213051353865) / 288230376151711744 = ((2 ^ l * 285870213051353865 % 18446744073709551616 / 288230376151711744 : Nat) : Int) ∧ 2 ^ l * 285870213051353865 % 18446744073709551616 / 288230376151711744 < 64 ∧ tab.getD (2 ^ l * 285870213051353865 % 18446744073709551616 / 288230376151711744) 0 = (l : Int) := by decide +kernel
  exact twelve (low x) hlo

theorem and_i64 (a b : Nat) (ha : a < 4096) (hb : b < 4096) : bits BinOp.and IntKind.i64 (a : Int) (b : Int) = ((a &&& b : Nat) : Int) :=
  (bits_nat .i64 62 (by decide) wraps62 a b (by omega) (by omega)).1
theorem or_i64 (a b : Nat) (ha : a < 4096) (hb : b < 4096) : bits BinOp.or IntKind.i64 (a : Int) (b : Int) = ((a ||| b : Nat) : Int) :=
  (bits_nat .i64 62 (by decide) wraps62 a b (by omega) (by omega)).2
theorem andNot_i64 (a b : Nat) (ha : a < 4096) (hb : b < 4096) : bits BinOp.andNot IntKind.i64 (a : Int) (b : Int) = ((less a b : Nat) : Int) := by
  have ha' : a % 2 ^ 64 = a := Nat.mod_eq_of_lt (by omega)
  have hb' : b % 2 ^ 64 = b := Nat.mod_eq_of_lt (by omega)
  have key : (BitVec.ofNat 64 a &&& ~~~ BitVec.ofNat 64 b).toNat = less a b := by
    refine Nat.eq_of_testBit_eq fun j => ?_
    rw [less_bit]
    by_cases hj : j < 64
    · simp only [BitVec.testBit_toNat, BitVec.getLsbD_and, BitVec.getLsbD_not, BitVec.getLsbD_ofNat, hj, decide_true, Bool.true_and]
    · have h1 : a.testBit j = false := Nat.testBit_lt_two_pow (Nat.lt_of_lt_of_le (show a < 2 ^ 12 by omega) (Nat.pow_le_pow_right (by decide) (by omega)))
      rw [BitVec.testBit_toNat, h1, Bool.false_and]
      exact BitVec.getLsbD_of_ge _ _ (by omega)
  have hlt : less a b < 2 ^ 12 := lt_of_bits fun j hj => by
    rw [less_bit, Bool.and_eq_true] at hj
    exact bit_lt (show a < 2 ^ 12 by omega) hj.1
  show IntKind.i64.wrap (((BitVec.ofInt 64 (a : Int)) &&& ~~~ (BitVec.ofInt 64 (b : Int))).toNat : Int) = _
  rw [BitVec.ofInt_natCast, BitVec.ofInt_natCast, key]
  exact wraps62 _ (by omega) (by omega)
end Go.Proofs.YtoecomgiggalkaaDoor
