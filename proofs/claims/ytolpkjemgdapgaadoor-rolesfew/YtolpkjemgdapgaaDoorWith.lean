/- What the document's functions on sets return: a power of two (Pow2), a set with a thing more (With), whether any number has a thing (Bit); and whether numbers of one's own are an order. -/
import Derived.WalkKit
import Derived.LoopTactic
import Derived.Test.YtolpkjemgdapgaaDoorOrder
namespace Go.Proofs.YtolpkjemgdapgaaDoor
open Go.RowKit

theorem with_bits (s i : Nat) (h : s.testBit i = false) : s + 2 ^ i = s ||| 2 ^ i := by
  induction i generalizing s with
  | zero =>
    have h2 : s % 2 = 0 := by
      rw [Nat.testBit_zero] at h
      have := of_decide_eq_false h
      omega
    refine Nat.eq_of_testBit_eq fun j => ?_
    rw [Nat.testBit_or, Nat.testBit_two_pow]
    cases j with
    | zero =>
      have e : (s + 2 ^ 0) % 2 = 1 := by rw [Nat.pow_zero]; omega
      rw [Nat.testBit_zero, e]; simp
    | succ j =>
      have e : (s + 2 ^ 0) / 2 = s / 2 := by rw [Nat.pow_zero]; omega
      rw [Nat.testBit_succ, e, Nat.testBit_succ]; simp
  | succ i ih =>
    have ih' := ih (s / 2) (by rw [← Nat.testBit_succ]; exact h)
    have ep : 2 ^ (i + 1) = 2 * 2 ^ i := by rw [Nat.pow_succ]; omega
    refine Nat.eq_of_testBit_eq fun j => ?_
    rw [Nat.testBit_or, Nat.testBit_two_pow]
    cases j with
    | zero =>
      have e : (s + 2 ^ (i + 1)) % 2 = s % 2 := by rw [ep]; omega
      rw [Nat.testBit_zero, e, Nat.testBit_zero]; simp
    | succ j =>
      have e : (s + 2 ^ (i + 1)) / 2 = s / 2 + 2 ^ i := by rw [ep]; omega
      rw [Nat.testBit_succ, e, ih', Nat.testBit_or, Nat.testBit_two_pow, Nat.testBit_succ]
      simp
theorem with_same (s i : Nat) (h : s.testBit i = true) : s = s ||| 2 ^ i := by
  refine Nat.eq_of_testBit_eq fun j => ?_
  rw [Nat.testBit_or, Nat.testBit_two_pow]
  by_cases e : i = j
  · subst e; rw [h]; simp
  · simp [e]

/-- The list of a function's first numbers. -/
def listOf (m : Nat) (f : Nat → Nat) : List Nat := (List.range m).map f
theorem listOf_get {m : Nat} (f : Nat → Nat) {i : Nat} (h : i < m) : (listOf m f).getD i 0 = f i := by simp [listOf, h]
theorem listOf_right {m : Nat} {f : Nat → Nat} (hm : m ≤ 12) (hf : ∀ i, i < m → f i < 2 ^ m) : Right m (listOf m f) := by
  refine ⟨hm, by simp [listOf], fun i => ?_⟩
  by_cases hi : i < m
  · rw [listOf_get f hi]; exact hf i hi
  · have : (listOf m f).getD i 0 = 0 := by simp [listOf, hi]
    rw [this]; exact Nat.two_pow_pos m

theorem own_check {m B cap : Nat} {f : Nat → Nat} (hm : m ≤ 12) (hf : ∀ i, i < m → f i < 2 ^ m) (w : World) (ho : Own w B m f) :
    Calls Tryd.prog 23 #[.slice (some ⟨B, 0, none⟩) m cap] w fun e w' => e = .returned .nilIface ∧ w' = w := by
  refine check_fine (some ⟨B, 0, none⟩) m cap ((listOf m f).map fun x : Nat => (x : Int)) w (.inr ⟨B, 0, rfl, ho.lt, fun i hi => ?_⟩) ⟨hm, fun i hi => ?_⟩
  · rw [Nat.zero_add, ho.cell i hi]; simp [listOf, hi]
  · have := hf i hi
    have e : (((listOf m f).map fun x : Nat => (x : Int))[i]?.getD 0) = (f i : Int) := by simp [listOf, hi]
    rw [e]
    exact ⟨by omega, by exact_mod_cast this⟩
theorem own_at {m B : Nat} {f : Nat → Nat} {w : World} (ho : Own w B m f) : At w (some ⟨B, 0, none⟩) m (listOf m f) :=
  .inr ⟨B, 0, rfl, ho.lies fun _ hj => listOf_get f hj⟩

theorem Closure_own (m B cap : Nat) (f : Nat → Nat) (hm : m ≤ 12) (hf : ∀ i, i < m → f i < 2 ^ m) (w : World) (ho : Own w B m f) (hT : Tab w) :
    Calls Tryd.prog 18 #[.slice (some ⟨B, 0, none⟩) m cap] w fun e w' => e = .returned (.tuple #[.slice (some ⟨w.heap.size, 0, none⟩) m m, .nilIface]) ∧ Own w' w.heap.size m (come m (listOf m f)) ∧ Below w.heap.size w w' :=
  Closure_good _ m cap (listOf m f) w (listOf_right hm hf) (own_at ho) hT (own_check hm hf w ho)
end Go.Proofs.YtolpkjemgdapgaaDoor
