/- What package label answers of labels: what is wrong with one (isLevel, Check), or with two (checkBoth); which is below (Below), their Join and Meet. -/
import Derived.WalkKit
import Derived.LoopTactic
import Derived.Laws.ResultCell
import Derived.Test.YtdmdoikkemfcaaaDoorFace
namespace Go.Proofs.YtdmdoikkemfcaaaDoor
open Go.RowKit
set_option maxRecDepth 100000

/-- A label, as a value. -/
abbrev lab (l s : Int) : Value := .agg #[.int .i64 l, .int .i64 s]
/-- All is right with a label. -/
def IsLab (l s : Int) : Prop := 0 ≤ l ∧ l ≤ 7 ∧ 0 ≤ s ∧ s < 256
/-- Something is wrong with a label: the ways. -/
def NoLab (l s : Int) : Prop := l < 0 ∨ (0 ≤ l ∧ 7 < l) ∨ (0 ≤ l ∧ l ≤ 7 ∧ s < 0) ∨ (0 ≤ l ∧ l ≤ 7 ∧ 0 ≤ s ∧ 256 ≤ s)
theorem lab_or (l s : Int) : IsLab l s ∨ NoLab l s := by unfold IsLab NoLab; omega

/-- Something is wrong with one of two labels. -/
def NoTwo (l1 s1 l2 s2 : Int) : Prop := NoLab l1 s1 ∨ (IsLab l1 s1 ∧ NoLab l2 s2)
theorem two_or (l1 s1 l2 s2 : Int) : (IsLab l1 s1 ∧ IsLab l2 s2) ∨ NoTwo l1 s1 l2 s2 := by
  rcases lab_or l1 s1 with h | h
  · rcases lab_or l2 s2 with k | k
    · exact .inl ⟨h, k⟩
    · exact .inr (.inr ⟨h, k⟩)
  · exact .inr (.inl h)
/-- What lies in two new labels' places, behind whatever was done since. -/
structure Two (w w' : World) (x y z u : Value) : Prop where
  c1 : w'.cell? ⟨w.heap.size, 0, none⟩ = some x
  c2 : w'.cell? ⟨w.heap.size, 1, none⟩ = some y
  c3 : w'.cell? ⟨w.heap.size + 1, 0, none⟩ = some z
  c4 : w'.cell? ⟨w.heap.size + 1, 1, none⟩ = some u
  bel : Below w.heap.size w w'
theorem two_of {w w' : World} {x y z u : Value} {t t' : TypeId} (S : Below ((w.alloc (.cells #[x, y] t)).alloc (.cells #[z, u] t')).heap.size ((w.alloc (.cells #[x, y] t)).alloc (.cells #[z, u] t')) w') : Two w w' x y z u := by
  have h1 := World.alloc_heap_new w (.cells #[x, y] t)
  have h2 := World.alloc_heap_new (w.alloc (.cells #[x, y] t)) (.cells #[z, u] t')
  have hs : (w.alloc (.cells #[x, y] t)).heap.size = w.heap.size + 1 := by simp
  have hb : Below w.heap.size w ((w.alloc (.cells #[x, y] t)).alloc (.cells #[z, u] t')) := ((Below.refl _ w).alloc (Nat.le_refl _) _).alloc (by simp) _
  have ho : ((w.alloc (.cells #[x, y] t)).alloc (.cells #[z, u] t')).heap[w.heap.size]? = some (.cells #[x, y] t) := by
    rw [← h1]
    exact (((Below.refl (w.heap.size + 1) (w.alloc (.cells #[x, y] t))).alloc (by simp) _).block _ (by simp))
  rw [hs] at h2
  have c := fun (o : Nat) => S.cell (p := ⟨w.heap.size, o, none⟩) (by simp; omega)
  have d := fun (o : Nat) => S.cell (p := ⟨w.heap.size + 1, o, none⟩) (by simp)
  refine ⟨(c 0).trans ?_, (c 1).trans ?_, (d 0).trans ?_, (d 1).trans ?_, hb.trans (S.mono hb.size)⟩
  · simp only [World.cell?]; rw [ho]; simp
  · simp only [World.cell?]; rw [ho]; simp
  · simp only [World.cell?]; rw [h2]; simp
  · simp only [World.cell?]; rw [h2]; simp
theorem less_zero (a b : Nat) : (((less a b : Nat) : Int) == 0) = subB a b := by
  rw [Bool.eq_iff_iff, beq_iff_eq, subB_iff]
  constructor
  · intro h j hj
    have h0 : less a b = 0 := by omega
    have hb := less_bit a b j
    rw [h0, Nat.zero_testBit, hj] at hb
    simpa using hb.symm
  · intro h
    have h0 : less a b = 0 := Nat.eq_of_testBit_eq fun j => by
      rw [less_bit, Nat.zero_testBit]
      have := h j
      cases ha : a.testBit j <;> simp_all
    omega
/-- Is a label below another one? -/
def belB (l1 s1 l2 s2 : Nat) : Bool := decide (l1 ≤ l2) && subB s1 s2
theorem isLab_nat {l s : Nat} (h0 : l ≤ 7) (h1 : s < 256) : IsLab l s := ⟨by omega, by omega, by omega, by omega⟩
/-- What lies in three new labels' places, behind whatever was done since. -/
structure Three (w w' : World) (x y z u a b : Value) : Prop where
  c1 : w'.cell? ⟨w.heap.size, 0, none⟩ = some x
  c2 : w'.cell? ⟨w.heap.size, 1, none⟩ = some y
  c3 : w'.cell? ⟨w.heap.size + 1, 0, none⟩ = some z
  c4 : w'.cell? ⟨w.heap.size + 1, 1, none⟩ = some u
  c5 : w'.cell? ⟨w.heap.size + 2, 0, none⟩ = some a
  c6 : w'.cell? ⟨w.heap.size + 2, 1, none⟩ = some b
  f5 : w'.frozen? ⟨w.heap.size + 2, 0, none⟩ = false
  f6 : w'.frozen? ⟨w.heap.size + 2, 1, none⟩ = false
  size : w.heap.size + 2 < w'.heap.size
  bel : Below w.heap.size w w'
theorem three_of {w w' : World} {x y z u a b : Value} {t t' t'' : TypeId} (S : Below (((w.alloc (.cells #[x, y] t)).alloc (.cells #[z, u] t')).alloc (.cells #[a, b] t'')).heap.size (((w.alloc (.cells #[x, y] t)).alloc (.cells #[z, u] t')).alloc (.cells #[a, b] t'')) w') : Three w w' x y z u a b := by
  obtain ⟨w2, h2⟩ : ∃ w2, (w.alloc (.cells #[x, y] t)).alloc (.cells #[z, u] t') = w2 := ⟨_, rfl⟩
  have hs : w2.heap.size = w.heap.size + 2 := by rw [← h2]; simp
  rw [h2] at S
  have S2 : Below w2.heap.size w2 w' := ((Below.refl _ w2).alloc (Nat.le_refl _) _).trans (S.mono (by simp))
  have S2' := S2
  rw [← h2] at S2'
  obtain ⟨c1, c2, c3, c4, bel⟩ := two_of S2'
  have hn := World.alloc_heap_new w2 (.cells #[a, b] t'')
  have d := fun (o : Nat) => S.cell (p := ⟨w2.heap.size, o, none⟩) (by simp)
  have f := fun (o : Nat) => S.frozen (p := ⟨w2.heap.size, o, none⟩) (by simp)
  have hz := S.size
  have hz' : (w2.alloc (.cells #[a, b] t'')).heap.size = w2.heap.size + 1 := by simp
  rw [hz'] at hz
  rw [hs] at d f hn
  refine ⟨c1, c2, c3, c4, (d 0).trans ?_, (d 1).trans ?_, (f 0).trans ?_, (f 1).trans ?_, by omega, bel⟩
  · simp only [World.cell?]; rw [hn]; simp
  · simp only [World.cell?]; rw [hn]; simp
  · simp only [World.frozen?]; rw [hn]; simp
  · simp only [World.frozen?]; rw [hn]; simp
end Go.Proofs.YtdmdoikkemfcaaaDoor
