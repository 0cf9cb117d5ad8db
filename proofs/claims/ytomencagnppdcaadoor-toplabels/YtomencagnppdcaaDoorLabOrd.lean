/- The walk of the law LabelOrder. -/
import Derived.WalkKit
import Derived.LoopTactic
import Derived.Test.YtomencagnppdcaaDoorWrite
namespace Go.Proofs.YtomencagnppdcaaDoor
open Go.RowKit
set_option maxRecDepth 100000

/-- What lies in three labels' places, while more is done. -/
structure Lab3 (w W : World) (x1 y1 x2 y2 x3 y3 : Int) : Prop where
  c1 : W.cell? ⟨w.heap.size, 0, none⟩ = some (.int .i64 x1)
  c2 : W.cell? ⟨w.heap.size, 1, none⟩ = some (.int .i64 y1)
  c3 : W.cell? ⟨w.heap.size + 1, 0, none⟩ = some (.int .i64 x2)
  c4 : W.cell? ⟨w.heap.size + 1, 1, none⟩ = some (.int .i64 y2)
  c5 : W.cell? ⟨w.heap.size + 2, 0, none⟩ = some (.int .i64 x3)
  c6 : W.cell? ⟨w.heap.size + 2, 1, none⟩ = some (.int .i64 y3)
  size : w.heap.size + 2 < W.heap.size
  bel : Below w.heap.size w W
theorem Lab3.of {w w' : World} {x1 y1 x2 y2 x3 y3 : Int} {t t' t'' : TypeId} (S : Below (((w.alloc (.cells #[.int .i64 x1, .int .i64 y1] t)).alloc (.cells #[.int .i64 x2, .int .i64 y2] t')).alloc (.cells #[.int .i64 x3, .int .i64 y3] t'')).heap.size (((w.alloc (.cells #[.int .i64 x1, .int .i64 y1] t)).alloc (.cells #[.int .i64 x2, .int .i64 y2] t')).alloc (.cells #[.int .i64 x3, .int .i64 y3] t'')) w') : Lab3 w w' x1 y1 x2 y2 x3 y3 := by
  obtain ⟨c1, c2, c3, c4, c5, c6, _, _, hs, hB⟩ := three_of S
  exact ⟨c1, c2, c3, c4, c5, c6, hs, hB⟩
theorem Lab3.below {w W W' : World} {x1 y1 x2 y2 x3 y3 : Int} (h : Lab3 w W x1 y1 x2 y2 x3 y3) (S : Below W.heap.size W W') : Lab3 w W' x1 y1 x2 y2 x3 y3 := by
  have hs := h.size
  exact ⟨(S.cell (p := ⟨_, _, none⟩) (by simp; omega)).trans h.c1, (S.cell (p := ⟨_, _, none⟩) (by simp; omega)).trans h.c2, (S.cell (p := ⟨_, _, none⟩) (by simp; omega)).trans h.c3, (S.cell (p := ⟨_, _, none⟩) (by simp; omega)).trans h.c4, (S.cell (p := ⟨_, _, none⟩) (by simp; omega)).trans h.c5, (S.cell (p := ⟨_, _, none⟩) (by simp; omega)).trans h.c6, Nat.lt_of_lt_of_le hs S.size, h.bel.trans (S.mono h.bel.size)⟩

/-- What a call of Below answers, from any world. -/
abbrev BelIs (l1 s1 l2 s2 : Int) (b er : Value) : Prop := ∀ W, Calls Tryd.prog 19 #[lab l1 s1, lab l2 s2] W fun e w' => e = .returned (.tuple #[b, er]) ∧ Below W.heap.size W w'

/-- What Below answers of two labels both ways, and of a third. -/
def Ord4 (la sa lb sb : Int) (x y z v : Bool) : Prop :=
  (x = false ∧ ((la == lb) = false ∨ (la = lb ∧ (sa == sb) = false))) ∨ (x = true ∧ y = false ∧ (z = false ∨ (z = true ∧ v = true)) ∧ ((la == lb) = false ∨ (la = lb ∧ (sa == sb) = false))) ∨ (x = true ∧ y = true ∧ (z = false ∨ (z = true ∧ v = true)) ∧ la = lb ∧ sa = sb)
theorem subB_self (a : Nat) : subB a a = true := (subB_iff _ _).2 fun _ h => h
theorem subB_trans {a b c : Nat} (h : subB a b = true) (k : subB b c = true) : subB a c = true := (subB_iff _ _).2 fun j hj => (subB_iff _ _).1 k j ((subB_iff _ _).1 h j hj)
theorem subB_anti {a b : Nat} (h : subB a b = true) (k : subB b a = true) : a = b := eq_of_bits fun j => ⟨(subB_iff _ _).1 h j, (subB_iff _ _).1 k j⟩
theorem belB_iff (l1 s1 l2 s2 : Nat) : belB l1 s1 l2 s2 = true ↔ l1 ≤ l2 ∧ subB s1 s2 = true := by simp [belB]
theorem belB_self (l s : Nat) : belB l s l s = true := (belB_iff _ _ _ _).2 ⟨Nat.le_refl _, subB_self s⟩
theorem belB_trans {l1 s1 l2 s2 l3 s3 : Nat} (h : belB l1 s1 l2 s2 = true) (k : belB l2 s2 l3 s3 = true) : belB l1 s1 l3 s3 = true := by
  rw [belB_iff] at h k ⊢
  exact ⟨Nat.le_trans h.1 k.1, subB_trans h.2 k.2⟩
theorem belB_anti {l1 s1 l2 s2 : Nat} (h : belB l1 s1 l2 s2 = true) (k : belB l2 s2 l1 s1 = true) : l1 = l2 ∧ s1 = s2 := by
  rw [belB_iff] at h k
  exact ⟨Nat.le_antisymm h.1 k.1, subB_anti h.2 k.2⟩
theorem ord4_of (la sa lb sb lc sc : Nat) : Ord4 la sa lb sb (belB la sa lb sb) (belB lb sb la sa) (belB lb sb lc sc) (belB la sa lc sc) := by
  have hne : ¬ (la = lb ∧ sa = sb) → ((la : Int) == (lb : Int)) = false ∨ ((la : Int) = (lb : Int) ∧ ((sa : Int) == (sb : Int)) = false) := fun h => by
    by_cases e : la = lb
    · exact .inr ⟨by omega, by simp; omega⟩
    · exact .inl (by simp; omega)
  have hz : belB la sa lb sb = true → belB lb sb lc sc = false ∨ (belB lb sb lc sc = true ∧ belB la sa lc sc = true) := fun h => by
    cases k : belB lb sb lc sc
    · exact .inl rfl
    · exact .inr ⟨rfl, belB_trans h k⟩
  unfold Ord4
  cases h : belB la sa lb sb
  · exact .inl ⟨rfl, hne fun ⟨e1, e2⟩ => by subst e1; subst e2; rw [belB_self] at h; cases h⟩
  · cases k : belB lb sb la sa
    · exact .inr (.inl ⟨rfl, rfl, hz h, hne fun ⟨e1, e2⟩ => by subst e1; subst e2; rw [belB_self] at k; cases k⟩)
    · obtain ⟨rfl, rfl⟩ := belB_anti h k
      exact .inr (.inr ⟨rfl, rfl, hz h, rfl, rfl⟩)

theorem IsLab.nat {l s : Int} (h : IsLab l s) : ∃ a b : Nat, l = a ∧ s = b ∧ a ≤ 7 ∧ b < 256 := by
  obtain ⟨h0, h1, h2, h3⟩ := h
  obtain ⟨a, rfl⟩ := Int.eq_ofNat_of_zero_le h0
  obtain ⟨b, rfl⟩ := Int.eq_ofNat_of_zero_le h2
  exact ⟨a, b, rfl, rfl, by omega, by omega⟩
theorem belIs_ok {l1 s1 l2 s2 : Nat} (a1 : l1 ≤ 7) (b1 : s1 < 256) (a2 : l2 ≤ 7) (b2 : s2 < 256) : BelIs l1 s1 l2 s2 (.bool (belB l1 s1 l2 s2)) .nilIface := fun W => labBelow_ok l1 s1 l2 s2 a1 b1 a2 b2 W
theorem belIs_no {l1 s1 l2 s2 : Int} (h : NoTwo l1 s1 l2 s2) : BelIs l1 s1 l2 s2 (.bool false) (.iface 51 (.int .i64 1)) := fun W => labBelow_no l1 s1 l2 s2 h W
theorem noTwo_left {l1 s1 : Int} (h : NoLab l1 s1) (l2 s2 : Int) : NoTwo l1 s1 l2 s2 := .inl h
theorem noTwo_right {l2 s2 : Int} (h : NoLab l2 s2) (l1 s1 : Int) : NoTwo l1 s1 l2 s2 := by
  rcases lab_or l1 s1 with k | k
  · exact .inr ⟨k, h⟩
  · exact .inl k
end Go.Proofs.YtomencagnppdcaaDoor
