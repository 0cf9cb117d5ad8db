/- What the walk of the law TopLabels leans on: plain facts, and what lies in labels' places. -/
import Derived.WalkKit
import Derived.Test.YtomencagnppdcaaDoorLabRel
import Derived.Test.YtomencagnppdcaaDoorLabsOpen
import Derived.Test.YtomencagnppdcaaDoorLatAny
import Derived.Test.YtomencagnppdcaaDoorRefPa
namespace Go.Proofs.YtomencagnppdcaaDoor
open Go.RowKit
set_option maxRecDepth 100000

/-- The levels and sets of labels that are right. -/
def levN (z : Nat → Int × Int) (k : Nat) : Nat := (z k).1.toNat
def setN (z : Nat → Int × Int) (k : Nat) : Nat := (z k).2.toNat
/-- All is right with the labels below k, held against all below q (and those of row k). -/
def Seen (m : Nat) (z : Nat → Int × Int) (k q : Nat) : Prop :=
  (∀ x y, x < k → y < m → IsLab (z x).1 (z x).2 ∧ IsLab (z y).1 (z y).2 ∧ (x ≠ y → z x ≠ z y)) ∧ (∀ y, y < q → IsLab (z k).1 (z k).2 ∧ IsLab (z y).1 (z y).2 ∧ (k ≠ y → z k ≠ z y))
theorem info3' : (Tryd.prog.info? 3).map (fun i => (i.zero, i.size, i.bytes)) = some (some (.int .i64 0), 1, 8) := by kernel_rfl

theorem Hid.of {p : Prop} (h : p) : Hid p := h
theorem IsLab.casts {z : Nat → Int × Int} {k : Nat} (h : IsLab (z k).1 (z k).2) : (z k).1 = (levN z k : Int) ∧ (z k).2 = (setN z k : Int) ∧ levN z k ≤ 7 ∧ setN z k < 256 := by
  obtain ⟨h0, h1, h2, h3⟩ := h
  unfold levN setN
  omega
theorem bel_two (z : Nat → Int × Int) (k q : Nat) : ∃ (bb : Bool) (er : Value), BelIs (z k).1 (z k).2 (z q).1 (z q).2 (.bool bb) er ∧
    ((er = .nilIface ∧ IsLab (z k).1 (z k).2 ∧ IsLab (z q).1 (z q).2 ∧ bb = upP (levN z) (setN z) k q) ∨ er = .iface 51 (.int .i64 1)) := by
  rcases two_or (z k).1 (z k).2 (z q).1 (z q).2 with ⟨h1, h2⟩ | h
  · obtain ⟨e1, e2, a1, b1⟩ := h1.casts
    obtain ⟨e3, e4, a2, b2⟩ := h2.casts
    refine ⟨upP (levN z) (setN z) k q, _, ?_, .inl ⟨rfl, h1, h2, rfl⟩⟩
    rw [e1, e2, e3, e4]
    exact belIs_ok a1 b1 a2 b2
  · exact ⟨_, _, belIs_no h, .inr rfl⟩
theorem Place.others {B B' : Nat} {W : World} {x y : Int} (h : Place B W x y) (hne : B ≠ B') (v v' : Value) : Place B ((W.setCell ⟨B', 0, none⟩ v).setCell ⟨B', 1, none⟩ v') x y :=
  (h.other hne _ _).other hne _ _
theorem Place.set1 {B : Nat} {W : World} {x y : Int} (h : Place B W x y) (z : Int) : Place B (W.setCell ⟨B, 0, none⟩ (.int .i64 z)) z y := by
  have h1 := h.c1
  have h2 := h.c2
  have g1 := h.f1
  have g2 := h.f2
  have hl := h.lt
  exact ⟨World.cell?_setCell_same _ _ _ h1, by rw [World.cell?_setCell_other _ _ _ _ (by simp)]; exact h2, by simp [g1], by simp [g2], by simp [hl]⟩
theorem Place.set {B : Nat} {W : World} {x y : Int} (h : Place B W x y) (z v : Int) : Place B ((W.setCell ⟨B, 0, none⟩ (.int .i64 z)).setCell ⟨B, 1, none⟩ (.int .i64 v)) z v := (h.set1 z).set2 v
theorem below_undrew {B : Nat} {w w' : World} (h : Below B w.drew w') : Below B w w' := ⟨h.os, h.tape, h.output, h.size, h.block⟩
theorem seen_next {m : Nat} {z : Nat → Int × Int} {k q : Nat} (h : Seen m z k q) (hk : IsLab (z k).1 (z k).2 ∧ IsLab (z q).1 (z q).2) (hne : k ≠ q → z k ≠ z q) : Seen m z k (q + 1) := by
  refine ⟨h.1, fun y hy => ?_⟩
  by_cases e : y = q
  · subst e; exact ⟨hk.1, hk.2, hne⟩
  · exact h.2 y (by omega)
theorem seen_row {m : Nat} {z : Nat → Int × Int} {k q : Nat} (h : Seen m z k q) (hq : m ≤ q) : Seen m z (k + 1) 0 := by
  refine ⟨fun x y hx hy => ?_, fun y hy => absurd hy (by omega)⟩
  by_cases e : x = k
  · subst e; exact h.2 y (by omega)
  · exact h.1 x y (by omega) hy
theorem apart_of {m : Nat} {z : Nat → Int × Int} {q : Nat} (hm : m ≤ 12) (h : Seen m z m q) : Apart m (levN z) (setN z) := by
  have hc := fun k hk => (h.1 k k hk hk).1.casts
  refine ⟨hm, fun k hk => (hc k hk).2.2.1, fun k hk => (hc k hk).2.2.2, fun a b ha hb hne ⟨e1, e2⟩ => (h.1 a b ha hb).2.2 hne ?_⟩
  have p := hc a ha
  have q := hc b hb
  exact Prod.ext (by rw [p.1, q.1, e1]) (by rw [p.2.1, q.2.1, e2])
theorem pair_ne {a b : Int × Int} (h : a ≠ b) : (a.1 == b.1) = false ∨ (a.1 = b.1 ∧ (a.2 == b.2) = false) := by
  by_cases e : a.1 = b.1
  · refine .inr ⟨e, ?_⟩
    rw [beq_eq_false_iff_ne]
    intro e2
    exact h (Prod.ext e e2)
  · exact .inl (by rw [beq_eq_false_iff_ne]; exact e)
/-- A label in a new place that was made in a region that drew, behind whatever was done since. -/
theorem place_drew {w w' : World} {x y : Int} {t : TypeId} (S : Below (w.alloc (.cells #[.int .i64 x, .int .i64 y] t)).drew.heap.size (w.alloc (.cells #[.int .i64 x, .int .i64 y] t)).drew w') : Place w.heap.size w' x y ∧ Below w.heap.size w w' :=
  ⟨(Place.new w x y t).below (below_undrew S), ((Below.refl _ w).alloc (Nat.le_refl _) _).trans ((below_undrew S).mono (by simp))⟩
/-- Sets, as numbers. -/
def numsOf (m : Nat) (f : Nat → Nat) : List Int := (listOf m f).map Int.ofNat
theorem numsOf_length (m : Nat) (f : Nat → Nat) : (numsOf m f).length = m := by simp [numsOf, listOf]
theorem numsOf_get {m : Nat} (f : Nat → Nat) {i : Nat} (h : i < m) : (numsOf m f)[i]?.getD 0 = (f i : Int) := by simp [numsOf, listOf, h]
theorem rowsOf_nums (m : Nat) (f : Nat → Nat) : rowsOf m (numsOf m f) = listOf m f := by
  unfold rowsOf
  rw [List.take_of_length_le (by rw [numsOf_length]; exact Nat.le_refl _), numsOf, List.map_map]
  conv => rhs; rw [← List.map_id (listOf m f)]
  exact List.map_congr_left fun x _ => rfl
theorem nums_own {w : World} {g m : Nat} {f : Nat → Nat} (h : Own w g m f) : AtNums w (some ⟨g, 0, none⟩) m (numsOf m f) :=
  .inr ⟨g, 0, rfl, h.lt, fun i hi => by rw [Nat.zero_add, numsOf_get f hi]; exact h.cell i hi⟩
theorem good_up {m : Nat} {L S : Nat → Nat} (h : Apart m L S) : Good2 m (numsOf m (upN m L S)) :=
  ⟨⟨h.few, fun i hi => by rw [numsOf_get _ hi]; have := upN_lt m L S i; exact ⟨by omega, by omega⟩⟩, by rw [abv, rowsOf_nums]; exact ring_up h⟩
theorem pair3 (a b c d : Nat) : ((a : Int) == (b : Int)) = false ∨ ((a : Int) = (b : Int) ∧ ((c : Int) == (d : Int)) = false) ∨ (a = b ∧ c = d) := by
  by_cases e : a = b
  · by_cases e2 : c = d
    · exact .inr (.inr ⟨e, e2⟩)
    · exact .inr (.inl ⟨by omega, by simp; omega⟩)
  · exact .inl (by simp; omega)
/-- Whether two labels are the same. -/
theorem lab_same (l s l' s' : Int) (W : World) : (Op.equalIn 10000 43 (.agg #[.int .i64 l, .int .i64 s]) (.agg #[.int .i64 l', .int .i64 s'])).run Tryd.prog W = .ok (l == l' && s == s') W := by
  cases h : (l == l') with
  | false => go_simp
  | true =>
    go_simp
    by_cases e : s = s'
    · rw [if_pos e, e]; simp
    · rw [if_neg e, beq_eq_false_iff_ne.2 e]
abbrev SameIs (l s l' s' : Nat) (b : Bool) : Prop := ∀ W, (Op.equalIn 10000 43 (.agg #[.int .i64 (l : Int), .int .i64 (s : Int)]) (.agg #[.int .i64 (l' : Int), .int .i64 (s' : Int)])).run Tryd.prog W = .ok b W
theorem same_no {l s l' s' : Nat} (h : ¬ (l = l' ∧ s = s')) : SameIs l s l' s' false := fun W => by
  rw [lab_same]
  have e : (((l : Int) == (l' : Int)) && ((s : Int) == (s' : Int))) = false := by
    rw [Bool.and_eq_false_iff, beq_eq_false_iff_ne, beq_eq_false_iff_ne]
    omega
  rw [e]
theorem same_yes {l s l' s' : Nat} (h1 : l = l') (h2 : s = s') : SameIs l s l' s' true := fun W => by
  rw [lab_same, h1, h2]
  simp
theorem case_none {lp lx sp sx p : Nat} (h : lp = lx → sp = sx → (none : Option Nat) = some p) : SameIs lp sp lx sx false :=
  same_no fun ⟨a, b⟩ => by cases h a b
theorem case_some {lp lx sp sx p n : Nat} (h : lp = lx → sp = sx → (some n : Option Nat) = some p) : SameIs lp sp lx sx false ∨ (SameIs lp sp lx sx true ∧ ((n : Int) != (p : Int)) = false) := by
  by_cases e : lp = lx ∧ sp = sx
  · have e2 := Option.some.inj (h e.1 e.2)
    exact .inr ⟨same_yes e.1 e.2, by simp; omega⟩
  · exact .inl (same_no e)
end Go.Proofs.YtomencagnppdcaaDoor
