/- The walk of the law LabelOrder. -/
import Derived.WalkKit
import Derived.LoopTactic
import Derived.Test.YtkdaaaloibdngaaDoorWrite
namespace Go.Proofs.YtkdaaaloibdngaaDoor
open Go.RowKit
set_option maxRecDepth 100000

/-- What lies in three labels' places, while more is done. -/
structure Lab3 (w W : World) (x1 y1 x2 y2 x3 y3 : Int) : Prop where
  c1 : W.cell? ⟨w.heap.size, 0, none⟩ = some (.int .i64 x1)
  c2 : W.cell? ⟨w.heap.size, 1, none⟩ = some (.int .i64 y1)
  c3 : W.cell? ⟨w.heap.size + 1, 0, none⟩ = some (.int .i64 x2)
  c4 : W.cell? ⟨w.heap.size + 1, 1, none⟩ = some (.int .i64 y2)
  c5 : W.cell? ⟨w.heap.size + 2, 0, none⟩ = some (.int .i64 x3)
  c6 : W.cell? ⟨w.heap.size + 2, 1, none⟩ = some (.int .i64 y3)
  size : w.heap.size + 2 < W.heap.size
  bel : Below w.heap.size w W
theorem Lab3.of {w w' : World} {x1 y1 x2 y2 x3 y3 : Int} {t t' t'' : TypeId} (S : Below (((w.alloc (.cells #[.int .i64 x1, .int .i64 y1] t)).alloc (.cells #[.int .i64 x2, .int .i64 y2] t')).alloc (.cells #[.int .i64 x3, .int .i64 y3] t'')).heap.size (((w.alloc (.cells #[.int .i64 x1, .int .i64 y1] t)).alloc (.cells #[.int .i64 x2, .int .i64 y2] t')).alloc (.cells #[.int .i64 x3, .int .i64 y3] t'')) w') : Lab3 w w' x1 y1 x2 y2 x3 y3 := by
  obtain ⟨c1, c2, c3, c4, c5, c6, _, _, hs, hB⟩ := three_of S
  exact ⟨c1, c2, c3, c4, c5, c6, hs, hB⟩
theorem Lab3.below {w W W' : World} {x1 y1 x2 y2 x3 y3 : Int} (h : Lab3 w W x1 y1 x2 y2 x3 y3) (S : Below W.heap.size W W') : Lab3 w W' x1 y1 x2 y2 x3 y3 := by
  have hs := h.size
  exact ⟨(S.cell (p := ⟨_, _, none⟩) (by simp; omega)).trans h.c1, (S.cell (p := ⟨_, _, none⟩) (by simp; omega)).trans h.c2, (S.cell (p := ⟨_, _, none⟩) (by simp; omega)).trans h.c3, (S.cell (p := ⟨_, _, none⟩) (by simp; omega)).trans h.c4, (S.cell (p := ⟨_, _, none⟩) (by simp; omega)).trans h.c5, (S.cell (p := ⟨_, _, none⟩) (by simp; omega)).trans h.c6, Nat.lt_of_lt_of_le hs S.size, h.bel.trans (S.mono h.bel.size)⟩

/-- What a call of Below answers, from any world. -/
abbrev BelIs (l1 s1 l2 s2 : Int) (b er : Value) : Prop := ∀ W, Calls Tryd.prog 16 #[lab l1 s1, lab l2 s2] W fun e w' => e = .returned (.tuple #[b, er]) ∧ Below W.heap.size W w'

set_option maxHeartbeats 1000000 in
theorem labOrd_bad (la sa lb sb lc sc c : Int) (b1 e1 : Value) (h1 : e1 = .nilIface ∨ e1 = .iface 57 (.int .i64 c)) (w : World)
    (hF : ∀ W, Below w.heap.size w W → Calls Tryd.prog 21 #[] W fun e w' => e = .returned (.bool true) ∧ Below W.heap.size W w')
    (hAA : BelIs la sa la sa b1 e1)
    (hAB : BelIs la sa lb sb (.bool false) (.iface 57 (.int .i64 c)))
    (hBA : BelIs lb sb la sa (.bool false) (.iface 57 (.int .i64 c))) :
    Calls Tryd.prog 5 #[lab la sa, lab lb sb, lab lc sc] w fun e w' => e = .returned (.bool true) ∧ Below w.heap.size w w' := by
  have hB0 : Below w.heap.size w (((w.alloc (.cells #[.int .i64 la, .int .i64 sa] 23)).alloc (.cells #[.int .i64 lb, .int .i64 sb] 23)).alloc (.cells #[.int .i64 lc, .int .i64 sc] 23)) := (((Below.refl _ w).alloc (Nat.le_refl _) _).alloc (by simp) _).alloc (by simp; omega) _
  rcases h1 with rfl | rfl
  all_goals as_aux_lemma =>
    go_enter Tryd.func5, Tryd.ntmps5
    go_wp2_with (first | (go_at_call 21; refine (hF _ hB0).mono ?_; clear hF; rintro e w1 ⟨rfl, S⟩; have hX := Lab3.of S; clear S; obtain ⟨c1, c2, c3, c4, c5, c6, _, _⟩ := id hX) | (go_at_call 16; refine (hAA _).mono ?_; clear hAA; rintro e w2 ⟨rfl, S⟩; replace hX := hX.below S; clear S c1 c2 c3 c4 c5 c6; obtain ⟨c1, c2, c3, c4, c5, c6, _, _⟩ := id hX) | (go_at_call 16; refine (hAB _).mono ?_; clear hAB; rintro e w3 ⟨rfl, S⟩; replace hX := hX.below S; clear S c1 c2 c3 c4 c5 c6; obtain ⟨c1, c2, c3, c4, c5, c6, _, _⟩ := id hX) | (go_at_call 16; refine (hBA _).mono ?_; clear hBA; rintro e w4 ⟨rfl, S⟩; replace hX := hX.below S; clear S c1 c2 c3 c4 c5 c6; obtain ⟨c1, c2, c3, c4, c5, c6, _, _⟩ := id hX))
    go_ret
    exact ⟨rfl, hX.bel⟩

set_option maxHeartbeats 1000000 in
theorem labOrd_two (la sa lb sb lc sc c : Int) (x y : Bool) (w : World)
    (hF : ∀ W, Below w.heap.size w W → Calls Tryd.prog 21 #[] W fun e w' => e = .returned (.bool true) ∧ Below W.heap.size W w')
    (hAA : BelIs la sa la sa (.bool true) .nilIface) (hAB : BelIs la sa lb sb (.bool x) .nilIface) (hBA : BelIs lb sb la sa (.bool y) .nilIface)
    (hBC : BelIs lb sb lc sc (.bool false) (.iface 57 (.int .i64 c))) (hAC : BelIs la sa lc sc (.bool false) (.iface 57 (.int .i64 c))) :
    Calls Tryd.prog 5 #[lab la sa, lab lb sb, lab lc sc] w fun e w' => e = .returned (.bool true) ∧ Below w.heap.size w w' := by
  have hB0 : Below w.heap.size w (((w.alloc (.cells #[.int .i64 la, .int .i64 sa] 23)).alloc (.cells #[.int .i64 lb, .int .i64 sb] 23)).alloc (.cells #[.int .i64 lc, .int .i64 sc] 23)) := (((Below.refl _ w).alloc (Nat.le_refl _) _).alloc (by simp) _).alloc (by simp; omega) _
  go_enter Tryd.func5, Tryd.ntmps5
  go_wp2_with (first | (go_at_call 21; refine (hF _ hB0).mono ?_; clear hF; rintro e w1 ⟨rfl, S⟩; have hX := Lab3.of S; clear S; obtain ⟨c1, c2, c3, c4, c5, c6, _, _⟩ := id hX) | (go_at_call 16; refine (hAA _).mono ?_; clear hAA; rintro e w2 ⟨rfl, S⟩; replace hX := hX.below S; clear S c1 c2 c3 c4 c5 c6; obtain ⟨c1, c2, c3, c4, c5, c6, _, _⟩ := id hX) | (go_at_call 16; refine (hAB _).mono ?_; clear hAB; rintro e w3 ⟨rfl, S⟩; replace hX := hX.below S; clear S c1 c2 c3 c4 c5 c6; obtain ⟨c1, c2, c3, c4, c5, c6, _, _⟩ := id hX) | (go_at_call 16; refine (hBA _).mono ?_; clear hBA; rintro e w4 ⟨rfl, S⟩; replace hX := hX.below S; clear S c1 c2 c3 c4 c5 c6; obtain ⟨c1, c2, c3, c4, c5, c6, _, _⟩ := id hX) | (go_at_call 16; refine (hBC _).mono ?_; clear hBC; rintro e w5 ⟨rfl, S⟩; replace hX := hX.below S; clear S c1 c2 c3 c4 c5 c6; obtain ⟨c1, c2, c3, c4, c5, c6, _, _⟩ := id hX) | (go_at_call 16; refine (hAC _).mono ?_; clear hAC; rintro e w6 ⟨rfl, S⟩; replace hX := hX.below S; clear S c1 c2 c3 c4 c5 c6; obtain ⟨c1, c2, c3, c4, c5, c6, _, _⟩ := id hX))
  go_ret
  exact ⟨rfl, hX.bel⟩
/-- What Below answers of two labels both ways, and of a third. -/
def Ord4 (la sa lb sb : Int) (x y z v : Bool) : Prop :=
  (x = false ∧ ((la == lb) = false ∨ (la = lb ∧ (sa == sb) = false))) ∨ (x = true ∧ y = false ∧ (z = false ∨ (z = true ∧ v = true)) ∧ ((la == lb) = false ∨ (la = lb ∧ (sa == sb) = false))) ∨ (x = true ∧ y = true ∧ (z = false ∨ (z = true ∧ v = true)) ∧ la = lb ∧ sa = sb)
set_option maxHeartbeats 1000000 in
theorem labOrd_all (la sa lb sb lc sc : Int) (x y z v : Bool) (h : Ord4 la sa lb sb x y z v) (w : World)
    (hF : ∀ W, Below w.heap.size w W → Calls Tryd.prog 21 #[] W fun e w' => e = .returned (.bool true) ∧ Below W.heap.size W w')
    (hAA : BelIs la sa la sa (.bool true) .nilIface) (hAB : BelIs la sa lb sb (.bool x) .nilIface) (hBA : BelIs lb sb la sa (.bool y) .nilIface)
    (hBC : BelIs lb sb lc sc (.bool z) .nilIface) (hAC : BelIs la sa lc sc (.bool v) .nilIface) :
    Calls Tryd.prog 5 #[lab la sa, lab lb sb, lab lc sc] w fun e w' => e = .returned (.bool true) ∧ Below w.heap.size w w' := by
  have hB0 : Below w.heap.size w (((w.alloc (.cells #[.int .i64 la, .int .i64 sa] 23)).alloc (.cells #[.int .i64 lb, .int .i64 sb] 23)).alloc (.cells #[.int .i64 lc, .int .i64 sc] 23)) := (((Below.refl _ w).alloc (Nat.le_refl _) _).alloc (by simp) _).alloc (by simp; omega) _
  rcases h with ⟨rfl, h | ⟨rfl, h⟩⟩ | ⟨rfl, rfl, rfl | ⟨rfl, rfl⟩, h | ⟨rfl, h⟩⟩ | ⟨rfl, rfl, rfl | ⟨rfl, rfl⟩, rfl, rfl⟩
  all_goals as_aux_lemma =>
    go_enter Tryd.func5, Tryd.ntmps5
    go_wp2_with (first | (go_at_call 21; refine (hF _ hB0).mono ?_; clear hF; rintro e w1 ⟨rfl, S⟩; have hX := Lab3.of S; clear S; obtain ⟨c1, c2, c3, c4, c5, c6, _, _⟩ := id hX) | (go_at_call 16; refine (hAA _).mono ?_; clear hAA; rintro e w2 ⟨rfl, S⟩; replace hX := hX.below S; clear S c1 c2 c3 c4 c5 c6; obtain ⟨c1, c2, c3, c4, c5, c6, _, _⟩ := id hX) | (go_at_call 16; refine (hAB _).mono ?_; clear hAB; rintro e w3 ⟨rfl, S⟩; replace hX := hX.below S; clear S c1 c2 c3 c4 c5 c6; obtain ⟨c1, c2, c3, c4, c5, c6, _, _⟩ := id hX) | (go_at_call 16; refine (hBA _).mono ?_; clear hBA; rintro e w4 ⟨rfl, S⟩; replace hX := hX.below S; clear S c1 c2 c3 c4 c5 c6; obtain ⟨c1, c2, c3, c4, c5, c6, _, _⟩ := id hX) | (go_at_call 16; refine (hBC _).mono ?_; clear hBC; rintro e w5 ⟨rfl, S⟩; replace hX := hX.below S; clear S c1 c2 c3 c4 c5 c6; obtain ⟨c1, c2, c3, c4, c5, c6, _, _⟩ := id hX) | (go_at_call 16; refine (hAC _).mono ?_; clear hAC; rintro e w6 ⟨rfl, S⟩; replace hX := hX.below S; clear S c1 c2 c3 c4 c5 c6; obtain ⟨c1, c2, c3, c4, c5, c6, _, _⟩ := id hX))
    all_goals
      go_ret
      exact ⟨by first | rfl | simp_all, hX.bel⟩

theorem subB_self (a : Nat) : subB a a = true := (subB_iff _ _).2 fun _ h => h
theorem subB_trans {a b c : Nat} (h : subB a b = true) (k : subB b c = true) : subB a c = true := (subB_iff _ _).2 fun j hj => (subB_iff _ _).1 k j ((subB_iff _ _).1 h j hj)
theorem subB_anti {a b : Nat} (h : subB a b = true) (k : subB b a = true) : a = b := eq_of_bits fun j => ⟨(subB_iff _ _).1 h j, (subB_iff _ _).1 k j⟩
theorem belB_iff (l1 s1 l2 s2 : Nat) : belB l1 s1 l2 s2 = true ↔ l1 ≤ l2 ∧ subB s1 s2 = true := by simp [belB]
theorem belB_self (l s : Nat) : belB l s l s = true := (belB_iff _ _ _ _).2 ⟨Nat.le_refl _, subB_self s⟩
theorem belB_trans {l1 s1 l2 s2 l3 s3 : Nat} (h : belB l1 s1 l2 s2 = true) (k : belB l2 s2 l3 s3 = true) : belB l1 s1 l3 s3 = true := by
  rw [belB_iff] at h k ⊢
  exact ⟨Nat.le_trans h.1 k.1, subB_trans h.2 k.2⟩
theorem belB_anti {l1 s1 l2 s2 : Nat} (h : belB l1 s1 l2 s2 = true) (k : belB l2 s2 l1 s1 = true) : l1 = l2 ∧ s1 = s2 := by
  rw [belB_iff] at h k
  exact ⟨Nat.le_antisymm h.1 k.1, subB_anti h.2 k.2⟩
theorem ord4_of (la sa lb sb lc sc : Nat) : Ord4 la sa lb sb (belB la sa lb sb) (belB lb sb la sa) (belB lb sb lc sc) (belB la sa lc sc) := by
  have hne : ¬ (la = lb ∧ sa = sb) → ((la : Int) == (lb : Int)) = false ∨ ((la : Int) = (lb : Int) ∧ ((sa : Int) == (sb : Int)) = false) := fun h => by
    by_cases e : la = lb
    · exact .inr ⟨by omega, by simp; omega⟩
    · exact .inl (by simp; omega)
  have hz : belB la sa lb sb = true → belB lb sb lc sc = false ∨ (belB lb sb lc sc = true ∧ belB la sa lc sc = true) := fun h => by
    cases k : belB lb sb lc sc
    · exact .inl rfl
    · exact .inr ⟨rfl, belB_trans h k⟩
  unfold Ord4
  cases h : belB la sa lb sb
  · exact .inl ⟨rfl, hne fun ⟨e1, e2⟩ => by subst e1; subst e2; rw [belB_self] at h; cases h⟩
  · cases k : belB lb sb la sa
    · exact .inr (.inl ⟨rfl, rfl, hz h, hne fun ⟨e1, e2⟩ => by subst e1; subst e2; rw [belB_self] at k; cases k⟩)
    · obtain ⟨rfl, rfl⟩ := belB_anti h k
      exact .inr (.inr ⟨rfl, rfl, hz h, rfl, rfl⟩)

theorem IsLab.nat {l s : Int} (h : IsLab l s) : ∃ a b : Nat, l = a ∧ s = b ∧ a ≤ 7 ∧ b < 256 := by
  obtain ⟨h0, h1, h2, h3⟩ := h
  obtain ⟨a, rfl⟩ := Int.eq_ofNat_of_zero_le h0
  obtain ⟨b, rfl⟩ := Int.eq_ofNat_of_zero_le h2
  exact ⟨a, b, rfl, rfl, by omega, by omega⟩
theorem belIs_ok {l1 s1 l2 s2 : Nat} (a1 : l1 ≤ 7) (b1 : s1 < 256) (a2 : l2 ≤ 7) (b2 : s2 < 256) : BelIs l1 s1 l2 s2 (.bool (belB l1 s1 l2 s2)) .nilIface := fun W => labBelow_ok l1 s1 l2 s2 a1 b1 a2 b2 W
theorem belIs_no {l1 s1 l2 s2 : Int} (h : NoTwo l1 s1 l2 s2) : BelIs l1 s1 l2 s2 (.bool false) (.iface 57 (.int .i64 1)) := fun W => labBelow_no l1 s1 l2 s2 h W
theorem noTwo_left {l1 s1 : Int} (h : NoLab l1 s1) (l2 s2 : Int) : NoTwo l1 s1 l2 s2 := .inl h
theorem noTwo_right {l2 s2 : Int} (h : NoLab l2 s2) (l1 s1 : Int) : NoTwo l1 s1 l2 s2 := by
  rcases lab_or l1 s1 with k | k
  · exact .inr ⟨k, h⟩
  · exact .inl k
theorem labOrd_any (la sa lb sb lc sc : Int) (w : World) (hT : Tab w) :
    Calls Tryd.prog 5 #[lab la sa, lab lb sb, lab lc sc] w fun e w' => e = .returned (.bool true) ∧ Below w.heap.size w w' := by
  have hF := fun W (hB : Below w.heap.size w W) => labFact_any W (hT.below hB hT.size)
  rcases lab_or la sa with ha | ha
  · obtain ⟨l1, s1, rfl, rfl, a1, b1⟩ := ha.nat
    have hAA := belIs_ok a1 b1 a1 b1
    rcases lab_or lb sb with hb | hb
    · obtain ⟨l2, s2, rfl, rfl, a2, b2⟩ := hb.nat
      have hAB := belIs_ok a1 b1 a2 b2
      have hBA := belIs_ok a2 b2 a1 b1
      rw [belB_self] at hAA
      rcases lab_or lc sc with hc | hc
      · obtain ⟨l3, s3, rfl, rfl, a3, b3⟩ := hc.nat
        exact labOrd_all _ _ _ _ _ _ _ _ _ _ (ord4_of l1 s1 l2 s2 l3 s3) w hF hAA hAB hBA (belIs_ok a2 b2 a3 b3) (belIs_ok a1 b1 a3 b3)
      · exact labOrd_two _ _ _ _ _ _ 1 _ _ w hF hAA hAB hBA (belIs_no (noTwo_right hc _ _)) (belIs_no (noTwo_right hc _ _))
    · exact labOrd_bad _ _ _ _ _ _ 1 _ _ (.inl rfl) w hF hAA (belIs_no (noTwo_right hb _ _)) (belIs_no (noTwo_left hb _ _))
  · exact labOrd_bad _ _ _ _ _ _ 1 _ _ (.inr rfl) w hF (belIs_no (noTwo_left ha _ _)) (belIs_no (noTwo_left ha _ _)) (belIs_no (noTwo_right ha _ _))
end Go.Proofs.YtkdaaaloibdngaaDoor
