/- The walk of the law LabelBounds. -/
import Derived.WalkKit
import Derived.LoopTactic
import Derived.Test.YtkdaaaloibdngaaDoorLabOrd
namespace Go.Proofs.YtkdaaaloibdngaaDoor
open Go.RowKit
set_option maxRecDepth 100000

/-- What lies in a label's place. -/
structure Pair (B : Nat) (W : World) (x y : Value) : Prop where
  c1 : W.cell? ⟨B, 0, none⟩ = some x
  c2 : W.cell? ⟨B, 1, none⟩ = some y
  lt : B < W.heap.size
theorem Pair.below {B : Nat} {W W' : World} {x y : Value} (h : Pair B W x y) (S : Below W.heap.size W W') : Pair B W' x y :=
  ⟨(S.cell (p := ⟨_, _, none⟩) h.lt).trans h.c1, (S.cell (p := ⟨_, _, none⟩) h.lt).trans h.c2, Nat.lt_of_lt_of_le h.lt S.size⟩
/-- A label in a new place, behind whatever was done since. -/
theorem put_of {w w' : World} {x y : Value} {t : TypeId} (S : Below (w.alloc (.cells #[x, y] t)).heap.size (w.alloc (.cells #[x, y] t)) w') : Pair w.heap.size w' x y ∧ Below w.heap.size w w' := by
  obtain ⟨c1, c2, h, hB⟩ := one_of S
  exact ⟨⟨c1, c2, h⟩, hB⟩
/-- A label is put into a new place. -/
abbrev putW (w : World) (x y : Int) : World := w.alloc (.cells #[.int .i64 x, .int .i64 y] 23)
theorem putW_below (w : World) (x y : Int) : Below w.heap.size w (putW w x y) := (Below.refl _ w).alloc (Nat.le_refl _) _

/-- What a call of Join, or of Meet, answers, from any world. -/
abbrev JoinIs (l1 s1 l2 s2 lj sj : Int) (er : Value) : Prop := ∀ W, Calls Tryd.prog 17 #[lab l1 s1, lab l2 s2] W fun e w' => e = .returned (.tuple #[lab lj sj, er]) ∧ Below W.heap.size W w'
abbrev MeetIs (l1 s1 l2 s2 lm sm : Int) (er : Value) : Prop := ∀ W, Calls Tryd.prog 18 #[lab l1 s1, lab l2 s2] W fun e w' => e = .returned (.tuple #[lab lm sm, er]) ∧ Below W.heap.size W w'

set_option maxHeartbeats 1000000 in
theorem labBnd_bad (la sa lb sb lc sc c : Int) (w : World)
    (hF : ∀ W, Below w.heap.size w W → Calls Tryd.prog 21 #[] W fun e w' => e = .returned (.bool true) ∧ Below W.heap.size W w')
    (hJo : JoinIs la sa lb sb 0 0 (.iface 57 (.int .i64 c))) (hMe : MeetIs la sa lb sb 0 0 (.iface 57 (.int .i64 c))) :
    Calls Tryd.prog 4 #[lab la sa, lab lb sb, lab lc sc] w fun e w' => e = .returned (.bool true) ∧ Below w.heap.size w w' := by
  have hB0 : Below w.heap.size w (((w.alloc (.cells #[.int .i64 la, .int .i64 sa] 23)).alloc (.cells #[.int .i64 lb, .int .i64 sb] 23)).alloc (.cells #[.int .i64 lc, .int .i64 sc] 23)) := (((Below.refl _ w).alloc (Nat.le_refl _) _).alloc (by simp) _).alloc (by simp; omega) _
  go_enter Tryd.func4, Tryd.ntmps4
  go_wp2_with (first | (go_at_call 21; refine (hF _ hB0).mono ?_; clear hF; rintro e w1 ⟨rfl, S⟩; have hX := Lab3.of S; clear S; obtain ⟨c1, c2, c3, c4, c5, c6, _, _⟩ := id hX) | (go_at_call 17; refine (hJo _).mono ?_; clear hJo; rintro e w2 ⟨rfl, S⟩; replace hX := hX.below S; clear S c1 c2 c3 c4 c5 c6; obtain ⟨c1, c2, c3, c4, c5, c6, _, _⟩ := id hX; obtain ⟨d1, d2, d3, d4, d5, d6, _, _⟩ := hX.below (putW_below w2 0 0)) | (go_at_call 18; refine (hMe _).mono ?_; clear hMe; rintro e w3 ⟨rfl, S⟩; obtain ⟨hJ, S'⟩ := put_of S; replace hX := hX.below S'; clear S c1 c2 c3 c4 c5 c6 d1 d2 d3 d4 d5 d6 S'; obtain ⟨c1, c2, c3, c4, c5, c6, _, _⟩ := id hX; obtain ⟨j1, j2, _⟩ := id hJ; obtain ⟨d1, d2, d3, d4, d5, d6, _, _⟩ := hX.below (putW_below w3 0 0); obtain ⟨k1, k2, _⟩ := hJ.below (putW_below w3 0 0)))
  go_ret
  exact ⟨rfl, hX.bel.alloc hX.bel.size _⟩

set_option maxHeartbeats 1000000 in
theorem labBnd_two (la sa lb sb lc sc lj sj lm sm c : Int) (w : World)
    (hF : ∀ W, Below w.heap.size w W → Calls Tryd.prog 21 #[] W fun e w' => e = .returned (.bool true) ∧ Below W.heap.size W w')
    (hJo : JoinIs la sa lb sb lj sj .nilIface) (hMe : MeetIs la sa lb sb lm sm .nilIface)
    (hAJ : BelIs la sa lj sj (.bool true) .nilIface) (hBJ : BelIs lb sb lj sj (.bool true) .nilIface) (hMA : BelIs lm sm la sa (.bool true) .nilIface) (hMB : BelIs lm sm lb sb (.bool true) .nilIface)
    (hAC : BelIs la sa lc sc (.bool false) (.iface 57 (.int .i64 c))) (hBC : BelIs lb sb lc sc (.bool false) (.iface 57 (.int .i64 c))) (hJC : BelIs lj sj lc sc (.bool false) (.iface 57 (.int .i64 c))) :
    Calls Tryd.prog 4 #[lab la sa, lab lb sb, lab lc sc] w fun e w' => e = .returned (.bool true) ∧ Below w.heap.size w w' := by
  have hB0 : Below w.heap.size w (((w.alloc (.cells #[.int .i64 la, .int .i64 sa] 23)).alloc (.cells #[.int .i64 lb, .int .i64 sb] 23)).alloc (.cells #[.int .i64 lc, .int .i64 sc] 23)) := (((Below.refl _ w).alloc (Nat.le_refl _) _).alloc (by simp) _).alloc (by simp; omega) _
  go_enter Tryd.func4, Tryd.ntmps4
  go_wp2_with (first | (go_at_call 21; refine (hF _ hB0).mono ?_; clear hF; rintro e w1 ⟨rfl, S⟩; have hX := Lab3.of S; clear S; obtain ⟨c1, c2, c3, c4, c5, c6, _, _⟩ := id hX) | (go_at_call 17; refine (hJo _).mono ?_; clear hJo; rintro e w2 ⟨rfl, S⟩; replace hX := hX.below S; clear S c1 c2 c3 c4 c5 c6; obtain ⟨c1, c2, c3, c4, c5, c6, _, _⟩ := id hX; obtain ⟨d1, d2, d3, d4, d5, d6, _, _⟩ := hX.below (putW_below w2 lj sj)) | (go_at_call 18; refine (hMe _).mono ?_; clear hMe; rintro e w3 ⟨rfl, S⟩; obtain ⟨hJ, S'⟩ := put_of S; replace hX := hX.below S'; clear S c1 c2 c3 c4 c5 c6 d1 d2 d3 d4 d5 d6 S'; obtain ⟨c1, c2, c3, c4, c5, c6, _, _⟩ := id hX; obtain ⟨j1, j2, _⟩ := id hJ; obtain ⟨d1, d2, d3, d4, d5, d6, _, _⟩ := hX.below (putW_below w3 lm sm); obtain ⟨k1, k2, _⟩ := hJ.below (putW_below w3 lm sm)) | (go_at_call 16; refine (hAJ _).mono ?_; clear hAJ; rintro e w4 ⟨rfl, S⟩; obtain ⟨hM, S'⟩ := put_of S; replace hX := hX.below S'; replace hJ := hJ.below S'; clear S c1 c2 c3 c4 c5 c6 d1 d2 d3 d4 d5 d6 k1 k2 S' j1 j2; obtain ⟨c1, c2, c3, c4, c5, c6, _, _⟩ := id hX; obtain ⟨j1, j2, _⟩ := id hJ; obtain ⟨m1, m2, _⟩ := id hM) | (go_at_call 16; refine (hBJ _).mono ?_; clear hBJ; rintro e w5 ⟨rfl, S⟩; replace hX := hX.below S; replace hJ := hJ.below S; replace hM := hM.below S; clear S c1 c2 c3 c4 c5 c6 j1 j2 m1 m2; obtain ⟨c1, c2, c3, c4, c5, c6, _, _⟩ := id hX; obtain ⟨j1, j2, _⟩ := id hJ; obtain ⟨m1, m2, _⟩ := id hM) | (go_at_call 16; refine (hMA _).mono ?_; clear hMA; rintro e w6 ⟨rfl, S⟩; replace hX := hX.below S; replace hJ := hJ.below S; replace hM := hM.below S; clear S c1 c2 c3 c4 c5 c6 j1 j2 m1 m2; obtain ⟨c1, c2, c3, c4, c5, c6, _, _⟩ := id hX; obtain ⟨j1, j2, _⟩ := id hJ; obtain ⟨m1, m2, _⟩ := id hM) | (go_at_call 16; refine (hMB _).mono ?_; clear hMB; rintro e w7 ⟨rfl, S⟩; replace hX := hX.below S; replace hJ := hJ.below S; replace hM := hM.below S; clear S c1 c2 c3 c4 c5 c6 j1 j2 m1 m2; obtain ⟨c1, c2, c3, c4, c5, c6, _, _⟩ := id hX; obtain ⟨j1, j2, _⟩ := id hJ; obtain ⟨m1, m2, _⟩ := id hM) | (go_at_call 16; refine (hAC _).mono ?_; clear hAC; rintro e w8 ⟨rfl, S⟩; replace hX := hX.below S; replace hJ := hJ.below S; replace hM := hM.below S; clear S c1 c2 c3 c4 c5 c6 j1 j2 m1 m2; obtain ⟨c1, c2, c3, c4, c5, c6, _, _⟩ := id hX; obtain ⟨j1, j2, _⟩ := id hJ; obtain ⟨m1, m2, _⟩ := id hM) | (go_at_call 16; refine (hBC _).mono ?_; clear hBC; rintro e w9 ⟨rfl, S⟩; replace hX := hX.below S; replace hJ := hJ.below S; replace hM := hM.below S; clear S c1 c2 c3 c4 c5 c6 j1 j2 m1 m2; obtain ⟨c1, c2, c3, c4, c5, c6, _, _⟩ := id hX; obtain ⟨j1, j2, _⟩ := id hJ; obtain ⟨m1, m2, _⟩ := id hM) | (go_at_call 16; refine (hJC _).mono ?_; clear hJC; rintro e w10 ⟨rfl, S⟩; replace hX := hX.below S; replace hJ := hJ.below S; replace hM := hM.below S; clear S c1 c2 c3 c4 c5 c6 j1 j2 m1 m2; obtain ⟨c1, c2, c3, c4, c5, c6, _, _⟩ := id hX; obtain ⟨j1, j2, _⟩ := id hJ; obtain ⟨m1, m2, _⟩ := id hM))
  go_ret
  exact ⟨rfl, hX.bel⟩

set_option maxHeartbeats 2000000 in
theorem labBnd_all (la sa lb sb lc sc lj sj lm sm : Int) (t u v p q r : Bool) (h1 : (t = false ∧ v = false) ∨ (t = true ∧ v = u)) (h2 : (p = false ∧ r = false) ∨ (p = true ∧ r = q)) (w : World)
    (hF : ∀ W, Below w.heap.size w W → Calls Tryd.prog 21 #[] W fun e w' => e = .returned (.bool true) ∧ Below W.heap.size W w')
    (hJo : JoinIs la sa lb sb lj sj .nilIface) (hMe : MeetIs la sa lb sb lm sm .nilIface)
    (hAJ : BelIs la sa lj sj (.bool true) .nilIface) (hBJ : BelIs lb sb lj sj (.bool true) .nilIface) (hMA : BelIs lm sm la sa (.bool true) .nilIface) (hMB : BelIs lm sm lb sb (.bool true) .nilIface)
    (hAC : BelIs la sa lc sc (.bool t) .nilIface) (hBC : BelIs lb sb lc sc (.bool u) .nilIface) (hJC : BelIs lj sj lc sc (.bool v) .nilIface)
    (hCA : BelIs lc sc la sa (.bool p) .nilIface) (hCB : BelIs lc sc lb sb (.bool q) .nilIface) (hCM : BelIs lc sc lm sm (.bool r) .nilIface) :
    Calls Tryd.prog 4 #[lab la sa, lab lb sb, lab lc sc] w fun e w' => e = .returned (.bool true) ∧ Below w.heap.size w w' := by
  have hB0 : Below w.heap.size w (((w.alloc (.cells #[.int .i64 la, .int .i64 sa] 23)).alloc (.cells #[.int .i64 lb, .int .i64 sb] 23)).alloc (.cells #[.int .i64 lc, .int .i64 sc] 23)) := (((Below.refl _ w).alloc (Nat.le_refl _) _).alloc (by simp) _).alloc (by simp; omega) _
  rcases h1 with ⟨rfl, rfl⟩ | ⟨rfl, rfl⟩ <;> rcases h2 with ⟨rfl, rfl⟩ | ⟨rfl, rfl⟩
  all_goals as_aux_lemma =>
    go_enter Tryd.func4, Tryd.ntmps4
    go_wp2_with (first | (go_at_call 21; refine (hF _ hB0).mono ?_; clear hF; rintro e w1 ⟨rfl, S⟩; have hX := Lab3.of S; clear S; obtain ⟨c1, c2, c3, c4, c5, c6, _, _⟩ := id hX) | (go_at_call 17; refine (hJo _).mono ?_; clear hJo; rintro e w2 ⟨rfl, S⟩; replace hX := hX.below S; clear S c1 c2 c3 c4 c5 c6; obtain ⟨c1, c2, c3, c4, c5, c6, _, _⟩ := id hX; obtain ⟨d1, d2, d3, d4, d5, d6, _, _⟩ := hX.below (putW_below w2 lj sj)) | (go_at_call 18; refine (hMe _).mono ?_; clear hMe; rintro e w3 ⟨rfl, S⟩; obtain ⟨hJ, S'⟩ := put_of S; replace hX := hX.below S'; clear S c1 c2 c3 c4 c5 c6 d1 d2 d3 d4 d5 d6 S'; obtain ⟨c1, c2, c3, c4, c5, c6, _, _⟩ := id hX; obtain ⟨j1, j2, _⟩ := id hJ; obtain ⟨d1, d2, d3, d4, d5, d6, _, _⟩ := hX.below (putW_below w3 lm sm); obtain ⟨k1, k2, _⟩ := hJ.below (putW_below w3 lm sm)) | (go_at_call 16; refine (hAJ _).mono ?_; clear hAJ; rintro e w4 ⟨rfl, S⟩; obtain ⟨hM, S'⟩ := put_of S; replace hX := hX.below S'; replace hJ := hJ.below S'; clear S c1 c2 c3 c4 c5 c6 d1 d2 d3 d4 d5 d6 k1 k2 S' j1 j2; obtain ⟨c1, c2, c3, c4, c5, c6, _, _⟩ := id hX; obtain ⟨j1, j2, _⟩ := id hJ; obtain ⟨m1, m2, _⟩ := id hM) | (go_at_call 16; refine (hBJ _).mono ?_; clear hBJ; rintro e w5 ⟨rfl, S⟩; replace hX := hX.below S; replace hJ := hJ.below S; replace hM := hM.below S; clear S c1 c2 c3 c4 c5 c6 j1 j2 m1 m2; obtain ⟨c1, c2, c3, c4, c5, c6, _, _⟩ := id hX; obtain ⟨j1, j2, _⟩ := id hJ; obtain ⟨m1, m2, _⟩ := id hM) | (go_at_call 16; refine (hMA _).mono ?_; clear hMA; rintro e w6 ⟨rfl, S⟩; replace hX := hX.below S; replace hJ := hJ.below S; replace hM := hM.below S; clear S c1 c2 c3 c4 c5 c6 j1 j2 m1 m2; obtain ⟨c1, c2, c3, c4, c5, c6, _, _⟩ := id hX; obtain ⟨j1, j2, _⟩ := id hJ; obtain ⟨m1, m2, _⟩ := id hM) | (go_at_call 16; refine (hMB _).mono ?_; clear hMB; rintro e w7 ⟨rfl, S⟩; replace hX := hX.below S; replace hJ := hJ.below S; replace hM := hM.below S; clear S c1 c2 c3 c4 c5 c6 j1 j2 m1 m2; obtain ⟨c1, c2, c3, c4, c5, c6, _, _⟩ := id hX; obtain ⟨j1, j2, _⟩ := id hJ; obtain ⟨m1, m2, _⟩ := id hM) | (go_at_call 16; refine (hAC _).mono ?_; clear hAC; rintro e w8 ⟨rfl, S⟩; replace hX := hX.below S; replace hJ := hJ.below S; replace hM := hM.below S; clear S c1 c2 c3 c4 c5 c6 j1 j2 m1 m2; obtain ⟨c1, c2, c3, c4, c5, c6, _, _⟩ := id hX; obtain ⟨j1, j2, _⟩ := id hJ; obtain ⟨m1, m2, _⟩ := id hM) | (go_at_call 16; refine (hBC _).mono ?_; clear hBC; rintro e w9 ⟨rfl, S⟩; replace hX := hX.below S; replace hJ := hJ.below S; replace hM := hM.below S; clear S c1 c2 c3 c4 c5 c6 j1 j2 m1 m2; obtain ⟨c1, c2, c3, c4, c5, c6, _, _⟩ := id hX; obtain ⟨j1, j2, _⟩ := id hJ; obtain ⟨m1, m2, _⟩ := id hM) | (go_at_call 16; refine (hJC _).mono ?_; clear hJC; rintro e w10 ⟨rfl, S⟩; replace hX := hX.below S; replace hJ := hJ.below S; replace hM := hM.below S; clear S c1 c2 c3 c4 c5 c6 j1 j2 m1 m2; obtain ⟨c1, c2, c3, c4, c5, c6, _, _⟩ := id hX; obtain ⟨j1, j2, _⟩ := id hJ; obtain ⟨m1, m2, _⟩ := id hM) | (go_at_call 16; refine (hCA _).mono ?_; clear hCA; rintro e w11 ⟨rfl, S⟩; replace hX := hX.below S; replace hJ := hJ.below S; replace hM := hM.below S; clear S c1 c2 c3 c4 c5 c6 j1 j2 m1 m2; obtain ⟨c1, c2, c3, c4, c5, c6, _, _⟩ := id hX; obtain ⟨j1, j2, _⟩ := id hJ; obtain ⟨m1, m2, _⟩ := id hM) | (go_at_call 16; refine (hCB _).mono ?_; clear hCB; rintro e w12 ⟨rfl, S⟩; replace hX := hX.below S; replace hJ := hJ.below S; replace hM := hM.below S; clear S c1 c2 c3 c4 c5 c6 j1 j2 m1 m2; obtain ⟨c1, c2, c3, c4, c5, c6, _, _⟩ := id hX; obtain ⟨j1, j2, _⟩ := id hJ; obtain ⟨m1, m2, _⟩ := id hM) | (go_at_call 16; refine (hCM _).mono ?_; clear hCM; rintro e w13 ⟨rfl, S⟩; replace hX := hX.below S; replace hJ := hJ.below S; replace hM := hM.below S; clear S c1 c2 c3 c4 c5 c6 j1 j2 m1 m2; obtain ⟨c1, c2, c3, c4, c5, c6, _, _⟩ := id hX; obtain ⟨j1, j2, _⟩ := id hJ; obtain ⟨m1, m2, _⟩ := id hM))
    go_ret
    exact ⟨by first | rfl | simp, hX.bel⟩

theorem subB_or {a b c : Nat} : subB (a ||| b) c = (subB a c && subB b c) := by
  rw [Bool.eq_iff_iff, Bool.and_eq_true, subB_iff, subB_iff, subB_iff]
  simp only [Nat.testBit_or, Bool.or_eq_true]
  exact ⟨fun h => ⟨fun j hj => h j (.inl hj), fun j hj => h j (.inr hj)⟩, fun ⟨h, k⟩ j hj => hj.elim (h j) (k j)⟩
theorem subB_and {a b c : Nat} : subB c (a &&& b) = (subB c a && subB c b) := by
  rw [Bool.eq_iff_iff, Bool.and_eq_true, subB_iff, subB_iff, subB_iff]
  simp only [Nat.testBit_and, Bool.and_eq_true]
  exact ⟨fun h => ⟨fun j hj => (h j hj).1, fun j hj => (h j hj).2⟩, fun ⟨h, k⟩ j hj => ⟨h j hj, k j hj⟩⟩
theorem belB_join (l1 s1 l2 s2 l s : Nat) : belB (max l1 l2) (s1 ||| s2) l s = (belB l1 s1 l s && belB l2 s2 l s) := by
  rw [Bool.eq_iff_iff, Bool.and_eq_true, belB_iff, belB_iff, belB_iff, subB_or, Bool.and_eq_true]
  exact ⟨fun ⟨h, k1, k2⟩ => ⟨⟨by omega, k1⟩, by omega, k2⟩, fun ⟨⟨h1, k1⟩, h2, k2⟩ => ⟨by omega, k1, k2⟩⟩
theorem belB_meet (l1 s1 l2 s2 l s : Nat) : belB l s (min l1 l2) (s1 &&& s2) = (belB l s l1 s1 && belB l s l2 s2) := by
  rw [Bool.eq_iff_iff, Bool.and_eq_true, belB_iff, belB_iff, belB_iff, subB_and, Bool.and_eq_true]
  exact ⟨fun ⟨h, k1, k2⟩ => ⟨⟨by omega, k1⟩, by omega, k2⟩, fun ⟨⟨h1, k1⟩, h2, k2⟩ => ⟨by omega, k1, k2⟩⟩
theorem or_lt8 {a b : Nat} (h : a < 256) (k : b < 256) : a ||| b < 256 := Nat.or_lt_two_pow (n := 8) h k
theorem and_lt8 {a b : Nat} (h : a < 256) : a &&& b < 256 := Nat.lt_of_le_of_lt Nat.and_le_left h
theorem ab_cases (t u : Bool) : (t = false ∧ (t && u) = false) ∨ (t = true ∧ (t && u) = u) := by cases t <;> simp

theorem labBnd_any (la sa lb sb lc sc : Int) (w : World) (hT : Tab w) :
    Calls Tryd.prog 4 #[lab la sa, lab lb sb, lab lc sc] w fun e w' => e = .returned (.bool true) ∧ Below w.heap.size w w' := by
  have hF := fun W (hB : Below w.heap.size w W) => labFact_any W (hT.below hB hT.size)
  rcases two_or la sa lb sb with ⟨ha, hb⟩ | hn
  · obtain ⟨l1, s1, rfl, rfl, a1, b1⟩ := ha.nat
    obtain ⟨l2, s2, rfl, rfl, a2, b2⟩ := hb.nat
    have aj : max l1 l2 ≤ 7 := by omega
    have am : min l1 l2 ≤ 7 := by omega
    have bj := or_lt8 b1 b2
    have bm := and_lt8 (b := s2) b1
    have hJo : JoinIs l1 s1 l2 s2 (max l1 l2 : Nat) (s1 ||| s2 : Nat) .nilIface := fun W => labJoin_ok l1 s1 l2 s2 a1 b1 a2 b2 W
    have hMe : MeetIs l1 s1 l2 s2 (min l1 l2 : Nat) (s1 &&& s2 : Nat) .nilIface := fun W => labMeet_ok l1 s1 l2 s2 a1 b1 a2 b2 W
    have kj := (belB_join l1 s1 l2 s2 (max l1 l2) (s1 ||| s2)).symm
    rw [belB_self, Bool.and_eq_true] at kj
    have km := (belB_meet l1 s1 l2 s2 (min l1 l2) (s1 &&& s2)).symm
    rw [belB_self, Bool.and_eq_true] at km
    have hAJ := belIs_ok a1 b1 aj bj
    have hBJ := belIs_ok a2 b2 aj bj
    have hMA := belIs_ok am bm a1 b1
    have hMB := belIs_ok am bm a2 b2
    rw [kj.1] at hAJ
    rw [kj.2] at hBJ
    rw [km.1] at hMA
    rw [km.2] at hMB
    rcases lab_or lc sc with hc | hc
    · obtain ⟨l3, s3, rfl, rfl, a3, b3⟩ := hc.nat
      have hJC := belIs_ok aj bj a3 b3
      have hCM := belIs_ok a3 b3 am bm
      rw [belB_join] at hJC
      rw [belB_meet] at hCM
      exact labBnd_all _ _ _ _ _ _ _ _ _ _ _ _ _ _ _ _ (ab_cases _ _) (ab_cases _ _) w hF hJo hMe hAJ hBJ hMA hMB (belIs_ok a1 b1 a3 b3) (belIs_ok a2 b2 a3 b3) hJC (belIs_ok a3 b3 a1 b1) (belIs_ok a3 b3 a2 b2) hCM
    · exact labBnd_two _ _ _ _ _ _ _ _ _ _ 1 w hF hJo hMe hAJ hBJ hMA hMB (belIs_no (noTwo_right hc _ _)) (belIs_no (noTwo_right hc _ _)) (belIs_no (noTwo_right hc _ _))
  · exact labBnd_bad _ _ _ _ _ _ 1 w hF (fun W => labJoin_no _ _ _ _ hn W) (fun W => labMeet_no _ _ _ _ hn W)
end Go.Proofs.YtkdaaaloibdngaaDoor
