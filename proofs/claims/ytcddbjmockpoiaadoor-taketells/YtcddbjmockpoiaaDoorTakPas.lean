/- The document's steps by which rights pass (passed), and how many vertices are new (news). -/
import Derived.WalkKit
import Derived.LoopTactic
import Derived.OwnWalk
import Derived.Maps.AppendAt
import Derived.Test.YtcddbjmockpoiaaDoorTakPl
namespace Go.Proofs.YtcddbjmockpoiaaDoor
open Go.RowKit
set_option maxRecDepth 100000

theorem rowS_new (w : World) (s : Stp) : (w.alloc (.cells #[.int .i64 s.k, .int .i64 s.who, .int .i64 s.of, .int .i64 s.to, .int .i64 s.r] 56)).ownsRow w.heap.size 56 5 (.slice (some ⟨w.heap.size, 0, none⟩) 1 1) 1 (stpC s) :=
  ⟨by simp [stpC], .inr ⟨w.heap.size, 1, #[.int .i64 s.k, .int .i64 s.who, .int .i64 s.of, .int .i64 s.to, .int .i64 s.r], rfl, Nat.le_refl _, World.alloc_heap_new w _, by omega, by decide, by simp, by simp [stpC]⟩⟩
theorem grown_stp {w W w3 : World} {n : Nat} {v : Value} {xs : List Value} {o : Obj} (hB : Below w.heap.size w W) (hown : W.ownsRow w.heap.size 56 5 v n xs) (hg : (W.alloc o).grownBy w3 v.ownBlock) : Below w.heap.size w w3 :=
  (hB.alloc hB.size o).grown hg (by have := hB.size; simp; omega) fun k hk => (hown.lt k hk).1
theorem bit_has {x : Nat} (hx : x < 8) : x.testBit 0 = hasB x 1 ∧ x.testBit 1 = hasB x 2 := by
  have h : ∀ k, k < 8 → k.testBit 0 = hasB k 1 ∧ k.testBit 1 = hasB k 2 := by decide
  exact h x hx
section
variable {w : World} {b0 off : Nat} {B O C : Nat → Nat} {g : Gr}
set_option maxHeartbeats 2000000 in
theorem refPassed_any (hG0 : GrAt w b0 off B O C g) (ok : g.Ok) (cp a b T R vt : Nat) (ha : a < g.n) (hb : b < g.n) :
    Calls Tryd.prog 33 #[.slice (some ⟨b0, off, none⟩) g.n cp, .int .i64 a, .int .i64 b, .int .i64 T, .int .i64 R, .int .i64 vt] w fun e w' => ∃ v, e = .returned v ∧ w'.ownsRow w.heap.size 56 5 v (passL g R T b a vt).length (flatS (passL g R T b a vt)) ∧ Below w.heap.size w w' := by
  obtain ⟨i0, hi0, hz0, hz1, hz2⟩ := info_parts infoStp
  have hle := ok.le
  have haI : (a : Int) < (g.n : Int) := by omega
  have hbI : (b : Int) < (g.n : Int) := by omega
  have a1 := hG0.top a ha
  have a2 := hG0.cell a b ha hb
  have a3 := hG0.top b hb
  have a4 := hG0.cell b a hb ha
  have m1 := ok.lt a b
  have m2 := ok.lt b a
  have u1 : ∀ W, Calls Tryd.prog 37 #[.int .i64 ((g.M a b : Nat) : Int), .int .i64 0] W fun e w' => e = .returned (.bool ((g.M a b).testBit 0)) ∧ w' = W := fun W => bit_any (g.M a b) 0 (by omega) (by decide) W
  have u2 : ∀ W, Calls Tryd.prog 37 #[.int .i64 ((g.M b a : Nat) : Int), .int .i64 1] W fun e w' => e = .returned (.bool ((g.M b a).testBit 1)) ∧ w' = W := fun W => bit_any (g.M b a) 1 (by omega) (by decide) W
  have u3 : ∀ W, Calls Tryd.prog 37 #[.int .i64 ((g.M b a : Nat) : Int), .int .i64 0] W fun e w' => e = .returned (.bool ((g.M b a).testBit 0)) ∧ w' = W := fun W => bit_any (g.M b a) 0 (by omega) (by decide) W
  rw [(bit_has m1).1] at u1
  rw [(bit_has m2).2] at u2
  rw [(bit_has m2).1] at u3
  have HL : Hid (passL g R T b a vt = if hasB (g.M a b) 1 = true then [⟨0, a, b, T, R⟩] else if hasB (g.M b a) 2 = true then [⟨1, b, a, T, R⟩] else [⟨2, a, 0, 0, 0⟩, (if hasB (g.M b a) 1 = true then ⟨0, b, a, vt, 2⟩ else ⟨1, a, b, vt, 2⟩), ⟨1, b, vt, T, R⟩, ⟨0, a, vt, T, R⟩]) := rfl
  obtain ⟨x1, hx1⟩ : ∃ x, g.M a b = x := ⟨_, rfl⟩
  obtain ⟨x2, hx2⟩ : ∃ x, g.M b a = x := ⟨_, rfl⟩
  have HX2 : Hid (g.M b a = x2) := hx2
  rw [hx1] at a2 m1 u1 HL
  rw [hx2] at a4 m2 u2 u3 HL
  clear hx1 hx2
  cases q1 : hasB x1 1 with
  | true =>
    rw [q1] at u1 HL
    have HL : Hid (passL g R T b a vt = [⟨0, a, b, T, R⟩]) := HL.out
    have hown := rowS_new w ⟨0, a, b, T, R⟩
    have hB1 : Below w.heap.size w (w.alloc (.cells #[.int .i64 0, .int .i64 (a : Int), .int .i64 (b : Int), .int .i64 (T : Int), .int .i64 (R : Int)] 56)) := (Below.refl _ w).alloc (Nat.le_refl _) _
    have HO : Hid (∀ l : List Stp, l = [⟨0, a, b, T, R⟩] → (w.alloc (.cells #[.int .i64 0, .int .i64 (a : Int), .int .i64 (b : Int), .int .i64 (T : Int), .int .i64 (R : Int)] 56)).ownsRow w.heap.size 56 5 (.slice (some ⟨w.heap.size, 0, none⟩) 1 1) l.length (flatS l)) := fun l e => by subst e; simpa [flatS] using hown
    clear q1 u2 u3 hG0 hown
    go_enter Tryd.func33, Tryd.ntmps33
    go_wp2_with (go_at_call 37; (with_reducible refine (u1 _).mono ?_); clear u1; rintro e w' ⟨rfl, hw⟩; obtain rfl := hw.symm)
    go_ret
    exact ⟨_, rfl, HO.out _ HL.out, hB1⟩
  | false =>
    rw [q1] at u1 HL
    cases q2 : hasB x2 2 with
    | true =>
      rw [q2] at u2 HL
      have HL : Hid (passL g R T b a vt = [⟨1, b, a, T, R⟩]) := HL.out
      have hown := rowS_new w ⟨1, b, a, T, R⟩
      have hB1 : Below w.heap.size w (w.alloc (.cells #[.int .i64 1, .int .i64 (b : Int), .int .i64 (a : Int), .int .i64 (T : Int), .int .i64 (R : Int)] 56)) := (Below.refl _ w).alloc (Nat.le_refl _) _
      have HO : Hid (∀ l : List Stp, l = [⟨1, b, a, T, R⟩] → (w.alloc (.cells #[.int .i64 1, .int .i64 (b : Int), .int .i64 (a : Int), .int .i64 (T : Int), .int .i64 (R : Int)] 56)).ownsRow w.heap.size 56 5 (.slice (some ⟨w.heap.size, 0, none⟩) 1 1) l.length (flatS l)) := fun l e => by subst e; simpa [flatS] using hown
      clear q1 q2 u3 hG0 hown
      go_enter Tryd.func33, Tryd.ntmps33
      go_wp2_with (first | (go_at_call 37; (with_reducible refine (u1 _).mono ?_); clear u1; rintro e w' ⟨rfl, hw⟩; obtain rfl := hw.symm) | (go_at_call 37; (with_reducible refine (u2 _).mono ?_); clear u2; rintro e w' ⟨rfl, hw⟩; obtain rfl := hw.symm))
      go_ret
      exact ⟨_, rfl, HO.out _ HL.out, hB1⟩
    | false =>
      rw [q2] at u2 HL
      cases q3 : hasB x2 1 with
      | true =>
        rw [q3] at u3 HL
        have HL : Hid (passL g R T b a vt = [⟨2, a, 0, 0, 0⟩, ⟨0, b, a, vt, 2⟩, ⟨1, b, vt, T, R⟩, ⟨0, a, vt, T, R⟩]) := HL.out
        have HF : Hid (∀ w' v, World.ownsRow w' w.heap.size 56 5 v 4 (((stpC ⟨2, (a : Int), 0, 0, 0⟩ ++ stpC ⟨0, b, a, vt, 2⟩) ++ stpC ⟨1, b, vt, T, R⟩) ++ stpC ⟨0, a, vt, T, R⟩) → ∀ l : List Stp, l = [⟨2, a, 0, 0, 0⟩, ⟨0, b, a, vt, 2⟩, ⟨1, b, vt, T, R⟩, ⟨0, a, vt, T, R⟩] → w'.ownsRow w.heap.size 56 5 v l.length (flatS l)) := fun w' v h l e => by subst e; simpa [flatS] using h
        have hown1 := rowS_new w ⟨2, (a : Int), 0, 0, 0⟩
        have hB1 : Below w.heap.size w (w.alloc (.cells #[.int .i64 2, .int .i64 (a : Int), .int .i64 0, .int .i64 0, .int .i64 0] 56)) := (Below.refl _ w).alloc (Nat.le_refl _) _
        have hG1 := hG0.below hB1
        have d1 := hG1.top b hb
        have d2 := hG1.cell b a hb ha
        rw [HX2.out] at d2
        obtain ⟨W1, hW1⟩ : ∃ W, w.alloc (.cells #[.int .i64 2, .int .i64 (a : Int), .int .i64 0, .int .i64 0, .int .i64 0] 56) = W := ⟨_, rfl⟩
        rw [hW1] at d1 d2 hB1
        have hown1 : W1.ownsRow w.heap.size 56 5 (.slice (some ⟨w.heap.size, 0, none⟩) 1 1) 1 (stpC ⟨2, (a : Int), 0, 0, 0⟩) := by rw [← hW1]; exact hown1
        clear hG1 hG0 q1 q2 q3
        go_enter Tryd.func33, Tryd.ntmps33
        go_wp2_with (first | (go_at_call 37; (with_reducible refine (u1 _).mono ?_); clear u1; rintro e w' ⟨rfl, hw⟩; obtain rfl := hw.symm) | (go_at_call 37; (with_reducible refine (u2 _).mono ?_); clear u2; rintro e w' ⟨rfl, hw⟩; obtain rfl := hw.symm) | (go_at_call 37; (with_reducible refine (u3 _).mono ?_); clear u3; rintro e w' ⟨rfl, hw⟩; obtain rfl := hw.symm) | (at_builtin; refine wpList_append_own _ rfl _ _ 23 rfl w.heap.size 56 i0 (.agg #[.int .i64 0, .int .i64 0, .int .i64 0, .int .i64 0, .int .i64 0]) 5 40 Tryd.underlying23 hi0 hz0 hz1 hz2 rfl (by decide) _ 1 _ rfl (hown1.alloc _) ⟨_, 0, none⟩ 1 1 (stpC ⟨0, b, a, vt, 2⟩) rfl rfl (cell_five_new W1 ⟨0, b, a, vt, 2⟩ _) (stpC_one ⟨0, b, a, vt, 2⟩) (by unfold maxLen; omega) (by omega) (by have := hB1.size; simp; omega) ?_; intro v2 w2 hown2 hg2 _; have hB2 := grown_stp hB1 hown1 hg2; clear hown1 hB1 hg2; obtain ⟨g2, c2, rfl⟩ := row_someK hown2 (by omega)) | (at_builtin; refine wpList_append_own _ rfl _ _ 23 rfl w.heap.size 56 i0 (.agg #[.int .i64 0, .int .i64 0, .int .i64 0, .int .i64 0, .int .i64 0]) 5 40 Tryd.underlying23 hi0 hz0 hz1 hz2 rfl (by decide) _ 2 _ rfl (hown2.alloc _) ⟨_, 0, none⟩ 1 1 (stpC ⟨1, b, vt, T, R⟩) rfl rfl (cell_five_new w2 ⟨1, b, vt, T, R⟩ _) (stpC_one ⟨1, b, vt, T, R⟩) (by unfold maxLen; omega) (by omega) (by have := hB2.size; simp; omega) ?_; intro v3 w3 hown3 hg3 _; have hB3 := grown_stp hB2 hown2 hg3; clear hown2 hB2 hg3; obtain ⟨g3, c3, rfl⟩ := row_someK hown3 (by omega)) | (at_builtin; refine wpList_append_own _ rfl _ _ 23 rfl w.heap.size 56 i0 (.agg #[.int .i64 0, .int .i64 0, .int .i64 0, .int .i64 0, .int .i64 0]) 5 40 Tryd.underlying23 hi0 hz0 hz1 hz2 rfl (by decide) _ 3 _ rfl (hown3.alloc _) ⟨_, 0, none⟩ 1 1 (stpC ⟨0, a, vt, T, R⟩) rfl rfl (cell_five_new w3 ⟨0, a, vt, T, R⟩ _) (stpC_one ⟨0, a, vt, T, R⟩) (by unfold maxLen; omega) (by omega) (by have := hB3.size; simp; omega) ?_; intro v4 w4 hown4 hg4 _; have hB4 := grown_stp hB3 hown3 hg4; clear hown3 hB3 hg4; obtain ⟨g4, c4, rfl⟩ := row_someK hown4 (by omega)))
        go_ret
        exact ⟨_, rfl, HF.out _ _ hown4 _ HL.out, hB4⟩
      | false =>
        rw [q3] at u3 HL
        have HL : Hid (passL g R T b a vt = [⟨2, a, 0, 0, 0⟩, ⟨1, a, b, vt, 2⟩, ⟨1, b, vt, T, R⟩, ⟨0, a, vt, T, R⟩]) := HL.out
        have HF : Hid (∀ w' v, World.ownsRow w' w.heap.size 56 5 v 4 (((stpC ⟨2, (a : Int), 0, 0, 0⟩ ++ stpC ⟨1, a, b, vt, 2⟩) ++ stpC ⟨1, b, vt, T, R⟩) ++ stpC ⟨0, a, vt, T, R⟩) → ∀ l : List Stp, l = [⟨2, a, 0, 0, 0⟩, ⟨1, a, b, vt, 2⟩, ⟨1, b, vt, T, R⟩, ⟨0, a, vt, T, R⟩] → w'.ownsRow w.heap.size 56 5 v l.length (flatS l)) := fun w' v h l e => by subst e; simpa [flatS] using h
        have hown1 := rowS_new w ⟨2, (a : Int), 0, 0, 0⟩
        have hB1 : Below w.heap.size w (w.alloc (.cells #[.int .i64 2, .int .i64 (a : Int), .int .i64 0, .int .i64 0, .int .i64 0] 56)) := (Below.refl _ w).alloc (Nat.le_refl _) _
        have hG1 := hG0.below hB1
        have d1 := hG1.top b hb
        have d2 := hG1.cell b a hb ha
        rw [HX2.out] at d2
        obtain ⟨W1, hW1⟩ : ∃ W, w.alloc (.cells #[.int .i64 2, .int .i64 (a : Int), .int .i64 0, .int .i64 0, .int .i64 0] 56) = W := ⟨_, rfl⟩
        rw [hW1] at d1 d2 hB1
        have hown1 : W1.ownsRow w.heap.size 56 5 (.slice (some ⟨w.heap.size, 0, none⟩) 1 1) 1 (stpC ⟨2, (a : Int), 0, 0, 0⟩) := by rw [← hW1]; exact hown1
        clear hG1 hG0 q1 q2 q3
        go_enter Tryd.func33, Tryd.ntmps33
        go_wp2_with (first | (go_at_call 37; (with_reducible refine (u1 _).mono ?_); clear u1; rintro e w' ⟨rfl, hw⟩; obtain rfl := hw.symm) | (go_at_call 37; (with_reducible refine (u2 _).mono ?_); clear u2; rintro e w' ⟨rfl, hw⟩; obtain rfl := hw.symm) | (go_at_call 37; (with_reducible refine (u3 _).mono ?_); clear u3; rintro e w' ⟨rfl, hw⟩; obtain rfl := hw.symm) | (at_builtin; refine wpList_append_own _ rfl _ _ 23 rfl w.heap.size 56 i0 (.agg #[.int .i64 0, .int .i64 0, .int .i64 0, .int .i64 0, .int .i64 0]) 5 40 Tryd.underlying23 hi0 hz0 hz1 hz2 rfl (by decide) _ 1 _ rfl (hown1.alloc _) ⟨_, 0, none⟩ 1 1 (stpC ⟨1, a, b, vt, 2⟩) rfl rfl (cell_five_new W1 ⟨1, a, b, vt, 2⟩ _) (stpC_one ⟨1, a, b, vt, 2⟩) (by unfold maxLen; omega) (by omega) (by have := hB1.size; simp; omega) ?_; intro v2 w2 hown2 hg2 _; have hB2 := grown_stp hB1 hown1 hg2; clear hown1 hB1 hg2; obtain ⟨g2, c2, rfl⟩ := row_someK hown2 (by omega)) | (at_builtin; refine wpList_append_own _ rfl _ _ 23 rfl w.heap.size 56 i0 (.agg #[.int .i64 0, .int .i64 0, .int .i64 0, .int .i64 0, .int .i64 0]) 5 40 Tryd.underlying23 hi0 hz0 hz1 hz2 rfl (by decide) _ 2 _ rfl (hown2.alloc _) ⟨_, 0, none⟩ 1 1 (stpC ⟨1, b, vt, T, R⟩) rfl rfl (cell_five_new w2 ⟨1, b, vt, T, R⟩ _) (stpC_one ⟨1, b, vt, T, R⟩) (by unfold maxLen; omega) (by omega) (by have := hB2.size; simp; omega) ?_; intro v3 w3 hown3 hg3 _; have hB3 := grown_stp hB2 hown2 hg3; clear hown2 hB2 hg3; obtain ⟨g3, c3, rfl⟩ := row_someK hown3 (by omega)) | (at_builtin; refine wpList_append_own _ rfl _ _ 23 rfl w.heap.size 56 i0 (.agg #[.int .i64 0, .int .i64 0, .int .i64 0, .int .i64 0, .int .i64 0]) 5 40 Tryd.underlying23 hi0 hz0 hz1 hz2 rfl (by decide) _ 3 _ rfl (hown3.alloc _) ⟨_, 0, none⟩ 1 1 (stpC ⟨0, a, vt, T, R⟩) rfl rfl (cell_five_new w3 ⟨0, a, vt, T, R⟩ _) (stpC_one ⟨0, a, vt, T, R⟩) (by unfold maxLen; omega) (by omega) (by have := hB3.size; simp; omega) ?_; intro v4 w4 hown4 hg4 _; have hB4 := grown_stp hB3 hown3 hg4; clear hown3 hB3 hg4; obtain ⟨g4, c4, rfl⟩ := row_someK hown4 (by omega)))
        go_ret
        exact ⟨_, rfl, HF.out _ _ hown4 _ HL.out, hB4⟩
end
/-- How many steps make a vertex. -/
def newsN (l : List Stp) : Nat := (l.filter fun s => decide (s.k = 2)).length
theorem newsN_app (l l' : List Stp) : newsN (l ++ l') = newsN l + newsN l' := by simp [newsN]
theorem newsN_pass (g : Gr) (R T b a vt : Nat) : newsN (passL g R T b a vt) = passN g b a := by
  unfold passL passN newsN
  split
  · rfl
  · split
    · rfl
    · split <;> rfl
theorem newsN_round (g : Gr) (r over b a vt : Nat) : newsN (roundL g r over b a vt) = roundN g over b a := by
  unfold roundL roundN
  rw [newsN_app, newsN_app, newsN_app, newsN_pass, newsN_pass]
  rfl
def newsI (S : Nat → Stp) : Nat → Nat
  | 0 => 0
  | n + 1 => if (S n).k = 2 then newsI S n + 1 else newsI S n
theorem newsI_of (l : List Stp) : ∀ n, n ≤ l.length → newsI (nthS l) n = newsN (l.take n)
  | 0, _ => rfl
  | n + 1, h => by
    have e : l.take (n + 1) = l.take n ++ [nthS l n] := by
      rw [List.take_add_one, List.getElem?_eq_getElem (by omega)]
      simp [nthS, List.getElem?_eq_getElem (show n < l.length by omega)]
    rw [newsI, newsI_of l n (by omega), e, newsN_app]
    by_cases q : (nthS l n).k = 2
    · rw [if_pos q]; simp [newsN, q]
    · rw [if_neg q]; simp [newsN, q]
theorem newsI_all (l : List Stp) : newsI (nthS l) l.length = newsN l := by rw [newsI_of l _ (Nat.le_refl _), List.take_length]
theorem newsN_le (l : List Stp) : newsN l ≤ l.length := List.length_filter_le _ _
set_option maxHeartbeats 1000000 in
theorem refNews_any (a : Option Addr) (n cp : Nat) (S : Nat → Stp) (w : World) (h : AtStps w a n S) (hn : n < 2 ^ 40) :
    Calls Tryd.prog 34 #[.slice a n cp] w fun e w' => e = .returned (.int .i64 (newsI S n : Nat)) ∧ w' = w := by
  go_enter Tryd.func34, Tryd.ntmps34
  go_wp2
  go_loop [3, 4] (fun s p => ∃ (k x : Nat), k ≤ n ∧ x ≤ k ∧ p = .int .i64 k ∧ s = .int .i64 x ∧ Hid (x = newsI S k)) (fun _ p => n - (intOf p).toNat)
  case atStart => exact ⟨0, 0, by omega, by omega, rfl, rfl, rfl⟩
  case round =>
    obtain ⟨k, x, hk, hxk, rfl, rfl, HX⟩ := hrel
    by_cases hlt : k < n
    · obtain ⟨b, off, rfl, hs⟩ : ∃ b off, a = some ⟨b, off, none⟩ ∧ Stps w b off n S := by
        rcases h with h | h
        · omega
        · exact h
      have hltI : (k : Int) < (n : Int) := by omega
      have c0 := hs.c0 k hlt
      clear hs h
      have hst : newsI S (k + 1) = if (S k).k = 2 then newsI S k + 1 else newsI S k := rfl
      by_cases q : (S k).k = 2
      · rw [if_pos q, ← HX.out] at hst
        have HN := Hid.mkI hst.symm
        rw [q] at c0
        clear hst q
        go_wp2
        go_round
        case rel => exact ⟨k + 1, x + 1, by omega, by omega, by go_num, by go_num, HN⟩
        case measure => simp [intOf]; omega
      · rw [if_neg q, ← HX.out] at hst
        have HN := Hid.mkI hst.symm
        have hb : ((S k).k == 2) = false := by simpa using q
        obtain ⟨z, hz⟩ : ∃ z, (S k).k = z := ⟨_, rfl⟩
        rw [hz] at c0 hb
        clear hst q hz
        go_wp2
        go_round
        case rel => exact ⟨k + 1, x, by omega, by omega, by go_num, rfl, HN⟩
        case measure => simp [intOf]; omega
    · obtain rfl : k = n := by omega
      go_wp2
      go_ret
      exact ⟨by rw [HX.out]; rfl, rfl⟩
end Go.Proofs.YtcddbjmockpoiaaDoor
