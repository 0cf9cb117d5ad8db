/- The walk of the law RelSays at any list of numbers and any two numbers. -/
import Derived.WalkKit
import Derived.LoopTactic
import Derived.Test.YtfdappdcihljdaaDoorSays
namespace Go.Proofs.YtfdappdcihljdaaDoor
open Go.RowKit

set_option maxRecDepth 100000 in
set_option maxHeartbeats 1000000 in
theorem says_wrong (a : Option Addr) (m cap : Nat) (x y c : Int) (hc : (c == 0) = false) (w : World)
    (hErr : ∀ w1, Below w.heap.size w w1 → ErrT w1)
    (h8 : ∀ w1, Below w.heap.size w w1 → Calls Tryd.prog 8 #[.slice a m cap] w1 fun e w' => e = .returned (.int .i64 c) ∧ Below w1.heap.size w1 w')
    (h10 : ∀ w1, Below w.heap.size w w1 → Calls Tryd.prog 10 #[.slice a m cap] w1 fun e w' => e = .returned (.iface 45 (.int .i64 c)) ∧ Below w1.heap.size w1 w')
    (h15 : ∀ w1, Below w.heap.size w w1 → Calls Tryd.prog 15 #[.slice a m cap] w1 fun e w' => e = .returned (.tuple #[.slice none 0 0, .iface 45 (.int .i64 c)]) ∧ Below w1.heap.size w1 w')
    (h17 : ∀ w1, Below w.heap.size w w1 → Calls Tryd.prog 17 #[.slice a m cap] w1 fun e w' => e = .returned (.tuple #[.bool false, .iface 45 (.int .i64 c)]) ∧ Below w1.heap.size w1 w')
    (h18 : ∀ w1, Below w.heap.size w w1 → Calls Tryd.prog 18 #[.slice a m cap] w1 fun e w' => e = .returned (.tuple #[.slice none 0 0, .iface 45 (.int .i64 c)]) ∧ Below w1.heap.size w1 w')
    (h19 : ∀ w1, Below w.heap.size w w1 → Calls Tryd.prog 19 #[.slice a m cap, .int .i64 x, .int .i64 y] w1 fun e w' => e = .returned (.tuple #[.slice none 0 0, .iface 45 (.int .i64 c)]) ∧ Below w1.heap.size w1 w') :
    Calls Tryd.prog 3 #[.slice a m cap, .int .i64 x, .int .i64 y] w fun e w' => e = .returned (.bool true) ∧ Below w.heap.size w w' := by
  have hB : Below w.heap.size w w := Below.refl _ _
  go_enter Tryd.func3, Tryd.ntmps3
  go_wp2_with (first | (go_at_call 8; refine (h8 _ hB).mono ?_; rintro e w1 ⟨rfl, S⟩; replace hB := hB.trans (S.mono hB.size); clear S) | (go_at_call 10; refine (h10 _ hB).mono ?_; rintro e w1 ⟨rfl, S⟩; replace hB := hB.trans (S.mono hB.size); clear S) | (go_at_call 9; refine (error_held _ _ _ (hErr _ hB) (.inr rfl)).mono ?_; rintro e w1 ⟨rfl, S⟩; replace hB := hB.trans (S.mono hB.size); clear S) | (go_at_call 15; refine (h15 _ hB).mono ?_; rintro e w1 ⟨rfl, S⟩; replace hB := hB.trans (S.mono hB.size); clear S) | (go_at_call 16; refine (ints_held _ _ _ 0 (fun _ => 0) (by omega) (Held.nil _ _) (Held.nil _ _)).mono ?_; rintro e w1 ⟨rfl, S⟩; replace hB := hB.trans (S.mono hB.size); clear S) | (go_at_call 17; refine (h17 _ hB).mono ?_; rintro e w1 ⟨rfl, S⟩; replace hB := hB.trans (S.mono hB.size); clear S) | (go_at_call 18; refine (h18 _ hB).mono ?_; rintro e w1 ⟨rfl, S⟩; replace hB := hB.trans (S.mono hB.size); clear S) | (go_at_call 19; refine (h19 _ hB).mono ?_; rintro e w1 ⟨rfl, S⟩; replace hB := hB.trans (S.mono hB.size); clear S))
  go_ret
  exact ⟨rfl, hB⟩

theorem refReduce_any (a : Option Addr) (m cap : Nat) (rows : List Nat) (hr : Right m rows) (hn : noRing m (come m rows) = true) (w : World) (hl : At w a m rows) :
    Calls Tryd.prog 13 #[.slice a m cap] w fun e w' => ∃ v, e = .returned v ∧ Held w' v m (steps m (come m rows)) ∧ Below w.heap.size w w' := by
  by_cases h0 : 0 < m
  · rcases hl with h | ⟨b, off, rfl, hl⟩
    · omega
    · exact (refReduce_some _ m cap hr.1 h0 (come m rows) (ord_of hr hn) w (refClosure_some b off m cap rows hr h0 w hl)).mono fun e w' ⟨g, cp, he, _, ho, hB⟩ => ⟨_, he, Held.of ho, hB⟩
  · obtain rfl : m = 0 := by omega
    exact (refReduce_none a cap w).mono fun e w' ⟨he, hw⟩ => ⟨_, he, Held.nil _ _, hw ▸ Below.refl _ _⟩

/-- Where there is a way there is one that always takes the least thing. -/
theorem way_there {m : Nat} {rows : List Nat} (hr : Right m rows) {i j D : Nat} (hi : i < m) (hd : Dist rows D i j) : ∃ V, V 0 = i ∧ WayTo m rows j D D V := by
  have hL : ∃ L, Steps m rows j L := by
    classical
    refine ⟨fun x => if h : Reach rows x j then h.dist.choose else 20, fun x hx => ?_⟩
    by_cases h : Reach rows x j
    · have hs := h.dist.choose_spec
      have hlt := hs.few hr hx
      have hm := hr.1
      simp only [h, dif_pos]
      exact .inl ⟨hs, by omega⟩
    · exact .inr ⟨dif_neg h, h⟩
  obtain ⟨L, hL⟩ := hL
  have gen : ∀ s, s ≤ D → ∃ V, V 0 = i ∧ WayTo m rows j D s V := fun s => by
    induction s with
    | zero => exact fun _ => ⟨fun _ => i, rfl, WayTo.begin hi hd⟩
    | succ s ih =>
      intro hs
      obtain ⟨V, h0, hV⟩ := ih (by omega)
      obtain ⟨_, Y, _, _, _, hN⟩ := hV.nextRef hr (by omega) hL
      exact ⟨_, by rw [upd_other _ (by omega)]; exact h0, hN⟩
  exact gen D (Nat.le_refl _)

theorem says_any (a : Option Addr) (m cap : Nat) (z : List Int) (x y : Int) (hz : m ≤ z.length) (w : World) (h1 : AtNums w a m z) (hT : Tab w) (hE : ErrT w) :
    Calls Tryd.prog 3 #[.slice a m cap, .int .i64 x, .int .i64 y] w fun e w' => e = .returned (.bool true) ∧ Below w.heap.size w w' := by
  have hTb : ∀ w1, Below w.heap.size w w1 → Tab w1 := fun w1 hB => hT.below hB hT.size
  have hErr : ∀ w1, Below w.heap.size w w1 → ErrT w1 := fun w1 hB => hE.below hB (by have := hT.size; omega)
  by_cases hf : Fine m z
  · have hr := rowsOf_right hf.1 hz hf.2
    have hm := hf.1
    have hck := fun w1 (hB : Below w.heap.size w w1) => check_fine a m cap z w1 (h1.below hB) hf
    have hat := fun w1 (hB : Below w.heap.size w w1) => (h1.below hB).at hf.2
    have nilE : Errs .nilIface 0 := .inl ⟨rfl, rfl⟩
    -- what the way is
    have hway : ∃ nz fz g, nz ≤ 4096 ∧ WayIs w a m cap x y nz fz g ∧ ∀ w1, Below w.heap.size w w1 → Calls Tryd.prog 19 #[.slice a m cap, .int .i64 x, .int .i64 y] w1 fun e w' => ∃ v er, e = .returned (.tuple #[v, er]) ∧ Held w' v nz fz ∧ Errs er g ∧ Below w1.heap.size w1 w' := by
      by_cases hout : Out m x y
      · refine ⟨0, fun _ => 0, 1, by omega, .inl ⟨hout, rfl, rfl⟩, fun w1 hB => (Way_range a m cap hf.1 x y w1 ?_ (hck w1 hB)).mono fun e w' ⟨he, hw⟩ => ⟨_, _, he, Held.nil _ _, .inr rfl, hw ▸ Below.refl _ _⟩⟩
        rcases hout with h | ⟨_, h⟩ | ⟨h, h', h2⟩ | ⟨h, h', _, h2⟩
        · exact .inl (.inl h)
        · exact .inl (.inr h)
        · exact .inr ⟨h, h', .inl h2⟩
        · exact .inr ⟨h, h', .inr h2⟩
      · simp only [Out, not_or] at hout
        obtain ⟨o1, o2, o3, o4⟩ := hout
        obtain ⟨i, rfl⟩ := Int.eq_ofNat_of_zero_le (show 0 ≤ x by omega)
        obtain ⟨j, rfl⟩ := Int.eq_ofNat_of_zero_le (show 0 ≤ y by omega)
        have hi : i < m := by omega
        have hj : j < m := by omega
        have hst : ∀ w1, Below w.heap.size w w1 → ∃ b off, a = some ⟨b, off, none⟩ ∧ Lies w1 b off m (rowsOf m z) := fun w1 hB => (hat w1 hB).resolve_left (by omega)
        by_cases hR : Reach (rowsOf m z) i j
        · obtain ⟨D, hd⟩ := hR.dist
          have hDm := hd.few hr hi
          -- the way by the program, and the way by the document, are one: either is told of by the other's numbers
          obtain ⟨V, hV0, hV⟩ : ∃ V, V 0 = i ∧ WayTo m (rowsOf m z) j D D V := way_there hr hi hd
          refine ⟨D + 1, V, 0, by omega, .inr ⟨i, j, true, rfl, rfl, hi, hj, rfl, fun w1 hB => ?_⟩, fun w1 hB => ?_⟩
          · obtain ⟨b, off, rfl, hl⟩ := hst w1 hB
            exact (refWay_yes b off m cap i j D _ hr hi hj hd w1 hl (refSteps_any b off m cap j _ hr hj w1 hl)).mono fun e w' ⟨g, cp, W, he, _, ho, h0, hW, hB'⟩ =>
              ⟨_, he, (Held.of ho).like fun k hk => (hW.one hV (h0.trans hV0.symm)) k (by omega), hB'⟩
          · exact (Way_fine a m cap i j D _ hr hi hj hd w1 (hat w1 hB) (hTb w1 hB) (hck w1 hB)).mono fun e w' ⟨g, cp, W, he, _, ho, h0, _, hW, hB'⟩ =>
              ⟨_, _, he, (Held.of ho).like fun k hk => (hW.one hV (h0.trans hV0.symm)) k (by omega), nilE, hB'⟩
        · refine ⟨0, fun _ => 0, 5, by omega, .inr ⟨i, j, false, rfl, rfl, hi, hj, rfl, fun w1 hB => ?_⟩, fun w1 hB => (Way_no a m cap i j _ hr hi hj hR w1 (hat w1 hB) (hTb w1 hB) (hck w1 hB)).mono fun e w' ⟨he, hB'⟩ => ⟨_, _, he, Held.nil _ _, .inr rfl, hB'⟩⟩
          obtain ⟨b, off, rfl, hl⟩ := hst w1 hB
          refine (refWay_no _ m cap i j hi w1 ((refSteps_any b off m cap j _ hr hj w1 hl).mono fun e w' ⟨g, cp, L, he, hg, ho, hL, hB'⟩ => ⟨g, cp, L, he, hg, ho, ?_, hB'⟩)).mono fun e w' ⟨he, hB'⟩ => ⟨_, he, Held.nil _ _, hB'⟩
          rcases hL i hi with ⟨h, _⟩ | ⟨h, _⟩
          · exact absurd h.1.reach hR
          · exact h
    obtain ⟨nz, fz, g, hnz, hway, h19⟩ := hway
    have h8 := fun w1 (hB : Below w.heap.size w w1) => stays (rel_fine a m cap z w1 (h1.below hB) hf)
    have h10 := fun w1 (hB : Below w.heap.size w w1) => stays (hck w1 hB)
    have h11 := fun w1 (hB : Below w.heap.size w w1) => refClosure_any a m cap _ hr w1 (hat w1 hB)
    have h15 := fun w1 (hB : Below w.heap.size w w1) => (Closure_fine a m cap z hz w1 (h1.below hB) (hTb w1 hB) hf).mono (R' := fun e w' => ∃ v er, e = .returned (.tuple #[v, er]) ∧ Held w' v m (come m (rowsOf m z)) ∧ Errs er 0 ∧ Below w1.heap.size w1 w') fun e w' ⟨he, ho, hB'⟩ => ⟨_, _, he, Held.of ho, nilE, hB'⟩
    have h17 := fun w1 (hB : Below w.heap.size w w1) => (Order_fine a m cap z hz w1 (h1.below hB) (hTb w1 hB) hf).mono (R' := fun e w' => ∃ er, e = .returned (.tuple #[.bool (noRing m (come m (rowsOf m z))), er]) ∧ Errs er 0 ∧ Below w1.heap.size w1 w') fun e w' ⟨he, hB'⟩ => ⟨_, he, nilE, hB'⟩
    have h12 := fun w1 (hB : Below w.heap.size w w1) => refOrder_any a m cap _ hr w1 (hat w1 hB)
    cases hn : noRing m (come m (rowsOf m z)) with
    | false =>
      rw [hn] at h12 h17
      refine says_fine a m cap hm x y w false (come m (rowsOf m z)) (fun _ => 0) fz 0 nz (by omega) hnz g hErr h8 h10 h11 h12 (fun h => by cases h) (fun _ => rfl) hway h15 h17 (fun w1 hB => ?_) h19
      exact (Reduce_ring a m cap w1 (OrderClosure_no a m cap z hz w1 (h1.below hB) (hTb w1 hB) hf hn)).mono fun e w' ⟨he, hB'⟩ => ⟨_, _, he, Held.nil _ _, .inr rfl, hB'⟩
    | true =>
      have hK := tells_of a m cap z hz w h1 hT hf hn
      have h13 := fun w1 (hB : Below w.heap.size w w1) => refReduce_any a m cap _ hr hn w1 (hat w1 hB)
      rw [hn] at h12 h17
      exact says_fine a m cap hm x y w true (come m (rowsOf m z)) (steps m (come m (rowsOf m z))) fz m nz (by omega) hnz g hErr h8 h10 h11 h12 (fun _ => h13) (fun h => by cases h) hway h15 h17
        (fun w1 hB => (hK.reduce w1 hB).mono fun e w' ⟨B, he, _, ho, hB'⟩ => ⟨_, _, he, Held.of ho, nilE, hB'⟩) h19
  · have hc : (wrongN m == 0) = false := by unfold wrongN; split <;> rfl
    exact says_wrong a m cap x y (wrongN m) hc w hErr (fun w1 hB => stays (rel_wrong a m cap z w1 (h1.below hB) hf)) (fun w1 hB => stays (check_wrong a m cap z w1 (h1.below hB) hf))
      (fun w1 hB => stays (Closure_wrong a m cap z w1 (h1.below hB) hf)) (fun w1 hB => stays (Order_wrong a m cap z w1 (h1.below hB) hf))
      (fun w1 hB => stays (Reduce_bad a m cap (wrongN m) w1 (OrderClosure_wrong a m cap z w1 (h1.below hB) hf))) (fun w1 hB => stays (Way_bad a m cap x y (wrongN m) w1 (check_wrong a m cap z w1 (h1.below hB) hf)))
end Go.Proofs.YtfdappdcihljdaaDoor
