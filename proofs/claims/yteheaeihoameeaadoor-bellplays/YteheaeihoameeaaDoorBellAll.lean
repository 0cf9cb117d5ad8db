/- What is asked of all things of a set (all). -/
import Derived.RangeFuncNested
import Derived.RangeFuncBound
import Derived.RangeFuncCalls
import Derived.RangeFuncLeaves
import Derived.RangeFuncFrom
import Derived.Shelf.Abstract
import Derived.Shelf.RegionOpen
import Derived.WalkKit
import Derived.OwnWalkIn
import Derived.TacticsInMore
import Derived.LoopNIn
import Derived.LoopIn
import Derived.Test.YteheaeihoameeaaDoorBellA
namespace Go.Proofs.YteheaeihoameeaaDoor
open Go.RowKit Go.Shelf
attribute [local go_sem] Oper.semAt_some
set_option maxRecDepth 100000

theorem others_of {W W2 : World} (h : Below W.heap.size W W2) : KeepsOthers W W2 := ⟨h.size, fun k _ hk _ => (h.block k (Array.getElem?_eq_some_iff.1 hk).1).trans hk⟩

set_option maxHeartbeats 1000000 in
theorem allRead_in (n m set : Nat) (x y : Value) (p : Nat → Bool) (hn : 4 ≤ n) (hm : m ≤ 12) (hs : set < 2 ^ m) (w : World) (hT : Tab w)
    (hp : ∀ q, q < m → ∀ W, Below w.heap.size w W → Calls Tryd.prog 50 #[.int .i64 (q : Int), x, y] W fun e w' => e = .returned (.bool (p q)) ∧ Below W.heap.size W w') :
    CallsIn Fence.wide n Tryd.prog 52 #[.int .i64 set, .func (.func 50) #[] #[x, y]] w fun e w' => e = .returned (.bool (allB m set p)) ∧ Below w.heap.size w w' := by
  have h1 : 1 ≤ n := by omega
  have hsz := hT.size
  have hmx : Tryd.prog.follows .mixedOrders = true := by kernel_rfl
  refine callsIn_of_wp_marks Tryd.func52 rfl trivial ?_ rfl
  simp only [Tryd.ntmps52, List.size_toArray, List.length_cons, List.length_nil, Nat.reduceAdd, Nat.reduceSub, Array.replicate_succ, Array.replicate_zero, List.push_toArray, List.append_toArray, List.nil_append, List.cons_append]
  gi_wp2_with (refine ⟨trivial, ?_⟩; gi_at_call 62; refine (things_in (n - 1) _ _).mono ?_; rintro e w' ⟨rfl, rfl⟩)
  obtain ⟨wv, hwv⟩ : ∃ wv, ((w.alloc (.cells #[.func (.func 50) #[] #[x, y]] 75)).alloc (.cells #[.bool false] 4)).alloc (.cells #[.int .i64 set] 3) = wv := ⟨_, rfl⟩
  have hbw : Below w.heap.size w wv := by rw [← hwv]; exact (((Below.refl _ w).alloc (Nat.le_refl _) _).alloc (by simp) _).alloc (by simp; omega) _
  have hvsize : wv.heap.size = w.heap.size + 1 + 1 + 1 := by rw [← hwv]; simp
  have e0 : wv.cell? ⟨w.heap.size, 0, Option.none⟩ = some (.func (.func 50) #[] #[x, y]) := by rw [← hwv]; exact cell_alloc_l _ (cell_alloc_l _ (cell_new_l w (.func (.func 50) #[] #[x, y]) 75).1)
  have c1 : wv.cell? ⟨w.heap.size + 1, 0, Option.none⟩ = some (.bool false) ∧ wv.frozen? ⟨w.heap.size + 1, 0, Option.none⟩ = false := by
    have h := cell_new_l (w.alloc (.cells #[.func (.func 50) #[] #[x, y]] 75)) (.bool false) 4
    simp only [World.size_alloc] at h
    rw [← hwv]; exact ⟨cell_alloc_l _ h.1, frozen_alloc_l _ h.1 h.2⟩
  have cy : wv.cell? ⟨w.heap.size + 1 + 1, 0, Option.none⟩ = some (.int .i64 set) := by
    have h := cell_new_l ((w.alloc (.cells #[.func (.func 50) #[] #[x, y]] 75)).alloc (.cells #[.bool false] 4)) (.int .i64 set) 3
    simp only [World.size_alloc] at h
    rw [← hwv]; exact h.1
  obtain ⟨e1, f1⟩ := c1
  rw [hwv]
  clear hwv
  have hTv : Tab wv := hT.below hbw hsz
  have hBo := hbw.size
  refine wpIn_rangeFunc_ownF rfl h1 (gf := 67) (lb := #[.pointer (some ⟨w.heap.size + 1 + 1, 0, Option.none⟩)]) rfl trivial (enters_of Tryd.func67 (by kernel_rfl) rfl)
    (things_stops (n - 1) m hm (by omega) (w.heap.size + 1 + 1) w.heap.size set hs wv (by omega) hBo hsz cy hTv) belowK_t (belowK_b hBo) (Below.refl _ _) (fun _ => rfl)
    (fun pre W => Below wv.heap.size wv W ∧ Hid (∀ q, q ∈ pre → p q.1 = true))
    (fun c pre W => (c = .ret ∧ Hid (∃ q : Thing m, W.cell? ⟨w.heap.size + 1, 0, Option.none⟩ = some (.bool false) ∧ q ∈ pre ∧ p q.1 = false)) ∧ Below w.heap.size w W)
    (OwnFrom.and (ownFrom_below (Nat.le_refl _) (Nat.le_refl _)) (ownFrom_pure _ _))
    (fun c => OwnFrom.and (Own.from (fun s A B row hs hg hr => ⟨hs.1, by obtain ⟨q, h1, h3⟩ := hs.2.out; exact ⟨q, cell_kept h1 hg hr, h3⟩⟩) _) (ownFrom_below (Nat.le_refl _) hBo))
    ⟨Below.refl _ _, fun q hq => absurd hq (by simp)⟩
    (fun z => { tmps := #[.int .i64 set, .func (.func 50) #[] #[x, y], undef, .pointer (some ⟨w.heap.size, 0, Option.none⟩), .pointer (some ⟨w.heap.size + 1, 0, Option.none⟩), .int .i64 (z.1 : Int), .int .i64 set, .func (.func 67) #[] #[.pointer (some ⟨w.heap.size + 1 + 1, 0, Option.none⟩)], .int .i64 (z.1 : Int), undef, undef, undef, undef], defers := [] }) ?assign ?body ?done ?stop
  case assign =>
    intro l y W K hK
    gi_wp2
    exact hK
  case body =>
    rintro l pre ⟨q, hq⟩ W ⟨hBW, HP⟩ _
    as_aux_lemma =>
      dsimp only
      have d0 := (hBW.cell (p := ⟨w.heap.size, 0, Option.none⟩) (by dsimp only; omega)).trans e0
      have d1 := (hBW.cell (p := ⟨w.heap.size + 1, 0, Option.none⟩) (by dsimp only; omega)).trans e1
      have g1 := (hBW.frozen (p := ⟨w.heap.size + 1, 0, Option.none⟩) (by dsimp only; omega)).trans f1
      have hBx : Below w.heap.size w W := hbw.trans (hBW.mono hBo)
      have hc := hp q hq W hBx
      have hqi : (q : Int) < (m : Int) := by omega
      cases hpq : p q with
      | true =>
        rw [hpq] at hc
        have HQ : Hid (p q = true) := hpq
        clear hpq hp e0 e1 f1 cy hTv
        gi_wp2_with (refine ⟨trivial, fun _ => by omega, ?_⟩; gi_at_call 50; refine ((callsIn_wide.2 hc).inRound l).mono ?_; rintro e W2 ⟨rfl, hB2⟩)
        exact ⟨others_of hB2, hB2.mono hBx.size, hBW.trans (hB2.mono hBW.size), fun z hz => by
          rcases List.mem_append.1 hz with hz | hz
          · exact HP.out z hz
          · obtain rfl := List.mem_singleton.1 hz
            exact HQ.out⟩
      | false =>
        rw [hpq] at hc
        have HQ : Hid (p q = false) := hpq
        clear hpq hp e0 e1 f1 cy hTv
        gi_wp2_with (refine ⟨trivial, fun _ => by omega, ?_⟩; gi_at_call 50; refine ((callsIn_wide.2 hc).inRound l).mono ?_; rintro e W2 ⟨rfl, hB2⟩; replace d1 := (hB2.cell (p := ⟨w.heap.size + 1, 0, Option.none⟩) (World.block_lt_of_cell? W _ d1)).trans d1; replace g1 := (hB2.frozen (p := ⟨w.heap.size + 1, 0, Option.none⟩) (by have := hBW.size; dsimp only; omega)).trans g1)
        exact ⟨(others_of hB2).trans (KeepsOthers.setCell _ _ _), ⟨rfl, ⟨q, hq⟩, World.cell?_setCell_same' W2 ⟨w.heap.size + 1, 0, Option.none⟩ (.bool false) (by rw [d1]; rfl), by simp, HQ.out⟩, (hBx.trans (hB2.mono hBx.size)).setCell (p := ⟨w.heap.size + 1, 0, Option.none⟩) (by simp) _⟩
  case done =>
    rintro E ys W hE rfl ⟨hBW, HP⟩ hK
    as_aux_lemma =>
      have d1 := (hBW.cell (p := ⟨w.heap.size + 1, 0, Option.none⟩) (by dsimp only; omega)).trans e1
      have g1 := (hBW.frozen (p := ⟨w.heap.size + 1, 0, Option.none⟩) (by dsimp only; omega)).trans f1
      gi_wp2
      have hM : Marked W w.heap.size (E :: []) := Marked.cons (Marked.none _ _) (by omega) (fun _ h => absurd h (by simp)) hK
      have hbn : allB m set p = true := (allB_iff _ _ _).2 fun g hg hb => HP.out ⟨g, hg⟩ ((memN_iff hm hs ⟨g, hg⟩).2 hb)
      refine leaves_marks (E :: []) _ (hM.kept (KeepsOthers.setCell _ _ _)) fun w' hB' hc' => ⟨.bool true, ?_, ?_, ?_⟩
      · have h6 := hc' _ _ (World.cell?_setCell_same' W ⟨w.heap.size + 1, 0, Option.none⟩ (.bool true) (by rw [d1]; rfl))
        simp [results, Tryd.f52, go_sem, h6]
      · rw [hbn]
      · exact ((hbw.trans (hBW.mono hBo)).setCell (p := ⟨w.heap.size + 1, 0, Option.none⟩) (by simp) _).trans hB'
  case stop =>
    rintro E c pre W hE hpre ⟨⟨rfl, HQ⟩, hBW⟩ hK
    as_aux_lemma =>
      gi_wp2
      obtain ⟨q, hc1, hq1, hq2⟩ := HQ.out
      have hM : Marked W w.heap.size (E :: []) := Marked.cons (Marked.none _ _) (by omega) (fun _ h => absurd h (by simp)) hK
      have hbn : allB m set p = false := by
        cases hb : allB m set p with
        | false => rfl
        | true =>
          have := (allB_iff _ _ _).1 hb q.1 q.2 ((memN_iff hm hs q).1 (hpre.subset hq1))
          rw [hq2] at this; cases this
      refine leaves_marks (E :: []) _ hM fun w' hB' hc' => ⟨.bool false, ?_, ?_, hBW.trans hB'⟩
      · simp [results, Tryd.f52, go_sem, hc' _ _ hc1]
      · rw [hbn]
set_option maxHeartbeats 1000000 in
theorem allWrite_in (n m set : Nat) (x y : Value) (p : Nat → Bool) (hn : 4 ≤ n) (hm : m ≤ 12) (hs : set < 2 ^ m) (w : World) (hT : Tab w)
    (hp : ∀ q, q < m → ∀ W, Below w.heap.size w W → Calls Tryd.prog 53 #[.int .i64 (q : Int), x, y] W fun e w' => e = .returned (.bool (p q)) ∧ Below W.heap.size W w') :
    CallsIn Fence.wide n Tryd.prog 52 #[.int .i64 set, .func (.func 53) #[] #[x, y]] w fun e w' => e = .returned (.bool (allB m set p)) ∧ Below w.heap.size w w' := by
  have h1 : 1 ≤ n := by omega
  have hsz := hT.size
  have hmx : Tryd.prog.follows .mixedOrders = true := by kernel_rfl
  refine callsIn_of_wp_marks Tryd.func52 rfl trivial ?_ rfl
  simp only [Tryd.ntmps52, List.size_toArray, List.length_cons, List.length_nil, Nat.reduceAdd, Nat.reduceSub, Array.replicate_succ, Array.replicate_zero, List.push_toArray, List.append_toArray, List.nil_append, List.cons_append]
  gi_wp2_with (refine ⟨trivial, ?_⟩; gi_at_call 62; refine (things_in (n - 1) _ _).mono ?_; rintro e w' ⟨rfl, rfl⟩)
  obtain ⟨wv, hwv⟩ : ∃ wv, ((w.alloc (.cells #[.func (.func 53) #[] #[x, y]] 75)).alloc (.cells #[.bool false] 4)).alloc (.cells #[.int .i64 set] 3) = wv := ⟨_, rfl⟩
  have hbw : Below w.heap.size w wv := by rw [← hwv]; exact (((Below.refl _ w).alloc (Nat.le_refl _) _).alloc (by simp) _).alloc (by simp; omega) _
  have hvsize : wv.heap.size = w.heap.size + 1 + 1 + 1 := by rw [← hwv]; simp
  have e0 : wv.cell? ⟨w.heap.size, 0, Option.none⟩ = some (.func (.func 53) #[] #[x, y]) := by rw [← hwv]; exact cell_alloc_l _ (cell_alloc_l _ (cell_new_l w (.func (.func 53) #[] #[x, y]) 75).1)
  have c1 : wv.cell? ⟨w.heap.size + 1, 0, Option.none⟩ = some (.bool false) ∧ wv.frozen? ⟨w.heap.size + 1, 0, Option.none⟩ = false := by
    have h := cell_new_l (w.alloc (.cells #[.func (.func 53) #[] #[x, y]] 75)) (.bool false) 4
    simp only [World.size_alloc] at h
    rw [← hwv]; exact ⟨cell_alloc_l _ h.1, frozen_alloc_l _ h.1 h.2⟩
  have cy : wv.cell? ⟨w.heap.size + 1 + 1, 0, Option.none⟩ = some (.int .i64 set) := by
    have h := cell_new_l ((w.alloc (.cells #[.func (.func 53) #[] #[x, y]] 75)).alloc (.cells #[.bool false] 4)) (.int .i64 set) 3
    simp only [World.size_alloc] at h
    rw [← hwv]; exact h.1
  obtain ⟨e1, f1⟩ := c1
  rw [hwv]
  clear hwv
  have hTv : Tab wv := hT.below hbw hsz
  have hBo := hbw.size
  refine wpIn_rangeFunc_ownF rfl h1 (gf := 67) (lb := #[.pointer (some ⟨w.heap.size + 1 + 1, 0, Option.none⟩)]) rfl trivial (enters_of Tryd.func67 (by kernel_rfl) rfl)
    (things_stops (n - 1) m hm (by omega) (w.heap.size + 1 + 1) w.heap.size set hs wv (by omega) hBo hsz cy hTv) belowK_t (belowK_b hBo) (Below.refl _ _) (fun _ => rfl)
    (fun pre W => Below wv.heap.size wv W ∧ Hid (∀ q, q ∈ pre → p q.1 = true))
    (fun c pre W => (c = .ret ∧ Hid (∃ q : Thing m, W.cell? ⟨w.heap.size + 1, 0, Option.none⟩ = some (.bool false) ∧ q ∈ pre ∧ p q.1 = false)) ∧ Below w.heap.size w W)
    (OwnFrom.and (ownFrom_below (Nat.le_refl _) (Nat.le_refl _)) (ownFrom_pure _ _))
    (fun c => OwnFrom.and (Own.from (fun s A B row hs hg hr => ⟨hs.1, by obtain ⟨q, h1, h3⟩ := hs.2.out; exact ⟨q, cell_kept h1 hg hr, h3⟩⟩) _) (ownFrom_below (Nat.le_refl _) hBo))
    ⟨Below.refl _ _, fun q hq => absurd hq (by simp)⟩
    (fun z => { tmps := #[.int .i64 set, .func (.func 53) #[] #[x, y], undef, .pointer (some ⟨w.heap.size, 0, Option.none⟩), .pointer (some ⟨w.heap.size + 1, 0, Option.none⟩), .int .i64 (z.1 : Int), .int .i64 set, .func (.func 67) #[] #[.pointer (some ⟨w.heap.size + 1 + 1, 0, Option.none⟩)], .int .i64 (z.1 : Int), undef, undef, undef, undef], defers := [] }) ?assign ?body ?done ?stop
  case assign =>
    intro l y W K hK
    gi_wp2
    exact hK
  case body =>
    rintro l pre ⟨q, hq⟩ W ⟨hBW, HP⟩ _
    as_aux_lemma =>
      dsimp only
      have d0 := (hBW.cell (p := ⟨w.heap.size, 0, Option.none⟩) (by dsimp only; omega)).trans e0
      have d1 := (hBW.cell (p := ⟨w.heap.size + 1, 0, Option.none⟩) (by dsimp only; omega)).trans e1
      have g1 := (hBW.frozen (p := ⟨w.heap.size + 1, 0, Option.none⟩) (by dsimp only; omega)).trans f1
      have hBx : Below w.heap.size w W := hbw.trans (hBW.mono hBo)
      have hc := hp q hq W hBx
      have hqi : (q : Int) < (m : Int) := by omega
      cases hpq : p q with
      | true =>
        rw [hpq] at hc
        have HQ : Hid (p q = true) := hpq
        clear hpq hp e0 e1 f1 cy hTv
        gi_wp2_with (refine ⟨trivial, fun _ => by omega, ?_⟩; gi_at_call 53; refine ((callsIn_wide.2 hc).inRound l).mono ?_; rintro e W2 ⟨rfl, hB2⟩)
        exact ⟨others_of hB2, hB2.mono hBx.size, hBW.trans (hB2.mono hBW.size), fun z hz => by
          rcases List.mem_append.1 hz with hz | hz
          · exact HP.out z hz
          · obtain rfl := List.mem_singleton.1 hz
            exact HQ.out⟩
      | false =>
        rw [hpq] at hc
        have HQ : Hid (p q = false) := hpq
        clear hpq hp e0 e1 f1 cy hTv
        gi_wp2_with (refine ⟨trivial, fun _ => by omega, ?_⟩; gi_at_call 53; refine ((callsIn_wide.2 hc).inRound l).mono ?_; rintro e W2 ⟨rfl, hB2⟩; replace d1 := (hB2.cell (p := ⟨w.heap.size + 1, 0, Option.none⟩) (World.block_lt_of_cell? W _ d1)).trans d1; replace g1 := (hB2.frozen (p := ⟨w.heap.size + 1, 0, Option.none⟩) (by have := hBW.size; dsimp only; omega)).trans g1)
        exact ⟨(others_of hB2).trans (KeepsOthers.setCell _ _ _), ⟨rfl, ⟨q, hq⟩, World.cell?_setCell_same' W2 ⟨w.heap.size + 1, 0, Option.none⟩ (.bool false) (by rw [d1]; rfl), by simp, HQ.out⟩, (hBx.trans (hB2.mono hBx.size)).setCell (p := ⟨w.heap.size + 1, 0, Option.none⟩) (by simp) _⟩
  case done =>
    rintro E ys W hE rfl ⟨hBW, HP⟩ hK
    as_aux_lemma =>
      have d1 := (hBW.cell (p := ⟨w.heap.size + 1, 0, Option.none⟩) (by dsimp only; omega)).trans e1
      have g1 := (hBW.frozen (p := ⟨w.heap.size + 1, 0, Option.none⟩) (by dsimp only; omega)).trans f1
      gi_wp2
      have hM : Marked W w.heap.size (E :: []) := Marked.cons (Marked.none _ _) (by omega) (fun _ h => absurd h (by simp)) hK
      have hbn : allB m set p = true := (allB_iff _ _ _).2 fun g hg hb => HP.out ⟨g, hg⟩ ((memN_iff hm hs ⟨g, hg⟩).2 hb)
      refine leaves_marks (E :: []) _ (hM.kept (KeepsOthers.setCell _ _ _)) fun w' hB' hc' => ⟨.bool true, ?_, ?_, ?_⟩
      · have h6 := hc' _ _ (World.cell?_setCell_same' W ⟨w.heap.size + 1, 0, Option.none⟩ (.bool true) (by rw [d1]; rfl))
        simp [results, Tryd.f52, go_sem, h6]
      · rw [hbn]
      · exact ((hbw.trans (hBW.mono hBo)).setCell (p := ⟨w.heap.size + 1, 0, Option.none⟩) (by simp) _).trans hB'
  case stop =>
    rintro E c pre W hE hpre ⟨⟨rfl, HQ⟩, hBW⟩ hK
    as_aux_lemma =>
      gi_wp2
      obtain ⟨q, hc1, hq1, hq2⟩ := HQ.out
      have hM : Marked W w.heap.size (E :: []) := Marked.cons (Marked.none _ _) (by omega) (fun _ h => absurd h (by simp)) hK
      have hbn : allB m set p = false := by
        cases hb : allB m set p with
        | false => rfl
        | true =>
          have := (allB_iff _ _ _).1 hb q.1 q.2 ((memN_iff hm hs q).1 (hpre.subset hq1))
          rw [hq2] at this; cases this
      refine leaves_marks (E :: []) _ hM fun w' hB' hc' => ⟨.bool false, ?_, ?_, hBW.trans hB'⟩
      · simp [results, Tryd.f52, go_sem, hc' _ _ hc1]
      · rw [hbn]
end Go.Proofs.YteheaeihoameeaaDoor
