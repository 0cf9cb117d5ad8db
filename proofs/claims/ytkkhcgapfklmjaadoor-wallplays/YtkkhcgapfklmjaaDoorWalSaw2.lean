/- Whether a user saw another firm that is as is asked (sawAnother). -/
import Derived.RangeFuncNested
import Derived.RangeFuncBound
import Derived.RangeFuncCalls
import Derived.RangeFuncLeaves
import Derived.RangeFuncFrom
import Derived.Shelf.Abstract
import Derived.Shelf.RegionOpen
import Derived.WalkKit
import Derived.OwnWalkIn
import Derived.TacticsInMore
import Derived.LoopNIn
import Derived.LoopIn
import Derived.LoopTactic
import Derived.Deep.QuietTactic
import Derived.BigQuiet
import Derived.Test.YtkkhcgapfklmjaaDoorWalSaw
namespace Go.Proofs.YtkkhcgapfklmjaaDoor
open Go.RowKit Go.Shelf
attribute [local go_sem] Oper.semAt_some
set_option maxRecDepth 100000


set_option maxHeartbeats 1000000 in
theorem sawRival_in (n : Nat) (x y : Value) (p : Nat → Bool) (hn : 4 ≤ n) {n0 n1 B gu gf cu cf : Nat} {au af : Option Addr} {w : World} {s : WallSt} (hM : WMon n0 n1 B au af gu gf cu cf w s) (ok : WallOk s) (hT : Tab w) (u f : Nat) (hu : u < s.nu) (hf : f < s.nf)
    (hp : ∀ q, q < s.nf → ∀ W, Below w.heap.size w W → Calls Tryd.prog 27 #[.int .i64 (q : Int), x, y] W fun e w' => e = .returned (.bool (p q)) ∧ Below W.heap.size W w') :
    CallsIn Fence.wide n Tryd.prog 29 #[.pointer (some ⟨B, 0, none⟩), .int .i64 (u : Int), .int .i64 (f : Int), .func (.func 27) #[] #[x, y]] w fun e w' => e = .returned (.bool (anyB s.nf (less (s.saw u) (2 ^ f)) p)) ∧ Below w.heap.size w w' := by
  have h1 : 1 ≤ n := by omega
  have hsz := hT.size
  have hmx : Tryd.prog.follows .mixedOrders = true := by kernel_rfl
  obtain ⟨rfl, _, _⟩ := hM.hu (by omega)
  have m8 := ok.nf
  have hm : s.nf ≤ 12 := by omega
  have h12 : 2 ^ s.nf ≤ 4096 := pow12 hm
  have hwp := pow_wrap (a := f) (by omega)
  have hwj := pow_wrapJ (a := f) (by omega)
  have hpl : 2 ^ f < 4096 := Nat.lt_of_lt_of_le (pow_lt_of hf) h12
  have hnn := andNot_i64 (s.saw u) (2 ^ f) (Nat.lt_of_lt_of_le (ok.saw u hu) h12) hpl
  have hs : less (s.saw u) (2 ^ f) < 2 ^ s.nf := lt_of_bits fun j hj => by
    rw [less_bit, Bool.and_eq_true] at hj
    exact bit_lt (ok.saw u hu) hj.1
  have c0 := hM.c0
  have u0 := hM.u0 u hu
  have hui : (u : Int) < (s.nu : Int) := by omega
  have lB := hM.ltB
  have lU := hM.ltu hu
  obtain ⟨set, hset⟩ : ∃ x, less (s.saw u) (2 ^ f) = x := ⟨_, rfl⟩
  rw [hset] at hnn hs ⊢
  obtain ⟨pw, hpw⟩ : ∃ x, 2 ^ f = x := ⟨_, rfl⟩
  rw [hpw] at hwp hnn hwj
  obtain ⟨sw, hsw⟩ : ∃ x, s.saw u = x := ⟨_, rfl⟩
  rw [hsw] at u0 hnn
  obtain ⟨m, hmm⟩ : ∃ x, s.nf = x := ⟨_, rfl⟩
  rw [hmm] at hm hs hp ⊢
  have hf12 : f < 12 := by omega
  clear hset hpw hsw hpl h12 hM ok hmm hf m8
  refine callsIn_of_wp_marks Tryd.func29 rfl trivial ?_ rfl
  simp only [Tryd.ntmps29, List.size_toArray, List.length_cons, List.length_nil, Nat.reduceAdd, Nat.reduceSub, Array.replicate_succ, Array.replicate_zero, List.push_toArray, List.append_toArray, List.nil_append, List.cons_append]
  gi_wp2
  obtain ⟨wb, hwb⟩ : ∃ wb, (w.alloc (.cells #[.func (.func 27) #[] #[x, y]] 49)).alloc (.cells #[.bool false] 4) = wb := ⟨_, rfl⟩
  have hbb : Below w.heap.size w wb := by rw [← hwb]; exact ((Below.refl _ w).alloc (Nat.le_refl _) _).alloc (by simp) _
  have hbsize : wb.heap.size = w.heap.size + 1 + 1 := by rw [← hwb]; simp
  have e0 : wb.cell? ⟨w.heap.size, 0, Option.none⟩ = some (.func (.func 27) #[] #[x, y]) := by rw [← hwb]; exact cell_alloc_l _ (cell_new_l w (.func (.func 27) #[] #[x, y]) 49).1
  have c1 : wb.cell? ⟨w.heap.size + 1, 0, Option.none⟩ = some (.bool false) ∧ wb.frozen? ⟨w.heap.size + 1, 0, Option.none⟩ = false := by
    have h := cell_new_l (w.alloc (.cells #[.func (.func 27) #[] #[x, y]] 49)) (.bool false) 4
    simp only [World.size_alloc] at h
    rw [← hwb]; exact h
  obtain ⟨e1, f1⟩ := c1
  replace c0 := keep_cell hbb c0
  replace u0 := keep_cell hbb u0
  rw [hwb]
  clear hwb
  refine wpIn_mono (Q := Exit.then (fun a' w' => a' = { tmps := #[.pointer (some ⟨B, 0, Option.none⟩), .int .i64 (u : Int), .int .i64 (f : Int), .func (.func 27) #[] #[x, y], undef, undef, undef, .pointer (some ⟨w.heap.size, 0, Option.none⟩), .pointer (some ⟨w.heap.size + 1, 0, Option.none⟩), undef, .pointer (some ⟨B, 0, Option.none⟩), .pointer (some ⟨B, 0, Option.none⟩), .pointer (some ⟨B, 0, Option.none⟩), .slice (some ⟨gu, 0, Option.none⟩) s.nu cu, .int .i64 (u : Int), .pointer (some ⟨gu, u, Option.none⟩), .int .i64 (sw : Int), .int .i64 (f : Int), .int .i64 (pw : Int), .int .i64 (set : Int), .func (.func 33) #[] #[.pointer (some ⟨w.heap.size + 1 + 1, 0, Option.none⟩)], undef, undef, undef, undef], defers := [] } ∧ w' = (wb.alloc (.cells #[.int .i64 (set : Int)] 3)).drew) (fun _ _ _ => False)) ?reg ?cont
  case reg =>
    gi_region_with_o (refine ⟨trivial, ?_⟩; gi_at_call 30; refine (things_in (n - 1) _ _).mono ?_; rintro e w' ⟨rfl, rfl⟩)
    all_goals
      (try rw [hwj, hnn])
      exact ⟨rfl, rfl⟩
  case cont =>
  intro ex a' w' hx
  obtain ⟨rfl, rfl, rfl⟩ := then_normal hx
  clear hx
  obtain ⟨wv, hwv⟩ : ∃ wv, (wb.alloc (.cells #[.int .i64 (set : Int)] 3)).drew = wv := ⟨_, rfl⟩
  have hbv : Below wb.heap.size wb wv := by rw [← hwv]; exact ((Below.refl _ wb).alloc (Nat.le_refl _) _).drew
  have hbw : Below w.heap.size w wv := hbb.trans (hbv.mono hbb.size)
  have hvsize : wv.heap.size = w.heap.size + 1 + 1 + 1 := by rw [← hwv, ← hbsize]; simp [World.drew]
  have cy : wv.cell? ⟨w.heap.size + 1 + 1, 0, Option.none⟩ = some (.int .i64 set) := by
    have h := (cell_new_l wb (.int .i64 set) 3).1
    rw [hbsize] at h
    rw [← hwv]; exact h
  replace e0 := keep_cell hbv e0
  replace f1 := (hbv.frozen (p := ⟨w.heap.size + 1, 0, Option.none⟩) (World.block_lt_of_cell? wb _ e1)).trans f1
  replace e1 := keep_cell hbv e1
  rw [hwv]
  clear hwv hbv hbb hbsize c0 u0 hnn hwp hwj
  gi_wp2
  have hTv : Tab wv := hT.below hbw hsz
  have hBo := hbw.size
  refine wpIn_rangeFunc_ownF rfl h1 (gf := 33) (lb := #[.pointer (some ⟨w.heap.size + 1 + 1, 0, Option.none⟩)]) rfl trivial (enters_of Tryd.func33 (by kernel_rfl) rfl)
    (things_stops (n - 1) m hm (by omega) (w.heap.size + 1 + 1) w.heap.size set hs wv (by omega) hBo hsz cy hTv) belowK_t (belowK_b hBo) (Below.refl _ _) (fun _ => rfl)
    (fun pre W => Below wv.heap.size wv W ∧ Hid (∀ q, q ∈ pre → p q.1 = false))
    (fun c pre W => (c = .ret ∧ Hid (∃ q : Thing m, W.cell? ⟨w.heap.size + 1, 0, Option.none⟩ = some (.bool true) ∧ q ∈ pre ∧ p q.1 = true)) ∧ Below w.heap.size w W)
    (OwnFrom.and (ownFrom_below (Nat.le_refl _) (Nat.le_refl _)) (ownFrom_pure _ _))
    (fun c => OwnFrom.and (Own.from (fun s A B row hs hg hr => ⟨hs.1, by obtain ⟨q, h1, h3⟩ := hs.2.out; exact ⟨q, cell_kept h1 hg hr, h3⟩⟩) _) (ownFrom_below (Nat.le_refl _) hBo))
    ⟨Below.refl _ _, fun q hq => absurd hq (by simp)⟩
    (fun z => { tmps := #[.pointer (some ⟨B, 0, Option.none⟩), .int .i64 (u : Int), .int .i64 (f : Int), .func (.func 27) #[] #[x, y], undef, undef, undef, .pointer (some ⟨w.heap.size, 0, Option.none⟩), .pointer (some ⟨w.heap.size + 1, 0, Option.none⟩), .int .i64 (z.1 : Int), .pointer (some ⟨B, 0, Option.none⟩), .pointer (some ⟨B, 0, Option.none⟩), .pointer (some ⟨B, 0, Option.none⟩), .slice (some ⟨gu, 0, Option.none⟩) s.nu cu, .int .i64 (u : Int), .pointer (some ⟨gu, u, Option.none⟩), .int .i64 (sw : Int), .int .i64 (f : Int), .int .i64 (pw : Int), .int .i64 (set : Int), .func (.func 33) #[] #[.pointer (some ⟨w.heap.size + 1 + 1, 0, Option.none⟩)], .int .i64 (z.1 : Int), undef, undef, undef], defers := [] }) ?assign ?body ?done ?stop
  case assign =>
    intro l y W K hK
    gi_wp2
    exact hK
  case body =>
    rintro l pre ⟨q, hq⟩ W ⟨hBW, HP⟩ _
    as_aux_lemma =>
      dsimp only
      have d0 := (hBW.cell (p := ⟨w.heap.size, 0, Option.none⟩) (by dsimp only; omega)).trans e0
      have d1 := (hBW.cell (p := ⟨w.heap.size + 1, 0, Option.none⟩) (by dsimp only; omega)).trans e1
      have g1 := (hBW.frozen (p := ⟨w.heap.size + 1, 0, Option.none⟩) (by dsimp only; omega)).trans f1
      have hBx : Below w.heap.size w W := hbw.trans (hBW.mono hBo)
      have hc := hp q hq W hBx
      have hqi : (q : Int) < (m : Int) := by omega
      cases hpq : p q with
      | false =>
        rw [hpq] at hc
        have HQ : Hid (p q = false) := hpq
        clear hpq hp e0 e1 f1 cy hTv
        gi_wp2_with (refine ⟨trivial, fun _ => by omega, ?_⟩; gi_at_call 27; refine ((callsIn_wide.2 hc).inRound l).mono ?_; rintro e W2 ⟨rfl, hB2⟩)
        exact ⟨others_of2 hB2, hB2.mono hBx.size, hBW.trans (hB2.mono hBW.size), fun z hz => by
          rcases List.mem_append.1 hz with hz | hz
          · exact HP.out z hz
          · obtain rfl := List.mem_singleton.1 hz
            exact HQ.out⟩
      | true =>
        rw [hpq] at hc
        have HQ : Hid (p q = true) := hpq
        clear hpq hp e0 e1 f1 cy hTv
        gi_wp2_with (refine ⟨trivial, fun _ => by omega, ?_⟩; gi_at_call 27; refine ((callsIn_wide.2 hc).inRound l).mono ?_; rintro e W2 ⟨rfl, hB2⟩; replace d1 := (hB2.cell (p := ⟨w.heap.size + 1, 0, Option.none⟩) (World.block_lt_of_cell? W _ d1)).trans d1; replace g1 := (hB2.frozen (p := ⟨w.heap.size + 1, 0, Option.none⟩) (by have := hBW.size; dsimp only; omega)).trans g1)
        exact ⟨(others_of2 hB2).trans (KeepsOthers.setCell _ _ _), ⟨rfl, ⟨q, hq⟩, World.cell?_setCell_same' W2 ⟨w.heap.size + 1, 0, Option.none⟩ (.bool true) (by rw [d1]; rfl), by simp, HQ.out⟩, (hBx.trans (hB2.mono hBx.size)).setCell (p := ⟨w.heap.size + 1, 0, Option.none⟩) (by simp) _⟩
  case done =>
    rintro E ys W hE rfl ⟨hBW, HP⟩ hK
    as_aux_lemma =>
      have d1 := (hBW.cell (p := ⟨w.heap.size + 1, 0, Option.none⟩) (by dsimp only; omega)).trans e1
      have g1 := (hBW.frozen (p := ⟨w.heap.size + 1, 0, Option.none⟩) (by dsimp only; omega)).trans f1
      gi_wp2
      have hM : Marked W w.heap.size (E :: []) := Marked.cons (Marked.none _ _) (by omega) (fun _ h => absurd h (by simp)) hK
      have hbn : anyB m set p = false := (anyB_no _ _ _).2 fun g hg hb => HP.out ⟨g, hg⟩ ((memN_iff hm hs ⟨g, hg⟩).2 hb)
      refine leaves_marks (E :: []) _ (hM.kept (KeepsOthers.setCell _ _ _)) fun w' hB' hc' => ⟨.bool false, ?_, ?_, ?_⟩
      · have h6 := hc' _ _ (World.cell?_setCell_same' W ⟨w.heap.size + 1, 0, Option.none⟩ (.bool false) (by rw [d1]; rfl))
        simp [results, Tryd.f29, go_sem, h6]
      · rw [hbn]
      · exact ((hbw.trans (hBW.mono hBo)).setCell (p := ⟨w.heap.size + 1, 0, Option.none⟩) (by simp) _).trans hB'
  case stop =>
    rintro E c pre W hE hpre ⟨⟨rfl, HQ⟩, hBW⟩ hK
    as_aux_lemma =>
      gi_wp2
      obtain ⟨q, hc1, hq1, hq2⟩ := HQ.out
      have hM : Marked W w.heap.size (E :: []) := Marked.cons (Marked.none _ _) (by omega) (fun _ h => absurd h (by simp)) hK
      have hbn : anyB m set p = true := (anyB_iff _ _ _).2 ⟨q.1, q.2, (memN_iff hm hs q).1 (hpre.subset hq1), hq2⟩
      refine leaves_marks (E :: []) _ hM fun w' hB' hc' => ⟨.bool true, ?_, ?_, hBW.trans hB'⟩
      · simp [results, Tryd.f29, go_sem, hc' _ _ hc1]
      · rw [hbn]

set_option maxHeartbeats 1000000 in
theorem sawClosed_in (n : Nat) (p : Nat → Bool) (hn : 4 ≤ n) {n0 n1 B gu gf cu cf : Nat} {au af : Option Addr} {w : World} {s : WallSt} (hM : WMon n0 n1 B au af gu gf cu cf w s) (ok : WallOk s) (hT : Tab w) (u f : Nat) (hu : u < s.nu) (hf : f < s.nf)
    (hp : ∀ q, q < s.nf → ∀ W, Below w.heap.size w W → Calls Tryd.prog 28 #[.pointer (some ⟨B, 0, none⟩), .int .i64 (q : Int)] W fun e w' => e = .returned (.bool (p q)) ∧ Below W.heap.size W w') :
    CallsIn Fence.wide n Tryd.prog 29 #[.pointer (some ⟨B, 0, none⟩), .int .i64 (u : Int), .int .i64 (f : Int), .func (.func 28) #[.pointer (some ⟨B, 0, Option.none⟩)] #[]] w fun e w' => e = .returned (.bool (anyB s.nf (less (s.saw u) (2 ^ f)) p)) ∧ Below w.heap.size w w' := by
  have h1 : 1 ≤ n := by omega
  have hsz := hT.size
  have hmx : Tryd.prog.follows .mixedOrders = true := by kernel_rfl
  obtain ⟨rfl, _, _⟩ := hM.hu (by omega)
  have m8 := ok.nf
  have hm : s.nf ≤ 12 := by omega
  have h12 : 2 ^ s.nf ≤ 4096 := pow12 hm
  have hwp := pow_wrap (a := f) (by omega)
  have hwj := pow_wrapJ (a := f) (by omega)
  have hpl : 2 ^ f < 4096 := Nat.lt_of_lt_of_le (pow_lt_of hf) h12
  have hnn := andNot_i64 (s.saw u) (2 ^ f) (Nat.lt_of_lt_of_le (ok.saw u hu) h12) hpl
  have hs : less (s.saw u) (2 ^ f) < 2 ^ s.nf := lt_of_bits fun j hj => by
    rw [less_bit, Bool.and_eq_true] at hj
    exact bit_lt (ok.saw u hu) hj.1
  have c0 := hM.c0
  have u0 := hM.u0 u hu
  have hui : (u : Int) < (s.nu : Int) := by omega
  have lB := hM.ltB
  have lU := hM.ltu hu
  obtain ⟨set, hset⟩ : ∃ x, less (s.saw u) (2 ^ f) = x := ⟨_, rfl⟩
  rw [hset] at hnn hs ⊢
  obtain ⟨pw, hpw⟩ : ∃ x, 2 ^ f = x := ⟨_, rfl⟩
  rw [hpw] at hwp hnn hwj
  obtain ⟨sw, hsw⟩ : ∃ x, s.saw u = x := ⟨_, rfl⟩
  rw [hsw] at u0 hnn
  obtain ⟨m, hmm⟩ : ∃ x, s.nf = x := ⟨_, rfl⟩
  rw [hmm] at hm hs hp ⊢
  have hf12 : f < 12 := by omega
  clear hset hpw hsw hpl h12 hM ok hmm hf m8
  refine callsIn_of_wp_marks Tryd.func29 rfl trivial ?_ rfl
  simp only [Tryd.ntmps29, List.size_toArray, List.length_cons, List.length_nil, Nat.reduceAdd, Nat.reduceSub, Array.replicate_succ, Array.replicate_zero, List.push_toArray, List.append_toArray, List.nil_append, List.cons_append]
  gi_wp2
  obtain ⟨wb, hwb⟩ : ∃ wb, (w.alloc (.cells #[.func (.func 28) #[.pointer (some ⟨B, 0, Option.none⟩)] #[]] 49)).alloc (.cells #[.bool false] 4) = wb := ⟨_, rfl⟩
  have hbb : Below w.heap.size w wb := by rw [← hwb]; exact ((Below.refl _ w).alloc (Nat.le_refl _) _).alloc (by simp) _
  have hbsize : wb.heap.size = w.heap.size + 1 + 1 := by rw [← hwb]; simp
  have e0 : wb.cell? ⟨w.heap.size, 0, Option.none⟩ = some (.func (.func 28) #[.pointer (some ⟨B, 0, Option.none⟩)] #[]) := by rw [← hwb]; exact cell_alloc_l _ (cell_new_l w (.func (.func 28) #[.pointer (some ⟨B, 0, Option.none⟩)] #[]) 49).1
  have c1 : wb.cell? ⟨w.heap.size + 1, 0, Option.none⟩ = some (.bool false) ∧ wb.frozen? ⟨w.heap.size + 1, 0, Option.none⟩ = false := by
    have h := cell_new_l (w.alloc (.cells #[.func (.func 28) #[.pointer (some ⟨B, 0, Option.none⟩)] #[]] 49)) (.bool false) 4
    simp only [World.size_alloc] at h
    rw [← hwb]; exact h
  obtain ⟨e1, f1⟩ := c1
  replace c0 := keep_cell hbb c0
  replace u0 := keep_cell hbb u0
  rw [hwb]
  clear hwb
  refine wpIn_mono (Q := Exit.then (fun a' w' => a' = { tmps := #[.pointer (some ⟨B, 0, Option.none⟩), .int .i64 (u : Int), .int .i64 (f : Int), .func (.func 28) #[.pointer (some ⟨B, 0, Option.none⟩)] #[], undef, undef, undef, .pointer (some ⟨w.heap.size, 0, Option.none⟩), .pointer (some ⟨w.heap.size + 1, 0, Option.none⟩), undef, .pointer (some ⟨B, 0, Option.none⟩), .pointer (some ⟨B, 0, Option.none⟩), .pointer (some ⟨B, 0, Option.none⟩), .slice (some ⟨gu, 0, Option.none⟩) s.nu cu, .int .i64 (u : Int), .pointer (some ⟨gu, u, Option.none⟩), .int .i64 (sw : Int), .int .i64 (f : Int), .int .i64 (pw : Int), .int .i64 (set : Int), .func (.func 33) #[] #[.pointer (some ⟨w.heap.size + 1 + 1, 0, Option.none⟩)], undef, undef, undef, undef], defers := [] } ∧ w' = (wb.alloc (.cells #[.int .i64 (set : Int)] 3)).drew) (fun _ _ _ => False)) ?reg ?cont
  case reg =>
    gi_region_with_o (refine ⟨trivial, ?_⟩; gi_at_call 30; refine (things_in (n - 1) _ _).mono ?_; rintro e w' ⟨rfl, rfl⟩)
    all_goals
      (try rw [hwj, hnn])
      exact ⟨rfl, rfl⟩
  case cont =>
  intro ex a' w' hx
  obtain ⟨rfl, rfl, rfl⟩ := then_normal hx
  clear hx
  obtain ⟨wv, hwv⟩ : ∃ wv, (wb.alloc (.cells #[.int .i64 (set : Int)] 3)).drew = wv := ⟨_, rfl⟩
  have hbv : Below wb.heap.size wb wv := by rw [← hwv]; exact ((Below.refl _ wb).alloc (Nat.le_refl _) _).drew
  have hbw : Below w.heap.size w wv := hbb.trans (hbv.mono hbb.size)
  have hvsize : wv.heap.size = w.heap.size + 1 + 1 + 1 := by rw [← hwv, ← hbsize]; simp [World.drew]
  have cy : wv.cell? ⟨w.heap.size + 1 + 1, 0, Option.none⟩ = some (.int .i64 set) := by
    have h := (cell_new_l wb (.int .i64 set) 3).1
    rw [hbsize] at h
    rw [← hwv]; exact h
  replace e0 := keep_cell hbv e0
  replace f1 := (hbv.frozen (p := ⟨w.heap.size + 1, 0, Option.none⟩) (World.block_lt_of_cell? wb _ e1)).trans f1
  replace e1 := keep_cell hbv e1
  rw [hwv]
  clear hwv hbv hbb hbsize c0 u0 hnn hwp hwj
  gi_wp2
  have hTv : Tab wv := hT.below hbw hsz
  have hBo := hbw.size
  refine wpIn_rangeFunc_ownF rfl h1 (gf := 33) (lb := #[.pointer (some ⟨w.heap.size + 1 + 1, 0, Option.none⟩)]) rfl trivial (enters_of Tryd.func33 (by kernel_rfl) rfl)
    (things_stops (n - 1) m hm (by omega) (w.heap.size + 1 + 1) w.heap.size set hs wv (by omega) hBo hsz cy hTv) belowK_t (belowK_b hBo) (Below.refl _ _) (fun _ => rfl)
    (fun pre W => Below wv.heap.size wv W ∧ Hid (∀ q, q ∈ pre → p q.1 = false))
    (fun c pre W => (c = .ret ∧ Hid (∃ q : Thing m, W.cell? ⟨w.heap.size + 1, 0, Option.none⟩ = some (.bool true) ∧ q ∈ pre ∧ p q.1 = true)) ∧ Below w.heap.size w W)
    (OwnFrom.and (ownFrom_below (Nat.le_refl _) (Nat.le_refl _)) (ownFrom_pure _ _))
    (fun c => OwnFrom.and (Own.from (fun s A B row hs hg hr => ⟨hs.1, by obtain ⟨q, h1, h3⟩ := hs.2.out; exact ⟨q, cell_kept h1 hg hr, h3⟩⟩) _) (ownFrom_below (Nat.le_refl _) hBo))
    ⟨Below.refl _ _, fun q hq => absurd hq (by simp)⟩
    (fun z => { tmps := #[.pointer (some ⟨B, 0, Option.none⟩), .int .i64 (u : Int), .int .i64 (f : Int), .func (.func 28) #[.pointer (some ⟨B, 0, Option.none⟩)] #[], undef, undef, undef, .pointer (some ⟨w.heap.size, 0, Option.none⟩), .pointer (some ⟨w.heap.size + 1, 0, Option.none⟩), .int .i64 (z.1 : Int), .pointer (some ⟨B, 0, Option.none⟩), .pointer (some ⟨B, 0, Option.none⟩), .pointer (some ⟨B, 0, Option.none⟩), .slice (some ⟨gu, 0, Option.none⟩) s.nu cu, .int .i64 (u : Int), .pointer (some ⟨gu, u, Option.none⟩), .int .i64 (sw : Int), .int .i64 (f : Int), .int .i64 (pw : Int), .int .i64 (set : Int), .func (.func 33) #[] #[.pointer (some ⟨w.heap.size + 1 + 1, 0, Option.none⟩)], .int .i64 (z.1 : Int), undef, undef, undef], defers := [] }) ?assign ?body ?done ?stop
  case assign =>
    intro l y W K hK
    gi_wp2
    exact hK
  case body =>
    rintro l pre ⟨q, hq⟩ W ⟨hBW, HP⟩ _
    as_aux_lemma =>
      dsimp only
      have d0 := (hBW.cell (p := ⟨w.heap.size, 0, Option.none⟩) (by dsimp only; omega)).trans e0
      have d1 := (hBW.cell (p := ⟨w.heap.size + 1, 0, Option.none⟩) (by dsimp only; omega)).trans e1
      have g1 := (hBW.frozen (p := ⟨w.heap.size + 1, 0, Option.none⟩) (by dsimp only; omega)).trans f1
      have hBx : Below w.heap.size w W := hbw.trans (hBW.mono hBo)
      have hc := hp q hq W hBx
      have hqi : (q : Int) < (m : Int) := by omega
      cases hpq : p q with
      | false =>
        rw [hpq] at hc
        have HQ : Hid (p q = false) := hpq
        clear hpq hp e0 e1 f1 cy hTv
        gi_wp2_with (refine ⟨trivial, fun _ => by omega, ?_⟩; gi_at_call 28; refine ((callsIn_wide.2 hc).inRound l).mono ?_; rintro e W2 ⟨rfl, hB2⟩)
        exact ⟨others_of2 hB2, hB2.mono hBx.size, hBW.trans (hB2.mono hBW.size), fun z hz => by
          rcases List.mem_append.1 hz with hz | hz
          · exact HP.out z hz
          · obtain rfl := List.mem_singleton.1 hz
            exact HQ.out⟩
      | true =>
        rw [hpq] at hc
        have HQ : Hid (p q = true) := hpq
        clear hpq hp e0 e1 f1 cy hTv
        gi_wp2_with (refine ⟨trivial, fun _ => by omega, ?_⟩; gi_at_call 28; refine ((callsIn_wide.2 hc).inRound l).mono ?_; rintro e W2 ⟨rfl, hB2⟩; replace d1 := (hB2.cell (p := ⟨w.heap.size + 1, 0, Option.none⟩) (World.block_lt_of_cell? W _ d1)).trans d1; replace g1 := (hB2.frozen (p := ⟨w.heap.size + 1, 0, Option.none⟩) (by have := hBW.size; dsimp only; omega)).trans g1)
        exact ⟨(others_of2 hB2).trans (KeepsOthers.setCell _ _ _), ⟨rfl, ⟨q, hq⟩, World.cell?_setCell_same' W2 ⟨w.heap.size + 1, 0, Option.none⟩ (.bool true) (by rw [d1]; rfl), by simp, HQ.out⟩, (hBx.trans (hB2.mono hBx.size)).setCell (p := ⟨w.heap.size + 1, 0, Option.none⟩) (by simp) _⟩
  case done =>
    rintro E ys W hE rfl ⟨hBW, HP⟩ hK
    as_aux_lemma =>
      have d1 := (hBW.cell (p := ⟨w.heap.size + 1, 0, Option.none⟩) (by dsimp only; omega)).trans e1
      have g1 := (hBW.frozen (p := ⟨w.heap.size + 1, 0, Option.none⟩) (by dsimp only; omega)).trans f1
      gi_wp2
      have hM : Marked W w.heap.size (E :: []) := Marked.cons (Marked.none _ _) (by omega) (fun _ h => absurd h (by simp)) hK
      have hbn : anyB m set p = false := (anyB_no _ _ _).2 fun g hg hb => HP.out ⟨g, hg⟩ ((memN_iff hm hs ⟨g, hg⟩).2 hb)
      refine leaves_marks (E :: []) _ (hM.kept (KeepsOthers.setCell _ _ _)) fun w' hB' hc' => ⟨.bool false, ?_, ?_, ?_⟩
      · have h6 := hc' _ _ (World.cell?_setCell_same' W ⟨w.heap.size + 1, 0, Option.none⟩ (.bool false) (by rw [d1]; rfl))
        simp [results, Tryd.f29, go_sem, h6]
      · rw [hbn]
      · exact ((hbw.trans (hBW.mono hBo)).setCell (p := ⟨w.heap.size + 1, 0, Option.none⟩) (by simp) _).trans hB'
  case stop =>
    rintro E c pre W hE hpre ⟨⟨rfl, HQ⟩, hBW⟩ hK
    as_aux_lemma =>
      gi_wp2
      obtain ⟨q, hc1, hq1, hq2⟩ := HQ.out
      have hM : Marked W w.heap.size (E :: []) := Marked.cons (Marked.none _ _) (by omega) (fun _ h => absurd h (by simp)) hK
      have hbn : anyB m set p = true := (anyB_iff _ _ _).2 ⟨q.1, q.2, (memN_iff hm hs q).1 (hpre.subset hq1), hq2⟩
      refine leaves_marks (E :: []) _ hM fun w' hB' hc' => ⟨.bool true, ?_, ?_, hBW.trans hB'⟩
      · simp [results, Tryd.f29, go_sem, hc' _ _ hc1]
      · rw [hbn]

end Go.Proofs.YtkkhcgapfklmjaaDoor
