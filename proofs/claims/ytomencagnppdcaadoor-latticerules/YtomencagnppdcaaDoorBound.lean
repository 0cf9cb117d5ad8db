/- What the bound of two things is (bound), and whether any two have one (bounded). -/
import Derived.RangeFuncNested
import Derived.RangeFuncBound
import Derived.RangeFuncCalls
import Derived.RangeFuncLeaves
import Derived.RangeFuncFrom
import Derived.Shelf.Abstract
import Derived.Shelf.RegionOpen
import Derived.WalkKit
import Derived.OwnWalkIn
import Derived.TacticsInMore
import Derived.LoopNIn
import Derived.LoopIn
import Derived.Test.YtomencagnppdcaaDoorBnd
namespace Go.Proofs.YtomencagnppdcaaDoor
open Go.RowKit Go.Shelf
attribute [local go_sem] Oper.semAt_some

/-- The answer where there is a bound, and where there is none. -/
def bndRes : Option Nat → Array Value
  | some k => #[.int .i64 k, .nilIface]
  | Option.none => #[.int .i64 0, .iface 51 (.int .i64 5)]

set_option maxRecDepth 100000 in
set_option maxHeartbeats 1000000 in
theorem bound_in (n m B cap a b : Nat) (D : Nat → Nat) (hn : 4 ≤ n) (hL : Lat m D) (ha : a < m) (hb : b < m) (w : World) (ho : Own w B m D) (hT : Tab w) :
    CallsIn Fence.wide n Tryd.prog 32 #[.slice (some ⟨B, 0, Option.none⟩) m cap, .int .i64 a, .int .i64 b] w fun e w' => e = .returned (.tuple (bndRes (bnd m D a b))) ∧ Below w.heap.size w w' := by
  have h1 : 1 ≤ n := by omega
  have hsz := hT.size
  have hm := hL.few
  have h12 := pow12 hm
  have hai : (a : Int) < (m : Int) := by omega
  have hbi : (b : Int) < (m : Int) := by omega
  have hmx : Tryd.prog.follows .mixedOrders = true := by kernel_rfl
  have hba := hL.lt a ha
  have hbb := hL.lt b hb
  have hand := and_i64 (D a) (D b) (by omega) (by omega)
  have hbo : D a &&& D b < 2 ^ m := Nat.lt_of_le_of_lt Nat.and_le_left hba
  obtain ⟨x, hxe⟩ : ∃ x, D a &&& D b = x := ⟨_, rfl⟩
  rw [hxe] at hand hbo
  have HX : Hid (D a &&& D b = x) := hxe
  clear hxe
  refine callsIn_of_wp_marks Tryd.func32 rfl trivial ?_ rfl
  simp only [Tryd.ntmps32, List.size_toArray, List.length_cons, List.length_nil, Nat.reduceAdd, Nat.reduceSub, Array.replicate_succ, Array.replicate_zero, List.push_toArray, List.append_toArray, List.nil_append, List.cons_append]
  gi_wp2
  obtain ⟨wz, hwz⟩ : ∃ wz, ((w.alloc (.cells #[.slice (some ⟨B, 0, Option.none⟩) m cap] 22)).alloc (.cells #[.int .i64 0] 3)).alloc (.cells #[.nilIface] 28) = wz := ⟨_, rfl⟩
  have hBz : Below w.heap.size w wz := by rw [← hwz]; exact (((Below.refl _ w).alloc (Nat.le_refl _) _).alloc (by simp) _).alloc (by simp; omega) _
  have hsize : wz.heap.size = w.heap.size + 1 + 1 + 1 := by rw [← hwz]; simp
  have c0 : wz.cell? ⟨w.heap.size, 0, Option.none⟩ = some (.slice (some ⟨B, 0, Option.none⟩) m cap) := by rw [← hwz]; exact cell_alloc_l _ (cell_alloc_l _ (cell_new_l w (.slice (some ⟨B, 0, Option.none⟩) m cap) 22).1)
  have c1 : wz.cell? ⟨w.heap.size + 1, 0, Option.none⟩ = some (.int .i64 0) ∧ wz.frozen? ⟨w.heap.size + 1, 0, Option.none⟩ = false := by
    have h := cell_new_l (w.alloc (.cells #[.slice (some ⟨B, 0, Option.none⟩) m cap] 22)) (.int .i64 0) 3
    simp only [World.size_alloc] at h
    rw [← hwz]; exact ⟨cell_alloc_l _ h.1, frozen_alloc_l _ h.1 h.2⟩
  have c2 : wz.cell? ⟨w.heap.size + 1 + 1, 0, Option.none⟩ = some .nilIface ∧ wz.frozen? ⟨w.heap.size + 1 + 1, 0, Option.none⟩ = false := by
    have h := cell_new_l ((w.alloc (.cells #[.slice (some ⟨B, 0, Option.none⟩) m cap] 22)).alloc (.cells #[.int .i64 0] 3)) .nilIface 28
    simp only [World.size_alloc] at h
    rw [← hwz]; exact h
  rw [hwz]
  clear hwz
  have oz := ho.below hBz
  have ca := oz.cell a ha
  have cb := oz.cell b hb
  have ca' : (wz.alloc (.cells #[.int .i64 0] 3)).cell? ⟨B, a, Option.none⟩ = some (.int .i64 (D a : Nat)) := cell_alloc_l _ ca
  have cb' : (wz.alloc (.cells #[.int .i64 0] 3)).cell? ⟨B, b, Option.none⟩ = some (.int .i64 (D b : Nat)) := cell_alloc_l _ cb
  have c0' : (wz.alloc (.cells #[.int .i64 0] 3)).cell? ⟨w.heap.size, 0, Option.none⟩ = some (.slice (some ⟨B, 0, Option.none⟩) m cap) := cell_alloc_l _ c0
  gi_region_o
  gi_wp2_with (refine ⟨trivial, ?_⟩; gi_at_call 41; refine (things_in (n - 1) _ _).mono ?_; rintro e w' ⟨rfl, rfl⟩)
  obtain ⟨wv, hwv⟩ : ∃ wv, ((wz.alloc (.cells #[.int .i64 (x : Int)] 3)).alloc (.cells #[.int .i64 (x : Int)] 3)).drew = wv := ⟨_, rfl⟩
  have hBv : Below wz.heap.size wz wv := by rw [← hwv]; exact (((Below.refl _ wz).alloc (Nat.le_refl _) _).alloc (by simp) _).drew
  have hvsize : wv.heap.size = w.heap.size + 1 + 1 + 1 + 1 + 1 := by rw [← hwv, ← hsize]; simp [World.drew]
  have cx : wv.cell? ⟨w.heap.size + 1 + 1 + 1, 0, Option.none⟩ = some (.int .i64 (x : Int)) := by
    have h := (cell_new_l wz (.int .i64 (x : Int)) 3).1
    rw [hsize] at h
    rw [← hwv]; exact cell_alloc_l _ h
  have cy : wv.cell? ⟨w.heap.size + 1 + 1 + 1 + 1, 0, Option.none⟩ = some (.int .i64 (x : Int)) := by
    have h := (cell_new_l (wz.alloc (.cells #[.int .i64 (x : Int)] 3)) (.int .i64 (x : Int)) 3).1
    simp only [World.size_alloc, hsize] at h
    rw [← hwv]; exact h
  have hbw : Below w.heap.size w wv := hBz.trans (hBv.mono hBz.size)
  have e0 := (hBv.cell (p := ⟨w.heap.size, 0, Option.none⟩) (by dsimp only; omega)).trans c0
  have e1 := (hBv.cell (p := ⟨w.heap.size + 1, 0, Option.none⟩) (by dsimp only; omega)).trans c1.1
  have f1 := (hBv.frozen (p := ⟨w.heap.size + 1, 0, Option.none⟩) (by dsimp only; omega)).trans c1.2
  have e2 := (hBv.cell (p := ⟨w.heap.size + 1 + 1, 0, Option.none⟩) (by dsimp only; omega)).trans c2.1
  have f2 := (hBv.frozen (p := ⟨w.heap.size + 1 + 1, 0, Option.none⟩) (by dsimp only; omega)).trans c2.2
  rw [hwv]
  clear hwv c0 c1 c2 c0' ca cb ca' cb' oz hBv hBz hsize hand
  clear wz
  have hTv : Tab wv := hT.below hbw hsz
  have hBo := hbw.size
  refine wpIn_rangeFunc_ownF rfl h1 (gf := 51) (lb := #[.pointer (some ⟨w.heap.size + 1 + 1 + 1 + 1, 0, Option.none⟩)]) rfl trivial (enters_of Tryd.func51 (by kernel_rfl) rfl)
    (things_stops (n - 1) m hm (by omega) (w.heap.size + 1 + 1 + 1 + 1) w.heap.size x hbo wv (by omega) hBo hsz cy hTv) belowK_t (belowK_b hBo) (Below.refl _ _) (fun _ => rfl)
    (fun pre W => Below wv.heap.size wv W ∧ Hid (∀ q, q ∈ pre → less x (D q.1) ≠ 0))
    (fun c pre W => (c = .ret ∧ Hid (∃ q : Thing m, W.cell? ⟨w.heap.size + 1, 0, Option.none⟩ = some (.int .i64 (q.1 : Int)) ∧ W.cell? ⟨w.heap.size + 1 + 1, 0, Option.none⟩ = some .nilIface ∧ q ∈ pre ∧ less x (D q.1) = 0)) ∧ Below w.heap.size w W)
    (OwnFrom.and (ownFrom_below (Nat.le_refl _) (Nat.le_refl _)) (ownFrom_pure _ _))
    (fun c => OwnFrom.and (Own.from (fun s A B row hs hg hr => ⟨hs.1, by obtain ⟨q, h1, h2, h3⟩ := hs.2.out; exact ⟨q, cell_kept h1 hg hr, cell_kept h2 hg hr, h3⟩⟩) _) (ownFrom_below (Nat.le_refl _) hBo))
    ⟨Below.refl _ _, fun q hq => absurd hq (by simp)⟩
    (fun y => { tmps := #[.slice (some ⟨B, 0, Option.none⟩) m cap, .int .i64 a, .int .i64 b, .pointer (some ⟨w.heap.size, 0, Option.none⟩), undef, undef, .pointer (some ⟨w.heap.size + 1, 0, Option.none⟩), .pointer (some ⟨w.heap.size + 1 + 1, 0, Option.none⟩), .pointer (some ⟨w.heap.size + 1 + 1 + 1, 0, Option.none⟩), .int .i64 (y.1 : Int),
      .slice (some ⟨B, 0, Option.none⟩) m cap, .int .i64 a, .pointer (some ⟨B, a, Option.none⟩), .int .i64 (D a : Nat), .slice (some ⟨B, 0, Option.none⟩) m cap, .int .i64 b, .pointer (some ⟨B, b, Option.none⟩), .int .i64 (D b : Nat), .int .i64 x, .int .i64 x, .func (.func 51) #[] #[.pointer (some ⟨w.heap.size + 1 + 1 + 1 + 1, 0, Option.none⟩)], .int .i64 (y.1 : Int), undef, undef, undef, undef, undef, undef, undef, undef, undef], defers := [] }) ?assign ?body ?done ?stop
  case assign =>
    intro l y W K hK
    gi_wp2
    exact hK
  case body =>
    rintro l pre ⟨q, hq⟩ W ⟨hBW, HP⟩ _
    as_aux_lemma =>
      dsimp only
      have cell := fun (p : Addr) (h : p.block < wv.heap.size) => hBW.cell (p := p) h
      have froz := fun (p : Addr) (h : p.block < wv.heap.size) => hBW.frozen (p := p) h
      have d0 := (cell ⟨w.heap.size, 0, Option.none⟩ (by dsimp only; omega)).trans e0
      have d1 := (cell ⟨w.heap.size + 1, 0, Option.none⟩ (by dsimp only; omega)).trans e1
      have g1 := (froz ⟨w.heap.size + 1, 0, Option.none⟩ (by dsimp only; omega)).trans f1
      have d2 := (cell ⟨w.heap.size + 1 + 1, 0, Option.none⟩ (by dsimp only; omega)).trans e2
      have g2 := (froz ⟨w.heap.size + 1 + 1, 0, Option.none⟩ (by dsimp only; omega)).trans f2
      have dx := (cell ⟨w.heap.size + 1 + 1 + 1, 0, Option.none⟩ (by dsimp only; omega)).trans cx
      have hBx : Below w.heap.size w W := hbw.trans (hBW.mono hBo)
      have dq : W.cell? ⟨B, q, Option.none⟩ = some (.int .i64 (D q : Nat)) := (hBx.cell (p := ⟨B, q, Option.none⟩) ho.lt).trans (ho.cell q hq)
      have hqi : (q : Int) < (m : Int) := by omega
      have hnn := andNot_i64 x (D q) (by omega) (Nat.lt_of_lt_of_le (hL.lt q hq) h12)
      obtain ⟨u, hu⟩ : ∃ u, less x (D q) = u := ⟨_, rfl⟩
      obtain ⟨z, hz⟩ : ∃ z, (((u : Nat) : Int) == 0) = z := ⟨_, rfl⟩
      rw [hu] at hnn
      have HU : Hid (less x (D q) = u) := hu
      have HZ : Hid ((((u : Nat) : Int) == 0) = z) := hz
      clear cell froz hu e0 e1 f1 e2 f2 cx cy hTv hba hbb
      gi_wp2
      rename_i Q KF hKF
      have hfin : KF { tmps := #[.slice (some ⟨B, 0, Option.none⟩) m cap, .int .i64 a, .int .i64 b, .pointer (some ⟨w.heap.size, 0, Option.none⟩), undef, undef, .pointer (some ⟨w.heap.size + 1, 0, Option.none⟩), .pointer (some ⟨w.heap.size + 1 + 1, 0, Option.none⟩), .pointer (some ⟨w.heap.size + 1 + 1 + 1, 0, Option.none⟩), .int .i64 (q : Int),
        .slice (some ⟨B, 0, Option.none⟩) m cap, .int .i64 a, .pointer (some ⟨B, a, Option.none⟩), .int .i64 (D a : Nat), .slice (some ⟨B, 0, Option.none⟩) m cap, .int .i64 b, .pointer (some ⟨B, b, Option.none⟩), .int .i64 (D b : Nat), .int .i64 x, .int .i64 x, .func (.func 51) #[] #[.pointer (some ⟨w.heap.size + 1 + 1 + 1 + 1, 0, Option.none⟩)], .int .i64 (q : Int),
        .int .i64 x, .slice (some ⟨B, 0, Option.none⟩) m cap, .int .i64 (q : Int), .pointer (some ⟨B, q, Option.none⟩), .int .i64 (D q : Nat), .int .i64 u, .bool z, undef, undef], defers := [] } W.drew := by
        as_aux_lemma =>
          clear hnn hz dx d0 dq
          refine hKF _ _ ?_
          cases z with
          | true =>
            gi_wp2
            have hne : (⟨w.heap.size + 1, 0, Option.none⟩ : Addr) ≠ ⟨w.heap.size + 1 + 1, 0, Option.none⟩ := fun e => by have := congrArg Addr.block e; dsimp only at this; omega
            refine ⟨((KeepsOthers.setCell _ _ _).trans (KeepsOthers.setCell _ _ _)).trans (KeepsOthers.drew _), ⟨rfl, ⟨q, hq⟩, ?_, ?_, by simp, ?_⟩, ((hBx.setCell (p := ⟨w.heap.size + 1, 0, Option.none⟩) (by simp) _).setCell (p := ⟨w.heap.size + 1 + 1, 0, Option.none⟩) (by dsimp only; omega) _).drew⟩
            · exact (World.cell?_setCell_other _ _ _ _ hne.symm).trans (World.cell?_setCell_same' W ⟨w.heap.size + 1, 0, Option.none⟩ (.int .i64 (q : Int)) (by rw [d1]; rfl))
            · exact World.cell?_setCell_same' _ ⟨w.heap.size + 1 + 1, 0, Option.none⟩ .nilIface (by rw [World.cell?_setCell_other _ _ _ _ hne, d2]; rfl)
            · have h1 := HZ.out
              rw [HU.out]; simpa using h1
          | false =>
            gi_wp2
            exact ⟨KeepsOthers.drew _, (Below.refl _ W).drew, hBW.drew, fun y hy => by
              rcases List.mem_append.1 hy with hy | hy
              · exact HP.out y hy
              · obtain rfl := List.mem_singleton.1 hy
                intro h0
                have h1 := HZ.out
                rw [← HU.out, h0] at h1
                cases h1⟩
      clear hKF d1 g1 d2 g2 HP HU HZ hBW hBx
      as_aux_lemma =>
        gi_region_o
        all_goals exact hfin
  case done =>
    rintro E ys W hE rfl ⟨hBW, HP⟩ hK
    as_aux_lemma =>
      have d1 := (hBW.cell (p := ⟨w.heap.size + 1, 0, Option.none⟩) (by dsimp only; omega)).trans e1
      have g1 := (hBW.frozen (p := ⟨w.heap.size + 1, 0, Option.none⟩) (by dsimp only; omega)).trans f1
      have d2 := (hBW.cell (p := ⟨w.heap.size + 1 + 1, 0, Option.none⟩) (by dsimp only; omega)).trans e2
      have g2 := (hBW.frozen (p := ⟨w.heap.size + 1 + 1, 0, Option.none⟩) (by dsimp only; omega)).trans f2
      gi_wp2
      have hne : (⟨w.heap.size + 1, 0, Option.none⟩ : Addr) ≠ ⟨w.heap.size + 1 + 1, 0, Option.none⟩ := fun e => by have := congrArg Addr.block e; dsimp only at this; omega
      have hM : Marked W w.heap.size (E :: []) := Marked.cons (Marked.none _ _) (by omega) (fun _ h => absurd h (by simp)) hK
      have hbn : bnd m D a b = Option.none := bnd_none fun k hk => by
        have hkb := hk.bit
        have hz := (isBnd_less hL ha hkb).1 hk
        rw [HX.out] at hkb hz
        exact HP.out ⟨k, hk.lt⟩ ((memN_iff hm hbo ⟨k, hk.lt⟩).2 hkb) hz
      refine leaves_marks (E :: []) _ (hM.kept ((KeepsOthers.setCell _ _ _).trans (KeepsOthers.setCell _ _ _))) fun w' hB' hc' => ⟨.tuple #[.int .i64 0, .iface 51 (.int .i64 5)], ?_, ?_, ?_⟩
      · have h6 := hc' _ _ ((World.cell?_setCell_other _ _ _ _ hne.symm).trans (World.cell?_setCell_same' W ⟨w.heap.size + 1, 0, Option.none⟩ (.int .i64 0) (by rw [d1]; rfl)))
        have h7 := hc' _ _ (World.cell?_setCell_same' _ ⟨w.heap.size + 1 + 1, 0, Option.none⟩ (.iface 51 (.int .i64 5)) (by rw [World.cell?_setCell_other _ _ _ _ hne, d2]; rfl))
        simp [results, Tryd.f32, go_sem, h6, h7]
      · rw [hbn]; rfl
      · exact (((hbw.trans (hBW.mono hBo)).setCell (p := ⟨w.heap.size + 1, 0, Option.none⟩) (by simp) _).setCell (p := ⟨w.heap.size + 1 + 1, 0, Option.none⟩) (by dsimp only; omega) _).trans hB'
  case stop =>
    rintro E c pre W hE hpre ⟨⟨rfl, HQ⟩, hBW⟩ hK
    as_aux_lemma =>
      gi_wp2
      obtain ⟨q, hc1, hc2, hq1, hq2⟩ := HQ.out
      have hM : Marked W w.heap.size (E :: []) := Marked.cons (Marked.none _ _) (by omega) (fun _ h => absurd h (by simp)) hK
      have hbn : bnd m D a b = some q.1 := by
        have hmem := (memN_iff hm hbo q).1 (hpre.subset hq1)
        rw [← HX.out] at hmem
        exact bnd_of hL ((isBnd_less hL ha hmem).2 (by rw [HX.out]; exact hq2))
      refine leaves_marks (E :: []) _ hM fun w' hB' hc' => ⟨.tuple #[.int .i64 (q.1 : Int), .nilIface], ?_, ?_, hBW.trans hB'⟩
      · simp [results, Tryd.f32, go_sem, hc' _ _ hc1, hc' _ _ hc2]
      · rw [hbn]; rfl
end Go.Proofs.YtomencagnppdcaaDoor
