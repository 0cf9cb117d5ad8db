/- Whether a closed relation is an order (isOrder). -/
import Derived.RangeFuncNested
import Derived.RangeFuncBound
import Derived.RangeFuncCalls
import Derived.RangeFuncLeaves
import Derived.RangeFuncFrom
import Derived.Shelf.Abstract
import Derived.Shelf.RegionOpen
import Derived.WalkKit
import Derived.OwnWalkIn
import Derived.TacticsInMore
import Derived.LoopNIn
import Derived.LoopIn
import Derived.Test.YtolpkjemgdapgaaDoorSelf
namespace Go.Proofs.YtolpkjemgdapgaaDoor
open Go.RowKit Go.Shelf
attribute [local go_sem] Oper.semAt_some

/-- The marks that loops over functions leave among a function's deferred calls. -/
def marks (Ds : List Nat) : List Deferred := Ds.map fun D => { target := .collected D, args := #[] }
/-- Each mark's block has nothing to hand over. -/
structure Marked (w : World) (B : Nat) (Ds : List Nat) : Prop where
  low : ∀ D, D ∈ Ds → B ≤ D
  lie : ∀ D, D ∈ Ds → w.heap[D]? = some (.deferred (some []))
  once : Ds.Nodup

theorem Marked.none (w : World) (B : Nat) : Marked w B [] := ⟨by simp, by simp, by simp⟩
theorem Marked.lt {w : World} {B : Nat} {Ds : List Nat} (h : Marked w B Ds) {D : Nat} (hD : D ∈ Ds) : D < w.heap.size := (Array.getElem?_eq_some_iff.1 (h.lie D hD)).1
theorem Marked.kept {w w' : World} {B : Nat} {Ds : List Nat} (h : Marked w B Ds) (hk : KeepsOthers w w') : Marked w' B Ds :=
  ⟨h.low, fun D hD => hk.same D _ (h.lie D hD) rfl, h.once⟩

theorem leaves_marks {F : Fence} {n : Nat} {P : Program} {fn : Func} {tmps : Array Value} {R : Ending → World → Prop} {B : Nat} :
    ∀ (Ds : List Nat) (w : World), Marked w B Ds → (∀ w', Below B w w' → (∀ a v, w.cell? a = some v → w'.cell? a = some v) → LeavesInM F n P fn tmps R [] .returning w') →
      LeavesInM F n P fn tmps R (marks Ds) .returning w
  | [], w, _, h => h w (Below.refl _ _) fun _ _ hc => hc
  | D :: Ds, w, hM, h => by
    have hK := hM.lie D (by simp)
    have hlow := hM.low D (by simp)
    have hon := List.nodup_cons.1 hM.once
    refine ⟨by simp, .inl ⟨D, _, rfl, run_takeDeferred hK, ?_⟩⟩
    have hb : Below B w (w.putObj D (.deferred Option.none)) := (Below.refl B w).grown (grownBy_putObj' w D _) (by have := hM.lt (D := D) (by simp); omega) (fun k e => by cases e; omega)
    refine leaves_marks Ds _ ⟨fun E hE => hM.low E (by simp [hE]), fun E hE => ?_, hon.2⟩ ?_
    · have hne : E ≠ D := fun e => hon.1 (e ▸ hE)
      rw [World.putObj_heap_other hne]
      exact hM.lie E (by simp [hE])
    · intro w' hb' hc'
      exact h w' (hb.trans hb') fun a v hc => hc' a v (cell_kept hc (grownBy_putObj' w D _) (fun r e => by cases e; exact ⟨_, hK, rfl⟩))

/-- No two things lead to each other. -/
def noRing (m : Nat) (C : Nat → Nat) : Bool := (List.range m).all fun i => (List.range m).all fun k => (i == k) || !(C i).testBit k || !(C k).testBit i
theorem noRing_iff (m : Nat) (C : Nat → Nat) : noRing m C = true ↔ ∀ i k, i < m → k < m → i ≠ k → (C i).testBit k = true → (C k).testBit i = false := by
  simp only [noRing, List.all_eq_true, List.mem_range, Bool.or_eq_true, beq_iff_eq, Bool.not_eq_true']
  constructor
  · intro h i k hi hk hne hb
    rcases h i hi k hk with (h | h) | h
    · exact absurd h hne
    · rw [hb] at h; cases h
    · exact h
  · intro h i hi k hk
    by_cases e : i = k
    · exact .inl (.inl e)
    · cases hb : (C i).testBit k with
      | false => exact .inl (.inr rfl)
      | true => exact .inr (h i k hi hk e hb)
theorem less_self_bit (x i k : Nat) : (less x (2 ^ i)).testBit k = true ↔ x.testBit k = true ∧ i ≠ k := by
  rw [less_bit, Nat.testBit_two_pow]
  simp

/-- How memory stands between two rounds. -/
structure Between (w wr : World) (B m cap k : Nat) (C : Nat → Nat) (Ds : List Nat) : Prop where
  le : k ≤ m
  box : wr.cell? ⟨w.heap.size, 0, Option.none⟩ = some (.slice (some ⟨B, 0, Option.none⟩) m cap)
  res : wr.cell? ⟨w.heap.size + 1, 0, Option.none⟩ = some (.bool false)
  free : wr.frozen? ⟨w.heap.size + 1, 0, Option.none⟩ = false
  own : Own wr (w.heap.size + 1 + 1) m (fun j => less (C j) (2 ^ j))
  bel : Below w.heap.size w wr
  marked : Marked wr w.heap.size Ds
  past : ∀ i, i < k → ∀ q, (less (C i) (2 ^ i)).testBit q = true → (C q).testBit i = false

theorem Between.below {w wr wz : World} {B m cap k : Nat} {C : Nat → Nat} {Ds : List Nat} (h : Between w wr B m cap k C Ds) (hb : Below wr.heap.size wr wz) : Between w wz B m cap k C Ds := by
  have h1 := h.own.lt
  have c1 : ∀ b o, b < wr.heap.size → wz.cell? ⟨b, o, Option.none⟩ = wr.cell? ⟨b, o, Option.none⟩ := fun b o hlt => hb.cell (p := ⟨b, o, Option.none⟩) hlt
  have f1 : ∀ b o, b < wr.heap.size → wz.frozen? ⟨b, o, Option.none⟩ = wr.frozen? ⟨b, o, Option.none⟩ := fun b o hlt => hb.frozen (p := ⟨b, o, Option.none⟩) hlt
  exact ⟨h.le, (c1 _ _ (by omega)).trans h.box, (c1 _ _ (by omega)).trans h.res, (f1 _ _ (by omega)).trans h.free, h.own.below hb, h.bel.trans (hb.mono h.bel.size),
    ⟨h.marked.low, fun D hD => (hb.block D (h.marked.lt hD)).trans (h.marked.lie D hD), h.marked.once⟩, h.past⟩

theorem Marked.cons {w : World} {B D : Nat} {Ds : List Nat} (h : Marked w B Ds) (hB : B ≤ D) (hn : ∀ E, E ∈ Ds → E < D) (hK : w.heap[D]? = some (.deferred (some []))) : Marked w B (D :: Ds) := by
  refine ⟨fun E hE => ?_, fun E hE => ?_, List.nodup_cons.2 ⟨fun hD => absurd (hn D hD) (by omega), h.once⟩⟩
  · rcases List.mem_cons.1 hE with rfl | hE
    · exact hB
    · exact h.low E hE
  · rcases List.mem_cons.1 hE with rfl | hE
    · exact hK
    · exact h.lie E hE

set_option maxRecDepth 100000 in
set_option maxHeartbeats 1000000 in
theorem isOrder_in (n m B cap : Nat) (C : Nat → Nat) (hn : 4 ≤ n) (hm : m ≤ 12) (hC : ∀ i, i < m → C i < 2 ^ m) (w : World) (ho : Own w B m C) (hT : Tab w) :
    CallsIn Fence.wide n Tryd.prog 19 #[.slice (some ⟨B, 0, Option.none⟩) m cap] w fun e w' => e = .returned (.bool (noRing m C)) ∧ Below w.heap.size w w' := by
  have h1 : 1 ≤ n := by omega
  have hsz := hT.size
  have h12 := pow12 hm
  refine callsIn_of_wp_marks Tryd.func19 rfl trivial ?_ rfl
  simp only [Tryd.ntmps19, List.size_toArray, List.length_cons, List.length_nil, Nat.reduceAdd, Nat.reduceSub, Array.replicate_succ, Array.replicate_zero, List.push_toArray, List.append_toArray, List.nil_append, List.cons_append]
  have hB0 : Below w.heap.size w ((w.alloc (.cells #[.slice (some ⟨B, 0, Option.none⟩) m cap] 22)).alloc (.cells #[.bool false] 4)) := ((Below.refl _ w).alloc (Nat.le_refl _) _).alloc (by simp) _
  have hws := withoutSelf_any m B cap C hm (fun i hi => Nat.lt_of_lt_of_le (hC i hi) h12) _ (ho.below hB0)
  gi_wp2_with (refine ⟨trivial, ?_⟩; gi_at_call 25; refine (callsIn_wide.2 hws).mono ?_; rintro e w1 ⟨rfl, ho1, hB1⟩)
  have hB2 : Below w.heap.size w w1 := hB0.trans (hB1.mono (by simp; omega))
  have hst : Between w w1 B m cap 0 C [] := by
    have c0 := cell_new_l w (.slice (some ⟨B, 0, Option.none⟩) m cap) 22
    have c1 := cell_new_l (w.alloc (.cells #[.slice (some ⟨B, 0, Option.none⟩) m cap] 22)) (.bool false) 4
    simp only [World.size_alloc] at c1 ho1 hB1
    exact ⟨by omega, (hB1.cell (p := ⟨w.heap.size, 0, Option.none⟩) (by dsimp only; omega)).trans (cell_alloc_l _ c0.1), (hB1.cell (p := ⟨w.heap.size + 1, 0, Option.none⟩) (by simp)).trans c1.1,
      (hB1.frozen (p := ⟨w.heap.size + 1, 0, Option.none⟩) (by simp)).trans c1.2, ho1, hB2, Marked.none _ _, fun i h => absurd h (by omega)⟩
  clear ho1 hB1 hws hB0
  refine wpIn_loop (fun a wr => ∃ (k : Nat) (Ds : List Nat) (u3 u4 u5 u10 u11 u12 u13 u14 u15 u16 u17 u18 u19 u20 u21 u22 u23 : Value), Between w wr B m cap k C Ds ∧ a =
      { tmps := #[.slice (some ⟨B, 0, Option.none⟩) m cap, .pointer (some ⟨w.heap.size, 0, Option.none⟩), .pointer (some ⟨w.heap.size + 1, 0, Option.none⟩), u3, u4, u5, .slice (some ⟨B, 0, Option.none⟩) m cap,
          .slice (some ⟨w.heap.size + 1 + 1, 0, Option.none⟩) m m, .int .i64 m, .int .i64 k, u10, u11, u12, u13, u14, u15, u16, u17, u18, u19, u20, u21, u22, u23], defers := marks Ds })
    (fun a _ => m - (intOf (a.tmps.getD 9 undef)).toNat) ?start ?round
  case start => exact ⟨0, [], undef, undef, undef, undef, undef, undef, undef, undef, undef, undef, undef, undef, undef, undef, undef, undef, undef, hst, rfl⟩
  case round =>
    rintro a wr ⟨k, Ds, u3, u4, u5, u10, u11, u12, u13, u14, u15, u16, u17, u18, u19, u20, u21, u22, u23, hb, rfl⟩
    clear hst hB2
    have hk := hb.le
    by_cases hlt : k < m
    · have hset := hb.own.cell k hlt
      obtain ⟨set, hse⟩ : ∃ set, less (C k) (2 ^ k) = set := ⟨_, rfl⟩
      rw [hse] at hset
      have HS : Hid (less (C k) (2 ^ k) = set) := hse
      have hsl : set < 2 ^ m := by
        rw [← hse]
        exact lt_of_bits fun j hj => bit_lt (hC k hlt) ((less_self_bit _ _ _).1 hj).1
      clear hse
      gi_wp2_with (refine ⟨trivial, ?_⟩; gi_at_call 17; refine (things_in (n - 1) _ _).mono ?_; rintro e w' ⟨rfl, rfl⟩)
      have c0 := cell_new_l wr (.int .i64 (k : Int)) 3
      have c1 := cell_new_l (wr.alloc (.cells #[.int .i64 (k : Int)] 3)) (.int .i64 (set : Int)) 3
      simp only [World.size_alloc] at c1
      obtain ⟨wz, hwz⟩ : ∃ wz, (wr.alloc (.cells #[.int .i64 (k : Int)] 3)).alloc (.cells #[.int .i64 (set : Int)] 3) = wz := ⟨_, rfl⟩
      have hBz : Below wr.heap.size wr wz := by rw [← hwz]; exact ((Below.refl _ wr).alloc (Nat.le_refl _) _).alloc (by simp) _
      have hsize : wz.heap.size = wr.heap.size + 1 + 1 := by rw [← hwz]; simp
      have ci : wz.cell? ⟨wr.heap.size, 0, Option.none⟩ = some (.int .i64 (k : Int)) := by rw [← hwz]; exact cell_alloc_l _ c0.1
      have cs : wz.cell? ⟨wr.heap.size + 1, 0, Option.none⟩ = some (.int .i64 (set : Int)) := by rw [← hwz]; exact c1.1
      have hz := hb.below hBz
      rw [hwz]
      clear c0 c1 hwz hset
      have hTz : Tab wz := hT.below hz.bel hsz
      have hBo := hz.bel.size
      have hol := hz.own.lt
      refine wpIn_rangeFunc_ownF rfl h1 (gf := 21) (lb := #[.pointer (some ⟨wr.heap.size + 1, 0, Option.none⟩)]) rfl trivial (enters_of Tryd.func21 (by kernel_rfl) rfl)
        (things_stops (n - 1) m hm (by omega) (wr.heap.size + 1) w.heap.size set hsl wz (by omega) hBo hsz cs hTz) belowK_t (belowK_b hBo) (Below.refl _ _) (fun _ => rfl)
        (fun pre W => Below wz.heap.size wz W ∧ Hid (∀ q, q ∈ pre → (C q.1).testBit k = false))
        (fun c pre W => (c = .ret ∧ W.cell? ⟨w.heap.size + 1, 0, Option.none⟩ = some (.bool false) ∧ Hid (∃ q, q ∈ pre ∧ (C q.1).testBit k = true)) ∧ Below w.heap.size w W ∧ Hid (∀ D, D ∈ Ds → W.heap[D]? = some (.deferred (some []))))
        (OwnFrom.and (ownFrom_below (Nat.le_refl _) (Nat.le_refl _)) (ownFrom_pure _ _))
        (fun c => OwnFrom.and (Own.from (fun s A B row hs hg hr => ⟨hs.1, cell_kept hs.2.1 hg hr, hs.2.2⟩) _) (OwnFrom.and (ownFrom_below (Nat.le_refl _) hBo)
          (fun s A B row hs hg hr D hD => (hg.block D (Array.getElem?_eq_some_iff.1 (hs D hD)).1 (fun e => by have h1 := (hr D e.symm).1; have h2 := hz.marked.lt hD; omega)).trans (hs D hD))))
        ⟨Below.refl _ _, fun q hq => absurd hq (by simp)⟩
        (fun x => { tmps := #[.slice (some ⟨B, 0, Option.none⟩) m cap, .pointer (some ⟨w.heap.size, 0, Option.none⟩), .pointer (some ⟨w.heap.size + 1, 0, Option.none⟩), .pointer (some ⟨wr.heap.size, 0, Option.none⟩), .int .i64 set, .int .i64 (x.1 : Int), .slice (some ⟨B, 0, Option.none⟩) m cap,
          .slice (some ⟨w.heap.size + 1 + 1, 0, Option.none⟩) m m, .int .i64 m, .int .i64 k, .bool true, .int .i64 k, .pointer (some ⟨w.heap.size + 1 + 1, k, Option.none⟩), .int .i64 set, .int .i64 set, .func (.func 21) #[] #[.pointer (some ⟨wr.heap.size + 1, 0, Option.none⟩)], .int .i64 (x.1 : Int), u17, u18, u19, u20, u21, u22, u23], defers := [] }) ?assign ?body ?done ?stop
      case assign =>
        intro l x W K hK
        gi_wp2
        exact hK
      case body =>
        rintro l pre ⟨q, hq⟩ W ⟨hBW, HP⟩ _
        dsimp only
        have hzW := hz.below hBW
        have e1 := hzW.box
        have e2 := hzW.res
        have e3 := hzW.free
        have e4 : W.cell? ⟨wr.heap.size, 0, Option.none⟩ = some (.int .i64 (k : Int)) := (hBW.cell (p := ⟨wr.heap.size, 0, Option.none⟩) (by dsimp only; omega)).trans ci
        have e5 : W.cell? ⟨B, q, Option.none⟩ = some (.int .i64 (C q : Nat)) := (hzW.bel.cell (p := ⟨B, q, Option.none⟩) ho.lt).trans (ho.cell q hq)
        have hqi : (q : Int) < (m : Int) := by omega
        have hmx : Tryd.prog.follows .mixedOrders = true := by kernel_rfl
        have hd : 1 ≤ n - 1 - 1 := by omega
        have hha := has_any (C q) k (Nat.lt_of_lt_of_le (hC q hq) h12) (by omega)
        cases hbt : (C q).testBit k with
        | false =>
          rw [hbt] at hha
          have HB : Hid ((C q).testBit k = false) := hbt
          clear hbt
          gi_wp2
          gi_region_with_o (refine ⟨trivial, ?_⟩; gi_at_call 26; refine (CallsIn.inRound l (callsIn_wide.2 (hha _))).mono ?_; rintro e w' ⟨rfl, rfl⟩)
          all_goals gi_wp2
          all_goals exact ⟨KeepsOthers.drew _, (Below.refl _ W).drew, hBW.drew, fun x hx => by
            rcases List.mem_append.1 hx with hx | hx
            · exact HP.out x hx
            · obtain rfl := List.mem_singleton.1 hx
              exact HB.out⟩
        | true =>
          rw [hbt] at hha
          have HB : Hid ((C q).testBit k = true) := hbt
          clear hbt
          gi_wp2
          gi_region_with_o (refine ⟨trivial, ?_⟩; gi_at_call 26; refine (CallsIn.inRound l (callsIn_wide.2 (hha _))).mono ?_; rintro e w' ⟨rfl, rfl⟩)
          all_goals gi_wp2
          all_goals exact ⟨(KeepsOthers.setCell _ _ _).trans (KeepsOthers.drew _), ⟨rfl, World.cell?_setCell_same' W ⟨w.heap.size + 1, 0, Option.none⟩ (.bool false) (by rw [e2]; rfl), ⟨q, hq⟩, by simp, HB.out⟩,
            (hzW.bel.setCell (p := ⟨w.heap.size + 1, 0, Option.none⟩) (by simp) _).drew, (hzW.marked.kept ((KeepsOthers.setCell _ _ _).trans (KeepsOthers.drew _))).lie⟩
      case done =>
        rintro D ys W hD rfl ⟨hBW, HP⟩ hK
        have hzW := hz.below hBW
        gi_wp2
        refine ⟨⟨k + 1, D :: Ds, _, _, _, _, _, _, _, _, _, _, _, _, _, _, _, _, _, ⟨by omega, hzW.box, hzW.res, hzW.free, hzW.own, hzW.bel, hzW.marked.cons (by omega) (fun E hE => Nat.lt_of_lt_of_le (hz.marked.lt hE) hD) hK, ?_⟩, rfl⟩, ?_⟩
        · intro i hi q hbq
          by_cases e : i = k
          · subst e
            rw [HS.out] at hbq
            exact HP.out ⟨q, bit_lt hsl hbq⟩ ((memN_iff hm hsl _).2 hbq)
          · exact hb.past i (by omega) q hbq
        · simp [intOf]; omega
      case stop =>
        rintro D c pre W hD hpre ⟨⟨rfl, hcr, HR⟩, hBW, HM⟩ hK
        gi_wp2
        have hM : Marked W w.heap.size (D :: Ds) := Marked.cons ⟨hz.marked.low, HM.out, hz.marked.once⟩ (by omega) (fun E hE => Nat.lt_of_lt_of_le (hz.marked.lt hE) hD) hK
        refine leaves_marks (D :: Ds) _ hM fun w' hB' hc' => ⟨.bool false, ?_, ?_, hBW.trans hB'⟩
        · simp [results, Tryd.f19, go_sem, hc' _ _ hcr]
        · obtain ⟨q, hq, hbq⟩ := HR.out
          have hmem := (memN_iff hm hsl q).1 (hpre.subset hq)
          rw [← HS.out] at hmem
          have hls := (less_self_bit _ _ _).1 hmem
          have : noRing m C = false := by
            cases hnr : noRing m C with
            | false => rfl
            | true => have := (noRing_iff m C).1 hnr k q.1 hlt q.2 hls.2 hls.1; rw [hbq] at this; cases this
          rw [this]
    · have hres := hb.res
      have hfree := hb.free
      gi_wp2
      refine leaves_marks Ds _ (hb.marked.kept (KeepsOthers.setCell _ _ _)) fun w' hB' hc' => ⟨.bool true, ?_, ?_, ?_⟩
      · have hcr := hc' _ _ (World.cell?_setCell_same' wr ⟨w.heap.size + 1, 0, Option.none⟩ (.bool true) (by rw [hres]; rfl))
        simp [results, Tryd.f19, go_sem, hcr]
      · have hnr : noRing m C = true := (noRing_iff m C).2 fun i q hi hq hne hbt => hb.past i (by omega) q ((less_self_bit _ _ _).2 ⟨hbt, hne⟩)
        rw [hnr]
      · exact (hb.bel.setCell (p := ⟨w.heap.size + 1, 0, Option.none⟩) (by simp) _).trans hB'

theorem isOrder_any (m B cap : Nat) (C : Nat → Nat) (hm : m ≤ 12) (hC : ∀ i, i < m → C i < 2 ^ m) (w : World) (ho : Own w B m C) (hT : Tab w) :
    Calls Tryd.prog 19 #[.slice (some ⟨B, 0, Option.none⟩) m cap] w fun e w' => e = .returned (.bool (noRing m C)) ∧ Below w.heap.size w w' :=
  (callsIn_wide (n := 4)).1 (isOrder_in 4 m B cap C (by omega) hm hC w ho hT)

theorem OrderClosure_bad (a : Option Addr) (m cap : Nat) (c : Int) (w : World)
    (hc : Calls Tryd.prog 18 #[.slice a m cap] w fun e w' => e = .returned (.tuple #[.slice Option.none 0 0, .iface 36 (.int .i64 c)]) ∧ w' = w) :
    Calls Tryd.prog 14 #[.slice a m cap] w fun e w' => e = .returned (.tuple #[.slice Option.none 0 0, .iface 36 (.int .i64 c)]) ∧ w' = w := by
  go_enter Tryd.func14, Tryd.ntmps14
  go_wp2_with (go_at_call 18; refine hc.mono ?_; rintro e w' ⟨rfl, rfl⟩)
  go_ret2
  exact ⟨rfl, rfl⟩
theorem OrderClosure_ring (a : Option Addr) (m cap : Nat) (C : Nat → Nat) (hm : m ≤ 12) (hC : ∀ i, i < m → C i < 2 ^ m) (w : World) (hT : Tab w) (hn : noRing m C = false)
    (hcl : Calls Tryd.prog 18 #[.slice a m cap] w fun e w' => e = .returned (.tuple #[.slice (some ⟨w.heap.size, 0, Option.none⟩) m m, .nilIface]) ∧ Own w' w.heap.size m C ∧ Below w.heap.size w w') :
    Calls Tryd.prog 14 #[.slice a m cap] w fun e w' => e = .returned (.tuple #[.slice Option.none 0 0, .iface 36 (.int .i64 6)]) ∧ Below w.heap.size w w' := by
  have hio := fun w1 (ho : Own w1 w.heap.size m C) (hB : Below w.heap.size w w1) => isOrder_any m w.heap.size m C hm hC w1 ho (hT.below hB hT.size)
  rw [hn] at hio
  clear hn hC
  go_enter Tryd.func14, Tryd.ntmps14
  go_wp2_with (first | (go_at_call 18; refine hcl.mono ?_; rintro e w1 ⟨rfl, ho, hB⟩) | (go_at_call 19; refine (hio _ ho hB).mono ?_; rintro e w2 ⟨rfl, hB2⟩))
  go_ret2
  exact ⟨rfl, hB.trans (hB2.mono hB.size)⟩
theorem OrderClosure_good (a : Option Addr) (m cap : Nat) (C : Nat → Nat) (hm : m ≤ 12) (hC : ∀ i, i < m → C i < 2 ^ m) (w : World) (hT : Tab w) (hn : noRing m C = true)
    (hcl : Calls Tryd.prog 18 #[.slice a m cap] w fun e w' => e = .returned (.tuple #[.slice (some ⟨w.heap.size, 0, Option.none⟩) m m, .nilIface]) ∧ Own w' w.heap.size m C ∧ Below w.heap.size w w') :
    Calls Tryd.prog 14 #[.slice a m cap] w fun e w' => e = .returned (.tuple #[.slice (some ⟨w.heap.size, 0, Option.none⟩) m m, .nilIface]) ∧ Own w' w.heap.size m C ∧ Below w.heap.size w w' := by
  have hio := fun w1 (ho : Own w1 w.heap.size m C) (hB : Below w.heap.size w w1) => isOrder_any m w.heap.size m C hm hC w1 ho (hT.below hB hT.size)
  rw [hn] at hio
  clear hn hC
  go_enter Tryd.func14, Tryd.ntmps14
  go_wp2_with (first | (go_at_call 18; refine hcl.mono ?_; rintro e w1 ⟨rfl, ho, hB⟩) | (go_at_call 19; refine (hio _ ho hB).mono ?_; rintro e w2 ⟨rfl, hB2⟩))
  go_ret2
  exact ⟨rfl, ho.below hB2, hB.trans (hB2.mono hB.size)⟩
theorem OrderClosure_wrong (a : Option Addr) (m cap : Nat) (zs : List Int) (w : World) (hn : AtNums w a m zs) (hf : ¬ Fine m zs) :
    Calls Tryd.prog 14 #[.slice a m cap] w fun e w' => e = .returned (.tuple #[.slice Option.none 0 0, .iface 36 (.int .i64 (wrongN m))]) ∧ w' = w :=
  OrderClosure_bad a m cap (wrongN m) w (Closure_wrong a m cap zs w hn hf)
theorem OrderClosure_no (a : Option Addr) (m cap : Nat) (zs : List Int) (hz : m ≤ zs.length) (w : World) (hn : AtNums w a m zs) (hT : Tab w) (hf : Fine m zs) (hr : noRing m (come m (rowsOf m zs)) = false) :
    Calls Tryd.prog 14 #[.slice a m cap] w fun e w' => e = .returned (.tuple #[.slice Option.none 0 0, .iface 36 (.int .i64 6)]) ∧ Below w.heap.size w w' :=
  OrderClosure_ring a m cap _ hf.1 (fun _ hi => come_lt (rowsOf_right hf.1 hz hf.2) hi) w hT hr (Closure_fine a m cap zs hz w hn hT hf)
theorem OrderClosure_yes (a : Option Addr) (m cap : Nat) (zs : List Int) (hz : m ≤ zs.length) (w : World) (hn : AtNums w a m zs) (hT : Tab w) (hf : Fine m zs) (hr : noRing m (come m (rowsOf m zs)) = true) :
    Calls Tryd.prog 14 #[.slice a m cap] w fun e w' => e = .returned (.tuple #[.slice (some ⟨w.heap.size, 0, Option.none⟩) m m, .nilIface]) ∧ Own w' w.heap.size m (come m (rowsOf m zs)) ∧ Below w.heap.size w w' :=
  OrderClosure_good a m cap _ hf.1 (fun _ hi => come_lt (rowsOf_right hf.1 hz hf.2) hi) w hT hr (Closure_fine a m cap zs hz w hn hT hf)
end Go.Proofs.YtolpkjemgdapgaaDoor
