/- What leads to each thing (turned). -/
import Derived.RangeFuncNested
import Derived.RangeFuncBound
import Derived.RangeFuncCalls
import Derived.RangeFuncLeaves
import Derived.RangeFuncFrom
import Derived.Shelf.Abstract
import Derived.Shelf.RegionOpen
import Derived.WalkKit
import Derived.OwnWalkIn
import Derived.TacticsInMore
import Derived.LoopNIn
import Derived.LoopIn
import Derived.Test.YthaandknlfalbaaDoorMid
namespace Go.Proofs.YthaandknlfalbaaDoor
open Go.RowKit Go.Shelf
attribute [local go_sem] Oper.semAt_some

/-- What is turned when k rows are over, and some things of the next one. -/
def TurnedTo (m : Nat) (R : Nat → Nat) (k : Nat) (p : Nat → Prop) (f : Nat → Nat) : Prop :=
  ∀ q, q < m → f q < 2 ^ m ∧ ∀ x, (f q).testBit x = true ↔ (x < k ∧ (R x).testBit q = true) ∨ (x = k ∧ p q)

/-- How memory stands between two rounds. -/
structure Turning (w wr : World) (m k : Nat) (R : Nat → Nat) (Ds : List Nat) : Prop where
  le : k ≤ m
  box : wr.cell? ⟨w.heap.size + 1, 0, Option.none⟩ = some (.slice (some ⟨w.heap.size, 0, Option.none⟩) m m)
  out : ∃ f, Own wr w.heap.size m f ∧ TurnedTo m R k (fun _ => False) f
  bel : Below w.heap.size w wr
  marked : Marked wr w.heap.size Ds
  big : w.heap.size + 1 < wr.heap.size

theorem own_kept {w w' : World} {B m : Nat} {f : Nat → Nat} {row : Option Nat} (h : Own w B m f) (hg : w.grownBy w' row) (hr : ∀ r, row = some r → ∃ o : Obj, w.heap[r]? = some o ∧ o.isCells = false) : Own w' B m f :=
  ⟨Nat.lt_of_lt_of_le h.lt hg.size, fun j hj => cell_kept (h.cell j hj) hg hr, fun j hj => (frozen_kept (h.cell j hj) hg hr).trans (h.free j hj)⟩

set_option maxRecDepth 100000 in
set_option maxHeartbeats 1000000 in
theorem turned_in (n m b off cap : Nat) (R : Nat → Nat) (hn : 4 ≤ n) (hm : m ≤ 12) (hR : ∀ i, i < m → R i < 2 ^ m) (w : World) (hb : b < w.heap.size) (hc : ∀ i, i < m → w.cell? ⟨b, off + i, Option.none⟩ = some (.int .i64 (R i : Nat))) (hT : Tab w) :
    CallsIn Fence.wide n Tryd.prog 41 #[.slice (some ⟨b, off, Option.none⟩) m cap] w fun e w' => e = .returned (.slice (some ⟨w.heap.size, 0, Option.none⟩) m m) ∧ (∃ f, Lies w' w.heap.size 0 m (listOf m f) ∧ TurnedTo m R m (fun _ => False) f) ∧ Below w.heap.size w w' := by
  have h1 : 1 ≤ n := by omega
  have hsz := hT.size
  have h12 := pow12 hm
  have hmk := make_any w m hm
  refine callsIn_of_wp_marks Tryd.func41 rfl trivial ?_ rfl
  simp only [Tryd.ntmps41, List.size_toArray, List.length_cons, List.length_nil, Nat.reduceAdd, Nat.reduceSub, Array.replicate_succ, Array.replicate_zero, List.push_toArray, List.append_toArray, List.nil_append, List.cons_append]
  gi_wp2
  have hst : Turning w ((w.alloc (.cells (madeCells #[.int .i64 0] m) 3)).alloc (.cells #[.slice (some ⟨w.heap.size, 0, Option.none⟩) m m] 22)) m 0 R [] := by
    have b1 : Below w.heap.size w (w.alloc (.cells (madeCells #[.int .i64 0] m) 3)) := (Below.refl _ _).alloc (Nat.le_refl _) _
    have b2 : Below (w.alloc (.cells (madeCells #[.int .i64 0] m) 3)).heap.size (w.alloc (.cells (madeCells #[.int .i64 0] m) 3)) ((w.alloc (.cells (madeCells #[.int .i64 0] m) 3)).alloc (.cells #[.slice (some ⟨w.heap.size, 0, Option.none⟩) m m] 22)) := (Below.refl _ _).alloc (Nat.le_refl _) _
    have c1 := cell_new_l (w.alloc (.cells (madeCells #[.int .i64 0] m) 3)) (.slice (some ⟨w.heap.size, 0, Option.none⟩) m m) 22
    rw [World.size_alloc] at c1
    exact ⟨by omega, c1.1, ⟨fun _ => 0, (Own.made w m).below b2, fun q _ => ⟨Nat.two_pow_pos m, fun x => by simp⟩⟩, b1.trans (b2.mono (by simp)), Marked.none _ _, by simp⟩
  clear hmk
  refine wpIn_loop (fun a wr => ∃ (k : Nat) (Ds : List Nat) (u4 u5 u6 u13 u14 u15 u16 u17 u18 u19 u20 u21 u22 u23 u24 u25 u26 u27 u28 : Value), Turning w wr m k R Ds ∧ a =
      { tmps := #[.slice (some ⟨b, off, Option.none⟩) m cap, undef, .slice Option.none 0 0, .pointer (some ⟨w.heap.size + 1, 0, Option.none⟩), u4, u5, u6, .slice (some ⟨b, off, Option.none⟩) m cap, .int .i64 m, .slice (some ⟨w.heap.size, 0, Option.none⟩) m m,
          .slice (some ⟨b, off, Option.none⟩) m cap, .int .i64 m, .int .i64 k, u13, u14, u15, u16, u17, u18, u19, u20, u21, u22, u23, u24, u25, u26, u27, u28, undef], defers := marks Ds })
    (fun a _ => m - (intOf (a.tmps.getD 12 undef)).toNat) ?start ?round
  case start => exact ⟨0, [], undef, undef, undef, undef, undef, undef, undef, undef, undef, undef, undef, undef, undef, undef, undef, undef, undef, undef, undef, hst, rfl⟩
  case round =>
    rintro a wr ⟨k, Ds, u4, u5, u6, u13, u14, u15, u16, u17, u18, u19, u20, u21, u22, u23, u24, u25, u26, u27, u28, ht, rfl⟩
    clear hst
    have hk := ht.le
    by_cases hlt : k < m
    · have hset : wr.cell? ⟨b, off + k, Option.none⟩ = some (.int .i64 (R k : Nat)) := (ht.bel.cell (p := ⟨b, off + k, Option.none⟩) hb).trans (hc k hlt)
      have hsl := hR k hlt
      gi_wp2_with (refine ⟨trivial, ?_⟩; gi_at_call 39; refine (things_in (n - 1) _ _).mono ?_; rintro e w' ⟨rfl, rfl⟩)
      have c0 := cell_new_l wr (.int .i64 (k : Int)) 3
      have c1 := cell_new_l (wr.alloc (.cells #[.int .i64 (k : Int)] 3)) (.int .i64 (R k : Int)) 3
      simp only [World.size_alloc] at c1
      obtain ⟨wz, hwz⟩ : ∃ wz, (wr.alloc (.cells #[.int .i64 (k : Int)] 3)).alloc (.cells #[.int .i64 (R k : Int)] 3) = wz := ⟨_, rfl⟩
      have hBz : Below wr.heap.size wr wz := by rw [← hwz]; exact ((Below.refl _ wr).alloc (Nat.le_refl _) _).alloc (by simp) _
      have hsize : wz.heap.size = wr.heap.size + 1 + 1 := by rw [← hwz]; simp
      have ci : wz.cell? ⟨wr.heap.size, 0, Option.none⟩ = some (.int .i64 (k : Int)) := by rw [← hwz]; exact cell_alloc_l _ c0.1
      have cs : wz.cell? ⟨wr.heap.size + 1, 0, Option.none⟩ = some (.int .i64 (R k : Int)) := by rw [← hwz]; exact c1.1
      have hbig := ht.big
      have hbx : wz.cell? ⟨w.heap.size + 1, 0, Option.none⟩ = some (.slice (some ⟨w.heap.size, 0, Option.none⟩) m m) := (hBz.cell (p := ⟨w.heap.size + 1, 0, Option.none⟩) hbig).trans ht.box
      obtain ⟨f0, hf0, htt0⟩ := ht.out
      have hbw : Below w.heap.size w wz := ht.bel.trans (hBz.mono ht.bel.size)
      have hmk : Marked wz w.heap.size Ds := ⟨ht.marked.low, fun D hD => (hBz.block D (ht.marked.lt hD)).trans (ht.marked.lie D hD), ht.marked.once⟩
      rw [hwz]
      clear c0 c1 hwz hset
      have hTz : Tab wz := hT.below hbw hsz
      have hBo := hbw.size
      refine wpIn_rangeFunc_ownF rfl h1 (gf := 47) (lb := #[.pointer (some ⟨wr.heap.size + 1, 0, Option.none⟩)]) rfl trivial (enters_of Tryd.func47 (by kernel_rfl) rfl)
        (things_stops (n - 1) m hm (by omega) (wr.heap.size + 1) w.heap.size (R k) hsl wz (by omega) hBo hsz cs hTz) belowK_t (belowK_b hBo) (Below.refl _ _) (fun _ => rfl)
        (fun pre W => (∃ f, Own W w.heap.size m f ∧ TurnedTo m R k (fun q => ∃ h : q < m, (⟨q, h⟩ : Thing m) ∈ pre) f) ∧ ((W.cell? ⟨w.heap.size + 1, 0, Option.none⟩ = some (.slice (some ⟨w.heap.size, 0, Option.none⟩) m m) ∧ W.cell? ⟨wr.heap.size, 0, Option.none⟩ = some (.int .i64 (k : Int))) ∧ (Below w.heap.size w W ∧ Hid (∀ D, D ∈ Ds → W.heap[D]? = some (.deferred (some []))))))
        (fun _ _ _ => False)
        (OwnFrom.and (Own.from (fun s A B row hs hg hr => by obtain ⟨f, h1, h2⟩ := hs; exact ⟨f, own_kept h1 hg hr, h2⟩) _) (OwnFrom.and (Own.from (fun s A B row hs hg hr => ⟨cell_kept hs.1 hg hr, cell_kept hs.2 hg hr⟩) _) (OwnFrom.and (ownFrom_below (Nat.le_refl _) hBo)
          (fun s A B row hs hg hr D hD => (hg.block D (Array.getElem?_eq_some_iff.1 (hs D hD)).1 (fun e => by have h1 := (hr D e.symm).1; have h2 := hmk.lt hD; omega)).trans (hs D hD)))))
        (fun _ _ _ _ _ hs _ _ => hs)
        ⟨⟨f0, hf0.below hBz, fun q hq => ⟨(htt0 q hq).1, fun x => by rw [(htt0 q hq).2 x]; simp⟩⟩, ⟨hbx, ci⟩, hbw, hmk.lie⟩
        (fun x => { tmps := #[.slice (some ⟨b, off, Option.none⟩) m cap, undef, .slice Option.none 0 0, .pointer (some ⟨w.heap.size + 1, 0, Option.none⟩), .pointer (some ⟨wr.heap.size, 0, Option.none⟩), .int .i64 (R k : Nat), .int .i64 (x.1 : Int), .slice (some ⟨b, off, Option.none⟩) m cap, .int .i64 m, .slice (some ⟨w.heap.size, 0, Option.none⟩) m m,
          .slice (some ⟨b, off, Option.none⟩) m cap, .int .i64 m, .int .i64 k, .bool true, .int .i64 k, .pointer (some ⟨b, off + k, Option.none⟩), .int .i64 (R k : Nat), .int .i64 (R k : Nat), .func (.func 47) #[] #[.pointer (some ⟨wr.heap.size + 1, 0, Option.none⟩)], .int .i64 (x.1 : Int), u20, u21, u22, u23, u24, u25, u26, u27, u28, undef], defers := [] }) ?assign ?body ?done ?stop
      case assign =>
        intro l x W K hK
        gi_wp2
        exact hK
      case body =>
        rintro l pre ⟨q, hq⟩ W ⟨⟨f, hof, htt⟩, ⟨e1, e2⟩, hBW, HM⟩ _
        dsimp only
        have e3 := hof.cell q hq
        have e4 := hof.free q hq
        have hqi : (q : Int) < (m : Int) := by omega
        have hmx : Tryd.prog.follows .mixedOrders = true := by kernel_rfl
        have hp := pow_wrap (a := k) (by omega)
        have hpl : 2 ^ k < 4096 := Nat.lt_of_lt_of_le (Nat.pow_lt_pow_right (by decide) hlt) h12
        have hval : bits BinOp.or IntKind.i64 (f q : Int) (IntKind.i64.wrap ((2 : Int) ^ k)) = ((f q ||| 2 ^ k : Nat) : Int) := by
          rw [show IntKind.i64.wrap ((2 : Int) ^ k) = ((2 ^ k : Nat) : Int) from (IntWalk.i64_left _).trans hp]
          exact or_i64 (f q) (2 ^ k) (Nat.lt_of_lt_of_le (htt q hq).1 h12) hpl
        have hput := hof.put hq (upd_same f q (f q ||| 2 ^ k)) (fun x _ hne => upd_other f hne)
        have HX : Hid (KeepsOthers W (W.setCell ⟨w.heap.size, q, Option.none⟩ (.int .i64 (f q ||| 2 ^ k : Nat))).drew ∧ Below w.heap.size W (W.setCell ⟨w.heap.size, q, Option.none⟩ (.int .i64 (f q ||| 2 ^ k : Nat))).drew ∧
            (∃ f', Own (W.setCell ⟨w.heap.size, q, Option.none⟩ (.int .i64 (f q ||| 2 ^ k : Nat))).drew w.heap.size m f' ∧ TurnedTo m R k (fun x => ∃ h : x < m, (⟨x, h⟩ : Thing m) ∈ pre ++ [⟨q, hq⟩]) f') ∧
            (((W.setCell ⟨w.heap.size, q, Option.none⟩ (.int .i64 (f q ||| 2 ^ k : Nat))).drew.cell? ⟨w.heap.size + 1, 0, Option.none⟩ = some (.slice (some ⟨w.heap.size, 0, Option.none⟩) m m) ∧ (W.setCell ⟨w.heap.size, q, Option.none⟩ (.int .i64 (f q ||| 2 ^ k : Nat))).drew.cell? ⟨wr.heap.size, 0, Option.none⟩ = some (.int .i64 (k : Int))) ∧
            (Below w.heap.size w (W.setCell ⟨w.heap.size, q, Option.none⟩ (.int .i64 (f q ||| 2 ^ k : Nat))).drew ∧ Hid (∀ D, D ∈ Ds → (W.setCell ⟨w.heap.size, q, Option.none⟩ (.int .i64 (f q ||| 2 ^ k : Nat))).drew.heap[D]? = some (.deferred (some [])))))) := by
          refine ⟨(KeepsOthers.setCell _ _ _).trans (KeepsOthers.drew _), ((Below.refl _ W).setCell (p := ⟨w.heap.size, q, Option.none⟩) (Nat.le_refl _) _).drew, ⟨upd f q (f q ||| 2 ^ k), ⟨hput.lt, hput.cell, hput.free⟩, fun x hx => ?_⟩,
            ⟨(World.cell?_setCell_other _ _ _ _ (fun e => by have := congrArg Addr.block e; dsimp only at this; omega)).trans e1, (World.cell?_setCell_other _ _ _ _ (fun e => by have := congrArg Addr.block e; dsimp only at this; omega)).trans e2⟩, (hBW.setCell (p := ⟨w.heap.size, q, Option.none⟩) (Nat.le_refl _) _).drew,
            fun D hD => ((KeepsOthers.setCell W ⟨w.heap.size, q, Option.none⟩ (.int .i64 (f q ||| 2 ^ k : Nat))).trans (KeepsOthers.drew _)).same D _ (HM.out D hD) rfl⟩
          by_cases e : x = q
          · subst e
            rw [upd_same]
            refine ⟨or_lt (htt x hx).1 hlt, fun y => ?_⟩
            rw [or_bit, (htt x hx).2 y]
            constructor
            · rintro ((h | ⟨h, h', hmem⟩) | rfl)
              · exact .inl h
              · exact .inr ⟨h, h', by simp [hmem]⟩
              · exact .inr ⟨rfl, hx, by simp⟩
            · rintro (h | ⟨h, _, _⟩)
              · exact .inl (.inl h)
              · exact .inr h.symm
          · rw [upd_other _ e]
            refine ⟨(htt x hx).1, fun y => ?_⟩
            rw [(htt x hx).2 y]
            constructor
            · rintro (h | ⟨h, h', hmem⟩)
              · exact .inl h
              · exact .inr ⟨h, h', by simp [hmem]⟩
            · rintro (h | ⟨h, h', hmem⟩)
              · exact .inl h
              · rcases List.mem_append.1 hmem with hmem | hmem
                · exact .inr ⟨h, h', hmem⟩
                · have := List.mem_singleton.1 hmem
                  exact absurd (congrArg Subtype.val this) e
        have HV : Hid (bits BinOp.or IntKind.i64 (f q : Int) (IntKind.i64.wrap ((2 : Int) ^ k)) = ((f q ||| 2 ^ k : Nat) : Int)) := hval
        clear hp hpl hval hput htt
        gi_wp2
        gi_region_o
        all_goals gi_wp2
        all_goals (rw [HV.out]; exact HX.out)
      case done =>
        rintro D ys W hD rfl ⟨⟨f, hof, htt⟩, ⟨e1, e2⟩, hBW, HM⟩ hK
        gi_wp2
        refine ⟨⟨k + 1, D :: Ds, _, _, _, _, _, _, _, _, _, _, _, _, _, _, _, _, _, _, _, ⟨by omega, e1, ⟨f, hof, fun q hq => ⟨(htt q hq).1, fun x => ?_⟩⟩, hBW, Marked.cons ⟨hmk.low, HM.out, hmk.once⟩ (by omega) (fun E hE => Nat.lt_of_lt_of_le (hmk.lt hE) hD) hK, ?_⟩, rfl⟩, ?_⟩
        · rw [(htt q hq).2 x]
          constructor
          · rintro (⟨h1, h2⟩ | ⟨rfl, h, hmem⟩)
            · exact .inl ⟨by omega, h2⟩
            · exact .inl ⟨by omega, (memN_iff hm hsl _).1 hmem⟩
          · rintro (⟨h1, h2⟩ | ⟨_, hF⟩)
            · by_cases e : x = k
              · subst e; exact .inr ⟨rfl, hq, (memN_iff hm hsl ⟨q, hq⟩).2 h2⟩
              · exact .inl ⟨by omega, h2⟩
            · exact hF.elim
        · have := (Array.getElem?_eq_some_iff.1 hK).1; omega
        · simp [intOf]; omega
      case stop =>
        rintro D c pre W _ _ h _
        exact h.elim
    · have hbox := ht.box
      obtain ⟨f, hof, htt⟩ := ht.out
      gi_wp2
      refine leaves_marks Ds _ ht.marked fun w' hB' hc' => ⟨_, results_tmp rfl _ _ _, rfl, ⟨f, ?_, fun q hq => ⟨(htt q hq).1, fun x => ?_⟩⟩, ht.bel.trans hB'⟩
      · exact ⟨Nat.lt_of_lt_of_le hof.lt hB'.size, fun j hj => by rw [Nat.zero_add, hc' _ _ (hof.cell j hj), listOf_get f hj]⟩
      · have : k = m := by omega
        subst this; exact (htt q hq).2 x

theorem turned_any (m b off cap : Nat) (rows : List Nat) (hr : Right m rows) (w : World) (hl : Lies w b off m rows) (hT : Tab w) :
    Calls Tryd.prog 41 #[.slice (some ⟨b, off, Option.none⟩) m cap] w fun e w' => e = .returned (.slice (some ⟨w.heap.size, 0, Option.none⟩) m m) ∧ (∃ f, Lies w' w.heap.size 0 m (listOf m f) ∧ TurnedTo m (fun i => rows.getD i 0) m (fun _ => False) f) ∧ Below w.heap.size w w' :=
  (callsIn_wide (n := 4)).1 (turned_in 4 m b off cap (fun i => rows.getD i 0) (by omega) hr.1 (fun i _ => hr.2.2 i) w hl.old hl.cell hT)
end Go.Proofs.YthaandknlfalbaaDoor
