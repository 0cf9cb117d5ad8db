/- The highest levels of what flows into variables, as the program has them (needed). -/
import Derived.RangeFuncNested
import Derived.RangeFuncBound
import Derived.RangeFuncCalls
import Derived.RangeFuncLeaves
import Derived.RangeFuncFrom
import Derived.Shelf.Abstract
import Derived.Shelf.RegionOpen
import Derived.WalkKit
import Derived.OwnWalkIn
import Derived.TacticsInMore
import Derived.LoopNIn
import Derived.LoopIn
import Derived.Test.YtioimgeeamchaaaDoorFloM
import Derived.Test.YtioimgeeamchaaaDoorOrder
import Derived.Test.YtioimgeeamchaaaDoorRoundSt
namespace Go.Proofs.YtioimgeeamchaaaDoor
open Go.RowKit Go.Shelf
attribute [local go_sem] Oper.semAt_some
set_option maxRecDepth 100000
set_option linter.unusedVariables false

/-- Numbers of the call's own. -/
structure OwnZ (w : World) (B m : Nat) (f : Nat → Int) : Prop where
  lt : B < w.heap.size
  cell : ∀ j, j < m → w.cell? ⟨B, j, none⟩ = some (.int .i64 (f j))
  free : ∀ j, j < m → w.frozen? ⟨B, j, none⟩ = false
theorem OwnZ.of {w : World} {B m : Nat} {f : Nat → Nat} (h : Own w B m f) : OwnZ w B m (fun j => (f j : Int)) := ⟨h.lt, h.cell, h.free⟩
theorem OwnZ.below {w w' : World} {B m : Nat} {f : Nat → Int} (h : OwnZ w B m f) (hb : Below w.heap.size w w') : OwnZ w' B m f :=
  ⟨Nat.lt_of_lt_of_le h.lt hb.size, fun j hj => keep_cell hb (h.cell j hj), fun j hj => (hb.frozen (p := ⟨B, j, none⟩) h.lt).trans (h.free j hj)⟩
theorem OwnZ.put {w : World} {B m k : Nat} {v : Int} {f g : Nat → Int} (h : OwnZ w B m f) (hk : k < m) (hv : g k = v) (ho : ∀ j, j < m → j ≠ k → g j = f j) : OwnZ (w.setCell ⟨B, k, none⟩ (.int .i64 v)) B m g := by
  refine ⟨by have := h.lt; simp [World.setCell]; exact this, fun j hj => ?_, fun j hj => (World.frozen?_setCell _ _ _ _).trans (h.free j hj)⟩
  by_cases e : j = k
  · subst e
    rw [World.cell?_setCell_same' _ _ _ (by simp [h.cell j hj]), hv]
  · rw [World.cell?_setCell_other _ _ _ _ (fun e' => e (by cases e'; rfl)), h.cell j hj, ho j hj e]
theorem OwnZ.like {w : World} {B m : Nat} {f g : Nat → Int} (h : OwnZ w B m f) (e : ∀ j, j < m → g j = f j) : OwnZ w B m g := ⟨h.lt, fun j hj => by rw [e j hj]; exact h.cell j hj, h.free⟩
theorem OwnZ.lst {w : World} {B m cp : Nat} {f : Nat → Int} (h : OwnZ w B m f) : Lst w (.slice (some ⟨B, 0, none⟩) m cp) m f :=
  ⟨_, cp, rfl, .inr ⟨B, 0, rfl, h.lt, fun i hi => by rw [Nat.zero_add]; exact h.cell i hi⟩⟩
theorem OwnZ.kept {w w' : World} {B m : Nat} {f : Nat → Int} (h : OwnZ w B m f) (hs : w.heap.size ≤ w'.heap.size) (hc : ∀ a v, w.cell? a = some v → w'.cell? a = some v) (hf : ∀ a v, w.cell? a = some v → w'.frozen? a = w.frozen? a) : OwnZ w' B m f :=
  ⟨Nat.lt_of_lt_of_le h.lt hs, fun j hj => hc _ _ (h.cell j hj), fun j hj => (hf _ _ (h.cell j hj)).trans (h.free j hj)⟩
theorem OwnZ.drewZ {w : World} {B m : Nat} {f : Nat → Int} (h : OwnZ w B m f) : OwnZ w.drew B m f := ⟨h.lt, h.cell, h.free⟩
/-- What was found of the first k variables. -/
def ndK (l : List Nod) (lv : Nat → Int) (k : Nat) (x : Int) : Nat → Int := fun v => if v < k then ndF l lv v else if v = k then x else 0
theorem ndK_next {l : List Nod} {lv : Nat → Int} {k : Nat} {x : Int} (h : x = ndF l lv k) (v : Nat) : ndK l lv (k + 1) 0 v = ndK l lv k x v := by
  unfold ndK
  by_cases h1 : v < k
  · rw [if_pos (by omega), if_pos h1]
  · by_cases h2 : v = k
    · rw [if_pos (by omega), if_neg h1, if_pos h2, h2, h]
    · rw [if_neg (by omega), if_neg h1, if_neg h2]; split <;> rfl
theorem then_normalF {K : Act → World → Prop} {e : Exit} {a : Act} {w : World} (h : Exit.then K (fun _ _ _ => False) e a w) : e = .normal ∧ K a w := by
  cases e <;> first | exact ⟨rfl, h⟩ | exact (h : False).elim
/-- How memory stands between two rounds. -/
structure NdB (w w1 wr : World) (l : List Nod) (lv : Nat → Int) (k : Nat) (Ds : List Nat) : Prop where
  le : k ≤ 6
  own : OwnZ wr w1.heap.size 6 (ndK l lv k 0)
  box : wr.cell? ⟨w1.heap.size + 1, 0, none⟩ = some (.slice (some ⟨w1.heap.size, 0, none⟩) 6 6)
  bel : Below w1.heap.size w1 wr
  marked : Marked wr w.heap.size Ds
theorem NdB.below {w w1 wr wz : World} {l : List Nod} {lv : Nat → Int} {k : Nat} {Ds : List Nat} (h : NdB w w1 wr l lv k Ds) (hb : Below wr.heap.size wr wz) : NdB w w1 wz l lv k Ds :=
  ⟨h.le, h.own.below hb, keep_cell hb h.box, h.bel.trans (hb.mono h.bel.size), ⟨h.marked.low, fun D hD => (hb.block D (h.marked.lt hD)).trans (h.marked.lie D hD), h.marked.once⟩⟩
set_option maxHeartbeats 4000000 in
theorem needed_in (n : Nat) (hn : 4 ≤ n) {l : List Nod} (hp : proC l = 0) (a : Option Addr) (cp : Nat) (v : Value) (lv : Nat → Int) (low : Int) (hlow : ∀ j, j < 6 → low ≤ lv j ∧ lv j ≤ 7) (w : World) (hat : AtNods w a l.length (nthD l)) (hl : Lst w v 6 lv) (hT : Tab w) :
    CallsIn Fence.wide n Tryd.prog 32 #[.slice a l.length cp, v, .int .i64 low] w fun e w' => ∃ M, e = .returned (.tuple #[.slice (some ⟨M, 0, none⟩) 6 6, .nilIface]) ∧ Hid (Lst w' (.slice (some ⟨M, 0, none⟩) 6 6) 6 (ndF l lv)) ∧ Below w.heap.size w w' := by
  have h1 : 1 ≤ n := by omega
  have hsz := hT.size
  have hG := good_of hp
  obtain ⟨bl, ol, cl, rfl, hbl, hcl⟩ := lst_six_lies hl (by decide)
  have hBa : Below w.heap.size w (w.alloc (.cells #[.slice (some ⟨bl, ol, none⟩) 6 cl] 23)) := (Below.refl _ w).alloc (Nat.le_refl _) _
  have tF := ffrom_ok hp a cp _ (hat.below hBa) (hT.below hBa hsz)
  have tC := fun w' (k : Below w.heap.size w w') => fcheck_any (.slice (some ⟨bl, ol, none⟩) 6 cl) 6 lv low w' (hl.below k)
  rw [levC_fine hlow, errV_zero] at tC
  have cl0 := cell_new_l w (.slice (some ⟨bl, ol, none⟩) 6 cl) 23
  have HTab := Hid.mkI (fun w' (k : Below w.heap.size w w') => hT.below k hsz)
  have HS := Hid.mkI (fun (i : Nat) (hi : i < 6) => comF_lt hG hi)
  have HIs := Hid.mkI (fun (i : Nat) (hi : i < 6) => ndF_is hG lv hi)
  have HL := Hid.mkI hcl
  obtain ⟨nn, hnn⟩ : ∃ m, l.length = m := ⟨_, rfl⟩
  rw [hnn] at tF ⊢
  obtain ⟨wa, hwa⟩ : ∃ x, w.alloc (.cells #[.slice (some ⟨bl, ol, none⟩) 6 cl] 23) = x := ⟨_, rfl⟩
  have hsa : wa.heap.size = w.heap.size + 1 := by rw [← hwa]; simp
  rw [hwa] at tF hBa cl0
  refine callsIn_of_wp_marks Tryd.func32 rfl trivial ?_ rfl
  simp only [Tryd.ntmps32, List.size_toArray, List.length_cons, List.length_nil, Nat.reduceAdd, Nat.reduceSub, Array.replicate_succ, Array.replicate_zero, List.push_toArray, List.append_toArray, List.nil_append, List.cons_append]
  gi_wp2_with (first | (refine ⟨trivial, ?_⟩; gi_at_call 13; refine (callsIn_wide.2 tF).mono ?_; clear tF; rintro e w1 ⟨g, rfl, hg, HO1, hB1⟩; have c1 := keep_cell hB1 cl0.1; have hB1' := hBa.trans (hB1.mono hBa.size); have hmk : (Instr.makeSlice 23 (.int .i64 6) (.int .i64 6)).run Tryd.prog w1 = .ok (.slice (some ⟨w1.heap.size, 0, none⟩) 6 6) (w1.alloc (.cells (madeCells #[.int .i64 0] 6) 3)) := make_any w1 6 (by decide)) | (refine ⟨trivial, ?_⟩; gi_at_call 48; refine (callsIn_wide.2 (tC _ hB1')).mono ?_; clear tC; rintro e w2 ⟨rfl, hw⟩; obtain rfl := hw.symm))
  have HO1 := Hid.mkI HO1.out
  have hgl := HO1.out.lt
  have hs1 := hB1'.size
  have hs2 := hB1.size
  have hst : NdB w w1 ((w1.alloc (.cells (madeCells #[.int .i64 0] 6) 3)).alloc (.cells #[.slice (some ⟨w1.heap.size, 0, none⟩) 6 6] 23)) l lv 0 [] := by
    have c0 := cell_new_l (w1.alloc (.cells (madeCells #[.int .i64 0] 6) 3)) (.slice (some ⟨w1.heap.size, 0, none⟩) 6 6) 23
    simp only [World.size_alloc] at c0
    have o0 := (OwnZ.of (Own.made w1 6)).below ((Below.refl _ _).alloc (Nat.le_refl _) (.cells #[.slice (some ⟨w1.heap.size, 0, none⟩) 6 6] 23))
    exact ⟨by omega, o0.like fun v _ => by unfold ndK; rw [if_neg (by omega)]; split <;> rfl, c0.1, ((Below.refl _ w1).alloc (Nat.le_refl _) _).alloc (by simp) _, Marked.none _ _⟩
  clear hmk hB1 hBa hwa hp hG hnn cl0 hl hat hlow hcl hT
  refine wpIn_loop (fun a' wr => ∃ (k : Nat) (Ds : List Nat) (u12 u13 u14 u35 u36 u37 u38 u39 u40 u41 u42 u43 u44 u45 u46 u47 u48 u49 u50 u51 u52 u53 u54 u55 : Value), NdB w w1 wr l lv k Ds ∧ a' =
      { tmps := #[.slice a nn cp, .slice (some ⟨bl, ol, none⟩) 6 cl, .int .i64 low, undef, .pointer (some ⟨w.heap.size, 0, none⟩), undef, .slice none 0 0, .nilIface, .slice (some ⟨g, 0, none⟩) 6 6, .nilIface, .nilIface, .pointer (some ⟨w1.heap.size + 1, 0, none⟩), u12, u13, u14, .tuple #[.slice (some ⟨g, 0, none⟩) 6 6, .nilIface], .slice a nn cp, .tuple #[.slice (some ⟨g, 0, none⟩) 6 6, .nilIface], .slice (some ⟨g, 0, none⟩) 6 6, .nilIface, .nilIface, .bool false, undef, .slice (some ⟨bl, ol, none⟩) 6 cl, .int .i64 low, .nilIface, .nilIface, .bool false, undef, .slice (some ⟨g, 0, none⟩) 6 6, .int .i64 6, .slice (some ⟨w1.heap.size, 0, none⟩) 6 6, .slice (some ⟨g, 0, none⟩) 6 6, .int .i64 6, .int .i64 (k : Int), u35, u36, u37, u38, u39, u40, u41, u42, u43, u44, u45, u46, u47, u48, u49, u50, u51, u52, u53, u54, u55], defers := marks Ds })
    (fun a _ => 6 - (intOf (a.tmps.getD 34 undef)).toNat) ?start ?round
  case start => exact ⟨0, [], undef, undef, undef, undef, undef, undef, undef, undef, undef, undef, undef, undef, undef, undef, undef, undef, undef, undef, undef, undef, undef, undef, undef, undef, hst, rfl⟩
  case round =>
    rintro a' wr ⟨k, Ds, u12, u13, u14, u35, u36, u37, u38, u39, u40, u41, u42, u43, u44, u45, u46, u47, u48, u49, u50, u51, u52, u53, u54, u55, hb, rfl⟩
    clear hst
    have hk := hb.le
    by_cases hlt : k < 6
    · have hki : (k : Int) < 6 := by omega
      have zset : wr.cell? ⟨g, k, none⟩ = some (.int .i64 (comF l k : Nat)) := (hb.bel.cell (p := ⟨g, k, none⟩) hgl).trans (HO1.out.cell k hlt)
      have hsl := HS.out k hlt
      have HMx := Hid.mkI (HIs.out k hlt)
      obtain ⟨set, hse⟩ : ∃ set, comF l k = set := ⟨_, rfl⟩
      rw [hse] at zset hsl HMx
      clear hse
      gi_wp2_with (refine ⟨trivial, ?_⟩; gi_at_call 49; refine (things_in (n - 1) _ _).mono ?_; rintro e w' ⟨rfl, rfl⟩)
      have c0 := cell_new_l wr (.int .i64 (k : Int)) 3
      have c1' := cell_new_l (wr.alloc (.cells #[.int .i64 (k : Int)] 3)) (.int .i64 (set : Int)) 3
      simp only [World.size_alloc] at c1'
      obtain ⟨wz, hwz⟩ : ∃ wz, (wr.alloc (.cells #[.int .i64 (k : Int)] 3)).alloc (.cells #[.int .i64 (set : Int)] 3) = wz := ⟨_, rfl⟩
      have hBz : Below wr.heap.size wr wz := by rw [← hwz]; exact ((Below.refl _ wr).alloc (Nat.le_refl _) _).alloc (by simp) _
      have hsize : wz.heap.size = wr.heap.size + 1 + 1 := by rw [← hwz]; simp
      have ci : wz.cell? ⟨wr.heap.size, 0, none⟩ = some (.int .i64 (k : Int)) := by rw [← hwz]; exact cell_alloc_l _ c0.1
      have cs : wz.cell? ⟨wr.heap.size + 1, 0, none⟩ = some (.int .i64 (set : Int)) := by rw [← hwz]; exact c1'.1
      have hz := hb.below hBz
      rw [hwz]
      clear c0 c1' hwz zset
      have hTz : Tab wz := HTab.out wz (hB1'.trans (hz.bel.mono hs1))
      have hBo := hz.bel.size
      have hol := hz.own.lt
      have hwr := hb.bel.size
      have hbx : w1.heap.size + 1 < wr.heap.size := old_of_cell hb.box
      refine wpIn_rangeFunc_ownF rfl h1 (gf := 65) (lb := #[.pointer (some ⟨wr.heap.size + 1, 0, none⟩)]) rfl trivial (enters_of Tryd.func65 (by kernel_rfl) rfl)
        (things_stops (n - 1) 6 (by decide) (by omega) (wr.heap.size + 1) w1.heap.size set hsl wz (by omega) hBo (by omega) cs hTz) belowK_t (belowK_b hBo) (Below.refl _ _) (fun _ => rfl)
        (fun pre W => (OwnZ W w1.heap.size 6 (ndK l lv k (mxL lv pre)) ∧ W.cell? ⟨w1.heap.size + 1, 0, none⟩ = some (.slice (some ⟨w1.heap.size, 0, none⟩) 6 6) ∧ W.cell? ⟨wr.heap.size, 0, none⟩ = some (.int .i64 (k : Int))) ∧ Below w1.heap.size w1 W ∧ Hid (∀ D, D ∈ Ds → W.heap[D]? = some (.deferred (some []))))
        (fun _ _ _ => False)
        (OwnFrom.and (Own.from (fun s A B row hs hg hr => ⟨hs.1.kept hg.size (fun _ _ e => cell_kept e hg hr) (fun _ _ e => frozen_kept e hg hr), cell_kept hs.2.1 hg hr, cell_kept hs.2.2 hg hr⟩) _) (OwnFrom.and (ownFrom_below (Nat.le_refl _) hBo)
          (fun s A B row hs hg hr D hD => (hg.block D (Array.getElem?_eq_some_iff.1 (hs D hD)).1 (fun e => by have h1 := (hr D e.symm).1; have h2 := hz.marked.lt hD; omega)).trans (hs D hD))))
        (fun _ _ _ _ _ hs _ _ => hs)
        ⟨⟨hz.own, hz.box, ci⟩, hz.bel, hz.marked.lie⟩
        (fun x => { tmps := #[.slice a nn cp, .slice (some ⟨bl, ol, none⟩) 6 cl, .int .i64 low, undef, .pointer (some ⟨w.heap.size, 0, none⟩), undef, .slice none 0 0, .nilIface, .slice (some ⟨g, 0, none⟩) 6 6, .nilIface, .nilIface, .pointer (some ⟨w1.heap.size + 1, 0, none⟩), .pointer (some ⟨wr.heap.size, 0, none⟩), .int .i64 (set : Int), .int .i64 (x.1 : Int), .tuple #[.slice (some ⟨g, 0, none⟩) 6 6, .nilIface], .slice a nn cp, .tuple #[.slice (some ⟨g, 0, none⟩) 6 6, .nilIface], .slice (some ⟨g, 0, none⟩) 6 6, .nilIface, .nilIface, .bool false, undef, .slice (some ⟨bl, ol, none⟩) 6 cl, .int .i64 low, .nilIface, .nilIface, .bool false, undef, .slice (some ⟨g, 0, none⟩) 6 6, .int .i64 6, .slice (some ⟨w1.heap.size, 0, none⟩) 6 6, .slice (some ⟨g, 0, none⟩) 6 6, .int .i64 6, .int .i64 (k : Int), .bool true, .int .i64 (k : Int), .pointer (some ⟨g, k, none⟩), .int .i64 (set : Int), .int .i64 (set : Int), .func (.func 65) #[] #[.pointer (some ⟨wr.heap.size + 1, 0, none⟩)], .int .i64 (x.1 : Int), u42, u43, u44, u45, u46, u47, u48, u49, u50, u51, u52, u53, u54, u55], defers := [] }) ?assign ?body ?done ?stop
      case assign =>
        intro l y W K hK
        gi_wp2
        exact hK
      case body =>
        rintro l' pre ⟨q, hq⟩ W ⟨⟨hO, hx, hi'⟩, hBW, HD⟩ _
        dsimp only at hO ⊢
        have d2 := hO.cell k hlt
        have z2 := hO.free k hlt
        have hB0 : Below w.heap.size w W := hB1'.trans (hBW.mono hs1)
        have k3 : W.cell? ⟨w.heap.size, 0, none⟩ = some (.slice (some ⟨bl, ol, none⟩) 6 cl) := (hBW.cell (p := ⟨w.heap.size, 0, none⟩) (by dsimp only; omega)).trans c1
        have k4 : W.cell? ⟨bl, ol + q, none⟩ = some (.int .i64 (lv q)) := keep_cell hB0 (HL.out q hq)
        have hqi : (q : Int) < 6 := by omega
        have hmx : Tryd.prog.follows .mixedOrders = true := by kernel_rfl
        have e2 : ndK l lv k (mxL lv pre) k = mxL lv pre := by unfold ndK; rw [if_neg (by omega), if_pos rfl]
        rw [e2] at d2
        have hsn := mxL_snoc lv pre ⟨q, hq⟩
        dsimp only at hsn
        have hput := hO.put (k := k) (v := mxL lv (pre ++ [⟨q, hq⟩])) (g := ndK l lv k (mxL lv (pre ++ [⟨q, hq⟩]))) hlt (by unfold ndK; rw [if_neg (by omega), if_pos rfl]) (fun j _ hj => by unfold ndK; rw [if_neg hj, if_neg hj])
        have hx' : (W.setCell ⟨w1.heap.size, k, none⟩ (.int .i64 (mxL lv (pre ++ [⟨q, hq⟩])))).cell? ⟨w1.heap.size + 1, 0, none⟩ = some (.slice (some ⟨w1.heap.size, 0, none⟩) 6 6) := (cell_far (by omega)).trans hx
        have hi2 : (W.setCell ⟨w1.heap.size, k, none⟩ (.int .i64 (mxL lv (pre ++ [⟨q, hq⟩])))).cell? ⟨wr.heap.size, 0, none⟩ = some (.int .i64 (k : Int)) := (cell_far (by omega)).trans hi'
        obtain ⟨acc, hacc⟩ : ∃ x, mxL lv pre = x := ⟨_, rfl⟩
        obtain ⟨y, hy⟩ : ∃ x, lv q = x := ⟨_, rfl⟩
        rw [hacc, hy] at hsn
        rw [hacc] at d2
        rw [hy] at k4
        obtain ⟨nxt, hnxt⟩ : ∃ x, mxL lv (pre ++ [⟨q, hq⟩]) = x := ⟨_, rfl⟩
        rw [hnxt] at hsn hput hx' hi2
        have HNx := Hid.mkI hnxt
        have HF := Hid.mkI hput
        have HX := Hid.mkI hx'
        have HI := Hid.mkI hi2
        have HE : Hid (ownPostK (Below w1.heap.size) (fun (pre : List (Thing 6)) W => (OwnZ W w1.heap.size 6 (ndK l lv k (mxL lv pre)) ∧ W.cell? ⟨w1.heap.size + 1, 0, none⟩ = some (.slice (some ⟨w1.heap.size, 0, none⟩) 6 6) ∧ W.cell? ⟨wr.heap.size, 0, none⟩ = some (.int .i64 (k : Int))) ∧ Below w1.heap.size w1 W ∧ Hid (∀ D, D ∈ Ds → W.heap[D]? = some (.deferred (some [])))) (fun _ _ _ => False) (pre ++ [⟨q, hq⟩]) W .normal { tmps := #[], defers := [] } (W.setCell ⟨w1.heap.size, k, none⟩ (.int .i64 nxt)).drew) :=
          ⟨(KeepsOthers.setCell _ _ _).trans (KeepsOthers.drew _), ((Below.refl _ W).setCell (p := ⟨w1.heap.size, k, none⟩) (by simp) _).drew, ⟨by rw [HNx.out]; exact HF.out.drewZ, HX.out, HI.out⟩, (hBW.setCell (p := ⟨w1.heap.size, k, none⟩) (by simp) _).drew, fun D hD => ((KeepsOthers.setCell W ⟨w1.heap.size, k, none⟩ (.int .i64 nxt)).trans (KeepsOthers.drew _)).same D _ (HD.out D hD) rfl⟩
        clear hput hx' hi2 HF HX HI hnxt HNx HD hO hz hTz HTab HS HIs HL HMx hacc hy hb cs ci hB0 hBW hsl
        gi_wp2
        refine wpIn_mono (Q := Exit.then (fun a' w' => w' = (W.setCell ⟨w1.heap.size, k, none⟩ (.int .i64 nxt)).drew) (fun _ _ _ => False)) ?reg ?cont
        case reg =>
          clear HE
          have q1 : W.drew.cell? ⟨w1.heap.size + 1, 0, none⟩ = some (.slice (some ⟨w1.heap.size, 0, none⟩) 6 6) := hx
          have q2 : W.drew.cell? ⟨w1.heap.size, k, none⟩ = some (.int .i64 acc) := d2
          have q3 : W.drew.cell? ⟨wr.heap.size, 0, none⟩ = some (.int .i64 (k : Int)) := hi'
          have q4 : W.drew.frozen? ⟨w1.heap.size, k, none⟩ = false := z2
          have q5 : W.drew.cell? ⟨w.heap.size, 0, none⟩ = some (.slice (some ⟨bl, ol, none⟩) 6 cl) := k3
          have q6 : W.drew.cell? ⟨bl, ol + q, none⟩ = some (.int .i64 y) := k4
          have hset : (W.setCell ⟨w1.heap.size, k, none⟩ (.int .i64 nxt)).drew = W.drew.setCell ⟨w1.heap.size, k, none⟩ (.int .i64 nxt) := rfl
          rw [hset]
          clear hset hx d2 hi' z2 k3 k4 e2
          refine round_still_tail 12 hmx (by kernel_rfl) (by kernel_rfl) (fun ⟨_, _, h⟩ => h) ?_
          obtain ⟨Wd, hWd⟩ : ∃ x, W.drew = x := ⟨_, rfl⟩
          rw [hWd] at q1 q2 q3 q4 q5 q6 ⊢
          clear hWd
          simp only [List.take_succ_cons, List.take_zero, List.drop_succ_cons, List.drop_zero]
          repeat still_step
          refine wpStill_nil ?_
          go_wp2
          all_goals first | rw [show max acc y = y by omega] | rw [show max acc y = acc by omega]
        case cont =>
          intro ex a' w' hx
          obtain ⟨rfl, rfl⟩ := then_normalF hx
          exact HE.out
      case done =>
        rintro E ys W hE rfl ⟨⟨hO, hx, _⟩, hBW, HD⟩ hK
        have hle := hB1'.size
        gi_wp2
        refine ⟨⟨k + 1, E :: Ds, _, _, _, _, _, _, _, _, _, _, _, _, _, _, _, _, _, _, _, _, _, _, _, _, ⟨by omega, hO.like fun v _ => ndK_next HMx.out v, hx, hBW, Marked.cons ⟨hz.marked.low, HD.out, hz.marked.once⟩ (by omega) (fun D hD => Nat.lt_of_lt_of_le (hz.marked.lt hD) hE) hK⟩, rfl⟩, ?_⟩
        simp [intOf]; omega
      case stop =>
        rintro E c pre W _ _ h _
        exact h.elim
    · obtain rfl : k = 6 := by omega
      have hx := hb.box
      have hO : OwnZ wr w1.heap.size 6 (ndF l lv) := hb.own.like fun j hj => by unfold ndK; rw [if_pos hj]
      have hB6 := hB1'.trans (hb.bel.mono hs1)
      gi_wp2
      refine leaves_marks Ds _ hb.marked fun w' hB' hc' => ⟨.tuple #[.slice (some ⟨w1.heap.size, 0, none⟩) 6 6, .nilIface], ?_, w1.heap.size, rfl, ⟨_, 6, rfl, .inr ⟨w1.heap.size, 0, rfl, old_of_cell (hc' _ _ (hO.cell 0 (by decide))), fun i hi => by rw [Nat.zero_add]; exact hc' _ _ (hO.cell i hi)⟩⟩, hB6.trans hB'⟩
      simp [results, Tryd.f32, go_sem]
theorem needed_ok {l : List Nod} (hp : proC l = 0) (a : Option Addr) (cp : Nat) (v : Value) (lv : Nat → Int) (low : Int) (hlow : ∀ j, j < 6 → low ≤ lv j ∧ lv j ≤ 7) (w : World) (hat : AtNods w a l.length (nthD l)) (hl : Lst w v 6 lv) (hT : Tab w) :
    Calls Tryd.prog 32 #[.slice a l.length cp, v, .int .i64 low] w fun e w' => ∃ M, e = .returned (.tuple #[.slice (some ⟨M, 0, none⟩) 6 6, .nilIface]) ∧ Hid (Lst w' (.slice (some ⟨M, 0, none⟩) 6 6) 6 (ndF l lv)) ∧ Below w.heap.size w w' :=
  (callsIn_wide (n := 4)).1 (needed_in 4 (Nat.le_refl _) hp a cp v lv low hlow w hat hl hT)
/-- Where something is wrong. -/
theorem needed_no {l : List Nod} (a : Option Addr) (cp : Nat) (v : Value) (nv : Nat) (lv : Nat → Int) (low : Int) (hc : fitC l nv lv low ≠ 0) (w : World) (hat : AtNods w a l.length (nthD l)) (hl : Lst w v nv lv) (hT : Tab w) :
    Calls Tryd.prog 32 #[.slice a l.length cp, v, .int .i64 low] w fun e w' => e = .returned (.tuple #[.slice none 0 0, .iface 57 (.int .i64 (fitC l nv lv low))]) ∧ Below w.heap.size w w' := by
  have hBa : Below w.heap.size w (w.alloc (.cells #[v] 23)) := (Below.refl _ w).alloc (Nat.le_refl _) _
  have cl0 := cell_new_l w v 23
  by_cases hp : proC l = 0
  · have tF := ffrom_ok hp a cp _ (hat.below hBa) (hT.below hBa hT.size)
    have tC := fun w' (k : Below w.heap.size w w') => fcheck_any v nv lv low w' (hl.below k)
    rw [fitC_pro hp] at hc ⊢
    obtain ⟨c, hcc⟩ : ∃ c, levC nv lv low = c := ⟨_, rfl⟩
    rw [hcc] at hc tC ⊢
    have he : errV c = .iface 57 (.int .i64 c) := if_neg hc
    rw [he] at tC
    obtain ⟨nn, hnn⟩ : ∃ m, l.length = m := ⟨_, rfl⟩
    rw [hnn] at tF ⊢
    obtain ⟨av, cv, rfl, -⟩ := id hl
    clear he hcc hc hp hat hl hT hnn
    obtain ⟨wa, hwa⟩ : ∃ x, w.alloc (.cells #[.slice av nv cv] 23) = x := ⟨_, rfl⟩
    rw [hwa] at tF hBa cl0
    go_enter Tryd.func32, Tryd.ntmps32
    go_wp2_with (first | (go_at_call 13; (with_reducible refine tF.mono ?_); clear tF; rintro e w1 ⟨g, rfl, hg, HO1, hB1⟩; have c1 := keep_cell hB1 cl0.1; have hB1' := hBa.trans (hB1.mono hBa.size)) | (go_at_call 48; (with_reducible refine (tC _ hB1').mono ?_); clear tC; rintro e w2 ⟨rfl, hw⟩; obtain rfl := hw.symm))
    go_ret2
    exact ⟨rfl, hB1'⟩
  · have tF := ffrom_no hp a cp _ (hat.below hBa)
    rw [fitC_bad hp] at hc ⊢
    obtain ⟨c, hcc⟩ : ∃ c, proC l = c := ⟨_, rfl⟩
    rw [hcc] at hc tF ⊢
    obtain ⟨nn, hnn⟩ : ∃ m, l.length = m := ⟨_, rfl⟩
    rw [hnn] at tF ⊢
    obtain ⟨av, cv, rfl, -⟩ := id hl
    clear hcc hc hp hat hl hT hnn
    obtain ⟨wa, hwa⟩ : ∃ x, w.alloc (.cells #[.slice av nv cv] 23) = x := ⟨_, rfl⟩
    rw [hwa] at tF hBa cl0
    go_enter Tryd.func32, Tryd.ntmps32
    go_wp2_with (go_at_call 13; (with_reducible refine tF.mono ?_); clear tF; rintro e w1 ⟨rfl, hB1⟩; have hB1' := hBa.trans (hB1.mono hBa.size))
    go_ret2
    exact ⟨rfl, hB1'⟩
end Go.Proofs.YtioimgeeamchaaaDoor
