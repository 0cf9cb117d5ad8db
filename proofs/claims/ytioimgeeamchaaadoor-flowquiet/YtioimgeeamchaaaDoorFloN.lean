/- Levels, as the program has them (needed, Fits, Least); the closed fact. -/
import Derived.RangeFuncNested
import Derived.RangeFuncBound
import Derived.RangeFuncCalls
import Derived.RangeFuncLeaves
import Derived.RangeFuncFrom
import Derived.Shelf.Abstract
import Derived.Shelf.RegionOpen
import Derived.WalkKit
import Derived.OwnWalkIn
import Derived.TacticsInMore
import Derived.LoopNIn
import Derived.LoopIn
import Derived.LoopTactic
import Derived.KernelRfl
import Derived.Test.YtioimgeeamchaaaDoorFloM
import Derived.Test.YtioimgeeamchaaaDoorOrder
import Derived.Test.YtioimgeeamchaaaDoorRoundSt
namespace Go.Proofs.YtioimgeeamchaaaDoor
open Go.RowKit Go.Shelf
attribute [local go_sem] Oper.semAt_some
set_option maxRecDepth 100000
set_option linter.unusedVariables false
open Go.RowKit

/-- Numbers of the call's own. -/
structure OwnZ (w : World) (B m : Nat) (f : Nat → Int) : Prop where
  lt : B < w.heap.size
  cell : ∀ j, j < m → w.cell? ⟨B, j, none⟩ = some (.int .i64 (f j))
  free : ∀ j, j < m → w.frozen? ⟨B, j, none⟩ = false
theorem OwnZ.of {w : World} {B m : Nat} {f : Nat → Nat} (h : Own w B m f) : OwnZ w B m (fun j => (f j : Int)) := ⟨h.lt, h.cell, h.free⟩
theorem OwnZ.below {w w' : World} {B m : Nat} {f : Nat → Int} (h : OwnZ w B m f) (hb : Below w.heap.size w w') : OwnZ w' B m f :=
  ⟨Nat.lt_of_lt_of_le h.lt hb.size, fun j hj => keep_cell hb (h.cell j hj), fun j hj => (hb.frozen (p := ⟨B, j, none⟩) h.lt).trans (h.free j hj)⟩
theorem OwnZ.put {w : World} {B m k : Nat} {v : Int} {f g : Nat → Int} (h : OwnZ w B m f) (hk : k < m) (hv : g k = v) (ho : ∀ j, j < m → j ≠ k → g j = f j) : OwnZ (w.setCell ⟨B, k, none⟩ (.int .i64 v)) B m g := by
  refine ⟨by have := h.lt; simp [World.setCell]; exact this, fun j hj => ?_, fun j hj => (World.frozen?_setCell _ _ _ _).trans (h.free j hj)⟩
  by_cases e : j = k
  · subst e
    rw [World.cell?_setCell_same' _ _ _ (by simp [h.cell j hj]), hv]
  · rw [World.cell?_setCell_other _ _ _ _ (fun e' => e (by cases e'; rfl)), h.cell j hj, ho j hj e]
theorem OwnZ.like {w : World} {B m : Nat} {f g : Nat → Int} (h : OwnZ w B m f) (e : ∀ j, j < m → g j = f j) : OwnZ w B m g := ⟨h.lt, fun j hj => by rw [e j hj]; exact h.cell j hj, h.free⟩
theorem OwnZ.lst {w : World} {B m cp : Nat} {f : Nat → Int} (h : OwnZ w B m f) : Lst w (.slice (some ⟨B, 0, none⟩) m cp) m f :=
  ⟨_, cp, rfl, .inr ⟨B, 0, rfl, h.lt, fun i hi => by rw [Nat.zero_add]; exact h.cell i hi⟩⟩
theorem OwnZ.kept {w w' : World} {B m : Nat} {f : Nat → Int} (h : OwnZ w B m f) (hs : w.heap.size ≤ w'.heap.size) (hc : ∀ a v, w.cell? a = some v → w'.cell? a = some v) (hf : ∀ a v, w.cell? a = some v → w'.frozen? a = w.frozen? a) : OwnZ w' B m f :=
  ⟨Nat.lt_of_lt_of_le h.lt hs, fun j hj => hc _ _ (h.cell j hj), fun j hj => (hf _ _ (h.cell j hj)).trans (h.free j hj)⟩
theorem OwnZ.drewZ {w : World} {B m : Nat} {f : Nat → Int} (h : OwnZ w B m f) : OwnZ w.drew B m f := ⟨h.lt, h.cell, h.free⟩
/-- What was found of the first k variables. -/
def ndK (l : List Nod) (lv : Nat → Int) (k : Nat) (x : Int) : Nat → Int := fun v => if v < k then ndF l lv v else if v = k then x else 0
theorem ndK_next {l : List Nod} {lv : Nat → Int} {k : Nat} {x : Int} (h : x = ndF l lv k) (v : Nat) : ndK l lv (k + 1) 0 v = ndK l lv k x v := by
  unfold ndK
  by_cases h1 : v < k
  · rw [if_pos (by omega), if_pos h1]
  · by_cases h2 : v = k
    · rw [if_pos (by omega), if_neg h1, if_pos h2, h2, h]
    · rw [if_neg (by omega), if_neg h1, if_neg h2]; split <;> rfl
theorem then_normalF {K : Act → World → Prop} {e : Exit} {a : Act} {w : World} (h : Exit.then K (fun _ _ _ => False) e a w) : e = .normal ∧ K a w := by
  cases e <;> first | exact ⟨rfl, h⟩ | exact (h : False).elim
/-- How memory stands between two rounds. -/
structure NdB (w w1 wr : World) (l : List Nod) (lv : Nat → Int) (k : Nat) (Ds : List Nat) : Prop where
  le : k ≤ 6
  own : OwnZ wr w1.heap.size 6 (ndK l lv k 0)
  box : wr.cell? ⟨w1.heap.size + 1, 0, none⟩ = some (.slice (some ⟨w1.heap.size, 0, none⟩) 6 6)
  bel : Below w1.heap.size w1 wr
  marked : Marked wr w.heap.size Ds
theorem NdB.below {w w1 wr wz : World} {l : List Nod} {lv : Nat → Int} {k : Nat} {Ds : List Nat} (h : NdB w w1 wr l lv k Ds) (hb : Below wr.heap.size wr wz) : NdB w w1 wz l lv k Ds :=
  ⟨h.le, h.own.below hb, keep_cell hb h.box, h.bel.trans (hb.mono h.bel.size), ⟨h.marked.low, fun D hD => (hb.block D (h.marked.lt hD)).trans (h.marked.lie D hD), h.marked.once⟩⟩
set_option maxHeartbeats 4000000 in
theorem needed_in (n : Nat) (hn : 4 ≤ n) {l : List Nod} (hp : proC l = 0) (a : Option Addr) (cp : Nat) (v : Value) (lv : Nat → Int) (low : Int) (hlow : ∀ j, j < 6 → low ≤ lv j ∧ lv j ≤ 7) (w : World) (hat : AtNods w a l.length (nthD l)) (hl : Lst w v 6 lv) (hT : Tab w) :
    CallsIn Fence.wide n Tryd.prog 32 #[.slice a l.length cp, v, .int .i64 low] w fun e w' => ∃ M, e = .returned (.tuple #[.slice (some ⟨M, 0, none⟩) 6 6, .nilIface]) ∧ Hid (Lst w' (.slice (some ⟨M, 0, none⟩) 6 6) 6 (ndF l lv)) ∧ Below w.heap.size w w' := by
  have h1 : 1 ≤ n := by omega
  have hsz := hT.size
  have hG := good_of hp
  obtain ⟨bl, ol, cl, rfl, hbl, hcl⟩ := lst_six_lies hl (by decide)
  have hBa : Below w.heap.size w (w.alloc (.cells #[.slice (some ⟨bl, ol, none⟩) 6 cl] 23)) := (Below.refl _ w).alloc (Nat.le_refl _) _
  have tF := ffrom_ok hp a cp _ (hat.below hBa) (hT.below hBa hsz)
  have tC := fun w' (k : Below w.heap.size w w') => fcheck_any (.slice (some ⟨bl, ol, none⟩) 6 cl) 6 lv low w' (hl.below k)
  rw [levC_fine hlow, errV_zero] at tC
  have cl0 := cell_new_l w (.slice (some ⟨bl, ol, none⟩) 6 cl) 23
  have HTab := Hid.mkI (fun w' (k : Below w.heap.size w w') => hT.below k hsz)
  have HS := Hid.mkI (fun (i : Nat) (hi : i < 6) => comF_lt hG hi)
  have HIs := Hid.mkI (fun (i : Nat) (hi : i < 6) => ndF_is hG lv hi)
  have HL := Hid.mkI hcl
  obtain ⟨nn, hnn⟩ : ∃ m, l.length = m := ⟨_, rfl⟩
  rw [hnn] at tF ⊢
  obtain ⟨wa, hwa⟩ : ∃ x, w.alloc (.cells #[.slice (some ⟨bl, ol, none⟩) 6 cl] 23) = x := ⟨_, rfl⟩
  have hsa : wa.heap.size = w.heap.size + 1 := by rw [← hwa]; simp
  rw [hwa] at tF hBa cl0
  refine callsIn_of_wp_marks Tryd.func32 rfl trivial ?_ rfl
  simp only [Tryd.ntmps32, List.size_toArray, List.length_cons, List.length_nil, Nat.reduceAdd, Nat.reduceSub, Array.replicate_succ, Array.replicate_zero, List.push_toArray, List.append_toArray, List.nil_append, List.cons_append]
  gi_wp2_with (first | (refine ⟨trivial, ?_⟩; gi_at_call 13; refine (callsIn_wide.2 tF).mono ?_; clear tF; rintro e w1 ⟨g, rfl, hg, HO1, hB1⟩; have c1 := keep_cell hB1 cl0.1; have hB1' := hBa.trans (hB1.mono hBa.size); have hmk : (Instr.makeSlice 23 (.int .i64 6) (.int .i64 6)).run Tryd.prog w1 = .ok (.slice (some ⟨w1.heap.size, 0, none⟩) 6 6) (w1.alloc (.cells (madeCells #[.int .i64 0] 6) 3)) := make_any w1 6 (by decide)) | (refine ⟨trivial, ?_⟩; gi_at_call 48; refine (callsIn_wide.2 (tC _ hB1')).mono ?_; clear tC; rintro e w2 ⟨rfl, hw⟩; obtain rfl := hw.symm))
  have HO1 := Hid.mkI HO1.out
  have hgl := HO1.out.lt
  have hs1 := hB1'.size
  have hs2 := hB1.size
  have hst : NdB w w1 ((w1.alloc (.cells (madeCells #[.int .i64 0] 6) 3)).alloc (.cells #[.slice (some ⟨w1.heap.size, 0, none⟩) 6 6] 23)) l lv 0 [] := by
    have c0 := cell_new_l (w1.alloc (.cells (madeCells #[.int .i64 0] 6) 3)) (.slice (some ⟨w1.heap.size, 0, none⟩) 6 6) 23
    simp only [World.size_alloc] at c0
    have o0 := (OwnZ.of (Own.made w1 6)).below ((Below.refl _ _).alloc (Nat.le_refl _) (.cells #[.slice (some ⟨w1.heap.size, 0, none⟩) 6 6] 23))
    exact ⟨by omega, o0.like fun v _ => by unfold ndK; rw [if_neg (by omega)]; split <;> rfl, c0.1, ((Below.refl _ w1).alloc (Nat.le_refl _) _).alloc (by simp) _, Marked.none _ _⟩
  clear hmk hB1 hBa hwa hp hG hnn cl0 hl hat hlow hcl hT
  refine wpIn_loop (fun a' wr => ∃ (k : Nat) (Ds : List Nat) (u12 u13 u14 u35 u36 u37 u38 u39 u40 u41 u42 u43 u44 u45 u46 u47 u48 u49 u50 u51 u52 u53 u54 u55 : Value), NdB w w1 wr l lv k Ds ∧ a' =
      { tmps := #[.slice a nn cp, .slice (some ⟨bl, ol, none⟩) 6 cl, .int .i64 low, undef, .pointer (some ⟨w.heap.size, 0, none⟩), undef, .slice none 0 0, .nilIface, .slice (some ⟨g, 0, none⟩) 6 6, .nilIface, .nilIface, .pointer (some ⟨w1.heap.size + 1, 0, none⟩), u12, u13, u14, .tuple #[.slice (some ⟨g, 0, none⟩) 6 6, .nilIface], .slice a nn cp, .tuple #[.slice (some ⟨g, 0, none⟩) 6 6, .nilIface], .slice (some ⟨g, 0, none⟩) 6 6, .nilIface, .nilIface, .bool false, undef, .slice (some ⟨bl, ol, none⟩) 6 cl, .int .i64 low, .nilIface, .nilIface, .bool false, undef, .slice (some ⟨g, 0, none⟩) 6 6, .int .i64 6, .slice (some ⟨w1.heap.size, 0, none⟩) 6 6, .slice (some ⟨g, 0, none⟩) 6 6, .int .i64 6, .int .i64 (k : Int), u35, u36, u37, u38, u39, u40, u41, u42, u43, u44, u45, u46, u47, u48, u49, u50, u51, u52, u53, u54, u55], defers := marks Ds })
    (fun a _ => 6 - (intOf (a.tmps.getD 34 undef)).toNat) ?start ?round
  case start => exact ⟨0, [], undef, undef, undef, undef, undef, undef, undef, undef, undef, undef, undef, undef, undef, undef, undef, undef, undef, undef, undef, undef, undef, undef, undef, undef, hst, rfl⟩
  case round =>
    rintro a' wr ⟨k, Ds, u12, u13, u14, u35, u36, u37, u38, u39, u40, u41, u42, u43, u44, u45, u46, u47, u48, u49, u50, u51, u52, u53, u54, u55, hb, rfl⟩
    clear hst
    have hk := hb.le
    by_cases hlt : k < 6
    · have hki : (k : Int) < 6 := by omega
      have zset : wr.cell? ⟨g, k, none⟩ = some (.int .i64 (comF l k : Nat)) := (hb.bel.cell (p := ⟨g, k, none⟩) hgl).trans (HO1.out.cell k hlt)
      have hsl := HS.out k hlt
      have HMx := Hid.mkI (HIs.out k hlt)
      obtain ⟨set, hse⟩ : ∃ set, comF l k = set := ⟨_, rfl⟩
      rw [hse] at zset hsl HMx
      clear hse
      gi_wp2_with (refine ⟨trivial, ?_⟩; gi_at_call 49; refine (things_in (n - 1) _ _).mono ?_; rintro e w' ⟨rfl, rfl⟩)
      have c0 := cell_new_l wr (.int .i64 (k : Int)) 3
      have c1' := cell_new_l (wr.alloc (.cells #[.int .i64 (k : Int)] 3)) (.int .i64 (set : Int)) 3
      simp only [World.size_alloc] at c1'
      obtain ⟨wz, hwz⟩ : ∃ wz, (wr.alloc (.cells #[.int .i64 (k : Int)] 3)).alloc (.cells #[.int .i64 (set : Int)] 3) = wz := ⟨_, rfl⟩
      have hBz : Below wr.heap.size wr wz := by rw [← hwz]; exact ((Below.refl _ wr).alloc (Nat.le_refl _) _).alloc (by simp) _
      have hsize : wz.heap.size = wr.heap.size + 1 + 1 := by rw [← hwz]; simp
      have ci : wz.cell? ⟨wr.heap.size, 0, none⟩ = some (.int .i64 (k : Int)) := by rw [← hwz]; exact cell_alloc_l _ c0.1
      have cs : wz.cell? ⟨wr.heap.size + 1, 0, none⟩ = some (.int .i64 (set : Int)) := by rw [← hwz]; exact c1'.1
      have hz := hb.below hBz
      rw [hwz]
      clear c0 c1' hwz zset
      have hTz : Tab wz := HTab.out wz (hB1'.trans (hz.bel.mono hs1))
      have hBo := hz.bel.size
      have hol := hz.own.lt
      have hwr := hb.bel.size
      have hbx : w1.heap.size + 1 < wr.heap.size := old_of_cell hb.box
      refine wpIn_rangeFunc_ownF rfl h1 (gf := 65) (lb := #[.pointer (some ⟨wr.heap.size + 1, 0, none⟩)]) rfl trivial (enters_of Tryd.func65 (by kernel_rfl) rfl)
        (things_stops (n - 1) 6 (by decide) (by omega) (wr.heap.size + 1) w1.heap.size set hsl wz (by omega) hBo (by omega) cs hTz) belowK_t (belowK_b hBo) (Below.refl _ _) (fun _ => rfl)
        (fun pre W => (OwnZ W w1.heap.size 6 (ndK l lv k (mxL lv pre)) ∧ W.cell? ⟨w1.heap.size + 1, 0, none⟩ = some (.slice (some ⟨w1.heap.size, 0, none⟩) 6 6) ∧ W.cell? ⟨wr.heap.size, 0, none⟩ = some (.int .i64 (k : Int))) ∧ Below w1.heap.size w1 W ∧ Hid (∀ D, D ∈ Ds → W.heap[D]? = some (.deferred (some []))))
        (fun _ _ _ => False)
        (OwnFrom.and (Own.from (fun s A B row hs hg hr => ⟨hs.1.kept hg.size (fun _ _ e => cell_kept e hg hr) (fun _ _ e => frozen_kept e hg hr), cell_kept hs.2.1 hg hr, cell_kept hs.2.2 hg hr⟩) _) (OwnFrom.and (ownFrom_below (Nat.le_refl _) hBo)
          (fun s A B row hs hg hr D hD => (hg.block D (Array.getElem?_eq_some_iff.1 (hs D hD)).1 (fun e => by have h1 := (hr D e.symm).1; have h2 := hz.marked.lt hD; omega)).trans (hs D hD))))
        (fun _ _ _ _ _ hs _ _ => hs)
        ⟨⟨hz.own, hz.box, ci⟩, hz.bel, hz.marked.lie⟩
        (fun x => { tmps := #[.slice a nn cp, .slice (some ⟨bl, ol, none⟩) 6 cl, .int .i64 low, undef, .pointer (some ⟨w.heap.size, 0, none⟩), undef, .slice none 0 0, .nilIface, .slice (some ⟨g, 0, none⟩) 6 6, .nilIface, .nilIface, .pointer (some ⟨w1.heap.size + 1, 0, none⟩), .pointer (some ⟨wr.heap.size, 0, none⟩), .int .i64 (set : Int), .int .i64 (x.1 : Int), .tuple #[.slice (some ⟨g, 0, none⟩) 6 6, .nilIface], .slice a nn cp, .tuple #[.slice (some ⟨g, 0, none⟩) 6 6, .nilIface], .slice (some ⟨g, 0, none⟩) 6 6, .nilIface, .nilIface, .bool false, undef, .slice (some ⟨bl, ol, none⟩) 6 cl, .int .i64 low, .nilIface, .nilIface, .bool false, undef, .slice (some ⟨g, 0, none⟩) 6 6, .int .i64 6, .slice (some ⟨w1.heap.size, 0, none⟩) 6 6, .slice (some ⟨g, 0, none⟩) 6 6, .int .i64 6, .int .i64 (k : Int), .bool true, .int .i64 (k : Int), .pointer (some ⟨g, k, none⟩), .int .i64 (set : Int), .int .i64 (set : Int), .func (.func 65) #[] #[.pointer (some ⟨wr.heap.size + 1, 0, none⟩)], .int .i64 (x.1 : Int), u42, u43, u44, u45, u46, u47, u48, u49, u50, u51, u52, u53, u54, u55], defers := [] }) ?assign ?body ?done ?stop
      case assign =>
        intro l y W K hK
        gi_wp2
        exact hK
      case body =>
        rintro l' pre ⟨q, hq⟩ W ⟨⟨hO, hx, hi'⟩, hBW, HD⟩ _
        dsimp only at hO ⊢
        have d2 := hO.cell k hlt
        have z2 := hO.free k hlt
        have hB0 : Below w.heap.size w W := hB1'.trans (hBW.mono hs1)
        have k3 : W.cell? ⟨w.heap.size, 0, none⟩ = some (.slice (some ⟨bl, ol, none⟩) 6 cl) := (hBW.cell (p := ⟨w.heap.size, 0, none⟩) (by dsimp only; omega)).trans c1
        have k4 : W.cell? ⟨bl, ol + q, none⟩ = some (.int .i64 (lv q)) := keep_cell hB0 (HL.out q hq)
        have hqi : (q : Int) < 6 := by omega
        have hmx : Tryd.prog.follows .mixedOrders = true := by kernel_rfl
        have e2 : ndK l lv k (mxL lv pre) k = mxL lv pre := by unfold ndK; rw [if_neg (by omega), if_pos rfl]
        rw [e2] at d2
        have hsn := mxL_snoc lv pre ⟨q, hq⟩
        dsimp only at hsn
        have hput := hO.put (k := k) (v := mxL lv (pre ++ [⟨q, hq⟩])) (g := ndK l lv k (mxL lv (pre ++ [⟨q, hq⟩]))) hlt (by unfold ndK; rw [if_neg (by omega), if_pos rfl]) (fun j _ hj => by unfold ndK; rw [if_neg hj, if_neg hj])
        have hx' : (W.setCell ⟨w1.heap.size, k, none⟩ (.int .i64 (mxL lv (pre ++ [⟨q, hq⟩])))).cell? ⟨w1.heap.size + 1, 0, none⟩ = some (.slice (some ⟨w1.heap.size, 0, none⟩) 6 6) := (cell_far (by omega)).trans hx
        have hi2 : (W.setCell ⟨w1.heap.size, k, none⟩ (.int .i64 (mxL lv (pre ++ [⟨q, hq⟩])))).cell? ⟨wr.heap.size, 0, none⟩ = some (.int .i64 (k : Int)) := (cell_far (by omega)).trans hi'
        obtain ⟨acc, hacc⟩ : ∃ x, mxL lv pre = x := ⟨_, rfl⟩
        obtain ⟨y, hy⟩ : ∃ x, lv q = x := ⟨_, rfl⟩
        rw [hacc, hy] at hsn
        rw [hacc] at d2
        rw [hy] at k4
        obtain ⟨nxt, hnxt⟩ : ∃ x, mxL lv (pre ++ [⟨q, hq⟩]) = x := ⟨_, rfl⟩
        rw [hnxt] at hsn hput hx' hi2
        have HNx := Hid.mkI hnxt
        have HF := Hid.mkI hput
        have HX := Hid.mkI hx'
        have HI := Hid.mkI hi2
        have HE : Hid (ownPostK (Below w1.heap.size) (fun (pre : List (Thing 6)) W => (OwnZ W w1.heap.size 6 (ndK l lv k (mxL lv pre)) ∧ W.cell? ⟨w1.heap.size + 1, 0, none⟩ = some (.slice (some ⟨w1.heap.size, 0, none⟩) 6 6) ∧ W.cell? ⟨wr.heap.size, 0, none⟩ = some (.int .i64 (k : Int))) ∧ Below w1.heap.size w1 W ∧ Hid (∀ D, D ∈ Ds → W.heap[D]? = some (.deferred (some [])))) (fun _ _ _ => False) (pre ++ [⟨q, hq⟩]) W .normal { tmps := #[], defers := [] } (W.setCell ⟨w1.heap.size, k, none⟩ (.int .i64 nxt)).drew) :=
          ⟨(KeepsOthers.setCell _ _ _).trans (KeepsOthers.drew _), ((Below.refl _ W).setCell (p := ⟨w1.heap.size, k, none⟩) (by simp) _).drew, ⟨by rw [HNx.out]; exact HF.out.drewZ, HX.out, HI.out⟩, (hBW.setCell (p := ⟨w1.heap.size, k, none⟩) (by simp) _).drew, fun D hD => ((KeepsOthers.setCell W ⟨w1.heap.size, k, none⟩ (.int .i64 nxt)).trans (KeepsOthers.drew _)).same D _ (HD.out D hD) rfl⟩
        clear hput hx' hi2 HF HX HI hnxt HNx HD hO hz hTz HTab HS HIs HL HMx hacc hy hb cs ci hB0 hBW hsl
        gi_wp2
        refine wpIn_mono (Q := Exit.then (fun a' w' => w' = (W.setCell ⟨w1.heap.size, k, none⟩ (.int .i64 nxt)).drew) (fun _ _ _ => False)) ?reg ?cont
        case reg =>
          clear HE
          have q1 : W.drew.cell? ⟨w1.heap.size + 1, 0, none⟩ = some (.slice (some ⟨w1.heap.size, 0, none⟩) 6 6) := hx
          have q2 : W.drew.cell? ⟨w1.heap.size, k, none⟩ = some (.int .i64 acc) := d2
          have q3 : W.drew.cell? ⟨wr.heap.size, 0, none⟩ = some (.int .i64 (k : Int)) := hi'
          have q4 : W.drew.frozen? ⟨w1.heap.size, k, none⟩ = false := z2
          have q5 : W.drew.cell? ⟨w.heap.size, 0, none⟩ = some (.slice (some ⟨bl, ol, none⟩) 6 cl) := k3
          have q6 : W.drew.cell? ⟨bl, ol + q, none⟩ = some (.int .i64 y) := k4
          have hset : (W.setCell ⟨w1.heap.size, k, none⟩ (.int .i64 nxt)).drew = W.drew.setCell ⟨w1.heap.size, k, none⟩ (.int .i64 nxt) := rfl
          rw [hset]
          clear hset hx d2 hi' z2 k3 k4 e2
          refine round_still_tail 12 hmx (by kernel_rfl) (by kernel_rfl) (fun ⟨_, _, h⟩ => h) ?_
          obtain ⟨Wd, hWd⟩ : ∃ x, W.drew = x := ⟨_, rfl⟩
          rw [hWd] at q1 q2 q3 q4 q5 q6 ⊢
          clear hWd
          simp only [List.take_succ_cons, List.take_zero, List.drop_succ_cons, List.drop_zero]
          repeat still_step
          refine wpStill_nil ?_
          go_wp2
          all_goals first | rw [show max acc y = y by omega] | rw [show max acc y = acc by omega]
        case cont =>
          intro ex a' w' hx
          obtain ⟨rfl, rfl⟩ := then_normalF hx
          exact HE.out
      case done =>
        rintro E ys W hE rfl ⟨⟨hO, hx, _⟩, hBW, HD⟩ hK
        have hle := hB1'.size
        gi_wp2
        refine ⟨⟨k + 1, E :: Ds, _, _, _, _, _, _, _, _, _, _, _, _, _, _, _, _, _, _, _, _, _, _, _, _, ⟨by omega, hO.like fun v _ => ndK_next HMx.out v, hx, hBW, Marked.cons ⟨hz.marked.low, HD.out, hz.marked.once⟩ (by omega) (fun D hD => Nat.lt_of_lt_of_le (hz.marked.lt hD) hE) hK⟩, rfl⟩, ?_⟩
        simp [intOf]; omega
      case stop =>
        rintro E c pre W _ _ h _
        exact h.elim
    · obtain rfl : k = 6 := by omega
      have hx := hb.box
      have hO : OwnZ wr w1.heap.size 6 (ndF l lv) := hb.own.like fun j hj => by unfold ndK; rw [if_pos hj]
      have hB6 := hB1'.trans (hb.bel.mono hs1)
      gi_wp2
      refine leaves_marks Ds _ hb.marked fun w' hB' hc' => ⟨.tuple #[.slice (some ⟨w1.heap.size, 0, none⟩) 6 6, .nilIface], ?_, w1.heap.size, rfl, ⟨_, 6, rfl, .inr ⟨w1.heap.size, 0, rfl, old_of_cell (hc' _ _ (hO.cell 0 (by decide))), fun i hi => by rw [Nat.zero_add]; exact hc' _ _ (hO.cell i hi)⟩⟩, hB6.trans hB'⟩
      simp [results, Tryd.f32, go_sem]
theorem needed_ok {l : List Nod} (hp : proC l = 0) (a : Option Addr) (cp : Nat) (v : Value) (lv : Nat → Int) (low : Int) (hlow : ∀ j, j < 6 → low ≤ lv j ∧ lv j ≤ 7) (w : World) (hat : AtNods w a l.length (nthD l)) (hl : Lst w v 6 lv) (hT : Tab w) :
    Calls Tryd.prog 32 #[.slice a l.length cp, v, .int .i64 low] w fun e w' => ∃ M, e = .returned (.tuple #[.slice (some ⟨M, 0, none⟩) 6 6, .nilIface]) ∧ Hid (Lst w' (.slice (some ⟨M, 0, none⟩) 6 6) 6 (ndF l lv)) ∧ Below w.heap.size w w' :=
  (callsIn_wide (n := 4)).1 (needed_in 4 (Nat.le_refl _) hp a cp v lv low hlow w hat hl hT)
/-- Where something is wrong. -/
theorem needed_no {l : List Nod} (a : Option Addr) (cp : Nat) (v : Value) (nv : Nat) (lv : Nat → Int) (low : Int) (hc : fitC l nv lv low ≠ 0) (w : World) (hat : AtNods w a l.length (nthD l)) (hl : Lst w v nv lv) (hT : Tab w) :
    Calls Tryd.prog 32 #[.slice a l.length cp, v, .int .i64 low] w fun e w' => e = .returned (.tuple #[.slice none 0 0, .iface 57 (.int .i64 (fitC l nv lv low))]) ∧ Below w.heap.size w w' := by
  have hBa : Below w.heap.size w (w.alloc (.cells #[v] 23)) := (Below.refl _ w).alloc (Nat.le_refl _) _
  have cl0 := cell_new_l w v 23
  by_cases hp : proC l = 0
  · have tF := ffrom_ok hp a cp _ (hat.below hBa) (hT.below hBa hT.size)
    have tC := fun w' (k : Below w.heap.size w w') => fcheck_any v nv lv low w' (hl.below k)
    rw [fitC_pro hp] at hc ⊢
    obtain ⟨c, hcc⟩ : ∃ c, levC nv lv low = c := ⟨_, rfl⟩
    rw [hcc] at hc tC ⊢
    have he : errV c = .iface 57 (.int .i64 c) := if_neg hc
    rw [he] at tC
    obtain ⟨nn, hnn⟩ : ∃ m, l.length = m := ⟨_, rfl⟩
    rw [hnn] at tF ⊢
    obtain ⟨av, cv, rfl, -⟩ := id hl
    clear he hcc hc hp hat hl hT hnn
    obtain ⟨wa, hwa⟩ : ∃ x, w.alloc (.cells #[.slice av nv cv] 23) = x := ⟨_, rfl⟩
    rw [hwa] at tF hBa cl0
    go_enter Tryd.func32, Tryd.ntmps32
    go_wp2_with (first | (go_at_call 13; (with_reducible refine tF.mono ?_); clear tF; rintro e w1 ⟨g, rfl, hg, HO1, hB1⟩; have c1 := keep_cell hB1 cl0.1; have hB1' := hBa.trans (hB1.mono hBa.size)) | (go_at_call 48; (with_reducible refine (tC _ hB1').mono ?_); clear tC; rintro e w2 ⟨rfl, hw⟩; obtain rfl := hw.symm))
    go_ret2
    exact ⟨rfl, hB1'⟩
  · have tF := ffrom_no hp a cp _ (hat.below hBa)
    rw [fitC_bad hp] at hc ⊢
    obtain ⟨c, hcc⟩ : ∃ c, proC l = c := ⟨_, rfl⟩
    rw [hcc] at hc tF ⊢
    obtain ⟨nn, hnn⟩ : ∃ m, l.length = m := ⟨_, rfl⟩
    rw [hnn] at tF ⊢
    obtain ⟨av, cv, rfl, -⟩ := id hl
    clear hcc hc hp hat hl hT hnn
    obtain ⟨wa, hwa⟩ : ∃ x, w.alloc (.cells #[.slice av nv cv] 23) = x := ⟨_, rfl⟩
    rw [hwa] at tF hBa cl0
    go_enter Tryd.func32, Tryd.ntmps32
    go_wp2_with (go_at_call 13; (with_reducible refine tF.mono ?_); clear tF; rintro e w1 ⟨rfl, hB1⟩; have hB1' := hBa.trans (hB1.mono hBa.size))
    go_ret2
    exact ⟨rfl, hB1'⟩

theorem ffits_ok {l : List Nod} (a : Option Addr) (cp : Nat) (v : Value) (nv : Nat) (lv : Nat → Int) (hc : fitC l nv lv 0 = 0) (w : World) (hat : AtNods w a l.length (nthD l)) (hl : Lst w v nv lv) (hT : Tab w) :
    Calls Tryd.prog 16 #[.slice a l.length cp, v] w fun e w' => e = .returned (.tuple #[.bool (fitsB (cF l) lv), .nilIface]) ∧ Below w.heap.size w w' := by
  obtain ⟨hp, rfl, hlv⟩ := fitC_ok hc
  have hG := good_of hp
  have tN := needed_ok hp a cp v lv 0 hlv w hat hl hT
  have HL := Hid.mkI (fun w' (k : Below w.heap.size w w') => hl.below k)
  have HT := Hid.mkI ((fitsB_iff (cF l) lv).trans (nd_fits hG fun j hj => (hlv j hj).1).symm)
  obtain ⟨T, hTT⟩ : ∃ T, fitsB (cF l) lv = T := ⟨_, rfl⟩
  rw [hTT] at HT ⊢
  obtain ⟨nn, hnn⟩ : ∃ m, l.length = m := ⟨_, rfl⟩
  rw [hnn] at tN ⊢
  obtain ⟨av, cv, rfl, -⟩ := id hl
  clear hp hlv hG hc hat hl hT hTT hnn
  go_enter Tryd.func16, Tryd.ntmps16
  go_wp2_with (first | (go_at_call 32; (with_reducible refine tN.mono ?_); clear tN; rintro e w1 ⟨M, rfl, H1, hB1⟩; have tQ := fequal_any (.slice (some ⟨M, 0, none⟩) 6 6) (.slice av 6 cv) (ndF l lv) lv T HT.out w1 H1.out (HL.out w1 hB1)) | (go_at_call 33; (with_reducible refine tQ.mono ?_); clear tQ; rintro e w2 ⟨rfl, q, hw⟩; obtain rfl := hw.symm))
  go_ret2
  exact ⟨rfl, below_drawn hB1 q⟩
theorem ffits_no {l : List Nod} (a : Option Addr) (cp : Nat) (v : Value) (nv : Nat) (lv : Nat → Int) (hc : fitC l nv lv 0 ≠ 0) (w : World) (hat : AtNods w a l.length (nthD l)) (hl : Lst w v nv lv) (hT : Tab w) :
    Calls Tryd.prog 16 #[.slice a l.length cp, v] w fun e w' => e = .returned (.tuple #[.bool false, .iface 57 (.int .i64 (fitC l nv lv 0))]) ∧ Below w.heap.size w w' := by
  have tN := needed_no a cp v nv lv 0 hc w hat hl hT
  obtain ⟨c, hcc⟩ : ∃ c, fitC l nv lv 0 = c := ⟨_, rfl⟩
  rw [hcc] at tN ⊢
  obtain ⟨nn, hnn⟩ : ∃ m, l.length = m := ⟨_, rfl⟩
  rw [hnn] at tN ⊢
  obtain ⟨av, cv, rfl, -⟩ := id hl
  clear hc hat hl hT hcc hnn
  go_enter Tryd.func16, Tryd.ntmps16
  go_wp2_with (go_at_call 32; (with_reducible refine tN.mono ?_); clear tN; rintro e w1 ⟨rfl, hB1⟩)
  go_ret2
  exact ⟨rfl, hB1⟩
theorem fleast_no1 {l : List Nod} (a : Option Addr) (cp : Nat) (v : Value) (nv : Nat) (lv : Nat → Int) (hc : fitC l nv lv (-1) ≠ 0) (w : World) (hat : AtNods w a l.length (nthD l)) (hl : Lst w v nv lv) (hT : Tab w) :
    Calls Tryd.prog 17 #[.slice a l.length cp, v] w fun e w' => e = .returned (.tuple #[.slice none 0 0, .iface 57 (.int .i64 (fitC l nv lv (-1)))]) ∧ Below w.heap.size w w' := by
  have tN := needed_no a cp v nv lv (-1) hc w hat hl hT
  obtain ⟨c, hcc⟩ : ∃ c, fitC l nv lv (-1) = c := ⟨_, rfl⟩
  rw [hcc] at tN ⊢
  obtain ⟨nn, hnn⟩ : ∃ m, l.length = m := ⟨_, rfl⟩
  rw [hnn] at tN ⊢
  obtain ⟨av, cv, rfl, -⟩ := id hl
  clear hc hat hl hT hcc hnn
  go_enter Tryd.func17, Tryd.ntmps17
  go_wp2_with (go_at_call 32; (with_reducible refine tN.mono ?_); clear tN; rintro e w1 ⟨rfl, hB1⟩)
  go_ret2
  exact ⟨rfl, hB1⟩
/-- What Least answers where all that comes in is right. -/
def LstR (w : World) (T : Bool) (f : Nat → Int) (e : Ending) (w' : World) : Prop := Below w.heap.size w w' ∧ match T with
  | true => ∃ g, e = .returned (.tuple #[.slice (some ⟨g, 0, none⟩) 6 6, .nilIface]) ∧ Hid (Lst w' (.slice (some ⟨g, 0, none⟩) 6 6) 6 f)
  | false => e = .returned (.tuple #[.slice none 0 0, .iface 57 (.int .i64 6)])
set_option maxHeartbeats 4000000 in
theorem fleast_any {l : List Nod} (a : Option Addr) (cp : Nat) (v : Value) (nv : Nat) (lv : Nat → Int) (hc : fitC l nv lv (-1) = 0) (w : World) (hat : AtNods w a l.length (nthD l)) (hl : Lst w v nv lv) (hT : Tab w) :
    Calls Tryd.prog 17 #[.slice a l.length cp, v] w fun e w' => LstR w (toldB (cF l) lv) (leastI (cF l) lv) e w' := by
  obtain ⟨hp, rfl, hlv⟩ := fitC_ok hc
  have hG := good_of hp
  have tN := needed_ok hp a cp v lv (-1) hlv w hat hl hT
  have hlo : ∀ j, j < 6 → -1 ≤ lv j := fun j hj => (hlv j hj).1
  have HT := Hid.mkI ((toldB_iff (cF l) lv).trans (nd_told hG hlo).symm)
  have HLe := Hid.mkI (fun (h : toldB (cF l) lv = true) (i : Nat) (hi : i < 6) => nd_least hG hlo ((toldB_iff (cF l) lv).1 h) hi)
  obtain ⟨b, off, cv, rfl, hb, hcl⟩ := lst_six_lies hl (by decide)
  have HL := Hid.mkI (fun w' (k : Below w.heap.size w w') (i : Nat) (hi : i < 6) => keep_cell k (hcl i hi))
  obtain ⟨T, hTT⟩ : ∃ T, toldB (cF l) lv = T := ⟨_, rfl⟩
  rw [hTT] at HT HLe ⊢
  obtain ⟨nn, hnn⟩ : ∃ m, l.length = m := ⟨_, rfl⟩
  rw [hnn] at tN ⊢
  clear hp hlv hG hc hat hl hT hTT hnn hlo hcl hb
  go_enter Tryd.func17, Tryd.ntmps17
  go_wp2_with (go_at_call 32; (with_reducible refine tN.mono ?_); clear tN; rintro e w1 ⟨M, rfl, H1, hB1⟩)
  have HZ := Hid.mkI (fun (i : Nat) (hi : i < 6) => show w1.cell? ⟨M, i, none⟩ = some (.int .i64 (ndF l lv i)) by
    obtain ⟨b', off', cp', e, hb', hc'⟩ := lst_six_lies H1.out (by decide)
    cases e
    have := hc' i hi
    rw [Nat.zero_add] at this
    exact this)
  have HL1 := Hid.mkI (HL.out w1 hB1)
  clear HL
  go_loop [21] (fun p => ∃ i : Nat, i ≤ 6 ∧ p = .int .i64 (i : Int) ∧ Hid (∀ j, j < i → lv j = -1 ∨ lv j = ndF l lv j)) (fun p => 6 - (intOf p).toNat)
  case atStart => exact ⟨0, by omega, rfl, fun j hj => absurd hj (by omega)⟩
  case round =>
    obtain ⟨i, hi, rfl, HQ⟩ := hrel
    by_cases hlt : i < 6
    · have hiI : (i : Int) < 6 := by omega
      have z := HL1.out i hlt
      have zn := HZ.out i hlt
      by_cases h1 : lv i = -1
      · have HQ2 : Hid (∀ j, j < i + 1 → lv j = -1 ∨ lv j = ndF l lv j) := fun j hj => by
          by_cases e : j = i
          · rw [e]; exact .inl h1
          · exact HQ.out j (by omega)
        rw [h1] at z
        clear h1 HT HLe
        go_wp2
        go_round
        case rel => exact ⟨i + 1, by omega, by go_num, HQ2.out⟩
        case measure => simp [intOf]; omega
      · by_cases h2 : lv i = ndF l lv i
        · have HQ2 : Hid (∀ j, j < i + 1 → lv j = -1 ∨ lv j = ndF l lv j) := fun j hj => by
            by_cases e : j = i
            · rw [e]; exact .inr h2
            · exact HQ.out j (by omega)
          rw [← h2] at zn
          obtain ⟨y, hy⟩ : ∃ y, lv i = y := ⟨_, rfl⟩
          rw [hy] at z zn h1
          have g1 : (y != -1) = true := by simpa using h1
          have g2 : (y != y) = false := by simp
          clear h1 h2 hy HT HLe
          go_wp2
          go_round
          case rel => exact ⟨i + 1, by omega, by go_num, HQ2.out⟩
          case measure => simp [intOf]; omega
        · obtain rfl : T = false := by
            cases hT : T with
            | false => rfl
            | true => exact absurd (HT.out.1 hT i hlt) (not_or.2 ⟨h1, h2⟩)
          obtain ⟨y, hy⟩ : ∃ y, lv i = y := ⟨_, rfl⟩
          obtain ⟨x, hx⟩ : ∃ y, ndF l lv i = y := ⟨_, rfl⟩
          rw [hy] at z h1 h2
          rw [hx] at zn h2
          have g1 : (y != -1) = true := by simpa using h1
          have g2 : (y != x) = true := by simpa using h2
          clear h1 h2 hy hx HT HLe HQ
          go_wp2
          go_ret2
          exact ⟨hB1, rfl⟩
    · obtain rfl : i = 6 := by omega
      have hTt : T = true := HT.out.2 HQ.out
      have HF := Hid.mkI (H1.out.like fun i hi => HLe.out hTt i hi)
      obtain rfl := hTt.symm
      clear HT HLe HQ
      go_wp2
      go_ret2
      exact ⟨hB1, M, rfl, HF⟩

theorem lst_newF (w : World) (x0 x1 x2 x3 x4 x5 : Int) (t : TypeId) : Lst (w.alloc (.cells #[.int .i64 x0, .int .i64 x1, .int .i64 x2, .int .i64 x3, .int .i64 x4, .int .i64 x5] t)) (.slice (some ⟨w.heap.size, 0, none⟩) 6 6) 6 (fun i => ([x0, x1, x2, x3, x4, x5] : List Int).getD i 0) := by
  have h1 := World.alloc_heap_new w (.cells #[.int .i64 x0, .int .i64 x1, .int .i64 x2, .int .i64 x3, .int .i64 x4, .int .i64 x5] t)
  refine ⟨_, 6, rfl, .inr ⟨w.heap.size, 0, rfl, by simp, fun i hi => ?_⟩⟩
  simp only [World.cell?]
  rw [h1]
  match i, hi with
  | 0, _ => rfl
  | 1, _ => rfl
  | 2, _ => rfl
  | 3, _ => rfl
  | 4, _ => rfl
  | 5, _ => rfl
/-- The closed fact's program. -/
def leakL : List Nod := [⟨1, 1, 0, 0, 0⟩, ⟨0, 1, 0, 0, 0⟩, ⟨6, 0, 1, 0, 0⟩, ⟨5, 0, 0, 0, 0⟩, ⟨8, 0, 0, 2, 3⟩]
def leakA : Nat → Int := fun i => ([0, 1, 0, 0, 0, 0] : List Int).getD i 0
def leakB : Nat → Int := fun i => ([1, 1, 0, 0, 0, 0] : List Int).getD i 0
theorem leak_pro : proC leakL = 0 := by kernel_rfl
theorem leak_no : fitsB (cF leakL) leakA = false := by kernel_rfl
theorem leak_yes : fitsB (cF leakL) leakB = true := by kernel_rfl
theorem leak_fa : fitC leakL 6 leakA 0 = 0 := by kernel_rfl
theorem leak_fb : fitC leakL 6 leakB 0 = 0 := by kernel_rfl
theorem leak_any (w : World) : Calls Tryd.prog 34 #[] w fun e w' => ∃ g, e = .returned (.slice (some ⟨g, 0, none⟩) 5 5) ∧ Hid (AtNods w' (some ⟨g, 0, none⟩) 5 (nthD leakL)) ∧ Below w.heap.size w w' := by
  have hN : AtNods (w.alloc (.cells #[.int .i64 1, .int .i64 1, .int .i64 0, .int .i64 0, .int .i64 0, .int .i64 0, .int .i64 1, .int .i64 0, .int .i64 0, .int .i64 0, .int .i64 6, .int .i64 0, .int .i64 1, .int .i64 0, .int .i64 0, .int .i64 5, .int .i64 0, .int .i64 0, .int .i64 0, .int .i64 0, .int .i64 8, .int .i64 0, .int .i64 0, .int .i64 2, .int .i64 3] 47)) (some ⟨w.heap.size, 0, none⟩) 5 (nthD leakL) := by
    have h1 := World.alloc_heap_new w (.cells #[.int .i64 1, .int .i64 1, .int .i64 0, .int .i64 0, .int .i64 0, .int .i64 0, .int .i64 1, .int .i64 0, .int .i64 0, .int .i64 0, .int .i64 6, .int .i64 0, .int .i64 1, .int .i64 0, .int .i64 0, .int .i64 5, .int .i64 0, .int .i64 0, .int .i64 0, .int .i64 0, .int .i64 8, .int .i64 0, .int .i64 0, .int .i64 2, .int .i64 3] 47)
    refine .inr ⟨w.heap.size, 0, rfl, by simp, fun i hi => ?_, fun i hi => ?_, fun i hi => ?_, fun i hi => ?_, fun i hi => ?_⟩ <;>
    · simp only [World.cell?]
      rw [h1]
      match i, hi with
      | 0, _ => rfl
      | 1, _ => rfl
      | 2, _ => rfl
      | 3, _ => rfl
      | 4, _ => rfl
  have hB := (Below.refl w.heap.size w).alloc (Nat.le_refl _) (.cells #[.int .i64 1, .int .i64 1, .int .i64 0, .int .i64 0, .int .i64 0, .int .i64 0, .int .i64 1, .int .i64 0, .int .i64 0, .int .i64 0, .int .i64 6, .int .i64 0, .int .i64 1, .int .i64 0, .int .i64 0, .int .i64 5, .int .i64 0, .int .i64 0, .int .i64 0, .int .i64 0, .int .i64 8, .int .i64 0, .int .i64 0, .int .i64 2, .int .i64 3] 47)
  have HN := Hid.mkI hN
  clear hN
  go_enter Tryd.func34, Tryd.ntmps34
  go_wp2
  go_ret
  exact ⟨_, rfl, HN.out, hB⟩
set_option maxHeartbeats 4000000 in
theorem flowFact_any (w : World) (hT : Tab w) :
    Calls Tryd.prog 18 #[] w fun e w' => e = .returned (.bool true) ∧ Below w.heap.size w w' := by
  have t1 := leak_any w
  have t2 := Hid.mkI (fun (w1 : World) (g : Nat) (hB : Below w.heap.size w w1) (h : AtNods w1 (some ⟨g, 0, none⟩) 5 (nthD leakL)) => ffits_ok (l := leakL) (some ⟨g, 0, none⟩) 5 (.slice (some ⟨w1.heap.size, 0, none⟩) 6 6) 6 leakA leak_fa (w1.alloc (.cells #[.int .i64 0, .int .i64 1, .int .i64 0, .int .i64 0, .int .i64 0, .int .i64 0] 3)) (h.below ((Below.refl _ w1).alloc (Nat.le_refl _) _)) (lst_newF w1 0 1 0 0 0 0 3) (hT.below (hB.alloc hB.size _) hT.size))
  have t3 := fun (w1 : World) => leak_any w1
  have t4 := Hid.mkI (fun (w1 : World) (g : Nat) (hB : Below w.heap.size w w1) (h : AtNods w1 (some ⟨g, 0, none⟩) 5 (nthD leakL)) => ffits_ok (l := leakL) (some ⟨g, 0, none⟩) 5 (.slice (some ⟨w1.heap.size, 0, none⟩) 6 6) 6 leakB leak_fb (w1.alloc (.cells #[.int .i64 1, .int .i64 1, .int .i64 0, .int .i64 0, .int .i64 0, .int .i64 0] 3)) (h.below ((Below.refl _ w1).alloc (Nat.le_refl _) _)) (lst_newF w1 1 1 0 0 0 0 3) (hT.below (hB.alloc hB.size _) hT.size))
  rw [leak_no] at t2
  rw [leak_yes] at t4
  clear hT
  go_enter Tryd.func18, Tryd.ntmps18
  go_wp2_with fail
  refine t1.mono ?_
  clear t1
  rintro e w1 ⟨g, rfl, hN, hB1⟩
  have t2 := t2.out w1 g hB1 hN.out
  go_wp2_with fail
  refine t2.mono ?_
  clear t2
  rintro e w2 ⟨rfl, hx2⟩
  have hB2 := hB1.trans (((Below.refl _ w1).alloc (Nat.le_refl _) _).trans (hx2.mono (by simp)) |>.mono hB1.size)
  have t3 := t3 w2
  go_wp2_with fail
  refine t3.mono ?_
  clear t3
  rintro e w3 ⟨g3, rfl, hN3, hx3⟩
  have hB3 := hB2.trans (hx3.mono hB2.size)
  have t4 := t4.out w3 g3 hB3 hN3.out
  go_wp2_with fail
  refine t4.mono ?_
  clear t4
  rintro e w4 ⟨rfl, hx4⟩
  have hB4 := hB3.trans (((Below.refl _ w3).alloc (Nat.le_refl _) _).trans (hx4.mono (by simp)) |>.mono hB3.size)
  go_wp2_with fail
  go_ret
  exact ⟨rfl, hB4⟩
end Go.Proofs.YtioimgeeamchaaaDoor
