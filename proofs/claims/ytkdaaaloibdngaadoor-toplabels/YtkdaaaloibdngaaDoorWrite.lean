/- What Write of package label answers: a label's text. -/
import Derived.RangeFuncNested
import Derived.RangeFuncBound
import Derived.RangeFuncCalls
import Derived.RangeFuncLeaves
import Derived.RangeFuncFrom
import Derived.RangeFuncBox
import Derived.Shelf.Abstract
import Derived.Shelf.RegionOpen
import Derived.WalkKit
import Derived.OwnWalkIn
import Derived.TacticsInMore
import Derived.LoopNIn
import Derived.LoopIn
import Derived.Outline
import Derived.Laws.BytesArg
import Derived.Test.YtkdaaaloibdngaaDoorLabel
import Derived.Test.YtkdaaaloibdngaaDoorRowk
namespace Go.Proofs.YtkdaaaloibdngaaDoor
open Go.RowKit Go.Shelf
attribute [local go_sem] Oper.semAt_some

/-- The letters of a label's text, as numbers. -/
def txt (l : Nat) (pre : List (Thing 8)) : List Int := (48 + (l : Int)) :: pre.map fun i => 97 + (i.1 : Int)
theorem txt_snoc (l : Nat) (pre : List (Thing 8)) (i : Thing 8) : txt l (pre ++ [i]) = txt l pre ++ [97 + (i.1 : Int)] := by simp [txt]
theorem txt_length (l : Nat) (pre : List (Thing 8)) : (txt l pre).length = pre.length + 1 := by simp [txt]
/-- A label's text. -/
def wrt (l s : Nat) : ByteArray := strOfNums (txt l (memN 8 s))

/-- What lies in one new label's place, behind whatever was done since. -/
theorem one_of {w w' : World} {x y : Value} {t : TypeId} (S : Below (w.alloc (.cells #[x, y] t)).heap.size (w.alloc (.cells #[x, y] t)) w') :
    w'.cell? ⟨w.heap.size, 0, none⟩ = some x ∧ w'.cell? ⟨w.heap.size, 1, none⟩ = some y ∧ w.heap.size < w'.heap.size ∧ Below w.heap.size w w' := by
  have h1 := World.alloc_heap_new w (.cells #[x, y] t)
  have c := fun (o : Nat) => S.cell (p := ⟨w.heap.size, o, none⟩) (by simp)
  have hz := S.size
  have hs : (w.alloc (.cells #[x, y] t)).heap.size = w.heap.size + 1 := by simp
  rw [hs] at hz
  refine ⟨(c 0).trans ?_, (c 1).trans ?_, hz, ((Below.refl _ w).alloc (Nat.le_refl _) _).trans (S.mono (by simp))⟩
  · simp only [World.cell?]; rw [h1]; simp
  · simp only [World.cell?]; rw [h1]; simp

theorem info5 : (Tryd.prog.info? 5).map (fun i => (i.zero, i.size, i.bytes)) = some (some (.int .u8 0), 1, 1) := by kernel_rfl
/-- Where the loop over a label's letters stands: the letters so far. -/
def Sofar (l B : Nat) (pre : List (Thing 8)) (W : World) : Prop := ∃ v, Boxed W (B + 1) 60 v ∧ W.ownsRow B 5 1 v (pre.length + 1) ((txt l pre).map (Value.int .u8)) ∧ True
set_option maxRecDepth 100000 in
set_option maxHeartbeats 1000000 in
theorem write_in (n l s : Nat) (hn : 3 ≤ n) (hl : l ≤ 7) (hs : s < 256) (w : World) (hT : Tab w) :
    CallsIn Fence.wide n Tryd.prog 12 #[lab l s] w fun e w' => e = .returned (.tuple #[.string (wrt l s), .nilIface]) ∧ Below w.heap.size w w' := by
  have h1 : 1 ≤ n := by omega
  have hsz := hT.size
  have t := fun W => labCheck_ok l s (isLab_nat hl hs) W
  refine callsIn_of_wp_marks Tryd.func12 rfl trivial ?_ rfl
  simp only [Tryd.ntmps12, List.size_toArray, List.length_cons, List.length_nil, Nat.reduceAdd, Nat.reduceSub, Array.replicate_succ, Array.replicate_zero, List.push_toArray, List.append_toArray, List.nil_append, List.cons_append]
  gi_wp2_with (first | (refine ⟨trivial, ?_⟩; gi_at_call 10; refine (callsIn_wide.2 (t _)).mono ?_; rintro e w1 ⟨rfl, S1⟩; obtain ⟨c1, c2, hz, hB⟩ := one_of S1; clear S1) | (refine ⟨trivial, ?_⟩; gi_at_call 33; refine (things_in (n - 1) _ _).mono ?_; rintro e w' ⟨rfl, rfl⟩))
  have c3 := cell_new_l ((w1.alloc (.cells #[.int .u8 (48 + (l : Int))] 5)).alloc (.cells #[.slice (some ⟨w1.heap.size, 0, none⟩) 1 1] 60)) (.int .i64 (s : Int)) 3
  simp only [World.size_alloc] at c3
  have hB0 : Below w1.heap.size w1 (((w1.alloc (.cells #[.int .u8 (48 + (l : Int))] 5)).alloc (.cells #[.slice (some ⟨w1.heap.size, 0, none⟩) 1 1] 60)).alloc (.cells #[.int .i64 (s : Int)] 3)) := (((Below.refl _ w1).alloc (Nat.le_refl _) _).alloc (by simp) _).alloc (by simp; omega) _
  have hB1 : Below w.heap.size w (((w1.alloc (.cells #[.int .u8 (48 + (l : Int))] 5)).alloc (.cells #[.slice (some ⟨w1.heap.size, 0, none⟩) 1 1] 60)).alloc (.cells #[.int .i64 (s : Int)] 3)) := hB.trans (hB0.mono hB.size)
  obtain ⟨i0, hi0, hz0, hz1, hz2⟩ := info_parts info5
  have hS0 : Sofar l w1.heap.size [] (((w1.alloc (.cells #[.int .u8 (48 + (l : Int))] 5)).alloc (.cells #[.slice (some ⟨w1.heap.size, 0, none⟩) 1 1] 60)).alloc (.cells #[.int .i64 (s : Int)] 3)) := by
    refine ⟨.slice (some ⟨w1.heap.size, 0, none⟩) 1 1, ?_, ?_, trivial⟩
    · have h := Boxed.new (w1.alloc (.cells #[.int .u8 (48 + (l : Int))] 5)) 60 (.slice (some ⟨w1.heap.size, 0, none⟩) 1 1)
      simp only [World.size_alloc] at h
      exact h.alloc _
    · have h := World.ownsRow_lit (base := w1.heap.size) (e := 5) (size := 1) w1 #[.int .u8 (48 + (l : Int))] 1 (Nat.le_refl _) (by decide) rfl
      exact ((h.alloc _).alloc _)
  refine wpIn_rangeFunc_ownF rfl h1 (gf := 45) (lb := #[.pointer (some ⟨w1.heap.size + 1 + 1, 0, none⟩)]) rfl trivial (enters_of Tryd.func45 (by kernel_rfl) rfl)
    (things_stops (n - 1) 8 (by decide) (by omega) (w1.heap.size + 1 + 1) w1.heap.size s (by omega) _ (by simp) (by simp; omega) (by omega) c3.1 (hT.below hB1 hsz)) belowK_t (belowK_b (by simp; omega)) (Below.refl _ _) (fun _ => rfl)
    (fun pre W => Sofar l w1.heap.size pre W ∧ Below w.heap.size w W)
    (fun _ _ _ => False)
    (OwnFrom.and (Own.from (holdsRow_own w1.heap.size (w1.heap.size + 1) 60 5 1 (fun pre : List (Thing 8) => pre.length + 1) (fun pre => (txt l pre).map (Value.int .u8)) (fun _ _ => True)) _) (ownFrom_below (Nat.le_refl _) (by simp; omega)))
    (fun _ _ _ _ _ hs _ _ => hs)
    ⟨hS0, hB1⟩
    (fun x => { tmps := #[lab l s, .pointer (some ⟨w.heap.size, 0, none⟩), .string ⟨#[]⟩, .nilIface, .nilIface, .pointer (some ⟨w1.heap.size + 1, 0, none⟩), .int .i64 (x.1 : Int), .agg #[.int .i64 l, .int .i64 s], .nilIface, .nilIface, .bool false, undef, .pointer (some ⟨w.heap.size, 0, none⟩), .int .i64 l, .int .i64 (48 + (l : Int)), .int .u8 (48 + (l : Int)), .slice (some ⟨w1.heap.size, 0, none⟩) 1 1, .pointer (some ⟨w.heap.size, 1, none⟩), .int .i64 s, .func (.func 45) #[] #[.pointer (some ⟨w1.heap.size + 1 + 1, 0, none⟩)], .int .i64 (x.1 : Int), undef, undef, undef, undef, undef, undef, undef, undef], defers := [] }) ?assign ?body ?done ?stop
  case assign =>
    intro l x W K hK
    gi_wp2
    exact hK
  case body =>
    rintro ll pre ⟨i, hi⟩ W ⟨⟨v, hbox, hrow, _⟩, hBW⟩ hlen
    have hc := hbox.cell
    have hf := hbox.frozen
    have hone : ∀ u ∈ [Value.int .u8 (97 + (i : Int))], u.oneCell' = true := by simp [Value.oneCell']
    have hm : pre.length + 1 + 1 ≤ maxLen := by
      have : (100 : Nat) ≤ maxLen := by decide
      omega
    have hb2 : (pre.length + 1 + 1) * 1 ≤ 140737488355328 := by omega
    have hsW : w1.heap.size + 1 < W.heap.size := hbox.lt
    have hbase : w1.heap.size ≤ (W.alloc (.cells #[.int .u8 (97 + (i : Int))] 5)).heap.size := by simp; omega
    have hbase' : w1.heap.size ≤ W.heap.size := by omega
    dsimp only
    gi_wp2_with (gi_at_builtin; refine wpListIn_append_own _ rfl _ _ 60 rfl w1.heap.size 5 i0 (.int .u8 0) 1 1 Tryd.underlying60 hi0 hz0 hz1 hz2 rfl (by decide) _ _ _ rfl (hrow.alloc _) ⟨W.heap.size, 0, none⟩ 1 1 [.int .u8 (97 + (i : Int))] rfl rfl (cell_one_new _ _ _) hone hm hb2 hbase ?_; intro v' w3 hown' hgrow hnil; clear hnil; obtain ⟨g', cap', rfl⟩ := ownsRow_succ hown'; obtain ⟨hb3, hb4, hr4, hk4, hB4⟩ := Boxed.appended hbox (by decide) hrow hbase' (Nat.le_succ _) hown' hgrow; have hc3 := hb3.cell; have hf3 := hb3.frozen)
    refine ⟨hk4, hB4, ⟨_, hb4, ?_, trivial⟩, hBW.trans (hB4.mono hB.size)⟩
    rw [txt_snoc, List.map_append, List.length_append]
    exact hr4
  case done =>
    rintro D ys W hD rfl ⟨⟨v, hbox, hrow, _⟩, hBW⟩ hK
    have hc := hbox.cell
    have hf := hbox.frozen
    obtain ⟨g, cap, rfl⟩ := ownsRow_succ hrow
    have hcell : ∀ j, j < (memN 8 s).length + 1 → W.cell? ⟨g, 0 + j, none⟩ = some (.int .u8 ((txt l (memN 8 s)).getD j 0)) := fun j hj => by
      rw [Nat.zero_add, hrow.cellAt j (by omega), List.getElem?_map, List.getD_eq_getElem?_getD]
      have hjl : j < (txt l (memN 8 s)).length := by rw [txt_length]; exact hj
      rw [List.getElem?_eq_getElem hjl]; rfl
    have hcv := run_convert_bytes_arg (P := Tryd.prog) W 60 5 Tryd.underlying60 Tryd.underlying5 g 0 _ cap (txt l (memN 8 s)) (txt_length l (memN 8 s)) hcell 9 Tryd.underlying9
    have HW : Hid (strOfNums (txt l (memN 8 s)) = wrt l s) := rfl
    obtain ⟨str, hstr⟩ : ∃ x, strOfNums (txt l (memN 8 s)) = x := ⟨_, rfl⟩
    rw [hstr] at hcv HW
    clear hstr hcell
    gi_wp2
    refine ⟨by simp, .inl ⟨_, _, rfl, run_takeDeferred hK, ?_⟩⟩
    exact ⟨_, results_tmp2 rfl _ _ _, by rw [← HW.out]; rfl, hBW.trans (belowK_b (w := w) (Nat.le_refl _) W D _ _ (by simp at hD; omega) hK rfl rfl)⟩
  case stop =>
    rintro D c pre W _ _ h _
    exact h.elim
theorem write_ok (l s : Nat) (hl : l ≤ 7) (hs : s < 256) (w : World) (hT : Tab w) :
    Calls Tryd.prog 12 #[lab l s] w fun e w' => e = .returned (.tuple #[.string (wrt l s), .nilIface]) ∧ Below w.heap.size w w' :=
  (callsIn_wide (n := 4)).1 (write_in 4 l s (by omega) hl hs w hT)
theorem write_no (l s : Int) (h : NoLab l s) (w : World) :
    Calls Tryd.prog 12 #[lab l s] w fun e w' => e = .returned (.tuple #[.string ⟨#[]⟩, .iface 57 (.int .i64 1)]) ∧ Below w.heap.size w w' := by
  have t := fun W => labCheck_no l s h W
  clear h
  go_enter Tryd.func12, Tryd.ntmps12
  go_wp2_with (go_at_call 10; refine (t _).mono ?_; rintro e w1 ⟨rfl, S1⟩; obtain ⟨c1, c2, hz, hB⟩ := one_of S1; clear S1)
  go_ret2
  exact ⟨rfl, hB⟩
theorem wrt_fact : wrt 3 5 = ⟨#[51, 97, 99]⟩ := by decide +kernel
theorem labFact_any (w : World) (hT : Tab w) :
    Calls Tryd.prog 21 #[] w fun e w' => e = .returned (.bool true) ∧ Below w.heap.size w w' := by
  have t := write_ok 3 5 (by decide) (by decide) w hT
  rw [wrt_fact] at t
  go_enter Tryd.func21, Tryd.ntmps21
  go_wp2_with (go_at_call 12; refine t.mono ?_; rintro e w1 ⟨rfl, hB⟩)
  go_ret
  exact ⟨rfl, hB⟩
end Go.Proofs.YtkdaaaloibdngaaDoor
