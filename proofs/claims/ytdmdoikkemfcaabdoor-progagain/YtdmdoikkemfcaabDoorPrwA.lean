/- The program's writer of texts: where it lies in memory; what the library's Builder does in it (copyCheck, WriteByte, WriteString, Len, String). -/
import Derived.WalkKit
import Derived.LoopTactic
import Derived.OwnWalk
import Derived.Laws.Strings
import Derived.Laws.Strings2
import Derived.Lib.Builder
import Derived.Lib.AppendStr
import Derived.Lib.UnsafeStr
import Derived.Laws.Externs
import Derived.Shelf.RegionOpenPlain
import Derived.Test.YtdmdoikkemfcaabDoorProJ
namespace Go.Proofs.YtdmdoikkemfcaabDoor
open Go.RowKit
set_option maxRecDepth 100000
set_option linter.unusedVariables false

/-- Bytes as cells. -/
def byR (t : List Nat) : List Value := t.map fun (c : Nat) => Value.int .u8 (c : Int)
theorem byR_len (t : List Nat) : (byR t).length = t.length := by simp [byR]
theorem byR_app (t s : List Nat) : byR (t ++ s) = byR t ++ byR s := by simp [byR]
theorem byR_of {t : List Nat} (h : ∀ c ∈ t, c < 256) : Lib.byteCells (t.map UInt8.ofNat) = byR t := by
  unfold Lib.byteCells byR
  rw [List.map_map]
  refine List.map_congr_left fun c hc => ?_
  have := h c hc
  have e : (UInt8.ofNat c).toNat = c := by simp; omega
  simp only [Function.comp, e]
theorem byR_str {t : List Nat} (h : ∀ c ∈ t, c < 256) : Lib.strCells (strB t) = byR t := byR_of h
/-- The writer: what was written, and the program; in a place of the call's own. -/
structure WrB (B X : Nat) (t : List Nat) (pv A v : Value) (W : World) : Prop where
  lo : B ≤ X
  blk : W.heap[X]? = some (.cells #[A, v, pv] 56 (0, 0))
  own : W.ownsRow B 5 1 v t.length (byR t)
  far : v.ownBlock ≠ some X
  sm : ∀ c ∈ t, c < 256
theorem WrB.hi {B X : Nat} {t : List Nat} {pv A v : Value} {W : World} (h : WrB B X t pv A v W) : X < W.heap.size := by
  rcases Nat.lt_or_ge X W.heap.size with q | q
  · exact q
  · have := h.blk; simp [Array.getElem?_eq_none q] at this
theorem WrB.sz {B X : Nat} {t : List Nat} {pv A v : Value} {W : World} (h : WrB B X t pv A v W) : B ≤ W.heap.size := Nat.le_trans h.lo (Nat.le_of_lt h.hi)
theorem WrB.below {B X : Nat} {t : List Nat} {pv A v : Value} {W W' : World} (h : WrB B X t pv A v W) (k : Below W.heap.size W W') : WrB B X t pv A v W' :=
  ⟨h.lo, (k.block X h.hi).trans h.blk, own_stays h.own k, h.far, h.sm⟩
theorem WrB.c0 {B X : Nat} {t : List Nat} {pv A v : Value} {W : World} (h : WrB B X t pv A v W) : W.cell? ⟨X, 0, none⟩ = some A := by rw [Lib.cell_of_heap h.blk]; rfl
theorem WrB.c1 {B X : Nat} {t : List Nat} {pv A v : Value} {W : World} (h : WrB B X t pv A v W) : W.cell? ⟨X, 1, none⟩ = some v := by rw [Lib.cell_of_heap h.blk]; rfl
theorem WrB.c2 {B X : Nat} {t : List Nat} {pv A v : Value} {W : World} (h : WrB B X t pv A v W) : W.cell? ⟨X, 2, none⟩ = some pv := by rw [Lib.cell_of_heap h.blk]; rfl
abbrev wrP (X : Nat) : Value := .pointer (some ⟨X, 0, none⟩)
/-- The writer, fresh or used. -/
def WrA (B X : Nat) (t : List Nat) (pv : Value) (W : World) : Prop := ∃ A v, (A = .pointer none ∨ A = wrP X) ∧ WrB B X t pv A v W
theorem WrA.below {B X : Nat} {t : List Nat} {pv : Value} {W W' : World} (h : WrA B X t pv W) (k : Below W.heap.size W W') : WrA B X t pv W' :=
  let ⟨A, v, a, b⟩ := h; ⟨A, v, a, b.below k⟩
theorem WrA.sz {B X : Nat} {t : List Nat} {pv : Value} {W : World} (h : WrA B X t pv W) : B ≤ W.heap.size := let ⟨_, _, _, b⟩ := h; b.sz
theorem WrA.c2 {B X : Nat} {t : List Nat} {pv : Value} {W : World} (h : WrA B X t pv W) : W.cell? ⟨X, 2, none⟩ = some pv := let ⟨_, _, _, b⟩ := h; b.c2
theorem WrB.used {B X : Nat} {t : List Nat} {pv A v : Value} {W : World} (h : WrB B X t pv A v W) (q : Value) : WrB B X t pv q v (W.setCell ⟨X, 0, none⟩ q) :=
  ⟨h.lo, by simp [World.setCell, Array.getElem?_modify, h.blk], own_farQ h.own h.far 0 q, h.far, h.sm⟩
theorem WrB.put {B X : Nat} {t' : List Nat} {pv A v v' : Value} {W : World} (hlo : B ≤ X) (hb : W.heap[X]? = some (.cells #[A, v, pv] 56 (0, 0))) (ho : W.ownsRow B 5 1 v' t'.length (byR t')) (hs : ∀ c ∈ t', c < 256) : WrB B X t' pv A v' (W.setCell ⟨X, 1, none⟩ v') := by
  have hne := Lib.ownBlock_ne ho hb (by decide)
  exact ⟨hlo, by simp [World.setCell, Array.getElem?_modify, hb], own_farQ ho hne 1 v', hne, hs⟩

/-- Whatever is no row of bytes stays, the writer aside. -/
def FrW (X : Nat) (w w' : World) : Prop := ∀ (k : Nat) (cs : Array Value) (T : TypeId) (fr : Nat × Nat), k ≠ X → T ≠ 5 → w.heap[k]? = some (.cells cs T fr) → w'.heap[k]? = some (.cells cs T fr)
theorem FrW.refl (X : Nat) (w : World) : FrW X w w := fun _ _ _ _ _ _ h => h
theorem FrW.trans {X : Nat} {a b c : World} (h : FrW X a b) (k : FrW X b c) : FrW X a c := fun i cs T fr h1 h2 h3 => k i cs T fr h1 h2 (h i cs T fr h1 h2 h3)
theorem FrW.ofBelow {X : Nat} {w w' : World} (h : Below w.heap.size w w') : FrW X w w' := fun k cs T fr _ _ h3 => by
  have hk : k < w.heap.size := by
    rcases Nat.lt_or_ge k w.heap.size with q | q
    · exact q
    · simp [Array.getElem?_eq_none q] at h3
  exact (h.block k hk).trans h3
theorem FrW.set {X : Nat} {w w' : World} (h : FrW X w w') (o : Nat) (u : Value) : FrW X w (w'.setCell ⟨X, o, none⟩ u) := fun k cs T fr h1 h2 h3 => by
  rw [Below.heap_setCell _ _ _ k h1]; exact h k cs T fr h1 h2 h3
theorem FrW.grown {X B n : Nat} {w w' w2 : World} {v : Value} {xs : List Value} (h : FrW X w w') (ho : w'.ownsRow B 5 1 v n xs) (hg : w'.grownBy w2 v.ownBlock) : FrW X w w2 := fun k cs T fr h1 h2 h3 => by
  have h4 := h k cs T fr h1 h2 h3
  have hk : k < w'.heap.size := by
    rcases Nat.lt_or_ge k w'.heap.size with q | q
    · exact q
    · simp [Array.getElem?_eq_none q] at h4
  exact (hg.block k hk fun e => Lib.ownBlock_ne ho h4 h2 e.symm).trans h4
theorem sizeBld : (Tryd.prog.info? 54).map (·.size) = some 2 := by kernel_rfl
theorem liesBld : liesAt Tryd.prog Tryd.prog.depth 56 (3 / Tryd.prog.cellsOf 56) 0 54 1 = true := by kernel_rfl
theorem infoByt : (Tryd.prog.info? 5).map (fun i => (i.zero, i.size, i.bytes)) = some (some (.int .u8 0), 1, 1) := by kernel_rfl
theorem cellsByt : Tryd.prog.cellsOf 5 = 1 := by kernel_rfl
set_option maxHeartbeats 1000000 in
theorem bcheck_any {B X : Nat} {t : List Nat} {pv : Value} {w : World} (h : WrA B X t pv w) :
    Calls Tryd.prog 52 #[wrP X] w fun e w' => e = .returned (.tuple #[]) ∧ (∃ v, WrB B X t pv (wrP X) v w') ∧ Below B w w' ∧ FrW X w w' := by
  obtain ⟨A, v, hA, h⟩ := h
  obtain ⟨j, hj, hjs⟩ := Option.map_eq_some_iff.1 sizeBld
  have h0 := h.c0
  rcases hA with rfl | rfl
  · have hsh : w.shape? X = some (56, 3) := by simp [World.shape?, h.blk]
    have hfz : w.frozen? ⟨X, 0, none⟩ = false := Lib.frozen_of_heap h.blk 0
    have hE := h.used (wrP X)
    have hE2 := (Below.refl B w).setCell (p := ⟨X, 0, none⟩) h.lo (wrP X)
    have hE3 := (FrW.refl X w).set 0 (wrP X)
    clear h
    go_enter Tryd.func52, Tryd.ntmps52
    go_wp2
    rw [Lib.run_to_unsafe w ⟨X, 0, none⟩ Tryd.underlying51 Tryd.underlying88 hj (by rw [hjs]; decide) hsh (by show 0 < 3; omega)]
    simp only [Result.andThen]
    rw [Oper.upon_value]
    go_wp2
    rw [run_callFunc_extern Tryd.func65 (by kernel_rfl) (by kernel_rfl) (by kernel_rfl) (e := Extern.AbiNoEscape.same) (by kernel_rfl)]
    rw [Lib.run_noEscape]
    simp only [Result.andThen]
    rw [Oper.upon_value]
    go_wp2
    rw [Lib.run_from_unsafe w ⟨X, 0, none⟩ Tryd.underlying88 Tryd.underlying51 hj hsh liesBld]
    simp only [Result.andThen]
    rw [Oper.upon_value]
    go_wp2
    go_end0
    exact ⟨rfl, ⟨_, hE⟩, hE2, hE3⟩
  · go_enter Tryd.func52, Tryd.ntmps52
    go_wp2
    rw [Lib.run_neq_ptr_same w _ Tryd.underlying51 hj]
    go_wp2
    go_end0
    exact ⟨rfl, ⟨_, h⟩, Below.refl B w, FrW.refl X w⟩
set_option maxHeartbeats 2000000 in
theorem bbyte_any {B X : Nat} {t : List Nat} {pv : Value} {c : Nat} (hc : c < 256) (hl : t.length ≤ 1000000) {w : World} (h : WrA B X t pv w) :
    Calls Tryd.prog 39 #[wrP X, .int .u8 (c : Int)] w fun e w' => e = .returned .nilIface ∧ WrA B X (t ++ [c]) pv w' ∧ Below B w w' ∧ FrW X w w' := by
  obtain ⟨i0, hi, hz0, hz1, hz2⟩ := info_parts infoByt
  have tC := bcheck_any h
  have hsz := h.sz
  clear h
  go_enter Tryd.func39, Tryd.ntmps39
  go_wp2_with (go_at_call 52; (with_reducible refine tC.mono ?_))
  rintro e w1 ⟨rfl, ⟨v, h1⟩, hb1, hf1⟩
  have c1 := h1.c1
  have hown := h1.own
  have hsz1 := h1.sz
  have hlt := h1.hi
  go_wp2_with (at_builtin; refine wpList_append_own _ rfl _ _ 52 rfl B 5 i0 (.int .u8 0) 1 1 Tryd.underlying52 hi hz0 hz1 hz2 rfl (by decide) _ _ _ rfl (hown.alloc _) ⟨w1.heap.size, 0, none⟩ 1 1 [.int .u8 (c : Int)] rfl rfl ?c1 ?c2 ?c3 ?c4 ?c5 ?_)
  case c1 =>
    intro j u hj
    match j, hj with
    | 0, hj => simp at hj; subst hj; simp [Addr.add]
  case c2 => intro u hu; simp at hu; subst hu; rfl
  case c3 => unfold maxLen; omega
  case c4 => omega
  case c5 => simp; omega
  intro v' w2 hown' hgrow _
  have hb2 : w2.heap[X]? = some (.cells #[wrP X, v, pv] 56 (0, 0)) := by
    rw [hgrow.block X (by simp; omega) (fun e => h1.far e.symm), Lib.alloc_old w1 _ X hlt]
    exact h1.blk
  have d1 : w2.cell? ⟨X, 1, none⟩ = some v := by rw [Lib.cell_of_heap hb2]; rfl
  have f1 : w2.frozen? ⟨X, 1, none⟩ = false := Lib.frozen_of_heap hb2 1
  obtain ⟨g, cap, rfl⟩ : ∃ g cap, v' = .slice (some ⟨g, 0, none⟩) (t.length + 1) cap := by
    rcases hown'.2 with ⟨_, h0⟩ | ⟨g, cap, cur, hv, _⟩
    · omega
    · exact ⟨g, cap, hv⟩
  have hE : WrB B X (t ++ [c]) pv (wrP X) (.slice (some ⟨g, 0, none⟩) (t.length + 1) cap) (w2.setCell ⟨X, 1, none⟩ (.slice (some ⟨g, 0, none⟩) (t.length + 1) cap)) :=
    WrB.put h1.lo hb2 (by rw [List.length_append, byR_app]; exact hown') (fun d hd => by
      rcases List.mem_append.1 hd with hd | hd
      · exact h1.sm d hd
      · simp at hd; omega)
  have hE2 : Below B w (w2.setCell ⟨X, 1, none⟩ (.slice (some ⟨g, 0, none⟩) (t.length + 1) cap)) := ((hb1.alloc hsz1 _).grown hgrow (by simp; omega) (fun k hk => (hown.lt k hk).1)).setCell (p := ⟨X, 1, none⟩) h1.lo _
  have hE3 : FrW X w (w2.setCell ⟨X, 1, none⟩ (.slice (some ⟨g, 0, none⟩) (t.length + 1) cap)) := ((hf1.trans (FrW.ofBelow ((Below.refl _ w1).alloc (Nat.le_refl _) _))).grown (hown.alloc _) hgrow).set 1 _
  clear hown hown' hgrow hb2 h1
  go_wp2
  go_ret
  exact ⟨rfl, ⟨_, _, .inr rfl, hE⟩, hE2, hE3⟩
set_option maxHeartbeats 2000000 in
theorem bstr_any {B X : Nat} {t s : List Nat} {pv : Value} (hs : ∀ c ∈ s, c < 256) (hl : t.length + s.length ≤ 1000000) {w : World} (h : WrA B X t pv w) :
    Calls Tryd.prog 35 #[wrP X, .string (strB s)] w fun e w' => (∃ n : Int, e = .returned (.tuple #[.int .i64 n, .nilIface])) ∧ WrA B X (t ++ s) pv w' ∧ Below B w w' ∧ FrW X w w' := by
  obtain ⟨i0, hi, hz0, hz1, hz2⟩ := info_parts infoByt
  have tC := bcheck_any h
  have hsz := h.sz
  have hys : (strB s).size = s.length := strB_size s
  have hyc := byR_str hs
  obtain ⟨y, hy⟩ : ∃ y, strB s = y := ⟨_, rfl⟩
  rw [hy] at hys hyc ⊢
  have HS := Hid.mkI hys
  clear h hy
  go_enter Tryd.func35, Tryd.ntmps35
  go_wp2_with (go_at_call 52; (with_reducible refine tC.mono ?_))
  rintro e w1 ⟨rfl, ⟨v, h1⟩, hb1, hf1⟩
  have c1 := h1.c1
  have hown := h1.own
  have hsz1 := h1.sz
  have hlt := h1.hi
  go_wp2_with (at_builtin; refine Lib.wpList_append_own_string _ rfl _ _ 52 9 rfl B 5 i0 Tryd.underlying52 Tryd.underlying9 hi hz0 hz1 hz2 _ _ _ rfl hown y rfl ?c3 ?c4 ?c5 ?_)
  case c3 => unfold maxLen; omega
  case c4 => omega
  case c5 => omega
  intro v' w2 hown' hgrow _
  have hb2 : w2.heap[X]? = some (.cells #[wrP X, v, pv] 56 (0, 0)) := by
    rw [hgrow.block X hlt (fun e => h1.far e.symm)]
    exact h1.blk
  have d1 : w2.cell? ⟨X, 1, none⟩ = some v := by rw [Lib.cell_of_heap hb2]; rfl
  have f1 : w2.frozen? ⟨X, 1, none⟩ = false := Lib.frozen_of_heap hb2 1
  obtain ⟨ao, n', cap, rfl⟩ : ∃ ao n' cap, v' = .slice ao n' cap := by
    rcases hown'.2 with ⟨hv, _⟩ | ⟨g, cap, cur, hv, _⟩
    · exact ⟨_, _, _, hv⟩
    · exact ⟨_, _, _, hv⟩
  have hE : WrB B X (t ++ s) pv (wrP X) (.slice ao n' cap) (w2.setCell ⟨X, 1, none⟩ (.slice ao n' cap)) :=
    WrB.put h1.lo hb2 (by rw [List.length_append, byR_app]; exact hown') (fun d hd => by
      rcases List.mem_append.1 hd with hd | hd
      · exact h1.sm d hd
      · exact hs d hd)
  have hE2 : Below B w (w2.setCell ⟨X, 1, none⟩ (.slice ao n' cap)) := (hb1.grown hgrow (by omega) (fun k hk => (hown.lt k hk).1)).setCell (p := ⟨X, 1, none⟩) h1.lo _
  have hE3 : FrW X w (w2.setCell ⟨X, 1, none⟩ (.slice ao n' cap)) := (hf1.grown hown hgrow).set 1 _
  clear hown hown' hgrow hb2 h1
  go_wp2
  go_ret2
  exact ⟨⟨_, rfl⟩, ⟨_, _, .inr rfl, hE⟩, hE2, hE3⟩
theorem blen_any {B X : Nat} {t : List Nat} {pv : Value} {w : World} (h : WrA B X t pv w) :
    Calls Tryd.prog 21 #[wrP X] w fun e w' => e = .returned (.int .i64 (t.length : Int)) ∧ w' = w := by
  obtain ⟨A, v, -, h⟩ := h
  have c1 := h.c1
  obtain ⟨ao, cap, rfl⟩ : ∃ ao cap, v = .slice ao t.length cap := by
    rcases h.own.2 with ⟨hv, h0⟩ | ⟨g, cap, cur, hv, _⟩
    · exact ⟨none, 0, by rw [hv, h0]⟩
    · exact ⟨_, _, hv⟩
  clear h
  go_enter Tryd.func21, Tryd.ntmps21
  go_wp2
  go_ret
  exact ⟨rfl, rfl⟩
set_option maxHeartbeats 2000000 in
theorem bget_some {B X : Nat} {t : List Nat} {pv : Value} (h0 : t ≠ []) {w : World} (h : WrA B X t pv w) :
    Calls Tryd.prog 22 #[wrP X] w fun e w' => e = .returned (.string (strB t)) ∧ Below B w w' := by
  obtain ⟨A, v, -, h⟩ := h
  have hl0 : t.length ≠ 0 := by simpa using h0
  obtain ⟨g, cap, cur, rfl, hbg, hg, hnc, hcm, hcs, htake⟩ : ∃ g cap cur, v = .slice (some ⟨g, 0, none⟩) t.length cap ∧ B ≤ g ∧ w.heap[g]? = some (.cells cur 5 (0, 0)) ∧ t.length ≤ cap ∧ cap ≤ maxLen ∧ cur.size = cap * 1 ∧ cur.toList.take (t.length * 1) = byR t := by
    rcases h.own.2 with ⟨_, hz⟩ | ⟨g, cap, cur, hv, r⟩
    · exact absurd hz hl0
    · exact ⟨g, cap, cur, hv, r⟩
  have c1 : w.drew.cell? ⟨X, 1, none⟩ = some (.slice (some ⟨g, 0, none⟩) t.length cap) := h.c1
  have hSD : (Builtin.unsafeSliceData_ #[52] 76 #[.slice (some ⟨g, 0, none⟩) t.length cap]).run Tryd.prog w.drew = .ok (.pointer (some ⟨g, 0, none⟩)) w.drew :=
    Lib.run_unsafeSliceData_row _ _ _ _ _ _ (by omega)
  have hUS : (Builtin.unsafeString_ #[76, 3] 9 #[.pointer (some ⟨g, 0, none⟩), .int .i64 (t.length : Int)]).run Tryd.prog w.drew = .ok (.string (strB t)) (w.drew.freeze ⟨g, 0, none⟩ t.length) := by
    have := Lib.run_unsafeString_row (P := Tryd.prog) (w := w.drew) 76 3 9 5 Tryd.underlying76 cellsByt g cur.size (by have hg' : w.drew.heap[g]? = some (.cells cur 5 (0, 0)) := hg; simp [World.shape?, hg']) (t.map UInt8.ofNat) (by simpa using h0) (by rw [List.length_map]; omega) (by rw [List.length_map]; unfold maxLen at hcm; omega) (by
      intro j x hx
      have hx2 : (byR t)[j]? = some (.int .u8 x.toNat) := by
        rw [← byR_of h.sm]; simp only [Lib.byteCells, List.getElem?_map, hx, Option.map_some]
      exact h.own.cells (g := g) rfl j _ hx2)
    rw [List.length_map] at this
    exact this
  obtain ⟨y, hy⟩ : ∃ y, strB t = y := ⟨_, rfl⟩
  rw [hy] at hUS ⊢
  have mixed : Tryd.prog.follows .mixedOrders = true := by kernel_rfl
  clear h hy htake hg
  go_enter Tryd.func22, Tryd.ntmps22
  go_wp2
  go_region_o
  all_goals (go_wp2; go_ret; exact ⟨rfl, Lib.below_freeze (Below.drew (Below.refl B w)) (p := ⟨g, 0, none⟩) hbg _⟩)
end Go.Proofs.YtdmdoikkemfcaabDoor
