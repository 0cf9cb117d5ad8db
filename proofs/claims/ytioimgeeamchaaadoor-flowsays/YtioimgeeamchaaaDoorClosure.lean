/- What the closure of package rel returns. -/
import Derived.WalkKit
import Derived.LoopTactic
import Derived.Outline
import Derived.Laws.MakeOwn
import Derived.Test.YtioimgeeamchaaaDoorSpread
namespace Go.Proofs.YtioimgeeamchaaaDoor
open Go.RowKit Go.Shelf

theorem info3 : (Tryd.prog.info? 3).map (fun i => (i.zero, i.size, i.bytes)) = some (some (.int .i64 0), 1, 8) := by kernel_rfl
theorem make_any (w : World) (m : Nat) (hm : m ≤ 12) : (Instr.makeSlice 23 (.int .i64 m) (.int .i64 m)).run Tryd.prog w = .ok (.slice (some ⟨w.heap.size, 0, none⟩) m m) (w.alloc (.cells (madeCells #[.int .i64 0] m) 3)) := by
  obtain ⟨i0, hi, hz0, hz1, hz2⟩ := info_parts info3
  have := run_make (P := Tryd.prog) w 23 3 i0 (.int .i64 0) Tryd.underlying23 hi hz0 .i64 .i64 m m (by omega) (by omega) (by rw [hz2]; omega) (by omega)
  simpa [hz1, Value.cells] using this
theorem made_cell (w : World) (m j : Nat) (hj : j < m) : (w.alloc (.cells (madeCells #[.int .i64 0] m) 3)).cell? ⟨w.heap.size, j, none⟩ = some (.int .i64 0) ∧ (w.alloc (.cells (madeCells #[.int .i64 0] m) 3)).frozen? ⟨w.heap.size, j, none⟩ = false := by
  have h := World.alloc_heap_new w (.cells (madeCells #[.int .i64 0] m) 3)
  constructor
  · simp only [World.cell?]
    rw [h]
    simp [madeCells, hj, Nat.mod_one]
  · simp only [World.frozen?]
    rw [h]
    simp

/-- m cells of the call's own. -/
structure Own (w : World) (B m : Nat) (f : Nat → Nat) : Prop where
  lt : B < w.heap.size
  cell : ∀ j, j < m → w.cell? ⟨B, j, none⟩ = some (.int .i64 (f j : Nat))
  free : ∀ j, j < m → w.frozen? ⟨B, j, none⟩ = false

theorem Own.made (w : World) (m : Nat) : Own (w.alloc (.cells (madeCells #[.int .i64 0] m) 3)) w.heap.size m (fun _ => 0) :=
  ⟨by simp, fun j hj => (made_cell w m j hj).1, fun j hj => (made_cell w m j hj).2⟩
theorem Own.below {w w' : World} {B m : Nat} {f : Nat → Nat} (h : Own w B m f) (hb : Below w.heap.size w w') : Own w' B m f :=
  ⟨Nat.lt_of_lt_of_le h.lt hb.size, fun j hj => (hb.cell (p := ⟨B, j, none⟩) h.lt).trans (h.cell j hj), fun j hj => (hb.frozen (p := ⟨B, j, none⟩) h.lt).trans (h.free j hj)⟩
theorem Own.put {w : World} {B m k v : Nat} {f g : Nat → Nat} (h : Own w B m f) (hk : k < m) (hv : g k = v) (ho : ∀ j, j < m → j ≠ k → g j = f j) : Own (w.setCell ⟨B, k, none⟩ (.int .i64 (v : Int))) B m g := by
  refine ⟨by have := h.lt; simp [World.setCell]; exact this, fun j hj => ?_, fun j hj => (World.frozen?_setCell _ _ _ _).trans (h.free j hj)⟩
  by_cases e : j = k
  · subst e
    rw [World.cell?_setCell_same' _ _ _ (by simp [h.cell j hj]), hv]
  · rw [World.cell?_setCell_other _ _ _ _ (fun e' => e (by cases e'; rfl)), h.cell j hj, ho j hj e]
theorem Own.lies {w : World} {B m : Nat} {f : Nat → Nat} {rows : List Nat} (h : Own w B m f) (hf : ∀ j, j < m → rows.getD j 0 = f j) : Lies w B 0 m rows :=
  ⟨h.lt, fun j hj => by rw [Nat.zero_add, h.cell j hj, hf j hj]⟩

theorem make_none (w : World) : (Instr.makeSlice 23 (.int .i64 0) (.int .i64 0)).run Tryd.prog w = .ok (.slice (some ⟨w.heap.size, 0, none⟩) 0 0) (w.alloc (.cells #[] 3)) := by
  have e : madeCells #[.int .i64 0] 0 = #[] := by simp [madeCells]
  have h := make_any w 0 (by decide)
  rw [e] at h
  exact h

theorem closure_none (cap : Nat) (a : Option Addr) (w : World) :
    Calls Tryd.prog 39 #[.slice a 0 cap] w fun e w' => e = .returned (.slice (some ⟨w.heap.size, 0, none⟩) 0 0) ∧ w.heap.size < w'.heap.size ∧ Below w.heap.size w w' := by
  have hmk := make_none w
  have hBm : Below w.heap.size w (w.alloc (.cells #[] 3)) := (Below.refl _ w).alloc (Nat.le_refl _) _
  go_enter Tryd.func39, Tryd.ntmps39
  go_wp2
  go_loopw [10] (fun i wr => i = .int .i64 0 ∧ w.heap.size < wr.heap.size ∧ Below w.heap.size w wr) (fun _ _ => 0)
  case atStart => exact ⟨rfl, by simp, hBm⟩
  case round =>
    obtain ⟨rfl, ho, hB⟩ := hrel
    go_wp2
    go_ret
    exact ⟨rfl, ho, hB⟩

set_option maxHeartbeats 400000 in
theorem closure_any (m cap : Nat) (a : Option Addr) (rows : List Nat) (hr : Right m rows) (w : World) (hl : At w a m rows) (hT : Tab w) :
    Calls Tryd.prog 39 #[.slice a m cap] w fun e w' => e = .returned (.slice (some ⟨w.heap.size, 0, none⟩) m m) ∧ Own w' w.heap.size m (come m rows) ∧ Below w.heap.size w w' := by
  rcases hl with h0 | ⟨b, off, rfl, hl⟩
  · subst h0
    exact (closure_none cap a w).mono fun e w' ⟨he, hs, hB⟩ => ⟨he, ⟨hs, fun j hj => absurd hj (by omega), fun j hj => absurd hj (by omega)⟩, hB⟩
  · have hm := hr.1
    have hmk := make_any w m hm
    have hsz := hT.size
    have hmd := Own.made w m
    have hBm : Below w.heap.size w (w.alloc (.cells (madeCells #[.int .i64 0] m) 3)) := (Below.refl _ w).alloc (Nat.le_refl _) _
    go_enter Tryd.func39, Tryd.ntmps39
    go_wp2
    go_loopw [10] (fun i wr => ∃ k : Nat, k ≤ m ∧ i = .int .i64 k ∧ Own wr w.heap.size m (fun j => if j < k then come m rows j else 0) ∧ Below w.heap.size w wr) (fun i _ => m - (intOf i).toNat)
    case atStart => exact ⟨0, by omega, rfl, by simpa using hmd, hBm⟩
    case round =>
      obtain ⟨k, hk, rfl, ho, hB⟩ := hrel
      by_cases hlt : k < m
      · have hsp := spread_any m b off cap k hlt rows hr wr (hl.below hB) (hT.below hB hsz)
        go_wp2_with (go_at_call 55; refine hsp.mono ?_; rintro e w' ⟨rfl, hB'⟩; have ho' := ho.below hB'; have hck := ho'.cell k hlt; have hfk := ho'.free k hlt)
        go_roundw
        case rel =>
          refine ⟨k + 1, by omega, by go_num, ho'.put hlt (by simp) (fun j hj hne => ?_), (hB.trans (hB'.mono hB.size)).setCell (by simp) _⟩
          have e : (j < k + 1) ↔ (j < k) := by omega
          simp only [e]
        case measure => simp [intOf]; omega
      · have ho2 : Own wr w.heap.size m (come m rows) := ⟨ho.lt, fun j hj => by rw [ho.cell j hj, if_pos (by omega)], ho.free⟩
        clear ho
        go_wp2
        go_ret
        exact ⟨rfl, ho2, hB⟩
end Go.Proofs.YtioimgeeamchaaaDoor
