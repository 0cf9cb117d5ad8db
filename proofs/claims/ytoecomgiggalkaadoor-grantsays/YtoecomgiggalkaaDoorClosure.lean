/- What the closure of package rel returns. -/
import Derived.WalkKit
import Derived.LoopTactic
import Derived.Outline
import Derived.Laws.MakeOwn
import Derived.Test.YtoecomgiggalkaaDoorSpread
namespace Go.Proofs.YtoecomgiggalkaaDoor
open Go.RowKit Go.Shelf

theorem info3 : (Tryd.prog.info? 3).map (fun i => (i.zero, i.size, i.bytes)) = some (some (.int .i64 0), 1, 8) := by kernel_rfl
theorem make_any (w : World) (m : Nat) (hm : m ≤ 12) : (Instr.makeSlice 31 (.int .i64 m) (.int .i64 m)).run Tryd.prog w = .ok (.slice (some ⟨w.heap.size, 0, none⟩) m m) (w.alloc (.cells (madeCells #[.int .i64 0] m) 3)) := by
  obtain ⟨i0, hi, hz0, hz1, hz2⟩ := info_parts info3
  have := run_make (P := Tryd.prog) w 31 3 i0 (.int .i64 0) Tryd.underlying31 hi hz0 .i64 .i64 m m (by omega) (by omega) (by rw [hz2]; omega) (by omega)
  simpa [hz1, Value.cells] using this
theorem made_cell (w : World) (m j : Nat) (hj : j < m) : (w.alloc (.cells (madeCells #[.int .i64 0] m) 3)).cell? ⟨w.heap.size, j, none⟩ = some (.int .i64 0) ∧ (w.alloc (.cells (madeCells #[.int .i64 0] m) 3)).frozen? ⟨w.heap.size, j, none⟩ = false := by
  have h := World.alloc_heap_new w (.cells (madeCells #[.int .i64 0] m) 3)
  constructor
  · simp only [World.cell?]
    rw [h]
    simp [madeCells, hj, Nat.mod_one]
  · simp only [World.frozen?]
    rw [h]
    simp

/-- m cells of the call's own. -/
structure Own (w : World) (B m : Nat) (f : Nat → Nat) : Prop where
  lt : B < w.heap.size
  cell : ∀ j, j < m → w.cell? ⟨B, j, none⟩ = some (.int .i64 (f j : Nat))
  free : ∀ j, j < m → w.frozen? ⟨B, j, none⟩ = false

theorem Own.made (w : World) (m : Nat) : Own (w.alloc (.cells (madeCells #[.int .i64 0] m) 3)) w.heap.size m (fun _ => 0) :=
  ⟨by simp, fun j hj => (made_cell w m j hj).1, fun j hj => (made_cell w m j hj).2⟩
theorem Own.below {w w' : World} {B m : Nat} {f : Nat → Nat} (h : Own w B m f) (hb : Below w.heap.size w w') : Own w' B m f :=
  ⟨Nat.lt_of_lt_of_le h.lt hb.size, fun j hj => (hb.cell (p := ⟨B, j, none⟩) h.lt).trans (h.cell j hj), fun j hj => (hb.frozen (p := ⟨B, j, none⟩) h.lt).trans (h.free j hj)⟩
theorem Own.put {w : World} {B m k v : Nat} {f g : Nat → Nat} (h : Own w B m f) (hk : k < m) (hv : g k = v) (ho : ∀ j, j < m → j ≠ k → g j = f j) : Own (w.setCell ⟨B, k, none⟩ (.int .i64 (v : Int))) B m g := by
  refine ⟨by have := h.lt; simp [World.setCell]; exact this, fun j hj => ?_, fun j hj => (World.frozen?_setCell _ _ _ _).trans (h.free j hj)⟩
  by_cases e : j = k
  · subst e
    rw [World.cell?_setCell_same' _ _ _ (by simp [h.cell j hj]), hv]
  · rw [World.cell?_setCell_other _ _ _ _ (fun e' => e (by cases e'; rfl)), h.cell j hj, ho j hj e]
theorem Own.lies {w : World} {B m : Nat} {f : Nat → Nat} {rows : List Nat} (h : Own w B m f) (hf : ∀ j, j < m → rows.getD j 0 = f j) : Lies w B 0 m rows :=
  ⟨h.lt, fun j hj => by rw [Nat.zero_add, h.cell j hj, hf j hj]⟩

theorem make_none (w : World) : (Instr.makeSlice 31 (.int .i64 0) (.int .i64 0)).run Tryd.prog w = .ok (.slice (some ⟨w.heap.size, 0, none⟩) 0 0) (w.alloc (.cells #[] 3)) := by
  have e : madeCells #[.int .i64 0] 0 = #[] := by simp [madeCells]
  have h := make_any w 0 (by decide)
  rw [e] at h
  exact h

end Go.Proofs.YtoecomgiggalkaaDoor
