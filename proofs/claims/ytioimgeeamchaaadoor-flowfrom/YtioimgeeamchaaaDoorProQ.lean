/- What is wrong with a program, as the document has it (Prog). -/
import Derived.WalkKit
import Derived.LoopTactic
import Derived.OwnWalk
import Derived.Laws.MakeOwn
import Derived.Deep.QuietTactic
import Derived.BigQuiet
import Derived.Test.YtioimgeeamchaaaDoorProP
import Derived.Test.YtioimgeeamchaaaDoorLst
namespace Go.Proofs.YtioimgeeamchaaaDoor
open Go.RowKit
set_option maxRecDepth 100000

theorem makeU_any (w : World) (m : Nat) (hm : m ≤ 80) : (Instr.makeSlice 23 (.int .i64 m) (.int .i64 m)).run Tryd.prog w = .ok (.slice (some ⟨w.heap.size, 0, none⟩) m m) (w.alloc (.cells (madeCells #[.int .i64 0] m) 3)) := by
  obtain ⟨i0, hi, hz0, hz1, hz2⟩ := info_parts info3i
  have := run_make (P := Tryd.prog) w 23 3 i0 (.int .i64 0) Tryd.underlying23 hi hz0 .i64 .i64 m m (by omega) (by omega) (by rw [hz2]; omega) (by omega)
  simpa [hz1, Value.cells] using this
/-- m cells of the call's own. -/
structure OwnU (w : World) (B m : Nat) (f : Nat → Nat) : Prop where
  lt : B < w.heap.size
  cell : ∀ j, j < m → w.cell? ⟨B, j, none⟩ = some (.int .i64 (f j : Nat))
  free : ∀ j, j < m → w.frozen? ⟨B, j, none⟩ = false
theorem OwnU.made (w : World) (m : Nat) : OwnU (w.alloc (.cells (madeCells #[.int .i64 0] m) 3)) w.heap.size m (fun _ => 0) := by
  have h := World.alloc_heap_new w (.cells (madeCells #[.int .i64 0] m) 3)
  refine ⟨by simp, fun j hj => ?_, fun j hj => ?_⟩
  · simp only [World.cell?]
    rw [h]
    simp [madeCells, hj, Nat.mod_one]
  · simp only [World.frozen?]
    rw [h]
    simp
theorem OwnU.below {w w' : World} {B m : Nat} {f : Nat → Nat} (h : OwnU w B m f) (hb : Below w.heap.size w w') : OwnU w' B m f :=
  ⟨Nat.lt_of_lt_of_le h.lt hb.size, fun j hj => (hb.cell (p := ⟨B, j, none⟩) h.lt).trans (h.cell j hj), fun j hj => (hb.frozen (p := ⟨B, j, none⟩) h.lt).trans (h.free j hj)⟩
theorem OwnU.put {w : World} {B m k : Nat} {f : Nat → Nat} (h : OwnU w B m f) (v : Nat) (hk : k < m) : OwnU (w.setCell ⟨B, k, none⟩ (.int .i64 (v : Int))) B m (upd f k v) := by
  refine ⟨by have := h.lt; simp [World.setCell]; exact this, fun j hj => ?_, fun j hj => (World.frozen?_setCell _ _ _ _).trans (h.free j hj)⟩
  by_cases e : j = k
  · subst e
    rw [World.cell?_setCell_same' _ _ _ (by simp [h.cell j hj]), upd_same]
  · rw [World.cell?_setCell_other _ _ _ _ (fun e' => e (by cases e'; rfl)), h.cell j hj, upd_other _ e]
/-- While a node's parts are looked at. -/
structure PrtSt (wr w : World) (n xb : Nat) (kd : Int) (a : Option Addr) (pl : List Int) (u : Nat → Nat) : Prop where
  own : OwnU wr w.heap.size n u
  bel : Below w.heap.size w wr
  bx : w.heap.size < xb
  cx : wr.cell? ⟨xb, 0, none⟩ = some (.int .i64 kd)
  cp : pl = [] ∨ ∃ b, a = some ⟨b, 0, none⟩ ∧ w.heap.size < b ∧ ∀ (j : Nat) (v : Int), pl[j]? = some v → wr.cell? ⟨b, j, none⟩ = some (.int .i64 v)
theorem PrtSt.drawn {wr w : World} {n xb : Nat} {kd : Int} {a : Option Addr} {pl : List Int} {u : Nat → Nat} (h : PrtSt wr w n xb kd a pl u) (k : Nat) : PrtSt (wr.drewN k) w n xb kd a pl u :=
  ⟨⟨h.own.lt, h.own.cell, h.own.free⟩, below_drawn h.bel k, h.bx, h.cx, h.cp⟩
theorem PrtSt.put {wr w : World} {n xb : Nat} {kd : Int} {a : Option Addr} {pl : List Int} {u : Nat → Nat} (h : PrtSt wr w n xb kd a pl u) {k : Nat} (v : Nat) (hk : k < n) : PrtSt (wr.setCell ⟨w.heap.size, k, none⟩ (.int .i64 (v : Int))) w n xb kd a pl (upd u k v) := by
  have hx := h.bx
  refine ⟨h.own.put v hk, h.bel.setCell (by simp) _, h.bx, (cell_far (by omega)).trans h.cx, h.cp.imp id fun ⟨b, e, hb, hc⟩ => ⟨b, e, hb, fun j q hq => (cell_far (by omega)).trans (hc j q hq)⟩⟩
theorem nodC_stuck {l : List Nod} {m : Nat} {c : Int} {u : Nat → Nat} (h : nodC l m = (c, u)) (hc : c ≠ 0) : ∀ n, m ≤ n → nodC l n = (c, u) := fun n => by
  induction n with
  | zero => intro hn; obtain rfl : m = 0 := by omega
            exact h
  | succ n ih =>
    intro hn
    by_cases e : m = n + 1
    · subst e; exact h
    · rw [nodC, ih (by omega), if_pos hc]
theorem proC_stuck {l : List Nod} {m : Nat} {c : Int} {u : Nat → Nat} (h : nodC l m = (c, u)) (hc : c ≠ 0) (hm : m ≤ l.length) (h0 : 0 < l.length) (h80 : l.length ≤ 80) : proC l = c := by
  unfold proC
  rw [if_neg (by omega), if_neg (by omega), nodC_stuck h hc l.length hm, if_pos hc]
theorem nodC_kin {l : List Nod} {i : Nat} {u : Nat → Nat} (h : nodC l i = (0, u)) (hk : kinB (nthD l i) = false) : nodC l (i + 1) = (1, u) := by
  rw [nodC, h, if_neg (by simp), if_pos hk]
theorem nodC_prt {l : List Nod} {i : Nat} {u : Nat → Nat} (h : nodC l i = (0, u)) (hk : kinB (nthD l i) = true) : nodC l (i + 1) = prtC l i (nthD l i).kd 0 (prtL (nthD l i)) u := by
  rw [nodC, h, if_neg (by simp), if_neg (by simp [hk])]
end Go.Proofs.YtioimgeeamchaaaDoor
