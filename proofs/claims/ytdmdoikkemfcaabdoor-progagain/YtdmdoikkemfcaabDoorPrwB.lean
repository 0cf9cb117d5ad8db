/- The program's writer: each of its functions by what it calls, way by way (made by a program: gen/prowrite.py). -/
import Derived.WalkKit
import Derived.LoopTactic
import Derived.OwnWalk
import Derived.Laws.Strings
import Derived.Laws.Strings2
import Derived.Laws.Concat
import Derived.Deep.RegionHeld3
import Derived.Test.YtdmdoikkemfcaabDoorPrwA
import Derived.Test.YtdmdoikkemfcaabDoorProK
import Derived.Test.YtdmdoikkemfcaabDoorProX
namespace Go.Proofs.YtdmdoikkemfcaabDoor
open Go.RowKit
set_option maxRecDepth 100000
set_option linter.unusedVariables false

/-- What the writer leans on: the program lies as it did, and what the library needs. -/
structure Ctx (B b off n : Nat) (S : Nat → Nod) (w : World) : Prop where
  nods : Nods w b off n S
  lt : b < B
  lib : LibT B w
theorem Ctx.on {B b off n : Nat} {S : Nat → Nod} {w w' : World} (h : Ctx B b off n S w) (k : Below B w w') : Ctx B b off n S w' := by
  have c := fun o => k.cell (p := ⟨b, o, none⟩) h.lt
  exact ⟨⟨Nat.lt_of_lt_of_le h.nods.old k.size, fun i hi => (c _).trans (h.nods.c0 i hi), fun i hi => (c _).trans (h.nods.c1 i hi), fun i hi => (c _).trans (h.nods.c2 i hi), fun i hi => (c _).trans (h.nods.c3 i hi), fun i hi => (c _).trans (h.nods.c4 i hi)⟩, h.lt, h.lib.on k⟩
/-- A call of the writer's. -/
def WkC (B X b off n : Nat) (S : Nat → Nod) (pv : Value) (F : Nat) (args : Array Value) (t t' : List Nat) : Prop :=
  ∀ w, WrA B X t pv w → Ctx B b off n S w → Calls Tryd.prog F args w fun E w' => (∃ v, E = .returned v) ∧ WrA B X t' pv w' ∧ Below B w w' ∧ FrW X w w'
/-- A node in a place of its own. -/
def BxN (Y : Nat) (x : Nod) (W : World) : Prop := W.heap[Y]? = some (.cells #[.int .i64 x.kd, .int .i64 x.num, .int .i64 x.pa, .int .i64 x.pb, .int .i64 x.pc] 45 (0, 0))
theorem BxN.fr {X Y : Nat} {x : Nod} {w w' : World} (h : BxN Y x w) (k : FrW X w w') (hne : Y ≠ X) : BxN Y x w' := k Y _ _ _ hne (by decide) h
theorem BxN.cells {Y : Nat} {kd num pa pb pc : Int} {w : World} (h : BxN Y ⟨kd, num, pa, pb, pc⟩ w) : w.cell? ⟨Y, 0, none⟩ = some (.int .i64 kd) ∧ w.cell? ⟨Y, 1, none⟩ = some (.int .i64 num) ∧ w.cell? ⟨Y, 2, none⟩ = some (.int .i64 pa) ∧ w.cell? ⟨Y, 3, none⟩ = some (.int .i64 pb) ∧ w.cell? ⟨Y, 4, none⟩ = some (.int .i64 pc) := by
  refine ⟨?_, ?_, ?_, ?_, ?_⟩ <;> (rw [Lib.cell_of_heap h]; rfl)
theorem WrA.hi {B X : Nat} {t : List Nat} {pv : Value} {W : World} (h : WrA B X t pv W) : X < W.heap.size := let ⟨_, _, _, b⟩ := h; b.hi
section
variable {B X b off n : Nat} {S : Nat → Nod} {pv : Value}
theorem byte_wk {t : List Nat} {c : Nat} (hc : c < 256) (hl : t.length ≤ 1000000) : WkC B X b off n S pv 39 #[wrP X, .int .u8 (c : Int)] t (t ++ [c]) := fun w hW _ =>
  (bbyte_any hc hl hW).mono fun E w' ⟨e, h1, h2, h3⟩ => ⟨⟨_, e⟩, h1, h2, h3⟩
theorem str_wk {t s : List Nat} (hs : ∀ c ∈ s, c < 256) (hl : t.length + s.length ≤ 1000000) : WkC B X b off n S pv 35 #[wrP X, .string (strB s)] t (t ++ s) := fun w hW _ =>
  (bstr_any hs hl hW).mono fun E w' ⟨⟨q, e⟩, h1, h2, h3⟩ => ⟨⟨_, e⟩, h1, h2, h3⟩
theorem letter_wk {t : List Nat} {k : Nat} (hk : k < 6) (hl : t.length ≤ 1000000) : WkC B X b off n S pv 37 #[wrP X, .int .i64 (k : Int)] t (t ++ [97 + k]) := by
  intro w hW hC
  have t0 := bbyte_any (c := 97 + k) (by omega) hl hW
  clear hC hW
  obtain rfl | rfl | rfl | rfl | rfl | rfl : k = 0 ∨ k = 1 ∨ k = 2 ∨ k = 3 ∨ k = 4 ∨ k = 5 := by omega
  all_goals
    go_enter Tryd.func37, Tryd.ntmps37
    go_wp2_with (go_at_call 39; refine t0.mono ?_; clear t0; rintro e w1 ⟨rfl, h1, h2, h3⟩)
    go_end0
    exact ⟨⟨_, rfl⟩, h1, h2, h3⟩
theorem pair_wk {t0 t1 t2 t3 : List Nat} {sg : ByteArray} {kd num pa pb pc : Int} (k0 : WkC B X b off n S pv 35 #[wrP X, .string sg] t0 t1) (k1 : WkC B X b off n S pv 20 #[wrP X, .int .i64 pa] t1 t2) (k2 : WkC B X b off n S pv 20 #[wrP X, .int .i64 pb] t2 t3) :
    WkC B X b off n S pv 38 #[wrP X, .string sg, .agg #[.int .i64 kd, .int .i64 num, .int .i64 pa, .int .i64 pb, .int .i64 pc]] t0 t3 := by
  intro w hW hC
  have hne : w.heap.size ≠ X := fun q => by have := hW.hi; omega
  have hA0 : Below w.heap.size w (w.alloc (.cells #[.int .i64 kd, .int .i64 num, .int .i64 pa, .int .i64 pb, .int .i64 pc] 45)) := (Below.refl _ w).alloc (Nat.le_refl _) _
  have hW0 := hW.below hA0
  have hX0 := hA0.mono hW.sz
  have hC0 := hC.on hX0
  have hF0 := FrW.ofBelow (X := X) hA0
  have hY0 : BxN w.heap.size ⟨kd, num, pa, pb, pc⟩ (w.alloc (.cells #[.int .i64 kd, .int .i64 num, .int .i64 pa, .int .i64 pb, .int .i64 pc] 45)) := World.alloc_heap_new w _
  clear hW hC
  go_enter Tryd.func38, Tryd.ntmps38
  go_wp2_with (first | (go_at_call 35; refine (k0 _ hW0 hC0).mono ?_; clear k0; rintro e0 w1 ⟨⟨v0, rfl⟩, hW1, hB0, hG0⟩; have hC1 := hC0.on hB0; have hX1 := hX0.trans hB0; have hF1 := hF0.trans hG0; have hY1 := hY0.fr hG0 hne; obtain ⟨y0, y1, y2, y3, y4⟩ := hY1.cells) | (go_at_call 20; refine (k1 _ hW1 hC1).mono ?_; clear k1; rintro e1 w2 ⟨⟨v1, rfl⟩, hW2, hB1, hG1⟩; have hC2 := hC1.on hB1; have hX2 := hX1.trans hB1; have hF2 := hF1.trans hG1; have hY2 := hY1.fr hG1 hne; obtain ⟨y0, y1, y2, y3, y4⟩ := hY2.cells) | (go_at_call 20; refine (k2 _ hW2 hC2).mono ?_; clear k2; rintro e2 w3 ⟨⟨v2, rfl⟩, hW3, hB2, hG2⟩; have hC3 := hC2.on hB2; have hX3 := hX2.trans hB2; have hF3 := hF2.trans hG2; have hY3 := hY2.fr hG2 hne; obtain ⟨y0, y1, y2, y3, y4⟩ := hY3.cells))
  go_end0
  exact ⟨⟨_, rfl⟩, hW3, hX3, hF3⟩
theorem braced_wk {t0 t1 t2 t3 : List Nat} {d : Int} (k0 : WkC B X b off n S pv 39 #[wrP X, .int .u8 123] t0 t1) (k1 : WkC B X b off n S pv 20 #[wrP X, .int .i64 d] t1 t2) (k2 : WkC B X b off n S pv 39 #[wrP X, .int .u8 125] t2 t3) :
    WkC B X b off n S pv 40 #[wrP X, .int .i64 d] t0 t3 := by
  intro w hW0 hC0
  have hX0 := Below.refl B w
  have hF0 := FrW.refl X w
  go_enter Tryd.func40, Tryd.ntmps40
  go_wp2_with (first | (go_at_call 39; refine (k0 _ hW0 hC0).mono ?_; clear k0; rintro e0 w1 ⟨⟨v0, rfl⟩, hW1, hB0, hG0⟩; have hC1 := hC0.on hB0; have hX1 := hX0.trans hB0; have hF1 := hF0.trans hG0) | (go_at_call 20; refine (k1 _ hW1 hC1).mono ?_; clear k1; rintro e1 w2 ⟨⟨v1, rfl⟩, hW2, hB1, hG1⟩; have hC2 := hC1.on hB1; have hX2 := hX1.trans hB1; have hF2 := hF1.trans hG1) | (go_at_call 39; refine (k2 _ hW2 hC2).mono ?_; clear k2; rintro e2 w3 ⟨⟨v2, rfl⟩, hW3, hB2, hG2⟩; have hC3 := hC2.on hB2; have hX3 := hX2.trans hB2; have hF3 := hF2.trans hG2))
  go_end0
  exact ⟨⟨_, rfl⟩, hW3, hX3, hF3⟩
theorem node1_wk {t0 t1 : List Nat} {i cp : Nat} {num pa pb pc : Int} (hi : i < n) (hn : n ≤ 80) (hS : S i = ⟨1, num, pa, pb, pc⟩) (hv : pv = .slice (some ⟨b, off, none⟩) n cp) (k0 : WkC B X b off n S pv 37 #[wrP X, .int .i64 num] t0 t1) :
    WkC B X b off n S pv 20 #[wrP X, .int .i64 (i : Int)] t0 t1 := by
  intro w hW hC
  obtain ⟨z0, z1, z2, z3, z4⟩ := five_cells hC.nods hi hS
  simp only at z0 z1 z2 z3 z4
  have x2 := hW.c2
  rw [hv] at x2
  have hiI : (i : Int) < (n : Int) := by omega
  have hnI : (n : Int) ≤ 80 := by omega
  have hne : w.heap.size ≠ X := fun q => by have := hW.hi; omega
  have hA0 : Below w.heap.size w (w.alloc (.cells #[.int .i64 1, .int .i64 num, .int .i64 pa, .int .i64 pb, .int .i64 pc] 45)) := (Below.refl _ w).alloc (Nat.le_refl _) _
  have hW0 := hW.below hA0
  have hX0 := hA0.mono hW.sz
  have hC0 := hC.on hX0
  have hF0 := FrW.ofBelow (X := X) hA0
  have hY0 : BxN w.heap.size ⟨1, num, pa, pb, pc⟩ (w.alloc (.cells #[.int .i64 1, .int .i64 num, .int .i64 pa, .int .i64 pb, .int .i64 pc] 45)) := World.alloc_heap_new w _
  obtain ⟨y0, y1, y2, y3, y4⟩ := hY0.cells
  clear hW hC hS hv
  go_enter Tryd.func20, Tryd.ntmps20
  go_wp2_with ((go_at_call 37; refine (k0 _ hW0 hC0).mono ?_; clear k0; rintro e0 w1 ⟨⟨v0, rfl⟩, hW1, hB0, hG0⟩; have hC1 := hC0.on hB0; have hX1 := hX0.trans hB0; have hF1 := hF0.trans hG0; have hY1 := hY0.fr hG0 hne; obtain ⟨y0, y1, y2, y3, y4⟩ := hY1.cells))
  go_end0
  exact ⟨⟨_, rfl⟩, hW1, hX1, hF1⟩
theorem node2_wk {t0 t1 : List Nat} {i cp : Nat} {num pa pb pc : Int} (hi : i < n) (hn : n ≤ 80) (hS : S i = ⟨2, num, pa, pb, pc⟩) (hv : pv = .slice (some ⟨b, off, none⟩) n cp) (k0 : WkC B X b off n S pv 38 #[wrP X, .string ⟨#[43]⟩, .agg #[.int .i64 2, .int .i64 num, .int .i64 pa, .int .i64 pb, .int .i64 pc]] t0 t1) :
    WkC B X b off n S pv 20 #[wrP X, .int .i64 (i : Int)] t0 t1 := by
  intro w hW hC
  obtain ⟨z0, z1, z2, z3, z4⟩ := five_cells hC.nods hi hS
  simp only at z0 z1 z2 z3 z4
  have x2 := hW.c2
  rw [hv] at x2
  have hiI : (i : Int) < (n : Int) := by omega
  have hnI : (n : Int) ≤ 80 := by omega
  have hne : w.heap.size ≠ X := fun q => by have := hW.hi; omega
  have hA0 : Below w.heap.size w (w.alloc (.cells #[.int .i64 2, .int .i64 num, .int .i64 pa, .int .i64 pb, .int .i64 pc] 45)) := (Below.refl _ w).alloc (Nat.le_refl _) _
  have hW0 := hW.below hA0
  have hX0 := hA0.mono hW.sz
  have hC0 := hC.on hX0
  have hF0 := FrW.ofBelow (X := X) hA0
  have hY0 : BxN w.heap.size ⟨2, num, pa, pb, pc⟩ (w.alloc (.cells #[.int .i64 2, .int .i64 num, .int .i64 pa, .int .i64 pb, .int .i64 pc] 45)) := World.alloc_heap_new w _
  obtain ⟨y0, y1, y2, y3, y4⟩ := hY0.cells
  clear hW hC hS hv
  go_enter Tryd.func20, Tryd.ntmps20
  go_wp2_with ((go_at_call 38; refine (k0 _ hW0 hC0).mono ?_; clear k0; rintro e0 w1 ⟨⟨v0, rfl⟩, hW1, hB0, hG0⟩; have hC1 := hC0.on hB0; have hX1 := hX0.trans hB0; have hF1 := hF0.trans hG0; have hY1 := hY0.fr hG0 hne; obtain ⟨y0, y1, y2, y3, y4⟩ := hY1.cells))
  go_end0
  exact ⟨⟨_, rfl⟩, hW1, hX1, hF1⟩
theorem node3_wk {t0 t1 : List Nat} {i cp : Nat} {num pa pb pc : Int} (hi : i < n) (hn : n ≤ 80) (hS : S i = ⟨3, num, pa, pb, pc⟩) (hv : pv = .slice (some ⟨b, off, none⟩) n cp) (k0 : WkC B X b off n S pv 38 #[wrP X, .string ⟨#[60]⟩, .agg #[.int .i64 3, .int .i64 num, .int .i64 pa, .int .i64 pb, .int .i64 pc]] t0 t1) :
    WkC B X b off n S pv 20 #[wrP X, .int .i64 (i : Int)] t0 t1 := by
  intro w hW hC
  obtain ⟨z0, z1, z2, z3, z4⟩ := five_cells hC.nods hi hS
  simp only at z0 z1 z2 z3 z4
  have x2 := hW.c2
  rw [hv] at x2
  have hiI : (i : Int) < (n : Int) := by omega
  have hnI : (n : Int) ≤ 80 := by omega
  have hne : w.heap.size ≠ X := fun q => by have := hW.hi; omega
  have hA0 : Below w.heap.size w (w.alloc (.cells #[.int .i64 3, .int .i64 num, .int .i64 pa, .int .i64 pb, .int .i64 pc] 45)) := (Below.refl _ w).alloc (Nat.le_refl _) _
  have hW0 := hW.below hA0
  have hX0 := hA0.mono hW.sz
  have hC0 := hC.on hX0
  have hF0 := FrW.ofBelow (X := X) hA0
  have hY0 : BxN w.heap.size ⟨3, num, pa, pb, pc⟩ (w.alloc (.cells #[.int .i64 3, .int .i64 num, .int .i64 pa, .int .i64 pb, .int .i64 pc] 45)) := World.alloc_heap_new w _
  obtain ⟨y0, y1, y2, y3, y4⟩ := hY0.cells
  clear hW hC hS hv
  go_enter Tryd.func20, Tryd.ntmps20
  go_wp2_with ((go_at_call 38; refine (k0 _ hW0 hC0).mono ?_; clear k0; rintro e0 w1 ⟨⟨v0, rfl⟩, hW1, hB0, hG0⟩; have hC1 := hC0.on hB0; have hX1 := hX0.trans hB0; have hF1 := hF0.trans hG0; have hY1 := hY0.fr hG0 hne; obtain ⟨y0, y1, y2, y3, y4⟩ := hY1.cells))
  go_end0
  exact ⟨⟨_, rfl⟩, hW1, hX1, hF1⟩
theorem node4_wk {t0 t1 : List Nat} {i cp : Nat} {num pa pb pc : Int} (hi : i < n) (hn : n ≤ 80) (hS : S i = ⟨4, num, pa, pb, pc⟩) (hv : pv = .slice (some ⟨b, off, none⟩) n cp) (k0 : WkC B X b off n S pv 38 #[wrP X, .string ⟨#[61]⟩, .agg #[.int .i64 4, .int .i64 num, .int .i64 pa, .int .i64 pb, .int .i64 pc]] t0 t1) :
    WkC B X b off n S pv 20 #[wrP X, .int .i64 (i : Int)] t0 t1 := by
  intro w hW hC
  obtain ⟨z0, z1, z2, z3, z4⟩ := five_cells hC.nods hi hS
  simp only at z0 z1 z2 z3 z4
  have x2 := hW.c2
  rw [hv] at x2
  have hiI : (i : Int) < (n : Int) := by omega
  have hnI : (n : Int) ≤ 80 := by omega
  have hne : w.heap.size ≠ X := fun q => by have := hW.hi; omega
  have hA0 : Below w.heap.size w (w.alloc (.cells #[.int .i64 4, .int .i64 num, .int .i64 pa, .int .i64 pb, .int .i64 pc] 45)) := (Below.refl _ w).alloc (Nat.le_refl _) _
  have hW0 := hW.below hA0
  have hX0 := hA0.mono hW.sz
  have hC0 := hC.on hX0
  have hF0 := FrW.ofBelow (X := X) hA0
  have hY0 : BxN w.heap.size ⟨4, num, pa, pb, pc⟩ (w.alloc (.cells #[.int .i64 4, .int .i64 num, .int .i64 pa, .int .i64 pb, .int .i64 pc] 45)) := World.alloc_heap_new w _
  obtain ⟨y0, y1, y2, y3, y4⟩ := hY0.cells
  clear hW hC hS hv
  go_enter Tryd.func20, Tryd.ntmps20
  go_wp2_with ((go_at_call 38; refine (k0 _ hW0 hC0).mono ?_; clear k0; rintro e0 w1 ⟨⟨v0, rfl⟩, hW1, hB0, hG0⟩; have hC1 := hC0.on hB0; have hX1 := hX0.trans hB0; have hF1 := hF0.trans hG0; have hY1 := hY0.fr hG0 hne; obtain ⟨y0, y1, y2, y3, y4⟩ := hY1.cells))
  go_end0
  exact ⟨⟨_, rfl⟩, hW1, hX1, hF1⟩
theorem node7_wk {t0 t1 : List Nat} {i cp : Nat} {num pa pb pc : Int} (hi : i < n) (hn : n ≤ 80) (hS : S i = ⟨7, num, pa, pb, pc⟩) (hv : pv = .slice (some ⟨b, off, none⟩) n cp) (k0 : WkC B X b off n S pv 38 #[wrP X, .string ⟨#[]⟩, .agg #[.int .i64 7, .int .i64 num, .int .i64 pa, .int .i64 pb, .int .i64 pc]] t0 t1) :
    WkC B X b off n S pv 20 #[wrP X, .int .i64 (i : Int)] t0 t1 := by
  intro w hW hC
  obtain ⟨z0, z1, z2, z3, z4⟩ := five_cells hC.nods hi hS
  simp only at z0 z1 z2 z3 z4
  have x2 := hW.c2
  rw [hv] at x2
  have hiI : (i : Int) < (n : Int) := by omega
  have hnI : (n : Int) ≤ 80 := by omega
  have hne : w.heap.size ≠ X := fun q => by have := hW.hi; omega
  have hA0 : Below w.heap.size w (w.alloc (.cells #[.int .i64 7, .int .i64 num, .int .i64 pa, .int .i64 pb, .int .i64 pc] 45)) := (Below.refl _ w).alloc (Nat.le_refl _) _
  have hW0 := hW.below hA0
  have hX0 := hA0.mono hW.sz
  have hC0 := hC.on hX0
  have hF0 := FrW.ofBelow (X := X) hA0
  have hY0 : BxN w.heap.size ⟨7, num, pa, pb, pc⟩ (w.alloc (.cells #[.int .i64 7, .int .i64 num, .int .i64 pa, .int .i64 pb, .int .i64 pc] 45)) := World.alloc_heap_new w _
  obtain ⟨y0, y1, y2, y3, y4⟩ := hY0.cells
  clear hW hC hS hv
  go_enter Tryd.func20, Tryd.ntmps20
  go_wp2_with ((go_at_call 38; refine (k0 _ hW0 hC0).mono ?_; clear k0; rintro e0 w1 ⟨⟨v0, rfl⟩, hW1, hB0, hG0⟩; have hC1 := hC0.on hB0; have hX1 := hX0.trans hB0; have hF1 := hF0.trans hG0; have hY1 := hY0.fr hG0 hne; obtain ⟨y0, y1, y2, y3, y4⟩ := hY1.cells))
  go_end0
  exact ⟨⟨_, rfl⟩, hW1, hX1, hF1⟩
theorem node5_wk {t0 : List Nat} {i cp : Nat} {num pa pb pc : Int} (hi : i < n) (hn : n ≤ 80) (hS : S i = ⟨5, num, pa, pb, pc⟩) (hv : pv = .slice (some ⟨b, off, none⟩) n cp)  :
    WkC B X b off n S pv 20 #[wrP X, .int .i64 (i : Int)] t0 t0 := by
  intro w hW hC
  obtain ⟨z0, z1, z2, z3, z4⟩ := five_cells hC.nods hi hS
  simp only at z0 z1 z2 z3 z4
  have x2 := hW.c2
  rw [hv] at x2
  have hiI : (i : Int) < (n : Int) := by omega
  have hnI : (n : Int) ≤ 80 := by omega
  have hne : w.heap.size ≠ X := fun q => by have := hW.hi; omega
  have hA0 : Below w.heap.size w (w.alloc (.cells #[.int .i64 5, .int .i64 num, .int .i64 pa, .int .i64 pb, .int .i64 pc] 45)) := (Below.refl _ w).alloc (Nat.le_refl _) _
  have hW0 := hW.below hA0
  have hX0 := hA0.mono hW.sz
  have hC0 := hC.on hX0
  have hF0 := FrW.ofBelow (X := X) hA0
  have hY0 : BxN w.heap.size ⟨5, num, pa, pb, pc⟩ (w.alloc (.cells #[.int .i64 5, .int .i64 num, .int .i64 pa, .int .i64 pb, .int .i64 pc] 45)) := World.alloc_heap_new w _
  obtain ⟨y0, y1, y2, y3, y4⟩ := hY0.cells
  clear hW hC hS hv
  go_enter Tryd.func20, Tryd.ntmps20
  go_wp2
  go_end0
  exact ⟨⟨_, rfl⟩, hW0, hX0, hF0⟩
theorem node6_wk {t0 t1 t2 t3 t4 : List Nat} {i cp : Nat} {num pa pb pc : Int} (hi : i < n) (hn : n ≤ 80) (hS : S i = ⟨6, num, pa, pb, pc⟩) (hv : pv = .slice (some ⟨b, off, none⟩) n cp) (k0 : WkC B X b off n S pv 37 #[wrP X, .int .i64 num] t0 t1) (k1 : WkC B X b off n S pv 39 #[wrP X, .int .u8 61] t1 t2) (k2 : WkC B X b off n S pv 20 #[wrP X, .int .i64 pa] t2 t3) (k3 : WkC B X b off n S pv 39 #[wrP X, .int .u8 59] t3 t4) :
    WkC B X b off n S pv 20 #[wrP X, .int .i64 (i : Int)] t0 t4 := by
  intro w hW hC
  obtain ⟨z0, z1, z2, z3, z4⟩ := five_cells hC.nods hi hS
  simp only at z0 z1 z2 z3 z4
  have x2 := hW.c2
  rw [hv] at x2
  have hiI : (i : Int) < (n : Int) := by omega
  have hnI : (n : Int) ≤ 80 := by omega
  have hne : w.heap.size ≠ X := fun q => by have := hW.hi; omega
  have hA0 : Below w.heap.size w (w.alloc (.cells #[.int .i64 6, .int .i64 num, .int .i64 pa, .int .i64 pb, .int .i64 pc] 45)) := (Below.refl _ w).alloc (Nat.le_refl _) _
  have hW0 := hW.below hA0
  have hX0 := hA0.mono hW.sz
  have hC0 := hC.on hX0
  have hF0 := FrW.ofBelow (X := X) hA0
  have hY0 : BxN w.heap.size ⟨6, num, pa, pb, pc⟩ (w.alloc (.cells #[.int .i64 6, .int .i64 num, .int .i64 pa, .int .i64 pb, .int .i64 pc] 45)) := World.alloc_heap_new w _
  obtain ⟨y0, y1, y2, y3, y4⟩ := hY0.cells
  clear hW hC hS hv
  go_enter Tryd.func20, Tryd.ntmps20
  go_wp2_with (first | (go_at_call 37; refine (k0 _ hW0 hC0).mono ?_; clear k0; rintro e0 w1 ⟨⟨v0, rfl⟩, hW1, hB0, hG0⟩; have hC1 := hC0.on hB0; have hX1 := hX0.trans hB0; have hF1 := hF0.trans hG0; have hY1 := hY0.fr hG0 hne; obtain ⟨y0, y1, y2, y3, y4⟩ := hY1.cells) | (go_at_call 39; refine (k1 _ hW1 hC1).mono ?_; clear k1; rintro e1 w2 ⟨⟨v1, rfl⟩, hW2, hB1, hG1⟩; have hC2 := hC1.on hB1; have hX2 := hX1.trans hB1; have hF2 := hF1.trans hG1; have hY2 := hY1.fr hG1 hne; obtain ⟨y0, y1, y2, y3, y4⟩ := hY2.cells) | (go_at_call 20; refine (k2 _ hW2 hC2).mono ?_; clear k2; rintro e2 w3 ⟨⟨v2, rfl⟩, hW3, hB2, hG2⟩; have hC3 := hC2.on hB2; have hX3 := hX2.trans hB2; have hF3 := hF2.trans hG2; have hY3 := hY2.fr hG2 hne; obtain ⟨y0, y1, y2, y3, y4⟩ := hY3.cells) | (go_at_call 39; refine (k3 _ hW3 hC3).mono ?_; clear k3; rintro e3 w4 ⟨⟨v3, rfl⟩, hW4, hB3, hG3⟩; have hC4 := hC3.on hB3; have hX4 := hX3.trans hB3; have hF4 := hF3.trans hG3; have hY4 := hY3.fr hG3 hne; obtain ⟨y0, y1, y2, y3, y4⟩ := hY4.cells))
  go_end0
  exact ⟨⟨_, rfl⟩, hW4, hX4, hF4⟩
theorem node8_wk {t0 t1 t2 t3 t4 : List Nat} {i cp : Nat} {num pa pb pc : Int} (hi : i < n) (hn : n ≤ 80) (hS : S i = ⟨8, num, pa, pb, pc⟩) (hv : pv = .slice (some ⟨b, off, none⟩) n cp) (k0 : WkC B X b off n S pv 39 #[wrP X, .int .u8 63] t0 t1) (k1 : WkC B X b off n S pv 20 #[wrP X, .int .i64 pa] t1 t2) (k2 : WkC B X b off n S pv 40 #[wrP X, .int .i64 pb] t2 t3) (k3 : WkC B X b off n S pv 40 #[wrP X, .int .i64 pc] t3 t4) :
    WkC B X b off n S pv 20 #[wrP X, .int .i64 (i : Int)] t0 t4 := by
  intro w hW hC
  obtain ⟨z0, z1, z2, z3, z4⟩ := five_cells hC.nods hi hS
  simp only at z0 z1 z2 z3 z4
  have x2 := hW.c2
  rw [hv] at x2
  have hiI : (i : Int) < (n : Int) := by omega
  have hnI : (n : Int) ≤ 80 := by omega
  have hne : w.heap.size ≠ X := fun q => by have := hW.hi; omega
  have hA0 : Below w.heap.size w (w.alloc (.cells #[.int .i64 8, .int .i64 num, .int .i64 pa, .int .i64 pb, .int .i64 pc] 45)) := (Below.refl _ w).alloc (Nat.le_refl _) _
  have hW0 := hW.below hA0
  have hX0 := hA0.mono hW.sz
  have hC0 := hC.on hX0
  have hF0 := FrW.ofBelow (X := X) hA0
  have hY0 : BxN w.heap.size ⟨8, num, pa, pb, pc⟩ (w.alloc (.cells #[.int .i64 8, .int .i64 num, .int .i64 pa, .int .i64 pb, .int .i64 pc] 45)) := World.alloc_heap_new w _
  obtain ⟨y0, y1, y2, y3, y4⟩ := hY0.cells
  clear hW hC hS hv
  go_enter Tryd.func20, Tryd.ntmps20
  go_wp2_with (first | (go_at_call 39; refine (k0 _ hW0 hC0).mono ?_; clear k0; rintro e0 w1 ⟨⟨v0, rfl⟩, hW1, hB0, hG0⟩; have hC1 := hC0.on hB0; have hX1 := hX0.trans hB0; have hF1 := hF0.trans hG0; have hY1 := hY0.fr hG0 hne; obtain ⟨y0, y1, y2, y3, y4⟩ := hY1.cells) | (go_at_call 20; refine (k1 _ hW1 hC1).mono ?_; clear k1; rintro e1 w2 ⟨⟨v1, rfl⟩, hW2, hB1, hG1⟩; have hC2 := hC1.on hB1; have hX2 := hX1.trans hB1; have hF2 := hF1.trans hG1; have hY2 := hY1.fr hG1 hne; obtain ⟨y0, y1, y2, y3, y4⟩ := hY2.cells) | (go_at_call 40; refine (k2 _ hW2 hC2).mono ?_; clear k2; rintro e2 w3 ⟨⟨v2, rfl⟩, hW3, hB2, hG2⟩; have hC3 := hC2.on hB2; have hX3 := hX2.trans hB2; have hF3 := hF2.trans hG2; have hY3 := hY2.fr hG2 hne; obtain ⟨y0, y1, y2, y3, y4⟩ := hY3.cells) | (go_at_call 40; refine (k3 _ hW3 hC3).mono ?_; clear k3; rintro e3 w4 ⟨⟨v3, rfl⟩, hW4, hB3, hG3⟩; have hC4 := hC3.on hB3; have hX4 := hX3.trans hB3; have hF4 := hF3.trans hG3; have hY4 := hY3.fr hG3 hne; obtain ⟨y0, y1, y2, y3, y4⟩ := hY4.cells))
  go_end0
  exact ⟨⟨_, rfl⟩, hW4, hX4, hF4⟩
theorem node9_wk {t0 t1 t2 t3 : List Nat} {i cp : Nat} {num pa pb pc : Int} (hi : i < n) (hn : n ≤ 80) (hS : S i = ⟨9, num, pa, pb, pc⟩) (hv : pv = .slice (some ⟨b, off, none⟩) n cp) (k0 : WkC B X b off n S pv 39 #[wrP X, .int .u8 64] t0 t1) (k1 : WkC B X b off n S pv 20 #[wrP X, .int .i64 pa] t1 t2) (k2 : WkC B X b off n S pv 40 #[wrP X, .int .i64 pb] t2 t3) :
    WkC B X b off n S pv 20 #[wrP X, .int .i64 (i : Int)] t0 t3 := by
  intro w hW hC
  obtain ⟨z0, z1, z2, z3, z4⟩ := five_cells hC.nods hi hS
  simp only at z0 z1 z2 z3 z4
  have x2 := hW.c2
  rw [hv] at x2
  have hiI : (i : Int) < (n : Int) := by omega
  have hnI : (n : Int) ≤ 80 := by omega
  have hne : w.heap.size ≠ X := fun q => by have := hW.hi; omega
  have hA0 : Below w.heap.size w (w.alloc (.cells #[.int .i64 9, .int .i64 num, .int .i64 pa, .int .i64 pb, .int .i64 pc] 45)) := (Below.refl _ w).alloc (Nat.le_refl _) _
  have hW0 := hW.below hA0
  have hX0 := hA0.mono hW.sz
  have hC0 := hC.on hX0
  have hF0 := FrW.ofBelow (X := X) hA0
  have hY0 : BxN w.heap.size ⟨9, num, pa, pb, pc⟩ (w.alloc (.cells #[.int .i64 9, .int .i64 num, .int .i64 pa, .int .i64 pb, .int .i64 pc] 45)) := World.alloc_heap_new w _
  obtain ⟨y0, y1, y2, y3, y4⟩ := hY0.cells
  clear hW hC hS hv
  go_enter Tryd.func20, Tryd.ntmps20
  go_wp2_with (first | (go_at_call 39; refine (k0 _ hW0 hC0).mono ?_; clear k0; rintro e0 w1 ⟨⟨v0, rfl⟩, hW1, hB0, hG0⟩; have hC1 := hC0.on hB0; have hX1 := hX0.trans hB0; have hF1 := hF0.trans hG0; have hY1 := hY0.fr hG0 hne; obtain ⟨y0, y1, y2, y3, y4⟩ := hY1.cells) | (go_at_call 20; refine (k1 _ hW1 hC1).mono ?_; clear k1; rintro e1 w2 ⟨⟨v1, rfl⟩, hW2, hB1, hG1⟩; have hC2 := hC1.on hB1; have hX2 := hX1.trans hB1; have hF2 := hF1.trans hG1; have hY2 := hY1.fr hG1 hne; obtain ⟨y0, y1, y2, y3, y4⟩ := hY2.cells) | (go_at_call 40; refine (k2 _ hW2 hC2).mono ?_; clear k2; rintro e2 w3 ⟨⟨v2, rfl⟩, hW3, hB2, hG2⟩; have hC3 := hC2.on hB2; have hX3 := hX2.trans hB2; have hF3 := hF2.trans hG2; have hY3 := hY2.fr hG2 hne; obtain ⟨y0, y1, y2, y3, y4⟩ := hY3.cells))
  go_end0
  exact ⟨⟨_, rfl⟩, hW3, hX3, hF3⟩
end
end Go.Proofs.YtdmdoikkemfcaabDoor
