/- Plain facts that the texts on all packages lean on: cells that stay, rows of one's own, numbers in a list, errors. -/
import Derived.WalkKit
import Derived.LoopTactic
import Derived.OpenShut
import Derived.OwnWalk
import Derived.Deep.AppendLies
import Derived.Deep.DrawnRows
import Derived.Deep.Draws
import Derived.RangeFuncRecord
import Derived.Test.YtoecomgiggalkaaDoorChecked
namespace Go.Proofs.YtoecomgiggalkaaDoor
open Go.RowKit
set_option maxRecDepth 100000

theorem Hid.mkI {p : Prop} (h : p) : Hid p := h
theorem wraps62 (n : Int) (h₀ : 0 ≤ n) (h₁ : n < 2 ^ 62) : IntKind.i64.wrap n = n := by rw [IntKind.wrap_i64]; omega
theorem ret_bool {a b : Bool} (h : a = b) : Ending.returned (.bool a) = .returned (.bool b) := by rw [h]
theorem ret_nat {a b : Nat} (h : a = b) : Ending.returned (.int .i64 (a : Int)) = .returned (.int .i64 (b : Int)) := by rw [h]
/-- One number put in another one's place. -/
def upd (f : Nat → Nat) (k v : Nat) : Nat → Nat := fun x => if x = k then v else f x
theorem upd_same (f : Nat → Nat) (k v : Nat) : upd f k v k = v := by simp [upd]
theorem upd_other (f : Nat → Nat) {k v x : Nat} (h : x ≠ k) : upd f k v x = f x := by simp [upd, h]
theorem below_drawn {B : Nat} {a w : World} (h : Below B a w) (n : Nat) : Below B a (w.drewN n) := h.trans ⟨rfl, rfl, rfl, Nat.le_refl _, fun _ _ => rfl⟩

/-- Numbers lie in memory. -/
structure Nums (w : World) (b off m : Nat) (zs : List Int) : Prop where
  old : b < w.heap.size
  cell : ∀ i, i < m → w.cell? ⟨b, off + i, none⟩ = some (.int .i64 (zs[i]?.getD 0))
/-- A slice of m numbers; of none it may lie anywhere. -/
def AtNums (w : World) (a : Option Addr) (m : Nat) (zs : List Int) : Prop := m = 0 ∨ ∃ b off, a = some ⟨b, off, none⟩ ∧ Nums w b off m zs
theorem AtNums.below {w w' : World} {a : Option Addr} {m : Nat} {zs : List Int} (h : AtNums w a m zs) (hb : Below w.heap.size w w') : AtNums w' a m zs :=
  h.elim .inl fun ⟨b, off, e, l⟩ => .inr ⟨b, off, e, Nat.lt_of_lt_of_le l.old hb.size, fun i hi => (hb.cell (p := ⟨b, off + i, none⟩) l.old).trans (l.cell i hi)⟩
theorem old_of_cell {w : World} {b o : Nat} {v : Value} (h : w.cell? ⟨b, o, none⟩ = some v) : b < w.heap.size := by
  by_cases hs : b < w.heap.size
  · exact hs
  · have : w.heap[b]? = none := Array.getElem?_eq_none (by omega)
    simp [World.cell?, this] at h
theorem cellsInt : Tryd.prog.cellsOf 3 = 1 := by kernel_rfl
theorem spot_of_cell {w : World} {x : Addr} {v : Value} (h : w.cell? x = some v) : x.spot = none := by
  obtain ⟨b, o, s⟩ := x
  unfold World.cell? at h
  split at h
  · cases s with
    | none => rfl
    | some _ => simp at h
  · simp at h
theorem keep_cell {w w' : World} {a : Addr} {v : Value} (hB : Below w.heap.size w w') (h : w.cell? a = some v) : w'.cell? a = some v := (hB.cell (World.block_lt_of_cell? w a h)).trans h
theorem undrew {B : Nat} {w w' : World} (h : Below B w.drew w') : Below B w w' := ⟨h.os, h.tape, h.output, h.size, h.block⟩
theorem undrew2 {w w' : World} (h : Below w.drew.heap.size w.drew w') : Below w.heap.size w w' := undrew h
theorem off4 {a b x y : Nat} (hx : x < 4) (hy : y < 4) (h : a * 4 + x = b * 4 + y) : a = b ∧ x = y := by omega
theorem off3 {a b x y : Nat} (hx : x < 3) (hy : y < 3) (h : a * 3 + x = b * 3 + y) : a = b ∧ x = y := by omega
/-- Is a number one of so many? -/
def inB (i : Int) (n : Nat) : Bool := decide (0 ≤ i ∧ i < (n : Int))
theorem inB_yes {i : Int} {n : Nat} (h0 : 0 ≤ i) (h1 : i < n) : inB i n = true := decide_eq_true ⟨h0, h1⟩
theorem inB_no {i : Int} {n : Nat} (h : i < 0 ∨ (n : Int) ≤ i) : inB i n = false := decide_eq_false (by omega)
theorem in_or (i : Int) (n : Nat) : (0 ≤ i ∧ i < (n : Int)) ∨ i < 0 ∨ (0 ≤ i ∧ (n : Int) ≤ i) := by omega
/-- What lies in a new monitor's place. -/
structure Boxes (W : World) (B : Nat) (v v' : Value) : Prop where
  c0 : W.cell? ⟨B, 0, none⟩ = some v
  c1 : W.cell? ⟨B, 1, none⟩ = some v'
  r0 : W.frozen? ⟨B, 0, none⟩ = false
  r1 : W.frozen? ⟨B, 1, none⟩ = false
theorem Boxes.lt {W : World} {B : Nat} {v v' : Value} (h : Boxes W B v v') : B < W.heap.size := World.block_lt_of_cell? W _ h.c0
theorem Boxes.below {W W' : World} {B : Nat} {v v' : Value} (h : Boxes W B v v') (b : Below W.heap.size W W') : Boxes W' B v v' :=
  ⟨keep_cell b h.c0, keep_cell b h.c1, (b.frozen (p := ⟨B, 0, none⟩) h.lt).trans h.r0, (b.frozen (p := ⟨B, 1, none⟩) h.lt).trans h.r1⟩
theorem Boxes.alloc {W : World} {B : Nat} {v v' : Value} (h : Boxes W B v v') (o : Obj) : Boxes (W.alloc o) B v v' := h.below ((Below.refl _ W).alloc (Nat.le_refl _) o)
theorem Boxes.drew {W : World} {B : Nat} {v v' : Value} (h : Boxes W B v v') : Boxes W.drew B v v' := ⟨h.c0, h.c1, h.r0, h.r1⟩
theorem cell_far {W : World} {b b' o o' : Nat} {v : Value} (h : ¬ (b = b' ∧ o = o')) : (W.setCell ⟨b', o', none⟩ v).cell? ⟨b, o, none⟩ = W.cell? ⟨b, o, none⟩ :=
  World.cell?_setCell_other _ _ _ _ fun e => h (by cases e; exact ⟨rfl, rfl⟩)
theorem Boxes.grown {W W' : World} {B : Nat} {v v' : Value} {row : Option Nat} (h : Boxes W B v v') (hg : W.grownBy W' row) (hne : some B ≠ row) : Boxes W' B v v' :=
  ⟨(hg.cell_far ⟨B, 0, none⟩ h.lt hne).trans h.c0, (hg.cell_far ⟨B, 1, none⟩ h.lt hne).trans h.c1, (hg.frozen_far ⟨B, 0, none⟩ h.lt hne).trans h.r0, (hg.frozen_far ⟨B, 1, none⟩ h.lt hne).trans h.r1⟩
theorem Boxes.put0 {W : World} {B : Nat} {v v' : Value} (h : Boxes W B v v') (u : Value) : Boxes (W.setCell ⟨B, 0, none⟩ u) B u v' :=
  ⟨World.cell?_setCell_same' _ _ _ (by rw [h.c0]; rfl), (cell_far (by omega)).trans h.c1, (World.frozen?_setCell _ _ _ _).trans h.r0, (World.frozen?_setCell _ _ _ _).trans h.r1⟩
theorem Boxes.put1 {W : World} {B : Nat} {v v' : Value} (h : Boxes W B v v') (u : Value) : Boxes (W.setCell ⟨B, 1, none⟩ u) B v u :=
  ⟨(cell_far (by omega)).trans h.c0, World.cell?_setCell_same' _ _ _ (by rw [h.c1]; rfl), (World.frozen?_setCell _ _ _ _).trans h.r0, (World.frozen?_setCell _ _ _ _).trans h.r1⟩
theorem Boxes.new (W : World) (v v' : Value) (t : TypeId) : Boxes (W.alloc (.cells #[v, v'] t)) W.heap.size v v' := by
  have h1 := World.alloc_heap_new W (.cells #[v, v'] t)
  refine ⟨?_, ?_, ?_, ?_⟩
  · simp only [World.cell?]; rw [h1]; simp
  · simp only [World.cell?]; rw [h1]; simp
  · simp only [World.frozen?]; rw [h1]; simp
  · simp only [World.frozen?]; rw [h1]; simp
theorem row_apart {W : World} {base e size n B : Nat} {v : Value} {xs : List Value} (h : W.ownsRow base e size v n xs) (hB : B < base) : some B ≠ v.ownBlock := fun q => by
  have := (h.lt B q.symm).1
  omega
theorem news_two (wr : World) (o : Obj) (cs : Array Value) (t : TypeId) : ((wr.alloc o).alloc (.cells cs t)).drew.heap[wr.heap.size + 1]? = some (.cells cs t (0, 0)) := by
  have h := heap_alloc_new (wr.alloc o) (.cells cs t)
  rw [World.size_alloc] at h
  exact h
/-- Where a row of one's own lies. -/
theorem row_form {W : World} {base e size n : Nat} {v : Value} {xs : List Value} (h : W.ownsRow base e size v n xs) :
    ∃ (a : Option Addr) (g cap : Nat), v = .slice a n cap ∧ (0 < n → a = some ⟨g, 0, none⟩ ∧ base ≤ g ∧ (∀ j u, xs[j]? = some u → W.cell? ⟨g, j, none⟩ = some u) ∧ (∀ j u, xs[j]? = some u → W.frozen? ⟨g, j, none⟩ = false)) := by
  have hc := fun g q => h.cells (g := g) q
  obtain ⟨_, ⟨hv, h0⟩ | ⟨g, cap, cur, hv, hb, hh, hn, hm, hs, ht⟩⟩ := h
  · subst h0
    exact ⟨none, 0, 0, hv, fun q => absurd q (by omega)⟩
  · refine ⟨some ⟨g, 0, none⟩, g, cap, hv, fun _ => ⟨rfl, hb, fun j u hu => ?_, fun j u _ => ?_⟩⟩
    · have := hc g (by rw [hv]; rfl) j u hu
      rw [Go.WideShapes.add_plain, Nat.zero_add] at this
      exact this
    · simp [World.frozen?, hh]
/-- An ask. -/
abbrev ask4 (k u f t : Int) : Value := .agg #[.int .i64 k, .int .i64 u, .int .i64 f, .int .i64 t]
/-- What lies in an ask's place. -/
structure Box4 (w W : World) (k u f t : Int) : Prop where
  c0 : W.cell? ⟨w.heap.size, 0, none⟩ = some (.int .i64 k)
  c1 : W.cell? ⟨w.heap.size, 1, none⟩ = some (.int .i64 u)
  c2 : W.cell? ⟨w.heap.size, 2, none⟩ = some (.int .i64 f)
  c3 : W.cell? ⟨w.heap.size, 3, none⟩ = some (.int .i64 t)
  bel : Below w.heap.size w W
theorem box4_of {w W : World} {k u f t : Int} {ty : TypeId} (S : Below (w.alloc (.cells #[.int .i64 k, .int .i64 u, .int .i64 f, .int .i64 t] ty)).heap.size (w.alloc (.cells #[.int .i64 k, .int .i64 u, .int .i64 f, .int .i64 t] ty)) W) : Box4 w W k u f t := by
  have h1 := World.alloc_heap_new w (.cells #[.int .i64 k, .int .i64 u, .int .i64 f, .int .i64 t] ty)
  have hb : Below w.heap.size w (w.alloc (.cells #[.int .i64 k, .int .i64 u, .int .i64 f, .int .i64 t] ty)) := (Below.refl _ w).alloc (Nat.le_refl _) _
  have c := fun (o : Nat) => S.cell (p := ⟨w.heap.size, o, none⟩) (by simp)
  refine ⟨(c 0).trans ?_, (c 1).trans ?_, (c 2).trans ?_, (c 3).trans ?_, hb.trans (S.mono hb.size)⟩
  all_goals simp only [World.cell?]; rw [h1]; simp
/-- The error of a number. -/
def errV (c : Int) : Value := if c = 0 then .nilIface else .iface 49 (.int .i64 c)
theorem errV_zero : errV 0 = .nilIface := rfl
end Go.Proofs.YtoecomgiggalkaaDoor
