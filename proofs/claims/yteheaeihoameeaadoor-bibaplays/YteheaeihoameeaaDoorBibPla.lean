/- The walk of the law BibaPlays. -/
import Derived.WalkKit
import Derived.LoopTactic
import Derived.Deep.LoopGhost
import Derived.Deep.Cut
import Derived.Deep.CutRange
import Derived.Deep.QuietTactic
import Derived.BigQuiet
import Derived.Deep.RegionHeld3
import Derived.Deep.DrawnRows
import Derived.Test.YteheaeihoameeaaDoorBibPur
import Derived.Test.YteheaeihoameeaaDoorBibWr
namespace Go.Proofs.YteheaeihoameeaaDoor
open Go.RowKit
attribute [local go_sem ↓] Go.wp_at_zero Go.wp_at_succ
set_option maxRecDepth 100000

theorem error_errV (c : Int) (w : World) (hE : ErrT w) : Calls Tryd.prog 9 #[errV c, .int .i64 c] w fun e w' => e = .returned (.bool true) ∧ Below w.heap.size w w' := by
  by_cases h : c = 0
  · subst h
    exact (error_nil 0 w).mono fun e w' ⟨he, hw⟩ => ⟨by rw [he]; rfl, hw ▸ Below.refl _ _⟩
  · rw [errV, if_neg h]
    exact (error_err c c w hE).mono fun e w' ⟨he, hb⟩ => ⟨by rw [he]; simp, hb⟩
/-- Four values in a place of one's own. -/
structure Quad (X : Nat) (W : World) (v0 v1 v2 v3 : Value) : Prop where
  b0 : W.cell? ⟨X, 0, none⟩ = some v0
  b1 : W.cell? ⟨X, 1, none⟩ = some v1
  b2 : W.cell? ⟨X, 2, none⟩ = some v2
  b3 : W.cell? ⟨X, 3, none⟩ = some v3
  g0 : W.frozen? ⟨X, 0, none⟩ = false
  g1 : W.frozen? ⟨X, 1, none⟩ = false
  g2 : W.frozen? ⟨X, 2, none⟩ = false
  g3 : W.frozen? ⟨X, 3, none⟩ = false
section
variable {X Y n0 n1 : Nat} {W W' : World} {v0 v1 v2 v3 u0 u1 u2 u3 : Value}
theorem Quad.lt (h : Quad X W v0 v1 v2 v3) : X < W.heap.size := old_of_cell h.b0
theorem Quad.new (W : World) (v0 v1 v2 v3 : Value) (t : TypeId) : Quad W.heap.size (W.alloc (.cells #[v0, v1, v2, v3] t)) v0 v1 v2 v3 := by
  have h1 := World.alloc_heap_new W (.cells #[v0, v1, v2, v3] t)
  refine ⟨?_, ?_, ?_, ?_, ?_, ?_, ?_, ?_⟩
  · simp only [World.cell?]; rw [h1]; simp
  · simp only [World.cell?]; rw [h1]; simp
  · simp only [World.cell?]; rw [h1]; simp
  · simp only [World.cell?]; rw [h1]; simp
  · simp only [World.frozen?]; rw [h1]; simp
  · simp only [World.frozen?]; rw [h1]; simp
  · simp only [World.frozen?]; rw [h1]; simp
  · simp only [World.frozen?]; rw [h1]; simp
theorem Quad.betw (h : Quad X W v0 v1 v2 v3) (k : Betw n0 n1 W W') (hX : X < n0 ∨ n1 ≤ X) : Quad X W' v0 v1 v2 v3 := by
  have c := fun o => k.cell (p := ⟨X, o, none⟩) h.lt hX
  have z := fun o => k.frozen (p := ⟨X, o, none⟩) h.lt hX
  exact ⟨(c _).trans h.b0, (c _).trans h.b1, (c _).trans h.b2, (c _).trans h.b3, (z _).trans h.g0, (z _).trans h.g1, (z _).trans h.g2, (z _).trans h.g3⟩
theorem Quad.below (h : Quad X W v0 v1 v2 v3) (k : Below W.heap.size W W') : Quad X W' v0 v1 v2 v3 := h.betw (n0 := 0) (n1 := 0) (betw_of k) (.inr (Nat.zero_le _))
theorem Quad.drawn (h : Quad X W v0 v1 v2 v3) (n : Nat) : Quad X (W.drewN n) v0 v1 v2 v3 := ⟨h.b0, h.b1, h.b2, h.b3, h.g0, h.g1, h.g2, h.g3⟩
theorem Quad.drew (h : Quad X W v0 v1 v2 v3) : Quad X W.drew v0 v1 v2 v3 := h.drawn 1
/-- Four values are put. -/
def put4 (W : World) (X : Nat) (u0 u1 u2 u3 : Value) : World := (((W.setCell ⟨X, 0, none⟩ u0).setCell ⟨X, 1, none⟩ u1).setCell ⟨X, 2, none⟩ u2).setCell ⟨X, 3, none⟩ u3
theorem put4_far {b o : Nat} (h : b ≠ X) : (put4 W X u0 u1 u2 u3).cell? ⟨b, o, none⟩ = W.cell? ⟨b, o, none⟩ := by
  unfold put4
  rw [cell_far fun e => h e.1, cell_far fun e => h e.1, cell_far fun e => h e.1, cell_far fun e => h e.1]
theorem put4_frozen (p : Addr) : (put4 W X u0 u1 u2 u3).frozen? p = W.frozen? p := by
  unfold put4
  rw [World.frozen?_setCell, World.frozen?_setCell, World.frozen?_setCell, World.frozen?_setCell]
theorem Quad.far (h : Quad Y W v0 v1 v2 v3) (hne : Y ≠ X) : Quad Y (put4 W X u0 u1 u2 u3) v0 v1 v2 v3 :=
  ⟨(put4_far hne).trans h.b0, (put4_far hne).trans h.b1, (put4_far hne).trans h.b2, (put4_far hne).trans h.b3, (put4_frozen _).trans h.g0, (put4_frozen _).trans h.g1, (put4_frozen _).trans h.g2, (put4_frozen _).trans h.g3⟩
theorem Quad.put (h : Quad X W v0 v1 v2 v3) (u0 u1 u2 u3 : Value) : Quad X (put4 W X u0 u1 u2 u3) u0 u1 u2 u3 := by
  have k0 : ((W.setCell ⟨X, 0, none⟩ u0)).cell? ⟨X, 0, none⟩ = some u0 := World.cell?_setCell_same' _ _ _ (by rw [h.b0]; rfl)
  have k1 : ((W.setCell ⟨X, 0, none⟩ u0).setCell ⟨X, 1, none⟩ u1).cell? ⟨X, 1, none⟩ = some u1 := World.cell?_setCell_same' _ _ _ (by rw [cell_far (by omega), h.b1]; rfl)
  have k2 : (((W.setCell ⟨X, 0, none⟩ u0).setCell ⟨X, 1, none⟩ u1).setCell ⟨X, 2, none⟩ u2).cell? ⟨X, 2, none⟩ = some u2 := World.cell?_setCell_same' _ _ _ (by rw [cell_far (by omega), cell_far (by omega), h.b2]; rfl)
  have k3 : (put4 W X u0 u1 u2 u3).cell? ⟨X, 3, none⟩ = some u3 := World.cell?_setCell_same' _ _ _ (by rw [cell_far (by omega), cell_far (by omega), cell_far (by omega), h.b3]; rfl)
  refine ⟨?_, ?_, ?_, k3, (put4_frozen _).trans h.g0, (put4_frozen _).trans h.g1, (put4_frozen _).trans h.g2, (put4_frozen _).trans h.g3⟩
  · exact ((cell_far (by omega)).trans ((cell_far (by omega)).trans (cell_far (by omega)))).trans k0
  · exact ((cell_far (by omega)).trans (cell_far (by omega))).trans k1
  · exact (cell_far (by omega)).trans k2
theorem below_put4 {B : Nat} {a : World} (h : Below B a W) (hX : B ≤ X) : Below B a (put4 W X u0 u1 u2 u3) := (((h.setCell hX _).setCell hX _).setCell hX _).setCell hX _
theorem betw_put4 {a : World} (h : Betw n0 n1 a W) (hX : n0 ≤ X ∧ X < n1) : Betw n0 n1 a (put4 W X u0 u1 u2 u3) := (((h.setCell hX _).setCell hX _).setCell hX _).setCell hX _
theorem Lstp.put4 {P : Nat → Prop} {n : Nat} {v : Value} {f : Nat → Int} (h : Lstp P W v n f) (hX : ∀ b, P b → b ≠ X) : Lstp P (put4 W X u0 u1 u2 u3) v n f := (((h.put hX _).put hX _).put hX _).put hX _
theorem BRef.put4 {P : Nat → Prop} {s : BibSt} (h : BRef P W v0 v1 v2 v3 s) (hX : ∀ b, P b → b ≠ X) : BRef P (put4 W X u0 u1 u2 u3) v0 v1 v2 v3 s := ⟨h.lu.put4 hX, h.lf.put4 hX, h.lw.put4 hX, h.lh.put4 hX⟩
theorem BRef.below {P : Nat → Prop} {s : BibSt} (h : BRef P W v0 v1 v2 v3 s) (k : Below W.heap.size W W') : BRef P W' v0 v1 v2 v3 s := ⟨h.lu.below k, h.lf.below k, h.lw.below k, h.lh.below k⟩
theorem BRef.betw {P : Nat → Prop} {s : BibSt} (h : BRef P W v0 v1 v2 v3 s) (k : Betw n0 n1 W W') (hP : ∀ b, P b → b < n0 ∨ n1 ≤ b) : BRef P W' v0 v1 v2 v3 s := ⟨h.lu.betw k hP, h.lf.betw k hP, h.lw.betw k hP, h.lh.betw k hP⟩
theorem BRef.weak {P P' : Nat → Prop} {s : BibSt} (h : BRef P W v0 v1 v2 v3 s) (hP : ∀ b, b < W.heap.size → P b → P' b) : BRef P' W v0 v1 v2 v3 s := ⟨h.lu.weak hP, h.lf.weak hP, h.lw.weak hP, h.lh.weak hP⟩
theorem BRef.drawn {P : Nat → Prop} {s : BibSt} (h : BRef P W v0 v1 v2 v3 s) (n : Nat) : BRef P (W.drewN n) v0 v1 v2 v3 s := ⟨h.lu.drawn n, h.lf.drawn n, h.lw.drawn n, h.lh.drawn n⟩
/-- The monitor stays where four values are put elsewhere. -/
theorem BMon.put4 {B gu gf cu cf : Nat} {au af : Option Addr} {s : BibSt} (h : BMon n0 n1 B au af gu gf cu cf W s) (hX : n1 ≤ X) (hB : B < n1) : BMon n0 n1 B au af gu gf cu cf (put4 W X u0 u1 u2 u3) s := by
  have hu := fun i (hi : i < s.nu) => (h.hu (by omega)).2.2.2
  have hf := fun i (hi : i < s.nf) => (h.hf (by omega)).2.2.2
  refine ⟨(put4_far (by omega)).trans h.c0, (put4_far (by omega)).trans h.c1, h.low, h.hu, h.hf, h.ne, fun i hi => ?_, fun i hi => ?_, fun i hi => (put4_frozen _).trans (h.r0 i hi), fun i hi => (put4_frozen _).trans (h.r1 i hi), fun i hi => ?_, fun i hi => ?_, fun i hi => (put4_frozen _).trans (h.q1 i hi)⟩
  · have := hu i hi
    exact (put4_far (by omega)).trans (h.u0 i hi)
  · have := hu i hi
    exact (put4_far (by omega)).trans (h.u1 i hi)
  · have := hf i hi
    exact (put4_far (by omega)).trans (h.f0 i hi)
  · have := hf i hi
    exact (put4_far (by omega)).trans (h.f1 i hi)
end
set_option maxHeartbeats 1000000 in
theorem bibPla_err1 (a1 a2 a3 : Option Addr) (n c1 m c2 q c3 : Nat) (zs : List Int) (c : Int) (hc0 : c ≠ 0) (hc : levCode n zs c) (w : World) (hE : ErrT w) (h1 : AtNums w a1 n zs)
    (hN : Calls Tryd.prog 16 #[.slice a1 n c1, .slice a2 m c2] w fun e w' => e = .returned (.tuple #[.pointer none, .iface 63 (.int .i64 c)]) ∧ w' = w) :
    Calls Tryd.prog 6 #[.slice a1 n c1, .slice a2 m c2, .slice a3 q c3] w fun e w' => e = .returned (.bool true) ∧ Below w.heap.size w w' := by
  have tL := refLev_code a1 n c1 zs c hc w h1
  have tE := error_err c c w hE
  have k0 : (c == 0) = false := by simp [hc0]
  have k1 : (c != 0) = true := by simp [hc0]
  clear hc hc0
  go_enter Tryd.func6, Tryd.ntmps6
  go_wp2_with (first | (go_at_call 20; refine tL.mono ?_; clear tL; rintro e w' ⟨rfl, hw⟩; obtain rfl := hw.symm) | (go_at_call 16; refine hN.mono ?_; clear hN; rintro e w' ⟨rfl, hw⟩; obtain rfl := hw.symm) | (go_at_call 9; refine tE.mono ?_; clear tE; rintro e w6 ⟨rfl, hB6⟩))
  go_ret
  exact ⟨by simp, hB6⟩
set_option maxHeartbeats 1000000 in
theorem bibPla_err2 (a1 a2 a3 : Option Addr) (n c1 m c2 q c3 : Nat) (zs ys : List Int) (c : Int) (hc0 : c ≠ 0) (h0 : levCode n zs 0) (hc : levCode m ys c) (w : World) (hE : ErrT w) (h1 : AtNums w a1 n zs) (h2 : AtNums w a2 m ys)
    (hN : Calls Tryd.prog 16 #[.slice a1 n c1, .slice a2 m c2] w fun e w' => e = .returned (.tuple #[.pointer none, .iface 63 (.int .i64 c)]) ∧ w' = w) :
    Calls Tryd.prog 6 #[.slice a1 n c1, .slice a2 m c2, .slice a3 q c3] w fun e w' => e = .returned (.bool true) ∧ Below w.heap.size w w' := by
  have tL1 := refLev_code a1 n c1 zs 0 h0 w h1
  have tL2 := refLev_code a2 m c2 ys c hc w h2
  have tE := error_err c c w hE
  have k1 : (c != 0) = true := by simp [hc0]
  clear hc hc0 h0
  go_enter Tryd.func6, Tryd.ntmps6
  go_wp2_with (first | (go_at_call 20; refine tL1.mono ?_; clear tL1; rintro e w' ⟨rfl, hw⟩; obtain rfl := hw.symm) | (go_at_call 20; refine tL2.mono ?_; clear tL2; rintro e w' ⟨rfl, hw⟩; obtain rfl := hw.symm) | (go_at_call 16; refine hN.mono ?_; clear hN; rintro e w' ⟨rfl, hw⟩; obtain rfl := hw.symm) | (go_at_call 9; refine tE.mono ?_; clear tE; rintro e w6 ⟨rfl, hB6⟩))
  go_ret
  exact ⟨by simp, hB6⟩
end Go.Proofs.YteheaeihoameeaaDoor
