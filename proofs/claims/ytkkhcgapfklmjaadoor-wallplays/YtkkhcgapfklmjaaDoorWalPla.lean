/- The walk of the law WallPlays: its aids, and where New tells an error. -/
import Derived.WalkKit
import Derived.LoopTactic
import Derived.Deep.DrawnRows
import Derived.Test.YtkkhcgapfklmjaaDoorWalFact
import Derived.Test.YtkkhcgapfklmjaaDoorWalWt
import Derived.Test.YtkkhcgapfklmjaaDoorAsksOpen
namespace Go.Proofs.YtkkhcgapfklmjaaDoor
open Go.RowKit
attribute [local go_sem ↓] Go.wp_at_zero Go.wp_at_succ
set_option maxRecDepth 100000

theorem werror_errV (c : Int) (w : World) (hE : ErrT w) : Calls Tryd.prog 14 #[errV c, .int .i64 c] w fun e w' => e = .returned (.bool true) ∧ Below w.heap.size w w' := by
  by_cases h : c = 0
  · subst h
    exact (error_nil 0 w).mono fun e w' ⟨he, hw⟩ => ⟨by rw [he]; rfl, hw ▸ Below.refl _ _⟩
  · rw [errV, if_neg h]
    exact (error_err c c w hE).mono fun e w' ⟨he, hb⟩ => ⟨by rw [he]; simp, hb⟩
/-- Three values in a place of one's own. -/
structure Tri (X : Nat) (W : World) (v0 v1 v2 : Value) : Prop where
  b0 : W.cell? ⟨X, 0, none⟩ = some v0
  b1 : W.cell? ⟨X, 1, none⟩ = some v1
  b2 : W.cell? ⟨X, 2, none⟩ = some v2
  g0 : W.frozen? ⟨X, 0, none⟩ = false
  g1 : W.frozen? ⟨X, 1, none⟩ = false
  g2 : W.frozen? ⟨X, 2, none⟩ = false
section
variable {X Y n0 n1 : Nat} {W W' : World} {v0 v1 v2 u0 u1 u2 : Value}
theorem Tri.lt (h : Tri X W v0 v1 v2) : X < W.heap.size := old_of_cell h.b0
theorem Tri.new (W : World) (v0 v1 v2 : Value) (t : TypeId) : Tri W.heap.size (W.alloc (.cells #[v0, v1, v2] t)) v0 v1 v2 := by
  have h1 := World.alloc_heap_new W (.cells #[v0, v1, v2] t)
  refine ⟨?_, ?_, ?_, ?_, ?_, ?_⟩
  · simp only [World.cell?]; rw [h1]; simp
  · simp only [World.cell?]; rw [h1]; simp
  · simp only [World.cell?]; rw [h1]; simp
  · simp only [World.frozen?]; rw [h1]; simp
  · simp only [World.frozen?]; rw [h1]; simp
  · simp only [World.frozen?]; rw [h1]; simp
theorem Tri.betw (h : Tri X W v0 v1 v2) (k : Betw n0 n1 W W') (hX : X < n0 ∨ n1 ≤ X) : Tri X W' v0 v1 v2 := by
  have c := fun o => k.cell (p := ⟨X, o, none⟩) h.lt hX
  have z := fun o => k.frozen (p := ⟨X, o, none⟩) h.lt hX
  exact ⟨(c _).trans h.b0, (c _).trans h.b1, (c _).trans h.b2, (z _).trans h.g0, (z _).trans h.g1, (z _).trans h.g2⟩
theorem Tri.below (h : Tri X W v0 v1 v2) (k : Below W.heap.size W W') : Tri X W' v0 v1 v2 := h.betw (n0 := 0) (n1 := 0) (betw_of k) (.inr (Nat.zero_le _))
theorem Tri.drawn (h : Tri X W v0 v1 v2) (n : Nat) : Tri X (W.drewN n) v0 v1 v2 := ⟨h.b0, h.b1, h.b2, h.g0, h.g1, h.g2⟩
theorem Tri.drew (h : Tri X W v0 v1 v2) : Tri X W.drew v0 v1 v2 := h.drawn 1
theorem Tri.grown {row : Option Nat} (h : Tri X W v0 v1 v2) (hg : W.grownBy W' row) (hne : some X ≠ row) : Tri X W' v0 v1 v2 :=
  ⟨(hg.cell_far ⟨X, 0, none⟩ h.lt hne).trans h.b0, (hg.cell_far ⟨X, 1, none⟩ h.lt hne).trans h.b1, (hg.cell_far ⟨X, 2, none⟩ h.lt hne).trans h.b2, (hg.frozen_far ⟨X, 0, none⟩ h.lt hne).trans h.g0, (hg.frozen_far ⟨X, 1, none⟩ h.lt hne).trans h.g1, (hg.frozen_far ⟨X, 2, none⟩ h.lt hne).trans h.g2⟩
theorem Tri.set2 (h : Tri X W v0 v1 v2) (u : Value) : Tri X (W.setCell ⟨X, 2, none⟩ u) v0 v1 u :=
  ⟨(cell_far (by omega)).trans h.b0, (cell_far (by omega)).trans h.b1, World.cell?_setCell_same' _ _ _ (by rw [h.b2]; rfl), (World.frozen?_setCell _ _ _ _).trans h.g0, (World.frozen?_setCell _ _ _ _).trans h.g1, (World.frozen?_setCell _ _ _ _).trans h.g2⟩
/-- Three values are put. -/
def put3 (W : World) (X : Nat) (u0 u1 u2 : Value) : World := ((W.setCell ⟨X, 0, none⟩ u0).setCell ⟨X, 1, none⟩ u1).setCell ⟨X, 2, none⟩ u2
theorem put3_far {b o : Nat} (h : b ≠ X) : (put3 W X u0 u1 u2).cell? ⟨b, o, none⟩ = W.cell? ⟨b, o, none⟩ := by
  unfold put3
  rw [cell_far fun e => h e.1, cell_far fun e => h e.1, cell_far fun e => h e.1]
theorem put3_frozen (p : Addr) : (put3 W X u0 u1 u2).frozen? p = W.frozen? p := by
  unfold put3
  rw [World.frozen?_setCell, World.frozen?_setCell, World.frozen?_setCell]
theorem Tri.put (h : Tri X W v0 v1 v2) (u0 u1 u2 : Value) : Tri X (put3 W X u0 u1 u2) u0 u1 u2 := by
  have k0 : ((W.setCell ⟨X, 0, none⟩ u0)).cell? ⟨X, 0, none⟩ = some u0 := World.cell?_setCell_same' _ _ _ (by rw [h.b0]; rfl)
  have k1 : ((W.setCell ⟨X, 0, none⟩ u0).setCell ⟨X, 1, none⟩ u1).cell? ⟨X, 1, none⟩ = some u1 := World.cell?_setCell_same' _ _ _ (by rw [cell_far (by omega), h.b1]; rfl)
  have k2 : (put3 W X u0 u1 u2).cell? ⟨X, 2, none⟩ = some u2 := World.cell?_setCell_same' _ _ _ (by rw [cell_far (by omega), cell_far (by omega), h.b2]; rfl)
  refine ⟨?_, ?_, k2, (put3_frozen _).trans h.g0, (put3_frozen _).trans h.g1, (put3_frozen _).trans h.g2⟩
  · exact ((cell_far (by omega)).trans (cell_far (by omega))).trans k0
  · exact (cell_far (by omega)).trans k1
theorem below_put3 {B : Nat} {a : World} (h : Below B a W) (hX : B ≤ X) : Below B a (put3 W X u0 u1 u2) := ((h.setCell hX _).setCell hX _).setCell hX _
theorem Lstp.put3 {P : Nat → Prop} {n : Nat} {v : Value} {f : Nat → Int} (h : Lstp P W v n f) (hX : ∀ b, P b → b ≠ X) : Lstp P (put3 W X u0 u1 u2) v n f := ((h.put hX _).put hX _).put hX _
theorem WRef.put3 {P : Nat → Prop} {s : WallSt} (h : WRef P W v0 v1 v2 s) (hX : ∀ b, P b → b ≠ X) : WRef P (put3 W X u0 u1 u2) v0 v1 v2 s := ⟨h.lt.put3 hX, h.ls.put3 hX, h.lh.put3 hX⟩
theorem WRef.below {P : Nat → Prop} {s : WallSt} (h : WRef P W v0 v1 v2 s) (k : Below W.heap.size W W') : WRef P W' v0 v1 v2 s := ⟨h.lt.below k, h.ls.below k, h.lh.below k⟩
theorem WRef.betw {P : Nat → Prop} {s : WallSt} (h : WRef P W v0 v1 v2 s) (k : Betw n0 n1 W W') (hP : ∀ b, P b → b < n0 ∨ n1 ≤ b) : WRef P W' v0 v1 v2 s := ⟨h.lt.betw k hP, h.ls.betw k hP, h.lh.betw k hP⟩
theorem WRef.weak {P P' : Nat → Prop} {s : WallSt} (h : WRef P W v0 v1 v2 s) (hP : ∀ b, b < W.heap.size → P b → P' b) : WRef P' W v0 v1 v2 s := ⟨h.lt.weak hP, h.ls.weak hP, h.lh.weak hP⟩
theorem WRef.drawn {P : Nat → Prop} {s : WallSt} (h : WRef P W v0 v1 v2 s) (n : Nat) : WRef P (W.drewN n) v0 v1 v2 s := ⟨h.lt.drawn n, h.ls.drawn n, h.lh.drawn n⟩
theorem WMon.put3 {B gu gf cu cf : Nat} {au af : Option Addr} {s : WallSt} (h : WMon n0 n1 B au af gu gf cu cf W s) (hX : n1 ≤ X) (hB : B < n1) : WMon n0 n1 B au af gu gf cu cf (put3 W X u0 u1 u2) s := ((h.far hX hB _).far hX hB _).far hX hB _
theorem WMon.grown {B gu gf cu cf : Nat} {au af : Option Addr} {s : WallSt} {row : Option Nat} (h : WMon n0 n1 B au af gu gf cu cf W s) (hg : W.grownBy W' row) (hr : ∀ k, row = some k → n1 ≤ k) (hB : B < n1) : WMon n0 n1 B au af gu gf cu cf W' s := by
  have hu := fun i (hi : i < s.nu) => (h.hu (by omega)).2.2.2
  have hf := fun i (hi : i < s.nf) => (h.hf (by omega)).2.2.2
  have ne : ∀ b, b < n1 → some b ≠ row := fun b hb e => by have := hr b e.symm; omega
  have lB := h.ltB
  refine ⟨(hg.cell_far ⟨B, 0, none⟩ lB (ne _ hB)).trans h.c0, (hg.cell_far ⟨B, 1, none⟩ lB (ne _ hB)).trans h.c1, h.low, h.hu, h.hf, h.ne, fun i hi => ?_, fun i hi => ?_, fun i hi => ?_, fun i hi => ?_, fun i hi => ?_⟩
  · exact (hg.cell_far ⟨gu, i, none⟩ (h.ltu hi) (ne _ (hu i hi))).trans (h.u0 i hi)
  · exact (hg.frozen_far ⟨gu, i, none⟩ (h.ltu hi) (ne _ (hu i hi))).trans (h.r0 i hi)
  · exact (hg.cell_far ⟨gf, i * 2, none⟩ (h.ltf hi) (ne _ (hf i hi))).trans (h.f0 i hi)
  · exact (hg.cell_far ⟨gf, i * 2 + 1, none⟩ (h.ltf hi) (ne _ (hf i hi))).trans (h.f1 i hi)
  · exact (hg.frozen_far ⟨gf, i * 2 + 1, none⟩ (h.ltf hi) (ne _ (hf i hi))).trans (h.q1 i hi)
end
/-- A call of Pow2, as one step of a region that draws. -/
theorem wstep_pow2 {ops : Array Oper} {o : Oper} {a : Act} {w : World} {K : Act → World → Prop} {Q : Exit → Act → World → Prop} {E : Prop} (hgd : o.guard = none) (x : Operand) (ho : o.op = .call { callee := .value (.func 15), args := #[x], argTypes := #[3] })
    (u : Value) (hx : a.eval x = u) (v : Value) (hc : Calls Tryd.prog 15 #[u] w fun e w' => e = .returned v ∧ w' = w) (h : K (a.put o.dst v) w) : if Region.wanted o (yielded ops a.tmps) = true then Oper.wp Tryd.prog o a w K Q else E := by
  have hw : Region.wanted o (yielded ops a.tmps) = true := by simp [Region.wanted, hgd]
  rw [if_pos hw]
  unfold Oper.wp execOp
  simp only [ho, resolve, invoke, Sem.run_bind, List.map_toArray, List.map_cons, List.map_nil, hx]
  clear ho hx hw hgd
  go_simp
  refine hc.mono ?_
  rintro e w' ⟨rfl, rfl⟩
  exact h
set_option maxHeartbeats 1000000 in
theorem waPla_err1 (a2 a3 : Option Addr) (u : Int) (m c2 q c3 : Nat) (hu : u < 0 ∨ 8 < u) (w : World) (hE : ErrT w)
    (hN : Calls Tryd.prog 8 #[.int .i64 u, .slice a2 m c2] w fun e w' => e = .returned (.tuple #[.pointer none, .iface 50 (.int .i64 1)]) ∧ w' = w) :
    Calls Tryd.prog 6 #[.int .i64 u, .slice a2 m c2, .slice a3 q c3] w fun e w' => e = .returned (.bool true) ∧ Below w.heap.size w w' := by
  have tE := error_err 1 1 w hE
  by_cases h0 : u < 0
  · go_enter Tryd.func6, Tryd.ntmps6
    go_wp2_with (first | (go_at_call 8; refine hN.mono ?_; clear hN; rintro e w' ⟨rfl, hw⟩; obtain rfl := hw.symm) | (go_at_call 14; refine tE.mono ?_; clear tE; rintro e w6 ⟨rfl, hB6⟩))
    go_ret
    exact ⟨by simp, hB6⟩
  · have h8 : 8 < u := by omega
    go_enter Tryd.func6, Tryd.ntmps6
    go_wp2_with (first | (go_at_call 8; refine hN.mono ?_; clear hN; rintro e w' ⟨rfl, hw⟩; obtain rfl := hw.symm) | (go_at_call 14; refine tE.mono ?_; clear tE; rintro e w6 ⟨rfl, hB6⟩))
    go_ret
    exact ⟨by simp, hB6⟩
set_option maxHeartbeats 1000000 in
theorem waPla_err2 (a2 a3 : Option Addr) (u : Int) (m c2 q c3 : Nat) (ys : List Int) (c : Int) (hc0 : c ≠ 0) (h0 : 0 ≤ u) (h8 : u ≤ 8) (hc : levCode m ys c) (w : World) (hE : ErrT w) (h2 : AtNums w a2 m ys)
    (hN : Calls Tryd.prog 8 #[.int .i64 u, .slice a2 m c2] w fun e w' => e = .returned (.tuple #[.pointer none, .iface 50 (.int .i64 c)]) ∧ w' = w) :
    Calls Tryd.prog 6 #[.int .i64 u, .slice a2 m c2, .slice a3 q c3] w fun e w' => e = .returned (.bool true) ∧ Below w.heap.size w w' := by
  have tL := refLev_code a2 m c2 ys c hc w h2
  have tE := error_err c c w hE
  have k1 : (c != 0) = true := by simp [hc0]
  clear hc hc0
  go_enter Tryd.func6, Tryd.ntmps6
  go_wp2_with (first | (go_at_call 13; refine tL.mono ?_; clear tL; rintro e w' ⟨rfl, hw⟩; obtain rfl := hw.symm) | (go_at_call 8; refine hN.mono ?_; clear hN; rintro e w' ⟨rfl, hw⟩; obtain rfl := hw.symm) | (go_at_call 14; refine tE.mono ?_; clear tE; rintro e w6 ⟨rfl, hB6⟩))
  go_ret
  exact ⟨by simp, hB6⟩
end Go.Proofs.YtkkhcgapfklmjaaDoor
