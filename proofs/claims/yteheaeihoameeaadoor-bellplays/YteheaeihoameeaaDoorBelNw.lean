/- What the document's new monitor of labels is (NewBell). -/
import Derived.WalkKit
import Derived.LoopTactic
import Derived.Laws.ResultCell
import Derived.Deep.LoopGhost
import Derived.Deep.RegionLaw
import Derived.Deep.AppendLies
import Derived.Deep.DrawnRows
import Derived.Test.YteheaeihoameeaaDoorBelRef
namespace Go.Proofs.YteheaeihoameeaaDoor
open Go.RowKit
attribute [local go_sem ↓] Go.wp_at_zero Go.wp_at_succ
set_option maxRecDepth 100000

/-- Five values in a place of one's own. -/
structure Quin (X : Nat) (W : World) (v0 v1 v2 v3 v4 : Value) : Prop where
  b0 : W.cell? ⟨X, 0, none⟩ = some v0
  b1 : W.cell? ⟨X, 1, none⟩ = some v1
  b2 : W.cell? ⟨X, 2, none⟩ = some v2
  b3 : W.cell? ⟨X, 3, none⟩ = some v3
  b4 : W.cell? ⟨X, 4, none⟩ = some v4
  g0 : W.frozen? ⟨X, 0, none⟩ = false
  g1 : W.frozen? ⟨X, 1, none⟩ = false
  g2 : W.frozen? ⟨X, 2, none⟩ = false
  g3 : W.frozen? ⟨X, 3, none⟩ = false
  g4 : W.frozen? ⟨X, 4, none⟩ = false
section
variable {X Y n0 n1 : Nat} {W W' : World} {v0 v1 v2 v3 v4 u0 u1 u2 u3 u4 : Value}
theorem Quin.lt (h : Quin X W v0 v1 v2 v3 v4) : X < W.heap.size := old_of_cell h.b0
theorem Quin.new (W : World) (v0 v1 v2 v3 v4 : Value) (t : TypeId) : Quin W.heap.size (W.alloc (.cells #[v0, v1, v2, v3, v4] t)) v0 v1 v2 v3 v4 := by
  have h1 := World.alloc_heap_new W (.cells #[v0, v1, v2, v3, v4] t)
  refine ⟨?_, ?_, ?_, ?_, ?_, ?_, ?_, ?_, ?_, ?_⟩
  · simp only [World.cell?]; rw [h1]; simp
  · simp only [World.cell?]; rw [h1]; simp
  · simp only [World.cell?]; rw [h1]; simp
  · simp only [World.cell?]; rw [h1]; simp
  · simp only [World.cell?]; rw [h1]; simp
  · simp only [World.frozen?]; rw [h1]; simp
  · simp only [World.frozen?]; rw [h1]; simp
  · simp only [World.frozen?]; rw [h1]; simp
  · simp only [World.frozen?]; rw [h1]; simp
  · simp only [World.frozen?]; rw [h1]; simp
theorem Quin.of (h : Quin X W v0 v1 v2 v3 v4) (c : ∀ o, W'.cell? ⟨X, o, none⟩ = W.cell? ⟨X, o, none⟩) (z : ∀ o, W'.frozen? ⟨X, o, none⟩ = W.frozen? ⟨X, o, none⟩) : Quin X W' v0 v1 v2 v3 v4 :=
  ⟨(c _).trans h.b0, (c _).trans h.b1, (c _).trans h.b2, (c _).trans h.b3, (c _).trans h.b4, (z _).trans h.g0, (z _).trans h.g1, (z _).trans h.g2, (z _).trans h.g3, (z _).trans h.g4⟩
theorem Quin.betw (h : Quin X W v0 v1 v2 v3 v4) (k : Betw n0 n1 W W') (hX : X < n0 ∨ n1 ≤ X) : Quin X W' v0 v1 v2 v3 v4 := h.of (fun o => k.cell (p := ⟨X, o, none⟩) h.lt hX) (fun o => k.frozen (p := ⟨X, o, none⟩) h.lt hX)
theorem Quin.below (h : Quin X W v0 v1 v2 v3 v4) (k : Below W.heap.size W W') : Quin X W' v0 v1 v2 v3 v4 := h.of (fun o => k.cell (p := ⟨X, o, none⟩) h.lt) (fun o => k.frozen (p := ⟨X, o, none⟩) h.lt)
theorem Quin.alloc (h : Quin X W v0 v1 v2 v3 v4) (o : Obj) : Quin X (W.alloc o) v0 v1 v2 v3 v4 := h.below ((Below.refl _ W).alloc (Nat.le_refl _) o)
theorem Quin.drawn (h : Quin X W v0 v1 v2 v3 v4) (n : Nat) : Quin X (W.drewN n) v0 v1 v2 v3 v4 := ⟨h.b0, h.b1, h.b2, h.b3, h.b4, h.g0, h.g1, h.g2, h.g3, h.g4⟩
theorem Quin.drew (h : Quin X W v0 v1 v2 v3 v4) : Quin X W.drew v0 v1 v2 v3 v4 := h.drawn 1
theorem Quin.grown {row : Option Nat} (h : Quin X W v0 v1 v2 v3 v4) (hg : W.grownBy W' row) (hne : some X ≠ row) : Quin X W' v0 v1 v2 v3 v4 := h.of (fun o => hg.cell_far ⟨X, o, none⟩ h.lt hne) (fun o => hg.frozen_far ⟨X, o, none⟩ h.lt hne)
theorem Quin.other (h : Quin Y W v0 v1 v2 v3 v4) (hne : Y ≠ X) {o : Nat} (u : Value) : Quin Y (W.setCell ⟨X, o, none⟩ u) v0 v1 v2 v3 v4 := h.of (fun _ => cell_far fun e => hne e.1) (fun _ => World.frozen?_setCell _ _ _ _)
theorem Quin.set2 (h : Quin X W v0 v1 v2 v3 v4) (u : Value) : Quin X (W.setCell ⟨X, 2, none⟩ u) v0 v1 u v3 v4 :=
  ⟨(cell_far (by omega)).trans h.b0, (cell_far (by omega)).trans h.b1, World.cell?_setCell_same' _ _ _ (by rw [h.b2]; rfl), (cell_far (by omega)).trans h.b3, (cell_far (by omega)).trans h.b4, (World.frozen?_setCell _ _ _ _).trans h.g0, (World.frozen?_setCell _ _ _ _).trans h.g1, (World.frozen?_setCell _ _ _ _).trans h.g2, (World.frozen?_setCell _ _ _ _).trans h.g3, (World.frozen?_setCell _ _ _ _).trans h.g4⟩
theorem Quin.set3 (h : Quin X W v0 v1 v2 v3 v4) (u : Value) : Quin X (W.setCell ⟨X, 3, none⟩ u) v0 v1 v2 u v4 :=
  ⟨(cell_far (by omega)).trans h.b0, (cell_far (by omega)).trans h.b1, (cell_far (by omega)).trans h.b2, World.cell?_setCell_same' _ _ _ (by rw [h.b3]; rfl), (cell_far (by omega)).trans h.b4, (World.frozen?_setCell _ _ _ _).trans h.g0, (World.frozen?_setCell _ _ _ _).trans h.g1, (World.frozen?_setCell _ _ _ _).trans h.g2, (World.frozen?_setCell _ _ _ _).trans h.g3, (World.frozen?_setCell _ _ _ _).trans h.g4⟩
theorem Quin.set4 (h : Quin X W v0 v1 v2 v3 v4) (u : Value) : Quin X (W.setCell ⟨X, 4, none⟩ u) v0 v1 v2 v3 u :=
  ⟨(cell_far (by omega)).trans h.b0, (cell_far (by omega)).trans h.b1, (cell_far (by omega)).trans h.b2, (cell_far (by omega)).trans h.b3, World.cell?_setCell_same' _ _ _ (by rw [h.b4]; rfl), (World.frozen?_setCell _ _ _ _).trans h.g0, (World.frozen?_setCell _ _ _ _).trans h.g1, (World.frozen?_setCell _ _ _ _).trans h.g2, (World.frozen?_setCell _ _ _ _).trans h.g3, (World.frozen?_setCell _ _ _ _).trans h.g4⟩
theorem put5_far {b o : Nat} (h : b ≠ X) : (put5 W X u0 u1 u2 u3 u4).cell? ⟨b, o, none⟩ = W.cell? ⟨b, o, none⟩ := by
  unfold put5
  rw [cell_far fun e => h e.1, cell_far fun e => h e.1, cell_far fun e => h e.1, cell_far fun e => h e.1, cell_far fun e => h e.1]
theorem put5_frozen (p : Addr) : (put5 W X u0 u1 u2 u3 u4).frozen? p = W.frozen? p := by
  unfold put5
  rw [World.frozen?_setCell, World.frozen?_setCell, World.frozen?_setCell, World.frozen?_setCell, World.frozen?_setCell]
theorem Quin.far (h : Quin Y W v0 v1 v2 v3 v4) (hne : Y ≠ X) : Quin Y (put5 W X u0 u1 u2 u3 u4) v0 v1 v2 v3 v4 := h.of (fun _ => put5_far hne) (fun _ => put5_frozen _)
theorem Quin.put (h : Quin X W v0 v1 v2 v3 v4) (u0 u1 u2 u3 u4 : Value) : Quin X (put5 W X u0 u1 u2 u3 u4) u0 u1 u2 u3 u4 := by
  have k0 : ((W.setCell ⟨X, 0, none⟩ u0)).cell? ⟨X, 0, none⟩ = some u0 := World.cell?_setCell_same' _ _ _ (by rw [h.b0]; rfl)
  have k1 : ((W.setCell ⟨X, 0, none⟩ u0).setCell ⟨X, 1, none⟩ u1).cell? ⟨X, 1, none⟩ = some u1 := World.cell?_setCell_same' _ _ _ (by rw [cell_far (by omega), h.b1]; rfl)
  have k2 : (((W.setCell ⟨X, 0, none⟩ u0).setCell ⟨X, 1, none⟩ u1).setCell ⟨X, 2, none⟩ u2).cell? ⟨X, 2, none⟩ = some u2 := World.cell?_setCell_same' _ _ _ (by rw [cell_far (by omega), cell_far (by omega), h.b2]; rfl)
  have k3 : ((((W.setCell ⟨X, 0, none⟩ u0).setCell ⟨X, 1, none⟩ u1).setCell ⟨X, 2, none⟩ u2).setCell ⟨X, 3, none⟩ u3).cell? ⟨X, 3, none⟩ = some u3 := World.cell?_setCell_same' _ _ _ (by rw [cell_far (by omega), cell_far (by omega), cell_far (by omega), h.b3]; rfl)
  have k4 : (put5 W X u0 u1 u2 u3 u4).cell? ⟨X, 4, none⟩ = some u4 := World.cell?_setCell_same' _ _ _ (by rw [cell_far (by omega), cell_far (by omega), cell_far (by omega), cell_far (by omega), h.b4]; rfl)
  refine ⟨?_, ?_, ?_, ?_, k4, (put5_frozen _).trans h.g0, (put5_frozen _).trans h.g1, (put5_frozen _).trans h.g2, (put5_frozen _).trans h.g3, (put5_frozen _).trans h.g4⟩
  · exact ((cell_far (by omega)).trans ((cell_far (by omega)).trans ((cell_far (by omega)).trans (cell_far (by omega))))).trans k0
  · exact ((cell_far (by omega)).trans ((cell_far (by omega)).trans (cell_far (by omega)))).trans k1
  · exact ((cell_far (by omega)).trans (cell_far (by omega))).trans k2
  · exact (cell_far (by omega)).trans k3
end
abbrev nil0 : Value := .slice none 0 0
set_option maxHeartbeats 4000000 in
theorem refNew_err1 (a1 a2 : Option Addr) (n c1 m c2 : Nat) (z : Nat → Int × Int) (c : Int) (hc0 : c ≠ 0) (hc : labsCode n z c) (w : World) (h1 : AtLabs w a1 n z) :
    Calls Tryd.prog 7 #[.slice a1 n c1, .slice a2 m c2] w fun e w' => e = .returned (.tuple #[.agg #[nil0, nil0, nil0, nil0, nil0], .int .i64 c]) ∧ Below w.heap.size w w' := by
  have hBa : Below w.heap.size w (w.alloc (.cells #[nil0, nil0, nil0, nil0, nil0] 26)) := (Below.refl _ _).alloc (Nat.le_refl _) _
  have hQ := Quin.new w nil0 nil0 nil0 nil0 nil0 26
  have tL := fun W hW => refLabs_code a1 n c1 z c hc W (h1.below (W := W) hW)
  have k0 : (c == 0) = false := by simp [hc0]
  have k1 : (c != 0) = true := by simp [hc0]
  replace tL := tL _ hBa
  obtain ⟨W, hW⟩ : ∃ x, w.alloc (.cells #[nil0, nil0, nil0, nil0, nil0] 26) = x := ⟨_, rfl⟩
  rw [hW] at hBa hQ tL
  unfold nil0 at hW hQ
  clear hc hc0
  go_enter Tryd.func7, Tryd.ntmps7
  go_wp2_with fail
  refine tL.mono ?_
  clear tL
  rintro e w3 ⟨rfl, hB3⟩
  have hB4 := hBa.trans (hB3.mono hBa.size)
  obtain ⟨b0, b1, b2, b3, b4, g0, g1, g2, g3, g4⟩ := hQ.below hB3
  go_wp2_with fail
  have hBz : Below w.heap.size w (put5 w3 w.heap.size nil0 nil0 nil0 nil0 nil0) := below_put5 hB4 (Nat.le_refl _)
  unfold put5 at hBz
  (try simp only [Exit.inBlock, Exit.then])
  refine bodyPost_ret (v := .tuple #[.agg #[nil0, nil0, nil0, nil0, nil0], .int .i64 c]) ?_ rfl ⟨rfl, hBz⟩
  rw [results_cell_tmp rfl]
  go_simp
set_option maxHeartbeats 4000000 in
theorem refNew_err2 (a1 a2 : Option Addr) (n c1 m c2 : Nat) (z y : Nat → Int × Int) (c : Int) (hc0 : c ≠ 0) (h0 : labsCode n z 0) (hc : labsCode m y c) (w : World) (h1 : AtLabs w a1 n z) (h2 : AtLabs w a2 m y) :
    Calls Tryd.prog 7 #[.slice a1 n c1, .slice a2 m c2] w fun e w' => e = .returned (.tuple #[.agg #[nil0, nil0, nil0, nil0, nil0], .int .i64 c]) ∧ Below w.heap.size w w' := by
  have hBa : Below w.heap.size w (w.alloc (.cells #[nil0, nil0, nil0, nil0, nil0] 26)) := (Below.refl _ _).alloc (Nat.le_refl _) _
  have hQ := Quin.new w nil0 nil0 nil0 nil0 nil0 26
  have tL := fun W hW => refLabs_code a1 n c1 z 0 h0 W (h1.below (W := W) hW)
  have tM := fun W hW => refLabs_code a2 m c2 y c hc W (h2.below (W := W) hW)
  have k1 : (c != 0) = true := by simp [hc0]
  replace tL := tL _ hBa
  obtain ⟨W, hW⟩ : ∃ x, w.alloc (.cells #[nil0, nil0, nil0, nil0, nil0] 26) = x := ⟨_, rfl⟩
  rw [hW] at hBa hQ tL
  unfold nil0 at hW hQ
  clear hc hc0 h0
  go_enter Tryd.func7, Tryd.ntmps7
  go_wp2_with fail
  refine tL.mono ?_
  clear tL
  rintro e w3 ⟨rfl, hB3⟩
  have hB4 := hBa.trans (hB3.mono hBa.size)
  replace hQ := hQ.below hB3
  go_wp2_with fail
  refine (tM w3 hB4).mono ?_
  clear tM
  rintro e w5 ⟨rfl, hB5⟩
  have hB6 := hB4.trans (hB5.mono hB4.size)
  obtain ⟨b0, b1, b2, b3, b4, g0, g1, g2, g3, g4⟩ := hQ.below hB5
  go_wp2_with fail
  have hBz : Below w.heap.size w (put5 w5 w.heap.size nil0 nil0 nil0 nil0 nil0) := below_put5 hB6 (Nat.le_refl _)
  unfold put5 at hBz
  (try simp only [Exit.inBlock, Exit.then])
  refine bodyPost_ret (v := .tuple #[.agg #[nil0, nil0, nil0, nil0, nil0], .int .i64 c]) ?_ rfl ⟨rfl, hBz⟩
  rw [results_cell_tmp rfl]
  go_simp
/-- Two rows lie apart. -/
def Asun (v v' : Value) : Prop := ∀ j, v.ownBlock = some j → v'.ownBlock ≠ some j
theorem Asun.symm {v v' : Value} (h : Asun v v') : Asun v' v := fun j h1 h2 => h j h2 h1
theorem Asun.ne {v v' : Value} (h : Asun v v') : v.ownBlock = none ∨ v.ownBlock ≠ v'.ownBlock := by
  cases hv : v.ownBlock with
  | none => exact .inl rfl
  | some j => exact .inr fun q => h j hv q.symm
/-- A row that has grown lies apart from another one still. -/
theorem Asun.grow {W : World} {v v' : Value} {base e sz n g cap k H : Nat} {xs : List Value} (h : Asun v v') (ho : W.ownsRow base e sz v' n xs) (hH : W.heap.size ≤ H) (hat : v.ownBlock = some g ∨ g = H) : Asun (.slice (some ⟨g, 0, none⟩) k cap) v' := by
  intro j hj q
  have e : g = j := by
    have : (some g : Option Nat) = some j := hj
    exact Option.some.inj this
  subst e
  rcases hat with hat | hat
  · exact h g hat q
  · have := (ho.lt g q).2
    omega
theorem newb_step {w wr w6 : World} {N X k l gg : Nat} {vR vW v0 v1 v2 v3 v4 u0 u1 u2 u3 u4 : Value} {xs ys : List Value} {o : Obj} (hX : Quin X wr v0 v1 v2 v3 v4) (hQ : Quin N wr u0 u1 u2 u3 u4) (hNX : N < X) (hoR : wr.ownsRow (X + 1) 3 1 vR k xs) (hoW : wr.ownsRow (X + 1) 3 1 vW l ys) (hA : Asun vR vW) (hB : Below w.heap.size w wr) (hwX : w.heap.size ≤ X)
    (hgrow : (wr.alloc o).grownBy w6 vR.ownBlock) (hat : vR.ownBlock = some gg ∨ gg = wr.heap.size + 1) :
    Quin X w6 v0 v1 v2 v3 v4 ∧ Quin N w6 u0 u1 u2 u3 u4 ∧ w6.ownsRow (X + 1) 3 1 vW l ys ∧ (∀ K cap, Asun (.slice (some ⟨gg, 0, none⟩) K cap) vW) ∧ Below w.heap.size w w6 := by
  have hs := hB.size
  refine ⟨(hX.alloc _).grown hgrow (row_apart hoR (Nat.lt_succ_self _)), (hQ.alloc _).grown hgrow (row_apart hoR (by omega)), (hoW.alloc _).kept hgrow hA.symm.ne, fun K cap => Asun.grow hA (hoW.alloc o) (by simp) hat, (hB.alloc hB.size _).grown hgrow (by simp; omega) (fun j q => ?_)⟩
  have := (hoR.lt j q).1
  omega
theorem newb_put2 {w w6 : World} {N X k l : Nat} {vR vW v0 v1 v2 v3 v4 u0 u1 u2 u3 u4 : Value} {xs ys : List Value} (hX : Quin X w6 v0 v1 v2 v3 v4) (hQ : Quin N w6 u0 u1 u2 u3 u4) (hNX : N < X) (hoR : w6.ownsRow (X + 1) 3 1 vR k xs) (hoW : w6.ownsRow (X + 1) 3 1 vW l ys) (hB : Below w.heap.size w w6) (hwX : w.heap.size ≤ X) (v : Value) :
    Quin X (w6.setCell ⟨X, 2, none⟩ v) v0 v1 v v3 v4 ∧ Quin N (w6.setCell ⟨X, 2, none⟩ v) u0 u1 u2 u3 u4 ∧ (w6.setCell ⟨X, 2, none⟩ v).ownsRow (X + 1) 3 1 vR k xs ∧ (w6.setCell ⟨X, 2, none⟩ v).ownsRow (X + 1) 3 1 vW l ys ∧ Below w.heap.size w (w6.setCell ⟨X, 2, none⟩ v) :=
  ⟨hX.set2 v, hQ.other (by omega) v, ownsRow_setCell_below hoR (Nat.lt_succ_self _) v, ownsRow_setCell_below hoW (Nat.lt_succ_self _) v, hB.setCell hwX v⟩
theorem newb_put3 {w w6 : World} {N X k l : Nat} {vR vW v0 v1 v2 v3 v4 u0 u1 u2 u3 u4 : Value} {xs ys : List Value} (hX : Quin X w6 v0 v1 v2 v3 v4) (hQ : Quin N w6 u0 u1 u2 u3 u4) (hNX : N < X) (hoR : w6.ownsRow (X + 1) 3 1 vR k xs) (hoW : w6.ownsRow (X + 1) 3 1 vW l ys) (hB : Below w.heap.size w w6) (hwX : w.heap.size ≤ X) (v : Value) :
    Quin X (w6.setCell ⟨X, 3, none⟩ v) v0 v1 v2 v v4 ∧ Quin N (w6.setCell ⟨X, 3, none⟩ v) u0 u1 u2 u3 u4 ∧ (w6.setCell ⟨X, 3, none⟩ v).ownsRow (X + 1) 3 1 vR k xs ∧ (w6.setCell ⟨X, 3, none⟩ v).ownsRow (X + 1) 3 1 vW l ys ∧ Below w.heap.size w (w6.setCell ⟨X, 3, none⟩ v) :=
  ⟨hX.set3 v, hQ.other (by omega) v, ownsRow_setCell_below hoR (Nat.lt_succ_self _) v, ownsRow_setCell_below hoW (Nat.lt_succ_self _) v, hB.setCell hwX v⟩
theorem newb_step4 {w wr w6 : World} {N X F n q : Nat} {vR vW vH v0 v1 v2 v3 v4 u0 u1 u2 u3 u4 : Value} {xs ys zs : List Value} {o : Obj} (hX : Quin X wr v0 v1 v2 v3 v4) (hQ : Quin N wr u0 u1 u2 u3 u4) (hNX : N < X) (hXF : X < F) (hoR : wr.ownsRow (X + 1) 3 1 vR n xs) (hoW : wr.ownsRow (X + 1) 3 1 vW n ys) (hoH : wr.ownsRow F 3 1 vH q zs) (hvR : ∀ j, vR.ownBlock = some j → j < F) (hvW : ∀ j, vW.ownBlock = some j → j < F) (hB : Below w.heap.size w wr) (hwX : w.heap.size ≤ X)
    (hgrow : ((wr.alloc o).drew).grownBy w6 vH.ownBlock) :
    Quin X w6 v0 v1 v2 v3 v4 ∧ Quin N w6 u0 u1 u2 u3 u4 ∧ w6.ownsRow (X + 1) 3 1 vR n xs ∧ w6.ownsRow (X + 1) 3 1 vW n ys ∧ Below w.heap.size w w6 ∧ wr.heap.size ≤ w6.heap.size := by
  have hs := hB.size
  have hF : ∀ (v : Value), (∀ j, v.ownBlock = some j → j < F) → v.ownBlock = none ∨ v.ownBlock ≠ vH.ownBlock := fun v hv => by
    cases hvb : v.ownBlock with
    | none => exact .inl rfl
    | some j => exact .inr fun e => by have h1 := hv j hvb; have h2 := (hoH.lt j e.symm).1; omega
  have hz := hgrow.size
  have hz2 : ((wr.alloc o).drew).heap.size = wr.heap.size + 1 := by simp
  refine ⟨((hX.alloc _).drew).grown hgrow (row_apart hoH hXF), ((hQ.alloc _).drew).grown hgrow (row_apart hoH (by omega)), ((hoR.alloc _).drew).kept hgrow (hF vR hvR), ((hoW.alloc _).drew).kept hgrow (hF vW hvW), ((hB.alloc hB.size _).drew).grown hgrow (by simp; omega) (fun j e => ?_), by omega⟩
  have := (hoH.lt j e).1
  omega
/-- A call of Pow2, as one step of a region that draws. -/
theorem step_pow2 {ops : Array Oper} {o : Oper} {a : Act} {w : World} {K : Act → World → Prop} {Q : Exit → Act → World → Prop} {E : Prop} (hgd : o.guard = none) (x : Operand) (ho : o.op = .call { callee := .value (.func 23), args := #[x], argTypes := #[3] })
    (u : Value) (hx : a.eval x = u) (v : Value) (hc : Calls Tryd.prog 23 #[u] w fun e w' => e = .returned v ∧ w' = w) (h : K (a.put o.dst v) w) : if Region.wanted o (yielded ops a.tmps) = true then Oper.wp Tryd.prog o a w K Q else E := by
  have hw : Region.wanted o (yielded ops a.tmps) = true := by simp [Region.wanted, hgd]
  rw [if_pos hw]
  unfold Oper.wp execOp
  simp only [ho, resolve, invoke, Sem.run_bind, List.map_toArray, List.map_cons, List.map_nil, hx]
  clear ho hx hw hgd
  go_simp
  refine hc.mono ?_
  rintro e w' ⟨rfl, rfl⟩
  exact h
theorem rowI_zero (k : Nat) : rowI (k + 1) (fun _ => (0 : Int)) = rowI k (fun _ => 0) ++ [.int .i64 0] := (rowI_snoc k (fun _ => (0 : Int))).symm
set_option maxHeartbeats 80000000 in
theorem refNew_ok (a1 a2 : Option Addr) (n c1 m c2 : Nat) (z y : Nat → Int × Int) (hn : n ≤ 8) (hm : m ≤ 8) (hz : AllLab n z) (hy : AllLab m y) (w : World) (h1 : AtLabs w a1 n z) (h2 : AtLabs w a2 m y) :
    Calls Tryd.prog 7 #[.slice a1 n c1, .slice a2 m c2] w fun e w' => ∃ vR vW vH, e = .returned (.tuple #[.agg #[.slice a1 n c1, .slice a2 m c2, vR, vW, vH], .int .i64 0]) ∧ LRef (fun _ => True) w' vR vW vH (newSt n m z y) ∧ Below w.heap.size w w' := by
  have hBa : Below w.heap.size w (w.alloc (.cells #[nil0, nil0, nil0, nil0, nil0] 26)) := (Below.refl _ _).alloc (Nat.le_refl _) _
  have hQ := Quin.new w nil0 nil0 nil0 nil0 nil0 26
  have tL := fun W hW => refLabs_code a1 n c1 z 0 (.inr (.inl ⟨rfl, hn, hz⟩)) W (h1.below (W := W) hW)
  have tM := fun W hW => refLabs_code a2 m c2 y 0 (.inr (.inl ⟨rfl, hm, hy⟩)) W (h2.below (W := W) hW)
  replace tL := tL _ hBa
  have hn' : (n : Int) ≤ 8 := by omega
  have hm' : (m : Int) ≤ 8 := by omega
  obtain ⟨i0, hi0, hz0, hz1, hz2⟩ := info_parts info3i
  obtain ⟨W, hW⟩ : ∃ x, w.alloc (.cells #[nil0, nil0, nil0, nil0, nil0] 26) = x := ⟨_, rfl⟩
  rw [hW] at hBa hQ tL
  unfold nil0 at hW hQ
  clear h1 h2
  go_enter Tryd.func7, Tryd.ntmps7
  go_wp2_with fail
  refine tL.mono ?_
  clear tL
  rintro e w3 ⟨rfl, hB3⟩
  have hB4 := hBa.trans (hB3.mono hBa.size)
  replace hQ := hQ.below hB3
  go_wp2_with fail
  refine (tM w3 hB4).mono ?_
  clear tM
  rintro e w5 ⟨rfl, hB5⟩
  have hB6 := hB4.trans (hB5.mono hB4.size)
  replace hQ := hQ.below hB5
  clear hBa hB3 hB4 hB5 hW
  have hX := Quin.new w5 (.slice a1 n c1) (.slice a2 m c2) (.slice none 0 0) (.slice none 0 0) (.slice none 0 0) 26
  have hQ0 := hQ.alloc (.cells #[.slice a1 n c1, .slice a2 m c2, .slice none 0 0, .slice none 0 0, .slice none 0 0] 26)
  have hN5 := hQ.lt
  have hB7 : Below w.heap.size w (w5.alloc (.cells #[.slice a1 n c1, .slice a2 m c2, .slice none 0 0, .slice none 0 0, .slice none 0 0] 26)) := hB6.alloc hB6.size _
  have hs5 := hB6.size
  clear hQ hB6
  go_wp2_with fail
  go_loopg [8] n (fun d i wr => ∃ (k : Nat) (vR vW : Value), k ≤ n ∧ d = n - k ∧ i = .int .i64 k ∧ Quin w.heap.size wr (.slice none 0 0) (.slice none 0 0) (.slice none 0 0) (.slice none 0 0) (.slice none 0 0) ∧ Quin w5.heap.size wr (.slice a1 n c1) (.slice a2 m c2) vR vW (.slice none 0 0) ∧ wr.ownsRow (w5.heap.size + 1) 3 1 vR k (rowI k (fun _ => 0)) ∧ wr.ownsRow (w5.heap.size + 1) 3 1 vW k (rowI k (fun _ => 0)) ∧ Asun vR vW ∧ Below w.heap.size w wr)
  case atStart => exact ⟨0, _, _, by omega, rfl, rfl, hQ0, hX, World.ownsRow_nil _ _ _ _, World.ownsRow_nil _ _ _ _, (fun j h => by cases h), hB7⟩
  case round =>
    clear hX hQ0 hB7
    obtain ⟨k, vR, vW, hk, rfl, rfl, hQ, hX, hoR, hoW, hA, hB⟩ := hrel
    have lX := hX.lt
    by_cases hlt : k < n
    · have hlt' : (k : Int) < (n : Int) := by omega
      have hb1 : k + 1 ≤ maxLen := by unfold maxLen; omega
      have hb2 : (k + 1) * 8 ≤ 140737488355328 := by omega
      have hS := rowI_zero k
      obtain ⟨xs, hxs⟩ : ∃ x, rowI k (fun _ => (0 : Int)) = x := ⟨_, rfl⟩
      rw [hxs] at hoR hoW hS
      have HS := Hid.mkI hS
      clear hxs hS
      obtain ⟨b0, b1, b2, b3, b4, g0, g1, g2, g3, g4⟩ := id hX
      go_wp2_with (first | (at_builtin; refine wpList_append_lies _ rfl _ _ _ rfl (w5.heap.size + 1) 3 i0 _ 1 8 Tryd.underlying24 hi0 hz0 hz1 hz2 rfl (by omega) vR k xs rfl (hoR.alloc _) ⟨wr.heap.size, 0, none⟩ 1 1 [.int .i64 0] rfl rfl (World.news_of_block (heap_alloc_new _ _)) (by simp [Value.oneCell']) (by omega) hb1 hb2 (by simp; omega) (wr.heap.size + 1) (by simp) ?_; intro gg cap w6 hoR6 hgrow hat hlt6; obtain ⟨hX6, hQ6, hoW6, hA6, hB6⟩ := newb_step hX hQ hN5 hoR hoW hA hB hs5 hgrow hat; clear hX hQ hoR hoW hA hB hgrow hat b0 b1 b2 b3 b4 g0 g1 g2 g3 g4 lX; obtain ⟨b0, b1, b2, b3, b4, g0, g1, g2, g3, g4⟩ := id hX6; obtain ⟨hX7, hQ7, hoR7, hoW7, hB7⟩ := newb_put2 hX6 hQ6 hN5 hoR6 hoW6 hB6 hs5 (.slice (some ⟨gg, 0, none⟩) (k + 1) cap); have hA7 := hA6 (k + 1) cap; obtain ⟨w7, hw7⟩ : ∃ x, w6.setCell ⟨w5.heap.size, 2, none⟩ (.slice (some ⟨gg, 0, none⟩) (k + 1) cap) = x := ⟨_, rfl⟩; rw [hw7] at hX7 hQ7 hoR7 hoW7 hB7; have l7 := hX7.lt; obtain ⟨d0, d1, d2, d3, d4, f0, f1, f2, f3, f4⟩ := id hX7) | (at_builtin; refine wpList_append_lies _ rfl _ _ _ rfl (w5.heap.size + 1) 3 i0 _ 1 8 Tryd.underlying24 hi0 hz0 hz1 hz2 rfl (by omega) vW k xs rfl (hoW7.alloc _) ⟨w7.heap.size, 0, none⟩ 1 1 [.int .i64 0] rfl rfl (World.news_of_block (heap_alloc_new _ _)) (by simp [Value.oneCell']) (by omega) hb1 hb2 (by simp; omega) (w7.heap.size + 1) (by simp) ?_; intro g2 cap2 w8 hoW8 hgrow2 hat2 hlt8; obtain ⟨hX8, hQ8, hoR8, hA8, hB8⟩ := newb_step hX7 hQ7 hN5 hoW7 hoR7 hA7.symm hB7 hs5 hgrow2 hat2; clear hX7 hQ7 hoR7 hoW7 hA7 hB7 hgrow2 hat2 d0 d1 d2 d3 d4 f0 f1 f2 f3 f4; obtain ⟨d0, d1, d2, d3, d4, f0, f1, f2, f3, f4⟩ := id hX8))
      obtain ⟨hX9, hQ9, hoR9, hoW9, hB9⟩ := newb_put3 hX8 hQ8 hN5 hoR8 hoW8 hB8 hs5 (.slice (some ⟨g2, 0, none⟩) (k + 1) cap2)
      go_roundg (n - (k + 1))
      case measure => omega
      case rel => exact ⟨k + 1, _, _, by omega, rfl, by go_num, hQ9, hX9, by rw [HS.out]; exact hoR9, by rw [HS.out]; exact hoW9, (hA8 _ _).symm, hB9⟩
    · have hge : (n : Int) ≤ (k : Int) := by omega
      obtain rfl : k = n := by omega
      have hvR : ∀ j, vR.ownBlock = some j → j < wr.heap.size := fun j e => (hoR.lt j e).2
      have hvW : ∀ j, vW.ownBlock = some j → j < wr.heap.size := fun j e => (hoW.lt j e).2
      clear hlt hk hA
      go_wp2_with fail
      obtain ⟨wf, rfl⟩ : ∃ wf, wf = wr := ⟨_, rfl⟩
      go_loopg [9] m (fun d i wr => ∃ (q : Nat) (vH : Value), q ≤ m ∧ d = m - q ∧ i = .int .i64 q ∧ Quin w.heap.size wr (.slice none 0 0) (.slice none 0 0) (.slice none 0 0) (.slice none 0 0) (.slice none 0 0) ∧ Quin w5.heap.size wr (.slice a1 k c1) (.slice a2 m c2) vR vW vH ∧ wr.ownsRow (w5.heap.size + 1) 3 1 vR k (rowI k (fun _ => 0)) ∧ wr.ownsRow (w5.heap.size + 1) 3 1 vW k (rowI k (fun _ => 0)) ∧ wr.ownsRow wf.heap.size 3 1 vH q (rowI q (fun i => ((2 ^ i : Nat) : Int))) ∧ Below w.heap.size w wr ∧ wf.heap.size ≤ wr.heap.size)
      case atStart => exact ⟨0, _, by omega, rfl, rfl, hQ, hX, hoR, hoW, World.ownsRow_nil _ _ _ _, hB, Nat.le_refl _⟩
      case round =>
        clear hQ hX hoR hoW hB
        obtain ⟨q, vH, hq, rfl, rfl, hQ, hX, hoR, hoW, hoH, hB, hsz⟩ := hrel
        by_cases hlt : q < m
        · have hlt' : (q : Int) < (m : Int) := by omega
          have hb1 : q + 1 ≤ maxLen := by unfold maxLen; omega
          have hb2 : (q + 1) * 8 ≤ 140737488355328 := by omega
          have tP := fun W => pow2_any q (by omega) W
          have hS := rowI_snoc q (fun i => ((2 ^ i : Nat) : Int))
          obtain ⟨xs, hxs⟩ : ∃ x, rowI q (fun i => ((2 ^ i : Nat) : Int)) = x := ⟨_, rfl⟩
          rw [hxs] at hoH hS
          obtain ⟨px, hpx⟩ : ∃ x, 2 ^ q = x := ⟨_, rfl⟩
          simp only [hpx] at tP hS
          have HS := Hid.mkI hS
          clear hxs hS hpx
          obtain ⟨b0, b1, b2, b3, b4, g0, g1, g2, g3, g4⟩ := id hX
          have b4a := cell_alloc_l (.cells #[.int .i64 (px : Int)] 3) b4
          go_wp2_with fail
          go_region_law (first | ((refine step_append_lies _ (by rfl) _ _ _ (by rfl) wf.heap.size 3 i0 _ 1 8 Tryd.underlying24 hi0 hz0 hz1 hz2 rfl (by omega) vH q xs (by rfl) ((hoH.alloc _).drew) ⟨wr.heap.size, 0, none⟩ 1 1 [.int .i64 (px : Int)] (by rfl) (by rfl) (World.news_of_block (heap_alloc_new wr _)) (by simp [Value.oneCell']) (by omega) hb1 hb2 (by simp; omega) (wr.heap.size + 1) (by simp) ?_; intro gg cap w6 hoH6 hgrow hat hlt6; obtain ⟨hX6, hQ6, hoR6, hoW6, hB6, hs6⟩ := newb_step4 hX hQ hN5 lX hoR hoW hoH hvR hvW hB hs5 hgrow; obtain ⟨d0, d1, d2, d3, d4, f0, f1, f2, f3, f4⟩ := id hX6)) | (refine step_pow2 (by rfl) _ (by rfl) (.int .i64 (q : Int)) (by rfl) (.int .i64 (px : Int)) (tP _) ?_))
          all_goals
            go_wp2_with fail
            go_roundg (m - (q + 1))
            case measure => omega
            case rel => exact ⟨q + 1, _, by omega, rfl, by go_num, hQ6.other (by omega) _, hX6.set4 _, ownsRow_setCell_below hoR6 (Nat.lt_succ_self _) _, ownsRow_setCell_below hoW6 (Nat.lt_succ_self _) _, by rw [← HS.out]; exact ownsRow_setCell_below hoH6 (by simp; omega) _, hB6.setCell hs5 _, by simp; omega⟩
        · have hge2 : (m : Int) ≤ (q : Int) := by omega
          obtain rfl : q = m := by omega
          have lR : Lstp (fun b => w.heap.size < b) wr vR k (fun _ => 0) := lstp_of_row hoR (fun b hb => by omega)
          have lW : Lstp (fun b => w.heap.size < b) wr vW k (fun _ => 0) := lstp_of_row hoW (fun b hb => by omega)
          have lH : Lstp (fun b => w.heap.size < b) wr vH q (fun i => ((2 ^ i : Nat) : Int)) := lstp_of_row hoH (fun b hb => by omega)
          obtain ⟨pR, cR, rfl, -⟩ := id lR
          obtain ⟨pW, cW, rfl, -⟩ := id lW
          obtain ⟨pH, cH, rfl, -⟩ := id lH
          obtain ⟨b0, b1, b2, b3, b4, -, -, -, -, -⟩ := id hX
          obtain ⟨d0, d1, d2, d3, d4, f0, f1, f2, f3, f4⟩ := id hQ
          have hne : ∀ b, w.heap.size < b → b ≠ w.heap.size := fun b hb => by omega
          have lR2 := lR.put5 (u0 := .slice a1 k c1) (u1 := .slice a2 q c2) (u2 := .slice pR k cR) (u3 := .slice pW k cW) (u4 := .slice pH q cH) hne
          have lW2 := lW.put5 (u0 := .slice a1 k c1) (u1 := .slice a2 q c2) (u2 := .slice pR k cR) (u3 := .slice pW k cW) (u4 := .slice pH q cH) hne
          have lH2 := lH.put5 (u0 := .slice a1 k c1) (u1 := .slice a2 q c2) (u2 := .slice pR k cR) (u3 := .slice pW k cW) (u4 := .slice pH q cH) hne
          have hBz := below_put5 (u0 := .slice a1 k c1) (u1 := .slice a2 q c2) (u2 := .slice pR k cR) (u3 := .slice pW k cW) (u4 := .slice pH q cH) hB (Nat.le_refl _)
          clear lR lW lH hoR hoW hoH hX hQ hvR hvW
          go_wp2_with fail
          unfold put5 at lR2 lW2 lH2 hBz
          (try simp only [Exit.inBlock, Exit.then])
          refine bodyPost_ret (v := .tuple #[.agg #[.slice a1 k c1, .slice a2 q c2, .slice pR k cR, .slice pW k cW, .slice pH q cH], .int .i64 0]) ?_ rfl ⟨_, _, _, rfl, ⟨(lR2.weak fun _ _ _ => trivial).like fun i _ => rfl, (lW2.weak fun _ _ _ => trivial).like fun i _ => rfl, (lH2.weak fun _ _ _ => trivial).like fun i _ => rfl⟩, hBz⟩
          rw [results_cell_tmp rfl]
          go_simp
end Go.Proofs.YteheaeihoameeaaDoor
