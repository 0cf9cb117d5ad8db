/- The planner: how it lies in memory, and its steps (take, grant, create, passBy). -/
import Derived.WalkKit
import Derived.LoopTactic
import Derived.OwnWalk
import Derived.Maps.AppendAt
import Derived.Test.YtdmdoikkemfcaaaDoorTakCan
namespace Go.Proofs.YtdmdoikkemfcaaaDoor
open Go.RowKit
set_option maxRecDepth 100000

/-- The cells of a step, of steps. -/
def stpC (s : Stp) : List Value := [.int .i64 s.k, .int .i64 s.who, .int .i64 s.of, .int .i64 s.to, .int .i64 s.r]
def flatS (l : List Stp) : List Value := l.flatMap stpC
theorem flatS_snoc (l : List Stp) (s : Stp) : flatS (l ++ [s]) = flatS l ++ stpC s := by simp [flatS]
/-- The planner lies in memory: the graph, the steps so far, how many vertices. -/
structure Plnr (X : Nat) (w : World) (gv : Value) (l : List Stp) (vt : Nat) (v : Value) : Prop where
  c0 : w.cell? ⟨X, 0, none⟩ = some gv
  c1 : w.cell? ⟨X, 1, none⟩ = some v
  c2 : w.cell? ⟨X, 2, none⟩ = some (.int .i64 (vt : Nat))
  f1 : w.frozen? ⟨X, 1, none⟩ = false
  f2 : w.frozen? ⟨X, 2, none⟩ = false
  own : w.ownsRow (X + 1) 63 5 v l.length (flatS l)
section
variable {X : Nat} {w w' : World} {gv v v' : Value} {l : List Stp} {vt : Nat}
theorem Plnr.lt (h : Plnr X w gv l vt v) : X < w.heap.size := old_of_cell h.c0
theorem Plnr.below (h : Plnr X w gv l vt v) (k : Below w.heap.size w w') : Plnr X w' gv l vt v :=
  ⟨keep_cell k h.c0, keep_cell k h.c1, keep_cell k h.c2, (k.frozen (p := ⟨X, 1, none⟩) h.lt).trans h.f1, (k.frozen (p := ⟨X, 2, none⟩) h.lt).trans h.f2, ownsRow_stays h.own k⟩
theorem Plnr.drawn (h : Plnr X w gv l vt v) (k : Nat) : Plnr X (w.drewN k) gv l vt v := h.below (below_drawn (Below.refl _ _) k)
/-- A step is put. -/
theorem Plnr.push (h : Plnr X w gv l vt v) {s : Stp} (ho : w'.ownsRow (X + 1) 63 5 v' (l.length + 1) (flatS l ++ stpC s)) (hg : w.grownBy w' v.ownBlock) :
    w'.cell? ⟨X, 1, none⟩ = some v ∧ w'.frozen? ⟨X, 1, none⟩ = false ∧ Plnr X (w'.setCell ⟨X, 1, none⟩ v') gv (l ++ [s]) vt v' := by
  have hne : some X ≠ v.ownBlock := fun q => by have := (h.own.lt X q.symm).1; omega
  have k := fun o => hg.cell_far ⟨X, o, none⟩ h.lt hne
  have z := fun o => hg.frozen_far ⟨X, o, none⟩ h.lt hne
  refine ⟨(k 1).trans h.c1, (z 1).trans h.f1, (cell_far (by omega)).trans ((k 0).trans h.c0), World.cell?_setCell_same' _ _ _ (by rw [k 1, h.c1]; rfl), (cell_far (by omega)).trans ((k 2).trans h.c2), (World.frozen?_setCell _ _ _ _).trans ((z 1).trans h.f1), (World.frozen?_setCell _ _ _ _).trans ((z 2).trans h.f2), ?_⟩
  rw [List.length_append, flatS_snoc]
  exact ownsRow_setCell_below ho (by simp only; omega) _
theorem Plnr.verts (h : Plnr X w gv l vt v) (u : Nat) : Plnr X (w.setCell ⟨X, 2, none⟩ (.int .i64 (u : Int))) gv l u v :=
  ⟨(cell_far (by omega)).trans h.c0, (cell_far (by omega)).trans h.c1, World.cell?_setCell_same' _ _ _ (by rw [h.c2]; rfl), (World.frozen?_setCell _ _ _ _).trans h.f1, (World.frozen?_setCell _ _ _ _).trans h.f2, ownsRow_setCell_below h.own (by simp only; omega) _⟩
theorem Plnr.block (h : Plnr X w gv l vt v) : ∀ k, v.ownBlock = some k → X ≤ k := fun k hk => by have := (h.own.lt k hk).1; omega
end
theorem row_someK {w : World} {base e k n : Nat} {v : Value} {xs : List Value} (h : w.ownsRow base e k v n xs) (hn : 0 < n) : ∃ g cap, v = .slice (some ⟨g, 0, none⟩) n cap := by
  obtain ⟨_, ⟨_, h0⟩ | ⟨g, cap, _, hv, _⟩⟩ := h
  · omega
  · exact ⟨g, cap, hv⟩
theorem infoStp : (Tryd.prog.info? 63).map (fun i => (i.zero, i.size, i.bytes)) = some (some (.agg #[.int .i64 0, .int .i64 0, .int .i64 0, .int .i64 0, .int .i64 0]), 5, 40) := by kernel_rfl
theorem cell_five_new (w : World) (s : Stp) (t : TypeId) : ∀ j u, (stpC s)[j]? = some u → (w.alloc (.cells #[.int .i64 s.k, .int .i64 s.who, .int .i64 s.of, .int .i64 s.to, .int .i64 s.r] t)).cell? ((⟨w.heap.size, 0, none⟩ : Addr).add j) = some u := by
  intro j u hj
  have h1 := World.alloc_heap_new w (.cells #[.int .i64 s.k, .int .i64 s.who, .int .i64 s.of, .int .i64 s.to, .int .i64 s.r] t)
  rw [Go.WideShapes.add_plain, Nat.zero_add]
  simp only [World.cell?]
  rw [h1]
  rw [← hj]
  simp [stpC]
theorem stpC_one (s : Stp) : ∀ u ∈ stpC s, u.oneCell' = true := by
  intro u hu
  simp only [stpC, List.mem_cons, List.not_mem_nil, or_false] at hu
  rcases hu with rfl | rfl | rfl | rfl | rfl <;> rfl
section
variable {X : Nat} {w : World} {gv v : Value} {l : List Stp} {vt : Nat}
set_option maxHeartbeats 1000000 in
theorem pTake_any (h : Plnr X w gv l vt v) (hl : l.length < 1000000000) (a b c d : Int) :
    Calls Tryd.prog 68 #[.pointer (some ⟨X, 0, none⟩), .int .i64 a, .int .i64 b, .int .i64 c, .int .i64 d] w fun e w' => (∃ u, e = .returned u) ∧ (∃ v', Plnr X w' gv (l ++ [⟨0, a, b, c, d⟩]) vt v') ∧ Below X w w' := by
  obtain ⟨i0, hi0, hz0, hz1, hz2⟩ := info_parts infoStp
  have hXw := Nat.le_of_lt h.lt
  have c1 := h.c1
  have hh := h.below ((Below.refl _ w).alloc (Nat.le_refl _) (.cells #[.int .i64 0, .int .i64 a, .int .i64 b, .int .i64 c, .int .i64 d] 63))
  have hBa : Below X w (w.alloc (.cells #[.int .i64 0, .int .i64 a, .int .i64 b, .int .i64 c, .int .i64 d] 63)) := (Below.refl _ w).alloc hXw _
  have hown := hh.own
  have hcn := cell_five_new w ⟨0, a, b, c, d⟩ 63
  have hone := stpC_one ⟨0, a, b, c, d⟩
  have hc4 : l.length + 1 ≤ maxLen := by unfold maxLen; omega
  have hc5 : (l.length + 1) * 40 ≤ 140737488355328 := by omega
  have hb3 : X + 1 ≤ (w.alloc (.cells #[.int .i64 0, .int .i64 a, .int .i64 b, .int .i64 c, .int .i64 d] 63)).heap.size := by have := h.lt; simp; omega
  have HP : Hid (∀ v' w3, w3.ownsRow (X + 1) 63 5 v' (l.length + 1) (flatS l ++ stpC ⟨0, a, b, c, d⟩) → (w.alloc (.cells #[.int .i64 0, .int .i64 a, .int .i64 b, .int .i64 c, .int .i64 d] 63)).grownBy w3 v.ownBlock → (∃ g cp, v' = .slice (some ⟨g, 0, none⟩) (l.length + 1) cp) ∧ (w3.cell? ⟨X, 1, none⟩ = some v ∧ w3.frozen? ⟨X, 1, none⟩ = false ∧ Plnr X (w3.setCell ⟨X, 1, none⟩ v') gv (l ++ [⟨0, a, b, c, d⟩]) vt v') ∧ Below X w (w3.setCell ⟨X, 1, none⟩ v')) := fun v' w3 ho hg =>
    ⟨row_someK ho (by omega), hh.push ho hg, (hBa.grown hg (Nat.le_of_lt hb3) hh.block).setCell (p := ⟨X, 1, none⟩) (Nat.le_refl _) _⟩
  clear h hh
  go_enter Tryd.func68, Tryd.ntmps68
  go_wp2_with (at_builtin; refine wpList_append_own _ rfl _ _ 28 rfl (X + 1) 63 i0 (.agg #[.int .i64 0, .int .i64 0, .int .i64 0, .int .i64 0, .int .i64 0]) 5 40 Tryd.underlying28 hi0 hz0 hz1 hz2 rfl (by decide) v l.length (flatS l) rfl hown ⟨_, 0, none⟩ 1 1 (stpC ⟨0, a, b, c, d⟩) rfl rfl hcn hone hc4 hc5 hb3 ?_; intro v' w3 hown' hgrow hnil; obtain ⟨⟨gg, cc, rfl⟩, ⟨d1, d2, hP⟩, hB3⟩ := HP.out v' w3 hown' hgrow)
  go_end0
  exact ⟨⟨_, rfl⟩, ⟨_, hP⟩, hB3⟩
set_option maxHeartbeats 1000000 in
theorem pGrant_any (h : Plnr X w gv l vt v) (hl : l.length < 1000000000) (a b c d : Int) :
    Calls Tryd.prog 69 #[.pointer (some ⟨X, 0, none⟩), .int .i64 a, .int .i64 b, .int .i64 c, .int .i64 d] w fun e w' => (∃ u, e = .returned u) ∧ (∃ v', Plnr X w' gv (l ++ [⟨1, a, b, c, d⟩]) vt v') ∧ Below X w w' := by
  obtain ⟨i0, hi0, hz0, hz1, hz2⟩ := info_parts infoStp
  have hXw := Nat.le_of_lt h.lt
  have c1 := h.c1
  have hh := h.below ((Below.refl _ w).alloc (Nat.le_refl _) (.cells #[.int .i64 1, .int .i64 a, .int .i64 b, .int .i64 c, .int .i64 d] 63))
  have hBa : Below X w (w.alloc (.cells #[.int .i64 1, .int .i64 a, .int .i64 b, .int .i64 c, .int .i64 d] 63)) := (Below.refl _ w).alloc hXw _
  have hown := hh.own
  have hcn := cell_five_new w ⟨1, a, b, c, d⟩ 63
  have hone := stpC_one ⟨1, a, b, c, d⟩
  have hc4 : l.length + 1 ≤ maxLen := by unfold maxLen; omega
  have hc5 : (l.length + 1) * 40 ≤ 140737488355328 := by omega
  have hb3 : X + 1 ≤ (w.alloc (.cells #[.int .i64 1, .int .i64 a, .int .i64 b, .int .i64 c, .int .i64 d] 63)).heap.size := by have := h.lt; simp; omega
  have HP : Hid (∀ v' w3, w3.ownsRow (X + 1) 63 5 v' (l.length + 1) (flatS l ++ stpC ⟨1, a, b, c, d⟩) → (w.alloc (.cells #[.int .i64 1, .int .i64 a, .int .i64 b, .int .i64 c, .int .i64 d] 63)).grownBy w3 v.ownBlock → (∃ g cp, v' = .slice (some ⟨g, 0, none⟩) (l.length + 1) cp) ∧ (w3.cell? ⟨X, 1, none⟩ = some v ∧ w3.frozen? ⟨X, 1, none⟩ = false ∧ Plnr X (w3.setCell ⟨X, 1, none⟩ v') gv (l ++ [⟨1, a, b, c, d⟩]) vt v') ∧ Below X w (w3.setCell ⟨X, 1, none⟩ v')) := fun v' w3 ho hg =>
    ⟨row_someK ho (by omega), hh.push ho hg, (hBa.grown hg (Nat.le_of_lt hb3) hh.block).setCell (p := ⟨X, 1, none⟩) (Nat.le_refl _) _⟩
  clear h hh
  go_enter Tryd.func69, Tryd.ntmps69
  go_wp2_with (at_builtin; refine wpList_append_own _ rfl _ _ 28 rfl (X + 1) 63 i0 (.agg #[.int .i64 0, .int .i64 0, .int .i64 0, .int .i64 0, .int .i64 0]) 5 40 Tryd.underlying28 hi0 hz0 hz1 hz2 rfl (by decide) v l.length (flatS l) rfl hown ⟨_, 0, none⟩ 1 1 (stpC ⟨1, a, b, c, d⟩) rfl rfl hcn hone hc4 hc5 hb3 ?_; intro v' w3 hown' hgrow hnil; obtain ⟨⟨gg, cc, rfl⟩, ⟨d1, d2, hP⟩, hB3⟩ := HP.out v' w3 hown' hgrow)
  go_end0
  exact ⟨⟨_, rfl⟩, ⟨_, hP⟩, hB3⟩
set_option maxHeartbeats 1000000 in
theorem pCreate_any (h : Plnr X w gv l vt v) (hl : l.length < 1000000000) (hv : vt < 1000000000) (a : Int) :
    Calls Tryd.prog 70 #[.pointer (some ⟨X, 0, none⟩), .int .i64 a] w fun e w' => e = .returned (.int .i64 (vt : Nat)) ∧ (∃ v', Plnr X w' gv (l ++ [⟨2, a, 0, 0, 0⟩]) (vt + 1) v') ∧ Below X w w' := by
  obtain ⟨i0, hi0, hz0, hz1, hz2⟩ := info_parts infoStp
  have hXw := Nat.le_of_lt h.lt
  have c1 := h.c1
  have hh := h.below ((Below.refl _ w).alloc (Nat.le_refl _) (.cells #[.int .i64 2, .int .i64 a, .int .i64 0, .int .i64 0, .int .i64 0] 63))
  have hBa : Below X w (w.alloc (.cells #[.int .i64 2, .int .i64 a, .int .i64 0, .int .i64 0, .int .i64 0] 63)) := (Below.refl _ w).alloc hXw _
  have hown := hh.own
  have hcn := cell_five_new w ⟨2, a, 0, 0, 0⟩ 63
  have hone := stpC_one ⟨2, a, 0, 0, 0⟩
  have hc4 : l.length + 1 ≤ maxLen := by unfold maxLen; omega
  have hc5 : (l.length + 1) * 40 ≤ 140737488355328 := by omega
  have hb3 : X + 1 ≤ (w.alloc (.cells #[.int .i64 2, .int .i64 a, .int .i64 0, .int .i64 0, .int .i64 0] 63)).heap.size := by have := h.lt; simp; omega
  have HP : Hid (∀ v' w3, w3.ownsRow (X + 1) 63 5 v' (l.length + 1) (flatS l ++ stpC ⟨2, a, 0, 0, 0⟩) → (w.alloc (.cells #[.int .i64 2, .int .i64 a, .int .i64 0, .int .i64 0, .int .i64 0] 63)).grownBy w3 v.ownBlock → (∃ g cp, v' = .slice (some ⟨g, 0, none⟩) (l.length + 1) cp) ∧ (w3.cell? ⟨X, 1, none⟩ = some v ∧ w3.frozen? ⟨X, 1, none⟩ = false ∧ Plnr X (w3.setCell ⟨X, 1, none⟩ v') gv (l ++ [⟨2, a, 0, 0, 0⟩]) vt v') ∧ Below X w (w3.setCell ⟨X, 1, none⟩ v')) := fun v' w3 ho hg =>
    ⟨row_someK ho (by omega), hh.push ho hg, (hBa.grown hg (Nat.le_of_lt hb3) hh.block).setCell (p := ⟨X, 1, none⟩) (Nat.le_refl _) _⟩
  clear h hh
  go_enter Tryd.func70, Tryd.ntmps70
  go_wp2_with (at_builtin; refine wpList_append_own _ rfl _ _ 28 rfl (X + 1) 63 i0 (.agg #[.int .i64 0, .int .i64 0, .int .i64 0, .int .i64 0, .int .i64 0]) 5 40 Tryd.underlying28 hi0 hz0 hz1 hz2 rfl (by decide) v l.length (flatS l) rfl hown ⟨_, 0, none⟩ 1 1 (stpC ⟨2, a, 0, 0, 0⟩) rfl rfl hcn hone hc4 hc5 hb3 ?_; intro v' w3 hown' hgrow hnil; obtain ⟨⟨gg, cc, rfl⟩, ⟨d1, d2, hP⟩, hB3⟩ := HP.out v' w3 hown' hgrow; have hQ := hP.verts (vt + 1); have hB4 := hB3.setCell (p := ⟨X, 2, none⟩) (Nat.le_refl _) (.int .i64 ((vt + 1 : Nat) : Int)); have e2 := hP.c2; have e3 := hP.f2)
  go_ret
  exact ⟨by simp, ⟨_, hQ⟩, hB4⟩
end
end Go.Proofs.YtdmdoikkemfcaaaDoor
