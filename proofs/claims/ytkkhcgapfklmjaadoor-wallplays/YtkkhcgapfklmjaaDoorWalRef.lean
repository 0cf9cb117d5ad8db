/- What the document's wall answers where the ask is none (AskWall). -/
import Derived.WalkKit
import Derived.LoopTactic
import Derived.Laws.ResultCell
import Derived.Test.YtkkhcgapfklmjaaDoorWalMon
import Derived.Test.YtkkhcgapfklmjaaDoorBibRef
import Derived.Test.YtkkhcgapfklmjaaDoorRefSet
namespace Go.Proofs.YtkkhcgapfklmjaaDoor
open Go.RowKit
attribute [local go_sem ↓] Go.wp_at_zero Go.wp_at_succ
set_option maxRecDepth 100000

/-- The document's wall as three lists. -/
structure WRef (P : Nat → Prop) (W : World) (vT vS vH : Value) (s : WallSt) : Prop where
  lt : Lstp P W vT s.nf (fun i => (s.tr i : Int))
  ls : Lstp P W vS s.nu (fun i => (s.saw i : Int))
  lh : Lstp P W vH s.nf (fun i => (s.hol i : Int))
/-- What lies in the places of a call of AskWall. -/
structure Desk3 (N : Nat) (W : World) (v0 v1 v2 : Value) (k u f t : Int) : Prop where
  b0 : W.cell? ⟨N, 0, none⟩ = some v0
  b1 : W.cell? ⟨N, 1, none⟩ = some v1
  b2 : W.cell? ⟨N, 2, none⟩ = some v2
  g0 : W.frozen? ⟨N, 0, none⟩ = false
  g1 : W.frozen? ⟨N, 1, none⟩ = false
  g2 : W.frozen? ⟨N, 2, none⟩ = false
  a0 : W.cell? ⟨N + 1, 0, none⟩ = some (.int .i64 k)
  a1 : W.cell? ⟨N + 1, 1, none⟩ = some (.int .i64 u)
  a2 : W.cell? ⟨N + 1, 2, none⟩ = some (.int .i64 f)
  a3 : W.cell? ⟨N + 1, 3, none⟩ = some (.int .i64 t)
  r0 : W.cell? ⟨N + 2, 0, none⟩ = some (.slice none 0 0)
  r1 : W.cell? ⟨N + 2, 1, none⟩ = some (.slice none 0 0)
  r2 : W.cell? ⟨N + 2, 2, none⟩ = some (.slice none 0 0)
  q0 : W.frozen? ⟨N + 2, 0, none⟩ = false
  q1 : W.frozen? ⟨N + 2, 1, none⟩ = false
  q2 : W.frozen? ⟨N + 2, 2, none⟩ = false
theorem desk3_of (w : World) (v0 v1 v2 : Value) (k u f t : Int) (t1 t2 t3 : TypeId) {W : World}
    (h : ((w.alloc (.cells #[v0, v1, v2] t1)).alloc (.cells #[.int .i64 k, .int .i64 u, .int .i64 f, .int .i64 t] t2)).alloc (.cells #[.slice none 0 0, .slice none 0 0, .slice none 0 0] t3) = W) : Desk3 w.heap.size W v0 v1 v2 k u f t ∧ Below w.heap.size w W ∧ w.heap.size + 2 < W.heap.size := by
  have h1 := World.alloc_heap_new w (.cells #[v0, v1, v2] t1)
  have h2 := World.alloc_heap_new (w.alloc (.cells #[v0, v1, v2] t1)) (.cells #[.int .i64 k, .int .i64 u, .int .i64 f, .int .i64 t] t2)
  have h3 := World.alloc_heap_new ((w.alloc (.cells #[v0, v1, v2] t1)).alloc (.cells #[.int .i64 k, .int .i64 u, .int .i64 f, .int .i64 t] t2)) (.cells #[.slice none 0 0, .slice none 0 0, .slice none 0 0] t3)
  simp only [World.size_alloc] at h2 h3
  have e1 : W.heap[w.heap.size]? = some (.cells #[v0, v1, v2] t1) := by
    rw [← h, Below.heap_alloc _ _ _ (by simp; omega), Below.heap_alloc _ _ _ (by simp), h1]
  have e2 : W.heap[w.heap.size + 1]? = some (.cells #[.int .i64 k, .int .i64 u, .int .i64 f, .int .i64 t] t2) := by
    rw [← h, Below.heap_alloc _ _ _ (by simp), h2]
  have e3 : W.heap[w.heap.size + 2]? = some (.cells #[.slice none 0 0, .slice none 0 0, .slice none 0 0] t3) := by
    rw [← h, h3]
  refine ⟨⟨?_, ?_, ?_, ?_, ?_, ?_, ?_, ?_, ?_, ?_, ?_, ?_, ?_, ?_, ?_, ?_⟩, ?_, ?_⟩
  · simp only [World.cell?]; rw [e1]; simp
  · simp only [World.cell?]; rw [e1]; simp
  · simp only [World.cell?]; rw [e1]; simp
  · simp only [World.frozen?]; rw [e1]; simp
  · simp only [World.frozen?]; rw [e1]; simp
  · simp only [World.frozen?]; rw [e1]; simp
  · simp only [World.cell?]; rw [e2]; simp
  · simp only [World.cell?]; rw [e2]; simp
  · simp only [World.cell?]; rw [e2]; simp
  · simp only [World.cell?]; rw [e2]; simp
  · simp only [World.cell?]; rw [e3]; simp
  · simp only [World.cell?]; rw [e3]; simp
  · simp only [World.cell?]; rw [e3]; simp
  · simp only [World.frozen?]; rw [e3]; simp
  · simp only [World.frozen?]; rw [e3]; simp
  · simp only [World.frozen?]; rw [e3]; simp
  · rw [← h]
    exact (((Below.refl _ w).alloc (Nat.le_refl _) _).alloc (by simp) _).alloc (by simp; omega) _
  · rw [← h]; simp
section
variable {N : Nat} {W W' : World} {v0 v1 v2 : Value} {k u g t : Int}
theorem Desk3.lt (h : Desk3 N W v0 v1 v2 k u g t) : N + 2 < W.heap.size := old_of_cell h.r0
theorem Desk3.below (h : Desk3 N W v0 v1 v2 k u g t) (b : Below W.heap.size W W') : Desk3 N W' v0 v1 v2 k u g t := by
  have c := fun o => b.cell (p := ⟨N, o, none⟩) (by have := h.lt; show N < _; omega)
  have c1 := fun o => b.cell (p := ⟨N + 1, o, none⟩) (by have := h.lt; show N + 1 < _; omega)
  have c2 := fun o => b.cell (p := ⟨N + 2, o, none⟩) h.lt
  have z := fun o => b.frozen (p := ⟨N, o, none⟩) (by have := h.lt; show N < _; omega)
  have z2 := fun o => b.frozen (p := ⟨N + 2, o, none⟩) h.lt
  exact ⟨(c _).trans h.b0, (c _).trans h.b1, (c _).trans h.b2, (z _).trans h.g0, (z _).trans h.g1, (z _).trans h.g2, (c1 _).trans h.a0, (c1 _).trans h.a1, (c1 _).trans h.a2, (c1 _).trans h.a3,
    (c2 _).trans h.r0, (c2 _).trans h.r1, (c2 _).trans h.r2, (z2 _).trans h.q0, (z2 _).trans h.q1, (z2 _).trans h.q2⟩
theorem Desk3.drawn (h : Desk3 N W v0 v1 v2 k u g t) (n : Nat) : Desk3 N (W.drewN n) v0 v1 v2 k u g t := ⟨h.b0, h.b1, h.b2, h.g0, h.g1, h.g2, h.a0, h.a1, h.a2, h.a3, h.r0, h.r1, h.r2, h.q0, h.q1, h.q2⟩
theorem Desk3.drew (h : Desk3 N W v0 v1 v2 k u g t) : Desk3 N W.drew v0 v1 v2 k u g t := h.drawn 1
end
set_option maxHeartbeats 2000000 in
theorem refWall_out (P : Nat → Prop) (vT vS vH : Value) (s : WallSt) (k u f t : Int) (ok : WallOk s) (hin : (inQ k 0 1 && (inB u s.nu && inB f s.nf)) = false) (w : World) (h : WRef P w vT vS vH s) :
    Calls Tryd.prog 16 #[.agg #[vT, vS, vH], ask4 k u f t] w fun e w' => e = .returned (.tuple #[.agg #[vT, vS, vH], .int .i64 1]) ∧ Below w.heap.size w w' := by
  obtain ⟨⟨aT, cT, rfl, _⟩, ⟨aS, cS, rfl, _⟩, ⟨aH, cH, rfl, _⟩⟩ := h
  have hnu := ok.nu
  have hnf := ok.nf
  have hnu' : (s.nu : Int) ≤ 8 := by omega
  have hnf' : (s.nf : Int) ≤ 8 := by omega
  have tK := fun W => refIn_any k 0 1 W
  have tU := fun W => refIn_any u 0 ((s.nu : Int) - 1) W
  have tF := fun W => refIn_any f 0 ((s.nf : Int) - 1) W
  have iu : inQ u 0 ((s.nu : Int) - 1) = inB u s.nu := by unfold inQ inB; congr 1; simp; omega
  have jf : inQ f 0 ((s.nf : Int) - 1) = inB f s.nf := by unfold inQ inB; congr 1; simp; omega
  rw [iu] at tU
  rw [jf] at tF
  obtain ⟨W, hW⟩ : ∃ W, ((w.alloc (.cells #[.slice aT s.nf cT, .slice aS s.nu cS, .slice aH s.nf cH] 40)).alloc (.cells #[.int .i64 k, .int .i64 u, .int .i64 f, .int .i64 t] 32)).alloc (.cells #[.slice none 0 0, .slice none 0 0, .slice none 0 0] 40) = W := ⟨_, rfl⟩
  obtain ⟨⟨b0, b1, b2, g0, g1, g2, a0, a1, a2, a3, r0, r1, r2, q0, q1, q2⟩, hB, hlt⟩ := desk3_of _ _ _ _ _ _ _ _ _ _ _ hW
  have hfin : Below w.heap.size w (((W.setCell ⟨w.heap.size + 2, 0, none⟩ (.slice aT s.nf cT)).setCell ⟨w.heap.size + 2, 1, none⟩ (.slice aS s.nu cS)).setCell ⟨w.heap.size + 2, 2, none⟩ (.slice aH s.nf cH)) :=
    ((hB.setCell (by simp) _).setCell (by simp) _).setCell (by simp) _
  obtain ⟨x1, hx1⟩ : ∃ x, inQ k 0 1 = x := ⟨_, rfl⟩
  obtain ⟨x2, hx2⟩ : ∃ x, inB u s.nu = x := ⟨_, rfl⟩
  obtain ⟨x3, hx3⟩ : ∃ x, inB f s.nf = x := ⟨_, rfl⟩
  rw [hx1] at tK hin
  rw [hx2] at tU hin
  rw [hx3] at tF hin
  obtain ⟨nu, hnu⟩ : ∃ x, s.nu = x := ⟨_, rfl⟩
  obtain ⟨nf, hnf⟩ : ∃ x, s.nf = x := ⟨_, rfl⟩
  simp only [hnu, hnf] at *
  clear hx1 hx2 hx3 hnu hnf iu jf
  cases x1 with
  | false => as_aux_lemma =>
    clear tU tF hin
    go_enter Tryd.func16, Tryd.ntmps16
    go_wp2_with (go_at_call 22; refine (tK _).mono ?_; clear tK; rintro e w' ⟨rfl, hw⟩; obtain rfl := hw.symm)
    (try simp only [Exit.inBlock, Exit.then])
    refine bodyPost_ret (v := .tuple #[.agg #[.slice aT nf cT, .slice aS nu cS, .slice aH nf cH], .int .i64 1]) ?_ rfl ⟨rfl, hfin⟩
    rw [results_cell_tmp rfl]
    go_simp
  | true =>
    cases x2 with
    | false => as_aux_lemma =>
      clear tF hin
      go_enter Tryd.func16, Tryd.ntmps16
      go_wp2_with (first | (go_at_call 22; refine (tK _).mono ?_; clear tK; rintro e w' ⟨rfl, hw⟩; obtain rfl := hw.symm) | (go_at_call 22; refine (tU _).mono ?_; clear tU; rintro e w' ⟨rfl, hw⟩; obtain rfl := hw.symm))
      (try simp only [Exit.inBlock, Exit.then])
      refine bodyPost_ret (v := .tuple #[.agg #[.slice aT nf cT, .slice aS nu cS, .slice aH nf cH], .int .i64 1]) ?_ rfl ⟨rfl, hfin⟩
      rw [results_cell_tmp rfl]
      go_simp
    | true =>
      obtain rfl : x3 = false := by simpa using hin
      clear hin
      as_aux_lemma =>
      go_enter Tryd.func16, Tryd.ntmps16
      go_wp2_with (first | (go_at_call 22; refine (tK _).mono ?_; clear tK; rintro e w' ⟨rfl, hw⟩; obtain rfl := hw.symm) | (go_at_call 22; refine (tU _).mono ?_; clear tU; rintro e w' ⟨rfl, hw⟩; obtain rfl := hw.symm) | (go_at_call 22; refine (tF _).mono ?_; clear tF; rintro e w' ⟨rfl, hw⟩; obtain rfl := hw.symm))
      (try simp only [Exit.inBlock, Exit.then])
      refine bodyPost_ret (v := .tuple #[.agg #[.slice aT nf cT, .slice aS nu cS, .slice aH nf cH], .int .i64 1]) ?_ rfl ⟨rfl, hfin⟩
      rw [results_cell_tmp rfl]
      go_simp
end Go.Proofs.YtkkhcgapfklmjaaDoor
