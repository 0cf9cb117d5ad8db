/- The document's monitor of labels in memory (Labels, AskBell): what lies where, and what is refused. -/
import Derived.WalkKit
import Derived.LoopTactic
import Derived.Laws.ResultCell
import Derived.Deep.LoopGhost
import Derived.Test.YteheaeihoameeaaDoorRefSet
import Derived.Test.YteheaeihoameeaaDoorRefBel
import Derived.Test.YteheaeihoameeaaDoorRefLb
import Derived.Test.YteheaeihoameeaaDoorBellIs
namespace Go.Proofs.YteheaeihoameeaaDoor
open Go.RowKit
set_option maxRecDepth 100000

/-- A value is a list of n labels. -/
def Labl (w : World) (v : Value) (n : Nat) (l s : Nat → Nat) : Prop := ∃ a cp, v = .slice a n cp ∧ (n = 0 ∨ ∃ b off, a = some ⟨b, off, none⟩ ∧ b < w.heap.size ∧ ∀ i, i < n → w.cell? ⟨b, off + i * 2, none⟩ = some (.int .i64 (l i : Int)) ∧ w.cell? ⟨b, off + i * 2 + 1, none⟩ = some (.int .i64 (s i : Int)))
theorem Labl.below {w w' : World} {v : Value} {n : Nat} {l s : Nat → Nat} (h : Labl w v n l s) (k : Below w.heap.size w w') : Labl w' v n l s := by
  obtain ⟨a, cp, e, h | ⟨b, off, ea, hl, hc⟩⟩ := h
  · exact ⟨a, cp, e, .inl h⟩
  · exact ⟨a, cp, e, .inr ⟨b, off, ea, Nat.lt_of_lt_of_le hl k.size, fun i hi => ⟨(k.cell (p := ⟨b, off + i * 2, none⟩) hl).trans (hc i hi).1, (k.cell (p := ⟨b, off + i * 2 + 1, none⟩) hl).trans (hc i hi).2⟩⟩⟩
theorem Labl.some {w : World} {v : Value} {n : Nat} {l s : Nat → Nat} (h : Labl w v n l s) (hn : 0 < n) : ∃ b off cp, v = .slice (some ⟨b, off, none⟩) n cp ∧ b < w.heap.size ∧ ∀ i, i < n → w.cell? ⟨b, off + i * 2, none⟩ = some (.int .i64 (l i : Int)) ∧ w.cell? ⟨b, off + i * 2 + 1, none⟩ = some (.int .i64 (s i : Int)) := by
  obtain ⟨a, cp, rfl, h | ⟨b, off, rfl, hl, hc⟩⟩ := h
  · omega
  · exact ⟨b, off, cp, rfl, hl, hc⟩
/-- The document's monitor as lists. -/
structure LRef (P : Nat → Prop) (W : World) (vR vW vH : Value) (s : BellSt) : Prop where
  lr : Lstp P W vR s.nu (fun i => (s.ur i : Int))
  lw : Lstp P W vW s.nu (fun i => (s.uw i : Int))
  lh : Lstp P W vH s.nf (fun i => (s.fh i : Int))
theorem LRef.below {P : Nat → Prop} {W W' : World} {vR vW vH : Value} {s : BellSt} (h : LRef P W vR vW vH s) (k : Below W.heap.size W W') : LRef P W' vR vW vH s := ⟨h.lr.below k, h.lw.below k, h.lh.below k⟩
theorem LRef.drawn {P : Nat → Prop} {W : World} {vR vW vH : Value} {s : BellSt} (h : LRef P W vR vW vH s) (n : Nat) : LRef P (W.drewN n) vR vW vH s := ⟨h.lr.drawn n, h.lw.drawn n, h.lh.drawn n⟩
/-- What lies in the places of a call of AskBell. -/
structure Desk5 (N : Nat) (W : World) (v0 v1 v2 v3 v4 : Value) (k u f t : Int) : Prop where
  b0 : W.cell? ⟨N, 0, none⟩ = some v0
  b1 : W.cell? ⟨N, 1, none⟩ = some v1
  b2 : W.cell? ⟨N, 2, none⟩ = some v2
  b3 : W.cell? ⟨N, 3, none⟩ = some v3
  b4 : W.cell? ⟨N, 4, none⟩ = some v4
  g0 : W.frozen? ⟨N, 0, none⟩ = false
  g1 : W.frozen? ⟨N, 1, none⟩ = false
  g2 : W.frozen? ⟨N, 2, none⟩ = false
  g3 : W.frozen? ⟨N, 3, none⟩ = false
  g4 : W.frozen? ⟨N, 4, none⟩ = false
  a0 : W.cell? ⟨N + 1, 0, none⟩ = some (.int .i64 k)
  a1 : W.cell? ⟨N + 1, 1, none⟩ = some (.int .i64 u)
  a2 : W.cell? ⟨N + 1, 2, none⟩ = some (.int .i64 f)
  a3 : W.cell? ⟨N + 1, 3, none⟩ = some (.int .i64 t)
  r0 : W.cell? ⟨N + 2, 0, none⟩ = some (.slice none 0 0)
  r1 : W.cell? ⟨N + 2, 1, none⟩ = some (.slice none 0 0)
  r2 : W.cell? ⟨N + 2, 2, none⟩ = some (.slice none 0 0)
  r3 : W.cell? ⟨N + 2, 3, none⟩ = some (.slice none 0 0)
  r4 : W.cell? ⟨N + 2, 4, none⟩ = some (.slice none 0 0)
  q0 : W.frozen? ⟨N + 2, 0, none⟩ = false
  q1 : W.frozen? ⟨N + 2, 1, none⟩ = false
  q2 : W.frozen? ⟨N + 2, 2, none⟩ = false
  q3 : W.frozen? ⟨N + 2, 3, none⟩ = false
  q4 : W.frozen? ⟨N + 2, 4, none⟩ = false
section
variable {N : Nat} {W W' : World} {v0 v1 v2 v3 v4 : Value} {k u g t : Int}
theorem Desk5.lt (h : Desk5 N W v0 v1 v2 v3 v4 k u g t) : N + 2 < W.heap.size := old_of_cell h.r0
theorem Desk5.below (h : Desk5 N W v0 v1 v2 v3 v4 k u g t) (b : Below W.heap.size W W') : Desk5 N W' v0 v1 v2 v3 v4 k u g t := by
  have c := fun o => b.cell (p := ⟨N, o, none⟩) (by have := h.lt; show N < _; omega)
  have c1 := fun o => b.cell (p := ⟨N + 1, o, none⟩) (by have := h.lt; show N + 1 < _; omega)
  have c2 := fun o => b.cell (p := ⟨N + 2, o, none⟩) h.lt
  have z := fun o => b.frozen (p := ⟨N, o, none⟩) (by have := h.lt; show N < _; omega)
  have z2 := fun o => b.frozen (p := ⟨N + 2, o, none⟩) h.lt
  exact ⟨(c _).trans h.b0, (c _).trans h.b1, (c _).trans h.b2, (c _).trans h.b3, (c _).trans h.b4, (z _).trans h.g0, (z _).trans h.g1, (z _).trans h.g2, (z _).trans h.g3, (z _).trans h.g4, (c1 _).trans h.a0, (c1 _).trans h.a1, (c1 _).trans h.a2, (c1 _).trans h.a3, (c2 _).trans h.r0, (c2 _).trans h.r1, (c2 _).trans h.r2, (c2 _).trans h.r3, (c2 _).trans h.r4, (z2 _).trans h.q0, (z2 _).trans h.q1, (z2 _).trans h.q2, (z2 _).trans h.q3, (z2 _).trans h.q4⟩
theorem Desk5.drawn (h : Desk5 N W v0 v1 v2 v3 v4 k u g t) (n : Nat) : Desk5 N (W.drewN n) v0 v1 v2 v3 v4 k u g t := ⟨h.b0, h.b1, h.b2, h.b3, h.b4, h.g0, h.g1, h.g2, h.g3, h.g4, h.a0, h.a1, h.a2, h.a3, h.r0, h.r1, h.r2, h.r3, h.r4, h.q0, h.q1, h.q2, h.q3, h.q4⟩
theorem Desk5.drew (h : Desk5 N W v0 v1 v2 v3 v4 k u g t) : Desk5 N W.drew v0 v1 v2 v3 v4 k u g t := h.drawn 1
theorem Desk5.put2 (h : Desk5 N W v0 v1 v2 v3 v4 k u g t) (v : Value) : Desk5 N (W.setCell ⟨N, 2, none⟩ v) v0 v1 v v3 v4 k u g t :=
  ⟨(cell_far (by omega)).trans h.b0, (cell_far (by omega)).trans h.b1, World.cell?_setCell_same' _ _ _ (by rw [h.b2]; rfl), (cell_far (by omega)).trans h.b3, (cell_far (by omega)).trans h.b4, (World.frozen?_setCell _ _ _ _).trans h.g0, (World.frozen?_setCell _ _ _ _).trans h.g1, (World.frozen?_setCell _ _ _ _).trans h.g2, (World.frozen?_setCell _ _ _ _).trans h.g3, (World.frozen?_setCell _ _ _ _).trans h.g4, (cell_far (by omega)).trans h.a0, (cell_far (by omega)).trans h.a1, (cell_far (by omega)).trans h.a2, (cell_far (by omega)).trans h.a3, (cell_far (by omega)).trans h.r0, (cell_far (by omega)).trans h.r1, (cell_far (by omega)).trans h.r2, (cell_far (by omega)).trans h.r3, (cell_far (by omega)).trans h.r4, (World.frozen?_setCell _ _ _ _).trans h.q0, (World.frozen?_setCell _ _ _ _).trans h.q1, (World.frozen?_setCell _ _ _ _).trans h.q2, (World.frozen?_setCell _ _ _ _).trans h.q3, (World.frozen?_setCell _ _ _ _).trans h.q4⟩
theorem Desk5.put3 (h : Desk5 N W v0 v1 v2 v3 v4 k u g t) (v : Value) : Desk5 N (W.setCell ⟨N, 3, none⟩ v) v0 v1 v2 v v4 k u g t :=
  ⟨(cell_far (by omega)).trans h.b0, (cell_far (by omega)).trans h.b1, (cell_far (by omega)).trans h.b2, World.cell?_setCell_same' _ _ _ (by rw [h.b3]; rfl), (cell_far (by omega)).trans h.b4, (World.frozen?_setCell _ _ _ _).trans h.g0, (World.frozen?_setCell _ _ _ _).trans h.g1, (World.frozen?_setCell _ _ _ _).trans h.g2, (World.frozen?_setCell _ _ _ _).trans h.g3, (World.frozen?_setCell _ _ _ _).trans h.g4, (cell_far (by omega)).trans h.a0, (cell_far (by omega)).trans h.a1, (cell_far (by omega)).trans h.a2, (cell_far (by omega)).trans h.a3, (cell_far (by omega)).trans h.r0, (cell_far (by omega)).trans h.r1, (cell_far (by omega)).trans h.r2, (cell_far (by omega)).trans h.r3, (cell_far (by omega)).trans h.r4, (World.frozen?_setCell _ _ _ _).trans h.q0, (World.frozen?_setCell _ _ _ _).trans h.q1, (World.frozen?_setCell _ _ _ _).trans h.q2, (World.frozen?_setCell _ _ _ _).trans h.q3, (World.frozen?_setCell _ _ _ _).trans h.q4⟩
theorem Desk5.put4 (h : Desk5 N W v0 v1 v2 v3 v4 k u g t) (v : Value) : Desk5 N (W.setCell ⟨N, 4, none⟩ v) v0 v1 v2 v3 v k u g t :=
  ⟨(cell_far (by omega)).trans h.b0, (cell_far (by omega)).trans h.b1, (cell_far (by omega)).trans h.b2, (cell_far (by omega)).trans h.b3, World.cell?_setCell_same' _ _ _ (by rw [h.b4]; rfl), (World.frozen?_setCell _ _ _ _).trans h.g0, (World.frozen?_setCell _ _ _ _).trans h.g1, (World.frozen?_setCell _ _ _ _).trans h.g2, (World.frozen?_setCell _ _ _ _).trans h.g3, (World.frozen?_setCell _ _ _ _).trans h.g4, (cell_far (by omega)).trans h.a0, (cell_far (by omega)).trans h.a1, (cell_far (by omega)).trans h.a2, (cell_far (by omega)).trans h.a3, (cell_far (by omega)).trans h.r0, (cell_far (by omega)).trans h.r1, (cell_far (by omega)).trans h.r2, (cell_far (by omega)).trans h.r3, (cell_far (by omega)).trans h.r4, (World.frozen?_setCell _ _ _ _).trans h.q0, (World.frozen?_setCell _ _ _ _).trans h.q1, (World.frozen?_setCell _ _ _ _).trans h.q2, (World.frozen?_setCell _ _ _ _).trans h.q3, (World.frozen?_setCell _ _ _ _).trans h.q4⟩
end
theorem desk5_of (w : World) (v0 v1 v2 v3 v4 : Value) (k u f t : Int) (t1 t2 t3 : TypeId) {W : World}
    (h : ((w.alloc (.cells #[v0, v1, v2, v3, v4] t1)).alloc (.cells #[.int .i64 k, .int .i64 u, .int .i64 f, .int .i64 t] t2)).alloc (.cells #[.slice none 0 0, .slice none 0 0, .slice none 0 0, .slice none 0 0, .slice none 0 0] t3) = W) : Desk5 w.heap.size W v0 v1 v2 v3 v4 k u f t ∧ Below w.heap.size w W := by
  have h1 := World.alloc_heap_new w (.cells #[v0, v1, v2, v3, v4] t1)
  have h2 := World.alloc_heap_new (w.alloc (.cells #[v0, v1, v2, v3, v4] t1)) (.cells #[.int .i64 k, .int .i64 u, .int .i64 f, .int .i64 t] t2)
  have h3 := World.alloc_heap_new ((w.alloc (.cells #[v0, v1, v2, v3, v4] t1)).alloc (.cells #[.int .i64 k, .int .i64 u, .int .i64 f, .int .i64 t] t2)) (.cells #[.slice none 0 0, .slice none 0 0, .slice none 0 0, .slice none 0 0, .slice none 0 0] t3)
  simp only [World.size_alloc] at h2 h3
  have e1 : W.heap[w.heap.size]? = some (.cells #[v0, v1, v2, v3, v4] t1) := by
    rw [← h, Below.heap_alloc _ _ _ (by simp; omega), Below.heap_alloc _ _ _ (by simp), h1]
  have e2 : W.heap[w.heap.size + 1]? = some (.cells #[.int .i64 k, .int .i64 u, .int .i64 f, .int .i64 t] t2) := by
    rw [← h, Below.heap_alloc _ _ _ (by simp), h2]
  have e3 : W.heap[w.heap.size + 2]? = some (.cells #[.slice none 0 0, .slice none 0 0, .slice none 0 0, .slice none 0 0, .slice none 0 0] t3) := by
    rw [← h, h3]
  refine ⟨⟨?_, ?_, ?_, ?_, ?_, ?_, ?_, ?_, ?_, ?_, ?_, ?_, ?_, ?_, ?_, ?_, ?_, ?_, ?_, ?_, ?_, ?_, ?_, ?_⟩, ?_⟩
  · simp only [World.cell?]; rw [e1]; simp
  · simp only [World.cell?]; rw [e1]; simp
  · simp only [World.cell?]; rw [e1]; simp
  · simp only [World.cell?]; rw [e1]; simp
  · simp only [World.cell?]; rw [e1]; simp
  · simp only [World.frozen?]; rw [e1]; simp
  · simp only [World.frozen?]; rw [e1]; simp
  · simp only [World.frozen?]; rw [e1]; simp
  · simp only [World.frozen?]; rw [e1]; simp
  · simp only [World.frozen?]; rw [e1]; simp
  · simp only [World.cell?]; rw [e2]; simp
  · simp only [World.cell?]; rw [e2]; simp
  · simp only [World.cell?]; rw [e2]; simp
  · simp only [World.cell?]; rw [e2]; simp
  · simp only [World.cell?]; rw [e3]; simp
  · simp only [World.cell?]; rw [e3]; simp
  · simp only [World.cell?]; rw [e3]; simp
  · simp only [World.cell?]; rw [e3]; simp
  · simp only [World.cell?]; rw [e3]; simp
  · simp only [World.frozen?]; rw [e3]; simp
  · simp only [World.frozen?]; rw [e3]; simp
  · simp only [World.frozen?]; rw [e3]; simp
  · simp only [World.frozen?]; rw [e3]; simp
  · simp only [World.frozen?]; rw [e3]; simp
  · rw [← h]
    exact (((Below.refl _ w).alloc (Nat.le_refl _) _).alloc (by simp) _).alloc (by simp; omega) _
/-- What comes behind a call whose result is put. -/
def put5 (W : World) (X : Nat) (u0 u1 u2 u3 u4 : Value) : World := ((((W.setCell ⟨X, 0, none⟩ u0).setCell ⟨X, 1, none⟩ u1).setCell ⟨X, 2, none⟩ u2).setCell ⟨X, 3, none⟩ u3).setCell ⟨X, 4, none⟩ u4
theorem below_put5 {B X : Nat} {a W : World} {u0 u1 u2 u3 u4 : Value} (h : Below B a W) (hX : B ≤ X) : Below B a (put5 W X u0 u1 u2 u3 u4) := ((((h.setCell hX _).setCell hX _).setCell hX _).setCell hX _).setCell hX _
theorem Lstp.put5 {P : Nat → Prop} {X n : Nat} {W : World} {v u0 u1 u2 u3 u4 : Value} {f : Nat → Int} (h : Lstp P W v n f) (hX : ∀ b, P b → b ≠ X) : Lstp P (put5 W X u0 u1 u2 u3 u4) v n f := ((((h.put hX _).put hX _).put hX _).put hX _).put hX _

theorem refLabs_full (a : Option Addr) (n cap : Nat) (hn : 8 < n) (w : World) :
    Calls Tryd.prog 22 #[.slice a n cap, .int .i64 8] w fun e w' => e = .returned (.int .i64 4) ∧ Below w.heap.size w w' := by
  have h : (8 : Int) < (n : Int) := by omega
  go_enter Tryd.func22, Tryd.ntmps22
  go_wp2
  go_ret
  exact ⟨rfl, Below.refl _ _⟩
set_option maxHeartbeats 1000000 in
theorem refLabs_walk (a : Option Addr) (n cap : Nat) (z : Nat → Int × Int) (hn : n ≤ 8) (w : World) (hl : AtLabs w a n z) :
    Calls Tryd.prog 22 #[.slice a n cap, .int .i64 8] w fun e w' => ((e = .returned (.int .i64 0) ∧ AllLab n z) ∨ (e = .returned (.int .i64 1) ∧ ∃ i, i < n ∧ NoLab (z i).1 (z i).2)) ∧ Below w.heap.size w w' := by
  have hn8 : (n : Int) ≤ 8 := by omega
  go_enter Tryd.func22, Tryd.ntmps22
  go_wp2
  go_loopg [5] n (fun g i wr => ∃ k : Nat, k ≤ n ∧ g = n - k ∧ i = .int .i64 k ∧ Below w.heap.size w wr ∧ Hid (AllLab k z))
  case atStart => exact ⟨0, by omega, rfl, rfl, Below.refl _ _, fun _ h => absurd h (by omega)⟩
  case round =>
    obtain ⟨k, hk, rfl, rfl, hB, HA⟩ := hrel
    by_cases hlt : k < n
    · have hlt' : (k : Int) < (n : Int) := by omega
      rcases hl with hl | ⟨b, off, rfl, hl⟩
      · omega
      have a1 := (hB.cell (p := ⟨b, off + k * 2, none⟩) hl.old).trans (hl.c1 k hlt)
      have a2 := (hB.cell (p := ⟨b, off + k * 2 + 1, none⟩) hl.old).trans (hl.c2 k hlt)
      rcases lab_or (z k).1 (z k).2 with hz | hz
      · have tC := fun W => refLabel_ok (z k).1 (z k).2 hz W
        have HN : Hid (AllLab (k + 1) z) := fun i hi => by
          by_cases e : i = k
          · subst e; exact hz
          · exact HA.out i (by omega)
        clear hz HA
        as_aux_lemma =>
        go_wp2_with (go_at_call 45; refine (tC _).mono ?_; clear tC; rintro e w2 ⟨rfl, hB2⟩)
        go_roundg (n - (k + 1))
        case measure => omega
        case rel => exact ⟨k + 1, by omega, rfl, by go_num, hB.trans (hB2.mono hB.size), HN⟩
      · have tC := fun W => refLabel_no (z k).1 (z k).2 hz W
        have HN : Hid (NoLab (z k).1 (z k).2) := hz
        clear hz HA
        as_aux_lemma =>
        go_wp2_with (go_at_call 45; refine (tC _).mono ?_; clear tC; rintro e w2 ⟨rfl, hB2⟩)
        go_ret
        exact ⟨.inr ⟨rfl, k, hlt, HN.out⟩, hB.trans (hB2.mono hB.size)⟩
    · have hge : (n : Int) ≤ (k : Int) := by omega
      have HN : Hid (AllLab n z) := by
        obtain rfl : k = n := by omega
        exact HA.out
      clear HA
      go_wp2
      go_ret
      exact ⟨.inl ⟨rfl, HN.out⟩, hB⟩
theorem refLabs_code (a : Option Addr) (n cap : Nat) (z : Nat → Int × Int) (c : Int) (hc : labsCode n z c) (w : World) (hl : AtLabs w a n z) :
    Calls Tryd.prog 22 #[.slice a n cap, .int .i64 8] w fun e w' => e = .returned (.int .i64 c) ∧ Below w.heap.size w w' := by
  rcases hc with ⟨rfl, hn⟩ | ⟨rfl, hn, hz⟩ | ⟨rfl, hn, i, hi, hz⟩
  · exact refLabs_full a n cap hn w
  · refine (refLabs_walk a n cap z hn w hl).mono fun e w' ⟨h, hw⟩ => ⟨?_, hw⟩
    rcases h with ⟨he, _⟩ | ⟨_, i, hi, hb⟩
    · exact he
    · exact (isLab_not (hz i hi) hb).elim
  · refine (refLabs_walk a n cap z hn w hl).mono fun e w' ⟨h, hw⟩ => ⟨?_, hw⟩
    rcases h with ⟨_, h⟩ | ⟨he, _⟩
    · exact (isLab_not (h i hi) hz).elim
    · exact he
set_option maxHeartbeats 40000000 in
theorem refBell_out (vU vF vR vW vH : Value) (s : BellSt) (P : Nat → Prop) (k u f t : Int) (ok : BellOk s) (hin : askIn s k u f t = false) (w : World) (hU : Labl w vU s.nu s.ul s.us) (hF : Labl w vF s.nf s.fl s.fs) (h : LRef P w vR vW vH s) :
    Calls Tryd.prog 10 #[.agg #[vU, vF, vR, vW, vH], ask4 k u f t] w fun e w' => e = .returned (.tuple #[.agg #[vU, vF, vR, vW, vH], .int .i64 1]) ∧ Below w.heap.size w w' := by
  obtain ⟨aU, cU, rfl, -⟩ := hU
  obtain ⟨aF, cF, rfl, -⟩ := hF
  obtain ⟨⟨aR, cR, rfl, -⟩, ⟨aW, cW, rfl, -⟩, ⟨aH, cH, rfl, -⟩⟩ := h
  have hnu := ok.nu
  have hnf := ok.nf
  have hnu' : (s.nu : Int) ≤ 8 := by omega
  have hnf' : (s.nf : Int) ≤ 8 := by omega
  have tK := fun W => refIn_any k 0 3 W
  have tU := fun W => refIn_any u 0 ((s.nu : Int) - 1) W
  have tF := fun W => refIn_any f 0 ((s.nf : Int) - 1) W
  have tT := fun W => refIn_any t 0 ((s.nf : Int) - 1) W
  have iu : inQ u 0 ((s.nu : Int) - 1) = inB u s.nu := by unfold inQ inB; congr 1; simp; omega
  have jf : inQ f 0 ((s.nf : Int) - 1) = inB f s.nf := by unfold inQ inB; congr 1; simp; omega
  have jt : inQ t 0 ((s.nf : Int) - 1) = inB t s.nf := by unfold inQ inB; congr 1; simp; omega
  rw [iu] at tU
  rw [jf] at tF
  rw [jt] at tT
  have hk : inQ k 0 3 = decide (0 ≤ k ∧ k ≤ 3) := rfl
  rw [hk] at tK
  unfold askIn at hin
  obtain ⟨W, hW⟩ : ∃ W, ((w.alloc (.cells #[.slice aU s.nu cU, .slice aF s.nf cF, .slice aR s.nu cR, .slice aW s.nu cW, .slice aH s.nf cH] 26)).alloc (.cells #[.int .i64 k, .int .i64 u, .int .i64 f, .int .i64 t] 37)).alloc (.cells #[.slice none 0 0, .slice none 0 0, .slice none 0 0, .slice none 0 0, .slice none 0 0] 26) = W := ⟨_, rfl⟩
  obtain ⟨⟨b0, b1, b2, b3, b4, g0, g1, g2, g3, g4, a0, a1, a2, a3, r0, r1, r2, r3, r4, q0, q1, q2, q3, q4⟩, hB⟩ := desk5_of _ _ _ _ _ _ _ _ _ _ _ _ _ hW
  have hfin : Below w.heap.size w (put5 W (w.heap.size + 2) (.slice aU s.nu cU) (.slice aF s.nf cF) (.slice aR s.nu cR) (.slice aW s.nu cW) (.slice aH s.nf cH)) := below_put5 hB (by omega)
  unfold put5 at hfin
  have hk3 : decide (k ≠ 3) = !(k == 3) := by by_cases h : k = 3 <;> simp [h]
  rw [hk3] at hin
  obtain ⟨x1, hx1⟩ : ∃ x, decide (0 ≤ k ∧ k ≤ 3) = x := ⟨_, rfl⟩
  obtain ⟨x2, hx2⟩ : ∃ x, inB u s.nu = x := ⟨_, rfl⟩
  obtain ⟨x3, hx3⟩ : ∃ x, inB f s.nf = x := ⟨_, rfl⟩
  obtain ⟨x4, hx4⟩ : ∃ x, inB t s.nf = x := ⟨_, rfl⟩
  rw [hx1] at tK hin
  rw [hx2] at tU hin
  rw [hx3] at tF hin
  rw [hx4] at tT hin
  obtain ⟨nu, hnu⟩ : ∃ x, s.nu = x := ⟨_, rfl⟩
  obtain ⟨nf, hnf⟩ : ∃ x, s.nf = x := ⟨_, rfl⟩
  simp only [hnu, hnf] at *
  clear hx1 hx2 hx3 hx4 hnu hnf iu jf jt hk hk3
  cases x1 with
  | false =>
    clear tU tF tT hin
    go_enter Tryd.func10, Tryd.ntmps10
    go_wp2_with fail
    refine (tK _).mono ?_
    clear tK
    rintro e w' ⟨rfl, hw⟩
    obtain rfl := hw.symm
    clear hw
    go_wp2_with fail
    (try simp only [Exit.inBlock, Exit.then])
    refine bodyPost_ret (v := .tuple #[.agg #[.slice aU nu cU, .slice aF nf cF, .slice aR nu cR, .slice aW nu cW, .slice aH nf cH], .int .i64 1]) ?_ rfl ⟨rfl, hfin⟩
    rw [results_cell_tmp rfl]
    go_simp
  | true =>
    cases x2 with
    | false =>
      clear tF tT hin
      go_enter Tryd.func10, Tryd.ntmps10
      go_wp2_with fail
      refine (tK _).mono ?_
      clear tK
      rintro e w' ⟨rfl, hw⟩
      obtain rfl := hw.symm
      clear hw
      go_wp2_with fail
      refine (tU _).mono ?_
      clear tU
      rintro e w' ⟨rfl, hw⟩
      obtain rfl := hw.symm
      clear hw
      go_wp2_with fail
      (try simp only [Exit.inBlock, Exit.then])
      refine bodyPost_ret (v := .tuple #[.agg #[.slice aU nu cU, .slice aF nf cF, .slice aR nu cR, .slice aW nu cW, .slice aH nf cH], .int .i64 1]) ?_ rfl ⟨rfl, hfin⟩
      rw [results_cell_tmp rfl]
      go_simp
    | true =>
      cases x3 with
      | false =>
        clear tT hin
        go_enter Tryd.func10, Tryd.ntmps10
        go_wp2_with fail
        refine (tK _).mono ?_
        clear tK
        rintro e w' ⟨rfl, hw⟩
        obtain rfl := hw.symm
        clear hw
        go_wp2_with fail
        refine (tU _).mono ?_
        clear tU
        rintro e w' ⟨rfl, hw⟩
        obtain rfl := hw.symm
        clear hw
        go_wp2_with fail
        refine (tF _).mono ?_
        clear tF
        rintro e w' ⟨rfl, hw⟩
        obtain rfl := hw.symm
        clear hw
        go_wp2_with fail
        (try simp only [Exit.inBlock, Exit.then])
        refine bodyPost_ret (v := .tuple #[.agg #[.slice aU nu cU, .slice aF nf cF, .slice aR nu cR, .slice aW nu cW, .slice aH nf cH], .int .i64 1]) ?_ rfl ⟨rfl, hfin⟩
        rw [results_cell_tmp rfl]
        go_simp
      | true =>
        have hk3 : (k == 3) = true ∧ x4 = false := by simpa using hin
        obtain ⟨hk3, rfl⟩ := hk3
        clear hin
       
        go_enter Tryd.func10, Tryd.ntmps10
        go_wp2_with fail
        refine (tK _).mono ?_
        clear tK
        rintro e w' ⟨rfl, hw⟩
        obtain rfl := hw.symm
        clear hw
        go_wp2_with fail
        refine (tU _).mono ?_
        clear tU
        rintro e w' ⟨rfl, hw⟩
        obtain rfl := hw.symm
        clear hw
        go_wp2_with fail
        refine (tF _).mono ?_
        clear tF
        rintro e w' ⟨rfl, hw⟩
        obtain rfl := hw.symm
        clear hw
        go_wp2_with fail
        refine (tT _).mono ?_
        clear tT
        rintro e w' ⟨rfl, hw⟩
        obtain rfl := hw.symm
        clear hw
        go_wp2_with fail
        (try simp only [Exit.inBlock, Exit.then])
        refine bodyPost_ret (v := .tuple #[.agg #[.slice aU nu cU, .slice aF nf cF, .slice aR nu cR, .slice aW nu cW, .slice aH nf cH], .int .i64 1]) ?_ rfl ⟨rfl, hfin⟩
        rw [results_cell_tmp rfl]
        go_simp
end Go.Proofs.YteheaeihoameeaaDoor
