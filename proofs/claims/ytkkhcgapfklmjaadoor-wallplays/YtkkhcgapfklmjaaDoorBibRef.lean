/- What the document's monitor of levels answers (Levels, AskBiba). -/
import Derived.WalkKit
import Derived.LoopTactic
import Derived.Laws.ResultCell
import Derived.Deep.Cut
import Derived.Deep.QuietTactic
import Derived.BigQuiet
import Derived.Deep.RegionHeld3
import Derived.Deep.DrawnRows
import Derived.Test.YtkkhcgapfklmjaaDoorBibMon
import Derived.Test.YtkkhcgapfklmjaaDoorRefSet
namespace Go.Proofs.YtkkhcgapfklmjaaDoor
open Go.RowKit
attribute [local go_sem ↓] Go.wp_at_zero Go.wp_at_succ
set_option maxRecDepth 100000

theorem refLev_full (a : Option Addr) (n cap : Nat) (hn : 8 < n) (w : World) :
    Calls Tryd.prog 13 #[.slice a n cap, .int .i64 8] w fun e w' => e = .returned (.int .i64 4) ∧ w' = w := by
  have h : (8 : Int) < (n : Int) := by omega
  go_enter Tryd.func13, Tryd.ntmps13
  go_wp2
  go_ret
  exact ⟨rfl, rfl⟩
theorem refLev_walk (a : Option Addr) (n cap : Nat) (zs : List Int) (hn : n ≤ 8) (w : World) (hl : AtNums w a n zs) :
    Calls Tryd.prog 13 #[.slice a n cap, .int .i64 8] w fun e w' => ((e = .returned (.int .i64 0) ∧ AllLev n zs) ∨ (e = .returned (.int .i64 1) ∧ ∃ i, i < n ∧ ¬ IsLev (zs[i]?.getD 0))) ∧ w' = w := by
  have hn8 : (n : Int) ≤ 8 := by omega
  go_enter Tryd.func13, Tryd.ntmps13
  go_wp2
  go_loop [5] (fun i => ∃ k : Nat, k ≤ n ∧ i = .int .i64 k ∧ Hid (AllLev k zs)) (fun i => n - (intOf i).toNat)
  case atStart => exact ⟨0, by omega, rfl, fun _ h => absurd h (by omega)⟩
  case round =>
    obtain ⟨k, hk, rfl, HA⟩ := hrel
    by_cases hlt : k < n
    · have hlt' : (k : Int) < (n : Int) := by omega
      rcases hl with hl | ⟨b, off, rfl, hl⟩
      · omega
      have a1 := hl.cell k hlt
      obtain ⟨x, hx⟩ : ∃ x, zs[k]?.getD 0 = x := ⟨_, rfl⟩
      rw [hx] at a1
      have HX : Hid (zs[k]?.getD 0 = x) := hx
      clear hx
      have t := fun W => refIn_any x 0 7 W
      by_cases h0 : 0 ≤ x ∧ x ≤ 7
      · rw [(inQ_iff x 0 7).2 h0] at t
        have HN : Hid (AllLev (k + 1) zs) := fun i hi => by
          by_cases e : i = k
          · subst e; rw [HX.out]; exact h0
          · exact HA.out i (by omega)
        clear HA HX h0
        go_wp2_with (go_at_call 22; refine (t _).mono ?_; rintro e w' ⟨rfl, rfl⟩)
        go_round
        case rel => exact ⟨k + 1, by omega, by go_num, HN⟩
        case measure => simp [intOf]; omega
      · rw [show inQ x 0 7 = false from decide_eq_false h0] at t
        have HN : Hid (¬ IsLev (zs[k]?.getD 0)) := by rw [HX.out]; exact h0
        clear HA HX h0
        go_wp2_with (go_at_call 22; refine (t _).mono ?_; rintro e w' ⟨rfl, rfl⟩)
        go_ret
        exact ⟨.inr ⟨rfl, k, hlt, HN.out⟩, rfl⟩
    · have hge : (n : Int) ≤ (k : Int) := by omega
      have HN : Hid (AllLev n zs) := by
        obtain rfl : k = n := by omega
        exact HA.out
      clear HA
      go_wp2
      go_ret
      exact ⟨.inl ⟨rfl, HN.out⟩, rfl⟩
theorem refLev_code (a : Option Addr) (n cap : Nat) (zs : List Int) (c : Int) (hc : levCode n zs c) (w : World) (hl : AtNums w a n zs) :
    Calls Tryd.prog 13 #[.slice a n cap, .int .i64 8] w fun e w' => e = .returned (.int .i64 c) ∧ w' = w := by
  rcases hc with ⟨rfl, hn⟩ | ⟨rfl, hn, hz⟩ | ⟨rfl, hn, i, hi, hz⟩
  · exact refLev_full a n cap hn w
  · refine (refLev_walk a n cap zs hn w hl).mono fun e w' ⟨h, hw⟩ => ⟨?_, hw⟩
    rcases h with ⟨he, _⟩ | ⟨_, i, hi, hb⟩
    · exact he
    · exact absurd (hz i hi) hb
  · refine (refLev_walk a n cap zs hn w hl).mono fun e w' ⟨h, hw⟩ => ⟨?_, hw⟩
    rcases h with ⟨_, h⟩ | ⟨he, _⟩
    · exact absurd (h i hi) hz
    · exact he

/-- The document's monitor as four lists. -/
structure BRef (P : Nat → Prop) (W : World) (vU vF vW vH : Value) (s : BibSt) : Prop where
  lu : Lstp P W vU s.nu (fun i => (s.ul i : Int))
  lf : Lstp P W vF s.nf (fun i => (s.fl i : Int))
  lw : Lstp P W vW s.nf (fun i => (s.fw i : Int))
  lh : Lstp P W vH s.nu (fun i => (s.uh i : Int))
/-- What lies in the places of a call of AskBiba. -/
structure Desk (N : Nat) (W : World) (v0 v1 v2 v3 : Value) (k u f t : Int) : Prop where
  b0 : W.cell? ⟨N, 0, none⟩ = some v0
  b1 : W.cell? ⟨N, 1, none⟩ = some v1
  b2 : W.cell? ⟨N, 2, none⟩ = some v2
  b3 : W.cell? ⟨N, 3, none⟩ = some v3
  g0 : W.frozen? ⟨N, 0, none⟩ = false
  g1 : W.frozen? ⟨N, 1, none⟩ = false
  g2 : W.frozen? ⟨N, 2, none⟩ = false
  g3 : W.frozen? ⟨N, 3, none⟩ = false
  a0 : W.cell? ⟨N + 1, 0, none⟩ = some (.int .i64 k)
  a1 : W.cell? ⟨N + 1, 1, none⟩ = some (.int .i64 u)
  a2 : W.cell? ⟨N + 1, 2, none⟩ = some (.int .i64 f)
  a3 : W.cell? ⟨N + 1, 3, none⟩ = some (.int .i64 t)
  r0 : W.cell? ⟨N + 2, 0, none⟩ = some (.slice none 0 0)
  r1 : W.cell? ⟨N + 2, 1, none⟩ = some (.slice none 0 0)
  r2 : W.cell? ⟨N + 2, 2, none⟩ = some (.slice none 0 0)
  r3 : W.cell? ⟨N + 2, 3, none⟩ = some (.slice none 0 0)
  q0 : W.frozen? ⟨N + 2, 0, none⟩ = false
  q1 : W.frozen? ⟨N + 2, 1, none⟩ = false
  q2 : W.frozen? ⟨N + 2, 2, none⟩ = false
  q3 : W.frozen? ⟨N + 2, 3, none⟩ = false
theorem desk_of (w : World) (v0 v1 v2 v3 : Value) (k u f t : Int) (t1 t2 t3 : TypeId) {W : World}
    (h : ((w.alloc (.cells #[v0, v1, v2, v3] t1)).alloc (.cells #[.int .i64 k, .int .i64 u, .int .i64 f, .int .i64 t] t2)).alloc (.cells #[.slice none 0 0, .slice none 0 0, .slice none 0 0, .slice none 0 0] t3) = W) : Desk w.heap.size W v0 v1 v2 v3 k u f t ∧ Below w.heap.size w W ∧ w.heap.size + 2 < W.heap.size := by
  have h1 := World.alloc_heap_new w (.cells #[v0, v1, v2, v3] t1)
  have h2 := World.alloc_heap_new (w.alloc (.cells #[v0, v1, v2, v3] t1)) (.cells #[.int .i64 k, .int .i64 u, .int .i64 f, .int .i64 t] t2)
  have h3 := World.alloc_heap_new ((w.alloc (.cells #[v0, v1, v2, v3] t1)).alloc (.cells #[.int .i64 k, .int .i64 u, .int .i64 f, .int .i64 t] t2)) (.cells #[.slice none 0 0, .slice none 0 0, .slice none 0 0, .slice none 0 0] t3)
  simp only [World.size_alloc] at h2 h3
  have e1 : W.heap[w.heap.size]? = some (.cells #[v0, v1, v2, v3] t1) := by
    rw [← h, Below.heap_alloc _ _ _ (by simp; omega), Below.heap_alloc _ _ _ (by simp), h1]
  have e2 : W.heap[w.heap.size + 1]? = some (.cells #[.int .i64 k, .int .i64 u, .int .i64 f, .int .i64 t] t2) := by
    rw [← h, Below.heap_alloc _ _ _ (by simp), h2]
  have e3 : W.heap[w.heap.size + 2]? = some (.cells #[.slice none 0 0, .slice none 0 0, .slice none 0 0, .slice none 0 0] t3) := by
    rw [← h, h3]
  refine ⟨⟨?_, ?_, ?_, ?_, ?_, ?_, ?_, ?_, ?_, ?_, ?_, ?_, ?_, ?_, ?_, ?_, ?_, ?_, ?_, ?_⟩, ?_, ?_⟩
  · simp only [World.cell?]; rw [e1]; simp
  · simp only [World.cell?]; rw [e1]; simp
  · simp only [World.cell?]; rw [e1]; simp
  · simp only [World.cell?]; rw [e1]; simp
  · simp only [World.frozen?]; rw [e1]; simp
  · simp only [World.frozen?]; rw [e1]; simp
  · simp only [World.frozen?]; rw [e1]; simp
  · simp only [World.frozen?]; rw [e1]; simp
  · simp only [World.cell?]; rw [e2]; simp
  · simp only [World.cell?]; rw [e2]; simp
  · simp only [World.cell?]; rw [e2]; simp
  · simp only [World.cell?]; rw [e2]; simp
  · simp only [World.cell?]; rw [e3]; simp
  · simp only [World.cell?]; rw [e3]; simp
  · simp only [World.cell?]; rw [e3]; simp
  · simp only [World.cell?]; rw [e3]; simp
  · simp only [World.frozen?]; rw [e3]; simp
  · simp only [World.frozen?]; rw [e3]; simp
  · simp only [World.frozen?]; rw [e3]; simp
  · simp only [World.frozen?]; rw [e3]; simp
  · rw [← h]
    exact (((Below.refl _ w).alloc (Nat.le_refl _) _).alloc (by simp) _).alloc (by simp; omega) _
  · rw [← h]; simp
end Go.Proofs.YtkkhcgapfklmjaaDoor
