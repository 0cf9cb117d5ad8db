/- What reading and writing answer (read, write), and what they ask of all files (read$1, write$1). -/
import Derived.WalkKit
import Derived.LoopTactic
import Derived.Deep.RegionHeld3
import Derived.Deep.DrawnRows
import Derived.Deep.Cut
import Derived.Test.YteheaeihoameeaaDoorBellMon
namespace Go.Proofs.YteheaeihoameeaaDoor
open Go.RowKit
attribute [local go_sem ↓] Go.wp_at_zero Go.wp_at_succ
set_option maxRecDepth 100000

/-- What lies in the places that a function of all files captured. -/
structure Caught (W : World) (p q B : Nat) (l t : Nat) : Prop where
  m : W.cell? ⟨q, 0, none⟩ = some (.pointer (some ⟨B, 0, none⟩))
  c1 : W.cell? ⟨p, 0, none⟩ = some (.int .i64 (l : Int))
  c2 : W.cell? ⟨p, 1, none⟩ = some (.int .i64 (t : Int))

set_option maxHeartbeats 1000000 in
theorem read1_any {n0 n1 B gu gf cu cf : Nat} {au af : Option Addr} {W : World} {s : BellSt} (h : Mon n0 n1 B au af gu gf cu cf W s) (ok : BellOk s) (p r l t : Nat) (hl : l ≤ 7) (ht : t < 256) (hc : Caught W p r B l t) (q : Nat) (hq : q < s.nf) :
    Calls Tryd.prog 50 #[.int .i64 (q : Int), .pointer (some ⟨p, 0, none⟩), .pointer (some ⟨r, 0, none⟩)] W fun e w' => e = .returned (.bool (belB l t (s.fl q) (s.fs q))) ∧ Below W.heap.size W w' := by
  obtain ⟨m1, m2, m3⟩ := hc
  obtain ⟨rfl, _, _⟩ := h.hf (by omega)
  have c1 := h.c1
  have f0 := h.f0 q hq
  have f1 := h.f1 q hq
  have hb := fun W' => bbelow_ok l t (s.fl q) (s.fs q) hl ht (ok.fl q hq) (ok.fs q hq) W'
  have hqi : (q : Int) < (s.nf : Int) := by omega
  have hq0 : (0 : Int) ≤ (q : Int) := by omega
  obtain ⟨b, hbe⟩ : ∃ b, belB l t (s.fl q) (s.fs q) = b := ⟨_, rfl⟩
  obtain ⟨x, hx⟩ : ∃ x, s.fl q = x := ⟨_, rfl⟩
  obtain ⟨y, hy⟩ : ∃ x, s.fs q = x := ⟨_, rfl⟩
  obtain ⟨k, hk⟩ : ∃ x, s.nf = x := ⟨_, rfl⟩
  rw [hbe] at hb ⊢
  rw [hx] at f0 hb
  rw [hy] at f1 hb
  rw [hk] at c1 hqi
  clear hbe hx hy hk h ok hq
  go_enter Tryd.func50, Tryd.ntmps50
  go_wp2
  go_region_held3 (fun w' => w'.cell? ⟨r, 0, none⟩ = some (.pointer (some ⟨B, 0, none⟩)) ∧ w'.cell? ⟨p, 0, none⟩ = some (.int .i64 (l : Int)) ∧ w'.cell? ⟨p, 1, none⟩ = some (.int .i64 (t : Int)) ∧ w'.cell? ⟨B, 1, none⟩ = some (.slice (some ⟨gf, 0, none⟩) k cf) ∧ w'.cell? ⟨gf, q * 3, none⟩ = some (.int .i64 (x : Int)) ∧ w'.cell? ⟨gf, q * 3 + 1, none⟩ = some (.int .i64 (y : Int))) (first | go_keep | (go_split_ands; refine ⟨?_, ?_, ?_, ?_, ?_, ?_⟩ <;> exact keep_cell hB (by assumption)))
    ((go_at_call 51; refine (hb _).mono ?_; rintro e w' ⟨rfl, hB⟩))
  go_wp2
  go_ret
  exact ⟨rfl, undrew2 hB⟩
set_option maxHeartbeats 1000000 in
theorem write1_any {n0 n1 B gu gf cu cf : Nat} {au af : Option Addr} {W : World} {s : BellSt} (h : Mon n0 n1 B au af gu gf cu cf W s) (ok : BellOk s) (p r l t : Nat) (hl : l ≤ 7) (ht : t < 256) (hc : Caught W p r B l t) (q : Nat) (hq : q < s.nf) :
    Calls Tryd.prog 53 #[.int .i64 (q : Int), .pointer (some ⟨r, 0, none⟩), .pointer (some ⟨p, 0, none⟩)] W fun e w' => e = .returned (.bool (belB (s.fl q) (s.fs q) l t)) ∧ Below W.heap.size W w' := by
  obtain ⟨m1, m2, m3⟩ := hc
  obtain ⟨rfl, _, _⟩ := h.hf (by omega)
  have c1 := h.c1
  have f0 := h.f0 q hq
  have f1 := h.f1 q hq
  have hb := fun W' => bbelow_ok (s.fl q) (s.fs q) l t (ok.fl q hq) (ok.fs q hq) hl ht W'
  have hqi : (q : Int) < (s.nf : Int) := by omega
  have hq0 : (0 : Int) ≤ (q : Int) := by omega
  obtain ⟨b, hbe⟩ : ∃ b, belB (s.fl q) (s.fs q) l t = b := ⟨_, rfl⟩
  obtain ⟨x, hx⟩ : ∃ x, s.fl q = x := ⟨_, rfl⟩
  obtain ⟨y, hy⟩ : ∃ x, s.fs q = x := ⟨_, rfl⟩
  obtain ⟨k, hk⟩ : ∃ x, s.nf = x := ⟨_, rfl⟩
  rw [hbe] at hb ⊢
  rw [hx] at f0 hb
  rw [hy] at f1 hb
  rw [hk] at c1 hqi
  clear hbe hx hy hk h ok hq
  go_enter Tryd.func53, Tryd.ntmps53
  go_wp2
  go_region_held3 (fun w' => w'.cell? ⟨r, 0, none⟩ = some (.pointer (some ⟨B, 0, none⟩)) ∧ w'.cell? ⟨p, 0, none⟩ = some (.int .i64 (l : Int)) ∧ w'.cell? ⟨p, 1, none⟩ = some (.int .i64 (t : Int)) ∧ w'.cell? ⟨B, 1, none⟩ = some (.slice (some ⟨gf, 0, none⟩) k cf) ∧ w'.cell? ⟨gf, q * 3, none⟩ = some (.int .i64 (x : Int)) ∧ w'.cell? ⟨gf, q * 3 + 1, none⟩ = some (.int .i64 (y : Int))) (first | go_keep | (go_split_ands; refine ⟨?_, ?_, ?_, ?_, ?_, ?_⟩ <;> exact keep_cell hB (by assumption)))
    ((go_at_call 51; refine (hb _).mono ?_; rintro e w' ⟨rfl, hB⟩))
  go_wp2
  go_ret
  exact ⟨rfl, undrew2 hB⟩
theorem Caught.below {W W' : World} {p q B l t : Nat} (h : Caught W p q B l t) (b : Below W.heap.size W W') : Caught W' p q B l t := ⟨keep_cell b h.m, keep_cell b h.c1, keep_cell b h.c2⟩
theorem allRead_any {n0 n1 B gu gf cu cf : Nat} {au af : Option Addr} {W : World} {s : BellSt} (h : Mon n0 n1 B au af gu gf cu cf W s) (ok : BellOk s) (hT : Tab W) (p r l t : Nat) (hl : l ≤ 7) (ht : t < 256) (hc : Caught W p r B l t) (set : Nat) (hs : set < 2 ^ s.nf) :
    Calls Tryd.prog 52 #[.int .i64 set, .func (.func 50) #[] #[.pointer (some ⟨p, 0, none⟩), .pointer (some ⟨r, 0, none⟩)]] W fun e w' => e = .returned (.bool (allB s.nf set fun g => belB l t (s.fl g) (s.fs g))) ∧ Below W.heap.size W w' :=
  callsIn_wide.1 (allRead_in 4 s.nf set _ _ (fun g => belB l t (s.fl g) (s.fs g)) (Nat.le_refl _) (by have := ok.nf; omega) hs W hT fun q hq _ b => read1_any (h.below b) ok p r l t hl ht (hc.below b) q hq)
theorem allWrite_any {n0 n1 B gu gf cu cf : Nat} {au af : Option Addr} {W : World} {s : BellSt} (h : Mon n0 n1 B au af gu gf cu cf W s) (ok : BellOk s) (hT : Tab W) (p r l t : Nat) (hl : l ≤ 7) (ht : t < 256) (hc : Caught W p r B l t) (set : Nat) (hs : set < 2 ^ s.nf) :
    Calls Tryd.prog 52 #[.int .i64 set, .func (.func 53) #[] #[.pointer (some ⟨r, 0, none⟩), .pointer (some ⟨p, 0, none⟩)]] W fun e w' => e = .returned (.bool (allB s.nf set fun g => belB (s.fl g) (s.fs g) l t)) ∧ Below W.heap.size W w' :=
  callsIn_wide.1 (allWrite_in 4 s.nf set _ _ (fun g => belB (s.fl g) (s.fs g) l t) (Nat.le_refl _) (by have := ok.nf; omega) hs W hT fun q hq _ b => write1_any (h.below b) ok p r l t hl ht (hc.below b) q hq)
end Go.Proofs.YteheaeihoameeaaDoor
