/- What reading, writing, copying and letting go answer (read, write, copy, drop). -/
import Derived.WalkKit
import Derived.LoopTactic
import Derived.Deep.RegionHeld3
import Derived.Deep.DrawnRows
import Derived.Deep.RegionWith
import Derived.Deep.Cut
import Derived.Test.YteheaeihoameeaaDoorBellRead
namespace Go.Proofs.YteheaeihoameeaaDoor
open Go.RowKit
attribute [local go_sem ↓] Go.wp_at_zero Go.wp_at_succ
set_option maxRecDepth 100000

theorem caught_of {W W1 : World} {B l t : Nat} {ty ty' : TypeId} (h : (W.alloc (.cells #[.pointer (some ⟨B, 0, none⟩)] ty)).alloc (.cells #[.int .i64 (l : Int), .int .i64 (t : Int)] ty') = W1) : Below W.heap.size W W1 ∧ Caught W1 (W.heap.size + 1) W.heap.size B l t := by
  have h1 := World.alloc_heap_new (W.alloc (.cells #[.pointer (some ⟨B, 0, none⟩)] ty)) (.cells #[.int .i64 (l : Int), .int .i64 (t : Int)] ty')
  rw [World.size_alloc] at h1
  rw [← h]
  refine ⟨((Below.refl _ W).alloc (Nat.le_refl _) _).alloc (by simp) _, ?_, ?_, ?_⟩
  · exact cell_alloc_l _ (cell_new_l W (.pointer (some ⟨B, 0, none⟩)) ty).1
  · simp only [World.cell?]; rw [h1]; simp
  · simp only [World.cell?]; rw [h1]; simp

set_option maxHeartbeats 1000000 in
theorem bread_yes {n0 n1 B gu gf cu cf : Nat} {au af : Option Addr} {W : World} {s : BellSt} (h : Mon n0 n1 B au af gu gf cu cf W s) (ok : BellOk s) (hT : Tab W) (u f : Nat) (hu : u < s.nu) (hf : f < s.nf)
    (hb : belB (s.fl f) (s.fs f) (s.ul u) (s.us u) = true) (ha : allB s.nf (s.uw u) (fun g => belB (s.fl f) (s.fs f) (s.fl g) (s.fs g)) = true) :
    Calls Tryd.prog 33 #[.pointer (some ⟨B, 0, none⟩), .pointer (some ⟨gu, u * 4, none⟩), .int .i64 (f : Int)] W fun e w' => e = .returned .nilIface ∧ Mon n0 n1 B au af gu gf cu cf w' { s with ur := upd s.ur u (s.ur u ||| 2 ^ f) } ∧ Betw n0 n1 W w' := by
  obtain ⟨rfl, _, _⟩ := h.hf (by omega)
  have c1 := h.c1
  have f0 := h.f0 f hf
  have f1 := h.f1 f hf
  have tB := fun W' => bbelow_ok (s.fl f) (s.fs f) (s.ul u) (s.us u) (ok.fl f hf) (ok.fs f hf) (ok.ul u hu) (ok.us u hu) W'
  rw [hb] at tB
  have tA := fun W' (b : Below W.heap.size W W') (hc : Caught W' (W.heap.size + 1) W.heap.size B (s.fl f) (s.fs f)) => allRead_any (h.below b) ok (hT.below b hT.size) _ _ _ _ (ok.fl f hf) (ok.fs f hf) hc (s.uw u) (ok.uw u hu)
  rw [ha] at tA
  have hfi : (f : Int) < (s.nf : Int) := by omega
  have hf0 : (0 : Int) ≤ (f : Int) := by omega
  clear hb ha
  have lB := h.ltB
  have lF := h.ltf hf
  have lU := h.ltu hu
  go_enter Tryd.func33, Tryd.ntmps33
  go_wp2
  obtain ⟨W1, hW1⟩ : ∃ W1, (W.alloc (.cells #[.pointer (some ⟨B, 0, none⟩)] 29)).alloc (.cells #[.int .i64 (s.fl f : Int), .int .i64 (s.fs f : Int)] 58) = W1 := ⟨_, rfl⟩
  obtain ⟨hb1, hc1⟩ := caught_of hW1
  rw [hW1]
  clear hW1
  have u0 := keep_cell hb1 (h.u0 u hu)
  have u1 := keep_cell hb1 (h.u1 u hu)
  have u3 := keep_cell hb1 (h.u3 u hu)
  obtain ⟨m1, m2, m3⟩ := id hc1
  obtain ⟨x1, hx1⟩ : ∃ x, s.fl f = x := ⟨_, rfl⟩
  obtain ⟨x2, hx2⟩ : ∃ x, s.fs f = x := ⟨_, rfl⟩
  obtain ⟨x3, hx3⟩ : ∃ x, s.ul u = x := ⟨_, rfl⟩
  obtain ⟨x4, hx4⟩ : ∃ x, s.us u = x := ⟨_, rfl⟩
  obtain ⟨x5, hx5⟩ : ∃ x, s.uw u = x := ⟨_, rfl⟩
  rw [hx1] at tB tA hc1 m2
  rw [hx2] at tB tA hc1 m3
  rw [hx3] at u0 tB
  rw [hx4] at u1 tB
  rw [hx5] at u3 tA
  rw [hx1, hx2]
  clear hx1 hx2 hx3 hx4 hx5 f0 f1
  go_region_held3 (fun w' => w'.cell? ⟨W.heap.size, 0, none⟩ = some (.pointer (some ⟨B, 0, none⟩)) ∧ w'.cell? ⟨W.heap.size + 1, 0, none⟩ = some (.int .i64 (x1 : Int)) ∧ w'.cell? ⟨W.heap.size + 1, 1, none⟩ = some (.int .i64 (x2 : Int)) ∧ w'.cell? ⟨gu, u * 4, none⟩ = some (.int .i64 (x3 : Int)) ∧ w'.cell? ⟨gu, u * 4 + 1, none⟩ = some (.int .i64 (x4 : Int)) ∧ w'.cell? ⟨gu, u * 4 + 3, none⟩ = some (.int .i64 (x5 : Int))) (first | go_keep | (go_split_ands; refine ⟨?_, ?_, ?_, ?_, ?_, ?_⟩ <;> first | exact keep_cell hB3 (by assumption) | exact keep_cell hB2 (by assumption)))
    (first | (go_at_call 51; refine (tB _).mono ?_; clear tB; rintro e w2 ⟨rfl, hB2⟩; have hb2 := hb1.trans ((undrew2 hB2).mono hb1.size); have hc2 := hc1.below (undrew2 hB2)) | (go_at_call 52; refine (tA _ hb2 hc2).mono ?_; clear tA; rintro e w3 ⟨rfl, hB3⟩; have hb3 := hb2.trans (hB3.mono hb2.size)))
  have hM := h.below hb3
  have u2 := hM.u2 u hu
  have r2 := hM.r2 u hu
  have h8 := ok.nf
  have h12 : 2 ^ s.nf ≤ 4096 := pow12 (by omega)
  have hp := pow_wrap (a := f) (by omega)
  have hor := or_i64 (s.ur u) (2 ^ f) (Nat.lt_of_lt_of_le (ok.ur u hu) h12) (Nat.lt_of_lt_of_le (Nat.pow_lt_pow_right (by decide) hf) h12)
  obtain ⟨x7, hx7⟩ : ∃ x, s.ur u ||| 2 ^ f = x := ⟨_, rfl⟩
  obtain ⟨p, hpe⟩ : ∃ p, 2 ^ f = p := ⟨_, rfl⟩
  obtain ⟨x6, hx6⟩ : ∃ x, s.ur u = x := ⟨_, rfl⟩
  have HX : Hid (s.ur u ||| 2 ^ f = x7) := hx7
  rw [hx7] at hor
  rw [hpe] at hp hor
  rw [hx6] at u2 hor
  clear hpe hx6 hx7 m1 m2 m3 u0 u1 u3 hc1 hb1 hb2 hc2 hB2 hB3 c1 hT
  go_wp2
  go_region
  all_goals
    go_wp2
    go_ret
    exact ⟨rfl, by rw [HX.out]; exact (hM.putR hu).drew, ((betw_of hb3).setCell ⟨(h.hu (by omega)).2.1, (h.hu (by omega)).2.2.2⟩ _).drew⟩
set_option maxHeartbeats 1000000 in
theorem bread_no2 {n0 n1 B gu gf cu cf : Nat} {au af : Option Addr} {W : World} {s : BellSt} (h : Mon n0 n1 B au af gu gf cu cf W s) (ok : BellOk s) (hT : Tab W) (u f : Nat) (hu : u < s.nu) (hf : f < s.nf)
    (hb : belB (s.fl f) (s.fs f) (s.ul u) (s.us u) = true) (ha : allB s.nf (s.uw u) (fun g => belB (s.fl f) (s.fs f) (s.fl g) (s.fs g)) = false) :
    Calls Tryd.prog 33 #[.pointer (some ⟨B, 0, none⟩), .pointer (some ⟨gu, u * 4, none⟩), .int .i64 (f : Int)] W fun e w' => e = .returned (.iface 63 (.int .i64 7)) ∧ Mon n0 n1 B au af gu gf cu cf w' s ∧ Betw n0 n1 W w' := by
  obtain ⟨rfl, _, _⟩ := h.hf (by omega)
  have c1 := h.c1
  have f0 := h.f0 f hf
  have f1 := h.f1 f hf
  have tB := fun W' => bbelow_ok (s.fl f) (s.fs f) (s.ul u) (s.us u) (ok.fl f hf) (ok.fs f hf) (ok.ul u hu) (ok.us u hu) W'
  rw [hb] at tB
  have tA := fun W' (b : Below W.heap.size W W') (hc : Caught W' (W.heap.size + 1) W.heap.size B (s.fl f) (s.fs f)) => allRead_any (h.below b) ok (hT.below b hT.size) _ _ _ _ (ok.fl f hf) (ok.fs f hf) hc (s.uw u) (ok.uw u hu)
  rw [ha] at tA
  have hfi : (f : Int) < (s.nf : Int) := by omega
  have hf0 : (0 : Int) ≤ (f : Int) := by omega
  clear hb ha
  have lB := h.ltB
  have lF := h.ltf hf
  have lU := h.ltu hu
  go_enter Tryd.func33, Tryd.ntmps33
  go_wp2
  obtain ⟨W1, hW1⟩ : ∃ W1, (W.alloc (.cells #[.pointer (some ⟨B, 0, none⟩)] 29)).alloc (.cells #[.int .i64 (s.fl f : Int), .int .i64 (s.fs f : Int)] 58) = W1 := ⟨_, rfl⟩
  obtain ⟨hb1, hc1⟩ := caught_of hW1
  rw [hW1]
  clear hW1
  have u0 := keep_cell hb1 (h.u0 u hu)
  have u1 := keep_cell hb1 (h.u1 u hu)
  have u3 := keep_cell hb1 (h.u3 u hu)
  obtain ⟨m1, m2, m3⟩ := id hc1
  obtain ⟨x1, hx1⟩ : ∃ x, s.fl f = x := ⟨_, rfl⟩
  obtain ⟨x2, hx2⟩ : ∃ x, s.fs f = x := ⟨_, rfl⟩
  obtain ⟨x3, hx3⟩ : ∃ x, s.ul u = x := ⟨_, rfl⟩
  obtain ⟨x4, hx4⟩ : ∃ x, s.us u = x := ⟨_, rfl⟩
  obtain ⟨x5, hx5⟩ : ∃ x, s.uw u = x := ⟨_, rfl⟩
  rw [hx1] at tB tA hc1 m2
  rw [hx2] at tB tA hc1 m3
  rw [hx3] at u0 tB
  rw [hx4] at u1 tB
  rw [hx5] at u3 tA
  rw [hx1, hx2]
  clear hx1 hx2 hx3 hx4 hx5 f0 f1
  go_region_held3 (fun w' => w'.cell? ⟨W.heap.size, 0, none⟩ = some (.pointer (some ⟨B, 0, none⟩)) ∧ w'.cell? ⟨W.heap.size + 1, 0, none⟩ = some (.int .i64 (x1 : Int)) ∧ w'.cell? ⟨W.heap.size + 1, 1, none⟩ = some (.int .i64 (x2 : Int)) ∧ w'.cell? ⟨gu, u * 4, none⟩ = some (.int .i64 (x3 : Int)) ∧ w'.cell? ⟨gu, u * 4 + 1, none⟩ = some (.int .i64 (x4 : Int)) ∧ w'.cell? ⟨gu, u * 4 + 3, none⟩ = some (.int .i64 (x5 : Int))) (first | go_keep | (go_split_ands; refine ⟨?_, ?_, ?_, ?_, ?_, ?_⟩ <;> first | exact keep_cell hB3 (by assumption) | exact keep_cell hB2 (by assumption)))
    (first | (go_at_call 51; refine (tB _).mono ?_; clear tB; rintro e w2 ⟨rfl, hB2⟩; have hb2 := hb1.trans ((undrew2 hB2).mono hb1.size); have hc2 := hc1.below (undrew2 hB2)) | (go_at_call 52; refine (tA _ hb2 hc2).mono ?_; clear tA; rintro e w3 ⟨rfl, hB3⟩; have hb3 := hb2.trans (hB3.mono hb2.size)))
  go_wp2
  go_ret
  exact ⟨rfl, h.below hb3, betw_of hb3⟩
set_option maxHeartbeats 1000000 in
theorem bread_no1 {n0 n1 B gu gf cu cf : Nat} {au af : Option Addr} {W : World} {s : BellSt} (h : Mon n0 n1 B au af gu gf cu cf W s) (ok : BellOk s) (u f : Nat) (hu : u < s.nu) (hf : f < s.nf)
    (hb : belB (s.fl f) (s.fs f) (s.ul u) (s.us u) = false) :
    Calls Tryd.prog 33 #[.pointer (some ⟨B, 0, none⟩), .pointer (some ⟨gu, u * 4, none⟩), .int .i64 (f : Int)] W fun e w' => e = .returned (.iface 63 (.int .i64 7)) ∧ Mon n0 n1 B au af gu gf cu cf w' s ∧ Betw n0 n1 W w' := by
  obtain ⟨rfl, _, _⟩ := h.hf (by omega)
  have c1 := h.c1
  have f0 := h.f0 f hf
  have f1 := h.f1 f hf
  have tB := fun W' => bbelow_ok (s.fl f) (s.fs f) (s.ul u) (s.us u) (ok.fl f hf) (ok.fs f hf) (ok.ul u hu) (ok.us u hu) W'
  rw [hb] at tB
  have hfi : (f : Int) < (s.nf : Int) := by omega
  have hf0 : (0 : Int) ≤ (f : Int) := by omega
  clear hb
  have lB := h.ltB
  have lF := h.ltf hf
  have lU := h.ltu hu
  go_enter Tryd.func33, Tryd.ntmps33
  go_wp2
  obtain ⟨W1, hW1⟩ : ∃ W1, (W.alloc (.cells #[.pointer (some ⟨B, 0, none⟩)] 29)).alloc (.cells #[.int .i64 (s.fl f : Int), .int .i64 (s.fs f : Int)] 58) = W1 := ⟨_, rfl⟩
  obtain ⟨hb1, hc1⟩ := caught_of hW1
  rw [hW1]
  clear hW1
  have u0 := keep_cell hb1 (h.u0 u hu)
  have u1 := keep_cell hb1 (h.u1 u hu)
  have u3 := keep_cell hb1 (h.u3 u hu)
  obtain ⟨m1, m2, m3⟩ := hc1
  obtain ⟨x1, hx1⟩ : ∃ x, s.fl f = x := ⟨_, rfl⟩
  obtain ⟨x2, hx2⟩ : ∃ x, s.fs f = x := ⟨_, rfl⟩
  obtain ⟨x3, hx3⟩ : ∃ x, s.ul u = x := ⟨_, rfl⟩
  obtain ⟨x4, hx4⟩ : ∃ x, s.us u = x := ⟨_, rfl⟩
  obtain ⟨x5, hx5⟩ : ∃ x, s.uw u = x := ⟨_, rfl⟩
  rw [hx1] at tB m2
  rw [hx2] at tB m3
  rw [hx3] at u0 tB
  rw [hx4] at u1 tB
  rw [hx5] at u3
  rw [hx1, hx2]
  clear hx1 hx2 hx3 hx4 hx5 f0 f1
  first | (go_region_with (go_at_call 51; refine (tB _).mono ?_; rintro e w2 ⟨rfl, hB2⟩)) | fail
  all_goals
    have hb2 := hb1.trans ((undrew2 hB2).mono hb1.size)
    go_simp
    go_wp2
    go_ret
    exact ⟨rfl, h.below hb2, betw_of hb2⟩
end Go.Proofs.YteheaeihoameeaaDoor
