/- What writing answers (write). -/
import Derived.WalkKit
import Derived.LoopTactic
import Derived.Deep.RegionHeld3
import Derived.Deep.DrawnRows
import Derived.Deep.Cut
import Derived.Test.YteheaeihoameeaaDoorBellAsk
namespace Go.Proofs.YteheaeihoameeaaDoor
open Go.RowKit
attribute [local go_sem ↓] Go.wp_at_zero Go.wp_at_succ
set_option maxRecDepth 100000

set_option maxHeartbeats 1000000 in
theorem bwrite_yes {n0 n1 B gu gf cu cf : Nat} {au af : Option Addr} {W : World} {s : BellSt} (h : Mon n0 n1 B au af gu gf cu cf W s) (ok : BellOk s) (hT : Tab W) (u f : Nat) (hu : u < s.nu) (hf : f < s.nf)
    (ha : allB s.nf (s.ur u) (fun g => belB (s.fl g) (s.fs g) (s.fl f) (s.fs f)) = true) :
    Calls Tryd.prog 34 #[.pointer (some ⟨B, 0, none⟩), .pointer (some ⟨gu, u * 4, none⟩), .int .i64 (f : Int)] W fun e w' => e = .returned .nilIface ∧ Mon n0 n1 B au af gu gf cu cf w' { s with uw := upd s.uw u (s.uw u ||| 2 ^ f) } ∧ Betw n0 n1 W w' := by
  obtain ⟨rfl, _, _⟩ := h.hf (by omega)
  have c1 := h.c1
  have f0 := h.f0 f hf
  have f1 := h.f1 f hf
  have tA := fun W' (b : Below W.heap.size W W') (hc : Caught W' (W.heap.size + 1) W.heap.size B (s.fl f) (s.fs f)) => allWrite_any (h.below b) ok (hT.below b hT.size) _ _ _ _ (ok.fl f hf) (ok.fs f hf) hc (s.ur u) (ok.ur u hu)
  rw [ha] at tA
  have hfi : (f : Int) < (s.nf : Int) := by omega
  have hf0 : (0 : Int) ≤ (f : Int) := by omega
  clear ha
  have lB := h.ltB
  have lF := h.ltf hf
  have lU := h.ltu hu
  go_enter Tryd.func34, Tryd.ntmps34
  go_upto_region 3 with fail
  obtain ⟨W1, hW1⟩ : ∃ W1, (W.alloc (.cells #[.pointer (some ⟨B, 0, none⟩)] 29)).alloc (.cells #[.int .i64 (s.fl f : Int), .int .i64 (s.fs f : Int)] 58) = W1 := ⟨_, rfl⟩
  obtain ⟨hb1, hc1⟩ := caught_of hW1
  rw [hW1]
  clear hW1
  have u2 := keep_cell hb1 (h.u2 u hu)
  obtain ⟨m1, m2, m3⟩ := id hc1
  obtain ⟨x5, hx5⟩ : ∃ x, s.ur u = x := ⟨_, rfl⟩
  rw [hx5] at u2 tA
  clear hx5 f0 f1
  go_upto_region 5 with (go_at_call 52; refine (tA _ hb1 hc1).mono ?_; clear tA; rintro e w3 ⟨rfl, hB3⟩; have hb3 := hb1.trans (hB3.mono hb1.size))
  have hM := h.below hb3
  have u3 := hM.u3 u hu
  have r3 := hM.r3 u hu
  have h8 := ok.nf
  have h12 : 2 ^ s.nf ≤ 4096 := pow12 (by omega)
  have hp := pow_wrap (a := f) (by omega)
  have hor := or_i64 (s.uw u) (2 ^ f) (Nat.lt_of_lt_of_le (ok.uw u hu) h12) (Nat.lt_of_lt_of_le (Nat.pow_lt_pow_right (by decide) hf) h12)
  obtain ⟨x7, hx7⟩ : ∃ x, s.uw u ||| 2 ^ f = x := ⟨_, rfl⟩
  obtain ⟨p, hpe⟩ : ∃ p, 2 ^ f = p := ⟨_, rfl⟩
  obtain ⟨x6, hx6⟩ : ∃ x, s.uw u = x := ⟨_, rfl⟩
  have HX : Hid (s.uw u ||| 2 ^ f = x7) := hx7
  rw [hx7] at hor
  rw [hpe] at hp hor
  rw [hx6] at u3 hor
  clear hpe hx6 hx7 m1 m2 m3 u2 hc1 hb1 hB3 c1 hT
  go_region
  all_goals
    go_wp2
    go_ret
    exact ⟨rfl, by rw [HX.out]; exact (hM.putW hu).drew, ((betw_of hb3).setCell ⟨(h.hu (by omega)).2.1, (h.hu (by omega)).2.2.2⟩ _).drew⟩
set_option maxHeartbeats 1000000 in
theorem bwrite_no {n0 n1 B gu gf cu cf : Nat} {au af : Option Addr} {W : World} {s : BellSt} (h : Mon n0 n1 B au af gu gf cu cf W s) (ok : BellOk s) (hT : Tab W) (u f : Nat) (hu : u < s.nu) (hf : f < s.nf)
    (ha : allB s.nf (s.ur u) (fun g => belB (s.fl g) (s.fs g) (s.fl f) (s.fs f)) = false) :
    Calls Tryd.prog 34 #[.pointer (some ⟨B, 0, none⟩), .pointer (some ⟨gu, u * 4, none⟩), .int .i64 (f : Int)] W fun e w' => e = .returned (.iface 63 (.int .i64 7)) ∧ Mon n0 n1 B au af gu gf cu cf w' s ∧ Betw n0 n1 W w' := by
  obtain ⟨rfl, _, _⟩ := h.hf (by omega)
  have c1 := h.c1
  have f0 := h.f0 f hf
  have f1 := h.f1 f hf
  have tA := fun W' (b : Below W.heap.size W W') (hc : Caught W' (W.heap.size + 1) W.heap.size B (s.fl f) (s.fs f)) => allWrite_any (h.below b) ok (hT.below b hT.size) _ _ _ _ (ok.fl f hf) (ok.fs f hf) hc (s.ur u) (ok.ur u hu)
  rw [ha] at tA
  have hfi : (f : Int) < (s.nf : Int) := by omega
  have hf0 : (0 : Int) ≤ (f : Int) := by omega
  clear ha
  have lB := h.ltB
  have lF := h.ltf hf
  have lU := h.ltu hu
  go_enter Tryd.func34, Tryd.ntmps34
  go_upto_region 3 with fail
  obtain ⟨W1, hW1⟩ : ∃ W1, (W.alloc (.cells #[.pointer (some ⟨B, 0, none⟩)] 29)).alloc (.cells #[.int .i64 (s.fl f : Int), .int .i64 (s.fs f : Int)] 58) = W1 := ⟨_, rfl⟩
  obtain ⟨hb1, hc1⟩ := caught_of hW1
  rw [hW1]
  clear hW1
  have u2 := keep_cell hb1 (h.u2 u hu)
  obtain ⟨m1, m2, m3⟩ := id hc1
  obtain ⟨x5, hx5⟩ : ∃ x, s.ur u = x := ⟨_, rfl⟩
  rw [hx5] at u2 tA
  clear hx5 f0 f1
  go_wp2_with (go_at_call 52; refine (tA _ hb1 hc1).mono ?_; clear tA; rintro e w3 ⟨rfl, hB3⟩; have hb3 := hb1.trans (hB3.mono hb1.size))
  go_ret
  exact ⟨rfl, h.below hb3, betw_of hb3⟩
end Go.Proofs.YteheaeihoameeaaDoor
