/- What reading answers (read), and what writing answers that is denied (write). -/
import Derived.WalkKit
import Derived.LoopTactic
import Derived.Deep.RegionHeld3
import Derived.Deep.DrawnRows
import Derived.Deep.Cut
import Derived.Test.YtkkhcgapfklmjaaDoorWalSaw2
namespace Go.Proofs.YtkkhcgapfklmjaaDoor
open Go.RowKit
attribute [local go_sem ↓] Go.wp_at_zero Go.wp_at_succ
set_option maxRecDepth 100000

theorem wcaught_of {W W1 : World} {B t : Nat} {ty ty' : TypeId} (h : (W.alloc (.cells #[.pointer (some ⟨B, 0, none⟩)] ty)).alloc (.cells #[.int .i64 (t : Int)] ty') = W1) : Below W.heap.size W W1 ∧ WCaught W1 W.heap.size (W.heap.size + 1) B t := by
  have h1 := (cell_new_l (W.alloc (.cells #[.pointer (some ⟨B, 0, none⟩)] ty)) (.int .i64 (t : Int)) ty').1
  rw [World.size_alloc] at h1
  rw [← h]
  exact ⟨((Below.refl _ W).alloc (Nat.le_refl _) _).alloc (by simp) _, cell_alloc_l _ (cell_new_l W (.pointer (some ⟨B, 0, none⟩)) ty).1, h1⟩
section
variable {n0 n1 B gu gf cu cf : Nat} {au af : Option Addr} {W : World} {s : WallSt}
theorem sawRival_any (h : WMon n0 n1 B au af gu gf cu cf W s) (ok : WallOk s) (hT : Tab W) (u f : Nat) (hu : u < s.nu) (hf : f < s.nf) (p r : Nat) (hc : WCaught W p r B (s.tr f)) :
    Calls Tryd.prog 29 #[.pointer (some ⟨B, 0, none⟩), .int .i64 (u : Int), .int .i64 (f : Int), .func (.func 27) #[] #[.pointer (some ⟨p, 0, none⟩), .pointer (some ⟨r, 0, none⟩)]] W fun e w' => e = .returned (.bool (anyB s.nf (less (s.saw u) (2 ^ f)) (isRival s f))) ∧ Below W.heap.size W w' :=
  callsIn_wide.1 (sawRival_in 4 _ _ (isRival s f) (Nat.le_refl _) h ok hT u f hu hf fun q hq _ b => waRead1_any (h.below b) p r f (hc.below b) q hq)
theorem sawClosed_any (h : WMon n0 n1 B au af gu gf cu cf W s) (ok : WallOk s) (hT : Tab W) (u f : Nat) (hu : u < s.nu) (hf : f < s.nf) :
    Calls Tryd.prog 29 #[.pointer (some ⟨B, 0, none⟩), .int .i64 (u : Int), .int .i64 (f : Int), .func (.func 28) #[.pointer (some ⟨B, 0, none⟩)] #[]] W fun e w' => e = .returned (.bool (anyB s.nf (less (s.saw u) (2 ^ f)) (isClosed s))) ∧ Below W.heap.size W w' :=
  callsIn_wide.1 (sawClosed_in 4 (isClosed s) (Nat.le_refl _) h ok hT u f hu hf fun q hq _ b => (waClosed_any (h.below b) q hq).mono fun _ _ ⟨he, hw⟩ => ⟨he, by rw [hw]; exact Below.refl _ _⟩)
set_option maxHeartbeats 1000000 in
theorem waRead_yes (h : WMon n0 n1 B au af gu gf cu cf W s) (ok : WallOk s) (hT : Tab W) (u f : Nat) (hu : u < s.nu) (hf : f < s.nf) (ha : anyB s.nf (less (s.saw u) (2 ^ f)) (isRival s f) = false) :
    Calls Tryd.prog 20 #[.pointer (some ⟨B, 0, none⟩), .int .i64 (u : Int), .int .i64 (f : Int)] W fun e w' => e = .returned .nilIface ∧ WMon n0 n1 B au af gu gf cu cf w' { s with saw := upd s.saw u (s.saw u ||| 2 ^ f) } ∧ Betw n0 n1 W w' := by
  obtain ⟨rfl, _, _⟩ := h.hf (by omega)
  obtain ⟨rfl, _, _⟩ := h.hu (by omega)
  have c1 := h.c1
  have f0 := h.f0 f hf
  have tA := fun W' (b : Below W.heap.size W W') (hc : WCaught W' W.heap.size (W.heap.size + 1) B (s.tr f)) => sawRival_any (h.below b) ok (hT.below b hT.size) u f hu hf _ _ hc
  rw [ha] at tA
  have hfi : (f : Int) < (s.nf : Int) := by omega
  have hui : (u : Int) < (s.nu : Int) := by omega
  clear ha
  have lB := h.ltB
  have lF := h.ltf hf
  have lU := h.ltu hu
  go_enter Tryd.func20, Tryd.ntmps20
  go_upto_region 3 with fail
  obtain ⟨W1, hW1⟩ : ∃ W1, (W.alloc (.cells #[.pointer (some ⟨B, 0, none⟩)] 25)).alloc (.cells #[.int .i64 (s.tr f : Int)] 3) = W1 := ⟨_, rfl⟩
  obtain ⟨hb1, hc1⟩ := wcaught_of hW1
  rw [hW1]
  clear hW1
  obtain ⟨m1, m2⟩ := id hc1
  clear f0
  go_upto_region 5 with (go_at_call 29; refine (tA _ hb1 hc1).mono ?_; clear tA; rintro e w3 ⟨rfl, hB3⟩; have hb3 := hb1.trans (hB3.mono hb1.size); have m3 := keep_cell hB3 m1)
  have hM := h.below hb3
  have u3 := hM.u0 u hu
  have r3 := hM.r0 u hu
  have c0 := hM.c0
  have h8 := ok.nf
  have h12 : 2 ^ s.nf ≤ 4096 := pow12 (by omega)
  have hp := pow_wrap (a := f) (by omega)
  have hor := or_i64 (s.saw u) (2 ^ f) (Nat.lt_of_lt_of_le (ok.saw u hu) h12) (Nat.lt_of_lt_of_le (pow_lt_of hf) h12)
  obtain ⟨x7, hx7⟩ : ∃ x, s.saw u ||| 2 ^ f = x := ⟨_, rfl⟩
  obtain ⟨p, hpe⟩ : ∃ p, 2 ^ f = p := ⟨_, rfl⟩
  obtain ⟨x6, hx6⟩ : ∃ x, s.saw u = x := ⟨_, rfl⟩
  have HX : Hid (s.saw u ||| 2 ^ f = x7) := hx7
  rw [hx7] at hor
  rw [hpe] at hp hor
  rw [hx6] at u3 hor
  clear hpe hx6 hx7 m1 m2 hc1 hb1 hB3 c1 hT
  go_region
  all_goals
    go_wp2
    go_ret
    exact ⟨rfl, by rw [HX.out]; exact (hM.putS hu).drew, ((betw_of hb3).setCell ⟨(h.hu (by omega)).2.1, (h.hu (by omega)).2.2.2⟩ _).drew⟩
set_option maxHeartbeats 1000000 in
theorem waRead_no (h : WMon n0 n1 B au af gu gf cu cf W s) (ok : WallOk s) (hT : Tab W) (u f : Nat) (hu : u < s.nu) (hf : f < s.nf) (ha : anyB s.nf (less (s.saw u) (2 ^ f)) (isRival s f) = true) :
    Calls Tryd.prog 20 #[.pointer (some ⟨B, 0, none⟩), .int .i64 (u : Int), .int .i64 (f : Int)] W fun e w' => e = .returned (.iface 50 (.int .i64 7)) ∧ WMon n0 n1 B au af gu gf cu cf w' s ∧ Betw n0 n1 W w' := by
  obtain ⟨rfl, _, _⟩ := h.hf (by omega)
  have c1 := h.c1
  have f0 := h.f0 f hf
  have tA := fun W' (b : Below W.heap.size W W') (hc : WCaught W' W.heap.size (W.heap.size + 1) B (s.tr f)) => sawRival_any (h.below b) ok (hT.below b hT.size) u f hu hf _ _ hc
  rw [ha] at tA
  have hfi : (f : Int) < (s.nf : Int) := by omega
  clear ha
  have lB := h.ltB
  have lF := h.ltf hf
  go_enter Tryd.func20, Tryd.ntmps20
  go_upto_region 3 with fail
  obtain ⟨W1, hW1⟩ : ∃ W1, (W.alloc (.cells #[.pointer (some ⟨B, 0, none⟩)] 25)).alloc (.cells #[.int .i64 (s.tr f : Int)] 3) = W1 := ⟨_, rfl⟩
  obtain ⟨hb1, hc1⟩ := wcaught_of hW1
  rw [hW1]
  clear hW1
  obtain ⟨m1, m2⟩ := id hc1
  clear f0
  go_wp2_with (go_at_call 29; refine (tA _ hb1 hc1).mono ?_; clear tA; rintro e w3 ⟨rfl, hB3⟩; have hb3 := hb1.trans (hB3.mono hb1.size))
  go_ret
  exact ⟨rfl, h.below hb3, betw_of hb3⟩
set_option maxHeartbeats 1000000 in
theorem waWrite_no (h : WMon n0 n1 B au af gu gf cu cf W s) (ok : WallOk s) (hT : Tab W) (u f : Nat) (hu : u < s.nu) (hf : f < s.nf) (ha : anyB s.nf (less (s.saw u) (2 ^ f)) (isClosed s) = true) :
    Calls Tryd.prog 21 #[.pointer (some ⟨B, 0, none⟩), .int .i64 (u : Int), .int .i64 (f : Int)] W fun e w' => e = .returned (.iface 50 (.int .i64 7)) ∧ WMon n0 n1 B au af gu gf cu cf w' s ∧ Betw n0 n1 W w' := by
  have tA := fun W' (b : Below W.heap.size W W') => sawClosed_any (h.below b) ok (hT.below b hT.size) u f hu hf
  rw [ha] at tA
  clear ha
  obtain ⟨W1, hW1⟩ : ∃ W1, (W.alloc (.cells #[.pointer (some ⟨B, 0, none⟩)] 25)).alloc (.cells #[.int .i64 (f : Int)] 3) = W1 := ⟨_, rfl⟩
  obtain ⟨hb1, hc1⟩ := wcaught_of hW1
  obtain ⟨m1, m2⟩ := id hc1
  go_enter Tryd.func21, Tryd.ntmps21
  go_wp2_with (go_at_call 29; refine (tA _ hb1).mono ?_; clear tA; rintro e w3 ⟨rfl, hB3⟩; have hb3 := hb1.trans (hB3.mono hb1.size))
  go_ret
  exact ⟨rfl, h.below hb3, betw_of hb3⟩
end
end Go.Proofs.YtkkhcgapfklmjaaDoor
