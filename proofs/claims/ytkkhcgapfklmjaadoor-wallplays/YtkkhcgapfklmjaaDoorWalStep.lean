/- What any ask of a wall answers, and what becomes of it (Ask, Saw, Holds). -/
import Derived.WalkKit
import Derived.LoopTactic
import Derived.Test.YtkkhcgapfklmjaaDoorWalWri
namespace Go.Proofs.YtkkhcgapfklmjaaDoor
open Go.RowKit
set_option maxRecDepth 100000

section
variable {n0 n1 B gu gf cu cf : Nat} {au af : Option Addr} {W : World} {s : WallSt}
theorem wcell_alloc {a : Addr} {v : Value} (o : Obj) (h : W.cell? a = some v) : (W.alloc o).cell? a = some v := keep_cell ((Below.refl _ W).alloc (Nat.le_refl _) o) h
set_option maxHeartbeats 400000 in
theorem waAsk_out (hM : WMon n0 n1 B au af gu gf cu cf W s) (k u f t : Int) (hin : (inB u s.nu && inB f s.nf) = false) :
    Calls Tryd.prog 9 #[.pointer (some ⟨B, 0, none⟩), ask4 k u f t] W fun e w' => e = .returned (.iface 50 (.int .i64 1)) ∧ WMon n0 n1 B au af gu gf cu cf w' s ∧ Betw n0 n1 W w' := by
  have tU := fun o => waUser_any B au s.nu cu u (W.alloc o) (wcell_alloc o hM.c0)
  have tF := fun o => waFirm_any B af s.nf cf f (W.alloc o) (wcell_alloc o hM.c1)
  have hB : ∀ o, Below W.heap.size W (W.alloc o) := fun o => (Below.refl _ W).alloc (Nat.le_refl _) _
  cases hu : inB u s.nu with
  | false =>
    rw [hu] at tU
    clear tF hu hin
    go_enter Tryd.func9, Tryd.ntmps9
    go_wp2_with (go_at_call 18; refine (tU _).mono ?_; clear tU; rintro e w' ⟨rfl, rfl⟩)
    go_ret
    exact ⟨rfl, hM.below (hB _), betw_of (hB _)⟩
  | true =>
    rw [hu, Bool.true_and] at hin
    rw [hu] at tU
    rw [hin] at tF
    clear hu hin
    go_enter Tryd.func9, Tryd.ntmps9
    go_wp2_with (first | (go_at_call 18; refine (tU _).mono ?_; clear tU; rintro e w' ⟨rfl, rfl⟩) | (go_at_call 19; refine (tF _).mono ?_; clear tF; rintro e w' ⟨rfl, rfl⟩))
    go_ret
    exact ⟨rfl, hM.below (hB _), betw_of (hB _)⟩
set_option maxHeartbeats 1000000 in
theorem waAsk_read (hM : WMon n0 n1 B au af gu gf cu cf W s) (u f : Nat) (t : Int) (hu : u < s.nu) (hf : f < s.nf) (v : Value) (s' : WallSt)
    (tR : ∀ W', Below W.heap.size W W' → Calls Tryd.prog 20 #[.pointer (some ⟨B, 0, none⟩), .int .i64 (u : Int), .int .i64 (f : Int)] W' fun e w' => e = .returned v ∧ WMon n0 n1 B au af gu gf cu cf w' s' ∧ Betw n0 n1 W' w') :
    Calls Tryd.prog 9 #[.pointer (some ⟨B, 0, none⟩), ask4 0 u f t] W fun e w' => e = .returned v ∧ WMon n0 n1 B au af gu gf cu cf w' s' ∧ Betw n0 n1 W w' := by
  have tU := fun o => waUser_any B au s.nu cu u (W.alloc o) (wcell_alloc o hM.c0)
  have tF := fun o => waFirm_any B af s.nf cf f (W.alloc o) (wcell_alloc o hM.c1)
  rw [inB_yes (by omega) (by omega)] at tU
  rw [inB_yes (by omega) (by omega)] at tF
  have hB : ∀ o, Below W.heap.size W (W.alloc o) := fun o => (Below.refl _ W).alloc (Nat.le_refl _) _
  go_enter Tryd.func9, Tryd.ntmps9
  go_wp2_with (first | (go_at_call 18; refine (tU _).mono ?_; clear tU; rintro e w' ⟨rfl, rfl⟩) | (go_at_call 19; refine (tF _).mono ?_; clear tF; rintro e w' ⟨rfl, rfl⟩) | (go_at_call 20; refine (tR _ (hB _)).mono ?_; clear tR; rintro e w3 ⟨rfl, hM3, hB3⟩))
  go_ret
  exact ⟨rfl, hM3, (betw_of (hB _)).trans hB3⟩
set_option maxHeartbeats 1000000 in
theorem waAsk_write (hM : WMon n0 n1 B au af gu gf cu cf W s) (u f : Nat) (t : Int) (hu : u < s.nu) (hf : f < s.nf) (v : Value) (s' : WallSt)
    (tR : ∀ W', Below W.heap.size W W' → Calls Tryd.prog 21 #[.pointer (some ⟨B, 0, none⟩), .int .i64 (u : Int), .int .i64 (f : Int)] W' fun e w' => e = .returned v ∧ WMon n0 n1 B au af gu gf cu cf w' s' ∧ Betw n0 n1 W' w') :
    Calls Tryd.prog 9 #[.pointer (some ⟨B, 0, none⟩), ask4 1 u f t] W fun e w' => e = .returned v ∧ WMon n0 n1 B au af gu gf cu cf w' s' ∧ Betw n0 n1 W w' := by
  have tU := fun o => waUser_any B au s.nu cu u (W.alloc o) (wcell_alloc o hM.c0)
  have tF := fun o => waFirm_any B af s.nf cf f (W.alloc o) (wcell_alloc o hM.c1)
  rw [inB_yes (by omega) (by omega)] at tU
  rw [inB_yes (by omega) (by omega)] at tF
  have hB : ∀ o, Below W.heap.size W (W.alloc o) := fun o => (Below.refl _ W).alloc (Nat.le_refl _) _
  go_enter Tryd.func9, Tryd.ntmps9
  go_wp2_with (first | (go_at_call 18; refine (tU _).mono ?_; clear tU; rintro e w' ⟨rfl, rfl⟩) | (go_at_call 19; refine (tF _).mono ?_; clear tF; rintro e w' ⟨rfl, rfl⟩) | (go_at_call 21; refine (tR _ (hB _)).mono ?_; clear tR; rintro e w3 ⟨rfl, hM3, hB3⟩))
  go_ret
  exact ⟨rfl, hM3, (betw_of (hB _)).trans hB3⟩
set_option maxHeartbeats 1000000 in
theorem waAsk_kind (hM : WMon n0 n1 B au af gu gf cu cf W s) (q : Int) (u f : Nat) (t : Int) (hu : u < s.nu) (hf : f < s.nf) (hq0 : ¬ q = 0) (hq1 : ¬ q = 1) :
    Calls Tryd.prog 9 #[.pointer (some ⟨B, 0, none⟩), ask4 q u f t] W fun e w' => e = .returned (.iface 50 (.int .i64 1)) ∧ WMon n0 n1 B au af gu gf cu cf w' s ∧ Betw n0 n1 W w' := by
  have tU := fun o => waUser_any B au s.nu cu u (W.alloc o) (wcell_alloc o hM.c0)
  have tF := fun o => waFirm_any B af s.nf cf f (W.alloc o) (wcell_alloc o hM.c1)
  rw [inB_yes (by omega) (by omega)] at tU
  rw [inB_yes (by omega) (by omega)] at tF
  have hB : ∀ o, Below W.heap.size W (W.alloc o) := fun o => (Below.refl _ W).alloc (Nat.le_refl _) _
  have k0 : (q == 0) = false := by simp [hq0]
  have k1 : (q == 1) = false := by simp [hq1]
  clear hq0 hq1
  go_enter Tryd.func9, Tryd.ntmps9
  go_wp2_with (first | (go_at_call 18; refine (tU _).mono ?_; clear tU; rintro e w' ⟨rfl, rfl⟩) | (go_at_call 19; refine (tF _).mono ?_; clear tF; rintro e w' ⟨rfl, rfl⟩))
  go_ret
  exact ⟨rfl, hM.below (hB _), betw_of (hB _)⟩
theorem waAsk_any (hM : WMon n0 n1 B au af gu gf cu cf W s) (ok : WallOk s) (hT : Tab W) (h0 : 1 < n0) (k u f t : Int) :
    Calls Tryd.prog 9 #[.pointer (some ⟨B, 0, none⟩), ask4 k u f t] W fun e w' => e = .returned (errV (askWall s k u f).1) ∧ WMon n0 n1 B au af gu gf cu cf w' (askWall s k u f).2 ∧ Betw n0 n1 W w' := by
  unfold askWall
  cases hin : (inB u s.nu && inB f s.nf) with
  | false => exact waAsk_out hM k u f t hin
  | true =>
    rw [Bool.and_eq_true, inB_iff, inB_iff] at hin
    obtain ⟨⟨u0, u1⟩, f0, f1⟩ := hin
    obtain ⟨u, rfl⟩ := Int.eq_ofNat_of_zero_le u0
    obtain ⟨f, rfl⟩ := Int.eq_ofNat_of_zero_le f0
    have hu : u < s.nu := by omega
    have hf : f < s.nf := by omega
    rw [if_pos rfl, Int.toNat_natCast, Int.toNat_natCast]
    by_cases hk : k = 0
    · subst hk
      rw [if_pos rfl]
      cases hd : anyB s.nf (less (s.saw u) (2 ^ f)) (isRival s f) with
      | true => exact waAsk_read hM u f t hu hf _ _ fun W' b => waRead_no (hM.below b) ok (hT.below b hT.size) u f hu hf hd
      | false => exact waAsk_read hM u f t hu hf _ _ fun W' b => waRead_yes (hM.below b) ok (hT.below b hT.size) u f hu hf hd
    · rw [if_neg hk]
      by_cases hk1 : k = 1
      · subst hk1
        rw [if_pos rfl]
        cases hd : anyB s.nf (less (s.saw u) (2 ^ f)) (isClosed s) with
        | true => exact waAsk_write hM u f t hu hf _ _ fun W' b => waWrite_no (hM.below b) ok (hT.below b hT.size) u f hu hf hd
        | false => exact waAsk_write hM u f t hu hf _ _ fun W' b => waWrite_yes (hM.below b) ok (hT.below b hT.size) h0 u f hu hf hd
      · rw [if_neg hk1]
        exact waAsk_kind hM k u f t hu hf hk hk1
theorem saw_in (h : WMon n0 n1 B au af gu gf cu cf W s) (i : Nat) (hi : i < s.nu) :
    Calls Tryd.prog 10 #[.pointer (some ⟨B, 0, none⟩), .int .i64 (i : Int)] W fun e w' => e = .returned (.int .i64 (s.saw i : Int)) ∧ w' = W := by
  obtain ⟨rfl, _, _⟩ := h.hu (by omega)
  have c := h.c0
  have t := waUser_any B _ s.nu _ (i : Int) W c
  rw [inB_yes (by omega) (by omega)] at t
  have u := h.u0 i hi
  have hii : (i : Int) < (s.nu : Int) := by omega
  obtain ⟨x, hx⟩ : ∃ x, s.saw i = x := ⟨_, rfl⟩
  obtain ⟨k, hk⟩ : ∃ x, s.nu = x := ⟨_, rfl⟩
  rw [hx] at u ⊢
  rw [hk] at c hii
  clear hx hk
  go_enter Tryd.func10, Tryd.ntmps10
  go_wp2_with (go_at_call 18; refine t.mono ?_; rintro e w' ⟨rfl, rfl⟩)
  go_ret
  exact ⟨rfl, rfl⟩
theorem saw_out (h : WMon n0 n1 B au af gu gf cu cf W s) (i : Int) (hi : i < 0 ∨ (s.nu : Int) ≤ i) :
    Calls Tryd.prog 10 #[.pointer (some ⟨B, 0, none⟩), .int .i64 i] W fun e w' => e = .returned (.int .i64 0) ∧ w' = W := by
  have t := waUser_any B _ s.nu _ i W h.c0
  rw [inB_no hi] at t
  go_enter Tryd.func10, Tryd.ntmps10
  go_wp2_with (go_at_call 18; refine t.mono ?_; rintro e w' ⟨rfl, rfl⟩)
  go_ret
  exact ⟨rfl, rfl⟩
theorem holds_in (h : WMon n0 n1 B au af gu gf cu cf W s) (i : Nat) (hi : i < s.nf) :
    Calls Tryd.prog 12 #[.pointer (some ⟨B, 0, none⟩), .int .i64 (i : Int)] W fun e w' => e = .returned (.int .i64 (s.hol i : Int)) ∧ w' = W := by
  obtain ⟨rfl, _, _⟩ := h.hf (by omega)
  have c := h.c1
  have t := waFirm_any B _ s.nf _ (i : Int) W c
  rw [inB_yes (by omega) (by omega)] at t
  have u := h.f1 i hi
  have hii : (i : Int) < (s.nf : Int) := by omega
  obtain ⟨x, hx⟩ : ∃ x, s.hol i = x := ⟨_, rfl⟩
  obtain ⟨k, hk⟩ : ∃ x, s.nf = x := ⟨_, rfl⟩
  rw [hx] at u ⊢
  rw [hk] at c hii
  clear hx hk
  go_enter Tryd.func12, Tryd.ntmps12
  go_wp2_with (go_at_call 19; refine t.mono ?_; rintro e w' ⟨rfl, rfl⟩)
  go_ret
  exact ⟨rfl, rfl⟩
theorem holds_out (h : WMon n0 n1 B au af gu gf cu cf W s) (i : Int) (hi : i < 0 ∨ (s.nf : Int) ≤ i) :
    Calls Tryd.prog 12 #[.pointer (some ⟨B, 0, none⟩), .int .i64 i] W fun e w' => e = .returned (.int .i64 0) ∧ w' = W := by
  have t := waFirm_any B _ s.nf _ i W h.c1
  rw [inB_no hi] at t
  go_enter Tryd.func12, Tryd.ntmps12
  go_wp2_with (go_at_call 19; refine t.mono ?_; rintro e w' ⟨rfl, rfl⟩)
  go_ret
  exact ⟨rfl, rfl⟩
end
end Go.Proofs.YtkkhcgapfklmjaaDoor
