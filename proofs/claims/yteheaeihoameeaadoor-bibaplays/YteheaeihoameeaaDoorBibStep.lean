/- What any ask of a monitor of package biba answers, and what becomes of it (Ask). -/
import Derived.WalkKit
import Derived.LoopTactic
import Derived.Deep.Cut
import Derived.Deep.QuietTactic
import Derived.BigQuiet
import Derived.Test.YteheaeihoameeaaDoorBibAsk
namespace Go.Proofs.YteheaeihoameeaaDoor
open Go.RowKit
set_option maxRecDepth 100000

theorem cell_alloc_g {W : World} {a : Addr} {v : Value} (o : Obj) (h : W.cell? a = some v) : (W.alloc o).cell? a = some v := keep_cell ((Below.refl _ W).alloc (Nat.le_refl _) o) h
section
variable {n0 n1 B gu gf cu cf : Nat} {au af : Option Addr} {W : World} {s : BibSt}
set_option maxHeartbeats 400000 in
theorem biAsk_out (hM : BMon n0 n1 B au af gu gf cu cf W s) (k u f t : Int) (hin : (inB u s.nu && inB f s.nf) = false) :
    Calls Tryd.prog 17 #[.pointer (some ⟨B, 0, none⟩), ask4 k u f t] W fun e w' => e = .returned (.iface 63 (.int .i64 1)) ∧ BMon n0 n1 B au af gu gf cu cf w' s ∧ Betw n0 n1 W w' := by
  have tU := fun o => biUser_any B au s.nu cu u (W.alloc o) (cell_alloc_g o hM.c0)
  have tF := fun o => biFile_any B af s.nf cf f (W.alloc o) (cell_alloc_g o hM.c1)
  have hB : ∀ o, Below W.heap.size W (W.alloc o) := fun o => (Below.refl _ W).alloc (Nat.le_refl _) _
  cases hu : inB u s.nu with
  | false =>
    rw [hu] at tU
    clear tF hu hin
    go_enter Tryd.func17, Tryd.ntmps17
    go_wp2_with (go_at_call 40; refine (tU _).mono ?_; clear tU; rintro e w' ⟨rfl, rfl⟩)
    go_ret
    exact ⟨rfl, hM.below (hB _), betw_of (hB _)⟩
  | true =>
    rw [hu, Bool.true_and] at hin
    rw [hu] at tU
    rw [hin] at tF
    clear hu hin
    go_enter Tryd.func17, Tryd.ntmps17
    go_wp2_with (first | (go_at_call 40; refine (tU _).mono ?_; clear tU; rintro e w' ⟨rfl, rfl⟩) | (go_at_call 41; refine (tF _).mono ?_; clear tF; rintro e w' ⟨rfl, rfl⟩))
    go_ret
    exact ⟨rfl, hM.below (hB _), betw_of (hB _)⟩
set_option maxHeartbeats 1000000 in
theorem biAsk_read (hM : BMon n0 n1 B au af gu gf cu cf W s) (u f : Nat) (t : Int) (hu : u < s.nu) (hf : f < s.nf) (s' : BibSt)
    (tR : ∀ W', Below W.heap.size W W' → Calls Tryd.prog 42 #[.pointer (some ⟨gu, u * 2, none⟩), .pointer (some ⟨gf, f * 2, none⟩)] W' fun e w' => (∃ v, e = .returned v) ∧ BMon n0 n1 B au af gu gf cu cf w' s' ∧ Betw n0 n1 W' w') :
    Calls Tryd.prog 17 #[.pointer (some ⟨B, 0, none⟩), ask4 0 u f t] W fun e w' => e = .returned .nilIface ∧ BMon n0 n1 B au af gu gf cu cf w' s' ∧ Betw n0 n1 W w' := by
  have tU := fun o => biUser_any B au s.nu cu u (W.alloc o) (cell_alloc_g o hM.c0)
  have tF := fun o => biFile_any B af s.nf cf f (W.alloc o) (cell_alloc_g o hM.c1)
  rw [inB_yes (by omega) (by omega)] at tU
  rw [inB_yes (by omega) (by omega)] at tF
  obtain ⟨rfl, _, _⟩ := hM.hu (by omega)
  obtain ⟨rfl, _, _⟩ := hM.hf (by omega)
  have hui : (u : Int) < (s.nu : Int) := by omega
  have hfi : (f : Int) < (s.nf : Int) := by omega
  have hc0 := hM.c0
  have hc1 := hM.c1
  have lB := hM.ltB
  have hB : ∀ o, Below W.heap.size W (W.alloc o) := fun o => (Below.refl _ W).alloc (Nat.le_refl _) _
  obtain ⟨k, hk⟩ : ∃ x, s.nu = x := ⟨_, rfl⟩
  obtain ⟨j, hj⟩ : ∃ x, s.nf = x := ⟨_, rfl⟩
  rw [hk] at hc0 hui
  rw [hj] at hc1 hfi
  clear hk hj
  go_enter Tryd.func17, Tryd.ntmps17
  go_upto_region 3 with (first | (go_at_call 40; refine (tU _).mono ?_; clear tU; rintro e w' ⟨rfl, rfl⟩) | (go_at_call 41; refine (tF _).mono ?_; clear tF; rintro e w' ⟨rfl, rfl⟩))
  go_quiet (fail)
  go_wp2_with (go_at_call 42; refine (tR _ (below_drawn (hB _) _)).mono ?_; clear tR; rintro e w3 ⟨⟨v, rfl⟩, hM3, hB3⟩)
  go_ret
  exact ⟨rfl, hM3, ((betw_of (hB _)).drewN _).trans hB3⟩
set_option maxHeartbeats 1000000 in
theorem biAsk_write (hM : BMon n0 n1 B au af gu gf cu cf W s) (u f : Nat) (t : Int) (hu : u < s.nu) (hf : f < s.nf) (v : Value) (s' : BibSt)
    (tR : ∀ W', Below W.heap.size W W' → Calls Tryd.prog 43 #[.pointer (some ⟨gu, u * 2, none⟩), .pointer (some ⟨gf, f * 2, none⟩)] W' fun e w' => e = .returned v ∧ BMon n0 n1 B au af gu gf cu cf w' s' ∧ Betw n0 n1 W' w') :
    Calls Tryd.prog 17 #[.pointer (some ⟨B, 0, none⟩), ask4 1 u f t] W fun e w' => e = .returned v ∧ BMon n0 n1 B au af gu gf cu cf w' s' ∧ Betw n0 n1 W w' := by
  have tU := fun o => biUser_any B au s.nu cu u (W.alloc o) (cell_alloc_g o hM.c0)
  have tF := fun o => biFile_any B af s.nf cf f (W.alloc o) (cell_alloc_g o hM.c1)
  rw [inB_yes (by omega) (by omega)] at tU
  rw [inB_yes (by omega) (by omega)] at tF
  obtain ⟨rfl, _, _⟩ := hM.hu (by omega)
  obtain ⟨rfl, _, _⟩ := hM.hf (by omega)
  have hui : (u : Int) < (s.nu : Int) := by omega
  have hfi : (f : Int) < (s.nf : Int) := by omega
  have hc0 := hM.c0
  have hc1 := hM.c1
  have lB := hM.ltB
  have hB : ∀ o, Below W.heap.size W (W.alloc o) := fun o => (Below.refl _ W).alloc (Nat.le_refl _) _
  obtain ⟨k, hk⟩ : ∃ x, s.nu = x := ⟨_, rfl⟩
  obtain ⟨j, hj⟩ : ∃ x, s.nf = x := ⟨_, rfl⟩
  rw [hk] at hc0 hui
  rw [hj] at hc1 hfi
  clear hk hj
  go_enter Tryd.func17, Tryd.ntmps17
  go_upto_region 3 with (first | (go_at_call 40; refine (tU _).mono ?_; clear tU; rintro e w' ⟨rfl, rfl⟩) | (go_at_call 41; refine (tF _).mono ?_; clear tF; rintro e w' ⟨rfl, rfl⟩))
  go_quiet (fail)
  go_wp2_with (go_at_call 43; refine (tR _ (below_drawn (hB _) _)).mono ?_; clear tR; rintro e w3 ⟨rfl, hM3, hB3⟩)
  go_ret
  exact ⟨rfl, hM3, ((betw_of (hB _)).drewN _).trans hB3⟩
set_option maxHeartbeats 1000000 in
theorem biAsk_kind (hM : BMon n0 n1 B au af gu gf cu cf W s) (q : Int) (u f : Nat) (t : Int) (hu : u < s.nu) (hf : f < s.nf) (hq0 : ¬ q = 0) (hq1 : ¬ q = 1) :
    Calls Tryd.prog 17 #[.pointer (some ⟨B, 0, none⟩), ask4 q u f t] W fun e w' => e = .returned (.iface 63 (.int .i64 1)) ∧ BMon n0 n1 B au af gu gf cu cf w' s ∧ Betw n0 n1 W w' := by
  have tU := fun o => biUser_any B au s.nu cu u (W.alloc o) (cell_alloc_g o hM.c0)
  have tF := fun o => biFile_any B af s.nf cf f (W.alloc o) (cell_alloc_g o hM.c1)
  rw [inB_yes (by omega) (by omega)] at tU
  rw [inB_yes (by omega) (by omega)] at tF
  obtain ⟨rfl, _, _⟩ := hM.hu (by omega)
  obtain ⟨rfl, _, _⟩ := hM.hf (by omega)
  have hui : (u : Int) < (s.nu : Int) := by omega
  have hfi : (f : Int) < (s.nf : Int) := by omega
  have hc0 := hM.c0
  have hc1 := hM.c1
  have lB := hM.ltB
  have hB : ∀ o, Below W.heap.size W (W.alloc o) := fun o => (Below.refl _ W).alloc (Nat.le_refl _) _
  have k0 : (q == 0) = false := by simp [hq0]
  have k1 : (q == 1) = false := by simp [hq1]
  obtain ⟨k, hk⟩ : ∃ x, s.nu = x := ⟨_, rfl⟩
  obtain ⟨j, hj⟩ : ∃ x, s.nf = x := ⟨_, rfl⟩
  rw [hk] at hc0 hui
  rw [hj] at hc1 hfi
  clear hk hj hq0 hq1
  go_enter Tryd.func17, Tryd.ntmps17
  go_upto_region 3 with (first | (go_at_call 40; refine (tU _).mono ?_; clear tU; rintro e w' ⟨rfl, rfl⟩) | (go_at_call 41; refine (tF _).mono ?_; clear tF; rintro e w' ⟨rfl, rfl⟩))
  go_quiet (fail)
  go_wp2
  go_ret
  exact ⟨rfl, (hM.below (hB _)).drawn _, (betw_of (hB _)).drewN _⟩
theorem biAsk_any (hM : BMon n0 n1 B au af gu gf cu cf W s) (k u f t : Int) :
    Calls Tryd.prog 17 #[.pointer (some ⟨B, 0, none⟩), ask4 k u f t] W fun e w' => e = .returned (errV (askBib s k u f).1) ∧ BMon n0 n1 B au af gu gf cu cf w' (askBib s k u f).2 ∧ Betw n0 n1 W w' := by
  unfold askBib
  cases hin : (inB u s.nu && inB f s.nf) with
  | false => exact biAsk_out hM k u f t hin
  | true =>
    rw [Bool.and_eq_true, inB_iff, inB_iff] at hin
    obtain ⟨⟨u0, u1⟩, f0, f1⟩ := hin
    obtain ⟨u, rfl⟩ := Int.eq_ofNat_of_zero_le u0
    obtain ⟨f, rfl⟩ := Int.eq_ofNat_of_zero_le f0
    have hu : u < s.nu := by omega
    have hf : f < s.nf := by omega
    rw [if_pos rfl, Int.toNat_natCast, Int.toNat_natCast]
    by_cases hk : k = 0
    · subst hk
      rw [if_pos rfl]
      exact biAsk_read hM u f t hu hf _ fun W' b => biRead_any (hM.below b) u f hu hf
    · rw [if_neg hk]
      by_cases hk1 : k = 1
      · subst hk1
        rw [if_pos rfl]
        by_cases hd : s.ul u < s.fl f
        · rw [if_pos hd]
          exact biAsk_write hM u f t hu hf _ _ fun W' b => biWrite_no (hM.below b) u f hu hf hd
        · rw [if_neg hd]
          exact biAsk_write hM u f t hu hf _ _ fun W' b => biWrite_yes (hM.below b) u f hu hf hd
      · rw [if_neg hk1]
        exact biAsk_kind hM k u f t hu hf hk hk1
end
end Go.Proofs.YteheaeihoameeaaDoor
