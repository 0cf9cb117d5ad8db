/- What an ask of a monitor of package biba answers, and what becomes of it (read, write, Ask, Level, Worst). -/
import Derived.WalkKit
import Derived.LoopTactic
import Derived.BigRegion
import Derived.Deep.Cut
import Derived.Deep.QuietTactic
import Derived.BigQuiet
import Derived.Test.YteheaeihoameeaaDoorBibMon
namespace Go.Proofs.YteheaeihoameeaaDoor
open Go.RowKit
set_option maxRecDepth 100000

section
variable {n0 n1 B gu gf cu cf : Nat} {au af : Option Addr} {W : World} {s : BibSt}
set_option maxHeartbeats 1000000 in
theorem biRead_any (hM : BMon n0 n1 B au af gu gf cu cf W s) (u f : Nat) (hu : u < s.nu) (hf : f < s.nf) :
    Calls Tryd.prog 42 #[.pointer (some ⟨gu, u * 2, none⟩), .pointer (some ⟨gf, f * 2, none⟩)] W fun e w' => (∃ v, e = .returned v) ∧ BMon n0 n1 B au af gu gf cu cf w' { s with ul := upd s.ul u (min (s.ul u) (s.fl f)), uh := upd s.uh u (min (s.uh u) (s.fw f)) } ∧ Betw n0 n1 W w' := by
  obtain ⟨rfl, hlo, _, hhi⟩ := hM.hu (by omega)
  have hlow : n0 ≤ gu ∧ gu < n1 := ⟨hlo, hhi⟩
  have hne := hM.ne (by omega) (by omega)
  have u0 := hM.u0 u hu
  have u1 := hM.u1 u hu
  have r0 := hM.r0 u hu
  have r1 := hM.r1 u hu
  have f0 := hM.f0 f hf
  have f1 := hM.f1 f hf
  have m1 : min (s.ul u : Int) (s.fl f : Int) = ((min (s.ul u) (s.fl f) : Nat) : Int) := by omega
  have m2 : min (s.uh u : Int) (s.fw f : Int) = ((min (s.uh u) (s.fw f) : Nat) : Int) := by omega
  obtain ⟨y1, hy1⟩ : ∃ x, min (s.ul u) (s.fl f) = x := ⟨_, rfl⟩
  obtain ⟨y2, hy2⟩ : ∃ x, min (s.uh u) (s.fw f) = x := ⟨_, rfl⟩
  rw [hy1] at m1
  rw [hy2] at m2
  have H1 : Hid (min (s.ul u) (s.fl f) = y1) := hy1
  have H2 : Hid (min (s.uh u) (s.fw f) = y2) := hy2
  obtain ⟨x1, hx1⟩ : ∃ x, s.ul u = x := ⟨_, rfl⟩
  obtain ⟨x2, hx2⟩ : ∃ x, s.uh u = x := ⟨_, rfl⟩
  obtain ⟨x3, hx3⟩ : ∃ x, s.fl f = x := ⟨_, rfl⟩
  obtain ⟨x4, hx4⟩ : ∃ x, s.fw f = x := ⟨_, rfl⟩
  rw [hx1] at u0 m1
  rw [hx2] at u1 m2
  rw [hx3] at f0 m1
  rw [hx4] at f1 m2
  clear hy1 hy2 hx1 hx2 hx3 hx4
  have e1 : (x3 < x1 → y1 = x3) ∧ (¬ x3 < x1 → y1 = x1) := by omega
  have e2 : (x4 < x2 → y2 = x4) ∧ (¬ x4 < x2 → y2 = x2) := by omega
  have hE : ∀ a b, a = y1 → b = y2 → BMon n0 n1 B (some ⟨gu, 0, none⟩) af gu gf cu cf ((W.setCell ⟨gu, u * 2, none⟩ (.int .i64 (a : Int))).drew.setCell ⟨gu, u * 2 + 1, none⟩ (.int .i64 (b : Int))).drew { s with ul := upd s.ul u (min (s.ul u) (s.fl f)), uh := upd s.uh u (min (s.uh u) (s.fw f)) } ∧ Betw n0 n1 W ((W.setCell ⟨gu, u * 2, none⟩ (.int .i64 (a : Int))).drew.setCell ⟨gu, u * 2 + 1, none⟩ (.int .i64 (b : Int))).drew := by
    rintro a b rfl rfl
    exact ⟨by rw [H1.out, H2.out]; exact ((hM.putL hu).drew.putH hu).drew, ((((Betw.refl _ _ _).setCell hlow _).drew).setCell hlow _).drew⟩
  have HE := Hid.mkI hE
  have he1 := Hid.mkI e1
  have he2 := Hid.mkI e2
  clear hE e1 e2 m1 m2
  by_cases c1 : x3 < x1 <;> by_cases c2 : x4 < x2
  all_goals
    go_enter Tryd.func42, Tryd.ntmps42
    go_wp2
    go_region
    go_wp2
    go_region
    go_wp2
    go_end0
    refine ⟨⟨_, rfl⟩, ?_⟩
  · exact HE.out _ _ (he1.out.1 c1).symm (he2.out.1 c2).symm
  · exact HE.out _ _ (he1.out.1 c1).symm (he2.out.2 c2).symm
  · exact HE.out _ _ (he1.out.2 c1).symm (he2.out.1 c2).symm
  · exact HE.out _ _ (he1.out.2 c1).symm (he2.out.2 c2).symm
set_option maxHeartbeats 1000000 in
theorem biWrite_no (hM : BMon n0 n1 B au af gu gf cu cf W s) (u f : Nat) (hu : u < s.nu) (hf : f < s.nf) (hd : s.ul u < s.fl f) :
    Calls Tryd.prog 43 #[.pointer (some ⟨gu, u * 2, none⟩), .pointer (some ⟨gf, f * 2, none⟩)] W fun e w' => e = .returned (.iface 63 (.int .i64 7)) ∧ BMon n0 n1 B au af gu gf cu cf w' s ∧ Betw n0 n1 W w' := by
  have u0 := hM.u0 u hu
  have f0 := hM.f0 f hf
  have hd' : (s.ul u : Int) < (s.fl f : Int) := by omega
  obtain ⟨x1, hx1⟩ : ∃ x, s.ul u = x := ⟨_, rfl⟩
  obtain ⟨x3, hx3⟩ : ∃ x, s.fl f = x := ⟨_, rfl⟩
  rw [hx1] at u0 hd'
  rw [hx3] at f0 hd'
  clear hx1 hx3 hd
  go_enter Tryd.func43, Tryd.ntmps43
  go_wp2
  go_quiet (fail)
  go_wp2
  go_ret
  exact ⟨rfl, hM.drawn _, (Betw.refl _ _ _).drewN _⟩
set_option maxHeartbeats 1000000 in
theorem biWrite_yes (hM : BMon n0 n1 B au af gu gf cu cf W s) (u f : Nat) (hu : u < s.nu) (hf : f < s.nf) (hd : ¬ s.ul u < s.fl f) :
    Calls Tryd.prog 43 #[.pointer (some ⟨gu, u * 2, none⟩), .pointer (some ⟨gf, f * 2, none⟩)] W fun e w' => e = .returned .nilIface ∧ BMon n0 n1 B au af gu gf cu cf w' { s with fw := upd s.fw f (min (s.fw f) (s.uh u)) } ∧ Betw n0 n1 W w' := by
  obtain ⟨rfl, hlo, _, hhi⟩ := hM.hf (by omega)
  have hlow : n0 ≤ gf ∧ gf < n1 := ⟨hlo, hhi⟩
  have hne := hM.ne (by omega) (by omega)
  have u0 := hM.u0 u hu
  have u1 := hM.u1 u hu
  have f0 := hM.f0 f hf
  have f1 := hM.f1 f hf
  have q1 := hM.q1 f hf
  have hd' : (s.fl f : Int) ≤ (s.ul u : Int) := by omega
  have m1 : min (s.fw f : Int) (s.uh u : Int) = ((min (s.fw f) (s.uh u) : Nat) : Int) := by omega
  obtain ⟨y1, hy1⟩ : ∃ x, min (s.fw f) (s.uh u) = x := ⟨_, rfl⟩
  rw [hy1] at m1
  have H1 : Hid (min (s.fw f) (s.uh u) = y1) := hy1
  obtain ⟨x1, hx1⟩ : ∃ x, s.ul u = x := ⟨_, rfl⟩
  obtain ⟨x2, hx2⟩ : ∃ x, s.uh u = x := ⟨_, rfl⟩
  obtain ⟨x3, hx3⟩ : ∃ x, s.fl f = x := ⟨_, rfl⟩
  obtain ⟨x4, hx4⟩ : ∃ x, s.fw f = x := ⟨_, rfl⟩
  rw [hx1] at u0 hd'
  rw [hx2] at u1 m1
  rw [hx3] at f0 hd'
  rw [hx4] at f1 m1
  have hx2 : Hid (s.uh u = x2) := hx2
  have hx4 : Hid (s.fw f = x4) := hx4
  clear hy1 hx1 hx3 hd
  go_enter Tryd.func43, Tryd.ntmps43
  go_wp2
  go_quiet (fail)
  rename_i nq
  obtain ⟨wd, hwd⟩ : ∃ x, W.drewN nq = x := ⟨_, rfl⟩
  have hM2 := hM.drawn nq
  have hB2 := (Betw.refl n0 n1 W).drewN nq
  rw [hwd] at hM2 hB2 ⊢
  clear hwd u0 u1 f0 f1 q1
  have u1 := hM2.u1 u hu
  have f1 := hM2.f1 f hf
  have q1 := hM2.q1 f hf
  rw [hx2.out] at u1
  rw [hx4.out] at f1
  have hE : ∀ a, a = y1 → BMon n0 n1 B au (some ⟨gf, 0, none⟩) gu gf cu cf (wd.setCell ⟨gf, f * 2 + 1, none⟩ (.int .i64 (a : Int))).drew { s with fw := upd s.fw f (min (s.fw f) (s.uh u)) } ∧ Betw n0 n1 W (wd.setCell ⟨gf, f * 2 + 1, none⟩ (.int .i64 (a : Int))).drew := by
    rintro a rfl
    exact ⟨by rw [H1.out]; exact (hM2.putF hf).drew, (hB2.setCell hlow _).drew⟩
  have HE := Hid.mkI hE
  have e1 : (x2 < x4 → y1 = x2) ∧ (¬ x2 < x4 → y1 = x4) := by omega
  have he1 := Hid.mkI e1
  clear hE e1 m1 hx2 hx4
  by_cases c1 : x2 < x4
  all_goals
    go_wp2
    go_region
    go_wp2
    go_ret
    refine ⟨rfl, ?_⟩
  · exact HE.out _ (he1.out.1 c1).symm
  · exact HE.out _ (he1.out.2 c1).symm
theorem level_in (h : BMon n0 n1 B au af gu gf cu cf W s) (i : Nat) (hi : i < s.nu) :
    Calls Tryd.prog 19 #[.pointer (some ⟨B, 0, none⟩), .int .i64 (i : Int)] W fun e w' => e = .returned (.int .i64 (s.ul i : Int)) ∧ w' = W := by
  obtain ⟨rfl, _, _⟩ := h.hu (by omega)
  have c := h.c0
  have t := biUser_any B _ s.nu _ (i : Int) W c
  rw [inB_yes (by omega) (by omega)] at t
  have u := h.u0 i hi
  have hii : (i : Int) < (s.nu : Int) := by omega
  obtain ⟨x, hx⟩ : ∃ x, s.ul i = x := ⟨_, rfl⟩
  obtain ⟨k, hk⟩ : ∃ x, s.nu = x := ⟨_, rfl⟩
  rw [hx] at u ⊢
  rw [hk] at c hii
  clear hx hk
  go_enter Tryd.func19, Tryd.ntmps19
  go_wp2_with (go_at_call 40; refine t.mono ?_; rintro e w' ⟨rfl, rfl⟩)
  go_ret
  exact ⟨rfl, rfl⟩
theorem level_out (h : BMon n0 n1 B au af gu gf cu cf W s) (i : Int) (hi : i < 0 ∨ (s.nu : Int) ≤ i) :
    Calls Tryd.prog 19 #[.pointer (some ⟨B, 0, none⟩), .int .i64 i] W fun e w' => e = .returned (.int .i64 (-1)) ∧ w' = W := by
  have t := biUser_any B _ s.nu _ i W h.c0
  rw [inB_no hi] at t
  go_enter Tryd.func19, Tryd.ntmps19
  go_wp2_with (go_at_call 40; refine t.mono ?_; rintro e w' ⟨rfl, rfl⟩)
  go_ret
  exact ⟨rfl, rfl⟩
theorem worst_in (h : BMon n0 n1 B au af gu gf cu cf W s) (i : Nat) (hi : i < s.nf) :
    Calls Tryd.prog 18 #[.pointer (some ⟨B, 0, none⟩), .int .i64 (i : Int)] W fun e w' => e = .returned (.int .i64 (s.fw i : Int)) ∧ w' = W := by
  obtain ⟨rfl, _, _⟩ := h.hf (by omega)
  have c := h.c1
  have t := biFile_any B _ s.nf _ (i : Int) W c
  rw [inB_yes (by omega) (by omega)] at t
  have u := h.f1 i hi
  have hii : (i : Int) < (s.nf : Int) := by omega
  obtain ⟨x, hx⟩ : ∃ x, s.fw i = x := ⟨_, rfl⟩
  obtain ⟨k, hk⟩ : ∃ x, s.nf = x := ⟨_, rfl⟩
  rw [hx] at u ⊢
  rw [hk] at c hii
  clear hx hk
  go_enter Tryd.func18, Tryd.ntmps18
  go_wp2_with (go_at_call 41; refine t.mono ?_; rintro e w' ⟨rfl, rfl⟩)
  go_ret
  exact ⟨rfl, rfl⟩
theorem worst_out (h : BMon n0 n1 B au af gu gf cu cf W s) (i : Int) (hi : i < 0 ∨ (s.nf : Int) ≤ i) :
    Calls Tryd.prog 18 #[.pointer (some ⟨B, 0, none⟩), .int .i64 i] W fun e w' => e = .returned (.int .i64 (-1)) ∧ w' = W := by
  have t := biFile_any B _ s.nf _ i W h.c1
  rw [inB_no hi] at t
  go_enter Tryd.func18, Tryd.ntmps18
  go_wp2_with (go_at_call 41; refine t.mono ?_; rintro e w' ⟨rfl, rfl⟩)
  go_ret
  exact ⟨rfl, rfl⟩
end
end Go.Proofs.YteheaeihoameeaaDoor
