/- What copying and letting go answer (copy, drop). -/
import Derived.WalkKit
import Derived.LoopTactic
import Derived.BigRegion
import Derived.Deep.Cut
import Derived.Test.YteheaeihoameeaaDoorBellMon
namespace Go.Proofs.YteheaeihoameeaaDoor
open Go.RowKit
set_option maxRecDepth 100000

set_option maxHeartbeats 1000000 in
theorem bcopy_no {n0 n1 B gu gf cu cf : Nat} {au af : Option Addr} {W : World} {s : BellSt} (h : Mon n0 n1 B au af gu gf cu cf W s) (ok : BellOk s) (u f t : Nat) (hu : u < s.nu) (hf : f < s.nf) (ht : t < s.nf)
    (hb : (s.ur u).testBit f = false ∨ ((s.ur u).testBit f = true ∧ (s.uw u).testBit t = false)) :
    Calls Tryd.prog 35 #[.pointer (some ⟨B, 0, none⟩), .pointer (some ⟨gu, u * 4, none⟩), .int .i64 (f : Int), .int .i64 (t : Int)] W fun e w' => e = .returned (.iface 63 (.int .i64 8)) ∧ w' = W := by
  have h8 := ok.nf
  have h12 : 2 ^ s.nf ≤ 4096 := pow12 (by omega)
  have tR := fun W' => bhas_any (s.ur u) f (Nat.lt_of_lt_of_le (ok.ur u hu) h12) (by omega) W'
  have tW := fun W' => bhas_any (s.uw u) t (Nat.lt_of_lt_of_le (ok.uw u hu) h12) (by omega) W'
  have u2 := h.u2 u hu
  have u3 := h.u3 u hu
  rcases hb with hb | ⟨hb, hb2⟩
  · rw [hb] at tR
    clear hb tW
    obtain ⟨x, hx⟩ : ∃ x, s.ur u = x := ⟨_, rfl⟩
    rw [hx] at u2 tR
    clear hx
    go_enter Tryd.func35, Tryd.ntmps35
    go_wp2_with (go_at_call 54; refine (tR _).mono ?_; clear tR; rintro e w' ⟨rfl, rfl⟩)
    go_ret
    exact ⟨rfl, rfl⟩
  · rw [hb] at tR
    rw [hb2] at tW
    clear hb hb2
    obtain ⟨x, hx⟩ : ∃ x, s.ur u = x := ⟨_, rfl⟩
    obtain ⟨y, hy⟩ : ∃ x, s.uw u = x := ⟨_, rfl⟩
    rw [hx] at u2 tR
    rw [hy] at u3 tW
    clear hx hy
    go_enter Tryd.func35, Tryd.ntmps35
    go_wp2_with (first | (go_at_call 54; refine (tR _).mono ?_; clear tR; rintro e w' ⟨rfl, rfl⟩) | (go_at_call 54; refine (tW _).mono ?_; clear tW; rintro e w' ⟨rfl, rfl⟩))
    go_ret
    exact ⟨rfl, rfl⟩
set_option maxHeartbeats 1000000 in
theorem bcopy_yes {n0 n1 B gu gf cu cf : Nat} {au af : Option Addr} {W : World} {s : BellSt} (h : Mon n0 n1 B au af gu gf cu cf W s) (ok : BellOk s) (u f t : Nat) (hu : u < s.nu) (hf : f < s.nf) (ht : t < s.nf)
    (hb : (s.ur u).testBit f = true) (hb2 : (s.uw u).testBit t = true) :
    Calls Tryd.prog 35 #[.pointer (some ⟨B, 0, none⟩), .pointer (some ⟨gu, u * 4, none⟩), .int .i64 (f : Int), .int .i64 (t : Int)] W fun e w' => e = .returned .nilIface ∧ Mon n0 n1 B au af gu gf cu cf w' { s with fh := upd s.fh t (s.fh t ||| s.fh f) } ∧ Betw n0 n1 W w' := by
  obtain ⟨rfl, hlo, _, hhi⟩ := h.hf (by omega)
  have hlow : n0 ≤ gf ∧ gf < n1 := ⟨hlo, hhi⟩
  have h8 := ok.nf
  have h12 : 2 ^ s.nf ≤ 4096 := pow12 (by omega)
  have tR := fun W' => bhas_any (s.ur u) f (Nat.lt_of_lt_of_le (ok.ur u hu) h12) (by omega) W'
  have tW := fun W' => bhas_any (s.uw u) t (Nat.lt_of_lt_of_le (ok.uw u hu) h12) (by omega) W'
  have u2 := h.u2 u hu
  have u3 := h.u3 u hu
  have c1 := h.c1
  have q1 := h.f2 f hf
  have q2 := h.f2 t ht
  have q3 := h.q2 t ht
  have hor := or_i64 (s.fh t) (s.fh f) (Nat.lt_of_lt_of_le (ok.fh t ht) h12) (Nat.lt_of_lt_of_le (ok.fh f hf) h12)
  have hfi : (f : Int) < (s.nf : Int) := by omega
  have hti : (t : Int) < (s.nf : Int) := by omega
  rw [hb] at tR
  rw [hb2] at tW
  clear hb hb2
  obtain ⟨z, hz⟩ : ∃ x, s.fh t ||| s.fh f = x := ⟨_, rfl⟩
  rw [hz] at hor
  have HZ : Hid (s.fh t ||| s.fh f = z) := hz
  obtain ⟨x, hx⟩ : ∃ x, s.ur u = x := ⟨_, rfl⟩
  obtain ⟨y, hy⟩ : ∃ x, s.uw u = x := ⟨_, rfl⟩
  obtain ⟨k, hk⟩ : ∃ x, s.nf = x := ⟨_, rfl⟩
  obtain ⟨v1, hv1⟩ : ∃ x, s.fh t = x := ⟨_, rfl⟩
  obtain ⟨v2, hv2⟩ : ∃ x, s.fh f = x := ⟨_, rfl⟩
  rw [hx] at u2 tR
  rw [hy] at u3 tW
  rw [hk] at c1 hfi hti
  rw [hv1] at q2 hor
  rw [hv2] at q1 hor
  clear hx hy hz hk hv1 hv2 h12
  go_enter Tryd.func35, Tryd.ntmps35
  go_upto_region 3 with (first | (go_at_call 54; refine (tR _).mono ?_; clear tR; rintro e w' ⟨rfl, rfl⟩) | (go_at_call 54; refine (tW _).mono ?_; clear tW; rintro e w' ⟨rfl, rfl⟩))
  clear u2 u3
  go_region
  all_goals
    go_wp2
    go_ret
    exact ⟨rfl, by rw [HZ.out]; exact (h.putH ht).drew, ((Betw.refl _ _ _).setCell hlow _).drew⟩
set_option maxHeartbeats 1000000 in
theorem bdrop_any {n0 n1 B gu gf cu cf : Nat} {au af : Option Addr} {W : World} {s : BellSt} (h : Mon n0 n1 B au af gu gf cu cf W s) (ok : BellOk s) (u f : Nat) (hu : u < s.nu) (hf : f < s.nf) :
    Calls Tryd.prog 36 #[.pointer (some ⟨gu, u * 4, none⟩), .int .i64 (f : Int)] W fun e w' => (∃ v, e = .returned v) ∧ Mon n0 n1 B au af gu gf cu cf w' { s with ur := upd s.ur u (less (s.ur u) (2 ^ f)), uw := upd s.uw u (less (s.uw u) (2 ^ f)) } ∧ Betw n0 n1 W w' := by
  obtain ⟨rfl, hlo, _, hhi⟩ := h.hu (by omega)
  have hlow : n0 ≤ gu ∧ gu < n1 := ⟨hlo, hhi⟩
  have h8 := ok.nf
  have h12 : 2 ^ s.nf ≤ 4096 := pow12 (by omega)
  have hpl := Nat.lt_of_lt_of_le (Nat.pow_lt_pow_right (a := 2) (by decide) hf) h12
  have u2 := h.u2 u hu
  have u3 := h.u3 u hu
  have r2 := h.r2 u hu
  have r3 := h.r3 u hu
  have hp := pow_wrap (a := f) (by omega)
  have h1 := andNot_i64 (s.ur u) (2 ^ f) (Nat.lt_of_lt_of_le (ok.ur u hu) h12) hpl
  have h2 := andNot_i64 (s.uw u) (2 ^ f) (Nat.lt_of_lt_of_le (ok.uw u hu) h12) hpl
  obtain ⟨y1, hy1⟩ : ∃ x, less (s.ur u) (2 ^ f) = x := ⟨_, rfl⟩
  obtain ⟨y2, hy2⟩ : ∃ x, less (s.uw u) (2 ^ f) = x := ⟨_, rfl⟩
  rw [hy1] at h1
  rw [hy2] at h2
  have H1 : Hid (less (s.ur u) (2 ^ f) = y1) := hy1
  have H2 : Hid (less (s.uw u) (2 ^ f) = y2) := hy2
  obtain ⟨p, hpe⟩ : ∃ p, 2 ^ f = p := ⟨_, rfl⟩
  obtain ⟨x1, hx1⟩ : ∃ x, s.ur u = x := ⟨_, rfl⟩
  obtain ⟨x2, hx2⟩ : ∃ x, s.uw u = x := ⟨_, rfl⟩
  rw [hpe] at hp h1 h2
  rw [hx1] at u2 h1
  rw [hx2] at u3 h2
  clear hy1 hy2 hpe hx1 hx2 hpl h12
  go_enter Tryd.func36, Tryd.ntmps36
  go_wp2
  go_region
  all_goals
    go_wp2
    go_region
  all_goals
    go_wp2
    go_end0
    exact ⟨⟨_, rfl⟩, by rw [H1.out, H2.out]; exact ((h.putR hu).drew.putW hu).drew, ((((Betw.refl _ _ _).setCell hlow _).drew).setCell hlow _).drew⟩
end Go.Proofs.YteheaeihoameeaaDoor
