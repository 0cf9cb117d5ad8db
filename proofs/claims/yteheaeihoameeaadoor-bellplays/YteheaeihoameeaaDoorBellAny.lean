/- What any ask of a monitor answers, and what becomes of the monitor. -/
import Derived.WalkKit
import Derived.LoopTactic
import Derived.Deep.Cut
import Derived.Deep.QuietTactic
import Derived.BigQuiet
import Derived.Test.YteheaeihoameeaaDoorBellStep
namespace Go.Proofs.YteheaeihoameeaaDoor
open Go.RowKit
set_option maxRecDepth 100000

section
variable {n0 n1 B gu gf cu cf : Nat} {au af : Option Addr} {W : World} {s : BellSt}
set_option maxHeartbeats 1000000 in
theorem ask_write (h : Mon n0 n1 B au af gu gf cu cf W s) (u f : Nat) (t : Int) (hin : askIn s 1 u f t = true) (v : Value) (s' : BellSt) (hu : u < s.nu)
    (tR : ∀ W', Below W.heap.size W W' → Calls Tryd.prog 34 #[.pointer (some ⟨B, 0, none⟩), .pointer (some ⟨gu, u * 4, none⟩), .int .i64 (f : Int)] W' fun e w' => e = .returned v ∧ Mon n0 n1 B au af gu gf cu cf w' s' ∧ Betw n0 n1 W' w') :
    Calls Tryd.prog 11 #[.pointer (some ⟨B, 0, none⟩), ask4 1 u f t] W fun e w' => e = .returned v ∧ Mon n0 n1 B au af gu gf cu cf w' s' ∧ Betw n0 n1 W w' := by
  have tI := fun o => inRange_any (h.below ((Below.refl _ W).alloc (Nat.le_refl _) o)) 1 u f t
  rw [hin] at tI
  obtain ⟨rfl, _, _⟩ := h.hu (by omega)
  have hui : (u : Int) < (s.nu : Int) := by omega
  have hc0 := h.c0
  obtain ⟨k, hk⟩ : ∃ x, s.nu = x := ⟨_, rfl⟩
  rw [hk] at hc0 hui
  clear hin hk
  go_enter Tryd.func11, Tryd.ntmps11
  go_upto_region 3 with (go_at_call 32; refine (tI _).mono ?_; clear tI; rintro e w2 ⟨rfl, S⟩; have hX := box4_of S; clear S; have hd0 := keep_cell hX.bel hc0; obtain ⟨x0, x1, x2, x3, hb⟩ := hX)
  clear hc0
  go_quiet (fail)
  go_wp2_with (go_at_call 34; refine (tR _ (below_drawn hb _)).mono ?_; clear tR; rintro e w3 ⟨rfl, hM, hB3⟩)
  go_ret
  exact ⟨rfl, hM, ((betw_of hb).drewN _).trans hB3⟩
set_option maxHeartbeats 1000000 in
theorem ask_copy (h : Mon n0 n1 B au af gu gf cu cf W s) (u f t : Nat) (hin : askIn s 3 u f t = true) (v : Value) (s' : BellSt) (hu : u < s.nu)
    (tR : ∀ W', Below W.heap.size W W' → Calls Tryd.prog 35 #[.pointer (some ⟨B, 0, none⟩), .pointer (some ⟨gu, u * 4, none⟩), .int .i64 (f : Int), .int .i64 (t : Int)] W' fun e w' => e = .returned v ∧ Mon n0 n1 B au af gu gf cu cf w' s' ∧ Betw n0 n1 W' w') :
    Calls Tryd.prog 11 #[.pointer (some ⟨B, 0, none⟩), ask4 3 u f t] W fun e w' => e = .returned v ∧ Mon n0 n1 B au af gu gf cu cf w' s' ∧ Betw n0 n1 W w' := by
  have tI := fun o => inRange_any (h.below ((Below.refl _ W).alloc (Nat.le_refl _) o)) 3 u f t
  rw [hin] at tI
  obtain ⟨rfl, _, _⟩ := h.hu (by omega)
  have hui : (u : Int) < (s.nu : Int) := by omega
  have hc0 := h.c0
  obtain ⟨k, hk⟩ : ∃ x, s.nu = x := ⟨_, rfl⟩
  rw [hk] at hc0 hui
  clear hin hk
  go_enter Tryd.func11, Tryd.ntmps11
  go_upto_region 3 with (go_at_call 32; refine (tI _).mono ?_; clear tI; rintro e w2 ⟨rfl, S⟩; have hX := box4_of S; clear S; have hd0 := keep_cell hX.bel hc0; obtain ⟨x0, x1, x2, x3, hb⟩ := hX)
  clear hc0
  go_quiet (fail)
  go_wp2_with (go_at_call 35; refine (tR _ (below_drawn hb _)).mono ?_; clear tR; rintro e w3 ⟨rfl, hM, hB3⟩)
  go_ret
  exact ⟨rfl, hM, ((betw_of hb).drewN _).trans hB3⟩
set_option maxHeartbeats 1000000 in
theorem ask_drop (h : Mon n0 n1 B au af gu gf cu cf W s) (u f : Nat) (t : Int) (hin : askIn s 2 u f t = true) (s' : BellSt) (hu : u < s.nu)
    (tR : ∀ W', Below W.heap.size W W' → Calls Tryd.prog 36 #[.pointer (some ⟨gu, u * 4, none⟩), .int .i64 (f : Int)] W' fun e w' => (∃ v, e = .returned v) ∧ Mon n0 n1 B au af gu gf cu cf w' s' ∧ Betw n0 n1 W' w') :
    Calls Tryd.prog 11 #[.pointer (some ⟨B, 0, none⟩), ask4 2 u f t] W fun e w' => e = .returned .nilIface ∧ Mon n0 n1 B au af gu gf cu cf w' s' ∧ Betw n0 n1 W w' := by
  have tI := fun o => inRange_any (h.below ((Below.refl _ W).alloc (Nat.le_refl _) o)) 2 u f t
  rw [hin] at tI
  obtain ⟨rfl, _, _⟩ := h.hu (by omega)
  have hui : (u : Int) < (s.nu : Int) := by omega
  have hc0 := h.c0
  obtain ⟨k, hk⟩ : ∃ x, s.nu = x := ⟨_, rfl⟩
  rw [hk] at hc0 hui
  clear hin hk
  go_enter Tryd.func11, Tryd.ntmps11
  go_upto_region 3 with (go_at_call 32; refine (tI _).mono ?_; clear tI; rintro e w2 ⟨rfl, S⟩; have hX := box4_of S; clear S; have hd0 := keep_cell hX.bel hc0; obtain ⟨x0, x1, x2, x3, hb⟩ := hX)
  clear hc0
  go_quiet (fail)
  go_wp2_with (go_at_call 36; refine (tR _ (below_drawn hb _)).mono ?_; clear tR; rintro e w3 ⟨⟨v, rfl⟩, hM, hB3⟩)
  go_ret
  exact ⟨rfl, hM, ((betw_of hb).drewN _).trans hB3⟩
end
/-- May a user read a file, and write it? -/
def mayRead (s : BellSt) (u f : Nat) : Bool := belB (s.fl f) (s.fs f) (s.ul u) (s.us u) && allB s.nf (s.uw u) (fun g => belB (s.fl f) (s.fs f) (s.fl g) (s.fs g))
def mayWrite (s : BellSt) (u f : Nat) : Bool := allB s.nf (s.ur u) (fun g => belB (s.fl g) (s.fs g) (s.fl f) (s.fs f))
/-- What an ask of users and files that there are comes to. -/
def askTo (s : BellSt) (k u f t : Nat) : Int × BellSt :=
  if k = 0 then (if mayRead s u f then (0, { s with ur := upd s.ur u (s.ur u ||| 2 ^ f) }) else (7, s))
  else if k = 1 then (if mayWrite s u f then (0, { s with uw := upd s.uw u (s.uw u ||| 2 ^ f) }) else (7, s))
  else if k = 2 then (0, { s with ur := upd s.ur u (less (s.ur u) (2 ^ f)), uw := upd s.uw u (less (s.uw u) (2 ^ f)) })
  else (if (s.ur u).testBit f && (s.uw u).testBit t then (0, { s with fh := upd s.fh t (s.fh t ||| s.fh f) }) else (8, s))
/-- What any ask comes to. -/
def askB (s : BellSt) (k u f t : Int) : Int × BellSt := if askIn s k u f t then askTo s k.toNat u.toNat f.toNat t.toNat else (1, s)
theorem askIn_iff (s : BellSt) (k u f t : Int) : askIn s k u f t = true ↔ (0 ≤ k ∧ k ≤ 3) ∧ (0 ≤ u ∧ u < s.nu) ∧ (0 ≤ f ∧ f < s.nf) ∧ (k ≠ 3 ∨ (0 ≤ t ∧ t < s.nf)) := by
  simp only [askIn, inB, Bool.and_eq_true, Bool.or_eq_true, decide_eq_true_eq]
theorem ask_any {n0 n1 B gu gf cu cf : Nat} {au af : Option Addr} {W : World} {s : BellSt} (h : Mon n0 n1 B au af gu gf cu cf W s) (ok : BellOk s) (hT : Tab W) (k u f t : Int) :
    Calls Tryd.prog 11 #[.pointer (some ⟨B, 0, none⟩), ask4 k u f t] W fun e w' => e = .returned (errV (askB s k u f t).1) ∧ Mon n0 n1 B au af gu gf cu cf w' (askB s k u f t).2 ∧ Betw n0 n1 W w' := by
  cases hin : askIn s k u f t with
  | false =>
    rw [askB, hin]
    exact ask_out h k u f t hin
  | true =>
    obtain ⟨⟨k0, k3⟩, ⟨u0, u1⟩, ⟨f0, f1⟩, ht⟩ := (askIn_iff _ _ _ _ _).1 hin
    obtain ⟨u, rfl⟩ := Int.eq_ofNat_of_zero_le u0
    obtain ⟨f, rfl⟩ := Int.eq_ofNat_of_zero_le f0
    have hu : u < s.nu := by omega
    have hf : f < s.nf := by omega
    rw [askB, if_pos hin]
    have hk : k = 0 ∨ k = 1 ∨ k = 2 ∨ k = 3 := by omega
    rcases hk with rfl | rfl | rfl | rfl
    · simp only [Int.toNat_natCast, Int.toNat_zero, askTo, if_pos]
      cases hb : belB (s.fl f) (s.fs f) (s.ul u) (s.us u) with
      | false =>
        have e : mayRead s u f = false := by rw [mayRead, hb, Bool.false_and]
        rw [e]
        exact ask_read h u f t hin _ _ hu fun W' b => bread_no1 (h.below b) ok u f hu hf hb
      | true =>
        cases ha : allB s.nf (s.uw u) (fun g => belB (s.fl f) (s.fs f) (s.fl g) (s.fs g)) with
        | false =>
          have e : mayRead s u f = false := by rw [mayRead, hb, ha, Bool.true_and]
          rw [e]
          exact ask_read h u f t hin _ _ hu fun W' b => bread_no2 (h.below b) ok (hT.below b hT.size) u f hu hf hb ha
        | true =>
          have e : mayRead s u f = true := by rw [mayRead, hb, ha, Bool.true_and]
          rw [e]
          exact ask_read h u f t hin _ _ hu fun W' b => bread_yes (h.below b) ok (hT.below b hT.size) u f hu hf hb ha
    · simp only [Int.toNat_natCast, Int.toNat_one, askTo, if_pos, if_neg (show ¬ (1 : Nat) = 0 by decide)]
      cases ha : allB s.nf (s.ur u) (fun g => belB (s.fl g) (s.fs g) (s.fl f) (s.fs f)) with
      | false =>
        have e : mayWrite s u f = false := ha
        rw [e]
        exact ask_write h u f t hin _ _ hu fun W' b => bwrite_no (h.below b) ok (hT.below b hT.size) u f hu hf ha
      | true =>
        have e : mayWrite s u f = true := ha
        rw [e]
        exact ask_write h u f t hin _ _ hu fun W' b => bwrite_yes (h.below b) ok (hT.below b hT.size) u f hu hf ha
    · have e : askTo s (2 : Int).toNat (u : Int).toNat (f : Int).toNat t.toNat = (0, { s with ur := upd s.ur u (less (s.ur u) (2 ^ f)), uw := upd s.uw u (less (s.uw u) (2 ^ f)) }) := rfl
      rw [e]
      exact ask_drop h u f t hin _ hu fun W' b => bdrop_any (h.below b) ok u f hu hf
    · obtain ⟨t0, t1⟩ : 0 ≤ t ∧ t < s.nf := by omega
      obtain ⟨t, rfl⟩ := Int.eq_ofNat_of_zero_le t0
      have htl : t < s.nf := by omega
      have e : askTo s (3 : Int).toNat (u : Int).toNat (f : Int).toNat (t : Int).toNat = (if (s.ur u).testBit f && (s.uw u).testBit t then (0, { s with fh := upd s.fh t (s.fh t ||| s.fh f) }) else (8, s)) := rfl
      rw [e]
      cases hr : (s.ur u).testBit f with
      | false =>
        exact ask_copy h u f t hin _ _ hu fun W' b => (bcopy_no (h.below b) ok u f t hu hf htl (.inl hr)).mono fun e w' ⟨he, hw⟩ => ⟨he, hw ▸ h.below b, hw ▸ Betw.refl _ _ _⟩
      | true =>
        cases hw : (s.uw u).testBit t with
        | false =>
          exact ask_copy h u f t hin _ _ hu fun W' b => (bcopy_no (h.below b) ok u f t hu hf htl (.inr ⟨hr, hw⟩)).mono fun e w' ⟨he, hw⟩ => ⟨he, hw ▸ h.below b, hw ▸ Betw.refl _ _ _⟩
        | true =>
          exact ask_copy h u f t hin _ _ hu fun W' b => bcopy_yes (h.below b) ok u f t hu hf htl hr hw
end Go.Proofs.YteheaeihoameeaaDoor
