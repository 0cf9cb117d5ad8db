/- What the small functions that ask for an order return: whether a set has a thing (has), and a relation without what leads to itself (withoutSelf). -/
import Derived.WalkKit
import Derived.LoopTactic
import Derived.Test.YtolpkjemgdapgaaDoorFace
namespace Go.Proofs.YtolpkjemgdapgaaDoor
open Go.RowKit

theorem has_fact (s i : Nat) (hs : s < 4096) : (bits BinOp.and IntKind.i64 ((s : Int) / 2 ^ i) 1 == 1) = s.testBit i := by
  have e : (s : Int) / 2 ^ i = ((s / 2 ^ i : Nat) : Int) := by simp
  have h1 : s / 2 ^ i < 4096 := Nat.lt_of_le_of_lt (Nat.div_le_self _ _) hs
  have h2 := and_i64 (s / 2 ^ i) 1 h1 (by decide)
  rw [e]
  rw [show ((1 : Nat) : Int) = 1 from rfl] at h2
  rw [h2, Nat.and_one_is_mod, Nat.testBit_eq_decide_div_mod_eq, Bool.eq_iff_iff]
  simp only [beq_iff_eq, decide_eq_true_eq]
  omega

theorem has_any (s i : Nat) (hs : s < 4096) (hi : i < 12) (w : World) :
    Calls Tryd.prog 26 #[.int .i64 s, .int .i64 i] w fun e w' => e = .returned (.bool (s.testBit i)) ∧ w' = w := by
  go_enter Tryd.func26, Tryd.ntmps26
  go_wp2
  go_ret
  exact ⟨ret_bool (has_fact s i hs), rfl⟩

set_option maxHeartbeats 400000 in
theorem withoutSelf_any (m B cap : Nat) (C : Nat → Nat) (hm : m ≤ 12) (hC : ∀ i, i < m → C i < 4096) (w : World) (ho : Own w B m C) :
    Calls Tryd.prog 25 #[.slice (some ⟨B, 0, none⟩) m cap] w fun e w' => e = .returned (.slice (some ⟨w.heap.size, 0, none⟩) m m) ∧ Own w' w.heap.size m (fun j => less (C j) (2 ^ j)) ∧ Below w.heap.size w w' := by
  have hmk := make_any w m hm
  have hmd := Own.made w m
  have hBm : Below w.heap.size w (w.alloc (.cells (madeCells #[.int .i64 0] m) 3)) := (Below.refl _ w).alloc (Nat.le_refl _) _
  have HC : Hid (∀ i, i < m → C i < 4096) := hC
  clear hC
  go_enter Tryd.func25, Tryd.ntmps25
  go_wp2
  go_loopw [11] (fun i wr => ∃ k : Nat, k ≤ m ∧ i = .int .i64 k ∧ Own wr w.heap.size m (fun j => if j < k then less (C j) (2 ^ j) else 0) ∧ Below w.heap.size w wr) (fun i _ => m - (intOf i).toNat)
  case atStart => exact ⟨0, by omega, rfl, by simpa using hmd, hBm⟩
  case round =>
    obtain ⟨k, hk, rfl, ho', hB⟩ := hrel
    by_cases hlt : k < m
    · have hck := ho'.cell k hlt
      have hfk := ho'.free k hlt
      have hrk := (hB.cell (p := ⟨B, k, none⟩) ho.lt).trans (ho.cell k hlt)
      have hp := pow_wrap (a := k) (by omega)
      have hpl : 2 ^ k < 4096 := Nat.lt_of_lt_of_le (Nat.pow_lt_pow_right (by decide) hlt) (pow12 hm)
      have hnn := andNot_i64 (C k) (2 ^ k) (HC.out k hlt) hpl
      obtain ⟨p, hpe⟩ : ∃ p, 2 ^ k = p := ⟨_, rfl⟩
      rw [hpe] at hp hnn
      have HP : Hid (2 ^ k = p) := hpe
      clear hpe hpl
      go_wp2
      go_roundw
      case rel =>
        refine ⟨k + 1, by omega, by go_num, ho'.put hlt (by rw [if_pos (by omega), HP.out]) (fun j hj hne => ?_), hB.setCell (by simp) _⟩
        have e : (j < k + 1) ↔ (j < k) := by omega
        simp only [e]
      case measure => simp [intOf]; omega
    · have ho2 : Own wr w.heap.size m (fun j => less (C j) (2 ^ j)) := ⟨ho'.lt, fun j hj => by rw [ho'.cell j hj, if_pos (by omega)], ho'.free⟩
      clear ho'
      go_wp2
      go_ret
      exact ⟨rfl, ho2, hB⟩
end Go.Proofs.YtolpkjemgdapgaaDoor
