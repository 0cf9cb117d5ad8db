/- The bound of two things (bound), and whether any two have one (bounded), in the form of a plain call. -/
import Derived.WalkKit
import Derived.LoopTactic
import Derived.Test.YtomencagnppdcaaDoorBound
namespace Go.Proofs.YtomencagnppdcaaDoor
open Go.RowKit

theorem bound_any (m B cap a b : Nat) (D : Nat → Nat) (hL : Lat m D) (ha : a < m) (hb : b < m) (w : World) (ho : Own w B m D) (hT : Tab w) :
    Calls Tryd.prog 32 #[.slice (some ⟨B, 0, none⟩) m cap, .int .i64 a, .int .i64 b] w fun e w' => e = .returned (.tuple (bndRes (bnd m D a b))) ∧ Below w.heap.size w w' :=
  (callsIn_wide (n := 4)).1 (bound_in 4 m B cap a b D (by omega) hL ha hb w ho hT)

set_option maxRecDepth 100000 in
set_option maxHeartbeats 400000 in
theorem bounded_any (m B cap : Nat) (D : Nat → Nat) (hL : Lat m D) (w : World) (ho : Own w B m D) (hT : Tab w) :
    Calls Tryd.prog 28 #[.slice (some ⟨B, 0, none⟩) m cap] w fun e w' => e = .returned (.bool (allBnd m D)) ∧ Below w.heap.size w w' := by
  have hm := hL.few
  have hcall := fun (i j : Nat) (hi : i < m) (hj : j < m) (w1 : World) (hB : Below w.heap.size w w1) => bound_any m B cap i j D hL hi hj w1 (ho.below hB) (hT.below hB hT.size)
  have HL : Hid (Lat m D) := hL
  clear hL
  go_enter Tryd.func28, Tryd.ntmps28
  go_wp2
  go_loopw [9] (fun i wr => ∃ k : Nat, k ≤ m ∧ i = .int .i64 k ∧ Below w.heap.size w wr ∧ Hid (∀ x y, x < k → y < x → (bnd m D x y).isSome = true)) (fun i _ => m - (intOf i).toNat)
  case atStart => exact ⟨0, by omega, rfl, Below.refl _ _, fun x y h => absurd h (by omega)⟩
  case round =>
    obtain ⟨k, hk, rfl, hB, HP⟩ := hrel
    by_cases hlt : k < m
    · have hki : (k : Int) < (m : Int) := by omega
      go_wp2
      go_loopw [13] (fun j wr => ∃ y : Nat, y ≤ k ∧ j = .int .i64 y ∧ Below w.heap.size w wr ∧ Hid (∀ q, q < y → (bnd m D k q).isSome = true)) (fun j _ => k - (intOf j).toNat)
      case atStart => exact ⟨0, by omega, rfl, hB, fun q h => absurd h (by omega)⟩
      case round =>
        clear hB
        obtain ⟨y, hy, rfl, hB, HQ⟩ := hrel
        by_cases hyt : y < k
        · have hyi : (y : Int) < (k : Int) := by omega
          have hc := hcall k y hlt (by omega) _ hB
          clear hcall
          cases hbn : bnd m D k y with
          | some v =>
            rw [hbn] at hc
            have HN : Hid (∀ q, q < y + 1 → (bnd m D k q).isSome = true) := fun q hq => by
              by_cases e : q = y
              · subst e; rw [hbn]; rfl
              · exact HQ.out q (by omega)
            clear hbn
            simp only [bndRes] at hc
            go_wp2_with (go_at_call 32; refine hc.mono ?_; rintro e w1 ⟨rfl, S⟩)
            go_roundw
            case rel => exact ⟨y + 1, by omega, by go_num, hB.trans (S.mono hB.size), HN⟩
            case measure => simp [intOf]; omega
          | none =>
            rw [hbn] at hc
            have HN : Hid (allBnd m D = false) := by
              cases h : allBnd m D with
              | false => rfl
              | true =>
                have := (allBnd_iff m D).1 h k y hlt (by omega)
                rw [hbn] at this; cases this
            clear hbn
            simp only [bndRes] at hc
            go_wp2_with (go_at_call 32; refine hc.mono ?_; rintro e w1 ⟨rfl, S⟩)
            go_ret
            exact ⟨ret_bool HN.out.symm, hB.trans (S.mono hB.size)⟩
        · have HN : Hid (∀ x y, x < k + 1 → y < x → (bnd m D x y).isSome = true) := fun x q hx hq => by
            by_cases e : x = k
            · subst e; exact HQ.out q (by omega)
            · exact HP.out x q (by omega) hq
          clear hcall
          go_wp2
          go_roundw
          case rel => exact ⟨k + 1, by omega, by go_num, hB, HN⟩
          case measure => simp [intOf]; omega
    · have HN : Hid (allBnd m D = true) := allBnd_of HL.out fun x y hx hy => HP.out x y (by omega) hy
      clear hcall
      go_wp2
      go_ret
      exact ⟨ret_bool HN.out.symm, hB⟩
end Go.Proofs.YtomencagnppdcaaDoor
