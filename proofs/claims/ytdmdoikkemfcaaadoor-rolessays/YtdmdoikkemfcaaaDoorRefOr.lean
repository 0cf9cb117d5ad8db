/- Whether the document calls a relation an order (Order of the reference), and which steps it has then (Reduce of the reference). -/
import Derived.WalkKit
import Derived.LoopTactic
import Derived.OwnWalk
import Derived.Maps.AppendAt
import Derived.Test.YtdmdoikkemfcaaaDoorRefCl
namespace Go.Proofs.YtdmdoikkemfcaaaDoor
open Go.RowKit

theorem refOrder_none (a : Option Addr) (cap : Nat) (w : World) :
    Calls Tryd.prog 35 #[.slice a 0 cap] w fun e w' => e = .returned (.bool true) ∧ w' = w := by
  have hcl := refClosure_none a cap w
  go_enter Tryd.func35, Tryd.ntmps35
  go_wp2_with (go_at_call 39; refine hcl.mono ?_; rintro e w' ⟨rfl, rfl⟩)
  go_loop [4] (fun i => i = .int .i64 0) (fun _ => 0)
  case atStart => rfl
  case round =>
    obtain rfl := hrel
    go_wp2
    go_ret
    exact ⟨rfl, rfl⟩

/-- No ring up to a pair. -/
def Past (m : Nat) (C : Nat → Nat) (i j : Nat) : Prop := ∀ p q, p < m → q < m → (p < i ∨ (p = i ∧ q < j)) → p ≠ q → (C p).testBit q = true → (C q).testBit p = false

set_option maxRecDepth 100000 in
set_option maxHeartbeats 1000000 in
theorem refOrder_some (a : Option Addr) (m cap : Nat) (hm : m ≤ 12) (C : Nat → Nat) (hC : ∀ i, i < m → C i < 4096) (w : World)
    (hcl : Calls Tryd.prog 39 #[.slice a m cap] w fun e w' => ∃ g cp, e = .returned (.slice (some ⟨g, 0, none⟩) m cp) ∧ w.heap.size ≤ g ∧ Own w' g m C ∧ Below w.heap.size w w') :
    Calls Tryd.prog 35 #[.slice a m cap] w fun e w' => e = .returned (.bool (noRing m C)) ∧ Below w.heap.size w w' := by
  have HC : Hid (∀ i, i < m → C i < 4096) := hC
  clear hC
  go_enter Tryd.func35, Tryd.ntmps35
  go_wp2_with (go_at_call 39; refine hcl.mono ?_; rintro e w1 ⟨g, cp, rfl, hg, ho, hB⟩)
  have HO : Hid (Own w1 g m C) := ho
  clear ho hcl
  go_loop [4] (fun i => ∃ k : Nat, k ≤ m ∧ i = .int .i64 k ∧ Hid (Past m C k 0)) (fun i => m - (intOf i).toNat)
  case atStart => exact ⟨0, by omega, rfl, fun p q _ _ h => absurd h (by omega)⟩
  case round =>
    obtain ⟨k, hk, rfl, HP⟩ := hrel
    by_cases hlt : k < m
    · have hi : (k : Int) < (m : Int) := by omega
      go_wp2
      go_loop [5] (fun j => ∃ q : Nat, q ≤ m ∧ j = .int .i64 q ∧ Hid (Past m C k q)) (fun j => m - (intOf j).toNat)
      case atStart => exact ⟨0, by omega, rfl, HP⟩
      case round =>
        obtain ⟨q, hq, rfl, HP⟩ := hrel
        by_cases hqt : q < m
        · have hj : (q : Int) < (m : Int) := by omega
          have e1 := HO.out.cell k hlt
          have e2 := HO.out.cell q hqt
          have l1 := HC.out k hlt
          have l2 := HC.out q hqt
          have b1 := bit_any (C k) q l1 (by omega) w1
          have b2 := bit_any (C q) k l2 (by omega) w1
          have next : (k ≠ q → (C k).testBit q = true → (C q).testBit k = false) → Hid (Past m C k (q + 1)) := fun h p r hp hr hb hne h1 => by
            by_cases e : p = k ∧ r = q
            · obtain ⟨rfl, rfl⟩ := e; exact h hne h1
            · exact HP.out p r hp hr (by omega) hne h1
          by_cases hkq : k = q
          · have hne : ((k : Int) != (q : Int)) = false := by simp [hkq]
            have HN := next fun h => absurd hkq h
            clear next hkq b1 b2
            go_wp2
            go_round
            case rel => exact ⟨q + 1, by omega, by go_num, HN⟩
            case measure => simp [intOf]; omega
          · have hne : ((k : Int) != (q : Int)) = true := by simp; omega
            cases hb1 : (C k).testBit q with
            | false =>
              rw [hb1] at b1
              have HN := next fun _ h => by rw [hb1] at h; cases h
              clear next hkq b2 hb1
              go_wp2_with (go_at_call 40; refine b1.mono ?_; rintro e w' ⟨rfl, rfl⟩)
              go_round
              case rel => exact ⟨q + 1, by omega, by go_num, HN⟩
              case measure => simp [intOf]; omega
            | true =>
              rw [hb1] at b1
              cases hb2 : (C q).testBit k with
              | false =>
                rw [hb2] at b2
                have HN := next fun _ _ => hb2
                clear next hkq hb1 hb2
                go_wp2_with (first | (go_at_call 40; refine b1.mono ?_; clear b1; rintro e w' ⟨rfl, rfl⟩) | (go_at_call 40; refine b2.mono ?_; rintro e w' ⟨rfl, rfl⟩))
                go_round
                case rel => exact ⟨q + 1, by omega, by go_num, HN⟩
                case measure => simp [intOf]; omega
              | true =>
                rw [hb2] at b2
                have HN : Hid (noRing m C = false) := by
                  cases hn : noRing m C with
                  | false => rfl
                  | true => have := (noRing_iff m C).1 hn k q hlt hqt hkq hb1; rw [hb2] at this; cases this
                clear next hkq hb1 hb2
                go_wp2_with (first | (go_at_call 40; refine b1.mono ?_; clear b1; rintro e w' ⟨rfl, rfl⟩) | (go_at_call 40; refine b2.mono ?_; rintro e w' ⟨rfl, rfl⟩))
                go_ret
                exact ⟨ret_bool HN.out.symm, hB⟩
        · have HN : Hid (Past m C (k + 1) 0) := fun p r hp hr hb => HP.out p r hp hr (by omega)
          go_wp2
          go_round
          case rel => exact ⟨k + 1, by omega, by go_num, HN⟩
          case measure => simp [intOf]; omega
    · have HN : Hid (noRing m C = true) := (noRing_iff m C).2 fun i q hi hq => HP.out i q hi hq (by omega)
      go_wp2
      go_ret
      exact ⟨ret_bool HN.out.symm, hB⟩

end Go.Proofs.YtdmdoikkemfcaaaDoor
