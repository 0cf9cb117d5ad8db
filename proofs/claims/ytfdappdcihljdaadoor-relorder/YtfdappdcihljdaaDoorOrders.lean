/- The walk of the law RelOrder. -/
import Derived.WalkKit
import Derived.LoopTactic
import Derived.Test.YtfdappdcihljdaaDoorMid
import Derived.Test.YtfdappdcihljdaaDoorClosesAny
namespace Go.Proofs.YtfdappdcihljdaaDoor
open Go.RowKit

set_option maxRecDepth 100000 in
set_option maxHeartbeats 1000000 in
theorem orders_wrong (a : Option Addr) (m cap : Nat) (kp c : Int) (w : World)
    (hfact : Calls Tryd.prog 20 #[] w fun e w' => e = .returned (.bool true) ∧ Below w.heap.size w w')
    (hor : ∀ w1, Below w.heap.size w w1 → Calls Tryd.prog 17 #[.slice a m cap] w1 fun e w' => e = .returned (.tuple #[.bool false, .iface 45 (.int .i64 c)]) ∧ w' = w1)
    (hcl : ∀ w1, Below w.heap.size w w1 → Calls Tryd.prog 15 #[.slice a m cap] w1 fun e w' => e = .returned (.tuple #[.slice none 0 0, .iface 45 (.int .i64 c)]) ∧ w' = w1) :
    Calls Tryd.prog 7 #[.slice a m cap, .int .i64 kp] w fun e w' => e = .returned (.bool true) ∧ Below w.heap.size w w' := by
  go_enter Tryd.func7, Tryd.ntmps7
  go_wp2_with (first | (go_at_call 20; refine hfact.mono ?_; rintro e w1 ⟨rfl, hB⟩; have hor1 := hor w1 hB; have hcl1 := hcl w1 hB; clear hcl hor) | (go_at_call 17; refine hor1.mono ?_; rintro e w' ⟨rfl, rfl⟩) | (go_at_call 15; refine hcl1.mono ?_; rintro e w' ⟨rfl, rfl⟩))
  go_ret
  exact ⟨rfl, hB⟩

/-- What the walk is told of the relation. -/
structure Told (w : World) (a : Option Addr) (m : Nat) (R C : Nat → Nat) (v : Bool) : Prop where
  few : m ≤ 12
  lie : m = 0 ∨ ∃ b off, a = some ⟨b, off, none⟩ ∧ Sets w b off m R
  lr : ∀ i, i < m → R i < 4096
  lc : ∀ i, i < m → C i < 4096
  is : v = noRing m C
  turned : ∀ w1 T f, Below w.heap.size w w1 → Own w1 T m f → (∀ q, q < m → f q < 2 ^ m) → (∀ q, q < m → ∀ p, (f q).testBit p = true ↔ p < m ∧ (R p).testBit q = true) →
    Calls Tryd.prog 17 #[.slice (some ⟨T, 0, none⟩) m m] w1 fun e w' => e = .returned (.tuple #[.bool v, .nilIface]) ∧ Below w1.heap.size w1 w'
  part : ∀ w1 P g, Below w.heap.size w w1 → Own w1 P m g → (∀ q, q < m → g q < 2 ^ m) → (∀ p, p < m → ∀ q, (g p).testBit q = true → (R p).testBit q = true) →
    ∃ y, (v = true → y = true) ∧ Calls Tryd.prog 17 #[.slice (some ⟨P, 0, none⟩) m m] w1 fun e w' => e = .returned (.tuple #[.bool y, .nilIface]) ∧ Below w1.heap.size w1 w'

set_option maxRecDepth 100000 in
set_option maxHeartbeats 2000000 in
theorem orders_some (a : Option Addr) (m cap : Nat) (kp : Int) (w : World) (R C : Nat → Nat) (v : Bool) (hm : m ≤ 12) (hk0 : -9223372036854775808 ≤ kp) (hk1 : kp ≤ 9223372036854775807) (hK : Told w a m R C v)
    (hfact : Calls Tryd.prog 20 #[] w fun e w' => e = .returned (.bool true) ∧ Below w.heap.size w w')
    (hor : ∀ w1, Below w.heap.size w w1 → Calls Tryd.prog 17 #[.slice a m cap] w1 fun e w' => e = .returned (.tuple #[.bool v, .nilIface]) ∧ Below w1.heap.size w1 w')
    (hcl : ∀ w1, Below w.heap.size w w1 → Calls Tryd.prog 15 #[.slice a m cap] w1 fun e w' => e = .returned (.tuple #[.slice (some ⟨w1.heap.size, 0, none⟩) m m, .nilIface]) ∧ Own w' w1.heap.size m C ∧ Below w1.heap.size w1 w') :
    Calls Tryd.prog 7 #[.slice a m cap, .int .i64 kp] w fun e w' => e = .returned (.bool true) ∧ Below w.heap.size w w' := by
  have hmk := fun w => make_any w m hm
  go_enter Tryd.func7, Tryd.ntmps7
  go_wp2_with (first | (go_at_call 20; refine hfact.mono ?_; rintro e w1 ⟨rfl, hB⟩; have hor1 := hor w1 hB; clear hor) | (go_at_call 17; refine hor1.mono ?_; rintro e w2 ⟨rfl, hB2⟩; have hB3 := hB.trans (hB2.mono hB.size); have hcl1 := hcl w2 hB3; clear hcl) | (go_at_call 15; refine hcl1.mono ?_; rintro e w3 ⟨rfl, ho, hB4⟩))
  have hB5 : Below w.heap.size w w3 := hB3.trans (hB4.mono hB3.size)
  have hst : Mid w ((w3.alloc (.cells (madeCells #[.int .i64 0] m) 3)).alloc (.cells (madeCells #[.int .i64 0] m) 3)) w2.heap.size w3.heap.size (w3.heap.size + 1) m R C 0 0 false (fun _ => 0) (fun _ => 0) := by
    have b1 : Below w3.heap.size w3 (w3.alloc (.cells (madeCells #[.int .i64 0] m) 3)) := (Below.refl _ _).alloc (Nat.le_refl _) _
    have b2 : Below (w3.alloc (.cells (madeCells #[.int .i64 0] m) 3)).heap.size (w3.alloc (.cells (madeCells #[.int .i64 0] m) 3)) ((w3.alloc (.cells (madeCells #[.int .i64 0] m) 3)).alloc (.cells (madeCells #[.int .i64 0] m) 3)) := (Below.refl _ _).alloc (Nat.le_refl _) _
    have o2 := Own.made (w3.alloc (.cells (madeCells #[.int .i64 0] m) 3)) m
    rw [World.size_alloc] at o2
    exact Mid.start ((hB5.trans (b1.mono hB5.size)).trans (b2.mono (Nat.le_trans hB5.size (by simp)))) ((ho.below b1).below b2) ((Own.made w3 m).below b2) o2
  have n1 : w2.heap.size ≠ w3.heap.size := by have := ho.lt; omega
  have n2 : w2.heap.size ≠ w3.heap.size + 1 := by have := ho.lt; omega
  have n3 : w3.heap.size + 1 ≠ w3.heap.size := by omega
  have hs5 := hB5.size
  have N : Hid (w2.heap.size ≠ w3.heap.size ∧ w2.heap.size ≠ w3.heap.size + 1 ∧ w.heap.size ≤ w3.heap.size) := ⟨n1, n2, hs5⟩
  clear hB hB2 hB3 hB4 hB5 ho hor1 hcl1 hfact n1 n2 n3 hs5 hmk
  go_loopw [10, 13] (fun r i wr => ∃ (k : Nat) (rg : Bool) (f g : Nat → Nat), k ≤ m ∧ r = .bool rg ∧ i = .int .i64 k ∧ Mid w wr w2.heap.size w3.heap.size (w3.heap.size + 1) m R C k 0 rg f g) (fun _ i _ => m - (intOf i).toNat)
  case atStart => exact ⟨0, false, _, _, by omega, rfl, rfl, hst⟩
  case round =>
    obtain ⟨k, rg, f, g, hk, rfl, rfl, hM⟩ := hrel
    clear hst
    by_cases hlt : k < m
    · have hi : (k : Int) < (m : Int) := by omega
      go_wp2
      go_loopw [10, 14] (fun r j wr => ∃ (q : Nat) (rg : Bool) (f g : Nat → Nat), q ≤ m ∧ r = .bool rg ∧ j = .int .i64 q ∧ Mid w wr w2.heap.size w3.heap.size (w3.heap.size + 1) m R C k q rg f g) (fun _ j _ => m - (intOf j).toNat)
      case atStart => exact ⟨0, rg, f, g, by omega, rfl, rfl, hM⟩
      case round =>
        obtain ⟨q, rg, f, g, hq, rfl, rfl, hM⟩ := hrel
        by_cases hqt : q < m
        · have hj : (q : Int) < (m : Int) := by omega
          rcases hK.lie with h0 | ⟨b, off, rfl, hs⟩
          · exact absurd hlt (by omega)
          have e1 := (hM.bel.cell (p := ⟨b, off + k, none⟩) hs.old).trans (hs.cell k hlt)
          have e2 := hM.oc.cell k hlt
          have e3 := hM.oc.cell q hqt
          have e4 := hM.ot.cell q hqt
          have e5 := hM.ot.free q hqt
          have e6 := hM.op.cell k hlt
          have e7 := hM.op.free k hlt
          have l1 := hK.lr k hlt
          have l2 := hK.lc k hlt
          have l3 := hK.lc q hqt
          have l4 := Nat.lt_of_lt_of_le (hM.lf q hqt) (pow12 hm)
          have l5 := Nat.lt_of_lt_of_le (hM.lg k hlt) (pow12 hm)
          have n0 : ((w3.heap.size + 1 = w3.heap.size) : Prop) = False := by simp
          cases hb3 : (R k).testBit q with
          | false =>
            have HB3 : Hid ((R k).testBit q = false) := hb3
            by_cases hkq : k = q
            · have hne : ((k : Int) != (q : Int)) = false := by simp [hkq]
              have HP : Hid (rg = (rg || pair C k q)) := by simp [Hid, pair, hkq]
              clear hkq
              go_wp2_with (first | (go_at_call 21; refine (bit_keep _ _ (by omega) (by omega) _).mono ?_; rintro e w' ⟨rfl, rfl⟩) | (go_at_call 24; refine (with_any _ _ (by omega) (by omega) _).mono ?_; rintro e w' ⟨rfl, rfl⟩))
              go_roundw
              case rel => exact ⟨q + 1, rg, f, g, by omega, rfl, by go_num, hM.pass hlt hqt HP.out HB3.out⟩
              case measure => simp [intOf]; omega
            · have hne : ((k : Int) != (q : Int)) = true := by simp; omega
              cases hb1 : (C k).testBit q with
              | false =>
                have HP : Hid (rg = (rg || pair C k q)) := by simp [Hid, pair, hb1]
                clear hkq
                go_wp2_with (first | (go_at_call 21; refine (bit_keep _ _ (by omega) (by omega) _).mono ?_; rintro e w' ⟨rfl, rfl⟩) | (go_at_call 24; refine (with_any _ _ (by omega) (by omega) _).mono ?_; rintro e w' ⟨rfl, rfl⟩))
                go_roundw
                case rel => exact ⟨q + 1, rg, f, g, by omega, rfl, by go_num, hM.pass hlt hqt HP.out HB3.out⟩
                case measure => simp [intOf]; omega
              | true =>
                cases hb2 : (C q).testBit k with
                | false =>
                  have HP : Hid (rg = (rg || pair C k q)) := by simp [Hid, pair, hb2]
                  clear hkq
                  go_wp2_with (first | (go_at_call 21; refine (bit_keep _ _ (by omega) (by omega) _).mono ?_; rintro e w' ⟨rfl, rfl⟩) | (go_at_call 24; refine (with_any _ _ (by omega) (by omega) _).mono ?_; rintro e w' ⟨rfl, rfl⟩))
                  go_roundw
                  case rel => exact ⟨q + 1, rg, f, g, by omega, rfl, by go_num, hM.pass hlt hqt HP.out HB3.out⟩
                  case measure => simp [intOf]; omega
                | true =>
                  have HP : Hid (true = (rg || pair C k q)) := by simp [Hid, pair, hb1, hb2, hkq]
                  clear hkq
                  go_wp2_with (first | (go_at_call 21; refine (bit_keep _ _ (by omega) (by omega) _).mono ?_; rintro e w' ⟨rfl, rfl⟩) | (go_at_call 24; refine (with_any _ _ (by omega) (by omega) _).mono ?_; rintro e w' ⟨rfl, rfl⟩))
                  go_roundw
                  case rel => exact ⟨q + 1, true, f, g, by omega, rfl, by go_num, hM.pass hlt hqt HP.out HB3.out⟩
                  case measure => simp [intOf]; omega
          | true =>
            have HB3 : Hid ((R k).testBit q = true) := hb3
            have hns : w3.heap.size + 1 ≠ w3.heap.size := by omega
            have HT : Hid (w3.heap.size + 1 ≠ w3.heap.size) := hns
            clear hns
            by_cases hneg : kp < 0
            · by_cases hkq : k = q
              · have hne : ((k : Int) != (q : Int)) = false := by simp [hkq]
                have HP : Hid (rg = (rg || pair C k q)) := by simp [Hid, pair, hkq]
                clear hkq
                go_wp2_with (first | (go_at_call 21; refine (bit_keep _ _ (by omega) (by omega) _).mono ?_; rintro e w' ⟨rfl, rfl⟩) | (go_at_call 24; refine (with_any _ _ (by omega) (by omega) _).mono ?_; rintro e w' ⟨rfl, rfl⟩))
                go_roundw
                case rel => exact ⟨q + 1, rg, _, g, by omega, rfl, by go_num, hM.turn hlt hqt HP.out HB3.out N.out.1 HT.out N.out.2.2⟩
                case measure => simp [intOf]; omega
              · have hne : ((k : Int) != (q : Int)) = true := by simp; omega
                cases hb1 : (C k).testBit q with
                | false =>
                  have HP : Hid (rg = (rg || pair C k q)) := by simp [Hid, pair, hb1]
                  clear hkq
                  go_wp2_with (first | (go_at_call 21; refine (bit_keep _ _ (by omega) (by omega) _).mono ?_; rintro e w' ⟨rfl, rfl⟩) | (go_at_call 24; refine (with_any _ _ (by omega) (by omega) _).mono ?_; rintro e w' ⟨rfl, rfl⟩))
                  go_roundw
                  case rel => exact ⟨q + 1, rg, _, g, by omega, rfl, by go_num, hM.turn hlt hqt HP.out HB3.out N.out.1 HT.out N.out.2.2⟩
                  case measure => simp [intOf]; omega
                | true =>
                  cases hb2 : (C q).testBit k with
                  | false =>
                    have HP : Hid (rg = (rg || pair C k q)) := by simp [Hid, pair, hb2]
                    clear hkq
                    go_wp2_with (first | (go_at_call 21; refine (bit_keep _ _ (by omega) (by omega) _).mono ?_; rintro e w' ⟨rfl, rfl⟩) | (go_at_call 24; refine (with_any _ _ (by omega) (by omega) _).mono ?_; rintro e w' ⟨rfl, rfl⟩))
                    go_roundw
                    case rel => exact ⟨q + 1, rg, _, g, by omega, rfl, by go_num, hM.turn hlt hqt HP.out HB3.out N.out.1 HT.out N.out.2.2⟩
                    case measure => simp [intOf]; omega
                  | true =>
                    have HP : Hid (true = (rg || pair C k q)) := by simp [Hid, pair, hb1, hb2, hkq]
                    clear hkq
                    go_wp2_with (first | (go_at_call 21; refine (bit_keep _ _ (by omega) (by omega) _).mono ?_; rintro e w' ⟨rfl, rfl⟩) | (go_at_call 24; refine (with_any _ _ (by omega) (by omega) _).mono ?_; rintro e w' ⟨rfl, rfl⟩))
                    go_roundw
                    case rel => exact ⟨q + 1, true, _, g, by omega, rfl, by go_num, hM.turn hlt hqt HP.out HB3.out N.out.1 HT.out N.out.2.2⟩
                    case measure => simp [intOf]; omega
            · obtain ⟨kn, rfl⟩ := Int.eq_ofNat_of_zero_le (show 0 ≤ kp by omega)
              cases hb4 : kn.testBit q with
              | false =>
                by_cases hkq : k = q
                · have hne : ((k : Int) != (q : Int)) = false := by simp [hkq]
                  have HP : Hid (rg = (rg || pair C k q)) := by simp [Hid, pair, hkq]
                  clear hkq
                  go_wp2_with (first | (go_at_call 21; refine (bit_keep _ _ (by omega) (by omega) _).mono ?_; rintro e w' ⟨rfl, rfl⟩) | (go_at_call 24; refine (with_any _ _ (by omega) (by omega) _).mono ?_; rintro e w' ⟨rfl, rfl⟩))
                  go_roundw
                  case rel => exact ⟨q + 1, rg, _, g, by omega, rfl, by go_num, hM.turn hlt hqt HP.out HB3.out N.out.1 HT.out N.out.2.2⟩
                  case measure => simp [intOf]; omega
                · have hne : ((k : Int) != (q : Int)) = true := by simp; omega
                  cases hb1 : (C k).testBit q with
                  | false =>
                    have HP : Hid (rg = (rg || pair C k q)) := by simp [Hid, pair, hb1]
                    clear hkq
                    go_wp2_with (first | (go_at_call 21; refine (bit_keep _ _ (by omega) (by omega) _).mono ?_; rintro e w' ⟨rfl, rfl⟩) | (go_at_call 24; refine (with_any _ _ (by omega) (by omega) _).mono ?_; rintro e w' ⟨rfl, rfl⟩))
                    go_roundw
                    case rel => exact ⟨q + 1, rg, _, g, by omega, rfl, by go_num, hM.turn hlt hqt HP.out HB3.out N.out.1 HT.out N.out.2.2⟩
                    case measure => simp [intOf]; omega
                  | true =>
                    cases hb2 : (C q).testBit k with
                    | false =>
                      have HP : Hid (rg = (rg || pair C k q)) := by simp [Hid, pair, hb2]
                      clear hkq
                      go_wp2_with (first | (go_at_call 21; refine (bit_keep _ _ (by omega) (by omega) _).mono ?_; rintro e w' ⟨rfl, rfl⟩) | (go_at_call 24; refine (with_any _ _ (by omega) (by omega) _).mono ?_; rintro e w' ⟨rfl, rfl⟩))
                      go_roundw
                      case rel => exact ⟨q + 1, rg, _, g, by omega, rfl, by go_num, hM.turn hlt hqt HP.out HB3.out N.out.1 HT.out N.out.2.2⟩
                      case measure => simp [intOf]; omega
                    | true =>
                      have HP : Hid (true = (rg || pair C k q)) := by simp [Hid, pair, hb1, hb2, hkq]
                      clear hkq
                      go_wp2_with (first | (go_at_call 21; refine (bit_keep _ _ (by omega) (by omega) _).mono ?_; rintro e w' ⟨rfl, rfl⟩) | (go_at_call 24; refine (with_any _ _ (by omega) (by omega) _).mono ?_; rintro e w' ⟨rfl, rfl⟩))
                      go_roundw
                      case rel => exact ⟨q + 1, true, _, g, by omega, rfl, by go_num, hM.turn hlt hqt HP.out HB3.out N.out.1 HT.out N.out.2.2⟩
                      case measure => simp [intOf]; omega
              | true =>
                by_cases hkq : k = q
                · have hne : ((k : Int) != (q : Int)) = false := by simp [hkq]
                  have HP : Hid (rg = (rg || pair C k q)) := by simp [Hid, pair, hkq]
                  clear hkq
                  go_wp2_with (first | (go_at_call 21; refine (bit_keep _ _ (by omega) (by omega) _).mono ?_; rintro e w' ⟨rfl, rfl⟩) | (go_at_call 24; refine (with_any _ _ (by omega) (by omega) _).mono ?_; rintro e w' ⟨rfl, rfl⟩))
                  go_roundw
                  case rel => exact ⟨q + 1, rg, _, _, by omega, rfl, by go_num, (hM.turn hlt hqt HP.out HB3.out N.out.1 HT.out N.out.2.2).part hlt hqt HB3.out N.out.2.1 (Ne.symm HT.out) (by have := N.out.2.2; omega)⟩
                  case measure => simp [intOf]; omega
                · have hne : ((k : Int) != (q : Int)) = true := by simp; omega
                  cases hb1 : (C k).testBit q with
                  | false =>
                    have HP : Hid (rg = (rg || pair C k q)) := by simp [Hid, pair, hb1]
                    clear hkq
                    go_wp2_with (first | (go_at_call 21; refine (bit_keep _ _ (by omega) (by omega) _).mono ?_; rintro e w' ⟨rfl, rfl⟩) | (go_at_call 24; refine (with_any _ _ (by omega) (by omega) _).mono ?_; rintro e w' ⟨rfl, rfl⟩))
                    go_roundw
                    case rel => exact ⟨q + 1, rg, _, _, by omega, rfl, by go_num, (hM.turn hlt hqt HP.out HB3.out N.out.1 HT.out N.out.2.2).part hlt hqt HB3.out N.out.2.1 (Ne.symm HT.out) (by have := N.out.2.2; omega)⟩
                    case measure => simp [intOf]; omega
                  | true =>
                    cases hb2 : (C q).testBit k with
                    | false =>
                      have HP : Hid (rg = (rg || pair C k q)) := by simp [Hid, pair, hb2]
                      clear hkq
                      go_wp2_with (first | (go_at_call 21; refine (bit_keep _ _ (by omega) (by omega) _).mono ?_; rintro e w' ⟨rfl, rfl⟩) | (go_at_call 24; refine (with_any _ _ (by omega) (by omega) _).mono ?_; rintro e w' ⟨rfl, rfl⟩))
                      go_roundw
                      case rel => exact ⟨q + 1, rg, _, _, by omega, rfl, by go_num, (hM.turn hlt hqt HP.out HB3.out N.out.1 HT.out N.out.2.2).part hlt hqt HB3.out N.out.2.1 (Ne.symm HT.out) (by have := N.out.2.2; omega)⟩
                      case measure => simp [intOf]; omega
                    | true =>
                      have HP : Hid (true = (rg || pair C k q)) := by simp [Hid, pair, hb1, hb2, hkq]
                      clear hkq
                      go_wp2_with (first | (go_at_call 21; refine (bit_keep _ _ (by omega) (by omega) _).mono ?_; rintro e w' ⟨rfl, rfl⟩) | (go_at_call 24; refine (with_any _ _ (by omega) (by omega) _).mono ?_; rintro e w' ⟨rfl, rfl⟩))
                      go_roundw
                      case rel => exact ⟨q + 1, true, _, _, by omega, rfl, by go_num, (hM.turn hlt hqt HP.out HB3.out N.out.1 HT.out N.out.2.2).part hlt hqt HB3.out N.out.2.1 (Ne.symm HT.out) (by have := N.out.2.2; omega)⟩
                      case measure => simp [intOf]; omega
        · have hM2 : Mid w wr w2.heap.size w3.heap.size (w3.heap.size + 1) m R C (k + 1) 0 rg f g := by
            have : q = m := by omega
            subst this; exact hM.row
          clear hM
          go_wp2
          go_roundw
          case rel => exact ⟨k + 1, rg, f, g, by omega, rfl, by go_num, hM2⟩
          case measure => simp [intOf]; omega
    · have hrg : rg = !v := by
        rw [hK.is]
        cases hr : rg with
        | true =>
          obtain ⟨p, q, hp, hq, _, hne, h1, h2⟩ := hM.rn.1 hr
          cases hn : noRing m C with
          | false => rfl
          | true => have := (noRing_iff m C).1 hn p q hp hq hne h1; rw [h2] at this; cases this
        | false =>
          have hn : noRing m C = true := (noRing_iff m C).2 fun p q hp hq hne h1 => by
            cases h2 : (C q).testBit p with
            | false => rfl
            | true =>
              have := hM.rn.2 ⟨p, q, hp, hq, by unfold Bef; omega, hne, h1, h2⟩
              rw [hr] at this; cases this
          rw [hn]; rfl
      have htn := hK.turned wr w3.heap.size f hM.bel hM.ot hM.lf fun q hq p => by
        rw [hM.bf q hq p]
        constructor
        · rintro ⟨_, h⟩; exact h
        · rintro ⟨h, h'⟩; exact ⟨by unfold Bef; omega, h, h'⟩
      have hpt := fun w5 (hb : Below wr.heap.size wr w5) => hK.part w5 (w3.heap.size + 1) g (hM.bel.trans (hb.mono hM.bel.size)) (hM.op.below hb) hM.lg hM.bg
      have hBr := hM.bel
      clear hM hK
      cases v with
      | true =>
        obtain rfl : rg = false := hrg
        go_wp2_with (first | (go_at_call 17; refine htn.mono ?_; clear htn; rintro e w5 ⟨rfl, hB5⟩; obtain ⟨y, hy, hpc⟩ := hpt w5 hB5; clear hpt; obtain rfl : y = true := hy rfl) | (go_at_call 17; refine hpc.mono ?_; rintro e w6 ⟨rfl, hB6⟩))
        go_ret
        exact ⟨rfl, (hBr.trans (hB5.mono hBr.size)).trans (hB6.mono (Nat.le_trans hBr.size hB5.size))⟩
      | false =>
        obtain rfl : rg = true := hrg
        go_wp2_with (first | (go_at_call 17; refine htn.mono ?_; clear htn; rintro e w5 ⟨rfl, hB5⟩; obtain ⟨y, hy, hpc⟩ := hpt w5 hB5; clear hpt hy) | (go_at_call 17; refine hpc.mono ?_; rintro e w6 ⟨rfl, hB6⟩))
        go_ret
        exact ⟨rfl, (hBr.trans (hB5.mono hBr.size)).trans (hB6.mono (Nat.le_trans hBr.size hB5.size))⟩

/-- Turned round, what is come to turns round. -/
theorem reach_turned {m : Nat} {rows : List Nat} {f : Nat → Nat} (hf : ∀ q, q < m → ∀ p, (f q).testBit p = true ↔ p < m ∧ (rows.getD p 0).testBit q = true)
    {x y : Nat} (hx : x < m) (h : Reach (listOf m f) x y) : y < m ∧ Reach rows y x := by
  refine h (fun i => i < m ∧ Reach rows i x) ⟨hx, Reach.refl _ _⟩ fun i j ⟨hi, hR⟩ hb => ?_
  rw [listOf_get f hi] at hb
  obtain ⟨hj, hbit⟩ := (hf i hi j).1 hb
  exact ⟨hj, ((Reach.refl rows j).step hbit).trans hR⟩
theorem reach_back {m : Nat} {rows : List Nat} {f : Nat → Nat} (hr : Right m rows) (hf : ∀ q, q < m → ∀ p, (f q).testBit p = true ↔ p < m ∧ (rows.getD p 0).testBit q = true)
    {x y : Nat} (hx : x < m) (h : Reach rows x y) : y < m ∧ Reach (listOf m f) y x := by
  refine h (fun i => i < m ∧ Reach (listOf m f) i x) ⟨hx, Reach.refl _ _⟩ fun i j ⟨hi, hR⟩ hb => ?_
  have hj : j < m := bit_lt (hr.2.2 i) hb
  refine ⟨hj, ((Reach.refl (listOf m f) j).step ?_).trans hR⟩
  rw [listOf_get f hj]
  exact (hf j hj i).2 ⟨hi, hb⟩
theorem noRing_eq {m : Nat} {C D : Nat → Nat} (h : ∀ i k, i < m → k < m → ((C i).testBit k = true ↔ (D k).testBit i = true)) : noRing m C = noRing m D := by
  rw [Bool.eq_iff_iff, noRing_iff, noRing_iff]
  constructor
  · intro hc i k hi hk hne hb
    have := hc k i hk hi (Ne.symm hne) ((h k i hk hi).2 hb)
    cases hd : (D k).testBit i with
    | false => rfl
    | true => rw [(h i k hi hk).2 hd] at this; cases this
  · intro hd i k hi hk hne hb
    have := hd k i hk hi (Ne.symm hne) ((h i k hi hk).1 hb)
    cases hc : (C k).testBit i with
    | false => rfl
    | true => rw [(h k i hk hi).1 hc] at this; cases this
theorem noRing_part {m : Nat} {rows : List Nat} {g : Nat → Nat} (hr : Right m rows) (hm : m ≤ 12) (hg : ∀ p, p < m → g p < 2 ^ m) (hs : ∀ p, p < m → ∀ q, (g p).testBit q = true → (rows.getD p 0).testBit q = true)
    (h : noRing m (come m rows) = true) : noRing m (come m (listOf m g)) = true := by
  have hl := listOf_right hm hg
  have sub : ∀ x y, x < m → Reach (listOf m g) x y → Reach rows x y := fun x y hx hR =>
    (hR (fun i => i < m ∧ Reach rows x i) ⟨hx, Reach.refl _ _⟩ fun i j ⟨hi, hR'⟩ hb => by
      rw [listOf_get g hi] at hb
      exact ⟨bit_lt (hg i hi) hb, hR'.step (hs i hi j hb)⟩).2
  rw [noRing_iff] at h ⊢
  intro i k hi hk hne hb
  have h1 := h i k hi hk hne ((come_bit hr hi k).2 (sub i k hi ((come_bit hl hi k).1 hb)))
  cases hc : (come m (listOf m g) k).testBit i with
  | false => rfl
  | true =>
    have := (come_bit hr hk i).2 (sub k i hk ((come_bit hl hk i).1 hc))
    rw [this] at h1; cases h1

theorem orders_any (a : Option Addr) (m cap : Nat) (z : List Int) (kp : Int) (hk0 : -9223372036854775808 ≤ kp) (hk1 : kp ≤ 9223372036854775807) (hz : m ≤ z.length) (w : World) (h1 : AtNums w a m z) (hT : Tab w) :
    Calls Tryd.prog 7 #[.slice a m cap, .int .i64 kp] w fun e w' => e = .returned (.bool true) ∧ Below w.heap.size w w' := by
  have hfact := fact_any w hT
  by_cases hf : Fine m z
  · have hr := rowsOf_right hf.1 hz hf.2
    refine orders_some a m cap kp w (fun i => (rowsOf m z).getD i 0) (come m (rowsOf m z)) (noRing m (come m (rowsOf m z))) hf.1 hk0 hk1 ?_ hfact
      (fun w1 hB => Order_fine a m cap z hz w1 (h1.below hB) (hT.below hB hT.size) hf) (fun w1 hB => Closure_fine a m cap z hz w1 (h1.below hB) (hT.below hB hT.size) hf)
    have hc := come_closed hr
    refine ⟨hf.1, ?_, hc.lr, hc.lc, rfl, fun w1 T f hB ho hl hb => ?_, fun w1 P g hB ho hl hb => ?_⟩
    · rcases h1.at hf.2 with h | ⟨b, off, e, l⟩
      · exact .inl h
      · exact .inr ⟨b, off, e, l.old, l.cell⟩
    · have e : noRing m (come m (rowsOf m z)) = noRing m (come m (listOf m f)) := noRing_eq fun i k hi hk => by
        have hlr := listOf_right hf.1 hl
        rw [come_bit hr hi, come_bit hlr hk]
        exact ⟨fun h => (reach_back hr hb hi h).2, fun h => (reach_turned hb hk h).2⟩
      rw [e]
      exact Order_own m T m f hf.1 hl w1 ho (hT.below hB hT.size)
    · exact ⟨_, fun h => noRing_part hr hf.1 hl hb h, Order_own m P m g hf.1 hl w1 ho (hT.below hB hT.size)⟩
  · exact orders_wrong a m cap kp (wrongN m) w hfact (fun w1 hB => Order_wrong a m cap z w1 (h1.below hB) hf) (fun w1 hB => Closure_wrong a m cap z w1 (h1.below hB) hf)
end Go.Proofs.YtfdappdcihljdaaDoor
