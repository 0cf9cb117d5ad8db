/- The walk of the law RelCloses. -/
import Derived.WalkKit
import Derived.LoopTactic
import Derived.Deep.QuietTactic
import Derived.BigQuiet
import Derived.Test.YtfdappdcihljdaaDoorFace
namespace Go.Proofs.YtfdappdcihljdaaDoor
open Go.RowKit

theorem bit_true (s i : Nat) (hs : s < 4096) (hi : i < 4096) (h : s.testBit i = true) (w : World) :
    Calls Tryd.prog 21 #[.int .i64 s, .int .i64 i] w fun e w' => e = .returned (.bool true) ∧ w' = w := by rw [← h]; exact bit_any s i hs hi w
theorem bit_false (s i : Nat) (hs : s < 4096) (hi : i < 4096) (h : s.testBit i = false) (w : World) :
    Calls Tryd.prog 21 #[.int .i64 s, .int .i64 i] w fun e w' => e = .returned (.bool false) ∧ w' = w := by rw [← h]; exact bit_any s i hs hi w
theorem within_true (a b : Nat) (ha : a < 4096) (hb : b < 4096) (h : subB a b = true) (w : World) :
    Calls Tryd.prog 22 #[.int .i64 a, .int .i64 b] w fun e w' => e = .returned (.bool true) ∧ w' = w := by rw [← h]; exact within_any a b ha hb w
theorem within_false (a b : Nat) (ha : a < 4096) (hb : b < 4096) (h : subB a b = false) (w : World) :
    Calls Tryd.prog 22 #[.int .i64 a, .int .i64 b] w fun e w' => e = .returned (.bool false) ∧ w' = w := by rw [← h]; exact within_any a b ha hb w

theorem closes_wrong (a1 a2 : Option Addr) (m1 c1 m2 c2 : Nat) (c : Int) (w : World)
    (hfact : Calls Tryd.prog 20 #[] w fun e w' => e = .returned (.bool true) ∧ Below w.heap.size w w')
    (hcl : ∀ w1, Below w.heap.size w w1 → Calls Tryd.prog 15 #[.slice a1 m1 c1] w1 fun e w' => e = .returned (.tuple #[.slice none 0 0, .iface 45 (.int .i64 c)]) ∧ w' = w1) :
    Calls Tryd.prog 4 #[.slice a1 m1 c1, .slice a2 m2 c2] w fun e w' => e = .returned (.bool true) ∧ Below w.heap.size w w' := by
  go_enter Tryd.func4, Tryd.ntmps4
  go_wp2_with (first | (go_at_call 20; refine hfact.mono ?_; rintro e w1 ⟨rfl, hB⟩; have hcl1 := hcl w1 hB; clear hcl) | (go_at_call 15; refine hcl1.mono ?_; rintro e w' ⟨rfl, rfl⟩))
  go_ret
  exact ⟨rfl, hB⟩

/-- Sets in memory. -/
structure Sets (w : World) (b off m : Nat) (R : Nat → Nat) : Prop where
  old : b < w.heap.size
  cell : ∀ i, i < m → w.cell? ⟨b, off + i, none⟩ = some (.int .i64 (R i : Nat))
theorem Sets.below {w w' : World} {b off m : Nat} {R : Nat → Nat} (h : Sets w b off m R) (hb : Below w.heap.size w w') : Sets w' b off m R :=
  ⟨Nat.lt_of_lt_of_le h.old hb.size, fun i hi => (hb.cell (p := ⟨b, off + i, none⟩) h.old).trans (h.cell i hi)⟩
/-- One relation is closed, and has all of another one. -/
structure Closed (m : Nat) (R C : Nat → Nat) : Prop where
  few : m ≤ 12
  lr : ∀ i, i < m → R i < 4096
  lc : ∀ i, i < m → C i < 4096
  self : ∀ i, i < m → (C i).testBit i = true
  all : ∀ i, i < m → subB (R i) (C i) = true
  on : ∀ i j, i < m → j < m → (C i).testBit j = true → subB (C j) (C i) = true

/-- A world from which at most was drawn. -/
def Drawn (w w' : World) : Prop := ∃ n, w' = w.drewN n
theorem Drawn.refl (w : World) : Drawn w w := ⟨0, rfl⟩
theorem Drawn.more {w w' : World} (h : Drawn w w') (n : Nat) : Drawn w (w'.drewN n) := by
  obtain ⟨k, rfl⟩ := h
  exact ⟨k + n, World.drewN_drewN ..⟩
theorem Drawn.sets {w w' : World} (h : Drawn w w') {b off m : Nat} {R : Nat → Nat} (hs : Sets w b off m R) : Sets w' b off m R := by
  obtain ⟨k, rfl⟩ := h
  exact ⟨hs.old, hs.cell⟩
theorem Drawn.below {w w' : World} (h : Drawn w w') {B : Nat} {a : World} (hb : Below B a w) : Below B a w' := by
  obtain ⟨k, rfl⟩ := h
  exact below_drawn hb k

/-- A relation goes on, and has all of another one. -/
structure GoesOn (m : Nat) (R S : Nat → Nat) : Prop where
  self : ∀ i, i < m → (S i).testBit i = true
  all : ∀ i, i < m → subB (R i) (S i) = true
  on : ∀ i j, i < m → j < m → (S i).testBit j = true → subB (S j) (S i) = true
/-- What the second relation may be: of another length; wrong; or right. -/
def Second (w : World) (a2 : Option Addr) (m2 c2 m : Nat) (R C : Nat → Nat) : Prop :=
  (((m2 : Int) != (m : Int)) = true) ∨
  (m2 = m ∧ ∃ c : Int, ∀ w1, Below w.heap.size w w1 → Calls Tryd.prog 10 #[.slice a2 m c2] w1 fun e w' => e = .returned (.iface 45 (.int .i64 c)) ∧ w' = w1) ∨
  (m2 = m ∧ (∀ w1, Below w.heap.size w w1 → Calls Tryd.prog 10 #[.slice a2 m c2] w1 fun e w' => e = .returned .nilIface ∧ w' = w1) ∧
    ∃ b2 off2 S, a2 = some ⟨b2, off2, none⟩ ∧ Sets w b2 off2 m S ∧ (∀ i, i < m → S i < 4096) ∧ (GoesOn m R S → ∀ i, i < m → subB (C i) (S i) = true))

set_option maxRecDepth 100000 in
set_option maxHeartbeats 1000000 in
theorem closes_some (b off cap m : Nat) (a2 : Option Addr) (m2 c2 : Nat) (w : World) (R C : Nat → Nat) (hm : m ≤ 12) (hK : Closed m R C) (hr : Sets w b off m R) (h2 : Second w a2 m2 c2 m R C)
    (hfact : Calls Tryd.prog 20 #[] w fun e w' => e = .returned (.bool true) ∧ Below w.heap.size w w')
    (hcl : ∀ w1, Below w.heap.size w w1 → Calls Tryd.prog 15 #[.slice (some ⟨b, off, none⟩) m cap] w1 fun e w' => e = .returned (.tuple #[.slice (some ⟨w1.heap.size, 0, none⟩) m m, .nilIface]) ∧ Own w' w1.heap.size m C ∧ Below w1.heap.size w1 w') :
    Calls Tryd.prog 4 #[.slice (some ⟨b, off, none⟩) m cap, .slice a2 m2 c2] w fun e w' => e = .returned (.bool true) ∧ Below w.heap.size w w' := by
  go_enter Tryd.func4, Tryd.ntmps4
  go_wp2_with (first | (go_at_call 20; refine hfact.mono ?_; rintro e w1 ⟨rfl, hB⟩; have hcl1 := hcl w1 hB; clear hcl) | (go_at_call 15; refine hcl1.mono ?_; rintro e w2 ⟨rfl, ho, hB2⟩))
  have hrs : Sets w2 b off m R := (hr.below hB).below hB2
  have hcs : Sets w2 w1.heap.size 0 m C := ⟨ho.lt, fun i hi => by rw [Nat.zero_add]; exact ho.cell i hi⟩
  have hBz : Below w.heap.size w w2 := hB.trans (hB2.mono hB.size)
  clear ho hB hB2 hcl1 hfact hr
  go_loopw [9] (fun i wr => ∃ k : Nat, k ≤ m ∧ i = .int .i64 k ∧ Drawn w2 wr) (fun i _ => m - (intOf i).toNat)
  case atStart => exact ⟨0, by omega, rfl, Drawn.refl _⟩
  case round =>
    obtain ⟨k, hk, rfl, hD⟩ := hrel
    by_cases hlt : k < m
    · have hi : (k : Int) < (m : Int) := by omega
      have e1 := (hD.sets hrs).cell k hlt
      have e2 := (hD.sets hcs).cell k hlt
      have l1 := hK.lr k hlt
      have l2 := hK.lc k hlt
      have t1 := bit_true (C k) k l2 (by omega) (hK.self k hlt)
      have t2 := within_true (R k) (C k) l1 l2 (hK.all k hlt)
      rw [Nat.zero_add] at e2
      have d0 : decide ((C k : Int) < 0) = false := decide_eq_false (by omega)
      have d1 : decide (4095 < (C k : Int)) = false := decide_eq_false (by omega)
      go_wp2
      go_quiet ((first | (go_at_call 21; exact Calls.quiet_of_same (t1 _)) | (go_at_call 22; exact Calls.quiet_of_same (t2 _))))
      go_wp2
      have hD3 := hD.more nq
      clear hD t1 t2 d0 d1 l1 e1
      go_loopw [10] (fun j wr => ∃ q : Nat, q ≤ m ∧ j = .int .i64 q ∧ Drawn w2 wr) (fun j _ => m - (intOf j).toNat)
      case atStart => exact ⟨0, by omega, rfl, hD3⟩
      case round =>
        obtain ⟨q, hq, rfl, hD⟩ := hrel
        by_cases hqt : q < m
        · have hj : (q : Int) < (m : Int) := by omega
          have e2 := (hD.sets hcs).cell k hlt
          have e3 := (hD.sets hcs).cell q hqt
          have l3 := hK.lc q hqt
          rw [Nat.zero_add] at e2 e3
          cases hbt : (C k).testBit q with
          | false =>
            have t1 := bit_false (C k) q l2 (by omega) hbt
            clear hbt
            go_wp2
            go_quiet ((first | (go_at_call 21; exact Calls.quiet_of_same (t1 _))))
            go_wp2
            go_roundw
            case rel => exact ⟨q + 1, by omega, by go_num, hD.more _⟩
            case measure => simp [intOf]; omega
          | true =>
            have t1 := bit_true (C k) q l2 (by omega) hbt
            have t2 := within_true (C q) (C k) l3 l2 (hK.on k q hlt hqt hbt)
            clear hbt
            go_wp2
            go_quiet ((first | (go_at_call 21; exact Calls.quiet_of_same (t1 _)) | (go_at_call 22; exact Calls.quiet_of_same (t2 _))))
            go_wp2
            go_roundw
            case rel => exact ⟨q + 1, by omega, by go_num, hD.more _⟩
            case measure => simp [intOf]; omega
        · go_wp2
          go_roundw
          case rel => exact ⟨k + 1, by omega, by go_num, hD⟩
          case measure => simp [intOf]; omega
    · rcases h2 with hne | ⟨rfl, c, hch⟩ | ⟨rfl, hch, b2, off2, S, rfl, hss, hls, hle⟩
      · go_wp2
        go_ret
        exact ⟨rfl, hD.below hBz⟩
      · have hch1 := hch wr (hD.below hBz)
        clear hch
        go_wp2_with (go_at_call 10; refine hch1.mono ?_; rintro e w' ⟨rfl, rfl⟩)
        go_ret
        exact ⟨rfl, hD.below hBz⟩
      · have hch1 := hch wr (hD.below hBz)
        clear hch
        go_wp2_with (go_at_call 10; refine hch1.mono ?_; rintro e w' ⟨rfl, rfl⟩)
        have hsw : Sets w2 b2 off2 m2 S := hss.below hBz
        have HL : Hid (∀ i, i < m2 → S i < 4096) := hls
        have HE : Hid (GoesOn m2 R S → ∀ i, i < m2 → subB (C i) (S i) = true) := hle
        clear hls hle hss hch1 hlt hk
        go_loopw [11] (fun i wr => ∃ p : Nat, p ≤ m2 ∧ i = .int .i64 p ∧ Drawn w2 wr ∧ Hid (∀ i, i < p → (S i).testBit i = true ∧ subB (R i) (S i) = true ∧ ∀ j, j < m2 → (S i).testBit j = true → subB (S j) (S i) = true)) (fun i _ => m2 - (intOf i).toNat)
        case atStart => exact ⟨0, by omega, rfl, hD, fun i h => absurd h (by omega)⟩
        case round =>
          obtain ⟨p, hp, rfl, hD, HG⟩ := hrel
          by_cases hpt : p < m2
          · have hj : (p : Int) < (m2 : Int) := by omega
            have e1 := (hD.sets hrs).cell p hpt
            have e2 := (hD.sets hsw).cell p hpt
            have l1 := hK.lr p hpt
            have l2 := HL.out p hpt
            cases hbt : (S p).testBit p with
            | false =>
              have t1 := bit_false (S p) p l2 (by omega) hbt
              clear hbt
              go_wp2
              go_quiet ((first | (go_at_call 21; exact Calls.quiet_of_same (t1 _))))
              go_wp2
              go_ret
              exact ⟨rfl, (hD.more _).below hBz⟩
            | true =>
              have HB : Hid ((S p).testBit p = true) := hbt
              have t1 := bit_true (S p) p l2 (by omega) hbt
              clear hbt
              cases hwt : subB (R p) (S p) with
              | false =>
                have t2 := within_false (R p) (S p) l1 l2 hwt
                clear hwt
                go_wp2
                go_quiet ((first | (go_at_call 21; exact Calls.quiet_of_same (t1 _)) | (go_at_call 22; exact Calls.quiet_of_same (t2 _))))
                go_wp2
                go_ret
                exact ⟨rfl, (hD.more _).below hBz⟩
              | true =>
                have HW : Hid (subB (R p) (S p) = true) := hwt
                have t2 := within_true (R p) (S p) l1 l2 hwt
                clear hwt
                go_wp2
                go_quiet ((first | (go_at_call 21; exact Calls.quiet_of_same (t1 _)) | (go_at_call 22; exact Calls.quiet_of_same (t2 _))))
                go_wp2
                have hD3 := hD.more nq
                clear hD t1 t2 l1 e1
                go_loopw [12] (fun j wr => ∃ q : Nat, q ≤ m2 ∧ j = .int .i64 q ∧ Drawn w2 wr ∧ Hid (∀ j, j < q → (S p).testBit j = true → subB (S j) (S p) = true)) (fun j _ => m2 - (intOf j).toNat)
                case atStart => exact ⟨0, by omega, rfl, hD3, fun i h => absurd h (by omega)⟩
                case round =>
                  obtain ⟨q, hq, rfl, hD, HJ⟩ := hrel
                  by_cases hqt : q < m2
                  · have hj : (q : Int) < (m2 : Int) := by omega
                    have e2 := (hD.sets hsw).cell p hpt
                    have e3 := (hD.sets hsw).cell q hqt
                    have l3 := HL.out q hqt
                    cases hbt : (S p).testBit q with
                    | false =>
                      have HN : Hid ((S p).testBit q = false) := hbt
                      have t1 := bit_false (S p) q l2 (by omega) hbt
                      clear hbt
                      go_wp2
                      go_quiet ((first | (go_at_call 21; exact Calls.quiet_of_same (t1 _))))
                      go_wp2
                      go_roundw
                      case rel => exact ⟨q + 1, by omega, by go_num, hD.more _, fun j hj hb => by
                        by_cases e : j = q
                        · subst e; exact absurd (hb.symm.trans HN.out) (by decide)
                        · exact HJ.out j (by omega) hb⟩
                      case measure => simp [intOf]; omega
                    | true =>
                      have t1 := bit_true (S p) q l2 (by omega) hbt
                      clear hbt
                      cases hwt : subB (S q) (S p) with
                      | false =>
                        have t2 := within_false (S q) (S p) l3 l2 hwt
                        clear hwt
                        go_wp2
                        go_quiet ((first | (go_at_call 21; exact Calls.quiet_of_same (t1 _)) | (go_at_call 22; exact Calls.quiet_of_same (t2 _))))
                        go_wp2
                        go_ret
                        exact ⟨rfl, (hD.more _).below hBz⟩
                      | true =>
                        have HT : Hid (subB (S q) (S p) = true) := hwt
                        have t2 := within_true (S q) (S p) l3 l2 hwt
                        clear hwt
                        go_wp2
                        go_quiet ((first | (go_at_call 21; exact Calls.quiet_of_same (t1 _)) | (go_at_call 22; exact Calls.quiet_of_same (t2 _))))
                        go_wp2
                        go_roundw
                        case rel => exact ⟨q + 1, by omega, by go_num, hD.more _, fun j hj hb => by
                          by_cases e : j = q
                          · subst e; exact HT.out
                          · exact HJ.out j (by omega) hb⟩
                        case measure => simp [intOf]; omega
                  · go_wp2
                    go_roundw
                    case rel => exact ⟨p + 1, by omega, by go_num, hD, fun i hi => by
                      by_cases e : i = p
                      · subst e; exact ⟨HB.out, HW.out, fun j hj => HJ.out j (by omega)⟩
                      · exact HG.out i (by omega)⟩
                    case measure => simp [intOf]; omega
          · have HC : Hid (∀ i, i < m2 → subB (C i) (S i) = true) := HE.out ⟨fun i hi => (HG.out i (by omega)).1, fun i hi => (HG.out i (by omega)).2.1, fun i j hi hj => (HG.out i (by omega)).2.2 j hj⟩
            clear HG HE
            go_wp2
            go_loopw [13] (fun i wr => ∃ q : Nat, q ≤ m2 ∧ i = .int .i64 q ∧ Drawn w2 wr) (fun i _ => m2 - (intOf i).toNat)
            case atStart => exact ⟨0, by omega, rfl, hD⟩
            case round =>
              obtain ⟨q, hq, rfl, hD⟩ := hrel
              by_cases hqt : q < m2
              · have hj : (q : Int) < (m2 : Int) := by omega
                have e2 := (hD.sets hcs).cell q hqt
                have e3 := (hD.sets hsw).cell q hqt
                rw [Nat.zero_add] at e2
                have t2 := within_true (C q) (S q) (hK.lc q hqt) (HL.out q hqt) (HC.out q hqt)
                go_wp2
                go_quiet ((first | (go_at_call 22; exact Calls.quiet_of_same (t2 _))))
                go_wp2
                go_roundw
                case rel => exact ⟨q + 1, by omega, by go_num, hD.more _⟩
                case measure => simp [intOf]; omega
              · go_wp2
                go_ret
                exact ⟨rfl, hD.below hBz⟩
end Go.Proofs.YtfdappdcihljdaaDoor
