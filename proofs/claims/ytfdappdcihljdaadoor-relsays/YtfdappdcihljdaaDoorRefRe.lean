/- Which steps the document's order has (Reduce of the reference). -/
import Derived.WalkKit
import Derived.LoopTactic
import Derived.OwnWalk
import Derived.Maps.AppendAt
import Derived.Test.YtfdappdcihljdaaDoorRefOr
import Derived.Test.YtfdappdcihljdaaDoorSteps
namespace Go.Proofs.YtfdappdcihljdaaDoor
open Go.RowKit

/-- Is a thing between two? -/
def Mids (C : Nat → Nat) (i j k : Nat) : Prop := k ≠ i ∧ k ≠ j ∧ (C i).testBit k = true ∧ (C k).testBit j = true
/-- Is there one so far? -/
def Over (C : Nat → Nat) (i j k : Nat) (o : Bool) : Prop := o = true ↔ ∃ x, x < k ∧ Mids C i j x
theorem Over.keep {C : Nat → Nat} {i j k : Nat} {o : Bool} (h : Over C i j k o) (hn : o = true ∨ ¬ Mids C i j k) : Over C i j (k + 1) o := by
  refine h.trans ⟨fun ⟨x, hx, hM⟩ => ⟨x, by omega, hM⟩, fun ⟨x, hx, hM⟩ => ?_⟩
  rcases hn with ho | hn
  · exact h.1 ho
  · by_cases e : x = k
    · subst e; exact absurd hM hn
    · exact ⟨x, by omega, hM⟩
theorem Over.start (C : Nat → Nat) (i j : Nat) : Over C i j 0 false := ⟨fun h => (by cases h), fun h => by obtain ⟨x, hx, _⟩ := h; omega⟩
theorem Over.hit {C : Nat → Nat} {i j k : Nat} (hM : Mids C i j k) : Over C i j (k + 1) true := ⟨fun _ => ⟨k, by omega, hM⟩, fun _ => rfl⟩

/-- The steps from a thing so far. -/
structure Steps1 (m : Nat) (C : Nat → Nat) (i j r : Nat) : Prop where
  lt : r < 2 ^ m
  bs : ∀ x, r.testBit x = true ↔ x < j ∧ (steps m C i).testBit x = true
theorem Steps1.start (m : Nat) (C : Nat → Nat) (i : Nat) : Steps1 m C i 0 0 := ⟨Nat.two_pow_pos m, by simp⟩
theorem Steps1.pass {m : Nat} {C : Nat → Nat} {i j r : Nat} (h : Steps1 m C i j r) (hn : (steps m C i).testBit j = false) : Steps1 m C i (j + 1) r :=
  ⟨h.lt, fun x => by
    rw [h.bs]
    refine ⟨fun ⟨h1, h2⟩ => ⟨by omega, h2⟩, fun ⟨h1, h2⟩ => ⟨?_, h2⟩⟩
    by_cases e : x = j
    · subst e; rw [hn] at h2; cases h2
    · omega⟩
theorem Steps1.free {m : Nat} {C : Nat → Nat} {i j r : Nat} (h : Steps1 m C i j r) : r.testBit j = false := by
  cases hb : r.testBit j with
  | false => rfl
  | true => exact absurd ((h.bs j).1 hb).1 (by omega)
theorem Steps1.put {m : Nat} {C : Nat → Nat} {i j r : Nat} (h : Steps1 m C i j r) (hj : j < m) (hn : (steps m C i).testBit j = true) : Steps1 m C i (j + 1) (r + 2 ^ j) := by
  rw [with_bits r j h.free]
  refine ⟨or_lt h.lt hj, fun x => ?_⟩
  rw [or_bit, h.bs]
  constructor
  · rintro (⟨h1, h2⟩ | rfl)
    · exact ⟨by omega, h2⟩
    · exact ⟨by omega, hn⟩
  · rintro ⟨h1, h2⟩
    by_cases e : j = x
    · exact .inr e
    · exact .inl ⟨by omega, h2⟩
theorem Steps1.ends {m : Nat} {C : Nat → Nat} {i r : Nat} (h : Steps1 m C i m r) (hl : steps m C i < 2 ^ m) : r = steps m C i :=
  eq_of_bits fun x => by
    rw [h.bs]
    exact ⟨fun h => h.2, fun hb => ⟨bit_lt hl hb, hb⟩⟩
theorem steps_self {m : Nat} {C : Nat → Nat} (hO : Ord m C) (hm : m ≤ 12) {i : Nat} (hi : i < m) : (steps m C i).testBit i = false := by
  cases hb : (steps m C i).testBit i with
  | false => rfl
  | true => exact absurd rfl ((oth_bit C i i).1 ((hO.steps_bit hm i i hi).1 hb).1).2
theorem steps_no {m : Nat} {C : Nat → Nat} (hO : Ord m C) (hm : m ≤ 12) {i j : Nat} (hi : i < m) (h : (C i).testBit j = false) : (steps m C i).testBit j = false := by
  cases hb : (steps m C i).testBit j with
  | false => rfl
  | true => have := ((oth_bit C i j).1 ((hO.steps_bit hm i j hi).1 hb).1).1; rw [h] at this; cases this
theorem steps_over {m : Nat} {C : Nat → Nat} (hO : Ord m C) (hm : m ≤ 12) {i j : Nat} (hi : i < m) (h : Over C i j m true) : (steps m C i).testBit j = false := by
  cases hb : (steps m C i).testBit j with
  | false => rfl
  | true =>
    obtain ⟨x, _, h1, h2, h3, h4⟩ := h.1 rfl
    exact absurd ⟨x, (oth_bit C i x).2 ⟨h3, fun e => h1 e.symm⟩, (oth_bit C x j).2 ⟨h4, h2⟩⟩ ((hO.steps_bit hm i j hi).1 hb).2
theorem steps_yes {m : Nat} {C : Nat → Nat} (hO : Ord m C) (hm : m ≤ 12) {i j : Nat} (hi : i < m) (hne : i ≠ j) (hb : (C i).testBit j = true) (h : Over C i j m false) : (steps m C i).testBit j = true := by
  refine (hO.steps_bit hm i j hi).2 ⟨(oth_bit C i j).2 ⟨hb, hne⟩, fun ⟨k, hk, hkj⟩ => ?_⟩
  have h1 := (oth_bit C i k).1 hk
  have h2 := (oth_bit C k j).1 hkj
  have := h.2 ⟨k, bit_lt (hO.lt i hi) h1.1, fun e => h1.2 e.symm, h2.2, h1.1, h2.1⟩
  cases this

set_option maxRecDepth 100000 in
set_option maxHeartbeats 2000000 in
theorem refReduce_some (a : Option Addr) (m cap : Nat) (hm : m ≤ 12) (h0 : 0 < m) (C : Nat → Nat) (hO : Ord m C) (w : World)
    (hcl : Calls Tryd.prog 11 #[.slice a m cap] w fun e w' => ∃ g cp, e = .returned (.slice (some ⟨g, 0, none⟩) m cp) ∧ w.heap.size ≤ g ∧ Own w' g m C ∧ Below w.heap.size w w') :
    Calls Tryd.prog 13 #[.slice a m cap] w fun e w' => ∃ g cp, e = .returned (.slice (some ⟨g, 0, none⟩) m cp) ∧ w.heap.size ≤ g ∧ Own w' g m (steps m C) ∧ Below w.heap.size w w' := by
  have h12 := pow12 hm
  have HC : Hid (∀ i, i < m → C i < 4096) := fun i hi => Nat.lt_of_lt_of_le (hO.lt i hi) h12
  have HOr : Hid (Ord m C) := hO
  clear hO
  obtain ⟨i0, hi0, hz0, hz1, hz2⟩ := info_parts info3
  go_enter Tryd.func13, Tryd.ntmps13
  go_wp2_with (go_at_call 11; refine hcl.mono ?_; rintro e w1 ⟨g, cp, rfl, hg, ho, hB⟩)
  have HO : Hid (Own w1 g m C) := ho
  clear ho hcl
  go_loopw [4, 5] (fun o i wr => ∃ k : Nat, k ≤ m ∧ i = .int .i64 k ∧ wr.ownsRow w1.heap.size 3 1 o k (row k (steps m C)) ∧ Below w1.heap.size w1 wr) (fun _ i _ => m - (intOf i).toNat)
  case atStart => exact ⟨0, by omega, rfl, World.ownsRow_nil _ _ _ _, Below.refl _ _⟩
  case round =>
    obtain ⟨k, hk, rfl, hown, hBr⟩ := hrel
    by_cases hlt : k < m
    · have hi : (k : Int) < (m : Int) := by omega
      have HW : Hid (wr.ownsRow w1.heap.size 3 1 u4 k (row k (steps m C))) := hown
      clear hown
      have e1 := (HO.out.below hBr).cell k hlt
      have l1 := HC.out k hlt
      go_wp2
      go_loop [6, 7] (fun r j => ∃ q x : Nat, q ≤ m ∧ r = .int .i64 x ∧ j = .int .i64 q ∧ Hid (Steps1 m C k q x)) (fun _ j => m - (intOf j).toNat)
      case atStart => exact ⟨0, 0, by omega, rfl, rfl, Steps1.start m C k⟩
      case round =>
        obtain ⟨q, x, hq, rfl, rfl, HS⟩ := hrel
        by_cases hqt : q < m
        · have hj : (q : Int) < (m : Int) := by omega
          have hxl := HS.out.lt
          by_cases hkq : k = q
          · have hne : ((k : Int) == (q : Int)) = true := by simp [hkq]
            have HN : Hid (Steps1 m C k (q + 1) x) := HS.out.pass (by rw [← hkq]; exact steps_self HOr.out hm hlt)
            clear hkq
            go_wp2
            go_round
            case rel => exact ⟨q + 1, x, by omega, rfl, by go_num, HN⟩
            case measure => simp [intOf]; omega
          · have hne : ((k : Int) == (q : Int)) = false := by simp; omega
            have b1 := bit_any (C k) q l1 (by omega) wr
            cases hb1 : (C k).testBit q with
            | false =>
              rw [hb1] at b1
              have HN : Hid (Steps1 m C k (q + 1) x) := HS.out.pass (steps_no HOr.out hm hlt hb1)
              clear hb1 hkq
              go_wp2_with (go_at_call 21; refine b1.mono ?_; clear b1; rintro e w' ⟨rfl, rfl⟩)
              go_round
              case rel => exact ⟨q + 1, x, by omega, rfl, by go_num, HN⟩
              case measure => simp [intOf]; omega
            | true =>
              rw [hb1] at b1
              have HK : Hid (k ≠ q ∧ (C k).testBit q = true) := ⟨hkq, hb1⟩
              clear hb1 hkq
              go_wp2_with (go_at_call 21; refine b1.mono ?_; clear b1; rintro e w' ⟨rfl, rfl⟩)
              go_loop [8, 9] (fun o j => ∃ (t : Nat) (ov : Bool), t ≤ m ∧ o = .bool ov ∧ j = .int .i64 t ∧ Hid (Over C k q t ov)) (fun _ j => m - (intOf j).toNat)
              case atStart => exact ⟨0, false, by omega, rfl, rfl, Over.start C k q⟩
              case round =>
                obtain ⟨t, ov, ht, rfl, rfl, HV⟩ := hrel
                by_cases htt : t < m
                · have hj2 : (t : Int) < (m : Int) := by omega
                  have e2 := (HO.out.below hBr).cell t htt
                  have l2 := HC.out t htt
                  have c1 := bit_any (C k) t l1 (by omega) w'
                  have c2 := bit_any (C t) q l2 (by omega) w'
                  cases ov with
                  | true =>
                    have HN : Hid (Over C k q (t + 1) true) := HV.out.keep (.inl rfl)
                    clear c1 c2
                    go_wp2
                    go_round
                    case rel => exact ⟨t + 1, true, by omega, rfl, by go_num, HN⟩
                    case measure => simp [intOf]; omega
                  | false =>
                    by_cases htk : t = k
                    · have hn1 : ((t : Int) != (k : Int)) = false := by simp [htk]
                      have HN : Hid (Over C k q (t + 1) false) := HV.out.keep (.inr fun h => h.1 htk)
                      clear c1 c2 htk
                      go_wp2
                      go_round
                      case rel => exact ⟨t + 1, false, by omega, rfl, by go_num, HN⟩
                      case measure => simp [intOf]; omega
                    · have hn1 : ((t : Int) != (k : Int)) = true := by simp; omega
                      by_cases htq : t = q
                      · have hn2 : ((t : Int) != (q : Int)) = false := by simp [htq]
                        have HN : Hid (Over C k q (t + 1) false) := HV.out.keep (.inr fun h => h.2.1 htq)
                        clear c1 c2 htk htq
                        go_wp2
                        go_round
                        case rel => exact ⟨t + 1, false, by omega, rfl, by go_num, HN⟩
                        case measure => simp [intOf]; omega
                      · have hn2 : ((t : Int) != (q : Int)) = true := by simp; omega
                        cases hc1 : (C k).testBit t with
                        | false =>
                          rw [hc1] at c1
                          have HN : Hid (Over C k q (t + 1) false) := HV.out.keep (.inr fun h => by have := h.2.2.1; rw [hc1] at this; cases this)
                          clear c2 htk htq hc1
                          go_wp2_with (go_at_call 21; refine c1.mono ?_; clear c1; rintro e w' ⟨rfl, rfl⟩)
                          go_round
                          case rel => exact ⟨t + 1, false, by omega, rfl, by go_num, HN⟩
                          case measure => simp [intOf]; omega
                        | true =>
                          rw [hc1] at c1
                          cases hc2 : (C t).testBit q with
                          | false =>
                            rw [hc2] at c2
                            have HN : Hid (Over C k q (t + 1) false) := HV.out.keep (.inr fun h => by have := h.2.2.2; rw [hc2] at this; cases this)
                            clear htk htq hc1 hc2
                            go_wp2_with (first | (go_at_call 21; refine c1.mono ?_; clear c1; rintro e w' ⟨rfl, rfl⟩) | (go_at_call 21; refine c2.mono ?_; clear c2; rintro e w' ⟨rfl, rfl⟩))
                            go_round
                            case rel => exact ⟨t + 1, false, by omega, rfl, by go_num, HN⟩
                            case measure => simp [intOf]; omega
                          | true =>
                            rw [hc2] at c2
                            have HN : Hid (Over C k q (t + 1) true) := Over.hit ⟨htk, htq, hc1, hc2⟩
                            clear htk htq hc1 hc2
                            go_wp2_with (first | (go_at_call 21; refine c1.mono ?_; clear c1; rintro e w' ⟨rfl, rfl⟩) | (go_at_call 21; refine c2.mono ?_; clear c2; rintro e w' ⟨rfl, rfl⟩))
                            go_round
                            case rel => exact ⟨t + 1, true, by omega, rfl, by go_num, HN⟩
                            case measure => simp [intOf]; omega
                · have htm : t = m := by omega
                  have HVm : Hid (Over C k q m ov) := by rw [Hid, ← htm]; exact HV.out
                  clear htm
                  cases ov with
                  | true =>
                    have HN : Hid (Steps1 m C k (q + 1) x) := HS.out.pass (steps_over HOr.out hm hlt HVm.out)
                    go_wp2
                    go_round
                    case rel => exact ⟨q + 1, x, by omega, rfl, by go_num, HN⟩
                    case measure => simp [intOf]; omega
                  | false =>
                    have HN : Hid (Steps1 m C k (q + 1) (x + 2 ^ q)) := HS.out.put hqt (steps_yes HOr.out hm hlt HK.out.1 HK.out.2 HVm.out)
                    have hp := pow2_any q (by omega) w'
                    have hpl := pow12 (n := q) (by omega)
                    obtain ⟨p, hpe⟩ : ∃ p, 2 ^ q = p := ⟨_, rfl⟩
                    rw [hpe] at hp HN hpl
                    clear hpe
                    go_wp2_with (go_at_call 23; refine hp.mono ?_; clear hp; rintro e w' ⟨rfl, rfl⟩)
                    go_round
                    case rel => exact ⟨q + 1, x + p, by omega, by go_num, by go_num, HN⟩
                    case measure => simp [intOf]; omega
        · have hqm : q = m := by omega
          have HE : Hid (x = steps m C k) := by rw [hqm] at HS; exact HS.out.ends (HOr.out.slt hm k hlt)
          clear hqm
          have hc4 : k + 1 ≤ maxLen := by unfold maxLen; omega
          have hc5 : (k + 1) * 8 ≤ 140737488355328 := by omega
          have hone : ∀ u ∈ [Value.int .i64 (x : Int)], u.oneCell' = true := by intro u hu; rw [List.mem_singleton.1 hu]; rfl
          have hbase : w1.heap.size ≤ (wr.alloc (.cells #[.int .i64 (x : Int)] 3)).heap.size := by have := hBr.size; simp; omega
          have hown := HW.out
          go_wp2_with (at_builtin; refine wpList_append_own _ rfl _ _ 22 rfl w1.heap.size 3 i0 (.int .i64 0) 1 8 Tryd.underlying22 hi0 hz0 hz1 hz2 rfl (by decide) _ k (row k (steps m C)) rfl (hown.alloc _) ⟨_, 0, none⟩ 1 1 [.int .i64 (x : Int)] rfl rfl (cell_one_new _ _ _) hone hc4 hc5 hbase ?_; intro v' w3 hown' hgrow hnil; rw [row_snoc] at hown'; have hB3 : Below w1.heap.size w1 w3 := (hBr.alloc hBr.size _).grown hgrow hbase (ownsRow_block hown))
          go_roundw
          case rel =>
            have hrow : row (k + 1) (upd (steps m C) k x) = row (k + 1) (steps m C) := by
              rw [HE.out]; unfold row; exact List.map_congr_left fun i _ => by
                by_cases e : i = k
                · subst e; rw [upd_same]
                · rw [upd_other _ e]
            rw [hrow] at hown'
            first
              | exact ⟨k + 1, by omega, by go_num, hown', hB3⟩
              | ((repeat apply Exists.intro); exact ⟨⟨k + 1, by omega, by go_num, hown', hB3⟩, rfl⟩)
          case measure => simp [intOf]; omega
    · obtain rfl : k = m := by omega
      obtain ⟨g', cp', hv, hg', hoG⟩ := own_of_row h0 hown
      have HV : Hid (u4 = .slice (some ⟨g', 0, none⟩) k cp') := hv
      clear hv
      go_wp2
      go_ret
      rw [HV.out]
      exact ⟨g', cp', rfl, Nat.le_trans hB.size hg', hoG, hB.trans (hBr.mono hB.size)⟩
end Go.Proofs.YtfdappdcihljdaaDoor
