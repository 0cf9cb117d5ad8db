/- What the document's closure is (Closure of the reference): what is come to from each thing. -/
import Derived.WalkKit
import Derived.LoopTactic
import Derived.OwnWalk
import Derived.Maps.AppendAt
import Derived.Test.YtioimgeeamchaaaDoorRowk
import Derived.Test.YtioimgeeamchaaaDoorRefs
import Derived.Test.YtioimgeeamchaaaDoorSweep
namespace Go.Proofs.YtioimgeeamchaaaDoor
open Go.RowKit

theorem refClosure_none (a : Option Addr) (cap : Nat) (w : World) :
    Calls Tryd.prog 28 #[.slice a 0 cap] w fun e w' => e = .returned (.slice none 0 0) ∧ w' = w := by
  go_enter Tryd.func28, Tryd.ntmps28
  go_wp2
  go_loop [3, 4] (fun o i => o = .slice none 0 0 ∧ i = .int .i64 0) (fun _ _ => 0)
  case atStart => exact ⟨rfl, rfl⟩
  case round =>
    obtain ⟨rfl, rfl⟩ := hrel
    go_wp2
    go_ret
    exact ⟨rfl, rfl⟩

set_option maxRecDepth 100000 in
set_option maxHeartbeats 1000000 in
theorem refClosure_some (b off m cap : Nat) (rows : List Nat) (hr : Right m rows) (h0 : 0 < m) (w : World) (hl : Lies w b off m rows) :
    Calls Tryd.prog 28 #[.slice (some ⟨b, off, none⟩) m cap] w fun e w' => ∃ g cp, e = .returned (.slice (some ⟨g, 0, none⟩) m cp) ∧ w.heap.size ≤ g ∧ Own w' g m (come m rows) ∧ Below w.heap.size w w' := by
  have hm := hr.1
  have h12 := pow12 hm
  obtain ⟨i0, hi0, hz0, hz1, hz2⟩ := info_parts info3
  have HR : Hid (Right m rows) := hr
  clear hr
  go_enter Tryd.func28, Tryd.ntmps28
  go_wp2
  go_loopw [3, 4] (fun o i wr => ∃ k : Nat, k ≤ m ∧ i = .int .i64 k ∧ wr.ownsRow w.heap.size 3 1 o k (row k (come m rows)) ∧ Below w.heap.size w wr) (fun _ i _ => m - (intOf i).toNat)
  case atStart => exact ⟨0, by omega, rfl, World.ownsRow_nil _ _ _ _, Below.refl _ _⟩
  case round =>
    obtain ⟨k, hk, rfl, hown, hB⟩ := hrel
    by_cases hlt : k < m
    · have hi : (k : Int) < (m : Int) := by omega
      have hp := pow2_any k (by omega) wr
      have hS0 := Swept.start rows hlt
      obtain ⟨p, hpe⟩ : ∃ p, 2 ^ k = p := ⟨_, rfl⟩
      rw [hpe] at hp hS0
      clear hpe
      have HO : Hid (wr.ownsRow w.heap.size 3 1 u3 k (row k (come m rows))) := hown
      clear hown
      go_wp2_with (go_at_call 40; refine hp.mono ?_; rintro e w' ⟨rfl, rfl⟩)
      go_loop [5, 6] (fun s n => ∃ q set : Nat, q ≤ m ∧ s = .int .i64 set ∧ n = .int .i64 q ∧ Hid (Swept m rows k q 0 set)) (fun _ n => m - (intOf n).toNat)
      case atStart => exact ⟨0, p, by omega, rfl, rfl, hS0⟩
      case round =>
        obtain ⟨q, set, hq, rfl, rfl, HS⟩ := hrel
        by_cases hqt : q < m
        · have hj : (q : Int) < (m : Int) := by omega
          go_wp2
          go_loop [5, 7] (fun s j => ∃ t set : Nat, t ≤ m ∧ s = .int .i64 set ∧ j = .int .i64 t ∧ Hid (Swept m rows k q t set)) (fun _ j => m - (intOf j).toNat)
          case atStart => exact ⟨0, set, by omega, rfl, rfl, HS⟩
          case round =>
            obtain ⟨t, set, ht, rfl, rfl, HS⟩ := hrel
            by_cases htt : t < m
            · have hj2 : (t : Int) < (m : Int) := by omega
              have e1 := (hB.cell (p := ⟨b, off + t, none⟩) hl.old).trans (hl.cell t htt)
              have hs := HS.out.lt
              have hrt := HR.out.2.2 t
              have hbit := bit_any set t (by omega) (by omega) w'
              have hei := either_any set (rows.getD t 0) (by omega) (by omega) w'
              cases hb : set.testBit t with
              | true =>
                rw [hb] at hbit
                have HN : Hid (Swept m rows k q (t + 1) (set ||| rows.getD t 0)) := HS.out.join HR.out hb
                clear hb
                obtain ⟨x, hx⟩ : ∃ x, rows.getD t 0 = x := ⟨_, rfl⟩
                rw [hx] at e1 hei HN
                clear hx
                go_wp2_with (first | (go_at_call 20; refine hbit.mono ?_; rintro e w' ⟨rfl, rfl⟩) | (go_at_call 27; refine hei.mono ?_; rintro e w' ⟨rfl, rfl⟩))
                go_round
                case rel => exact ⟨t + 1, set ||| x, by omega, rfl, by go_num, HN⟩
                case measure => simp [intOf]; omega
              | false =>
                rw [hb] at hbit
                have HN : Hid (Swept m rows k q (t + 1) set) := HS.out.pass hb
                clear hb
                go_wp2_with (first | (go_at_call 20; refine hbit.mono ?_; rintro e w' ⟨rfl, rfl⟩))
                go_round
                case rel => exact ⟨t + 1, set, by omega, rfl, by go_num, HN⟩
                case measure => simp [intOf]; omega
            · obtain rfl : t = m := by omega
              have HN : Hid (Swept t rows k (q + 1) 0 set) := HS.out.turn HR.out hlt
              go_wp2
              go_round
              case rel => exact ⟨q + 1, set, by omega, rfl, by go_num, HN⟩
              case measure => simp [intOf]; omega
        · have hqm : q = m := by omega
          have hse : set = come m rows k := by rw [hqm] at HS; exact HS.out.ends HR.out hlt
          have HE : Hid (set = come m rows k) := hse
          clear hse hqm
          have hc4 : k + 1 ≤ maxLen := by unfold maxLen; omega
          have hc5 : (k + 1) * 8 ≤ 140737488355328 := by omega
          have hone : ∀ u ∈ [Value.int .i64 (set : Int)], u.oneCell' = true := by intro u hu; rw [List.mem_singleton.1 hu]; rfl
          have hbase : w.heap.size ≤ (w'.alloc (.cells #[.int .i64 (set : Int)] 3)).heap.size := by have := hB.size; simp; omega
          have hown := HO.out
          go_wp2_with (at_builtin; refine wpList_append_own _ rfl _ _ 23 rfl w.heap.size 3 i0 (.int .i64 0) 1 8 Tryd.underlying23 hi0 hz0 hz1 hz2 rfl (by decide) _ k (row k (come m rows)) rfl (hown.alloc _) ⟨_, 0, none⟩ 1 1 [.int .i64 (set : Int)] rfl rfl (cell_one_new _ _ _) hone hc4 hc5 hbase ?_; intro v' w3 hown' hgrow hnil; rw [row_snoc] at hown'; have hB3 : Below w.heap.size w w3 := (hB.alloc hB.size _).grown hgrow hbase (ownsRow_block hown))
          go_roundw
          case rel =>
            have hrow : row (k + 1) (upd (come m rows) k set) = row (k + 1) (come m rows) := by
              rw [HE.out]; unfold row; exact List.map_congr_left fun i _ => by
                by_cases e : i = k
                · subst e; rw [upd_same]
                · rw [upd_other _ e]
            rw [hrow] at hown'
            first
              | exact ⟨k + 1, by omega, by go_num, hown', hB3⟩
              | ((repeat apply Exists.intro); exact ⟨⟨k + 1, by omega, by go_num, hown', hB3⟩, rfl⟩)
          case measure => simp [intOf]; omega
    · obtain rfl : k = m := by omega
      obtain ⟨g, cp, hv, hg, hoG⟩ := own_of_row h0 hown
      have HV : Hid (u3 = .slice (some ⟨g, 0, none⟩) k cp) := hv
      clear hv
      go_wp2
      go_ret
      rw [HV.out]
      exact ⟨g, cp, rfl, hg, hoG, hB⟩
end Go.Proofs.YtioimgeeamchaaaDoor
