/- How many steps it takes, as the document counts them (steps of the reference). -/
import Derived.WalkKit
import Derived.LoopTactic
import Derived.OwnWalk
import Derived.Maps.AppendAt
import Derived.Deep.QuietTactic
import Derived.BigQuiet
import Derived.Test.YtfdappdcihljdaaDoorRefCl
import Derived.Test.YtfdappdcihljdaaDoorOne
namespace Go.Proofs.YtfdappdcihljdaaDoor
open Go.RowKit

set_option maxRecDepth 100000 in
set_option maxHeartbeats 2000000 in
theorem refSteps_any (b off m cap j0 : Nat) (rows : List Nat) (hr : Right m rows) (hj0 : j0 < m) (w : World) (hl : Lies w b off m rows) :
    Calls Tryd.prog 29 #[.slice (some ⟨b, off, none⟩) m cap, .int .i64 j0] w fun e w' => ∃ g cp L, e = .returned (.slice (some ⟨g, 0, none⟩) m cp) ∧ w.heap.size ≤ g ∧ Own w' g m L ∧ Steps m rows j0 L ∧ Below w.heap.size w w' := by
  have hm := hr.1
  have h12 := pow12 hm
  obtain ⟨i0, hi0, hz0, hz1, hz2⟩ := info_parts info3
  have HR : Hid (Right m rows) := hr
  clear hr
  have hone : ∀ u ∈ [Value.int .i64 (20 : Nat)], u.oneCell' = true := by intro u hu; rw [List.mem_singleton.1 hu]; rfl
  go_enter Tryd.func29, Tryd.ntmps29
  go_wp2
  go_loopw [5, 6] (fun o i wr => ∃ k : Nat, k ≤ m ∧ i = .int .i64 k ∧ wr.ownsRow w.heap.size 3 1 o k (row k (fun _ => 20)) ∧ Below w.heap.size w wr) (fun _ i _ => m - (intOf i).toNat)
  case atStart => exact ⟨0, by omega, rfl, World.ownsRow_nil _ _ _ _, Below.refl _ _⟩
  case round =>
    obtain ⟨k, hk, rfl, hown, hB⟩ := hrel
    by_cases hlt : k < m
    · have hc4 : k + 1 ≤ maxLen := by unfold maxLen; omega
      have hc5 : (k + 1) * 8 ≤ 140737488355328 := by omega
      have hbase : w.heap.size ≤ (wr.alloc (.cells #[.int .i64 20] 3)).heap.size := by have := hB.size; simp; omega
      go_wp2_with (at_builtin; refine wpList_append_own _ rfl _ _ 22 rfl w.heap.size 3 i0 (.int .i64 0) 1 8 Tryd.underlying22 hi0 hz0 hz1 hz2 rfl (by decide) _ k (row k (fun _ => 20)) rfl (hown.alloc _) ⟨_, 0, none⟩ 1 1 [.int .i64 (20 : Nat)] rfl rfl (cell_one_new _ _ _) hone hc4 hc5 hbase ?_; intro v' w3 hown' hgrow hnil; rw [row_snoc] at hown'; have hB3 : Below w.heap.size w w3 := (hB.alloc hB.size _).grown hgrow hbase (ownsRow_block hown))
      go_roundw
      case rel =>
        have hrow : row (k + 1) (upd (fun _ => 20) k 20) = row (k + 1) (fun _ => 20) := by
          unfold row; exact List.map_congr_left fun i _ => by
            by_cases e : i = k
            · subst e; rw [upd_same]
            · rw [upd_other _ e]
        rw [hrow] at hown'
        first
          | exact ⟨k + 1, by omega, by go_num, hown', hB3⟩
          | ((repeat apply Exists.intro); exact ⟨⟨k + 1, by omega, by go_num, hown', hB3⟩, rfl⟩)
      case measure => simp [intOf]; omega
    · obtain rfl : k = m := by omega
      obtain ⟨g, cp, hv, hg, hoG⟩ := own_of_row (by omega) hown
      subst hv
      clear hown
      have c0 := hoG.cell j0 hj0
      have f0 := hoG.free j0 hj0
      have hjj : (j0 : Int) < (k : Int) := by omega
      have ho1 : Own (wr.setCell ⟨g, j0, none⟩ (.int .i64 (0 : Nat))) g k (upd (fun _ => 20) j0 0) := hoG.put hj0 (upd_same _ _ _) (fun x _ hne => upd_other _ hne)
      have hB1 : Below w.heap.size w (wr.setCell ⟨g, j0, none⟩ (.int .i64 (0 : Nat))) := hB.setCell (p := ⟨g, j0, none⟩) hg _
      go_wp2
      clear hoG c0 f0
      go_loopw [7] (fun i wr => ∃ (n : Nat) (L : Nat → Nat), n ≤ k ∧ i = .int .i64 n ∧ Hid (Far k rows j0 n 0 0 L) ∧ Own wr g k L ∧ Below w.heap.size w wr) (fun i _ => k - (intOf i).toNat)
      case atStart => exact ⟨0, _, by omega, rfl, Far.start rows, ho1, hB1⟩
      case round =>
        obtain ⟨n, L, hn, rfl, HF, hoL, hBr⟩ := hrel
        clear ho1 hB1
        by_cases hnt : n < k
        · have hi : (n : Int) < (k : Int) := by omega
          go_wp2
          go_loopw [8] (fun i wr => ∃ (x : Nat) (L : Nat → Nat), x ≤ k ∧ i = .int .i64 x ∧ Hid (Far k rows j0 n x 0 L) ∧ Own wr g k L ∧ Below w.heap.size w wr) (fun i _ => k - (intOf i).toNat)
          case atStart => exact ⟨0, L, by omega, rfl, HF, hoL, hBr⟩
          case round =>
            clear hoL hBr HF
            obtain ⟨x, L, hx, rfl, HF, hoL, hBr⟩ := hrel
            by_cases hxt : x < k
            · have hix : (x : Int) < (k : Int) := by omega
              go_wp2
              go_loopw [9] (fun i wr => ∃ (y : Nat) (L : Nat → Nat), y ≤ k ∧ i = .int .i64 y ∧ Hid (Far k rows j0 n x y L) ∧ Own wr g k L ∧ Below w.heap.size w wr) (fun i _ => k - (intOf i).toNat)
              case atStart => exact ⟨0, L, by omega, rfl, HF, hoL, hBr⟩
              case round =>
                clear hoL hBr HF
                obtain ⟨y, L, hy, rfl, HF, hoL, hBr⟩ := hrel
                by_cases hyt : y < k
                · have hiy : (y : Int) < (k : Int) := by omega
                  have e1 := (hBr.cell (p := ⟨b, off + x, none⟩) hl.old).trans (hl.cell x hxt)
                  have hrt := HR.out.2.2 x
                  have hbit := fun W => bit_any (rows.getD x 0) y (by omega) (by omega) W
                  have c1 := hoL.cell x hxt
                  have c2 := hoL.cell y hyt
                  have f1 := hoL.free x hxt
                  have l1 := HF.out.le x hxt
                  have l2 := HF.out.le y hyt
                  cases hb : (rows.getD x 0).testBit y with
                  | false =>
                    rw [hb] at hbit
                    have HN : Hid (Far k rows j0 n x (y + 1) L) := HF.out.pass hyt fun h => by rw [hb] at h; cases h
                    clear hb
                    obtain ⟨R, hRe⟩ : ∃ R, rows.getD x 0 = R := ⟨_, rfl⟩
                    rw [hRe] at e1 hbit
                    clear hRe hrt
                    go_wp2
                    go_quiet ((first | (go_at_call 21; exact Calls.quiet_of_same (hbit _))))
                    go_wp2
                    go_roundw
                    case rel => exact ⟨y + 1, L, by omega, by go_num, HN, hoL.drawn _, below_drawn hBr _⟩
                    case measure => simp [intOf]; omega
                  | true =>
                    rw [hb] at hbit
                    by_cases hcm : L y + 1 < L x
                    · have HN : Hid (Far k rows j0 n x (y + 1) (upd L x (L y + 1))) := HF.out.put hxt hyt hb hcm
                      have hci : (L y : Int) + 1 < (L x : Int) := by omega
                      clear hb hcm
                      obtain ⟨R, hRe⟩ : ∃ R, rows.getD x 0 = R := ⟨_, rfl⟩
                      rw [hRe] at e1 hbit
                      clear hRe hrt
                      go_wp2
                      go_quiet ((first | (go_at_call 21; exact Calls.quiet_of_same (hbit _))))
                      go_wp2
                      go_roundw
                      case rel => exact ⟨y + 1, _, by omega, by go_num, HN, (hoL.drawn _).put hxt (upd_same _ _ _) (fun x _ hne => upd_other _ hne), (below_drawn hBr _).setCell (p := ⟨g, x, none⟩) hg _⟩
                      case measure => simp [intOf]; omega
                    · have HN : Hid (Far k rows j0 n x (y + 1) L) := HF.out.pass hyt fun _ => by omega
                      have hci : ¬ (L y : Int) + 1 < (L x : Int) := by omega
                      clear hb hcm
                      obtain ⟨R, hRe⟩ : ∃ R, rows.getD x 0 = R := ⟨_, rfl⟩
                      rw [hRe] at e1 hbit
                      clear hRe hrt
                      go_wp2
                      go_quiet ((first | (go_at_call 21; exact Calls.quiet_of_same (hbit _))))
                      go_wp2
                      go_roundw
                      case rel => exact ⟨y + 1, L, by omega, by go_num, HN, hoL.drawn _, below_drawn hBr _⟩
                      case measure => simp [intOf]; omega
                · have hym : y = k := by omega
                  have HN : Hid (Far k rows j0 n (x + 1) 0 L) := by rw [hym] at HF; exact HF.out.row HR.out
                  clear hym
                  go_wp2
                  go_roundw
                  case rel => exact ⟨x + 1, L, by omega, by go_num, HN, hoL, hBr⟩
                  case measure => simp [intOf]; omega
            · have hxm : x = k := by omega
              have HN : Hid (Far k rows j0 (n + 1) 0 0 L) := by rw [hxm] at HF; exact HF.out.turn
              clear hxm
              go_wp2
              go_roundw
              case rel => exact ⟨n + 1, L, by omega, by go_num, HN, hoL, hBr⟩
              case measure => simp [intOf]; omega
        · have hnm : n = k := by omega
          have HN : Hid (Steps k rows j0 L) := by rw [hnm] at HF; exact HF.out.ends HR.out
          clear hnm
          go_wp2
          go_ret
          exact ⟨g, cp, L, rfl, hg, hoL, HN.out, hBr⟩
end Go.Proofs.YtfdappdcihljdaaDoor
