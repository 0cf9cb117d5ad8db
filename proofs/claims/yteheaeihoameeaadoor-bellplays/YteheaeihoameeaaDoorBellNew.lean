/- What a new monitor is (New). -/
import Derived.WalkKit
import Derived.LoopTactic
import Derived.Deep.LoopGhost
import Derived.Deep.Cut
import Derived.Deep.RegionLaw
import Derived.Deep.RegionHeld3
import Derived.Deep.AppendLies
import Derived.Deep.DrawnRows
import Derived.Test.YteheaeihoameeaaDoorBellRow
namespace Go.Proofs.YteheaeihoameeaaDoor
open Go.RowKit
attribute [local go_sem ↓] Go.wp_at_zero Go.wp_at_succ
set_option maxRecDepth 100000

set_option maxHeartbeats 80000000 in
theorem new_walk (a1 a2 : Option Addr) (n c1 m c2 : Nat) (z y : Nat → Int × Int) (hn : n ≤ 8) (hm : m ≤ 8) (w : World) (h1 : AtLabs w a1 n z) (h2 : AtLabs w a2 m y) (hz : AllLab n z) (hy : AllLab m y) :
    Calls Tryd.prog 8 #[.slice a1 n c1, .slice a2 m c2] w fun e w' => ∃ B au af gu gf cu cf, e = .returned (.tuple #[.pointer (some ⟨B, 0, none⟩), .nilIface]) ∧ Mon w.heap.size w'.heap.size B au af gu gf cu cf w' (newSt n m z y) ∧ Below w.heap.size w w' := by
  have t1 := bcheck_ok a1 n c1 z hn hz w h1
  have t2 : ∀ W, Below w.heap.size w W → Calls Tryd.prog 24 #[.slice a2 m c2, .int .i64 8] W fun e w' => e = .returned .nilIface ∧ Below W.heap.size W w' := fun W hB => bcheck_ok a2 m c2 y hm hy W (h2.below hB)
  obtain ⟨i0, hi0, hz0, hz1, hz2⟩ := info_parts infoU
  go_enter Tryd.func8, Tryd.ntmps8
  go_wp2_with (first | (go_at_call 24; refine t1.mono ?_; clear t1; rintro e w1 ⟨rfl, hB1⟩; have t3 := t2 w1 hB1; clear t2) | (go_at_call 24; refine t3.mono ?_; clear t3; rintro e w2 ⟨rfl, hB2⟩; have hB := hB1.trans (hB2.mono hB1.size); clear hB1 hB2))
  have hX := Boxes.new w2 (.slice none 0 0) (.slice none 0 0) 56
  have hBs := hB.size
  have hB0 : Below w.heap.size w (w2.alloc (.cells #[.slice none 0 0, .slice none 0 0] 56)) := hB.alloc hB.size _
  go_loopg [27] n (fun g i wr => ∃ (k : Nat) (v : Value), k ≤ n ∧ g = n - k ∧ i = .int .i64 k ∧ Boxes wr w2.heap.size v (.slice none 0 0) ∧ wr.ownsRow (w2.heap.size + 1) 60 4 v k (rowU z k) ∧ Below w.heap.size w wr)
  case atStart => exact ⟨0, _, by omega, rfl, rfl, hX, World.ownsRow_nil _ _ _ _, hB0⟩
  case round =>
    clear hX hB0 hB
    obtain ⟨k, v, hk, rfl, rfl, hX, hown, hB⟩ := hrel
    by_cases hlt : k < n
    · as_aux_lemma =>
      have hlt' : (k : Int) < (n : Int) := by omega
      rcases h1 with h1 | ⟨b, off, rfl, hl⟩
      · omega
      have e1 := (hB.cell (p := ⟨b, off + k * 2, none⟩) hl.old).trans (hl.c1 k hlt)
      have e2 := (hB.cell (p := ⟨b, off + k * 2 + 1, none⟩) hl.old).trans (hl.c2 k hlt)
      obtain ⟨lx, hlx⟩ : ∃ x, (z k).1 = x := ⟨_, rfl⟩
      obtain ⟨sx, hsx⟩ : ∃ x, (z k).2 = x := ⟨_, rfl⟩
      have HR : Hid (rowU z (k + 1) = rowU z k ++ [.int .i64 lx, .int .i64 sx, .int .i64 0, .int .i64 0]) := by rw [Hid, rowU, hlx, hsx]
      rw [hlx] at e1
      rw [hsx] at e2
      clear hlx hsx
      obtain ⟨xs, hxs⟩ : ∃ x, rowU z k = x := ⟨_, rfl⟩
      rw [hxs] at hown HR
      clear hxs
      have lb : b < wr.heap.size := Nat.lt_of_lt_of_le hl.old hB.size
      have lX := hX.lt
      obtain ⟨x0, x1, r0, r1⟩ := id hX
      have hne := row_apart hown (Nat.lt_succ_self _)
      have hb1 : k + 1 ≤ maxLen := by unfold maxLen; omega
      have hb2 : (k + 1) * 32 ≤ 140737488355328 := by omega
      go_wp2
      go_region_law ((refine step_append_lies _ (by rfl) _ _ _ (by rfl) (w2.heap.size + 1) 60 i0 _ 4 32 Tryd.underlying53 hi0 hz0 hz1 hz2 rfl (by omega) v k xs (by rfl) (((hown.alloc _).alloc _).drew) ⟨wr.heap.size + 1, 0, none⟩ 1 1 [.int .i64 lx, .int .i64 sx, .int .i64 0, .int .i64 0] (by rfl) (by rfl) (World.news_of_block (news_two wr _ _ _)) (by simp [Value.oneCell']) (by omega) hb1 hb2 (by simp; omega) (wr.heap.size + 1 + 1) (by simp) ?_; intro gg cap w3 hown1 hgrow hat hlt2; have hX3 := (((hX.alloc _).alloc _).drew).grown hgrow hne; obtain ⟨x30, x31, r30, r31⟩ := id hX3))
      all_goals
        go_wp2
        go_roundg (n - (k + 1))
        case measure => omega
        case rel => exact ⟨k + 1, _, by omega, rfl, by go_num, hX3.put0 _, by rw [HR.out]; exact ownsRow_setCell_below hown1 (Nat.lt_succ_self _) _, (((((hB.alloc hB.size _).alloc (by simp; have := hB.size; omega) _).drew).grown hgrow (by simp; have := hB.size; omega) (fun j q => by have := (hown.lt j q).1; omega)).setCell hBs _)⟩
    · have hge : (n : Int) ≤ (k : Int) := by omega
      obtain rfl : k = n := by omega
      clear hi0 hz0 hz1 hz2 h1 hlt i0 hk
      obtain ⟨i0, hi0, hz0, hz1, hz2⟩ := info_parts infoF
      have hv : ∀ j, v.ownBlock = some j → j < wr.heap.size := fun j q => (hown.lt j q).2
      have hF : w2.heap.size + 1 ≤ wr.heap.size := hX.lt
      have hFw := hB.size
      go_wp2
      obtain ⟨wf, rfl⟩ : ∃ wf, wf = wr := ⟨_, rfl⟩
      go_loopg [45] m (fun g i wr => ∃ (q : Nat) (v' : Value), q ≤ m ∧ g = m - q ∧ i = .int .i64 q ∧ Boxes wr w2.heap.size v v' ∧ wr.ownsRow (w2.heap.size + 1) 60 4 v k (rowU z k) ∧ wr.ownsRow wf.heap.size 62 3 v' q (rowF y q) ∧ Below w.heap.size w wr ∧ wf.heap.size ≤ wr.heap.size)
      case atStart => exact ⟨0, _, by omega, rfl, rfl, hX, hown, World.ownsRow_nil _ _ _ _, hB, Nat.le_refl _⟩
      case round =>
        clear hX hown hB
        obtain ⟨q, v', hq, rfl, rfl, hX, hown, hrow, hB, hsz⟩ := hrel
        by_cases hlt : q < m
        · as_aux_lemma =>
          have hlt' : (q : Int) < (m : Int) := by omega
          rcases h2 with h2 | ⟨b, off, rfl, hl⟩
          · omega
          have e1 := (hB.cell (p := ⟨b, off + q * 2, none⟩) hl.old).trans (hl.c1 q hlt)
          have e2 := (hB.cell (p := ⟨b, off + q * 2 + 1, none⟩) hl.old).trans (hl.c2 q hlt)
          have hp := pow_wrapI (a := q) (by omega)
          obtain ⟨lx, hlx⟩ : ∃ x, (y q).1 = x := ⟨_, rfl⟩
          obtain ⟨sx, hsx⟩ : ∃ x, (y q).2 = x := ⟨_, rfl⟩
          obtain ⟨px, hpx⟩ : ∃ x, 2 ^ q = x := ⟨_, rfl⟩
          have HR : Hid (rowF y (q + 1) = rowF y q ++ [.int .i64 lx, .int .i64 sx, .int .i64 (px : Int)]) := by rw [Hid, rowF, hlx, hsx, hpx]
          rw [hlx] at e1
          rw [hsx] at e2
          rw [hpx] at hp
          clear hlx hsx hpx
          obtain ⟨xs, hxs⟩ : ∃ x, rowF y q = x := ⟨_, rfl⟩
          rw [hxs] at hrow HR
          clear hxs
          have lb : b < wr.heap.size := Nat.lt_of_lt_of_le hl.old hB.size
          have lX := hX.lt
          obtain ⟨x0, x1, r0, r1⟩ := id hX
          have hne := row_apart hrow (B := w2.heap.size) (by omega)
          have hvn : v.ownBlock = none ∨ v.ownBlock ≠ v'.ownBlock := by
            cases hvb : v.ownBlock with
            | none => exact .inl rfl
            | some j => exact .inr fun q => by have h1 := hv j hvb; have h2 := (hrow.lt j q.symm).1; omega
          have hb1 : q + 1 ≤ maxLen := by unfold maxLen; omega
          have hb2 : (q + 1) * 24 ≤ 140737488355328 := by omega
          go_wp2
          go_region_law ((refine step_append_lies _ (by rfl) _ _ _ (by rfl) wf.heap.size 62 i0 _ 3 24 Tryd.underlying54 hi0 hz0 hz1 hz2 rfl (by omega) v' q xs (by rfl) (((hrow.alloc _).alloc _).drew) ⟨wr.heap.size + 1, 0, none⟩ 1 1 [.int .i64 lx, .int .i64 sx, .int .i64 (px : Int)] (by rfl) (by rfl) (World.news_of_block (news_two wr _ _ _)) (by simp [Value.oneCell']) (by omega) hb1 hb2 (by simp; omega) (wr.heap.size + 1 + 1) (by simp) ?_; intro gg cap w3 hown1 hgrow hat hlt2; have hX3 := (((hX.alloc _).alloc _).drew).grown hgrow hne; obtain ⟨x30, x31, r30, r31⟩ := id hX3))
          all_goals
            go_wp2
            go_roundg (m - (q + 1))
            case measure => omega
            case rel => exact ⟨q + 1, _, by omega, rfl, by go_num, hX3.put1 _, ownsRow_setCell_below ((((hown.alloc _).alloc _).drew).kept hgrow hvn) (Nat.lt_succ_self _) _, by rw [HR.out]; exact ownsRow_setCell_below hown1 (by simp; omega) _, (((((hB.alloc hB.size _).alloc (by simp; have := hB.size; omega) _).drew).grown hgrow (by simp; have := hB.size; omega) (fun j q => by have := (hrow.lt j q).1; omega)).setCell hBs _), by simp; have := hgrow.size; simp at this; omega⟩
        · have hge2 : (m : Int) ≤ (q : Int) := by omega
          obtain rfl : q = m := by omega
          obtain ⟨au, af, gu, gf, cu, cf, hM⟩ := mon_of hBs hX hown hrow hF hv hz hy
          clear hi0 hz0 hz1 hz2 hX hown hrow
          go_wp2
          go_ret2
          exact ⟨w2.heap.size, au, af, gu, gf, cu, cf, rfl, hM, hB⟩
end Go.Proofs.YteheaeihoameeaaDoor
