/- What the layers ahead of a set are (layers). -/
import Derived.WalkKit
import Derived.LoopTactic
import Derived.OwnWalk
import Derived.Maps.AppendAt
import Derived.Test.YtdmdoikkemfcaaaDoorRowk
import Derived.Test.YtdmdoikkemfcaaaDoorSDist
import Derived.Test.YtdmdoikkemfcaaaDoorSelf
namespace Go.Proofs.YtdmdoikkemfcaaaDoor
open Go.RowKit

/-- The layers so far. -/
def LayersS (m : Nat) (rows : List Nat) (b t : Nat) (L : Nat → Nat) : Prop := ∀ s, s < t → L s < 2 ^ m ∧ ∀ x, (L s).testBit x = true ↔ x < m ∧ DistS rows b s x

set_option maxRecDepth 100000 in
set_option maxHeartbeats 1000000 in
theorem slayers_any (m b0 off cap a b : Nat) (ha : a < m) (hb : b < 2 ^ m) (rows : List Nat) (hr : Right m rows) (w : World) (hl : Lies w b0 off m rows) (hT : Tab w) :
    Calls Tryd.prog 65 #[.slice (some ⟨b0, off, none⟩) m cap, .int .i64 a, .int .i64 b] w fun e w' =>
      ((∃ v d L, e = .returned (.tuple #[v, .bool true]) ∧ d ≤ 1048576 ∧ DistS rows b d a ∧ LayersS m rows b d L ∧ ((d = 0 ∧ v = .slice none 0 0) ∨ (0 < d ∧ ∃ g cp, v = .slice (some ⟨g, 0, none⟩) d cp ∧ w.heap.size ≤ g ∧ Own w' g d L))) ∨ (e = .returned (.tuple #[.slice none 0 0, .bool false]) ∧ ∀ n, ¬ InS rows b n a)) ∧ Below w.heap.size w w' := by
  have hm := hr.1
  have h12 := pow12 hm
  have htn := turned_any m b0 off cap rows hr w hl hT
  obtain ⟨i0, hi0, hz0, hz1, hz2⟩ := info_parts info3
  have hsz := hT.size
  go_enter Tryd.func65, Tryd.ntmps65
  go_wp2_with (go_at_call 80; refine htn.mono ?_; rintro e w1 ⟨rfl, ⟨f, hlf, htf⟩, hB⟩)
  go_loopw [9, 10, 11] (fun o s l wr => ∃ (t seen layer : Nat) (L : Nat → Nat), s = .int .i64 seen ∧ l = .int .i64 layer ∧ LayerS m rows b t seen layer ∧ Hid (LayersS m rows b t L ∧ ∀ s, s < t → ¬ DistS rows b s a) ∧ (wr.ownsRow w1.heap.size 3 1 o t (row t L) ∧ (t = 0 → o = .slice none 0 0)) ∧ Below w1.heap.size w1 wr) (fun _ s _ _ => 1048576 - (intOf s).toNat)
  case atStart => exact ⟨0, 0, b, fun _ => 0, rfl, rfl, LayerS.start rows hb, ⟨fun s h => absurd h (by omega), fun s h => absurd h (by omega)⟩, ⟨World.ownsRow_nil _ _ _ _, fun _ => rfl⟩, Below.refl _ _⟩
  case round =>
    obtain ⟨t, seen, layer, L, rfl, rfl, hL, HL, ⟨hown, hnil0⟩, hBr⟩ := hrel
    have l1 := hL.ls
    have l2 := hL.ll
    have l3 := hL.few
    have hBw : Below w.heap.size w wr := hB.trans (hBr.mono hB.size)
    by_cases h0 : layer = 0
    · have HN : Hid (∀ n, ¬ InS rows b n a) := by subst h0; exact hL.none hr ha HL.out.2
      subst h0
      clear l2
      go_wp2
      go_ret2
      exact ⟨.inr ⟨rfl, HN.out⟩, hBw⟩
    · have hne : ((layer : Int) != 0) = true := by simp; omega
      have hha := has_any layer a (by omega) (by omega) wr
      cases hbt : layer.testBit a with
      | true =>
        rw [hbt] at hha
        have hd := ((hL.bl a).1 hbt).2
        clear hbt
        go_wp2_with (go_at_call 81; refine hha.mono ?_; rintro e w' ⟨rfl, rfl⟩)
        go_ret2
        refine ⟨.inl ⟨_, t, L, rfl, by omega, hd, HL.out.1, ?_⟩, hBw⟩
        rcases Nat.eq_zero_or_pos t with e | e
        · exact .inl ⟨e, hnil0 e⟩
        · obtain ⟨g, cp, hv, hg, hoG⟩ := own_of_row e hown
          exact .inr ⟨e, g, cp, hv, Nat.le_trans hB.size hg, hoG⟩
      | false =>
        rw [hbt] at hha
        have HD : Hid (¬ DistS rows b t a) := fun hd => by have := (hL.bl a).2 ⟨ha, hd⟩; rw [hbt] at this; cases this
        clear hbt
        have hLn := hL.next hr htf h0
        have lo := hLn.ls
        have hor := or_i64 seen layer (by omega) (by omega)
        have hst := stepN_lt (listOf_right hm fun i hi => (htf i hi).1) layer
        have hnn := andNot_i64 (stepN m (listOf m f) layer) (seen ||| layer) (by omega) (by omega)
        have hgr := hL.grows h0
        obtain ⟨S, hS⟩ : ∃ S, stepN m (listOf m f) layer = S := ⟨_, rfl⟩
        have hc4 : t + 1 ≤ maxLen := by unfold maxLen; omega
        have hc5 : (t + 1) * 8 ≤ 140737488355328 := by omega
        have hone : ∀ u ∈ [Value.int .i64 (layer : Int)], u.oneCell' = true := by intro u hu; rw [List.mem_singleton.1 hu]; rfl
        have hbase : w1.heap.size ≤ (wr.alloc (.cells #[.int .i64 (layer : Int)] 3)).heap.size := by have := hBr.size; simp; omega
        have hstep := fun w3 (hb3 : Below w1.heap.size w1 w3) => step_any m w.heap.size 0 m layer (listOf m f) (listOf_right hm fun i hi => (htf i hi).1) l2 w3 (hlf.below hb3) (hT.below (hB.trans (hb3.mono hB.size)) hsz)
        rw [hS] at hnn hLn hstep
        clear hS hst
        go_wp2_with (first | (go_at_call 81; refine hha.mono ?_; rintro e w' ⟨rfl, rfl⟩) | (at_builtin; refine wpList_append_own _ rfl _ _ 34 rfl w1.heap.size 3 i0 (.int .i64 0) 1 8 Tryd.underlying34 hi0 hz0 hz1 hz2 rfl (by decide) _ t (row t L) rfl (hown.alloc _) ⟨_, 0, none⟩ 1 1 [.int .i64 (layer : Int)] rfl rfl (cell_one_new _ _ _) hone hc4 hc5 hbase ?_; intro v' w3 hown' hgrow hnil; rw [row_snoc] at hown'; have hB3 : Below w1.heap.size w1 w3 := (hBr.alloc hBr.size _).grown hgrow hbase (ownsRow_block hown); have hst3 := hstep w3 hB3) | (go_at_call 43; refine hst3.mono ?_; rintro e w4 ⟨rfl, hB4⟩))
        go_roundw
        case rel =>
          have HN : Hid (LayersS m rows b (t + 1) (upd L t layer) ∧ ∀ s, s < t + 1 → ¬ DistS rows b s a) := by
            refine ⟨fun s hs => ?_, fun s hs => ?_⟩
            · by_cases e : s = t
              · subst e; rw [upd_same]; exact ⟨l2, hL.bl⟩
              · rw [upd_other _ e]; exact HL.out.1 s (by omega)
            · by_cases e : s = t
              · subst e; exact HD.out
              · exact HL.out.2 s (by omega)
          first
            | exact ⟨t + 1, seen ||| layer, less S (seen ||| layer), upd L t layer, rfl, rfl, hLn, HN, ⟨ownsRow_below hown' hB4, fun h => absurd h (by omega)⟩, hB3.trans (hB4.mono hB3.size)⟩
            | ((repeat apply Exists.intro); exact ⟨⟨t + 1, seen ||| layer, less S (seen ||| layer), upd L t layer, rfl, rfl, hLn, HN, ⟨ownsRow_below hown' hB4, fun h => absurd h (by omega)⟩, hB3.trans (hB4.mono hB3.size)⟩, rfl⟩)
        case measure => simp [intOf]; omega
end Go.Proofs.YtdmdoikkemfcaaaDoor
