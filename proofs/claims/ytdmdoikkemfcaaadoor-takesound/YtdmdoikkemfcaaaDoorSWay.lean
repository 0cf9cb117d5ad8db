/- The way into a set (WayInto). -/
import Derived.WalkKit
import Derived.LoopTactic
import Derived.OwnWalk
import Derived.Maps.AppendAt
import Derived.Deep.QuietTactic
import Derived.BigQuiet
import Derived.Test.YtdmdoikkemfcaaaDoorSLayers
namespace Go.Proofs.YtdmdoikkemfcaaaDoor
open Go.RowKit

/-- The way so far: each is a step nearer, and the least that is. -/
structure WayS (m : Nat) (rows : List Nat) (b d s : Nat) (W : Nat → Nat) : Prop where
  lt : ∀ i, i ≤ s → W i < m
  far : ∀ i, i ≤ s → DistS rows b (d - i) (W i)
  on : ∀ i, i < s → (rows.getD (W i) 0).testBit (W (i + 1)) = true
  first : ∀ i, i < s → ∀ y, (rows.getD (W i) 0).testBit y = true → DistS rows b (d - (i + 1)) y → W (i + 1) ≤ y

theorem low_leS {x y : Nat} (h : x < 1048576) (h0 : x ≠ 0) (hy : x.testBit y = true) : low x ≤ y := by
  have hm := (mem_iff h).2 hy
  have hp : (mem x).Pairwise (· < ·) := List.Pairwise.filter _ List.pairwise_lt_range
  rw [mem_cons x h h0] at hm hp
  rcases List.mem_cons.1 hm with e | hm
  · omega
  · exact Nat.le_of_lt ((List.pairwise_cons.1 hp).1 y hm)

theorem WayS.begin {m : Nat} {rows : List Nat} {a b d : Nat} (ha : a < m) (hd : DistS rows b d a) : WayS m rows b d 0 (fun _ => a) :=
  ⟨fun _ _ => ha, fun i hi => by have : i = 0 := by omega
                                 subst this; exact hd, fun _ h => absurd h (by omega), fun _ h => absurd h (by omega)⟩
/-- What may come next is not nothing. -/
theorem WayS.some {m : Nat} {rows : List Nat} {b d s : Nat} {W L : Nat → Nat} (hr : Right m rows) (h : WayS m rows b d s W) (hs : s < d) (hL : LayersS m rows b d L) : rows.getD (W s) 0 &&& L (d - 1 - s) ≠ 0 := by
  have hf := h.far s (Nat.le_refl _)
  rw [show d - s = (d - 1 - s) + 1 by omega] at hf
  obtain ⟨y, hy, hd⟩ := hf.nearer
  intro e
  have hb : (rows.getD (W s) 0 &&& L (d - 1 - s)).testBit y = true := by
    rw [Nat.testBit_and, hy, ((hL (d - 1 - s) (by omega)).2 y).2 ⟨bit_lt (hr.2.2 _) hy, hd⟩]; rfl
  rw [e] at hb
  simp at hb
theorem WayS.next {m : Nat} {rows : List Nat} {b d s : Nat} {W L : Nat → Nat} (hr : Right m rows) (h : WayS m rows b d s W) (hs : s < d) (hL : LayersS m rows b d L) :
    WayS m rows b d (s + 1) (upd W (s + 1) (low (rows.getD (W s) 0 &&& L (d - 1 - s)))) := by
  have h12 := pow12 hr.1
  have hne := h.some hr hs hL
  have hlt : rows.getD (W s) 0 &&& L (d - 1 - s) < 2 ^ m := Nat.lt_of_le_of_lt Nat.and_le_left (hr.2.2 _)
  have hlow := low_mem (Nat.lt_of_lt_of_le hlt h12) hne
  rw [Nat.testBit_and, Bool.and_eq_true] at hlow
  have hin := ((hL (d - 1 - s) (by omega)).2 _).1 hlow.2
  refine ⟨fun i hi => ?_, fun i hi => ?_, fun i hi => ?_, fun i hi y hy hd => ?_⟩
  · by_cases e : i = s + 1
    · subst e; rw [upd_same]; exact hin.1
    · rw [upd_other _ e]; exact h.lt i (by omega)
  · by_cases e : i = s + 1
    · subst e; rw [upd_same, show d - (s + 1) = d - 1 - s by omega]; exact hin.2
    · rw [upd_other _ e]; exact h.far i (by omega)
  · rw [upd_other _ (show i ≠ s + 1 by omega)]
    by_cases e : i = s
    · subst e; rw [upd_same]; exact hlow.1
    · rw [upd_other _ (show i + 1 ≠ s + 1 by omega)]; exact h.on i (by omega)
  · rw [upd_other _ (show i ≠ s + 1 by omega)] at hy
    by_cases e : i = s
    · subst e
      rw [upd_same]
      refine low_leS (Nat.lt_of_lt_of_le hlt h12) hne ?_
      rw [Nat.testBit_and, hy, ((hL (d - 1 - i) (by omega)).2 y).2 ⟨bit_lt (hr.2.2 _) hy, by rw [show d - 1 - i = d - (i + 1) by omega]; exact hd⟩]
      rfl
    · rw [upd_other _ (show i + 1 ≠ s + 1 by omega)]
      exact h.first i (by omega) y hy hd

set_option maxRecDepth 100000 in
set_option maxHeartbeats 1000000 in
theorem wayInto_pos (b0 off m cap i j D : Nat) (rows : List Nat) (hr : Right m rows) (hi : i < m) (h0 : 0 < D) (hd : DistS rows j D i) (w : World) (hlr : Lies w b0 off m rows) (hT : Tab w)
    (hl : Calls Tryd.prog 65 #[.slice (some ⟨b0, off, none⟩) m cap, .int .i64 i, .int .i64 j] w fun e w' => ∃ g cp L, e = .returned (.tuple #[.slice (some ⟨g, 0, none⟩) D cp, .bool true]) ∧ D ≤ 1048576 ∧ w.heap.size ≤ g ∧ Own w' g D L ∧ LayersS m rows j D L ∧ Below w.heap.size w w') :
    Calls Tryd.prog 49 #[.slice (some ⟨b0, off, none⟩) m cap, .int .i64 i, .int .i64 j] w fun e w' => ∃ g cp W, e = .returned (.slice (some ⟨g, 0, none⟩) (D + 1 : Nat) cp) ∧ w.heap.size ≤ g ∧ Own w' g (D + 1) W ∧ W 0 = i ∧ D ≤ 1048576 ∧ WayS m rows j D D W ∧ Below w.heap.size w w' := by
  have hm := hr.1
  have h12 := pow12 hm
  have hsz := hT.size
  obtain ⟨i0, hi0, hz0, hz1, hz2⟩ := info_parts info3
  go_enter Tryd.func49, Tryd.ntmps49
  go_wp2_with (go_at_call 65; refine hl.mono ?_; rintro e w1 ⟨gL, cpL, L, rfl, hD4, hgL, hoL, hLs, hB⟩)
  have hBa : Below w1.heap.size w1 (w1.alloc (.cells #[.int .i64 (i : Int)] 3)) := (Below.refl _ _).alloc (Nat.le_refl _) _
  have hrow0 : (w1.alloc (.cells #[.int .i64 (i : Int)] 3)).ownsRow w1.heap.size 3 1 (.slice (some ⟨w1.heap.size, 0, none⟩) 1 1) (0 + 1) (row (0 + 1) (fun _ => i)) :=
    ⟨by simp [row], .inr ⟨w1.heap.size, 1, #[.int .i64 (i : Int)], rfl, Nat.le_refl _, World.alloc_heap_new w1 _, by omega, by decide, by simp, by simp [row]⟩⟩
  have HLs : Hid (LayersS m rows j D L) := hLs
  clear hLs hl
  go_loopw [9, 10, 11] (fun v x k wr => ∃ (s : Nat) (W : Nat → Nat), s ≤ D ∧ x = .int .i64 (W s : Nat) ∧ k = .int .i64 ((D : Int) - 1 - s) ∧ Hid (WayS m rows j D s W ∧ W 0 = i) ∧ wr.ownsRow w1.heap.size 3 1 v (s + 1) (row (s + 1) W) ∧ Below w1.heap.size w1 wr) (fun _ _ k _ => (intOf k + 1).toNat)
  case atStart => exact ⟨0, fun _ => i, by omega, rfl, by go_num, ⟨WayS.begin hi hd, rfl⟩, hrow0, hBa⟩
  case round =>
    obtain ⟨s, W, hs, rfl, rfl, HW, hown, hBr⟩ := hrel
    have hBw : Below w.heap.size w wr := hB.trans (hBr.mono hB.size)
    by_cases hlt : s < D
    · have hWs := HW.out.1.lt s (Nat.le_refl _)
      have e1 := (hBw.cell (p := ⟨b0, off + W s, none⟩) hlr.old).trans (hlr.cell (W s) hWs)
      have hne := HW.out.1.some hr hlt HLs.out
      have HN := HW.out.1.next hr hlt HLs.out
      have hRl := Nat.lt_of_lt_of_le (hr.2.2 (W s)) h12
      have ek : ((D : Int) - 1 - (s : Int)) = ((D - 1 - s : Nat) : Int) := by omega
      rw [ek]
      clear ek
      have hkD : D - 1 - s < D := by omega
      obtain ⟨kk, hkk⟩ : ∃ kk, D - 1 - s = kk := ⟨_, rfl⟩
      obtain ⟨RA, hRA⟩ : ∃ RA, rows.getD (W s) 0 = RA := ⟨_, rfl⟩
      obtain ⟨A, hA⟩ : ∃ A, W s = A := ⟨_, rfl⟩
      rw [hkk] at hne HN hkD ⊢
      rw [hRA] at e1 hne HN hRl
      rw [hA] at e1 hWs ⊢
      have HK : Hid (D - 1 - s = kk) := hkk
      clear hkk hRA hA
      have e2 := (hoL.below hBr).cell kk hkD
      have hLl := Nat.lt_of_lt_of_le (HLs.out kk hkD).1 h12
      have hand := and_i64 RA (L kk) hRl hLl
      have hXl : RA &&& L kk < 1048576 := Nat.lt_of_le_of_lt Nat.and_le_left hRl
      have hTr : Tab wr := hT.below hBw hsz
      have t35 : ∀ n, Calls Tryd.prog 66 #[.int .i64 (RA &&& L kk : Nat)] (wr.drewN n) fun e w' => e = .returned (.int .i64 (low (RA &&& L kk) : Nat)) ∧ w' = wr.drewN n := fun n => least_any _ (wr.drewN n) hTr hne hXl
      obtain ⟨X, hX⟩ : ∃ X, RA &&& L kk = X := ⟨_, rfl⟩
      rw [hX] at hand t35 HN
      obtain ⟨Y, hY⟩ : ∃ Y, low X = Y := ⟨_, rfl⟩
      rw [hY] at t35 HN
      have HNN : Hid (WayS m rows j D (s + 1) (upd W (s + 1) Y) ∧ upd W (s + 1) Y 0 = i) := ⟨HN, by rw [upd_other _ (by omega)]; exact HW.out.2⟩
      clear hX hY HN hne hXl hTr
      have hAi : (A : Int) < (m : Int) := by omega
      have hKi : (kk : Int) < (D : Int) := by omega
      have hc4 : s + 1 + 1 ≤ maxLen := by unfold maxLen; omega
      have hc5 : (s + 1 + 1) * 8 ≤ 140737488355328 := by omega
      have hone : ∀ u ∈ [Value.int .i64 (Y : Int)], u.oneCell' = true := by intro u hu; rw [List.mem_singleton.1 hu]; rfl
      go_wp2
      go_quiet ((first | (go_at_call 66; exact Calls.quiet_of_same (t35 _))))
      have hBq : Below w1.heap.size w1 (wr.drewN nq) := below_drawn hBr nq
      have hownq : (wr.drewN nq).ownsRow w1.heap.size 3 1 u9 (s + 1) (row (s + 1) W) := hown
      have hbase : w1.heap.size ≤ ((wr.drewN nq).alloc (.cells #[.int .i64 (Y : Int)] 3)).heap.size := by have := hBq.size; simp; simp at this; omega
      go_wp2_with (at_builtin; refine wpList_append_own _ rfl _ _ 34 rfl w1.heap.size 3 i0 (.int .i64 0) 1 8 Tryd.underlying34 hi0 hz0 hz1 hz2 rfl (by decide) _ (s + 1) (row (s + 1) W) rfl (hownq.alloc _) ⟨_, 0, none⟩ 1 1 [.int .i64 (Y : Int)] rfl rfl (cell_one_new _ _ _) hone hc4 hc5 hbase ?_; intro v' w3 hown' hgrow hnil; rw [row_snoc] at hown'; have hB3 : Below w1.heap.size w1 w3 := (hBq.alloc hBq.size _).grown hgrow hbase (ownsRow_block hownq))
      go_roundw
      case rel =>
        have q1 : Value.int .i64 (Y : Int) = .int .i64 (upd W (s + 1) Y (s + 1) : Nat) := by rw [upd_same]
        have q2 : Value.int .i64 ((kk : Int) - 1) = .int .i64 ((D : Int) - 1 - (s + 1 : Nat)) := by have := HK.out; congr 1; omega
        first
          | exact ⟨s + 1, upd W (s + 1) Y, by omega, q1, q2, HNN, hown', hB3⟩
          | ((repeat apply Exists.intro); exact ⟨⟨s + 1, upd W (s + 1) Y, by omega, q1, q2, HNN, hown', hB3⟩, rfl⟩)
      case measure => simp [intOf]
    · have hsD : s = D := by omega
      subst hsD
      obtain ⟨g, cp, hv, hg, hoG⟩ := own_of_row (by omega) hown
      have HV : Hid (u9 = .slice (some ⟨g, 0, none⟩) (s + 1 : Nat) cp) := hv
      clear hv
      go_wp2
      go_ret
      rw [HV.out]
      exact ⟨g, cp, W, rfl, Nat.le_trans hB.size hg, hoG, HW.out.2, hD4, HW.out.1, hBw⟩

theorem wayInto_zero (a : Option Addr) (m cap i j : Nat) (w : World)
    (hl : Calls Tryd.prog 65 #[.slice a m cap, .int .i64 i, .int .i64 j] w fun e w' => e = .returned (.tuple #[.slice none 0 0, .bool true]) ∧ Below w.heap.size w w') :
    Calls Tryd.prog 49 #[.slice a m cap, .int .i64 i, .int .i64 j] w fun e w' => ∃ g cp, e = .returned (.slice (some ⟨g, 0, none⟩) 1 cp) ∧ w.heap.size ≤ g ∧ Own w' g 1 (fun _ => i) ∧ Below w.heap.size w w' := by
  go_enter Tryd.func49, Tryd.ntmps49
  go_wp2_with (go_at_call 65; refine hl.mono ?_; rintro e w1 ⟨rfl, hB⟩)
  have hBa := hB.alloc hB.size (.cells #[.int .i64 (i : Int)] 3)
  have ho : Own (w1.alloc (.cells #[.int .i64 (i : Int)] 3)) w1.heap.size 1 (fun _ => i) := by
    have c := cell_new_l w1 (.int .i64 (i : Int)) 3
    refine ⟨by simp, fun j hj => ?_, fun j hj => ?_⟩ <;> obtain rfl : j = 0 := by omega
    · exact c.1
    · exact c.2
  go_loopw [9, 10, 11] (fun v x k wr => v = .slice (some ⟨w1.heap.size, 0, none⟩) 1 1 ∧ k = .int .i64 (-1) ∧ wr = w1.alloc (.cells #[.int .i64 (i : Int)] 3)) (fun _ _ _ _ => 0)
  case atStart => exact ⟨rfl, rfl, rfl⟩
  case round =>
    obtain ⟨rfl, rfl, rfl⟩ := hrel
    go_wp2
    go_ret
    exact ⟨_, _, rfl, hB.size, ho, hBa⟩
theorem wayInto_none (a : Option Addr) (m cap i j : Nat) (w : World)
    (hl : Calls Tryd.prog 65 #[.slice a m cap, .int .i64 i, .int .i64 j] w fun e w' => e = .returned (.tuple #[.slice none 0 0, .bool false]) ∧ Below w.heap.size w w') :
    Calls Tryd.prog 49 #[.slice a m cap, .int .i64 i, .int .i64 j] w fun e w' => e = .returned (.slice none 0 0) ∧ Below w.heap.size w w' := by
  go_enter Tryd.func49, Tryd.ntmps49
  go_wp2_with (go_at_call 65; refine hl.mono ?_; rintro e w1 ⟨rfl, hB⟩)
  go_ret
  exact ⟨rfl, hB⟩
/-- The way into a set, where there is one; else nil. -/
theorem wayInto_any (m b0 off cap a T : Nat) (ha : a < m) (hT2 : T < 2 ^ m) (rows : List Nat) (hr : Right m rows) (w : World) (hl : Lies w b0 off m rows) (hT : Tab w) :
    Calls Tryd.prog 49 #[.slice (some ⟨b0, off, none⟩) m cap, .int .i64 a, .int .i64 T] w fun e w' =>
      ((∃ g cp D W, e = .returned (.slice (some ⟨g, 0, none⟩) (D + 1 : Nat) cp) ∧ w.heap.size ≤ g ∧ Own w' g (D + 1) W ∧ W 0 = a ∧ D ≤ 1048576 ∧ DistS rows T D a ∧ WayS m rows T D D W) ∨ (e = .returned (.slice none 0 0) ∧ ∀ n, ¬ InS rows T n a)) ∧ Below w.heap.size w w' := by
  by_cases h : ∃ n, InS rows T n a
  · obtain ⟨n, hn⟩ := h
    obtain ⟨D, _, hD⟩ := hn.dist
    have ly := slayers_any m b0 off cap a T ha hT2 rows hr w hl hT
    by_cases h0 : D = 0
    · subst h0
      have ly0 : Calls Tryd.prog 65 #[.slice (some ⟨b0, off, none⟩) m cap, .int .i64 a, .int .i64 T] w fun e w' => e = .returned (.tuple #[.slice none 0 0, .bool true]) ∧ Below w.heap.size w w' := ly.mono fun e w' ⟨h, hB⟩ => by
        rcases h with ⟨v, d, L, he, _, hd, _, hv⟩ | ⟨_, hn⟩
        · have e0 : d = 0 := hd.unique hD
          rcases hv with ⟨_, hv⟩ | ⟨h, _⟩
          · rw [hv] at he; exact ⟨he, hB⟩
          · omega
        · exact absurd hD.1 (hn 0)
      refine (wayInto_zero _ m cap a T w ly0).mono fun e w' ⟨g, cp, he, hg, ho, hB⟩ => ⟨.inl ⟨g, cp, 0, fun _ => a, he, hg, ho, rfl, by omega, hD, WayS.begin ha hD⟩, hB⟩
    · have lyp : Calls Tryd.prog 65 #[.slice (some ⟨b0, off, none⟩) m cap, .int .i64 a, .int .i64 T] w fun e w' => ∃ g cp L, e = .returned (.tuple #[.slice (some ⟨g, 0, none⟩) D cp, .bool true]) ∧ D ≤ 1048576 ∧ w.heap.size ≤ g ∧ Own w' g D L ∧ LayersS m rows T D L ∧ Below w.heap.size w w' := ly.mono fun e w' ⟨h, hB⟩ => by
        rcases h with ⟨v, d, L, he, h4, hd, hL, hv⟩ | ⟨_, hn⟩
        · obtain rfl := hd.unique hD
          rcases hv with ⟨h, _⟩ | ⟨_, g, cp, hv, hg, ho⟩
          · omega
          · rw [hv] at he; exact ⟨g, cp, L, he, h4, hg, ho, hL, hB⟩
        · exact absurd hD.1 (hn D)
      exact (wayInto_pos b0 off m cap a T D rows hr ha (by omega) hD w hl hT lyp).mono fun e w' ⟨g, cp, W, he, hg, ho, h0, h4, hW, hB⟩ => ⟨.inl ⟨g, cp, D, W, he, hg, ho, h0, h4, hD, hW⟩, hB⟩
  · have ly := slayers_any m b0 off cap a T ha hT2 rows hr w hl hT
    have hno : ∀ n, ¬ InS rows T n a := fun n hn => h ⟨n, hn⟩
    have lyn : Calls Tryd.prog 65 #[.slice (some ⟨b0, off, none⟩) m cap, .int .i64 a, .int .i64 T] w fun e w' => e = .returned (.tuple #[.slice none 0 0, .bool false]) ∧ Below w.heap.size w w' := ly.mono fun e w' ⟨h, hB⟩ => by
      rcases h with ⟨_, d, _, _, _, hd, _⟩ | ⟨he, _⟩
      · exact absurd hd.1 (hno d)
      · exact ⟨he, hB⟩
    exact (wayInto_none _ m cap a T w lyn).mono fun e w' ⟨he, hB⟩ => ⟨.inr ⟨he, hno⟩, hB⟩
end Go.Proofs.YtdmdoikkemfcaaaDoor
