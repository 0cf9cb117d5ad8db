/- What the way is (Way). -/
import Derived.WalkKit
import Derived.LoopTactic
import Derived.OwnWalk
import Derived.Maps.AppendAt
import Derived.Deep.QuietTactic
import Derived.BigQuiet
import Derived.Test.YtgkojmdkpbcipaaDoorLayers
namespace Go.Proofs.YtgkojmdkpbcipaaDoor
open Go.RowKit

theorem layers_none (m b0 off cap a b : Nat) (ha : a < m) (hb : b < m) (rows : List Nat) (hr : Right m rows) (w : World) (hl : Lies w b0 off m rows) (hT : Tab w) (hn : ¬ Reach rows a b) :
    Calls Tryd.prog 34 #[.slice (some ⟨b0, off, none⟩) m cap, .int .i64 a, .int .i64 b] w fun e w' => e = .returned (.tuple #[.slice none 0 0, .bool false]) ∧ Below w.heap.size w w' :=
  (layers_any m b0 off cap a b ha hb rows hr w hl hT).mono fun e w' ⟨h, hB⟩ => by
    rcases h with ⟨_, _, _, _, _, hd, _⟩ | ⟨he, _⟩
    · exact absurd hd.1.reach hn
    · exact ⟨he, hB⟩
theorem layers_zero (m b0 off cap a : Nat) (ha : a < m) (rows : List Nat) (hr : Right m rows) (w : World) (hl : Lies w b0 off m rows) (hT : Tab w) :
    Calls Tryd.prog 34 #[.slice (some ⟨b0, off, none⟩) m cap, .int .i64 a, .int .i64 a] w fun e w' => e = .returned (.tuple #[.slice none 0 0, .bool true]) ∧ Below w.heap.size w w' :=
  (layers_any m b0 off cap a a ha ha rows hr w hl hT).mono fun e w' ⟨h, hB⟩ => by
    rcases h with ⟨v, d, L, he, _, hd, _, hv⟩ | ⟨_, hn⟩
    · have e0 : d = 0 := hd.unique (k := 0) ⟨rfl, fun s hs => absurd hs (by omega)⟩
      rcases hv with ⟨_, hv⟩ | ⟨h, _⟩
      · rw [hv] at he; exact ⟨he, hB⟩
      · omega
    · exact absurd (Reach.refl _ _) hn
theorem layers_pos (m b0 off cap a b d : Nat) (ha : a < m) (hb : b < m) (rows : List Nat) (hr : Right m rows) (w : World) (hl : Lies w b0 off m rows) (hT : Tab w) (hd : Dist rows (d + 1) a b) :
    Calls Tryd.prog 34 #[.slice (some ⟨b0, off, none⟩) m cap, .int .i64 a, .int .i64 b] w fun e w' => ∃ g cp L, e = .returned (.tuple #[.slice (some ⟨g, 0, none⟩) (d + 1 : Nat) cp, .bool true]) ∧ d + 1 ≤ 4096 ∧ w.heap.size ≤ g ∧ Own w' g (d + 1) L ∧ Layers m rows b (d + 1) L ∧ Below w.heap.size w w' :=
  (layers_any m b0 off cap a b ha hb rows hr w hl hT).mono fun e w' ⟨h, hB⟩ => by
    rcases h with ⟨v, d', L, he, h4, hd', hL, hv⟩ | ⟨_, hn⟩
    · obtain rfl := hd'.unique hd
      rcases hv with ⟨h, _⟩ | ⟨_, g, cp, hv, hg, ho⟩
      · omega
      · rw [hv] at he; exact ⟨g, cp, L, he, h4, hg, ho, hL, hB⟩
    · exact absurd hd.1.reach hn

/-- The way so far: each is a step nearer, and the least that is. -/
structure WayTo (m : Nat) (rows : List Nat) (b d s : Nat) (W : Nat → Nat) : Prop where
  lt : ∀ i, i ≤ s → W i < m
  far : ∀ i, i ≤ s → Dist rows (d - i) (W i) b
  on : ∀ i, i < s → (rows.getD (W i) 0).testBit (W (i + 1)) = true
  first : ∀ i, i < s → ∀ y, (rows.getD (W i) 0).testBit y = true → Dist rows (d - (i + 1)) y b → W (i + 1) ≤ y

theorem low_le {x y : Nat} (h : x < 4096) (h0 : x ≠ 0) (hy : x.testBit y = true) : low x ≤ y := by
  have hm := (mem_iff h).2 hy
  have hp : (mem x).Pairwise (· < ·) := List.Pairwise.filter _ List.pairwise_lt_range
  rw [mem_cons x h h0] at hm hp
  rcases List.mem_cons.1 hm with e | hm
  · omega
  · exact Nat.le_of_lt ((List.pairwise_cons.1 hp).1 y hm)

theorem WayTo.begin {m : Nat} {rows : List Nat} {a b d : Nat} (ha : a < m) (hd : Dist rows d a b) : WayTo m rows b d 0 (fun _ => a) :=
  ⟨fun _ _ => ha, fun i hi => by have : i = 0 := by omega
                                 subst this; exact hd, fun _ h => absurd h (by omega), fun _ h => absurd h (by omega)⟩
/-- What may come next is not nothing. -/
theorem WayTo.some {m : Nat} {rows : List Nat} {b d s : Nat} {W L : Nat → Nat} (hr : Right m rows) (h : WayTo m rows b d s W) (hs : s < d) (hL : Layers m rows b d L) : rows.getD (W s) 0 &&& L (d - 1 - s) ≠ 0 := by
  have hf := h.far s (Nat.le_refl _)
  rw [show d - s = (d - 1 - s) + 1 by omega] at hf
  obtain ⟨y, hy, hd⟩ := hf.nearer
  intro e
  have hb : (rows.getD (W s) 0 &&& L (d - 1 - s)).testBit y = true := by
    rw [Nat.testBit_and, hy, ((hL (d - 1 - s) (by omega)).2 y).2 ⟨bit_lt (hr.2.2 _) hy, hd⟩]; rfl
  rw [e] at hb
  simp at hb
theorem WayTo.next {m : Nat} {rows : List Nat} {b d s : Nat} {W L : Nat → Nat} (hr : Right m rows) (h : WayTo m rows b d s W) (hs : s < d) (hL : Layers m rows b d L) :
    WayTo m rows b d (s + 1) (upd W (s + 1) (low (rows.getD (W s) 0 &&& L (d - 1 - s)))) := by
  have h12 := pow12 hr.1
  have hne := h.some hr hs hL
  have hlt : rows.getD (W s) 0 &&& L (d - 1 - s) < 2 ^ m := Nat.lt_of_le_of_lt Nat.and_le_left (hr.2.2 _)
  have hlow := low_mem (Nat.lt_of_lt_of_le hlt h12) hne
  rw [Nat.testBit_and, Bool.and_eq_true] at hlow
  have hin := ((hL (d - 1 - s) (by omega)).2 _).1 hlow.2
  refine ⟨fun i hi => ?_, fun i hi => ?_, fun i hi => ?_, fun i hi y hy hd => ?_⟩
  · by_cases e : i = s + 1
    · subst e; rw [upd_same]; exact hin.1
    · rw [upd_other _ e]; exact h.lt i (by omega)
  · by_cases e : i = s + 1
    · subst e; rw [upd_same, show d - (s + 1) = d - 1 - s by omega]; exact hin.2
    · rw [upd_other _ e]; exact h.far i (by omega)
  · rw [upd_other _ (show i ≠ s + 1 by omega)]
    by_cases e : i = s
    · subst e; rw [upd_same]; exact hlow.1
    · rw [upd_other _ (show i + 1 ≠ s + 1 by omega)]; exact h.on i (by omega)
  · rw [upd_other _ (show i ≠ s + 1 by omega)] at hy
    by_cases e : i = s
    · subst e
      rw [upd_same]
      refine low_le (Nat.lt_of_lt_of_le hlt h12) hne ?_
      rw [Nat.testBit_and, hy, ((hL (d - 1 - i) (by omega)).2 y).2 ⟨bit_lt (hr.2.2 _) hy, by rw [show d - 1 - i = d - (i + 1) by omega]; exact hd⟩]
      rfl
    · rw [upd_other _ (show i + 1 ≠ s + 1 by omega)]
      exact h.first i (by omega) y hy hd

theorem Way_bad (a : Option Addr) (m cap : Nat) (x y c : Int) (w : World)
    (hc : Calls Tryd.prog 10 #[.slice a m cap] w fun e w' => e = .returned (.iface 45 (.int .i64 c)) ∧ w' = w) :
    Calls Tryd.prog 19 #[.slice a m cap, .int .i64 x, .int .i64 y] w fun e w' => e = .returned (.tuple #[.slice none 0 0, .iface 45 (.int .i64 c)]) ∧ w' = w := by
  go_enter Tryd.func19, Tryd.ntmps19
  go_wp2_with (go_at_call 10; refine hc.mono ?_; rintro e w' ⟨rfl, rfl⟩)
  go_ret2
  exact ⟨rfl, rfl⟩
theorem Way_range (a : Option Addr) (m cap : Nat) (hm : m ≤ 12) (x y : Int) (w : World) (hxy : (x < 0 ∨ (m : Int) ≤ x) ∨ (0 ≤ x ∧ x < m ∧ (y < 0 ∨ (m : Int) ≤ y)))
    (hc : Calls Tryd.prog 10 #[.slice a m cap] w fun e w' => e = .returned .nilIface ∧ w' = w) :
    Calls Tryd.prog 19 #[.slice a m cap, .int .i64 x, .int .i64 y] w fun e w' => e = .returned (.tuple #[.slice none 0 0, .iface 45 (.int .i64 1)]) ∧ w' = w := by
  rcases hxy with hx | ⟨h0, h1, hy⟩
  · have t1 := isThing_no a m cap x hx w
    clear hx
    go_enter Tryd.func19, Tryd.ntmps19
    go_wp2_with (first | (go_at_call 10; refine hc.mono ?_; rintro e w' ⟨rfl, rfl⟩) | (go_at_call 33; refine t1.mono ?_; rintro e w' ⟨rfl, rfl⟩))
    go_ret2
    exact ⟨rfl, rfl⟩
  · obtain ⟨i, rfl⟩ := Int.eq_ofNat_of_zero_le h0
    have t1 := isThing_yes a m cap i (by omega) hm w
    have t2 := isThing_no a m cap y hy w
    clear hy
    go_enter Tryd.func19, Tryd.ntmps19
    go_wp2_with (first | (go_at_call 10; refine hc.mono ?_; rintro e w' ⟨rfl, rfl⟩) | (go_at_call 33; refine t1.mono ?_; clear t1; rintro e w' ⟨rfl, rfl⟩) | (go_at_call 33; refine t2.mono ?_; rintro e w' ⟨rfl, rfl⟩))
    go_ret2
    exact ⟨rfl, rfl⟩
theorem Way_none (a : Option Addr) (m cap i j : Nat) (hm : m ≤ 12) (hi : i < m) (hj : j < m) (w : World)
    (hc : Calls Tryd.prog 10 #[.slice a m cap] w fun e w' => e = .returned .nilIface ∧ w' = w)
    (hl : Calls Tryd.prog 34 #[.slice a m cap, .int .i64 i, .int .i64 j] w fun e w' => e = .returned (.tuple #[.slice none 0 0, .bool false]) ∧ Below w.heap.size w w') :
    Calls Tryd.prog 19 #[.slice a m cap, .int .i64 i, .int .i64 j] w fun e w' => e = .returned (.tuple #[.slice none 0 0, .iface 45 (.int .i64 5)]) ∧ Below w.heap.size w w' := by
  have t1 := isThing_yes a m cap i hi hm w
  have t2 := isThing_yes a m cap j hj hm w
  go_enter Tryd.func19, Tryd.ntmps19
  go_wp2_with (first | (go_at_call 10; refine hc.mono ?_; rintro e w' ⟨rfl, rfl⟩) | (go_at_call 33; refine t1.mono ?_; clear t1; rintro e w' ⟨rfl, rfl⟩) | (go_at_call 33; refine t2.mono ?_; rintro e w' ⟨rfl, rfl⟩) | (go_at_call 34; refine hl.mono ?_; rintro e w1 ⟨rfl, hB⟩))
  go_ret2
  exact ⟨rfl, hB⟩
theorem Way_zero (a : Option Addr) (m cap i : Nat) (hm : m ≤ 12) (hi : i < m) (w : World)
    (hc : Calls Tryd.prog 10 #[.slice a m cap] w fun e w' => e = .returned .nilIface ∧ w' = w)
    (hl : Calls Tryd.prog 34 #[.slice a m cap, .int .i64 i, .int .i64 i] w fun e w' => e = .returned (.tuple #[.slice none 0 0, .bool true]) ∧ Below w.heap.size w w') :
    Calls Tryd.prog 19 #[.slice a m cap, .int .i64 i, .int .i64 i] w fun e w' => ∃ g cp, e = .returned (.tuple #[.slice (some ⟨g, 0, none⟩) 1 cp, .nilIface]) ∧ w.heap.size ≤ g ∧ Own w' g 1 (fun _ => i) ∧ Below w.heap.size w w' := by
  have t1 := isThing_yes a m cap i hi hm
  go_enter Tryd.func19, Tryd.ntmps19
  go_wp2_with (first | (go_at_call 10; refine hc.mono ?_; rintro e w' ⟨rfl, rfl⟩) | (go_at_call 33; refine (t1 _).mono ?_; rintro e w' ⟨rfl, rfl⟩) | (go_at_call 34; refine hl.mono ?_; rintro e w1 ⟨rfl, hB⟩))
  have hBa := hB.alloc hB.size (.cells #[.int .i64 (i : Int)] 3)
  have ho : Own (w1.alloc (.cells #[.int .i64 (i : Int)] 3)) w1.heap.size 1 (fun _ => i) := by
    have c := cell_new_l w1 (.int .i64 (i : Int)) 3
    refine ⟨by simp, fun j hj => ?_, fun j hj => ?_⟩ <;> obtain rfl : j = 0 := by omega
    · exact c.1
    · exact c.2
  go_loopw [11, 12, 13] (fun v x k wr => v = .slice (some ⟨w1.heap.size, 0, none⟩) 1 1 ∧ k = .int .i64 (-1) ∧ wr = w1.alloc (.cells #[.int .i64 (i : Int)] 3)) (fun _ _ _ _ => 0)
  case atStart => exact ⟨rfl, rfl, rfl⟩
  case round =>
    obtain ⟨rfl, rfl, rfl⟩ := hrel
    go_wp2
    go_ret2
    exact ⟨_, _, rfl, hB.size, ho, hBa⟩

set_option maxRecDepth 100000 in
set_option maxHeartbeats 1000000 in
theorem Way_pos (b0 off m cap i j D : Nat) (rows : List Nat) (hr : Right m rows) (hi : i < m) (hj : j < m) (h0 : 0 < D) (hd : Dist rows D i j) (w : World) (hlr : Lies w b0 off m rows) (hT : Tab w)
    (hc : Calls Tryd.prog 10 #[.slice (some ⟨b0, off, none⟩) m cap] w fun e w' => e = .returned .nilIface ∧ w' = w)
    (hl : Calls Tryd.prog 34 #[.slice (some ⟨b0, off, none⟩) m cap, .int .i64 i, .int .i64 j] w fun e w' => ∃ g cp L, e = .returned (.tuple #[.slice (some ⟨g, 0, none⟩) D cp, .bool true]) ∧ D ≤ 4096 ∧ w.heap.size ≤ g ∧ Own w' g D L ∧ Layers m rows j D L ∧ Below w.heap.size w w') :
    Calls Tryd.prog 19 #[.slice (some ⟨b0, off, none⟩) m cap, .int .i64 i, .int .i64 j] w fun e w' => ∃ g cp W, e = .returned (.tuple #[.slice (some ⟨g, 0, none⟩) (D + 1 : Nat) cp, .nilIface]) ∧ w.heap.size ≤ g ∧ Own w' g (D + 1) W ∧ W 0 = i ∧ D ≤ 4096 ∧ WayTo m rows j D D W ∧ Below w.heap.size w w' := by
  have hm := hr.1
  have h12 := pow12 hm
  have hsz := hT.size
  have t1 := isThing_yes (some ⟨b0, off, none⟩) m cap i hi hm w
  have t2 := isThing_yes (some ⟨b0, off, none⟩) m cap j hj hm w
  obtain ⟨i0, hi0, hz0, hz1, hz2⟩ := info_parts info3
  go_enter Tryd.func19, Tryd.ntmps19
  go_wp2_with (first | (go_at_call 10; refine hc.mono ?_; rintro e w' ⟨rfl, rfl⟩) | (go_at_call 33; refine t1.mono ?_; clear t1; rintro e w' ⟨rfl, rfl⟩) | (go_at_call 33; refine t2.mono ?_; rintro e w' ⟨rfl, rfl⟩) | (go_at_call 34; refine hl.mono ?_; rintro e w1 ⟨gL, cpL, L, rfl, hD4, hgL, hoL, hLs, hB⟩))
  have hBa : Below w1.heap.size w1 (w1.alloc (.cells #[.int .i64 (i : Int)] 3)) := (Below.refl _ _).alloc (Nat.le_refl _) _
  have hrow0 : (w1.alloc (.cells #[.int .i64 (i : Int)] 3)).ownsRow w1.heap.size 3 1 (.slice (some ⟨w1.heap.size, 0, none⟩) 1 1) (0 + 1) (row (0 + 1) (fun _ => i)) :=
    ⟨by simp [row], .inr ⟨w1.heap.size, 1, #[.int .i64 (i : Int)], rfl, Nat.le_refl _, World.alloc_heap_new w1 _, by omega, by decide, by simp, by simp [row]⟩⟩
  have HLs : Hid (Layers m rows j D L) := hLs
  clear hLs hl hc t2
  go_loopw [11, 12, 13] (fun v x k wr => ∃ (s : Nat) (W : Nat → Nat), s ≤ D ∧ x = .int .i64 (W s : Nat) ∧ k = .int .i64 ((D : Int) - 1 - s) ∧ Hid (WayTo m rows j D s W ∧ W 0 = i) ∧ wr.ownsRow w1.heap.size 3 1 v (s + 1) (row (s + 1) W) ∧ Below w1.heap.size w1 wr) (fun _ _ k _ => (intOf k + 1).toNat)
  case atStart => exact ⟨0, fun _ => i, by omega, rfl, by go_num, ⟨WayTo.begin hi hd, rfl⟩, hrow0, hBa⟩
  case round =>
    obtain ⟨s, W, hs, rfl, rfl, HW, hown, hBr⟩ := hrel
    have hBw : Below w'.heap.size w' wr := hB.trans (hBr.mono hB.size)
    by_cases hlt : s < D
    · have hWs := HW.out.1.lt s (Nat.le_refl _)
      have e1 := (hBw.cell (p := ⟨b0, off + W s, none⟩) hlr.old).trans (hlr.cell (W s) hWs)
      have hne := HW.out.1.some hr hlt HLs.out
      have HN := HW.out.1.next hr hlt HLs.out
      have hRl := Nat.lt_of_lt_of_le (hr.2.2 (W s)) h12
      have ek : ((D : Int) - 1 - (s : Int)) = ((D - 1 - s : Nat) : Int) := by omega
      rw [ek]
      clear ek
      have hkD : D - 1 - s < D := by omega
      obtain ⟨kk, hkk⟩ : ∃ kk, D - 1 - s = kk := ⟨_, rfl⟩
      obtain ⟨RA, hRA⟩ : ∃ RA, rows.getD (W s) 0 = RA := ⟨_, rfl⟩
      obtain ⟨A, hA⟩ : ∃ A, W s = A := ⟨_, rfl⟩
      rw [hkk] at hne HN hkD ⊢
      rw [hRA] at e1 hne HN hRl
      rw [hA] at e1 hWs ⊢
      have HK : Hid (D - 1 - s = kk) := hkk
      clear hkk hRA hA
      have e2 := (hoL.below hBr).cell kk hkD
      have hLl := Nat.lt_of_lt_of_le (HLs.out kk hkD).1 h12
      have hand := and_i64 RA (L kk) hRl hLl
      have hXl : RA &&& L kk < 4096 := Nat.lt_of_le_of_lt Nat.and_le_left hRl
      have hTr : Tab wr := hT.below hBw hsz
      have t35 : ∀ n, Calls Tryd.prog 35 #[.int .i64 (RA &&& L kk : Nat)] (wr.drewN n) fun e w' => e = .returned (.int .i64 (low (RA &&& L kk) : Nat)) ∧ w' = wr.drewN n := fun n => least_any _ (wr.drewN n) hTr hne hXl
      obtain ⟨X, hX⟩ : ∃ X, RA &&& L kk = X := ⟨_, rfl⟩
      rw [hX] at hand t35 HN
      obtain ⟨Y, hY⟩ : ∃ Y, low X = Y := ⟨_, rfl⟩
      rw [hY] at t35 HN
      have HNN : Hid (WayTo m rows j D (s + 1) (upd W (s + 1) Y) ∧ upd W (s + 1) Y 0 = i) := ⟨HN, by rw [upd_other _ (by omega)]; exact HW.out.2⟩
      clear hX hY HN hne hXl hTr
      have hAi : (A : Int) < (m : Int) := by omega
      have hKi : (kk : Int) < (D : Int) := by omega
      have hc4 : s + 1 + 1 ≤ maxLen := by unfold maxLen; omega
      have hc5 : (s + 1 + 1) * 8 ≤ 140737488355328 := by omega
      have hone : ∀ u ∈ [Value.int .i64 (Y : Int)], u.oneCell' = true := by intro u hu; rw [List.mem_singleton.1 hu]; rfl
      go_wp2
      go_quiet ((first | (go_at_call 35; exact Calls.quiet_of_same (t35 _))))
      have hBq : Below w1.heap.size w1 (wr.drewN nq) := below_drawn hBr nq
      have hownq : (wr.drewN nq).ownsRow w1.heap.size 3 1 u11 (s + 1) (row (s + 1) W) := hown
      have hbase : w1.heap.size ≤ ((wr.drewN nq).alloc (.cells #[.int .i64 (Y : Int)] 3)).heap.size := by have := hBq.size; simp; simp at this; omega
      go_wp2_with (at_builtin; refine wpList_append_own _ rfl _ _ 22 rfl w1.heap.size 3 i0 (.int .i64 0) 1 8 Tryd.underlying22 hi0 hz0 hz1 hz2 rfl (by decide) _ (s + 1) (row (s + 1) W) rfl (hownq.alloc _) ⟨_, 0, none⟩ 1 1 [.int .i64 (Y : Int)] rfl rfl (cell_one_new _ _ _) hone hc4 hc5 hbase ?_; intro v' w3 hown' hgrow hnil; rw [row_snoc] at hown'; have hB3 : Below w1.heap.size w1 w3 := (hBq.alloc hBq.size _).grown hgrow hbase (ownsRow_block hownq))
      go_roundw
      case rel =>
        have q1 : Value.int .i64 (Y : Int) = .int .i64 (upd W (s + 1) Y (s + 1) : Nat) := by rw [upd_same]
        have q2 : Value.int .i64 ((kk : Int) - 1) = .int .i64 ((D : Int) - 1 - (s + 1 : Nat)) := by have := HK.out; congr 1; omega
        first
          | exact ⟨s + 1, upd W (s + 1) Y, by omega, q1, q2, HNN, hown', hB3⟩
          | ((repeat apply Exists.intro); exact ⟨⟨s + 1, upd W (s + 1) Y, by omega, q1, q2, HNN, hown', hB3⟩, rfl⟩)
      case measure => simp [intOf]
    · have hsD : s = D := by omega
      subst hsD
      obtain ⟨g, cp, hv, hg, hoG⟩ := own_of_row (by omega) hown
      have HV : Hid (u11 = .slice (some ⟨g, 0, none⟩) (s + 1 : Nat) cp) := hv
      clear hv
      go_wp2
      go_ret2
      rw [HV.out]
      exact ⟨g, cp, W, rfl, Nat.le_trans hB.size hg, hoG, HW.out.2, hD4, HW.out.1, hBw⟩

/-- What the way is, where there is one. -/
theorem Way_fine (a : Option Addr) (m cap i j D : Nat) (rows : List Nat) (hr : Right m rows) (hi : i < m) (hj : j < m) (hd : Dist rows D i j) (w : World) (hl : At w a m rows) (hT : Tab w)
    (hc : Calls Tryd.prog 10 #[.slice a m cap] w fun e w' => e = .returned .nilIface ∧ w' = w) :
    Calls Tryd.prog 19 #[.slice a m cap, .int .i64 i, .int .i64 j] w fun e w' => ∃ g cp W, e = .returned (.tuple #[.slice (some ⟨g, 0, none⟩) (D + 1 : Nat) cp, .nilIface]) ∧ w.heap.size ≤ g ∧ Own w' g (D + 1) W ∧ W 0 = i ∧ D ≤ 4096 ∧ WayTo m rows j D D W ∧ Below w.heap.size w w' := by
  rcases hl with h | ⟨b0, off, rfl, hl⟩
  · omega
  cases D with
  | zero =>
    obtain rfl : i = j := hd.1
    exact (Way_zero _ m cap i hr.1 hi w hc (layers_zero m b0 off cap i hi rows hr w hl hT)).mono fun e w' ⟨g, cp, he, hg, ho, hB⟩ => ⟨g, cp, fun _ => i, he, hg, ho, rfl, by omega, WayTo.begin hi hd, hB⟩
  | succ d => exact Way_pos b0 off m cap i j (d + 1) rows hr hi hj (by omega) hd w hl hT hc (layers_pos m b0 off cap i j d hi hj rows hr w hl hT hd)
theorem Way_no (a : Option Addr) (m cap i j : Nat) (rows : List Nat) (hr : Right m rows) (hi : i < m) (hj : j < m) (hn : ¬ Reach rows i j) (w : World) (hl : At w a m rows) (hT : Tab w)
    (hc : Calls Tryd.prog 10 #[.slice a m cap] w fun e w' => e = .returned .nilIface ∧ w' = w) :
    Calls Tryd.prog 19 #[.slice a m cap, .int .i64 i, .int .i64 j] w fun e w' => e = .returned (.tuple #[.slice none 0 0, .iface 45 (.int .i64 5)]) ∧ Below w.heap.size w w' := by
  rcases hl with h | ⟨b0, off, rfl, hl⟩
  · omega
  exact Way_none _ m cap i j hr.1 hi hj w hc (layers_none m b0 off cap i j hi hj rows hr w hl hT hn)
end Go.Proofs.YtgkojmdkpbcipaaDoor
