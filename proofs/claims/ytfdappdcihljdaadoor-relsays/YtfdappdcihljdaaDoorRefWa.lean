/- Which way the document tells (Way of the reference). -/
import Derived.WalkKit
import Derived.LoopTactic
import Derived.OwnWalk
import Derived.Maps.AppendAt
import Derived.Deep.QuietTactic
import Derived.BigQuiet
import Derived.Test.YtfdappdcihljdaaDoorRefSt
namespace Go.Proofs.YtfdappdcihljdaaDoor
open Go.RowKit

theorem refWay_no (a : Option Addr) (m cap i j : Nat) (hi : i < m) (w : World)
    (hs : Calls Tryd.prog 29 #[.slice a m cap, .int .i64 j] w fun e w' => ∃ g cp L, e = .returned (.slice (some ⟨g, 0, none⟩) m cp) ∧ w.heap.size ≤ g ∧ Own w' g m L ∧ L i = 20 ∧ Below w.heap.size w w') :
    Calls Tryd.prog 14 #[.slice a m cap, .int .i64 i, .int .i64 j] w fun e w' => e = .returned (.tuple #[.slice none 0 0, .bool false]) ∧ Below w.heap.size w w' := by
  have hii : (i : Int) < (m : Int) := by omega
  go_enter Tryd.func14, Tryd.ntmps14
  go_wp2_with (go_at_call 29; refine hs.mono ?_; clear hs; rintro e w1 ⟨g, cp, L, rfl, hg, ho, hL, hB⟩; have e1 := ho.cell i hi; rw [hL] at e1; clear hL)
  go_ret2
  exact ⟨rfl, hB⟩

theorem Drawn.cell {w w' : World} (h : Drawn w w') {p : Addr} {v : Value} (hc : w.cell? p = some v) : w'.cell? p = some v := by
  obtain ⟨n, rfl⟩ := h; exact hc
theorem Drawn.own {w w' : World} (h : Drawn w w') {B m : Nat} {f : Nat → Nat} (ho : Own w B m f) : Own w' B m f := by
  obtain ⟨n, rfl⟩ := h; exact ho.drawn n
theorem Drawn.row {w w' : World} (h : Drawn w w') {base n : Nat} {v : Value} {xs : List Value} (ho : w.ownsRow base 3 1 v n xs) : w'.ownsRow base 3 1 v n xs := by
  obtain ⟨n, rfl⟩ := h; exact ho

theorem WayTo.begin {m : Nat} {rows : List Nat} {a b d : Nat} (ha : a < m) (hd : Dist rows d a b) : WayTo m rows b d 0 (fun _ => a) :=
  ⟨fun _ _ => ha, fun i hi => by have : i = 0 := by omega
                                 subst this; exact hd, fun _ h => absurd h (by omega), fun _ h => absurd h (by omega)⟩

/-- How long a slice is. -/
def lenOf : Value → Nat
  | .slice _ n _ => n
  | _ => 0

/-- What may come next, by the document's steps. -/
def Next (rows : List Nat) (L : Nat → Nat) (A K y : Nat) : Prop := (rows.getD A 0).testBit y = true ∧ L y = K
theorem WayTo.nextRef {m : Nat} {rows : List Nat} (hr : Right m rows) {b d s : Nat} {W L : Nat → Nat} (h : WayTo m rows b d s W) (hs : s < d) (hL : Steps m rows b L) :
    L (W s) = d - s ∧ ∃ Y, Next rows L (W s) (d - (s + 1)) Y ∧ Y < m ∧ (∀ y, y < Y → ¬ Next rows L (W s) (d - (s + 1)) y) ∧ WayTo m rows b d (s + 1) (upd W (s + 1) Y) := by
  have hA := h.lt s (Nat.le_refl _)
  have hf := h.far s (Nat.le_refl _)
  have isd : ∀ x k, x < m → Dist rows k x b → L x = k := fun x k hx hd => by
    rcases hL x hx with ⟨h1, _⟩ | ⟨_, h1⟩
    · exact h1.unique hd
    · exact absurd hd.1.reach h1
  have dis : ∀ x, x < m → L x < 12 → Dist rows (L x) x b := fun x hx hl => by
    rcases hL x hx with ⟨h1, _⟩ | ⟨h1, _⟩
    · exact h1
    · omega
  have hdm : d - s < m := hf.few hr hA
  have hm := hr.1
  refine ⟨isd _ _ hA hf, ?_⟩
  have hf' : Dist rows (d - (s + 1) + 1) (W s) b := by rw [show d - (s + 1) + 1 = d - s by omega]; exact hf
  obtain ⟨y0, hy0, hd0⟩ := hf'.nearer
  obtain ⟨Y, hY, hmin⟩ := least_of (p := Next rows L (W s) (d - (s + 1))) y0 ⟨hy0, isd _ _ (bit_lt (hr.2.2 _) hy0) hd0⟩
  have hYm := bit_lt (hr.2.2 _) hY.1
  have hYd : Dist rows (d - (s + 1)) Y b := by
    have := dis Y hYm (by rw [hY.2]; omega)
    rwa [hY.2] at this
  refine ⟨Y, hY, hYm, hmin, fun i hi => ?_, fun i hi => ?_, fun i hi => ?_, fun i hi y hy hd => ?_⟩
  · by_cases e : i = s + 1
    · subst e; rw [upd_same]; exact hYm
    · rw [upd_other _ e]; exact h.lt i (by omega)
  · by_cases e : i = s + 1
    · subst e; rw [upd_same]; exact hYd
    · rw [upd_other _ e]; exact h.far i (by omega)
  · rw [upd_other _ (show i ≠ s + 1 by omega)]
    by_cases e : i = s
    · subst e; rw [upd_same]; exact hY.1
    · rw [upd_other _ (show i + 1 ≠ s + 1 by omega)]; exact h.on i (by omega)
  · rw [upd_other _ (show i ≠ s + 1 by omega)] at hy
    by_cases e : i = s
    · subst e
      rw [upd_same]
      by_cases hlt : y < Y
      · exact absurd ⟨hy, isd y _ (bit_lt (hr.2.2 _) hy) hd⟩ (hmin y hlt)
      · omega
    · rw [upd_other _ (show i + 1 ≠ s + 1 by omega)]
      exact h.first i (by omega) y hy hd

set_option maxRecDepth 100000 in
set_option maxHeartbeats 2000000 in
theorem refWay_yes (b0 off m cap i j D : Nat) (rows : List Nat) (hr : Right m rows) (hi : i < m) (_hj : j < m) (hd : Dist rows D i j) (w : World) (hl : Lies w b0 off m rows)
    (hs : Calls Tryd.prog 29 #[.slice (some ⟨b0, off, none⟩) m cap, .int .i64 j] w fun e w' => ∃ g cp L, e = .returned (.slice (some ⟨g, 0, none⟩) m cp) ∧ w.heap.size ≤ g ∧ Own w' g m L ∧ Steps m rows j L ∧ Below w.heap.size w w') :
    Calls Tryd.prog 14 #[.slice (some ⟨b0, off, none⟩) m cap, .int .i64 i, .int .i64 j] w fun e w' => ∃ g cp W, e = .returned (.tuple #[.slice (some ⟨g, 0, none⟩) (D + 1 : Nat) cp, .bool true]) ∧ w.heap.size ≤ g ∧ Own w' g (D + 1) W ∧ W 0 = i ∧ WayTo m rows j D D W ∧ Below w.heap.size w w' := by
  have hm := hr.1
  have h12 := pow12 hm
  have hDm : D < m := hd.few hr hi
  have hii : (i : Int) < (m : Int) := by omega
  obtain ⟨i0, hi0, hz0, hz1, hz2⟩ := info_parts info3
  have HR : Hid (Right m rows) := hr
  have HD : Hid (Dist rows D i j) := hd
  clear hr hd
  go_enter Tryd.func14, Tryd.ntmps14
  go_wp2_with (go_at_call 29; refine hs.mono ?_; clear hs; rintro e w1 ⟨gL, cpL, L, rfl, hgL, hoL, hLs, hB⟩; have e1 := hoL.cell i hi; have hLi : L i = D := by { rcases hLs i hi with ⟨h1, _⟩ | ⟨_, h1⟩; · { exact h1.unique HD.out }; · { exact absurd HD.out.1.reach h1 } }; have h20 : ((L i : Int) == 20) = false := by { simp; omega }; have HLs : Hid (Steps m rows j L) := hLs; clear hLs hLi)
  have hBa : Below w1.heap.size w1 (w1.alloc (.cells #[.int .i64 (i : Int)] 3)) := (Below.refl _ _).alloc (Nat.le_refl _) _
  have hrow0 : (w1.alloc (.cells #[.int .i64 (i : Int)] 3)).ownsRow w1.heap.size 3 1 (.slice (some ⟨w1.heap.size, 0, none⟩) 1 1) (0 + 1) (row (0 + 1) (fun _ => i)) :=
    ⟨by simp [row], .inr ⟨w1.heap.size, 1, #[.int .i64 (i : Int)], rfl, Nat.le_refl _, World.alloc_heap_new w1 _, by omega, by decide, by simp, by simp [row]⟩⟩
  clear e1 h20
  go_loopw [1, 9] (fun x v wr => ∃ (s : Nat) (W : Nat → Nat), s ≤ D ∧ x = .int .i64 (W s : Nat) ∧ Hid (WayTo m rows j D s W ∧ W 0 = i) ∧ wr.ownsRow w1.heap.size 3 1 v (s + 1) (row (s + 1) W) ∧ Below w1.heap.size w1 wr) (fun _ v _ => D + 1 - lenOf v)
  case atStart => exact ⟨0, fun _ => i, by omega, rfl, ⟨WayTo.begin hi HD.out, rfl⟩, hrow0, hBa⟩
  case round =>
    obtain ⟨s, W, hsD, rfl, HW, hown, hBr⟩ := hrel
    clear hrow0 hBa
    have hBw : Below w.heap.size w wr := hB.trans (hBr.mono hB.size)
    have hWs := HW.out.1.lt s (Nat.le_refl _)
    have hWi : (W s : Int) < (m : Int) := by omega
    by_cases hlt : s < D
    · obtain ⟨hLA, Y, hY, hYm, hmin, hN⟩ := HW.out.1.nextRef HR.out hlt HLs.out
      have hne : ((W s : Int) != (j : Int)) = true := by
        have h1 := HW.out.1.far s (Nat.le_refl _)
        simp only [bne_iff_ne, ne_eq]
        intro e
        have e' : W s = j := by omega
        exact h1.2 0 (by omega) e'
      have e1 := (hBw.cell (p := ⟨b0, off + W s, none⟩) hl.old).trans (hl.cell (W s) hWs)
      have e2 := (hoL.below hBr).cell (W s) hWs
      have hRl := HR.out.2.2 (W s)
      have hbit := fun t (ht : t ≤ Y) W' => bit_any (rows.getD (W s) 0) t (by omega) (by omega) W'
      have hlen : lenOf u9 = s + 1 := by
        obtain ⟨g, cp, hv, _⟩ := own_of_row (by omega) hown
        rw [hv]; rfl
      have HN : Hid (WayTo m rows j D (s + 1) (upd W (s + 1) Y) ∧ upd W (s + 1) Y 0 = i) := ⟨hN, by rw [upd_other _ (by omega)]; exact HW.out.2⟩
      have HM : Hid (Next rows L (W s) (D - (s + 1)) Y ∧ ∀ y, y < Y → ¬ Next rows L (W s) (D - (s + 1)) y) := ⟨hY, hmin⟩
      have HLen : Hid (lenOf u9 = s + 1) := hlen
      have HLA : Hid (L (W s) = D - s) := hLA
      have hLb : L (W s) ≤ 12 := by rw [hLA]; omega
      clear hN hY hmin hlen hLA
      have oL := hoL.below hBr
      go_wp2
      go_loopw [10] (fun q wq => ∃ t : Nat, t ≤ Y ∧ q = .int .i64 t ∧ Drawn wr wq) (fun q _ => Y - (intOf q).toNat)
      case atStart => exact ⟨0, by omega, rfl, Drawn.refl _⟩
      case round =>
        obtain ⟨t, htY, rfl, hdr⟩ := hrel
        have e1 := hdr.cell e1
        have e2 := hdr.cell e2
        have hBr := hdr.below hBr
        have hown := hdr.row hown
        have htm : t < m := by omega
        have hti : (t : Int) < (m : Int) := by omega
        have e3 := (hdr.own oL).cell t htm
        have hb := hbit t htY
        clear hbit
        by_cases heq : t = Y
        · have hx : ((L t : Int) != (L (W s) : Int) - 1) = false := by
            have h1 := HM.out.1.2
            have h2 := HLA.out
            simp only [bne_eq_false_iff_eq]
            rw [heq, h1, h2]; omega
          have hb1 : (rows.getD (W s) 0).testBit t = true := by rw [heq]; exact HM.out.1.1
          rw [hb1] at hb
          have HE : Hid (t = Y) := heq
          clear hb1 heq
          obtain ⟨R, hRe⟩ : ∃ R, rows.getD (W s) 0 = R := ⟨_, rfl⟩
          rw [hRe] at e1 hb hRl
          clear hRe
          have hc4 : s + 1 + 1 ≤ maxLen := by unfold maxLen; omega
          have hc5 : (s + 1 + 1) * 8 ≤ 140737488355328 := by omega
          have hone : ∀ u ∈ [Value.int .i64 (t : Int)], u.oneCell' = true := by intro u hu; rw [List.mem_singleton.1 hu]; rfl
          go_wp2
          go_quiet ((first | (go_at_call 21; exact Calls.quiet_of_same (hb _))))
          have hBq : Below w1.heap.size w1 (wr.drewN nq) := below_drawn hBr nq
          have hownq : (wr.drewN nq).ownsRow w1.heap.size 3 1 u9 (s + 1) (row (s + 1) W) := hown
          have hbase : w1.heap.size ≤ ((wr.drewN nq).alloc (.cells #[.int .i64 (t : Int)] 3)).heap.size := by have := hBq.size; simp; simp at this; omega
          go_wp2_with (at_builtin; refine wpList_append_own _ rfl _ _ 22 rfl w1.heap.size 3 i0 (.int .i64 0) 1 8 Tryd.underlying22 hi0 hz0 hz1 hz2 rfl (by decide) _ (s + 1) (row (s + 1) W) rfl (hownq.alloc _) ⟨_, 0, none⟩ 1 1 [.int .i64 (t : Int)] rfl rfl (cell_one_new _ _ _) hone hc4 hc5 hbase ?_; intro v' w3 hown' hgrow hnil; rw [row_snoc] at hown'; have hB3 : Below w1.heap.size w1 w3 := (hBq.alloc hBq.size _).grown hgrow hbase (ownsRow_block hownq))
          go_roundw
          case rel =>
            have q1 : Value.int .i64 (t : Int) = .int .i64 (upd W (s + 1) Y (s + 1) : Nat) := by rw [upd_same, HE.out]
            rw [HE.out] at hown'
            first
              | exact ⟨s + 1, upd W (s + 1) Y, by omega, q1, HN, hown', hB3⟩
              | ((repeat apply Exists.intro); exact ⟨⟨s + 1, upd W (s + 1) Y, by omega, q1, HN, hown', hB3⟩, rfl⟩)
          case measure =>
            have h1 : lenOf v' = s + 1 + 1 := by
              obtain ⟨g, cp, hv, _⟩ := own_of_row (by omega) hown'
              rw [hv]; rfl
            have h2 := HLen.out
            simp [h1, h2]; omega
        · have hlt2 : t < Y := by omega
          have hno := HM.out.2 t hlt2
          clear heq
          cases hb1 : (rows.getD (W s) 0).testBit t with
          | false =>
            rw [hb1] at hb
            clear hno hb1
            obtain ⟨R, hRe⟩ : ∃ R, rows.getD (W s) 0 = R := ⟨_, rfl⟩
            rw [hRe] at e1 hb hRl
            clear hRe
            go_wp2
            go_quiet ((first | (go_at_call 21; exact Calls.quiet_of_same (hb _))))
            go_wp2
            go_roundw
            case rel => exact ⟨t + 1, by omega, by go_num, hdr.more _⟩
            case measure => simp [intOf]; omega
          | true =>
            rw [hb1] at hb
            have hx : ((L t : Int) != (L (W s) : Int) - 1) = true := by
              have h2 := HLA.out
              simp only [bne_iff_ne, ne_eq]
              intro e
              exact hno ⟨hb1, by omega⟩
            clear hno hb1
            obtain ⟨R, hRe⟩ : ∃ R, rows.getD (W s) 0 = R := ⟨_, rfl⟩
            rw [hRe] at e1 hb hRl
            clear hRe
            go_wp2
            go_quiet ((first | (go_at_call 21; exact Calls.quiet_of_same (hb _))))
            go_wp2
            go_roundw
            case rel => exact ⟨t + 1, by omega, by go_num, hdr.more _⟩
            case measure => simp [intOf]; omega
    · have hsD' : s = D := by omega
      have hne : ((W s : Int) != (j : Int)) = false := by
        have h1 := (HW.out.1.far s (Nat.le_refl _)).1
        rw [hsD', Nat.sub_self] at h1
        have e' : W D = j := h1
        simp [hsD', e']
      subst hsD'
      obtain ⟨g, cp, hv, hg, hoG⟩ := own_of_row (by omega) hown
      have HV : Hid (u9 = .slice (some ⟨g, 0, none⟩) (s + 1 : Nat) cp) := hv
      clear hv
      go_wp2
      go_ret2
      rw [HV.out]
      exact ⟨g, cp, W, rfl, Nat.le_trans hB.size hg, hoG, HW.out.2, HW.out.1, hBw⟩
end Go.Proofs.YtfdappdcihljdaaDoor
