/- The document's step, where it is done (kind 0). -/
import Derived.WalkKit
import Derived.LoopTactic
import Derived.OwnWalk
import Derived.Deep.QuietTactic
import Derived.BigQuiet
import Derived.Maps.AppendAt
import Derived.Test.YtmanodogmagofaaDoorTakDo2
namespace Go.Proofs.YtmanodogmagofaaDoor
open Go.RowKit
set_option maxRecDepth 100000

set_option maxHeartbeats 4000000 in
theorem do_yes0 {w : World} {g : Gr} {b off : Nat} {B O C : Nat → Nat} (hG0 : GrAt w b off B O C g) (ok : g.Ok) (cp who of to r : Nat) (hq : who < g.n) (ho : of < g.n) (ht : to < g.n) (h1 : 1 ≤ r) (h7 : r ≤ 7) (hs : who ≠ to) (q1 : hasB (g.M who of) 1 = true) (q2 : hasB (g.M of to) r = true) :
    Calls Tryd.prog 25 #[.slice (some ⟨b, off, none⟩) g.n cp, stpV ⟨0, who, of, to, r⟩] w (DoIs w g ⟨0, who, of, to, r⟩) := by
  have hc := stepCode_take (g := g) (s := ⟨0, who, of, to, r⟩) (by simp) (by simp; omega) rfl (by simp; omega)
  simp only [Int.toNat_natCast] at hc
  rw [if_neg (by rw [q1, q2]; simp; omega)] at hc
  have HC := Hid.mkI hc
  clear hc
  have hb : ((who : Int) == (to : Int)) = false := by simpa using (show (who : Int) ≠ to by omega)
  have tB := fun W => bit_any (g.M who of) 0 (by have := ok.lt who of; omega) (by decide) W
  rw [hasB_one (ok.lt who of), q1] at tB
  have tW := fun W => within_any r (g.M of to) (by omega) (by have := ok.lt of to; omega) W
  rw [hasB_sub, q2] at tW
  clear q1 q2 hs
  have hB := box5_new w ⟨0, who, of, to, r⟩ 56
  obtain ⟨W, hW⟩ : ∃ W, w.alloc (.cells #[.int .i64 0, .int .i64 who, .int .i64 of, .int .i64 to, .int .i64 r] 56) = W := ⟨_, rfl⟩
  rw [hW] at hB
  have hD : DoAt w W ⟨0, who, of, to, r⟩ b off B O C g := ⟨hB, hG0.below hB.bel⟩
  clear hB
  have hn := ok.le
  have tK := fun W => in_yes 0 0 2 (by decide) (by decide) W
  have tU := fun W => in_yes who 0 ((g.n : Int) - 1) (by omega) (by omega) W
  have tO := fun W => in_yes of 0 ((g.n : Int) - 1) (by omega) (by omega) W
  have tT := fun W => in_yes to 0 ((g.n : Int) - 1) (by omega) (by omega) W
  have tR := fun W => in_yes r 1 7 (by omega) (by omega) W
  obtain ⟨⟨c0, c1, c2, c3, c4, hbel⟩, hG⟩ := id hD
  have a1 := hG.top of ho
  have a2 := hG.cell of to ho ht
  have a3 := hG.top who hq
  have a5 := hG.cell who of hq ho
  simp only at c0 c1 c2 c3 c4
  go_enter Tryd.func25, Tryd.ntmps25
  go_wp2_with (first | (go_at_call 24; (with_reducible refine (tK _).mono ?_); clear tK; rintro e w' ⟨rfl, hw⟩; obtain rfl := hw.symm) | (go_at_call 24; (with_reducible refine (tU _).mono ?_); clear tU; rintro e w' ⟨rfl, hw⟩; obtain rfl := hw.symm) | (go_at_call 24; (with_reducible refine (tO _).mono ?_); clear tO; rintro e w' ⟨rfl, hw⟩; obtain rfl := hw.symm) | (go_at_call 24; (with_reducible refine (tT _).mono ?_); clear tT; rintro e w' ⟨rfl, hw⟩; obtain rfl := hw.symm) | (go_at_call 24; (with_reducible refine (tR _).mono ?_); clear tR; rintro e w' ⟨rfl, hw⟩; obtain rfl := hw.symm))
  clear hW
  go_quiet (fail)
  obtain ⟨n1, hn1⟩ : ∃ x : Nat, nq = x := ⟨_, rfl⟩
  rw [hn1]
  clear hn1 nq
  have hD1 := hD.drawn n1
  obtain ⟨W1, hW1⟩ : ∃ x, W.drewN n1 = x := ⟨_, rfl⟩
  rw [hW1] at hD1 ⊢
  clear hW1 hD c0 c1 c2 c3 c4 a1 a2 a3 a5 hG hbel
  obtain ⟨⟨c0, c1, c2, c3, c4, hbel⟩, hG⟩ := id hD1
  have a1 := hG.top of ho
  have a2 := hG.cell of to ho ht
  have a3 := hG.top who hq
  have a5 := hG.cell who of hq ho
  simp only at c0 c1 c2 c3 c4
  go_wp2
  go_quiet ((first | (go_at_call 37; exact Calls.quiet_of_same (tB _)) | (go_at_call 21; exact Calls.quiet_of_same (tW _))))
  obtain ⟨n2, hn2⟩ : ∃ x : Nat, nq = x := ⟨_, rfl⟩
  rw [hn2]
  clear hn2 nq
  have hD2 := hD1.drawn n2
  obtain ⟨W2, hW2⟩ : ∃ x, W1.drewN n2 = x := ⟨_, rfl⟩
  rw [hW2] at hD2 ⊢
  clear hW2 hD1 c0 c1 c2 c3 c4 a1 a2 a3 a5 hG hbel
  obtain ⟨⟨c0, c1, c2, c3, c4, hbel⟩, hG⟩ := id hD2
  have a1 := hG.top of ho
  have a2 := hG.cell of to ho ht
  have a3 := hG.top who hq
  have a5 := hG.cell who of hq ho
  have hbel4 := hD2.box.bel
  obtain ⟨X, hXX⟩ : ∃ X, (stepNext g ⟨0, who, of, to, r⟩).M = X := ⟨_, rfl⟩
  have HXX := Hid.mkI hXX
  have HNn : Hid ((stepNext g ⟨0, who, of, to, r⟩).n = g.n) := rfl
  have HXd : Hid (∀ i j, X i j = if i = who ∧ j = to then g.M i j ||| r else g.M i j) := fun i j => by rw [← hXX]; rfl
  clear hXX
  obtain ⟨i0, hi0, hz0, hz1, hz2⟩ := info_parts info3i
  obtain ⟨j0, hj0, hy0, hy1, hy2⟩ := info_parts infoRow
  have hone : ∀ (u : Value), u.oneCell' = true → ∀ x ∈ [u], x.oneCell' = true := fun u hu x hx => by rw [List.mem_singleton.1 hx]; exact hu
  have HD := Hid.mkI hD2
  clear c0 c1 c2 c3 c4 a1 a2 a3 a5 hG hbel hD2
  go_wp2
  go_loopw [11, 12] (fun o p wr => ∃ (i : Nat) (Cr Kr : Nat → Nat) (ov : Value) (wo : World), ov = o ∧ wo = wr ∧ i ≤ g.n ∧ p = .int .i64 i ∧ RowsB W2.heap.size wo ov i g.n Cr Kr X ∧ Below W2.heap.size W2 wo) (fun _ p _ => g.n - (intOf p).toNat)
  case atStart => exact ⟨0, fun _ => 0, fun _ => 0, _, _, rfl, rfl, by omega, rfl, RowsB.nil _ _ _ _ _ _, Below.refl _ _⟩
  case round =>
    obtain ⟨i, Cr, Kr, ov, wo, rfl, rfl, hi, rfl, hR, hBr⟩ := hrel
    by_cases hlt : i < g.n
    · have hltI : (i : Int) < (g.n : Int) := by omega
      go_wp2
      go_loopw [13, 14] (fun rv p wr => ∃ (j : Nat), j ≤ g.n ∧ p = .int .i64 j ∧ wr.ownsRow wo.heap.size 3 1 rv j (rowI j fun q => (X i q : Int)) ∧ Below wo.heap.size wo wr) (fun _ p _ => g.n - (intOf p).toNat)
      case atStart => exact ⟨0, by omega, rfl, World.ownsRow_nil _ _ _ _, Below.refl _ _⟩
      case round =>
        obtain ⟨j, hjle, rfl, hrow, hB2⟩ := hrel
        by_cases hjt : j < g.n
        · have hD5 := (HD.out.below hBr).below hB2
          obtain ⟨⟨c0, c1, c2, c3, c4, hbel⟩, hG2⟩ := id hD5
          simp only at c0 c1 c2 c3 c4
          have hc4 : j + 1 ≤ maxLen := by unfold maxLen; omega
          have hc5 : (j + 1) * 8 ≤ 140737488355328 := by omega
          have hb2 : ∀ (o : Obj), wo.heap.size ≤ (wr.alloc o).heap.size := fun o => by simp; have := hB2.size; omega
          clear hD5 hR
          have b1 := hG2.top i hlt
          have b2 := hG2.cell i j hlt hjt
          by_cases e1 : i = who
          · by_cases e2 : j = to
            · have HX : Hid (X i j = g.M i j ||| r) := by show _ = _; rw [HXd.out]; exact if_pos ⟨e1, e2⟩
              have tE := fun W => either_any (g.M i j) r (by have := ok.lt i j; omega) (by omega) W
              have f1 : ((i : Int) == (who : Int)) = true := by simpa using (show (i : Int) = who by omega)
              have f2 : ((j : Int) == (to : Int)) = true := by simpa using (show (j : Int) = to by omega)
              obtain ⟨xv, hxv⟩ : ∃ x, g.M i j ||| r = x := ⟨_, rfl⟩
              obtain ⟨yv, hyv⟩ : ∃ x, g.M i j = x := ⟨_, rfl⟩
              have HX : Hid (X i j = xv) := by show _ = _; rw [HX.out, hxv]
              rw [hxv, hyv] at tE
              rw [hyv] at b2
              have HE1 := Hid.mkI e1
              have HE2 := Hid.mkI e2
              clear hxv hyv e1 e2
              go_wp2_with (first | (at_builtin; refine wpList_append_own _ rfl _ _ 36 rfl wo.heap.size 3 i0 (.int .i64 0) 1 8 Tryd.underlying36 hi0 hz0 hz1 hz2 rfl (by decide) _ j (rowI j fun q => (X i q : Int)) rfl (hrow.alloc _) ⟨_, 0, none⟩ 1 1 [.int .i64 (xv : Int)] rfl rfl (cell_one_new _ _ _) (hone _ rfl) hc4 hc5 (hb2 _) ?_; intro v' w3 hown' hgrow hnil) | (go_at_call 38; refine (tE _).mono ?_; clear tE; rintro e w' ⟨rfl, hw⟩; obtain rfl := hw.symm))
              have hown2 : w3.ownsRow wo.heap.size 3 1 v' (j + 1) (rowI (j + 1) fun q => (X i q : Int)) := by rw [← rowI_snoc, HX.out]; exact hown'
              go_roundw
              case rel =>
                have hBn := (hB2.alloc hB2.size _).grown hgrow (by simp; have := hB2.size; omega) (rowI_block hrow)
                first
                  | exact ⟨j + 1, by omega, by go_num, hown2, hBn⟩
                  | ((repeat apply Exists.intro); refine ⟨⟨j + 1, by omega, ?_, hown2, hBn⟩, rfl⟩; go_num)
              case measure => simp [intOf]; omega
            · have HX : Hid (X i j = g.M i j) := by show _ = _; rw [HXd.out]; exact if_neg (by omega)
              have f1 : ((i : Int) == (who : Int)) = true := by simpa using (show (i : Int) = who by omega)
              have f2 : ((j : Int) == (to : Int)) = false := by simpa using (show (j : Int) ≠ to by omega)
              obtain ⟨xv, hyv⟩ : ∃ x, g.M i j = x := ⟨_, rfl⟩
              have HX : Hid (X i j = xv) := by show _ = _; rw [HX.out, hyv]
              rw [hyv] at b2
              have HE1 := Hid.mkI e1
              have HE2 := Hid.mkI e2
              clear hyv e1 e2
              go_wp2_with (first | (at_builtin; refine wpList_append_own _ rfl _ _ 36 rfl wo.heap.size 3 i0 (.int .i64 0) 1 8 Tryd.underlying36 hi0 hz0 hz1 hz2 rfl (by decide) _ j (rowI j fun q => (X i q : Int)) rfl (hrow.alloc _) ⟨_, 0, none⟩ 1 1 [.int .i64 (xv : Int)] rfl rfl (cell_one_new _ _ _) (hone _ rfl) hc4 hc5 (hb2 _) ?_; intro v' w3 hown' hgrow hnil))
              have hown2 : w3.ownsRow wo.heap.size 3 1 v' (j + 1) (rowI (j + 1) fun q => (X i q : Int)) := by rw [← rowI_snoc, HX.out]; exact hown'
              go_roundw
              case rel =>
                have hBn := (hB2.alloc hB2.size _).grown hgrow (by simp; have := hB2.size; omega) (rowI_block hrow)
                first
                  | exact ⟨j + 1, by omega, by go_num, hown2, hBn⟩
                  | ((repeat apply Exists.intro); refine ⟨⟨j + 1, by omega, ?_, hown2, hBn⟩, rfl⟩; go_num)
              case measure => simp [intOf]; omega
          · have HX : Hid (X i j = g.M i j) := by show _ = _; rw [HXd.out]; exact if_neg (by omega)
            have f1 : ((i : Int) == (who : Int)) = false := by simpa using (show (i : Int) ≠ who by omega)
            obtain ⟨xv, hyv⟩ : ∃ x, g.M i j = x := ⟨_, rfl⟩
            have HX : Hid (X i j = xv) := by show _ = _; rw [HX.out, hyv]
            rw [hyv] at b2
            have HE1 := Hid.mkI e1
            clear hyv e1
            go_wp2_with (first | (at_builtin; refine wpList_append_own _ rfl _ _ 36 rfl wo.heap.size 3 i0 (.int .i64 0) 1 8 Tryd.underlying36 hi0 hz0 hz1 hz2 rfl (by decide) _ j (rowI j fun q => (X i q : Int)) rfl (hrow.alloc _) ⟨_, 0, none⟩ 1 1 [.int .i64 (xv : Int)] rfl rfl (cell_one_new _ _ _) (hone _ rfl) hc4 hc5 (hb2 _) ?_; intro v' w3 hown' hgrow hnil))
            have hown2 : w3.ownsRow wo.heap.size 3 1 v' (j + 1) (rowI (j + 1) fun q => (X i q : Int)) := by rw [← rowI_snoc, HX.out]; exact hown'
            go_roundw
            case rel =>
              have hBn := (hB2.alloc hB2.size _).grown hgrow (by simp; have := hB2.size; omega) (rowI_block hrow)
              first
                | exact ⟨j + 1, by omega, by go_num, hown2, hBn⟩
                | ((repeat apply Exists.intro); refine ⟨⟨j + 1, by omega, ?_, hown2, hBn⟩, rfl⟩; go_num)
            case measure => simp [intOf]; omega
        · obtain rfl : j = g.n := by omega
          obtain ⟨c, kk, rfl⟩ := row_some hrow (by omega)
          have hlc := hrow.lt c rfl
          have hcne : ov.ownBlock ≠ some c := fun q => by have := (hR.out.lt c q).2; omega
          have hlo := fun q hq => (hR.out.lt q hq).1
          have hBc := hBr.trans (hB2.mono hBr.size)
          have hR3 := (hR.below hB2).below ((Below.refl _ wr).alloc (Nat.le_refl _) (.cells #[.slice (some ⟨c, 0, none⟩) g.n kk] 36))
          have hrow3 := (ownsRow_low hrow hBr.size).alloc (.cells #[.slice (some ⟨c, 0, none⟩) g.n kk] 36)
          have hBc3 := hBc.alloc hBc.size (.cells #[.slice (some ⟨c, 0, none⟩) g.n kk] 36)
          have hb3 := hBc3.size
          have hc4 : i + 1 ≤ maxLen := by unfold maxLen; omega
          have hc5 : (i + 1) * 24 ≤ 140737488355328 := by omega
          have hpush := fun (o' : Value) (w5 : World) ho hg hat => hR3.push (o' := o') (w' := w5) hrow3 hcne ho hg hat
          have HP := Hid.mkI hpush
          have hout := hR3.out
          clear hpush hrow hR hR3 hrow3 hcne hlc hBr hB2 hBc
          go_wp2_with (at_builtin; refine wpList_append_own_at _ rfl _ _ 22 rfl W2.heap.size 36 j0 (.slice none 0 0) 1 24 Tryd.underlying22 hj0 hy0 hy1 hy2 rfl (by decide) _ i ((List.range i).map fun q => Value.slice (some ⟨Cr q, 0, none⟩) g.n (Kr q)) rfl hout ⟨_, 0, none⟩ 1 1 [.slice (some ⟨c, 0, none⟩) g.n kk] rfl rfl (cell_one_new _ _ _) (hone _ rfl) hc4 hc5 hb3 ?_; intro v' w5 hown' hgrow hnil hat)
          have hN := HP.out v' w5 hown' hgrow hat
          have hBn := hBc3.grown hgrow hb3 hlo
          go_roundw
          case rel => exact ⟨i + 1, _, _, _, _, rfl, rfl, by omega, by go_num, hN, hBn⟩
          case measure => simp [intOf]; omega
    · obtain rfl : i = g.n := by omega
      have HR := Hid.mkI hR
      clear hR
      go_wp2
      go_ret2
      refine ⟨⟨_, by rw [HC.out]; rfl, fun _ => ?_⟩, hbel4.trans (hBr.mono hbel4.size)⟩
      have h := HR.out
      rw [← HXX.out] at h
      exact RowsB.grV (g := stepNext g ⟨0, who, of, to, r⟩) h (by show 0 < g.n; omega)
end Go.Proofs.YtmanodogmagofaaDoor
