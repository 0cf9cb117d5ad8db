/- What is left when grants are revoked (without, founded, Revoke). -/
import Derived.WalkKit
import Derived.LoopTactic
import Derived.OwnWalk
import Derived.Maps.AppendAt
import Derived.Test.YtoecomgiggalkaaDoorGraI
import Derived.Test.YtoecomgiggalkaaDoorGraM
namespace Go.Proofs.YtoecomgiggalkaaDoor
open Go.RowKit
set_option maxRecDepth 100000

theorem grown_giv {w W w3 : World} {n : Nat} {v : Value} {xs : List Value} {o : Obj} (hB : Below w.heap.size w W) (hown : W.ownsRow w.heap.size 44 3 v n xs) (hg : (W.alloc o).grownBy w3 v.ownBlock) : Below w.heap.size w w3 :=
  (hB.alloc hB.size o).grown hg (by have := hB.size; simp; omega) fun k hk => (hown.lt k hk).1
theorem gOwn_stays {w w' : World} {B e k n : Nat} {v : Value} {xs : List Value} (h : w.ownsRow B e k v n xs) (hb : Below w.heap.size w w') : w'.ownsRow B e k v n xs :=
  h.kept (row := none) ⟨hb.os, hb.tape, hb.output, hb.size, fun k hk _ => hb.block k hk⟩ (by cases hv : v.ownBlock <;> simp)
set_option maxHeartbeats 2000000 in
theorem without_any (a : Option Addr) (cap : Nat) (l : List Giv) (hl : l.length ≤ 40) (f t : Int) (w : World) (h : AtGivs w a l.length (nthV l)) :
    Calls Tryd.prog 28 #[.slice a l.length cap, .int .i64 f, .int .i64 t] w fun e w' => ∃ v, e = .returned v ∧ GivV w' v (outL f t l) ∧ Below w.heap.size w w' := by
  obtain ⟨i0, hi0, hz0, hz1, hz2⟩ := info_parts infoGiv
  have HA := Hid.mkI h
  obtain ⟨n, hn⟩ : ∃ n, l.length = n := ⟨_, rfl⟩
  have HN := Hid.mkI hn
  rw [hn] at hl ⊢
  clear h hn
  go_enter Tryd.func28, Tryd.ntmps28
  go_wp2
  go_loopw [7, 12] (fun o p wr => ∃ (k : Nat) (m : List Giv) (ov : Value), ov = o ∧ k ≤ n ∧ p = .int .i64 k ∧ Hid (outL f t (l.take k) = m) ∧ m.length ≤ k ∧ wr.ownsRow w.heap.size 44 3 ov m.length (flatG m) ∧ Below w.heap.size w wr) (fun _ p _ => n - (intOf p).toNat)
  case atStart => exact ⟨0, [], _, rfl, by omega, rfl, rfl, by simp, World.ownsRow_nil _ _ _ _, Below.refl _ _⟩
  case round =>
    obtain ⟨k, m, ov, rfl, hk, rfl, HM, hmk, hown, hB⟩ := hrel
    by_cases hlt : k < n
    · obtain ⟨b, off, rfl, hs⟩ : ∃ b off, a = some ⟨b, off, none⟩ ∧ Givs wr b off n (nthV l) := by
        rcases HA.out with h0 | ⟨b, off, e, h⟩
        · have := HN.out; omega
        · rw [HN.out] at h; exact ⟨b, off, e, h.below hB⟩
      have c0 := hs.c0 k hlt
      have c1 := hs.c1 k hlt
      have c2 := hs.c2 k hlt
      have hltI : (k : Int) < (n : Int) := by omega
      have HT : Hid (outL f t (l.take (k + 1)) = m ++ if isOf f t (nthV l k) = true then [] else [nthV l k]) := by
        show _ = _
        rw [gtake_snoc l (by rw [HN.out]; exact hlt), outL_snoc, HM.out]
      clear hs
      obtain ⟨g, hg⟩ : ∃ g, nthV l k = g := ⟨_, rfl⟩
      rw [hg] at c0 c1 c2 HT
      clear hg
      obtain ⟨fr, to, tm⟩ := g
      have hB1 : Below w.heap.size w (wr.alloc (.cells #[.int .i64 fr, .int .i64 to, .int .i64 tm] 44)) := hB.alloc hB.size _
      have hown1 := hown.alloc (.cells #[.int .i64 fr, .int .i64 to, .int .i64 tm] 44)
      have d0 : (wr.alloc (.cells #[.int .i64 fr, .int .i64 to, .int .i64 tm] 44)).cell? ⟨wr.heap.size, 0, none⟩ = some (.int .i64 fr) := by simp [go_sem]
      have d1 : (wr.alloc (.cells #[.int .i64 fr, .int .i64 to, .int .i64 tm] 44)).cell? ⟨wr.heap.size, 1, none⟩ = some (.int .i64 to) := by simp [go_sem]
      have d2 : (wr.alloc (.cells #[.int .i64 fr, .int .i64 to, .int .i64 tm] 44)).cell? ⟨wr.heap.size, 2, none⟩ = some (.int .i64 tm) := by simp [go_sem]
      obtain ⟨W1, hW1⟩ : ∃ W, wr.alloc (.cells #[.int .i64 fr, .int .i64 to, .int .i64 tm] 44) = W := ⟨_, rfl⟩
      rw [hW1] at hB1 hown1 d0 d1 d2
      have hz5 := sizeG hB1
      by_cases q : isOf f t ⟨fr, to, tm⟩ = true
      · have q' : fr = f ∧ to = t := of_decide_eq_true q
        have b1 : (fr == f) = true := by simp [q'.1]
        have b2 : (to == t) = true := by simp [q'.2]
        have n1 : (fr != f) = false := by simp [q'.1]
        have n2 : (to != t) = false := by simp [q'.2]
        have HT2 : Hid (outL f t (l.take (k + 1)) = m) := by show _ = _; rw [HT.out, if_pos q, List.append_nil]
        clear q q' HT HM hown hB
        go_wp2
        go_roundw
        case rel => exact ⟨k + 1, m, _, rfl, by omega, by go_num, HT2, by omega, hown1, hB1⟩
        case measure => simp [intOf]; omega
      · have HT2 : Hid (m ++ [⟨fr, to, tm⟩] = outL f t (l.take (k + 1))) := by show _ = _; rw [HT.out, if_neg q]
        have hbnd := bndG (n := m.length) (k := 40) (by omega)
        have q' : ¬ (fr = f ∧ to = t) := fun h => q (decide_eq_true h)
        by_cases e1 : fr = f
        · have b1 : (fr == f) = true := by simp [e1]
          have n1 : (fr != f) = false := by simp [e1]
          have b2 : (to == t) = false := by simp; exact fun h => q' ⟨e1, h⟩
          have n2 : (to != t) = true := by simp; exact fun h => q' ⟨e1, h⟩
          clear q q' HT HM hown hB e1
          go_wp2_with (at_builtin; refine wpList_append_own _ rfl _ _ 22 rfl w.heap.size 44 i0 (.agg #[.int .i64 0, .int .i64 0, .int .i64 0]) 3 24 Tryd.underlying22 hi0 hz0 hz1 hz2 rfl (by decide) _ m.length _ rfl (hown1.alloc _) ⟨_, 0, none⟩ 1 1 (givR ⟨fr, to, tm⟩) rfl rfl (cell_three_new W1 ⟨fr, to, tm⟩ _) (givR_one _) hbnd.1 hbnd.2 (hz5 _) ?_; intro v2 w2 hown2 hg2 _; have hB2 := grown_giv hB1 hown1 hg2)
          go_roundw
          case rel =>
            have hlen : (outL f t (l.take (k + 1))).length = m.length + 1 := by rw [← HT2.out, List.length_append]; rfl
            exact ⟨k + 1, _, _, rfl, by omega, by go_num, rfl, by omega, owng_snoc HT2.out hown2, hB2⟩
          case measure => simp [intOf]; omega
        · have b1 : (fr == f) = false := by simp [e1]
          have n1 : (fr != f) = true := by simp [e1]
          clear q q' HT HM hown hB e1
          go_wp2_with (at_builtin; refine wpList_append_own _ rfl _ _ 22 rfl w.heap.size 44 i0 (.agg #[.int .i64 0, .int .i64 0, .int .i64 0]) 3 24 Tryd.underlying22 hi0 hz0 hz1 hz2 rfl (by decide) _ m.length _ rfl (hown1.alloc _) ⟨_, 0, none⟩ 1 1 (givR ⟨fr, to, tm⟩) rfl rfl (cell_three_new W1 ⟨fr, to, tm⟩ _) (givR_one _) hbnd.1 hbnd.2 (hz5 _) ?_; intro v2 w2 hown2 hg2 _; have hB2 := grown_giv hB1 hown1 hg2)
          go_roundw
          case rel =>
            have hlen : (outL f t (l.take (k + 1))).length = m.length + 1 := by rw [← HT2.out, List.length_append]; rfl
            exact ⟨k + 1, _, _, rfl, by omega, by go_num, rfl, by omega, owng_snoc HT2.out hown2, hB2⟩
          case measure => simp [intOf]; omega
    · obtain rfl : k = n := by omega
      have HE : Hid (m = outL f t l) := by show _ = _; rw [← HM.out, ← HN.out, List.take_length]
      have hv := givs_of hown
      clear hown
      go_wp2
      go_ret
      exact ⟨_, rfl, by rw [← HE.out]; exact hv, hB⟩
set_option maxHeartbeats 2000000 in
theorem founded_any (a : Option Addr) (cap : Nat) (l : List Giv) (hl : l.length ≤ 40) (hr : ∀ g ∈ l, 0 ≤ g.fr ∧ g.fr < 8 ∧ 0 ≤ g.to ∧ g.to < 8) (w : World) (h : AtGivs w a l.length (nthV l)) :
    Calls Tryd.prog 29 #[.slice a l.length cap] w fun e w' => ∃ v, e = .returned v ∧ GivV w' v (fndL l) ∧ Below w.heap.size w w' := by
  obtain ⟨i0, hi0, hz0, hz1, hz2⟩ := info_parts infoGiv
  have HA := Hid.mkI h
  have HR := Hid.mkI hr
  obtain ⟨n, hn⟩ : ∃ n, l.length = n := ⟨_, rfl⟩
  have HN := Hid.mkI hn
  rw [hn] at hl ⊢
  clear h hn hr
  go_enter Tryd.func29, Tryd.ntmps29
  go_wp2
  go_loopw [3, 4, 9] (fun o s p wr => ∃ (k : Nat) (m : List Giv) (ov : Value) (x : Nat), ov = o ∧ k ≤ n ∧ p = .int .i64 k ∧ s = .int .i64 x ∧ x < 256 ∧ Hid (fndL (l.take k) = m ∧ setL m = x) ∧ m.length ≤ k ∧ wr.ownsRow w.heap.size 44 3 ov m.length (flatG m) ∧ Below w.heap.size w wr) (fun _ _ p _ => n - (intOf p).toNat)
  case atStart => exact ⟨0, [], _, 1, rfl, by omega, rfl, rfl, by omega, ⟨rfl, rfl⟩, by simp, World.ownsRow_nil _ _ _ _, Below.refl _ _⟩
  case round =>
    obtain ⟨k, m, ov, x, rfl, hk, rfl, rfl, hx, HM, hmk, hown, hB⟩ := hrel
    by_cases hlt : k < n
    · obtain ⟨b, off, rfl, hs⟩ : ∃ b off, a = some ⟨b, off, none⟩ ∧ Givs wr b off n (nthV l) := by
        rcases HA.out with h0 | ⟨b, off, e, h⟩
        · have := HN.out; omega
        · rw [HN.out] at h; exact ⟨b, off, e, h.below hB⟩
      have c0 := hs.c0 k hlt
      have c1 := hs.c1 k hlt
      have c2 := hs.c2 k hlt
      have hltI : (k : Int) < (n : Int) := by omega
      have hkl : k < l.length := by rw [HN.out]; exact hlt
      have hmem := HR.out (nthV l k) (by rw [nthV_get hkl]; exact List.getElem_mem hkl)
      have HT : Hid (fndL (l.take (k + 1)) = gkeepL m (nthV l k)) := by
        show _ = _
        rw [gtake_snoc l hkl, fndL_snoc, HM.out.1]
      clear hs
      obtain ⟨g, hg⟩ : ∃ g, nthV l k = g := ⟨_, rfl⟩
      rw [hg] at c0 c1 c2 HT hmem
      clear hg hkl
      obtain ⟨fr, to, tm⟩ := g
      obtain ⟨m1, m2, m3, m4⟩ := hmem
      simp only at m1 m2 m3 m4
      obtain ⟨tn, rfl⟩ : ∃ t : Nat, to = (t : Int) := ⟨to.toNat, by omega⟩
      have hB1 : Below w.heap.size w (wr.alloc (.cells #[.int .i64 fr, .int .i64 (tn : Int), .int .i64 tm] 44)) := hB.alloc hB.size _
      have hown1 := hown.alloc (.cells #[.int .i64 fr, .int .i64 (tn : Int), .int .i64 tm] 44)
      have d0 : (wr.alloc (.cells #[.int .i64 fr, .int .i64 (tn : Int), .int .i64 tm] 44)).cell? ⟨wr.heap.size, 0, none⟩ = some (.int .i64 fr) := by simp [go_sem]
      have d1 : (wr.alloc (.cells #[.int .i64 fr, .int .i64 (tn : Int), .int .i64 tm] 44)).cell? ⟨wr.heap.size, 1, none⟩ = some (.int .i64 (tn : Int)) := by simp [go_sem]
      have d2 : (wr.alloc (.cells #[.int .i64 fr, .int .i64 (tn : Int), .int .i64 tm] 44)).cell? ⟨wr.heap.size, 2, none⟩ = some (.int .i64 tm) := by simp [go_sem]
      obtain ⟨W1, hW1⟩ : ∃ W, wr.alloc (.cells #[.int .i64 fr, .int .i64 (tn : Int), .int .i64 tm] 44) = W := ⟨_, rfl⟩
      have hlt3 : wr.heap.size < (wr.alloc (.cells #[.int .i64 fr, .int .i64 (tn : Int), .int .i64 tm] 44)).heap.size := by rw [World.size_alloc]; omega
      rw [hW1] at hB1 hown1 d0 d1 d2 hlt3
      have hf3 : ∀ o w2, (W1.alloc o).grownBy w2 ov.ownBlock → w2.cell? ⟨wr.heap.size, 1, none⟩ = some (.int .i64 (tn : Int)) := fun o w2 hg => (hg.cell_far ⟨wr.heap.size, 1, none⟩ (by rw [World.size_alloc]; simp only; omega) (fun q => by have h : wr.heap.size < wr.heap.size := (hown.lt _ q.symm).2; exact absurd h (Nat.lt_irrefl _))).trans ((((Below.refl _ W1).alloc (Nat.le_refl _) o).cell (p := ⟨wr.heap.size, 1, none⟩) hlt3).trans d1)
      have HF3 := Hid.mkI hf3
      clear hf3
      have hz5 := sizeG hB1
      have t := gHas_int x fr m1 (by omega) (by omega) W1
      cases q : x.testBit fr.toNat with
      | false =>
        have HT2 : Hid (fndL (l.take (k + 1)) = m ∧ setL m = x) := ⟨by rw [HT.out, gkeepL, if_neg (by rw [HM.out.2, q]; simp)], HM.out.2⟩
        rw [q] at t
        clear q HT HM hown hB
        go_wp2_with (go_at_call 26; refine t.mono ?_; clear t; rintro e w' ⟨rfl, hw⟩; obtain rfl := hw.symm)
        go_roundw
        case rel => exact ⟨k + 1, m, _, x, rfl, by omega, by go_num, rfl, hx, HT2, by omega, hown1, hB1⟩
        case measure => simp [intOf]; omega
      | true =>
        have HT2 : Hid (m ++ [⟨fr, (tn : Int), tm⟩] = fndL (l.take (k + 1))) := by show _ = _; rw [HT.out, gkeepL, if_pos (by rw [HM.out.2]; exact q)]
        have hbnd := bndG (n := m.length) (k := 40) (by omega)
        rw [q] at t
        have hp : 2 ^ tn < 2 ^ 8 := Nat.pow_lt_pow_right (by decide) (by omega)
        have hz : x ||| 2 ^ tn < 2 ^ 8 := Nat.or_lt_two_pow hx hp
        have e4 := gpow_wrap (a := tn) (by omega)
        have e5 := or_i64 x (2 ^ tn) (Nat.lt_trans hx (by decide)) (Nat.lt_trans hp (by decide))
        have HS : Hid (setL (m ++ [⟨fr, (tn : Int), tm⟩]) = x ||| 2 ^ tn) := (by have h := setL_snoc m ⟨fr, (tn : Int), tm⟩; rw [HM.out.2] at h; simpa using h : setL (m ++ [⟨fr, (tn : Int), tm⟩]) = x ||| 2 ^ tn)
        obtain ⟨p, hpe⟩ : ∃ p, 2 ^ tn = p := ⟨_, rfl⟩
        have hz : x ||| 2 ^ tn < 256 := hz
        rw [hpe] at e4 e5 hz HS
        obtain ⟨z, hze⟩ : ∃ z, x ||| p = z := ⟨_, rfl⟩
        rw [hze] at e5 hz HS
        clear q HT HM hown hB hpe hze hp
        go_wp2_with (first | (go_at_call 26; refine t.mono ?_; clear t; rintro e w' ⟨rfl, hw⟩; obtain rfl := hw.symm) | (at_builtin; refine wpList_append_own _ rfl _ _ 22 rfl w.heap.size 44 i0 (.agg #[.int .i64 0, .int .i64 0, .int .i64 0]) 3 24 Tryd.underlying22 hi0 hz0 hz1 hz2 rfl (by decide) _ m.length _ rfl (hown1.alloc _) ⟨_, 0, none⟩ 1 1 (givR ⟨fr, (tn : Int), tm⟩) rfl rfl (cell_three_new W1 ⟨fr, (tn : Int), tm⟩ _) (givR_one _) hbnd.1 hbnd.2 (hz5 _) ?_; intro v2 w2 hown2 hg2 _; have hB2 := grown_giv hB1 hown1 hg2; have d3 := HF3.out _ _ hg2))
        go_roundw
        case rel =>
          have hlen : (fndL (l.take (k + 1))).length = m.length + 1 := by rw [← HT2.out, List.length_append]; rfl
          exact ⟨k + 1, _, _, z, rfl, by omega, by go_num, rfl, hz, ⟨rfl, by rw [← HT2.out]; exact HS.out⟩, by omega, owng_snoc HT2.out hown2, hB2⟩
        case measure => simp [intOf]; omega
    · obtain rfl : k = n := by omega
      have HE : Hid (m = fndL l) := by show _ = _; rw [← HM.out.1, ← HN.out, List.take_length]
      have hv := givs_of hown
      clear hown
      go_wp2
      go_ret
      exact ⟨_, rfl, by rw [← HE.out]; exact hv, hB⟩
end Go.Proofs.YtoecomgiggalkaaDoor
