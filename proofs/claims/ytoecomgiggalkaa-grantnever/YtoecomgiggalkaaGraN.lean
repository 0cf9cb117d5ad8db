/- The walk of the law GrantNever. -/
import Derived.WalkKit
import Derived.LoopTactic
import Derived.OwnWalk
import Derived.Maps.AppendAt
import Derived.Test.YtoecomgiggalkaaGraF
import Derived.Test.YtoecomgiggalkaaGraS
namespace Go.Proofs.Ytoecomgiggalkaa
open Go.RowKit
set_option maxRecDepth 100000

set_option maxHeartbeats 4000000 in
theorem grantNever_any (users : Int) (a : Option Addr) (cap : Nat) (l : List Giv) (f t : Int) (w : World) (h : AtGivs w a l.length (nthV l)) :
    Calls Try.prog 3 #[.int .i64 users, .slice a l.length cap, .int .i64 f, .int .i64 t] w fun e w' => e = .returned (.bool true) ∧ Below w.heap.size w w' := by
  obtain ⟨i0, hi0, hz0, hz1, hz2⟩ := info_parts infoGiv
  have t0 := grantFact_any w
  have t1 := fun w1 (hB : Below w.heap.size w w1) => revoke_any users a cap l f t w1 (h.below hB)
  have HA := Hid.mkI h
  obtain ⟨n, hn⟩ : ∃ n, l.length = n := ⟨_, rfl⟩
  have HN := Hid.mkI hn
  rw [hn] at t1 ⊢
  clear h hn
  go_enter Try.func3, Try.ntmps3
  go_wp2_with fail
  refine t0.mono ?_
  clear t0
  rintro e w1 ⟨rfl, hB1⟩
  have t1 := t1 w1 hB1
  go_wp2_with fail
  refine t1.mono ?_
  clear t1
  rintro e w2 ⟨v, rfl, ⟨hc, rfl⟩ | ⟨hc, hv⟩, hB2⟩
  · have hB3 := hB1.trans (hB2.mono hB1.size)
    rw [gerrV_ne hc]
    clear hc
    go_wp2_with fail
    go_ret
    exact ⟨rfl, hB3⟩
  · have hB3 := hB1.trans (hB2.mono hB1.size)
    rw [hc, errV_zero]
    have HC := Hid.mkI (revC_ok hc)
    have HV := Hid.mkI hv
    have HA2 : Hid (AtGivs w2 a n (nthV l)) := by
      have := HA.out.below hB3
      rw [HN.out] at this
      exact this
    have hn40 : n ≤ 40 := by have := HC.out.1.len; have := HN.out; omega
    clear hc hv hB1 hB2 HA
    go_wp2_with fail
    go_loopw [12, 13] (fun o p wr => ∃ (k : Nat) (m : List Giv) (ov : Value), ov = o ∧ k ≤ n ∧ p = .int .i64 k ∧ Hid (revL f t (l.take k) = m) ∧ m.length ≤ k ∧ wr.ownsRow w2.heap.size 29 3 ov m.length (flatG m) ∧ Below w2.heap.size w2 wr) (fun _ p _ => n - (intOf p).toNat)
    case atStart => exact ⟨0, [], _, rfl, by omega, rfl, rfl, by simp, World.ownsRow_nil _ _ _ _, Below.refl _ _⟩
    case round =>
      obtain ⟨k, m, ov, rfl, hk, rfl, HM, hmk, hown, hB⟩ := hrel
      by_cases hlt : k < n
      · have hkl : k < l.length := by rw [HN.out]; exact hlt
        obtain ⟨b, off, rfl, hs⟩ : ∃ b off, a = some ⟨b, off, none⟩ ∧ Givs wr b off n (nthV l) := by
          rcases HA2.out with h0 | ⟨b, off, e, h⟩
          · omega
          · exact ⟨b, off, e, h.below hB⟩
        have c0 := hs.c0 k hlt
        have c1 := hs.c1 k hlt
        have hltI : (k : Int) < (n : Int) := by omega
        have HT : Hid (revL f t (l.take (k + 1)) = if isOf f t (nthV l k) = true then m else gkeepL m (nthV l k)) := by
          show _ = _
          rw [gtake_snoc l hkl, revL_snoc, HM.out]
        have hmem := HC.out.1.mem (nthV l k) (by rw [nthV_get hkl]; exact List.getElem_mem hkl)
        have hu8 := HC.out.1.u1
        have hgm : GOk users m := by rw [← HM.out]; exact ((HC.out.1.take k).rev f t).ok
        have HS := Hid.mkI hs
        have HL := Hid.mkI hlt
        obtain ⟨g, hg⟩ : ∃ g, nthV l k = g := ⟨_, rfl⟩
        have HG := Hid.mkI hg
        rw [hg] at c0 c1 HT hmem
        clear hg hkl hs
        obtain ⟨fr, to, tm⟩ := g
        by_cases q : isOf f t ⟨fr, to, tm⟩ = true
        · have q' : fr = f ∧ to = t := of_decide_eq_true q
          have b1 : (fr == f) = true := by simp [q'.1]
          have b2 : (to == t) = true := by simp [q'.2]
          have HT2 : Hid (revL f t (l.take (k + 1)) = m) := by show _ = _; rw [HT.out, if_pos q]
          clear q q' HT HM hmem hgm
          go_wp2
          go_roundw
          case rel => exact ⟨k + 1, m, _, rfl, by omega, by go_num, HT2, by omega, hown, hB⟩
          case measure => simp [intOf]; omega
        · have HT2 : Hid (revL f t (l.take (k + 1)) = gkeepL m ⟨fr, to, tm⟩) := by show _ = _; rw [HT.out, if_neg q]
          have hbnd := bndG (n := m.length) (k := 40) (by omega)
          have q' : ¬ (fr = f ∧ to = t) := fun h => q (decide_eq_true h)
          have hb : (fr == f) = false ∨ ((fr == f) = true ∧ (to == t) = false) := by
            by_cases e1 : fr = f
            · exact .inr ⟨by simp [e1], by simp; exact fun h => q' ⟨e1, h⟩⟩
            · exact .inl (by simp [e1])
          obtain ⟨am, cm, hov, hat⟩ := givs_of hown
          have tH := holds_any users am cm m wr hat
          rw [(givC_iff _ _).2 hgm, errV_zero] at tH
          have hset := hgm.set_lt
          have hV : hasV users m = setL m := by rw [hasV, if_pos ((givC_iff _ _).2 hgm)]
          rw [hV] at tH
          have HK : Hid (gkeepL m ⟨fr, to, tm⟩ = if (setL m).testBit fr.toNat = true then m ++ [⟨fr, to, tm⟩] else m) := rfl
          have m0 := hmem.1
          have m1 := hmem.2.1
          simp only at m0 m1
          obtain ⟨x, hx⟩ : ∃ x, setL m = x := ⟨_, rfl⟩
          rw [hx] at tH hset HK
          clear q q' HT HM hmem hgm hat hx hV
          obtain ⟨fn, rfl⟩ : ∃ y : Nat, fr = (y : Int) := ⟨fr.toNat, by omega⟩
          have tB := fun W => bit_any x fn (by omega) (by omega) W
          rw [Int.toNat_natCast] at HK
          subst hov
          have hx0 : ¬ (x : Int) < 0 := by omega
          have hx1 : ¬ 255 < (x : Int) := by omega
          have done : ∀ (m' : List Giv) (b : Bool), x.testBit fn = b → (b = true → m' = m ++ [⟨(fn : Int), to, tm⟩]) → (b = false → m' = m) → Hid (revL f t (l.take (k + 1)) = m') := fun m' b h1 h2 h3 => by
            show _ = _
            rw [HT2.out, HK.out, h1]
            cases b
            · rw [if_neg (by simp), h3 rfl]
            · rw [if_pos rfl, h2 rfl]
          have HDn := Hid.mkI done
          clear done HT2 HK
          cases qb : x.testBit fn with
          | true =>
            have HD := HDn.out (m ++ [⟨(fn : Int), to, tm⟩]) true qb (fun _ => rfl) (fun h => by simp at h)
            rw [qb] at tB
            clear qb HDn
            rcases hb with b1 | ⟨b1, b2⟩
            all_goals
              go_wp2_with fail
              refine tH.mono ?_
              clear tH
              rintro e w4 ⟨rfl, hB4⟩
              have hB5 := hB.trans (hB4.mono hB.size)
              have hown4 := gOwn_stays hown hB4
              have hs4 := HS.out.below hB4
              have d0 := hs4.c0 k HL.out
              have d1 := hs4.c1 k HL.out
              have d2 := hs4.c2 k HL.out
              rw [HG.out] at d0 d1 d2
              have hz5 := sizeG hB5
              clear hs4 hown hB hB4 c0 c1
              go_wp2_with (first | (go_at_call 7; refine (tB _).mono ?_; clear tB; rintro e w' ⟨rfl, hw⟩; obtain rfl := hw.symm) | (at_builtin; refine wpList_append_own _ rfl _ _ 22 rfl w2.heap.size 29 i0 (.agg #[.int .i64 0, .int .i64 0, .int .i64 0]) 3 24 Try.underlying22 hi0 hz0 hz1 hz2 rfl (by decide) _ m.length _ rfl (hown4.alloc _) ⟨_, 0, none⟩ 1 1 (givR ⟨(fn : Int), to, tm⟩) rfl rfl (cell_three_new _ ⟨(fn : Int), to, tm⟩ _) (givR_one _) hbnd.1 hbnd.2 (hz5 _) ?_; intro v2 w5 hown5 hg5 _; have hB6 := grown_giv hB5 hown4 hg5))
              go_roundw
              case rel => exact ⟨k + 1, _, _, rfl, by omega, by go_num, HD, by simp; omega, owng_snoc rfl hown5, hB6⟩
              case measure => simp [intOf]; omega
          | false =>
            have HD := HDn.out m false qb (fun h => by simp at h) (fun _ => rfl)
            rw [qb] at tB
            clear qb HDn
            rcases hb with b1 | ⟨b1, b2⟩
            all_goals
              go_wp2_with fail
              refine tH.mono ?_
              clear tH
              rintro e w4 ⟨rfl, hB4⟩
              have hB5 := hB.trans (hB4.mono hB.size)
              have hown4 := gOwn_stays hown hB4
              have hs4 := HS.out.below hB4
              have d0 := hs4.c0 k HL.out
              have d1 := hs4.c1 k HL.out
              have d2 := hs4.c2 k HL.out
              rw [HG.out] at d0 d1 d2
              clear hs4 hown hB hB4 c0 c1
              go_wp2_with (go_at_call 7; refine (tB _).mono ?_; clear tB; rintro e w' ⟨rfl, hw⟩; obtain rfl := hw.symm)
              go_roundw
              case rel => exact ⟨k + 1, m, _, rfl, by omega, by go_num, HD, by omega, hown4, hB5⟩
              case measure => simp [intOf]; omega
      · obtain rfl : k = n := by omega
        have HE : Hid (m = revL f t l) := by show _ = _; rw [← HM.out, ← HN.out, List.take_length]
        have hv := givs_of hown
        rw [HE.out] at hv
        have hx : GivV wr v (revL f t l) := HV.out.below hB
        have tE := ggivs_same v ov (revL f t l) (by rw [← HE.out]; omega) wr hx hv
        have hBw := hB3.trans (hB.mono hB3.size)
        clear hv hx HV HM hown
        go_wp2_with fail
        refine tE.mono ?_
        clear tE
        rintro e w9 ⟨rfl, q, hq⟩
        have hB9 : Below w.heap.size w w9 := by rw [hq]; exact below_drawn hBw q
        clear hq
        go_wp2_with fail
        go_ret
        exact ⟨rfl, hB9⟩
end Go.Proofs.Ytoecomgiggalkaa
