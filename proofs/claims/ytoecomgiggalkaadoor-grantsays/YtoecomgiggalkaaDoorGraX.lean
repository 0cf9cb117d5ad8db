/- What the document leaves when grants are revoked (Revoked). -/
import Derived.WalkKit
import Derived.LoopTactic
import Derived.OwnWalk
import Derived.Deep.QuietTactic
import Derived.BigQuiet
import Derived.Maps.AppendAt
import Derived.Test.YtoecomgiggalkaaDoorGraB
import Derived.Test.YtoecomgiggalkaaDoorGraW
namespace Go.Proofs.YtoecomgiggalkaaDoor
open Go.RowKit
set_option maxRecDepth 100000

theorem any_snoc (f t : Int) (l : List Giv) {k : Nat} (h : k < l.length) : (l.take (k + 1)).any (isOf f t) = ((l.take k).any (isOf f t) || isOf f t (nthV l k)) := by
  rw [gtake_snoc l h, List.any_append]
  simp
theorem any_out (f t : Int) (l : List Giv) : l.any (isOf f t) = false ↔ (outL f t l).length = l.length := by
  rw [outL_len_eq, List.any_eq_false]
  constructor
  · intro h g hg; have := h g hg; simpa using this
  · intro h g hg; rw [h g hg]; simp
theorem gowns_drawn {w : World} {B e k n : Nat} {v : Value} {xs : List Value} (h : w.ownsRow B e k v n xs) (q : Nat) : (w.drewN q).ownsRow B e k v n xs := gOwn_stays h (below_drawn (Below.refl _ w) q)
set_option maxHeartbeats 4000000 in
theorem refRevoked_any (users : Int) (a : Option Addr) (cap : Nat) (l : List Giv) (hok : GOk users l) (f t : Int) (w : World) (h : AtGivs w a l.length (nthV l)) :
    Calls Tryd.prog 15 #[.slice a l.length cap, .int .i64 f, .int .i64 t] w fun e w' => ∃ v, e = .returned (.tuple #[v, .bool (l.any (isOf f t))]) ∧ GivV w' v (revL f t l) ∧ Below w.heap.size w w' := by
  obtain ⟨i0, hi0, hz0, hz1, hz2⟩ := info_parts infoGiv
  have hlen := hok.len
  have HO := Hid.mkI hok
  have HA := Hid.mkI h
  obtain ⟨n, hn⟩ : ∃ n, l.length = n := ⟨_, rfl⟩
  have HN := Hid.mkI hn
  rw [hn] at hlen ⊢
  clear h hn hok
  go_enter Tryd.func15, Tryd.ntmps15
  go_wp2
  go_loopw [8, 9, 10] (fun o fv p wr => ∃ (k : Nat) (m : List Giv) (ov : Value) (fb : Bool), ov = o ∧ k ≤ n ∧ p = .int .i64 k ∧ fv = .bool fb ∧ Hid ((l.take k).any (isOf f t) = fb) ∧ Hid (revL f t (l.take k) = m) ∧ m.length ≤ k ∧ wr.ownsRow w.heap.size 44 3 ov m.length (flatG m) ∧ Below w.heap.size w wr) (fun _ _ p _ => n - (intOf p).toNat)
  case atStart => exact ⟨0, [], _, false, rfl, by omega, rfl, rfl, rfl, rfl, by simp, World.ownsRow_nil _ _ _ _, Below.refl _ _⟩
  case round =>
    obtain ⟨k, m, ov, fb, rfl, hk, rfl, rfl, HF, HM, hmk, hown, hB⟩ := hrel
    by_cases hlt : k < n
    · have hkl : k < l.length := by rw [HN.out]; exact hlt
      obtain ⟨b, off, rfl, hs⟩ : ∃ b off, a = some ⟨b, off, none⟩ ∧ Givs wr b off n (nthV l) := by
        rcases HA.out with h0 | ⟨b, off, e, h⟩
        · have := HN.out; omega
        · rw [HN.out] at h; exact ⟨b, off, e, h.below hB⟩
      have c0 := hs.c0 k hlt
      have c1 := hs.c1 k hlt
      have hltI : (k : Int) < (n : Int) := by omega
      have HT : Hid (revL f t (l.take (k + 1)) = if isOf f t (nthV l k) = true then m else gkeepL m (nthV l k)) := by
        show _ = _
        rw [gtake_snoc l hkl, revL_snoc, HM.out]
      have HFn : Hid ((l.take (k + 1)).any (isOf f t) = (fb || isOf f t (nthV l k))) := by
        show _ = _
        rw [any_snoc f t l hkl, HF.out]
      have hmem := HO.out.mem (nthV l k) (by rw [nthV_get hkl]; exact List.getElem_mem hkl)
      have hu8 := HO.out.u1
      have hgm : GOk users m := by rw [← HM.out]; exact ((HO.out.take k).rev f t).ok
      have HS := Hid.mkI hs
      have HL := Hid.mkI hlt
      obtain ⟨g, hg⟩ : ∃ g, nthV l k = g := ⟨_, rfl⟩
      have HG := Hid.mkI hg
      rw [hg] at c0 c1 HT hmem HFn
      clear hg hkl hs
      obtain ⟨fr, to, tm⟩ := g
      by_cases q : isOf f t ⟨fr, to, tm⟩ = true
      · have q' : fr = f ∧ to = t := of_decide_eq_true q
        have b1 : (fr == f) = true := by simp [q'.1]
        have b2 : (to == t) = true := by simp [q'.2]
        have HT2 : Hid (revL f t (l.take (k + 1)) = m) := by show _ = _; rw [HT.out, if_pos q]
        have HF2 : Hid ((l.take (k + 1)).any (isOf f t) = true) := by show _ = _; rw [HFn.out, q, Bool.or_true]
        clear q q' HT HM hmem hgm HF HFn
        go_wp2
        go_roundw
        case rel => exact ⟨k + 1, m, _, true, rfl, by omega, by go_num, rfl, HF2, HT2, by omega, hown, hB⟩
        case measure => simp [intOf]; omega
      · have HT2 : Hid (revL f t (l.take (k + 1)) = gkeepL m ⟨fr, to, tm⟩) := by show _ = _; rw [HT.out, if_neg q]
        have HF2 : Hid ((l.take (k + 1)).any (isOf f t) = fb) := by show _ = _; rw [HFn.out, Bool.eq_false_iff.2 q, Bool.or_false]
        have hbnd := bndG (n := m.length) (k := 40) (by omega)
        have q' : ¬ (fr = f ∧ to = t) := fun h => q (decide_eq_true h)
        have hb : (fr == f) = false ∨ ((fr == f) = true ∧ (to == t) = false) := by
          by_cases e1 : fr = f
          · exact .inr ⟨by simp [e1], by simp; exact fun h => q' ⟨e1, h⟩⟩
          · exact .inl (by simp [e1])
        obtain ⟨am, cm, hov, hat⟩ := givs_of hown
        have tG := fun q => granted_any am m.length cm m rfl (by omega) (fun g hg => by have := hgm.mem g hg; omega) (wr.drewN q) (hat.drawn q)
        have hset := hgm.set_lt
        have HK : Hid (gkeepL m ⟨fr, to, tm⟩ = if (setL m).testBit fr.toNat = true then m ++ [⟨fr, to, tm⟩] else m) := rfl
        have m0 := hmem.1
        have m1 := hmem.2.1
        simp only at m0 m1
        obtain ⟨x, hx⟩ : ∃ x, setL m = x := ⟨_, rfl⟩
        rw [hx] at tG hset HK
        clear q q' HT HM hmem hgm hat hx HF HFn
        obtain ⟨fn, rfl⟩ : ∃ y : Nat, fr = (y : Int) := ⟨fr.toNat, by omega⟩
        have tB := fun W => bit_any x fn (by omega) (by omega) W
        rw [Int.toNat_natCast] at HK
        subst hov
        have done : ∀ (m' : List Giv) (b : Bool), x.testBit fn = b → (b = true → m' = m ++ [⟨(fn : Int), to, tm⟩]) → (b = false → m' = m) → Hid (revL f t (l.take (k + 1)) = m') := fun m' b h1 h2 h3 => by
          show _ = _
          rw [HT2.out, HK.out, h1]
          cases b
          · rw [if_neg (by simp), h3 rfl]
          · rw [if_pos rfl, h2 rfl]
        have HDn := Hid.mkI done
        clear done HT2 HK
        cases qb : x.testBit fn with
        | true =>
          have HD := HDn.out (m ++ [⟨(fn : Int), to, tm⟩]) true qb (fun _ => rfl) (fun h => by simp at h)
          rw [qb] at tB
          clear qb HDn
          rcases hb with b1 | ⟨b1, b2⟩
          all_goals
            go_wp2_with fail
            go_quiet (first | (go_at_call 10; exact Calls.quiet_of_same (tG _)) | (go_at_call 20; exact Calls.quiet_of_same (tB _)))
            have hB5 := below_drawn hB nq
            have hown4 := gowns_drawn hown nq
            have hs4 := HS.out.below (below_drawn (Below.refl _ wr) nq)
            obtain ⟨w4, hw4⟩ : ∃ W, wr.drewN nq = W := ⟨_, rfl⟩
            rw [hw4] at hB5 hown4 hs4 ⊢
            have d0 := hs4.c0 k HL.out
            have d1 := hs4.c1 k HL.out
            have d2 := hs4.c2 k HL.out
            rw [HG.out] at d0 d1 d2
            have hz5 := sizeG hB5
            clear hs4 hown hB c0 c1 tG tB hw4
            go_wp2_with (at_builtin; refine wpList_append_own _ rfl _ _ 22 rfl w.heap.size 44 i0 (.agg #[.int .i64 0, .int .i64 0, .int .i64 0]) 3 24 Tryd.underlying22 hi0 hz0 hz1 hz2 rfl (by decide) _ m.length _ rfl (hown4.alloc _) ⟨_, 0, none⟩ 1 1 (givR ⟨(fn : Int), to, tm⟩) rfl rfl (cell_three_new _ ⟨(fn : Int), to, tm⟩ _) (givR_one _) hbnd.1 hbnd.2 (hz5 _) ?_; intro v2 w5 hown5 hg5 _; have hB6 := grown_giv hB5 hown4 hg5)
            go_roundw
            case rel => exact ⟨k + 1, _, _, fb, rfl, by omega, by go_num, rfl, HF2, HD, by simp; omega, owng_snoc rfl hown5, hB6⟩
            case measure => simp [intOf]; omega
        | false =>
          have HD := HDn.out m false qb (fun h => by simp at h) (fun _ => rfl)
          rw [qb] at tB
          clear qb HDn
          rcases hb with b1 | ⟨b1, b2⟩
          all_goals
            go_wp2_with fail
            go_quiet (first | (go_at_call 10; exact Calls.quiet_of_same (tG _)) | (go_at_call 20; exact Calls.quiet_of_same (tB _)))
            have hB5 := below_drawn hB nq
            have hown4 := gowns_drawn hown nq
            go_wp2_with fail
            go_roundw
            case rel => exact ⟨k + 1, m, _, fb, rfl, by omega, by go_num, rfl, HF2, HD, by omega, hown4, hB5⟩
            case measure => simp [intOf]; omega
    · obtain rfl : k = n := by omega
      have HE : Hid (m = revL f t l) := by show _ = _; rw [← HM.out, ← HN.out, List.take_length]
      have HFE : Hid (l.any (isOf f t) = fb) := by have := HF.out; rw [← HN.out, List.take_length] at this; exact this
      have hv := givs_of hown
      rw [HE.out] at hv
      have HV := Hid.mkI hv
      clear hv hown HM HF
      go_wp2_with fail
      go_ret2
      exact ⟨_, by rw [HFE.out] <;> rfl, HV.out, hB⟩
end Go.Proofs.YtoecomgiggalkaaDoor
