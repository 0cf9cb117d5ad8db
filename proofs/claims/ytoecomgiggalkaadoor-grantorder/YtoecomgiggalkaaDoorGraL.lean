/- The walk of the law GrantLeft. -/
import Derived.WalkKit
import Derived.LoopTactic
import Derived.Deep.QuietTactic
import Derived.BigQuiet
import Derived.Test.YtoecomgiggalkaaDoorGraF
import Derived.Test.YtoecomgiggalkaaDoorAs
namespace Go.Proofs.YtoecomgiggalkaaDoor
open Go.RowKit
set_option maxRecDepth 100000

theorem eqlGiv {fr to tm fr' to' tm' : Int} (h : ((fr' == fr) && ((to' == to) && (tm' == tm))) = false) (w : World) : (binOp .eql 44 (.agg #[.int .i64 fr', .int .i64 to', .int .i64 tm']) (.agg #[.int .i64 fr, .int .i64 to, .int .i64 tm])).run Tryd.prog w = .ok (.bool false) w := by
  rw [← h]
  simp only [go_sem]
  go_simp
  by_cases h1 : fr' = fr
  · by_cases h2 : to' = to
    · by_cases h3 : tm' = tm
      · exfalso; simp [h1, h2, h3] at h
      · simp [h1, h2, h3]
    · simp [h1, h2]
  · simp [h1]
theorem rev_none5 {users : Int} {l : List Giv} {f t : Int} (h : revC users l f t = 0) : revC users (revL f t l) f t = 5 := by
  obtain ⟨hok, h1, h2, h3, h4, _⟩ := revC_ok h
  rw [revC, if_pos ((givC_iff _ _).2 (hok.rev f t).ok), if_neg (by omega), if_pos (rev_none f t l)]
theorem sub_rev {users : Int} {l : List Giv} (h : GOk users l) (f t : Int) : subB (setL (revL f t l)) (setL l) = true := (subB_iff _ _).2 (h.rev f t).sub
open Classical in
set_option maxHeartbeats 4000000 in
theorem grantLeft_any (users : Int) (a : Option Addr) (cap : Nat) (l : List Giv) (f t : Int) (w : World) (h : AtGivs w a l.length (nthV l)) (hE : ErrT w) :
    Calls Tryd.prog 4 #[.int .i64 users, .slice a l.length cap, .int .i64 f, .int .i64 t] w fun e w' => e = .returned (.bool true) ∧ Below w.heap.size w w' := by
  have t0 := grantFact_any w
  have t1 := fun w1 (hB : Below w.heap.size w w1) => revoke_any users a cap l f t w1 (h.below hB)
  have tH := fun w1 (hB : Below w.heap.size w w1) => holds_any users a cap l w1 (h.below hB)
  have HA := Hid.mkI h
  have HET := Hid.mkI (And.intro hE (old_of_cell hE))
  obtain ⟨n, hn⟩ : ∃ n, l.length = n := ⟨_, rfl⟩
  have HN := Hid.mkI hn
  rw [hn] at t1 tH ⊢
  clear h hn hE
  go_enter Tryd.func4, Tryd.ntmps4
  go_wp2_with fail
  refine t0.mono ?_
  clear t0
  rintro e w1 ⟨rfl, hB1⟩
  have t1 := t1 w1 hB1
  go_wp2_with fail
  refine t1.mono ?_
  clear t1
  rintro e w2 ⟨v, rfl, ⟨hc, rfl⟩ | ⟨hc, hv⟩, hB2⟩
  · have hB3 := hB1.trans (hB2.mono hB1.size)
    rw [gerrV_ne hc]
    clear hc tH
    go_wp2_with fail
    go_ret
    exact ⟨rfl, hB3⟩
  · have hB3 := hB1.trans (hB2.mono hB1.size)
    rw [hc, errV_zero]
    have HC := Hid.mkI (And.intro hc (revC_ok hc))
    obtain ⟨xa, xc, rfl, hx⟩ := hv
    obtain ⟨hok, _, _, _, _, hne⟩ := revC_ok hc
    have hrv := hok.rev f t
    have hMn := rev_lt hne
    have hn40 := hok.len
    rw [HN.out] at hn40 hMn
    have HMeet : Hid (∀ i, i < n → (revL f t (l.take (i + 1))).length = (if (revL f t (l.take i)).length < (revL f t l).length ∧ nthV (revL f t l) (revL f t (l.take i)).length = nthV l i then (revL f t (l.take i)).length + 1 else (revL f t (l.take i)).length)) := fun i hi => rev_meet hok f t (by rw [HN.out]; exact hi)
    have HAll : Hid ((revL f t (l.take n)).length = (revL f t l).length) := by show _ = _; rw [← HN.out, List.take_length]
    have tB := fun w1 (hB : Below w2.heap.size w2 w1) => holds_any users xa xc (revL f t l) w1 (hx.below hB)
    have tC := fun w1 (hB : Below w2.heap.size w2 w1) => gcheck_any users xa xc (revL f t l) w1 (hx.below hB)
    have tR := fun w1 (hB : Below w2.heap.size w2 w1) => revoke_any users xa xc (revL f t l) f t w1 (hx.below hB)
    have z0 : givC users l = 0 := (givC_iff _ _).2 hok
    have z1 : givC users (revL f t l) = 0 := (givC_iff _ _).2 hrv.ok
    have v0 : hasV users l = setL l := by rw [hasV, if_pos z0]
    have v1 : hasV users (revL f t l) = setL (revL f t l) := by rw [hasV, if_pos z1]
    rw [z0, v0, errV_zero] at tH
    rw [z1, v1, errV_zero] at tB
    rw [z1, errV_zero] at tC
    rw [rev_none5 hc, gerrV_ne (by decide)] at tR
    have b1 := hok.set_lt
    have b2 := hrv.ok.set_lt
    have b3 := setL_pos (revL f t l)
    have tW := fun W => within_any (setL (revL f t l)) (setL l) (by omega) (by omega) W
    rw [sub_rev hok f t] at tW
    have HX := Hid.mkI hx
    obtain ⟨cnt, hcnt⟩ : ∃ c : Nat → Nat, ∀ i, (revL f t (l.take i)).length = c i := ⟨_, fun _ => rfl⟩
    have hc0 : cnt 0 = 0 := by rw [← hcnt]; rfl
    have HMeet : Hid (∀ i, i < n → cnt (i + 1) = (if cnt i < (revL f t l).length ∧ nthV (revL f t l) (cnt i) = nthV l i then cnt i + 1 else cnt i)) := fun i hi => by
      have := HMeet.out i hi
      rw [hcnt, hcnt] at this
      exact this
    have HAll : Hid (cnt n = (revL f t l).length) := by have := HAll.out; rw [hcnt] at this; exact this
    obtain ⟨m, hm⟩ : ∃ m, revL f t l = m := ⟨_, rfl⟩
    rw [hm] at tB tC tR tW HMeet HAll HX hMn b2 b3 ⊢
    obtain ⟨M, hM⟩ : ∃ M, m.length = M := ⟨_, rfl⟩
    rw [hM] at tB tC tR HMeet HAll HX hMn ⊢
    obtain ⟨s1, hs1⟩ : ∃ s, setL l = s := ⟨_, rfl⟩
    obtain ⟨s2, hs2⟩ : ∃ s, setL m = s := ⟨_, rfl⟩
    rw [hs1] at tH tW b1
    rw [hs2] at tB tW b2 b3
    clear hc hok hne hrv z0 z1 v0 v1 hx hcnt hs1 hs2 hM hm
    go_wp2_with fail
    go_loopw [12, 13] (fun o p wr => ∃ (i c : Nat), i ≤ n ∧ p = .int .i64 i ∧ o = .int .i64 c ∧ c ≤ i ∧ Hid (cnt i = c) ∧ Below w2.heap.size w2 wr) (fun _ p _ => n - (intOf p).toNat)
    case atStart => exact ⟨0, 0, by omega, rfl, rfl, by omega, hc0, Below.refl _ _⟩
    case round =>
      obtain ⟨i, c, hi, rfl, rfl, hci, HK, hB⟩ := hrel
      by_cases hlt : i < n
      · obtain ⟨b, off, rfl, hs⟩ : ∃ b off, a = some ⟨b, off, none⟩ ∧ Givs wr b off n (nthV l) := by
          rcases HA.out with h0 | ⟨b, off, e, h⟩
          · have := HN.out; omega
          · rw [HN.out] at h; exact ⟨b, off, e, (h.below hB3).below hB⟩
        have c0 := hs.c0 i hlt
        have c1 := hs.c1 i hlt
        have c2 := hs.c2 i hlt
        have hltI : (i : Int) < (n : Int) := by omega
        have HD := Hid.mkI (HMeet.out i hlt)
        rw [HK.out] at HD
        by_cases hcm : c < M
        · obtain ⟨b', off', rfl, hs'⟩ : ∃ b off, xa = some ⟨b, off, none⟩ ∧ Givs wr b off M (nthV m) := by
            rcases HX.out with h0 | ⟨b, off, e, h⟩
            · omega
            · exact ⟨b, off, e, h.below hB⟩
          have d0 := hs'.c0 c hcm
          have d1 := hs'.c1 c hcm
          have d2 := hs'.c2 c hcm
          have hcmI : (c : Int) < (M : Int) := by omega
          clear hs hs'
          obtain ⟨g, hg⟩ : ∃ g, nthV l i = g := ⟨_, rfl⟩
          obtain ⟨g', hg'⟩ : ∃ g, nthV m c = g := ⟨_, rfl⟩
          rw [hg] at c0 c1 c2 HD
          rw [hg'] at d0 d1 d2 HD
          clear hg hg'
          by_cases q : g' = g
          · have HD2 : Hid (cnt (i + 1) = c + 1) := by show _ = _; rw [HD.out, if_pos ⟨hcm, q⟩]
            subst q
            obtain ⟨fr, to, tm⟩ := g'
            clear HD
            go_wp2
            go_quiet (fail)
            go_wp2
            go_roundw
            case rel => exact ⟨i + 1, c + 1, by omega, by go_num, by go_num, by omega, HD2, below_drawn hB _⟩
            case measure => simp [intOf]; omega
          · have HD2 : Hid (cnt (i + 1) = c) := by show _ = _; rw [HD.out, if_neg (fun h => q h.2)]
            obtain ⟨fr, to, tm⟩ := g
            obtain ⟨fr', to', tm'⟩ := g'
            simp only at c0 c1 c2 d0 d1 d2
            have hq : ((fr' == fr) && ((to' == to) && (tm' == tm))) = false := by
              rw [Bool.eq_false_iff]
              intro h
              simp only [Bool.and_eq_true, beq_iff_eq] at h
              exact q (by rw [h.1, h.2.1, h.2.2])
            have hq2 := eqlGiv hq
            clear HD q hq
            go_wp2
            go_quiet (fail)
            go_wp2
            go_roundw
            case rel => exact ⟨i + 1, c, by omega, by go_num, rfl, by omega, HD2, below_drawn hB _⟩
            case measure => simp [intOf]; omega
        · have hcmI : (M : Int) ≤ (c : Int) := by omega
          have HD2 : Hid (cnt (i + 1) = c) := by show _ = _; rw [HD.out, if_neg (fun h => hcm h.1)]
          clear hs
          obtain ⟨g, hg⟩ : ∃ g, nthV l i = g := ⟨_, rfl⟩
          rw [hg] at c0 c1 c2
          clear hg HD
          go_wp2
          go_quiet (fail)
          go_wp2
          go_roundw
          case rel => exact ⟨i + 1, c, by omega, by go_num, rfl, by omega, HD2, below_drawn hB _⟩
          case measure => simp [intOf]; omega
      · obtain rfl : i = n := by omega
        have hcM : c = M := by rw [← HK.out]; exact HAll.out
        subst hcM
        have tH := tH wr (hB3.trans (hB.mono hB3.size))
        clear HK HMeet HAll
        go_wp2_with fail
        refine tH.mono ?_
        clear tH
        rintro e w3 ⟨rfl, hB4⟩
        have hB5 := hB.trans (hB4.mono hB.size)
        have tB := tB w3 hB5
        go_wp2_with fail
        refine tB.mono ?_
        clear tB
        rintro e w4 ⟨rfl, hB6⟩
        have hB7 := hB5.trans (hB6.mono hB5.size)
        have tR := tR w4 hB7
        go_wp2_with fail
        refine tR.mono ?_
        clear tR
        rintro e w5 ⟨v5, rfl, _, hB8⟩
        have hB9 := hB7.trans (hB8.mono hB7.size)
        have tC := tC w5 hB9
        have hMI : (c : Int) < (i : Int) := by omega
        have hs2a : (1 : Int) ≤ (s2 : Int) := by omega
        have hs2b : (s2 : Int) ≤ 255 := by omega
        clear hB hB4 hB5 hB6 hB7 hB8
        go_wp2_with fail
        refine tC.mono ?_
        clear tC
        rintro e w6 ⟨rfl, hB10⟩
        have hB11 := hB9.trans (hB10.mono hB9.size)
        have hB12 := hB3.trans (hB11.mono hB3.size)
        have tE := error_err 5 5 w6 (HET.out.1.below hB12 HET.out.2)
        go_wp2_with (go_at_call 19; refine (tW _).mono ?_; clear tW; rintro e w' ⟨rfl, hw⟩; obtain rfl := hw.symm)
        refine tE.mono ?_
        clear tE
        rintro e w7 ⟨rfl, hB13⟩
        have hB14 := hB12.trans (hB13.mono hB12.size)
        go_wp2_with fail
        go_ret
        exact ⟨rfl, hB14⟩
end Go.Proofs.YtoecomgiggalkaaDoor
