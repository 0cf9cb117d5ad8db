/- What the document tells of grants: who has the right (Granted), what is wrong with them (Givens). -/
import Derived.WalkKit
import Derived.LoopTactic
import Derived.Deep.QuietTactic
import Derived.BigQuiet
import Derived.Test.YtoecomgiggalkaaDoorGraG
import Derived.Test.YtoecomgiggalkaaDoorGraM
import Derived.Test.YtoecomgiggalkaaDoorWith
import Derived.Test.YtoecomgiggalkaaDoorRefSet
namespace Go.Proofs.YtoecomgiggalkaaDoor
open Go.RowKit
set_option maxRecDepth 100000

theorem AtGivs.drawn {w : World} {a : Option Addr} {n : Nat} {S : Nat → Giv} (h : AtGivs w a n S) (k : Nat) : AtGivs (w.drewN k) a n S := h.below (below_drawn (Below.refl _ _) k)
theorem granted_any (a : Option Addr) (n cap : Nat) (l : List Giv) (hn : l.length = n) (hn40 : n ≤ 40) (hr : ∀ g ∈ l, 0 ≤ g.to ∧ g.to < 8) (w : World) (h : AtGivs w a n (nthV l)) :
    Calls Tryd.prog 10 #[.slice a n cap] w fun e w' => e = .returned (.int .i64 (setL l : Nat)) ∧ w' = w := by
  have HR := Hid.mkI hr
  have HN := Hid.mkI hn
  clear hr hn
  go_enter Tryd.func10, Tryd.ntmps10
  go_wp2
  go_loop [3, 4] (fun s p => ∃ (k x : Nat), k ≤ n ∧ p = .int .i64 k ∧ s = .int .i64 x ∧ x < 256 ∧ Hid (setL (l.take k) = x)) (fun _ p => n - (intOf p).toNat)
  case atStart => exact ⟨0, 1, by omega, rfl, rfl, by omega, rfl⟩
  case round =>
    obtain ⟨k, x, hk, rfl, rfl, hx, HX⟩ := hrel
    by_cases hlt : k < n
    · obtain ⟨b, off, rfl, hs⟩ : ∃ b off, a = some ⟨b, off, none⟩ ∧ Givs w b off n (nthV l) := by
        rcases h with h0 | h
        · omega
        · exact h
      have hkl : k < l.length := by rw [HN.out]; exact hlt
      have hltI : (k : Int) < (n : Int) := by omega
      have c1 := hs.c1 k hlt
      have hm := HR.out (nthV l k) (by rw [nthV_get hkl]; exact List.getElem_mem hkl)
      have HT : Hid (setL (l.take (k + 1)) = x ||| 2 ^ (nthV l k).to.toNat) := by show _ = _; rw [gtake_snoc l hkl, setL_snoc, HX.out]
      have hz : setL (l.take (k + 1)) < 256 := setL_lt fun g hg => HR.out g (List.mem_of_mem_take hg)
      rw [HT.out] at hz
      obtain ⟨to, hto⟩ : ∃ y, (nthV l k).to = y := ⟨_, rfl⟩
      rw [hto] at c1 hm HT hz
      obtain ⟨tn, rfl⟩ : ∃ t : Nat, to = (t : Int) := ⟨to.toNat, by omega⟩
      rw [Int.toNat_natCast] at HT hz
      have t := with_any x tn (by omega) (by omega) w
      obtain ⟨z, hze⟩ : ∃ z, x ||| 2 ^ tn = z := ⟨_, rfl⟩
      rw [hze] at t HT hz
      clear hs h hkl hm hto hze HX
      go_wp2_with (go_at_call 23; refine t.mono ?_; clear t; rintro e w' ⟨rfl, hw⟩; obtain rfl := hw.symm)
      go_round
      case rel => exact ⟨k + 1, z, by omega, by go_num, rfl, hz, HT⟩
      case measure => simp [intOf]; omega
    · obtain rfl : k = n := by omega
      have HE : Hid (setL l = x) := by show _ = _; rw [← HX.out, ← HN.out, List.take_length]
      go_wp2
      go_ret
      exact ⟨by rw [HE.out]; rfl, rfl⟩
theorem inQ_yes {x a b : Int} (h : a ≤ x ∧ x ≤ b) : inQ x a b = true := decide_eq_true h
theorem inQ_no {x a b : Int} (h : x < a ∨ b < x) : inQ x a b = false := decide_eq_false (by omega)
set_option maxHeartbeats 4000000 in
theorem refGivens_any (users : Int) (a : Option Addr) (cap : Nat) (l : List Giv) (hcap : l.length ≤ cap) (w : World) (h : AtGivs w a l.length (nthV l)) :
    Calls Tryd.prog 7 #[.int .i64 users, .slice a l.length cap] w fun e w' => e = .returned (.int .i64 (givC users l)) ∧ ∃ k, w' = w.drewN k := by
  have t1 := fun W => refIn_any users 1 8 W
  by_cases h1 : users < 1 ∨ 8 < users
  · have HC : Hid (givC users l = 1) := by show _ = _; rw [givC, if_pos h1]
    rw [inQ_no (by omega)] at t1
    clear h h1 hcap
    go_enter Tryd.func7, Tryd.ntmps7
    go_wp2_with (go_at_call 21; refine (t1 _).mono ?_; clear t1; rintro e w' ⟨rfl, hw⟩; obtain rfl := hw.symm)
    go_ret
    exact ⟨by rw [HC.out] <;> rfl, 0, rfl⟩
  · rw [inQ_yes (by omega)] at t1
    by_cases h3 : 40 < l.length
    · have HC : Hid (givC users l = 4) := by show _ = _; rw [givC, if_neg h1, if_pos h3]
      have h3' : (40 : Int) < (l.length : Int) := by omega
      clear h h1 hcap h3
      go_enter Tryd.func7, Tryd.ntmps7
      go_wp2_with (go_at_call 21; refine (t1 _).mono ?_; clear t1; rintro e w' ⟨rfl, hw⟩; obtain rfl := hw.symm)
      go_ret
      exact ⟨by rw [HC.out] <;> rfl, 0, rfl⟩
    · have HC : Hid (givC users l = fst0 (atC users l) l.length) := by show _ = _; rw [givC, if_neg h1, if_neg h3]
      have hu1 : 1 ≤ users := by omega
      have hu8 : users ≤ 8 := by omega
      have HA := Hid.mkI h
      obtain ⟨n, hn⟩ : ∃ n, l.length = n := ⟨_, rfl⟩
      have HN := Hid.mkI hn
      rw [hn] at h3 hcap ⊢
      have h3' : (n : Int) ≤ 40 := by omega
      clear h hn h1
      go_enter Tryd.func7, Tryd.ntmps7
      go_wp2_with (go_at_call 21; refine (t1 _).mono ?_; clear t1; rintro e w' ⟨rfl, hw⟩; obtain rfl := hw.symm)
      go_loopw [5] (fun p wr => ∃ (k q : Nat), k ≤ n ∧ p = .int .i64 k ∧ Hid (∀ j, j < k → atC users l j = 0) ∧ w.drewN q = wr) (fun p _ => n - (intOf p).toNat)
      case atStart => exact ⟨0, 0, by omega, rfl, fun j hj => absurd hj (by omega), rfl⟩
      case round =>
        obtain ⟨k, q, hk, rfl, HK, hwr⟩ := hrel
        by_cases hlt : k < n
        · have hA := HA.out.drawn q
          rw [HN.out, hwr] at hA
          obtain ⟨b, off, rfl, hs⟩ : ∃ b off, a = some ⟨b, off, none⟩ ∧ Givs wr b off n (nthV l) := by
            rcases hA with h0 | h
            · omega
            · exact h
          have hkl : k < l.length := by rw [HN.out]; exact hlt
          have c0 := hs.c0 k hlt
          have c1 := hs.c1 k hlt
          have c2 := hs.c2 k hlt
          have hltI : (k : Int) < (n : Int) := by omega
          have HD : Hid (atC users l k = gNextC users (nthV l k) (setL (l.take k)) (lastL (l.take k))) := rfl
          have HPrev : Hid (0 < k → lastL (l.take k) = (nthV l (k - 1)).tm) := fun h0 => lastL_take h0 (by omega)
          have HFirst : Hid (k = 0 → lastL (l.take k) = -1) := fun h0 => by rw [h0]; rfl
          have HTos : Hid (∀ g ∈ l.take k, 0 ≤ g.to ∧ g.to < 8) := fun g hg => by
            obtain ⟨i, hi, rfl⟩ := List.getElem_of_mem hg
            have hi' : i < k ∧ i < l.length := by rw [List.length_take] at hi; omega
            have hn := (gNextC_iff _ _ _ _).1 (HK.out i hi'.1)
            rw [nthV_get hi'.2] at hn
            have e : (l.take k)[i] = l[i] := List.getElem_take
            rw [e]
            exact ⟨hn.t0, by have := hn.t1; omega⟩
          have HS := Hid.mkI hs
          have HW := Hid.mkI hwr
          have stop : ∀ c, atC users l k = c → c ≠ 0 → givC users l = c := fun c e hc => by
            rw [HC.out, HN.out, fst0_hit HK.out hlt (by rw [e]; exact hc), e]
          have HSt := Hid.mkI stop
          obtain ⟨g, hg⟩ : ∃ g, nthV l k = g := ⟨_, rfl⟩
          rw [hg] at c0 c1 c2 HD
          obtain ⟨fr, to, tm⟩ := g
          have HG := Hid.mkI hg
          simp only at c0 c1 c2
          have i1 := fun W => refIn_any fr 0 (users - 1) W
          have i2 := fun W => refIn_any to 0 (users - 1) W
          have i3 := fun W => refIn_any tm 0 999999 W
          have hum : wrap64 (users - 1) = users - 1 := IntWalk.wrap64_in _ ⟨by omega, by omega⟩
          clear hwr hs hA hg stop
          by_cases b1 : fr < 0 ∨ users ≤ fr
          · have HE := Hid.mkI (HSt.out 1 (by rw [HD.out, gNextC, if_pos (by simp only; omega)]) (by decide))
            rw [inQ_no (by omega)] at i1
            clear b1 HD HSt i2 i3
            go_wp2_with (go_at_call 21; (with_reducible refine (i1 _).mono ?_); clear i1; rintro e w' ⟨rfl, hw⟩; obtain rfl := hw.symm)
            go_ret
            exact ⟨by rw [HE.out] <;> rfl, q, HW.out.symm⟩
          · rw [inQ_yes (by omega)] at i1
            by_cases b2 : to < 0 ∨ users ≤ to
            · have HE := Hid.mkI (HSt.out 1 (by rw [HD.out, gNextC, if_pos (by simp only; omega)]) (by decide))
              rw [inQ_no (by omega)] at i2
              clear b1 b2 HD HSt i3
              go_wp2_with (first | (go_at_call 21; (with_reducible refine (i1 _).mono ?_); clear i1; rintro e w' ⟨rfl, hw⟩; obtain rfl := hw.symm) | (go_at_call 21; (with_reducible refine (i2 _).mono ?_); clear i2; rintro e w' ⟨rfl, hw⟩; obtain rfl := hw.symm))
              go_ret
              exact ⟨by rw [HE.out] <;> rfl, q, HW.out.symm⟩
            · rw [inQ_yes (by omega)] at i2
              by_cases b3 : tm < 0 ∨ 999999 < tm
              · have HE := Hid.mkI (HSt.out 1 (by rw [HD.out, gNextC, if_pos (by simp only; omega)]) (by decide))
                rw [inQ_no (by omega)] at i3
                clear b1 b2 b3 HD HSt
                go_wp2_with (first | (go_at_call 21; (with_reducible refine (i1 _).mono ?_); clear i1; rintro e w' ⟨rfl, hw⟩; obtain rfl := hw.symm) | (go_at_call 21; (with_reducible refine (i2 _).mono ?_); clear i2; rintro e w' ⟨rfl, hw⟩; obtain rfl := hw.symm) | (go_at_call 21; (with_reducible refine (i3 _).mono ?_); clear i3; rintro e w' ⟨rfl, hw⟩; obtain rfl := hw.symm))
                go_ret
                exact ⟨by rw [HE.out] <;> rfl, q, HW.out.symm⟩
              · rw [inQ_yes (by omega)] at i3
                have HD2 : Hid (atC users l k = if tm ≤ lastL (l.take k) then 3 else if (setL (l.take k)).testBit fr.toNat = true then 0 else 7) := by show _ = _; rw [HD.out, gNextC, if_neg (by simp only; omega)]
                obtain ⟨fn, rfl⟩ : ∃ f : Nat, fr = (f : Int) := ⟨fr.toNat, by omega⟩
                rw [Int.toNat_natCast] at HD2
                have hfn : fn < 8 := by omega
                have hxl : setL (l.take k) < 256 := setL_lt HTos.out
                have TG : Hid (∀ W, Givs W b off n (nthV l) → ∀ q, Calls Tryd.prog 10 #[.slice (some ⟨b, off, none⟩) k cap] (W.drewN q) fun e w' => e = .returned (.int .i64 (setL (l.take k) : Nat)) ∧ w' = W.drewN q) := fun W hW q => granted_any (some ⟨b, off, none⟩) k cap (l.take k) (by rw [List.length_take]; omega) (by omega) HTos.out (W.drewN q) (by
                  have h1 : AtGivs W (some ⟨b, off, none⟩) k (nthV l) := AtGivs.mono (n := n) (.inr ⟨b, off, rfl, hW⟩) (by omega)
                  exact (h1.like fun i hi => (nthV_take l hi).symm).drawn q)
                have hkc : (k : Int) ≤ (cap : Int) := by omega
                obtain ⟨x, hx⟩ : ∃ x, setL (l.take k) = x := ⟨_, rfl⟩
                rw [hx] at TG HD2 hxl
                have tB := fun W => bit_any x fn (by omega) (by omega) W
                have htm0 : 0 ≤ tm := by omega
                clear b1 b2 b3 HD hx HTos
                by_cases hk0 : k = 0
                · have b4 : ¬ tm ≤ lastL (l.take k) := by rw [HFirst.out hk0]; omega
                  subst hk0
                  simp only [Nat.zero_mul, Nat.add_zero] at c0 c1 c2
                  clear HPrev HFirst
                  cases qb : x.testBit fn with
                  | true =>
                    have HE : Hid (atC users l 0 = 0) := by show _ = _; rw [HD2.out, if_neg b4, if_pos qb]
                    rw [qb] at tB
                    clear qb HD2 HSt b4
                    go_wp2_with (first | (go_at_call 21; (with_reducible refine (i1 _).mono ?_); clear i1; rintro e w' ⟨rfl, hw⟩; obtain rfl := hw.symm) | (go_at_call 21; (with_reducible refine (i2 _).mono ?_); clear i2; rintro e w' ⟨rfl, hw⟩; obtain rfl := hw.symm) | (go_at_call 21; (with_reducible refine (i3 _).mono ?_); clear i3; rintro e w' ⟨rfl, hw⟩; obtain rfl := hw.symm))
                    go_quiet (fail)
                    obtain ⟨W2, hW2⟩ : ∃ W, wr.drewN nq = W := ⟨_, rfl⟩
                    have hs2 := HS.out.below (below_drawn (Below.refl _ wr) nq)
                    rw [hW2] at hs2 ⊢
                    have tG := TG.out W2 hs2
                    have d0 := hs2.c0 0 hlt
                    rw [HG.out, Nat.zero_mul, Nat.add_zero] at d0
                    have HW2 : Hid (w.drewN (q + nq) = W2) := by show _ = _; rw [← hW2, ← HW.out, World.drewN_drewN]
                    clear hs2 hW2
                    go_wp2_with fail
                    go_quiet (first | (go_at_call 10; exact Calls.quiet_of_same (tG _)) | (go_at_call 20; exact Calls.quiet_of_same (tB _)))
                    go_wp2
                    go_roundw
                    case rel => exact ⟨0 + 1, _, by omega, by go_num, fun j hj => by
                        by_cases e : j = 0
                        · subst e; exact HE.out
                        · exact HK.out j (by omega), by rw [← HW2.out, World.drewN_drewN]⟩
                    case measure => simp [intOf]; omega
                  | false =>
                    have HE := Hid.mkI (HSt.out 7 (by rw [HD2.out, if_neg b4, if_neg (by rw [qb]; simp)]) (by decide))
                    rw [qb] at tB
                    clear qb HD2 HSt b4
                    go_wp2_with (first | (go_at_call 21; (with_reducible refine (i1 _).mono ?_); clear i1; rintro e w' ⟨rfl, hw⟩; obtain rfl := hw.symm) | (go_at_call 21; (with_reducible refine (i2 _).mono ?_); clear i2; rintro e w' ⟨rfl, hw⟩; obtain rfl := hw.symm) | (go_at_call 21; (with_reducible refine (i3 _).mono ?_); clear i3; rintro e w' ⟨rfl, hw⟩; obtain rfl := hw.symm))
                    go_quiet (fail)
                    obtain ⟨W2, hW2⟩ : ∃ W, wr.drewN nq = W := ⟨_, rfl⟩
                    have hs2 := HS.out.below (below_drawn (Below.refl _ wr) nq)
                    rw [hW2] at hs2 ⊢
                    have tG := TG.out W2 hs2
                    have d0 := hs2.c0 0 hlt
                    rw [HG.out, Nat.zero_mul, Nat.add_zero] at d0
                    have HW2 : Hid (w.drewN (q + nq) = W2) := by show _ = _; rw [← hW2, ← HW.out, World.drewN_drewN]
                    clear hs2 hW2
                    go_wp2_with fail
                    go_quiet (first | (go_at_call 10; exact Calls.quiet_of_same (tG _)) | (go_at_call 20; exact Calls.quiet_of_same (tB _)))
                    go_wp2
                    go_ret
                    exact ⟨by rw [HE.out] <;> rfl, _, by rw [← HW2.out, World.drewN_drewN]⟩
                · have hk0I : (0 : Int) < (k : Int) := by omega
                  have hk0N : 0 < k := by omega
                  have hprev := HPrev.out (by omega)
                  obtain ⟨k1, hk1⟩ : ∃ k1, k - 1 = k1 := ⟨_, rfl⟩
                  have hkI : (k : Int) - 1 = (k1 : Int) := by omega
                  have hk1n : k1 < n := by omega
                  have hk1I : (k1 : Int) < (n : Int) := by omega
                  rw [hk1] at hprev
                  have y2 := HS.out.c2 k1 hk1n
                  obtain ⟨pv, hpv⟩ : ∃ y, (nthV l k1).tm = y := ⟨_, rfl⟩
                  rw [hpv] at y2 hprev
                  rw [hprev] at HD2
                  clear HPrev HFirst hk1 hpv hprev hk0
                  by_cases b4 : tm ≤ pv
                  · have HE := Hid.mkI (HSt.out 3 (by rw [HD2.out, if_pos b4]) (by decide))
                    clear HD2 HSt tB TG
                    go_wp2_with (first | (go_at_call 21; (with_reducible refine (i1 _).mono ?_); clear i1; rintro e w' ⟨rfl, hw⟩; obtain rfl := hw.symm) | (go_at_call 21; (with_reducible refine (i2 _).mono ?_); clear i2; rintro e w' ⟨rfl, hw⟩; obtain rfl := hw.symm) | (go_at_call 21; (with_reducible refine (i3 _).mono ?_); clear i3; rintro e w' ⟨rfl, hw⟩; obtain rfl := hw.symm))
                    go_quiet (fail)
                    go_wp2
                    go_ret
                    exact ⟨by rw [HE.out] <;> rfl, _, by rw [← HW.out, World.drewN_drewN]⟩
                  · have hb4 : pv < tm := by omega
                    cases qb : x.testBit fn with
                    | true =>
                      have HE : Hid (atC users l k = 0) := by show _ = _; rw [HD2.out, if_neg b4, if_pos qb]
                      rw [qb] at tB
                      clear qb HD2 HSt
                      go_wp2_with (first | (go_at_call 21; (with_reducible refine (i1 _).mono ?_); clear i1; rintro e w' ⟨rfl, hw⟩; obtain rfl := hw.symm) | (go_at_call 21; (with_reducible refine (i2 _).mono ?_); clear i2; rintro e w' ⟨rfl, hw⟩; obtain rfl := hw.symm) | (go_at_call 21; (with_reducible refine (i3 _).mono ?_); clear i3; rintro e w' ⟨rfl, hw⟩; obtain rfl := hw.symm))
                      go_quiet (fail)
                      obtain ⟨W2, hW2⟩ : ∃ W, wr.drewN nq = W := ⟨_, rfl⟩
                      have hs2 := HS.out.below (below_drawn (Below.refl _ wr) nq)
                      rw [hW2] at hs2 ⊢
                      have tG := TG.out W2 hs2
                      have d0 := hs2.c0 k hlt
                      rw [HG.out] at d0
                      have HW2 : Hid (w.drewN (q + nq) = W2) := by show _ = _; rw [← hW2, ← HW.out, World.drewN_drewN]
                      clear hs2 hW2
                      go_wp2_with fail
                      go_quiet (first | (go_at_call 10; exact Calls.quiet_of_same (tG _)) | (go_at_call 20; exact Calls.quiet_of_same (tB _)))
                      go_wp2
                      go_roundw
                      case rel => exact ⟨k + 1, _, by omega, by go_num, fun j hj => by
                          by_cases e : j = k
                          · subst e; exact HE.out
                          · exact HK.out j (by omega), by rw [← HW2.out, World.drewN_drewN]⟩
                      case measure => simp [intOf]; omega
                    | false =>
                      have HE := Hid.mkI (HSt.out 7 (by rw [HD2.out, if_neg b4, if_neg (by rw [qb]; simp)]) (by decide))
                      rw [qb] at tB
                      clear qb HD2 HSt
                      go_wp2_with (first | (go_at_call 21; (with_reducible refine (i1 _).mono ?_); clear i1; rintro e w' ⟨rfl, hw⟩; obtain rfl := hw.symm) | (go_at_call 21; (with_reducible refine (i2 _).mono ?_); clear i2; rintro e w' ⟨rfl, hw⟩; obtain rfl := hw.symm) | (go_at_call 21; (with_reducible refine (i3 _).mono ?_); clear i3; rintro e w' ⟨rfl, hw⟩; obtain rfl := hw.symm))
                      go_quiet (fail)
                      obtain ⟨W2, hW2⟩ : ∃ W, wr.drewN nq = W := ⟨_, rfl⟩
                      have hs2 := HS.out.below (below_drawn (Below.refl _ wr) nq)
                      rw [hW2] at hs2 ⊢
                      have tG := TG.out W2 hs2
                      have d0 := hs2.c0 k hlt
                      rw [HG.out] at d0
                      have HW2 : Hid (w.drewN (q + nq) = W2) := by show _ = _; rw [← hW2, ← HW.out, World.drewN_drewN]
                      clear hs2 hW2
                      go_wp2_with fail
                      go_quiet (first | (go_at_call 10; exact Calls.quiet_of_same (tG _)) | (go_at_call 20; exact Calls.quiet_of_same (tB _)))
                      go_wp2
                      go_ret
                      exact ⟨by rw [HE.out] <;> rfl, _, by rw [← HW2.out, World.drewN_drewN]⟩
        · obtain rfl : k = n := by omega
          have HE : Hid (givC users l = 0) := by show _ = _; rw [HC.out, HN.out]; exact fst0_none HK.out
          have HW := Hid.mkI hwr
          clear hwr
          go_wp2
          go_ret
          exact ⟨by rw [HE.out] <;> rfl, q, HW.out.symm⟩
end Go.Proofs.YtoecomgiggalkaaDoor
