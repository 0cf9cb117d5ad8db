/- The walk of the law GrantPath. -/
import Derived.WalkKit
import Derived.LoopTactic
import Derived.Deep.QuietTactic
import Derived.BigQuiet
import Derived.Test.YtoecomgiggalkaaDoorGraF
import Derived.Test.YtoecomgiggalkaaDoorGraV
import Derived.Test.YtoecomgiggalkaaDoorAs
namespace Go.Proofs.YtoecomgiggalkaaDoor
open Go.RowKit
set_option maxRecDepth 100000

set_option maxHeartbeats 4000000 in
theorem grantPath_any (users : Int) (a : Option Addr) (cap : Nat) (l : List Giv) (u : Int) (w : World) (h : AtGivs w a l.length (nthV l)) (hcap : l.length ≤ cap) (hE : ErrT w) :
    Calls Tryd.prog 6 #[.int .i64 users, .slice a l.length cap, .int .i64 u] w fun e w' => e = .returned (.bool true) ∧ Below w.heap.size w w' := by
  have t0 := grantFact_any w
  have tH := fun w1 (hB : Below w.heap.size w w1) => holds_any users a cap l w1 (h.below hB)
  have tP := fun w1 (hB : Below w.heap.size w w1) => pathAsk_any users a cap l hcap u w1 (h.below hB)
  have HA := Hid.mkI h
  have HET := Hid.mkI (And.intro hE (old_of_cell hE))
  clear h hE hcap
  by_cases hc : givC users l = 0
  · have hok := (givC_iff _ _).1 hc
    have hV : hasV users l = setL l := by rw [hasV, if_pos hc]
    have HC : Hid (pathC users l u = if u < 0 ∨ users ≤ u then 1 else if (setL l).testBit u.toNat = true then 0 else 5) := by show _ = _; rw [pathC, if_pos hc]
    rw [hc, hV, errV_zero] at tH
    have hset := hok.set_lt
    have hlen := hok.len
    have hu8 := hok.u1
    have HOk := Hid.mkI hok
    clear hok hV hc
    by_cases hb : u < 0 ∨ users ≤ u
    · have hP : pathC users l u = 1 := by rw [HC.out, if_pos hb]
      have HV : Hid (∀ w v, PathV w v users l u → v = .slice none 0 0) := fun w v h => by
        rcases h with ⟨_, h⟩ | ⟨h, _⟩
        · exact h
        · rw [hP] at h; exact absurd h (by decide)
      rw [hP, gerrV_ne (c := 1) (by decide)] at tP
      obtain ⟨n, hn⟩ : ∃ n, l.length = n := ⟨_, rfl⟩
      obtain ⟨x, hx⟩ : ∃ x, setL l = x := ⟨_, rfl⟩
      rw [hn, hx] at tH
      rw [hn] at tP ⊢
      have hbb : u < 0 ∨ (0 ≤ u ∧ users ≤ u) := by omega
      clear hP HC hn hx hb
      rcases hbb with hb | ⟨hb0, hb⟩
      all_goals
        go_enter Tryd.func6, Tryd.ntmps6
        go_wp2_with fail
        refine t0.mono ?_
        clear t0
        rintro e w1 ⟨rfl, hB1⟩
        have tH := tH w1 hB1
        go_wp2_with fail
        refine tH.mono ?_
        clear tH
        rintro e w2 ⟨rfl, hB2⟩
        have hB3 := hB1.trans (hB2.mono hB1.size)
        have tP := tP w2 hB3
        go_wp2_with fail
        refine tP.mono ?_
        clear tP
        rintro e w3 ⟨v, rfl, hv, hB4⟩
        obtain rfl := HV.out _ _ hv
        have hB5 := hB3.trans (hB4.mono hB3.size)
        clear hv
        go_wp2_with fail
        go_ret
        exact ⟨rfl, hB5⟩
    · have h0 : 0 ≤ u := by omega
      have h1 : u < users := by omega
      have hx0 : ¬ ((setL l : Nat) : Int) < 0 := by omega
      have hx1 : ¬ 255 < ((setL l : Nat) : Int) := by omega
      have tB := fun W => bit_any (setL l) u.toNat (by omega) (by omega) W
      rw [Int.toNat_of_nonneg h0] at tB
      cases q : (setL l).testBit u.toNat with
      | false =>
        have hP : pathC users l u = 5 := by rw [HC.out, if_neg hb, if_neg (by rw [q]; simp)]
        rw [q] at tB
        rw [hP, gerrV_ne (c := 5) (by decide)] at tP
        obtain ⟨n, hn⟩ : ∃ n, l.length = n := ⟨_, rfl⟩
        obtain ⟨x, hx⟩ : ∃ x, setL l = x := ⟨_, rfl⟩
        rw [hn, hx] at tH
        rw [hn] at tP ⊢
        rw [hx] at tB hset hx0 hx1
        clear hP HC hn hx hb q
        go_enter Tryd.func6, Tryd.ntmps6
        go_wp2_with fail
        refine t0.mono ?_
        clear t0
        rintro e w1 ⟨rfl, hB1⟩
        have tH := tH w1 hB1
        go_wp2_with fail
        refine tH.mono ?_
        clear tH
        rintro e w2 ⟨rfl, hB2⟩
        have hB3 := hB1.trans (hB2.mono hB1.size)
        have tP := tP w2 hB3
        go_wp2_with fail
        refine tP.mono ?_
        clear tP
        rintro e w3 ⟨v, rfl, hv, hB4⟩
        have hB5 := hB3.trans (hB4.mono hB3.size)
        clear hv hB4 hB1 hB2 hB3
        have tE := fun k => error_err 5 5 (w3.drewN k) (HET.out.1.below (below_drawn hB5 k) HET.out.2)
        go_wp2_with fail
        go_quiet ((go_at_call 20; exact Calls.quiet_of_same (tB _)))
        go_wp2_with fail
        refine (tE _).mono ?_
        clear tE
        rintro e w4 ⟨rfl, hB6⟩
        have hB7 := (below_drawn hB5 nq).trans (hB6.mono (below_drawn hB5 nq).size)
        go_wp2_with fail
        go_ret
        exact ⟨rfl, hB7⟩
      | true =>
        have hP : pathC users l u = 0 := by rw [HC.out, if_neg hb, if_pos q]
        obtain ⟨I, hI⟩ := gpath_is HOk.out l.length l.length u (Nat.le_refl _) h0 (by rw [List.take_length]; exact q)
        have hI : PathIs l l.length u (pathL l u) I := hI
        have hK : (pathL l u).length ≤ 41 := by
          have := dnG_len l l.length l.length u
          unfold pathL
          rw [List.length_reverse]; omega
        have HV : Hid (∀ w v, PathV w v users l u → Lst w v (pathL l u).length fun i => (pathL l u).getD i 0) := fun w v h => by
          rcases h with ⟨h, _⟩ | ⟨_, h⟩
          · exact absurd hP h
          · exact h
        rw [q] at tB
        rw [hP, errV_zero] at tP
        have p1 := hI.pos
        have p2 := hI.first
        have p3 := hI.last
        have HPa := Hid.mkI hI
        obtain ⟨pf, hpf⟩ : ∃ pf : Nat → Int, ∀ i, (pathL l u).getD i 0 = pf i := ⟨_, fun _ => rfl⟩
        rw [hpf] at p2 p3
        have HLT : Hid (∀ k, k < (pathL l u).length → 0 < k → I k < l.length) := fun k h1 h2 => (HPa.out.lt k h1 h2).2
        have HFr : Hid (∀ k, k < (pathL l u).length → 0 < k → (nthV l (I k)).fr = pf (k - 1)) := fun k h1 h2 => (HPa.out.fr k h1 h2).trans (hpf _)
        have HTo : Hid (∀ k, k < (pathL l u).length → 0 < k → (nthV l (I k)).to = pf k) := fun k h1 h2 => (HPa.out.to k h1 h2).trans (hpf _)
        have HUp : Hid (∀ k, k + 1 < (pathL l u).length → 0 < k → I k < I (k + 1)) := fun k h1 h2 => HPa.out.up k h1 h2
        have HV : Hid (∀ w v, PathV w v users l u → Lst w v (pathL l u).length pf) := fun w v h => (HV.out w v h).like fun i _ => hpf i
        obtain ⟨K, hKK⟩ : ∃ K, (pathL l u).length = K := ⟨_, rfl⟩
        rw [hKK] at hK p1 p3 HLT HFr HTo HUp HV
        obtain ⟨n, hn⟩ : ∃ n, l.length = n := ⟨_, rfl⟩
        obtain ⟨x, hx⟩ : ∃ x, setL l = x := ⟨_, rfl⟩
        rw [hn] at HLT
        rw [hn, hx] at tH
        rw [hn] at tP ⊢
        rw [hx] at tB hset hx0 hx1
        have HN := Hid.mkI hn
        have hlen : n ≤ 40 := by rw [← hn]; exact hlen
        have hK1 : (K : Int) - 1 = ((K - 1 : Nat) : Int) := by omega
        obtain ⟨K1, hK1e⟩ : ∃ k, K - 1 = k := ⟨_, rfl⟩
        rw [hK1e] at hK1 p3
        have hK1K : K1 < K := by omega
        clear hP HC hn hx hb q hI HPa hpf hKK hK1e
        go_enter Tryd.func6, Tryd.ntmps6
        go_wp2_with fail
        refine t0.mono ?_
        clear t0
        rintro e w1 ⟨rfl, hB1⟩
        have tH := tH w1 hB1
        go_wp2_with fail
        refine tH.mono ?_
        clear tH
        rintro e w2 ⟨rfl, hB2⟩
        have hB3 := hB1.trans (hB2.mono hB1.size)
        have tP := tP w2 hB3
        go_wp2_with fail
        refine tP.mono ?_
        clear tP
        rintro e w3 ⟨v, rfl, hv, hB4⟩
        have hB5 := hB3.trans (hB4.mono hB3.size)
        obtain ⟨pa, pc, rfl, hpl⟩ := HV.out _ _ hv
        obtain ⟨pb, po, rfl, hpl, hpc⟩ : ∃ b off, pa = some ⟨b, off, none⟩ ∧ b < w3.heap.size ∧ ∀ i, i < K → w3.cell? ⟨b, off + i, none⟩ = some (.int .i64 (pf i)) := by
          rcases hpl with h | h
          · omega
          · exact h
        have HPC := Hid.mkI (And.intro hpl hpc)
        have HA3 : Hid (AtGivs w3 a n (nthV l)) := by have := HA.out.below hB5; rw [HN.out] at this; exact this
        clear hv hB4 hB1 hB2 hB3 hpl hpc HA
        go_wp2_with fail
        go_quiet ((go_at_call 20; exact Calls.quiet_of_same (tB _)))
        have z0 : (w3.drewN nq).cell? ⟨pb, po, none⟩ = some (.int .i64 0) := by have := HPC.out.2 0 p1; rw [p2] at this; exact this
        have z1 : (w3.drewN nq).cell? ⟨pb, po + K1, none⟩ = some (.int .i64 u) := by have := HPC.out.2 K1 hK1K; rw [p3] at this; exact this
        have hB6 := below_drawn (Below.refl w3.heap.size w3) nq
        obtain ⟨w4, hw4⟩ : ∃ w4, w3.drewN nq = w4 := ⟨_, rfl⟩
        rw [hw4] at z0 z1 hB6 ⊢
        have hKn : ¬ K = 0 := by omega
        have hK0 : (0 : Int) < (K : Int) := by omega
        have hK1n : (K1 : Int) < (K : Int) := by omega
        clear hw4
        go_wp2_with fail
        go_loopw [12, 13] (fun o p wr => ∃ (k t : Nat), p = .int .i64 k ∧ o = .int .i64 t ∧ 1 ≤ k ∧ k ≤ K ∧ Hid (k < K → t ≤ I k) ∧ Below w3.heap.size w3 wr) (fun _ p _ => K - (intOf p).toNat)
        case atStart => exact ⟨1, 0, rfl, rfl, by omega, by omega, fun _ => Nat.zero_le _, hB6⟩
        case round =>
          obtain ⟨k, t, rfl, rfl, hk1, hkK, HT, hB⟩ := hrel
          by_cases hlt : k < K
          · have hltI : (k : Int) < (K : Int) := by omega
            have hst := HT.out hlt
            obtain ⟨k1, hke⟩ : ∃ k1, k - 1 = k1 := ⟨_, rfl⟩
            have hkI : (k : Int) - 1 = (k1 : Int) := by omega
            have hk1K : k1 < K := by omega
            have hk1n : (k1 : Int) < (K : Int) := by omega
            have HLTk := HLT.out k hlt hk1
            have HFk := Hid.mkI (HFr.out k hlt hk1)
            have HTk := Hid.mkI (HTo.out k hlt hk1)
            rw [hke] at HFk
            obtain ⟨ik, hik⟩ : ∃ i, I k = i := ⟨_, rfl⟩
            have HIK := Hid.mkI hik
            rw [hik] at hst HLTk HFk HTk
            clear hik hke HT z0 z1
            go_wp2_with fail
            go_loopw [12] (fun o wi => ∃ t : Nat, o = .int .i64 t ∧ t ≤ ik ∧ Below w3.heap.size w3 wi) (fun o _ => n - (intOf o).toNat)
            case atStart => exact ⟨t, rfl, hst, hB⟩
            case round =>
              obtain ⟨t', rfl, ht', hBi⟩ := hrel
              have htn : t' < n := by omega
              obtain ⟨b, off, rfl, hs⟩ : ∃ b off, a = some ⟨b, off, none⟩ ∧ Givs wr b off n (nthV l) := by
                rcases HA3.out with h | ⟨b, off, e, h⟩
                · omega
                · exact ⟨b, off, e, h.below hBi⟩
              have c0 := hs.c0 t' htn
              have c1 := hs.c1 t' htn
              have y0 := (hBi.cell (p := ⟨pb, po + k1, none⟩) HPC.out.1).trans (HPC.out.2 k1 hk1K)
              have y1 := (hBi.cell (p := ⟨pb, po + k, none⟩) HPC.out.1).trans (HPC.out.2 k hlt)
              have hM : Hid (t' = ik → (nthV l t').fr = pf k1 ∧ (nthV l t').to = pf k) := fun e => by rw [e]; exact ⟨HFk.out, HTk.out⟩
              have htI : (t' : Int) < (n : Int) := by omega
              have hne : ((t' : Int) == (n : Int)) = false := by simp; omega
              obtain ⟨g, hg⟩ : ∃ g, nthV l t' = g := ⟨_, rfl⟩
              obtain ⟨x0, hx0⟩ : ∃ x, pf k1 = x := ⟨_, rfl⟩
              obtain ⟨x1, hx1⟩ : ∃ x, pf k = x := ⟨_, rfl⟩
              rw [hg] at c0 c1 hM
              rw [hx0] at y0 hM
              rw [hx1] at y1 hM
              obtain ⟨fr, to, tm⟩ := g
              simp only at c0 c1
              clear hs hg hx0 hx1
              by_cases q1 : fr = x0
              · by_cases q2 : to = x1
                · have b1 : (fr == x0) = true := by simp [q1]
                  have n1 : (fr != x0) = false := by simp [q1]
                  have b2 : (to == x1) = true := by simp [q2]
                  have n2 : (to != x1) = false := by simp [q2]
                  clear q1 q2 hM
                  go_wp2
                  go_quiet (fail)
                  go_wp2
                  go_roundw
                  case rel => exact ⟨k + 1, t' + 1, by go_num, by go_num, by omega, by omega, fun h => by have h1 := HUp.out k h hk1; rw [HIK.out] at h1; omega, below_drawn hBi _⟩
                  case measure => simp [intOf]; omega
                · have b1 : (fr == x0) = true := by simp [q1]
                  have n1 : (fr != x0) = false := by simp [q1]
                  have b2 : (to == x1) = false := by simp [q2]
                  have n2 : (to != x1) = true := by simp [q2]
                  have hlt' : t' + 1 ≤ ik := by
                    by_cases e : t' = ik
                    · exact absurd (hM.out e).2 q2
                    · omega
                  clear q1 q2 hM
                  go_wp2
                  go_quiet (fail)
                  go_wp2
                  go_roundw
                  case rel => exact ⟨t' + 1, by go_num, hlt', below_drawn hBi _⟩
                  case measure => simp [intOf]; omega
              · have b1 : (fr == x0) = false := by simp [q1]
                have n1 : (fr != x0) = true := by simp [q1]
                have hlt' : t' + 1 ≤ ik := by
                  by_cases e : t' = ik
                  · exact absurd (hM.out e).1 q1
                  · omega
                clear q1 hM
                go_wp2
                go_quiet (fail)
                go_wp2
                go_roundw
                case rel => exact ⟨t' + 1, by go_num, hlt', below_drawn hBi _⟩
                case measure => simp [intOf]; omega
          · have hge : (K : Int) ≤ (k : Int) := by omega
            have hBw := hB5.trans (hB.mono hB5.size)
            clear HT
            go_wp2_with fail
            go_ret
            exact ⟨rfl, hBw⟩
  · have hP : pathC users l u = givC users l := by rw [pathC, if_neg hc]
    have HV : Hid (∀ w v, PathV w v users l u → v = .slice none 0 0) := fun w v h => by
      rcases h with ⟨_, h⟩ | ⟨h, _⟩
      · exact h
      · rw [hP] at h; exact absurd h hc
    rw [hP] at tP
    obtain ⟨c, hcc⟩ : ∃ c, givC users l = c := ⟨_, rfl⟩
    obtain ⟨x, hx⟩ : ∃ x, hasV users l = x := ⟨_, rfl⟩
    obtain ⟨n, hn⟩ : ∃ n, l.length = n := ⟨_, rfl⟩
    rw [hcc] at tH tP hc
    rw [gerrV_ne hc] at tH tP
    rw [hn, hx] at tH
    rw [hn] at tP ⊢
    clear hP hcc hx hn hc
    go_enter Tryd.func6, Tryd.ntmps6
    go_wp2_with fail
    refine t0.mono ?_
    clear t0
    rintro e w1 ⟨rfl, hB1⟩
    have tH := tH w1 hB1
    go_wp2_with fail
    refine tH.mono ?_
    clear tH
    rintro e w2 ⟨rfl, hB2⟩
    have hB3 := hB1.trans (hB2.mono hB1.size)
    have tP := tP w2 hB3
    go_wp2_with fail
    refine tP.mono ?_
    clear tP
    rintro e w3 ⟨v, rfl, hv, hB4⟩
    obtain rfl := HV.out _ _ hv
    have hB5 := hB3.trans (hB4.mono hB3.size)
    clear hv
    go_wp2_with fail
    go_ret
    exact ⟨rfl, hB5⟩
end Go.Proofs.YtoecomgiggalkaaDoor
