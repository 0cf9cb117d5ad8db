/- The walk of the law TakeTells. -/
import Derived.WalkKit
import Derived.LoopTactic
import Derived.Deep.QuietTactic
import Derived.BigQuiet
import Derived.Test.YtcddbjmockpoiaaDoorAs
import Derived.Test.YtcddbjmockpoiaaDoorTakChn
import Derived.Test.YtcddbjmockpoiaaDoorTakPst
namespace Go.Proofs.YtcddbjmockpoiaaDoor
open Go.RowKit
set_option maxRecDepth 100000

theorem tell_errV (c : Int) (w : World) (hE : ErrT w) : Calls Tryd.prog 8 #[errV c, .int .i64 c] w fun e w' => e = .returned (.bool true) ∧ Below w.heap.size w w' := by
  by_cases h : c = 0
  · subst h
    exact (error_nil 0 w).mono fun e w' ⟨he, hw⟩ => ⟨by rw [he]; rfl, hw ▸ Below.refl _ _⟩
  · rw [errV, if_neg h]
    exact (error_err c c w hE).mono fun e w' ⟨he, hb⟩ => ⟨by rw [he]; simp, hb⟩
set_option maxHeartbeats 1000000 in
theorem tsteps_same (a1 a2 : Option Addr) (n c1 c2 : Nat) (S : Nat → Stp) (hn : n < 2 ^ 40) (w : World) (h1 : AtStps w a1 n S) (h2 : AtStps w a2 n S) :
    Calls Tryd.prog 19 #[.slice a1 n c1, .slice a2 n c2] w fun e w' => e = .returned (.bool true) ∧ ∃ k, w' = w.drewN k := by
  go_enter Tryd.func19, Tryd.ntmps19
  go_wp2
  go_loopw [5] (fun p wr => ∃ (k q : Nat), k ≤ n ∧ p = .int .i64 k ∧ w.drewN q = wr) (fun p _ => n - (intOf p).toNat)
  case atStart => exact ⟨0, 0, by omega, rfl, rfl⟩
  case round =>
    obtain ⟨k, q, hk, rfl, hwr⟩ := hrel
    by_cases hlt : k < n
    · have hltI : (k : Int) < (n : Int) := by omega
      obtain ⟨b1, o1, rfl, s1⟩ : ∃ b off, a1 = some ⟨b, off, none⟩ ∧ Stps wr b off n S := by
        rcases h1 with h | ⟨b, off, e, h⟩
        · omega
        · exact ⟨b, off, e, by rw [← hwr]; exact h.below (below_drawn (Below.refl _ _) q)⟩
      obtain ⟨b2, o2, rfl, s2⟩ : ∃ b off, a2 = some ⟨b, off, none⟩ ∧ Stps wr b off n S := by
        rcases h2 with h | ⟨b, off, e, h⟩
        · omega
        · exact ⟨b, off, e, by rw [← hwr]; exact h.below (below_drawn (Below.refl _ _) q)⟩
      have d0 := s1.c0 k hlt
      have d1 := s1.c1 k hlt
      have d2 := s1.c2 k hlt
      have d3 := s1.c3 k hlt
      have d4 := s1.c4 k hlt
      have f0 := s2.c0 k hlt
      have f1 := s2.c1 k hlt
      have f2 := s2.c2 k hlt
      have f3 := s2.c3 k hlt
      have f4 := s2.c4 k hlt
      have HW := Hid.mkI hwr
      clear hwr h1 h2 s1 s2
      obtain ⟨s, hs⟩ : ∃ s, S k = s := ⟨_, rfl⟩
      rw [hs] at d0 d1 d2 d3 d4 f0 f1 f2 f3 f4
      clear hs
      go_wp2
      go_quiet (fail)
      go_wp2
      go_roundw
      case rel => exact ⟨k + 1, q + nq, by omega, by go_num, by rw [← HW.out, World.drewN_drewN]⟩
      case measure => simp [intOf]; omega
    · have HW := Hid.mkI hwr
      clear hwr
      go_wp2
      go_ret
      exact ⟨rfl, q, HW.out.symm⟩
theorem bringL_like {g : Gr} {r over : Nat} {W V : Nat → Nat} : ∀ (i vt : Nat), (∀ k, k ≤ i → W k = V k) → bringL g r over W i vt = bringL g r over V i vt ∧ bringN g over W i vt = bringN g over V i vt
  | 0, _, _ => ⟨rfl, rfl⟩
  | 1, _, h => by
    simp only [bringL, bringN]
    rw [h 0 (by omega), h 1 (by omega)]
    exact ⟨rfl, rfl⟩
  | i + 2, vt, h => by
    have e0 := h i (by omega)
    have e1 := h (i + 1) (by omega)
    have e2 := h (i + 2) (by omega)
    rw [bringL, bringL, bringN, bringN, e0, e1, e2]
    by_cases q : V (i + 1) = over
    · rw [if_pos q, if_pos q, if_pos q, if_pos q]
      obtain ⟨k1, k2⟩ := bringL_like (g := g) (r := r) (over := over) (W := W) (V := V) i (vt + roundN g over (V (i + 2)) (V i)) (fun k hk => h k (by omega))
      rw [k1, k2]
      exact ⟨rfl, rfl⟩
    · rw [if_neg q, if_neg q, if_neg q, if_neg q]
      obtain ⟨k1, k2⟩ := bringL_like (g := g) (r := r) (over := over) (W := W) (V := V) (i + 1) (vt + passN g (V (i + 2)) (V (i + 1))) (fun k hk => h k (by omega))
      rw [k1, k2]
      exact ⟨rfl, rfl⟩
section
variable {a0 : Option Addr} {len0 cap0 : Nat} {L : Nat → Nat} {F : Nat → Nat → Int} {w : World}
set_option maxHeartbeats 1000000 in
theorem tells_err (h : Grd w (.slice a0 len0 cap0) len0 L F) (hE : ErrT w) (r x y : Int) (hc : askCode len0 L F r x y ≠ 0) :
    Calls Tryd.prog 4 #[.slice a0 len0 cap0, .int .i64 r, .int .i64 x, .int .i64 y] w fun e w' => e = .returned (.bool true) ∧ Below w.heap.size w w' := by
  have tA := refAsked_any h r x y
  have tC := can_err h r x y hc
  have tP := fun w1 (hB : Below w.heap.size w w1) => plan_err (h.below hB) r x y hc
  have tE1 := tell_errV (askCode len0 L F r x y) w hE
  have tE2 := fun w1 (hB : Below w.heap.size w w1) => tell_errV (askCode len0 L F r x y) w1 (hE.below hB (old_of_cell hE))
  have tS : ∀ w1, Calls Tryd.prog 19 #[.slice none 0 0, .slice none 0 0] w1 fun e w' => e = .returned (.bool true) ∧ ∃ k, w' = w1.drewN k := fun w1 => tsteps_same none none 0 0 0 (fun _ => ⟨0, 0, 0, 0, 0⟩) (by decide) w1 (.inl rfl) (.inl rfl)
  obtain ⟨c, hcc⟩ : ∃ c, askCode len0 L F r x y = c := ⟨_, rfl⟩
  rw [hcc] at tA tC tP tE1 tE2 hc
  have hcb : (c == 0) = false := by simpa using hc
  obtain ⟨ev, hev⟩ : ∃ v, errV c = v := ⟨_, rfl⟩
  rw [hev] at tC tP tE1 tE2
  clear hcc hev hc h hE
  go_enter Tryd.func4, Tryd.ntmps4
  go_wp2_with fail
  refine tA.mono ?_
  clear tA
  rintro e w' ⟨rfl, hw⟩
  obtain rfl := hw.symm
  clear hw
  go_wp2_with fail
  refine tC.mono ?_
  clear tC
  rintro e w' ⟨rfl, hw⟩
  obtain rfl := hw.symm
  clear hw
  go_wp2_with fail
  refine tE1.mono ?_
  clear tE1
  rintro e w1 ⟨rfl, hB1⟩
  have tP := tP w1 hB1
  go_wp2_with fail
  refine tP.mono ?_
  clear tP
  rintro e w' ⟨rfl, hw⟩
  obtain rfl := hw.symm
  clear hw
  have tE2 := tE2 _ hB1
  go_wp2_with fail
  refine tE2.mono ?_
  clear tE2
  rintro e w2 ⟨rfl, hB2⟩
  have hB2' := hB1.trans (hB2.mono hB1.size)
  go_wp2_with fail
  refine (tS _).mono ?_
  clear tS
  rintro e w3 ⟨rfl, k, rfl⟩
  go_wp2_with fail
  go_ret
  exact ⟨rfl, below_drawn hB2' k⟩
set_option maxHeartbeats 1000000 in
theorem tells_ok (h : Grd w (.slice a0 len0 cap0) len0 L F) (hT : Tab w) (hE : ErrT w) (hg0 : graphCode len0 L F = 0) (r x y : Nat) (hx : x < len0) (hy : y < len0) (hxy : x ≠ y) (hr : r = 1 ∨ r = 2 ∨ r = 4) (hc : askCode len0 L F r x y = 0) :
    Calls Tryd.prog 4 #[.slice a0 len0 cap0, .int .i64 r, .int .i64 x, .int .i64 y] w fun e w' => e = .returned (.bool true) ∧ Below w.heap.size w w' := by
  have tA := refAsked_any h r x y
  rw [hc] at tA
  have ok := (graphCode_ok hg0).1
  obtain ⟨a', cp, e, hG⟩ := (grV_of h hg0).open
  have hn : (grOf len0 F).n = len0 := rfl
  obtain ⟨b, off, B, O, C, ea, hG2⟩ := hG (by omega)
  cases e
  subst ea
  clear hG
  have tCh : Calls Tryd.prog 15 #[.slice (some ⟨b, off, none⟩) len0 cap0, .int .i64 r, .int .i64 x, .int .i64 y] w fun e w' => ∃ v n f, e = .returned v ∧ Way0 w' v n f ∧ n ≤ 20 ∧ BestOf (grOf len0 F).n (lkRows (grOf len0 F)) (holdN (grOf len0 F) r y) x (grOf len0 F).n n f ∧ Below w.heap.size w w' := refChain_any hG2 ok cap0 r x y (by omega) hx hy
  have tC := fun w1 (hB : Below w.heap.size w w1) => can_ok (h.below hB) (hT.below hB hT.size) hg0 r x y hx hy hxy hr
  have tP := fun w1 (hB : Below w.heap.size w w1) => plan_ok (h.below hB) (hT.below hB hT.size) hg0 r x y hx hy hxy hr
  have tE0 : ∀ w1, Calls Tryd.prog 8 #[.nilIface, .int .i64 0] w1 fun e w' => e = .returned (.bool true) ∧ w' = w1 := fun w1 => (error_nil 0 w1).mono fun e w' ⟨he, hw⟩ => ⟨by rw [he]; rfl, hw⟩
  have tE4 : ∀ w1, Below w.heap.size w w1 → Calls Tryd.prog 8 #[.iface 49 (.int .i64 4), .int .i64 4] w1 fun e w' => e = .returned (.bool true) ∧ Below w1.heap.size w1 w' := fun w1 hB => (error_err 4 4 w1 (hE.below hB (old_of_cell hE))).mono fun e w' ⟨he, hb⟩ => ⟨by rw [he]; rfl, hb⟩
  have tE5 : ∀ w1, Below w.heap.size w w1 → Calls Tryd.prog 8 #[.iface 49 (.int .i64 5), .int .i64 5] w1 fun e w' => e = .returned (.bool true) ∧ Below w1.heap.size w1 w' := fun w1 hB => (error_err 5 5 w1 (hE.below hB (old_of_cell hE))).mono fun e w' ⟨he, hb⟩ => ⟨by rw [he]; rfl, hb⟩
  have tS : ∀ w1, Calls Tryd.prog 19 #[.slice none 0 0, .slice none 0 0] w1 fun e w' => e = .returned (.bool true) ∧ ∃ k, w' = w1.drewN k := fun w1 => tsteps_same none none 0 0 0 (fun _ => ⟨0, 0, 0, 0, 0⟩) (by decide) w1 (.inl rfl) (.inl rfl)
  have hr' := lkRows_right ok
  have HG2 := Hid.mkI hG2
  have HOk := Hid.mkI ok
  have hle := ok.le
  clear h hT hE hg0 hc hG2 ok
  go_enter Tryd.func4, Tryd.ntmps4
  go_wp2_with fail
  refine tA.mono ?_
  clear tA
  rintro e w' ⟨rfl, hw⟩
  obtain rfl := hw.symm
  clear hw
  go_wp2_with fail
  refine tCh.mono ?_
  clear tCh
  rintro e w1 ⟨v, n, f, rfl, hv, hn20, hbest, hB1⟩
  have hall := hbest.all hr' hx (holdN_lt _ _ _)
  clear hbest
  have tC := tC w1 hB1
  rcases hall with ⟨hn0, hno⟩ | ⟨D, hnD, hf0, hD, hWS⟩
  · subst hn0
    obtain ⟨va, vc, rfl, -⟩ := hv
    have hnc : ¬ CanP (grOf len0 F) r x y := fun ⟨k, hk⟩ => hno k hk
    go_wp2_with fail
    refine tC.mono ?_
    clear tC
    rintro e w2 ⟨⟨bl, rfl, hbl⟩, hB2⟩
    have hbf : bl = false := by
      cases bl with
      | false => rfl
      | true => exact absurd (hbl.1 rfl) hnc
    subst hbf
    have hB2' := hB1.trans (hB2.mono hB1.size)
    have tP := tP w2 hB2'
    have HNC := Hid.mkI hnc
    clear hbl hnc hno
    go_wp2_with fail
    refine (tE0 _).mono ?_
    clear tE0
    rintro e w' ⟨rfl, hw⟩
    obtain rfl := hw.symm
    clear hw
    go_wp2_with fail
    refine tP.mono ?_
    clear tP
    rintro e w3 ⟨hpl, hB3⟩
    have hB3' := hB2'.trans (hB3.mono hB2'.size)
    rcases hpl with ⟨_, rfl⟩ | ⟨D, W, hpi, _⟩
    · have tE5 := tE5 w3 hB3'
      go_wp2_with fail
      refine tE5.mono ?_
      clear tE5
      rintro e w4 ⟨rfl, hB4⟩
      have hB4' := hB3'.trans (hB4.mono hB3'.size)
      go_wp2_with fail
      refine (tS _).mono ?_
      clear tS
      rintro e w5 ⟨rfl, k, rfl⟩
      go_wp2_with fail
      go_ret
      exact ⟨rfl, below_drawn hB4' k⟩
    · exact absurd ⟨D, hpi.2.1.1⟩ HNC.out
  · subst hnD
    obtain ⟨va, vc, rfl, hv⟩ := hv
    obtain ⟨gb, rfl, hoW⟩ : ∃ gb, va = some ⟨gb, 0, none⟩ ∧ Own w1 gb (D + 1) f := by
      rcases hv with h | h
      · omega
      · exact h
    have hcan : CanP (grOf len0 F) r x y := ⟨D, hD.1⟩
    have HPi : Hid (PlanIs (grOf len0 F) r x y D f) := ⟨hf0, hD, hWS⟩
    have tPs := fun w2 (hB : Below w.heap.size w w2) (k : Below w1.heap.size w1 w2) => refPlan_any (HG2.out.below hB) HOk.out cap0 gb vc D f (hoW.below k) (fun i hi => hWS.lt i hi) (by omega) r y hy (by rw [hf0]; exact hxy)
    clear hv hoW hD hWS hf0
    go_wp2_with fail
    refine tC.mono ?_
    clear tC
    rintro e w2 ⟨⟨bl, rfl, hbl⟩, hB2⟩
    have hbt : bl = true := hbl.2 hcan
    subst hbt
    have hB2' := hB1.trans (hB2.mono hB1.size)
    have tPs := tPs w2 hB2' hB2
    clear hbl hcan
    have hDI : (0 : Int) < (D : Int) + 1 := by omega
    have hDb : ((D : Int) + 1 == 0) = false := by simp; omega
    have HN := Hid.mkI hn
    clear hn
    go_wp2_with fail
    refine (tE0 _).mono ?_
    rintro e w' ⟨rfl, hw⟩
    obtain rfl := hw.symm
    clear hw
    go_wp2_with fail
    refine tPs.mono ?_
    clear tPs
    rintro e w3 ⟨hps, hB3⟩
    have hB3' := hB2'.trans (hB3.mono hB2'.size)
    have tP := tP w3 hB3'
    have HLike : Hid (∀ D' W', PlanIs (grOf len0 F) r x y D' W' → D' = D ∧ bringL (grOf len0 F) r y W' D len0 = bringL (grOf len0 F) r y f D len0 ∧ bringN (grOf len0 F) y W' D len0 = bringN (grOf len0 F) y f D len0) := fun D' W' k => by
      have p := HPi.out
      obtain rfl := k.2.1.unique p.2.1
      exact ⟨rfl, bringL_like _ _ fun i hi => k.2.2.one p.2.2 (by rw [k.1, p.1]) i hi⟩
    have hps : (((20 < bringN (grOf len0 F) y f D len0 ∨ 60 < (bringL (grOf len0 F) r y f D len0).length) ∧ e = .returned (.tuple #[.slice none 0 0, .int .i64 4])) ∨
        ((bringN (grOf len0 F) y f D len0 ≤ 20 ∧ (bringL (grOf len0 F) r y f D len0).length ≤ 60) ∧ ∃ sa scp, e = .returned (.tuple #[.slice sa (bringL (grOf len0 F) r y f D len0).length scp, .int .i64 0]) ∧ AtStps w3 sa (bringL (grOf len0 F) r y f D len0).length (nthS (bringL (grOf len0 F) r y f D len0)))) := hps
    have HCan : Hid (CanP (grOf len0 F) r x y) := ⟨D, HPi.out.2.1.1⟩
    obtain ⟨l, hl⟩ : ∃ l, bringL (grOf len0 F) r y f D len0 = l := ⟨_, rfl⟩
    obtain ⟨vt, hvt⟩ : ∃ l, bringN (grOf len0 F) y f D len0 = l := ⟨_, rfl⟩
    rw [hl, hvt] at hps HLike
    clear hl hvt HPi
    rcases hps with ⟨hbig, rfl⟩ | ⟨⟨hn1, hn2⟩, sa, scp, rfl, hst⟩
    · have HBig := Hid.mkI hbig
      clear hbig
      go_wp2_with fail
      refine tP.mono ?_
      clear tP
      rintro e w4 ⟨hpl, hB4⟩
      have hB4' := hB3'.trans (hB4.mono hB3'.size)
      rcases hpl with ⟨hno, rfl⟩ | ⟨D', W, hpi, ⟨_, rfl⟩ | ⟨⟨h1, h2⟩, _⟩⟩
      · exact absurd HCan.out hno
      · clear hpi
        have tE4 := tE4 w4 hB4'
        go_wp2_with fail
        refine tE4.mono ?_
        clear tE4
        rintro e w5 ⟨rfl, hB5⟩
        have hB5' := hB4'.trans (hB5.mono hB4'.size)
        go_wp2_with fail
        refine (tS _).mono ?_
        clear tS
        rintro e w6 ⟨rfl, k, rfl⟩
        go_wp2_with fail
        go_ret
        exact ⟨rfl, below_drawn hB5' k⟩
      · obtain ⟨rfl, e1, e2⟩ := HLike.out D' W hpi
        rw [e2] at h1
        rw [e1] at h2
        have := HBig.out
        omega
    · have HS := Hid.mkI hst
      have HN12 : Hid (vt ≤ 20 ∧ l.length ≤ 60) := ⟨hn1, hn2⟩
      clear hst hn1 hn2
      go_wp2_with fail
      refine tP.mono ?_
      clear tP
      rintro e w4 ⟨hpl, hB4⟩
      have hB4' := hB3'.trans (hB4.mono hB3'.size)
      rcases hpl with ⟨hno, rfl⟩ | ⟨D', W, hpi, ⟨hbig, rfl⟩ | ⟨_, pa, pcp, rfl, hpst⟩⟩
      · exact absurd HCan.out hno
      · obtain ⟨rfl, e1, e2⟩ := HLike.out D' W hpi
        rw [e1, e2] at hbig
        have := HN12.out
        omega
      · obtain ⟨rfl, e1, e2⟩ := HLike.out D' W hpi
        rw [e1] at hpst ⊢
        have tS2 := tsteps_same pa sa l.length pcp scp (nthS l) (by have := HN12.out; omega) w4 hpst (HS.out.below hB4)
        clear hpst hpi e1 e2
        go_wp2_with fail
        refine (tE0 _).mono ?_
        rintro e w' ⟨rfl, hw⟩
        obtain rfl := hw.symm
        clear hw
        go_wp2_with fail
        refine tS2.mono ?_
        clear tS2
        rintro e w5 ⟨rfl, k, rfl⟩
        go_wp2_with fail
        go_ret
        exact ⟨rfl, below_drawn hB4' k⟩
theorem takeTells_any (a0 : Option Addr) (len0 cap0 : Nat) (L : Nat → Nat) (F : Nat → Nat → Int) (r x y : Int) (w : World) (h : Grd w (.slice a0 len0 cap0) len0 L F) (hT : Tab w) (hE : ErrT w) :
    Calls Tryd.prog 4 #[.slice a0 len0 cap0, .int .i64 r, .int .i64 x, .int .i64 y] w fun e w' => e = .returned (.bool true) ∧ Below w.heap.size w w' := by
  by_cases hc : askCode len0 L F r x y = 0
  · obtain ⟨hg0, r, x, y, rfl, rfl, rfl, hx, hy, hxy, hr⟩ := askCode_ok hc
    exact tells_ok h hT hE hg0 r x y hx hy hxy hr hc
  · exact tells_err h hE r x y hc
end
end Go.Proofs.YtcddbjmockpoiaaDoor
