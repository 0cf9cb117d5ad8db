/- What a step comes to (play), and a graph's copy (copied). -/
import Derived.WalkKit
import Derived.LoopTactic
import Derived.OwnWalk
import Derived.Maps.AppendAt
import Derived.Test.YtdmdoikkemfcaaaDoorTakGrow
namespace Go.Proofs.YtdmdoikkemfcaaaDoor
open Go.RowKit
set_option maxRecDepth 100000

theorem stepCode_who {g : Gr} {s : Stp} (h : s.who < 0 ∨ (g.n : Int) ≤ s.who) : stepCode g s = 1 := if_pos (by omega)
theorem stepCode_kind {g : Gr} {s : Stp} (h : s.k < 0 ∨ 2 < s.k) : stepCode g s = 1 := if_pos (by omega)
theorem stepCode_new {g : Gr} {s : Stp} (h1 : 0 ≤ s.who) (h2 : s.who < g.n) (hk : s.k = 2) : stepCode g s = if g.n = 20 then 4 else 0 := by
  unfold stepCode
  rw [if_neg (by omega), if_pos hk]
theorem stepCode_range {g : Gr} {s : Stp} (h1 : 0 ≤ s.who) (h2 : s.who < g.n) (hk : s.k = 0 ∨ s.k = 1) (h : s.of < 0 ∨ (g.n : Int) ≤ s.of ∨ s.to < 0 ∨ (g.n : Int) ≤ s.to ∨ s.r < 1 ∨ 7 < s.r) : stepCode g s = 1 := by
  unfold stepCode
  rw [if_neg (by omega), if_neg (by omega), if_pos h]
theorem stepCode_take {g : Gr} {s : Stp} (h1 : 0 ≤ s.who) (h2 : s.who < g.n) (hk : s.k = 0) (h : ¬ (s.of < 0 ∨ (g.n : Int) ≤ s.of ∨ s.to < 0 ∨ (g.n : Int) ≤ s.to ∨ s.r < 1 ∨ 7 < s.r)) :
    stepCode g s = if s.who = s.to ∨ hasB (g.M s.who.toNat s.of.toNat) 1 = false ∨ hasB (g.M s.of.toNat s.to.toNat) s.r.toNat = false then 7 else 0 := by
  unfold stepCode
  rw [if_neg (by omega), if_neg (by omega), if_neg h, if_pos hk]
theorem stepCode_grant {g : Gr} {s : Stp} (h1 : 0 ≤ s.who) (h2 : s.who < g.n) (hk : s.k = 1) (h : ¬ (s.of < 0 ∨ (g.n : Int) ≤ s.of ∨ s.to < 0 ∨ (g.n : Int) ≤ s.to ∨ s.r < 1 ∨ 7 < s.r)) :
    stepCode g s = if s.of = s.to ∨ hasB (g.M s.who.toNat s.of.toNat) 2 = false ∨ hasB (g.M s.who.toNat s.to.toNat) s.r.toNat = false then 7 else 0 := by
  unfold stepCode
  rw [if_neg (by omega), if_neg (by omega), if_neg h, if_neg (by omega)]
/-- What play tells of a step. -/
def PlayIs (base : Nat) (w : World) (g : Gr) (s : Stp) (e : Ending) (w' : World) : Prop :=
  ((stepCode g s ≠ 0 ∧ ∃ v, e = .returned (.tuple #[v, errV (stepCode g s)])) ∨ (stepCode g s = 0 ∧ ∃ b' cap' C' K', e = .returned (.tuple #[.slice (some ⟨b', 0, none⟩) (stepNext g s).n cap', .nilIface]) ∧ OwnGr base w' b' cap' C' K' (stepNext g s))) ∧ Below base w w'
theorem playIs_err {base : Nat} {w w' : World} {g : Gr} {s : Stp} {e : Ending} {c : Int} (v : Value) (hc : stepCode g s = c) (h0 : c ≠ 0) (he : e = .returned (.tuple #[v, .iface 54 (.int .i64 c)])) (hB : Below base w w') : PlayIs base w g s e w' :=
  ⟨.inl ⟨by rw [hc]; exact h0, v, by rw [hc, errV, if_neg h0]; exact he⟩, hB⟩
section
variable {base b cap : Nat} {C K : Nat → Nat} {g : Gr} {w : World}
set_option maxHeartbeats 1000000 in
/-- Handing on by a step that takes or grants. -/
theorem hand_any (hO : OwnGr base w b cap C K g) (hbase : base ≤ w.heap.size) (ok : g.Ok) (s : Stp) (h1 : 0 ≤ s.who) (h2 : s.who < g.n) (hk : s.k = 0 ∨ s.k = 1) (frm get : Int) (z : Nat) (hf : frm = if s.k = 0 then s.of else s.who) (hg : get = if s.k = 0 then s.who else s.of) (hz : z = if s.k = 0 then 1 else 2) :
    Calls Tryd.prog 57 #[.slice (some ⟨b, 0, none⟩) g.n cap, stpV s, .int .i64 frm, .int .i64 get, .int .i64 z] w fun e w' =>
      ((stepCode g s ≠ 0 ∧ e = .returned (.iface 54 (.int .i64 (stepCode g s)))) ∨ (stepCode g s = 0 ∧ e = .returned .nilIface ∧ OwnGr base w' b cap C K (stepNext g s))) ∧ Below base w w' := by
  by_cases h : s.of < 0 ∨ (g.n : Int) ≤ s.of ∨ s.to < 0 ∨ (g.n : Int) ≤ s.to ∨ s.r < 1 ∨ 7 < s.r
  · have hc := stepCode_range h1 h2 hk h
    exact (hand_range _ _ _ s _ _ _ w h).mono fun e w' ⟨he, hB⟩ => ⟨.inl ⟨by rw [hc]; decide, by rw [hc]; exact he⟩, hB.mono hbase⟩
  · have hro : 0 ≤ s.of ∧ s.of < g.n := by omega
    have hrt : 0 ≤ s.to ∧ s.to < g.n := by omega
    have hrr : 1 ≤ s.r ∧ s.r ≤ 7 := by omega
    obtain ⟨who, ew⟩ := Int.eq_ofNat_of_zero_le h1
    obtain ⟨of, eo⟩ := Int.eq_ofNat_of_zero_le hro.1
    obtain ⟨to, et⟩ := Int.eq_ofNat_of_zero_le hrt.1
    obtain ⟨r, er⟩ := Int.eq_ofNat_of_zero_le (show 0 ≤ s.r by omega)
    rcases hk with hk | hk
    · have hc := stepCode_take h1 h2 hk h
      rw [if_pos hk] at hf hg hz
      subst hf hg hz
      by_cases hs : s.who = s.to
      · rw [if_pos (.inl hs)] at hc
        rw [hs]
        exact (hand_self (g := g) s _ _ hro hrt hrr w _).mono fun e w' ⟨he, hB⟩ => ⟨.inl ⟨by rw [hc]; decide, by rw [hc]; exact he⟩, hB.mono hbase⟩
      · by_cases hq : hasB (g.M who of) 1 = true ∧ hasB (g.M of to) r = true
        · rw [if_neg (by rw [ew, eo, et, er]; simp [hq.1, hq.2]; omega)] at hc
          have hy := hand_yes hO hbase ok s who of to r of who 1 ew eo et er (by omega) (by omega) (by omega) (by omega) (by omega) (by omega) (by omega) (by omega) hq.1 hq.2
          rw [eo, ew]
          refine hy.mono fun e w' ⟨he, ho, hB⟩ => ⟨.inr ⟨hc, he, ?_⟩, hB⟩
          unfold stepNext
          rw [if_neg (by omega), if_pos hk, ew, et, er]
          exact ho
        · rw [if_pos (by rw [ew, eo, et, er]; simp; right; by_cases q : hasB (g.M who of) 1 = true; · right; simpa [q] using hq
                         · left; simpa using q)] at hc
          have hy := hand_no hO ok s who of to r of who 1 ew eo et er (by omega) (by omega) (by omega) (by omega) (by omega) (by omega) (by omega) (by
            by_cases q : hasB (g.M who of) 1 = true
            · right; simpa [q] using hq
            · left; simpa using q)
          rw [eo, ew]
          exact hy.mono fun e w' ⟨he, hB⟩ => ⟨.inl ⟨by rw [hc]; decide, by rw [hc]; exact he⟩, hB.mono hbase⟩
    · have hc := stepCode_grant h1 h2 hk h
      rw [if_neg (by omega)] at hf hg hz
      subst hf hg hz
      by_cases hs : s.of = s.to
      · rw [if_pos (.inl hs)] at hc
        rw [hs]
        exact (hand_self (g := g) s _ _ hro hrt hrr w _).mono fun e w' ⟨he, hB⟩ => ⟨.inl ⟨by rw [hc]; decide, by rw [hc]; exact he⟩, hB.mono hbase⟩
      · by_cases hq : hasB (g.M who of) 2 = true ∧ hasB (g.M who to) r = true
        · rw [if_neg (by rw [ew, eo, et, er]; simp [hq.1, hq.2]; omega)] at hc
          have hy := hand_yes hO hbase ok s who of to r who of 2 ew eo et er (by omega) (by omega) (by omega) (by omega) (by omega) (by omega) (by omega) (by omega) hq.1 hq.2
          rw [eo, ew]
          refine hy.mono fun e w' ⟨he, ho, hB⟩ => ⟨.inr ⟨hc, he, ?_⟩, hB⟩
          unfold stepNext
          rw [if_neg (by omega), if_neg (by omega), eo, et, er]
          exact ho
        · rw [if_pos (by rw [ew, eo, et, er]; simp; right; by_cases q : hasB (g.M who of) 2 = true; · right; simpa [q] using hq
                         · left; simpa using q)] at hc
          have hy := hand_no hO ok s who of to r who of 2 ew eo et er (by omega) (by omega) (by omega) (by omega) (by omega) (by omega) (by omega) (by
            by_cases q : hasB (g.M who of) 2 = true
            · right; simpa [q] using hq
            · left; simpa using q)
          rw [eo, ew]
          exact hy.mono fun e w' ⟨he, hB⟩ => ⟨.inl ⟨by rw [hc]; decide, by rw [hc]; exact he⟩, hB.mono hbase⟩
set_option maxHeartbeats 1000000 in
theorem play_any (hO : OwnGr base w b cap C K g) (hbase : base ≤ w.heap.size) (ok : g.Ok) (s : Stp) :
    Calls Tryd.prog 33 #[.slice (some ⟨b, 0, none⟩) g.n cap, stpV s] w (PlayIs base w g s) := by
  have hB := box5_new w s 63
  obtain ⟨c0, c1, c2, c3, c4, hbel⟩ := hB
  obtain ⟨W, hW⟩ : ∃ W, w.alloc (.cells #[.int .i64 s.k, .int .i64 s.who, .int .i64 s.of, .int .i64 s.to, .int .i64 s.r] 63) = W := ⟨_, rfl⟩
  rw [hW] at c0 c1 c2 c3 c4 hbel
  have hO' := hO.below hbel
  have hbel := hbel.mono hbase
  have hb' : base ≤ W.heap.size := Nat.le_trans hbase hbel.size
  have t1 := fun w => isVert_any (some ⟨b, 0, none⟩) g.n cap s.who w
  by_cases h1 : s.who < 0 ∨ (g.n : Int) ≤ s.who
  · have HC := Hid.mkI (stepCode_who (g := g) (s := s) h1)
    rw [inB_no h1] at t1
    clear h1 hO hO'
    go_enter Tryd.func33, Tryd.ntmps33
    go_wp2_with (go_at_call 47; refine (t1 _).mono ?_; clear t1; rintro e w' ⟨rfl, hw⟩; obtain rfl := hw.symm)
    go_ret2
    exact playIs_err _ HC.out (by decide) rfl hbel
  · rw [inB_yes (by omega) (by omega)] at t1
    by_cases hk : s.k = 2
    · have hc := stepCode_new (g := g) (s := s) (by omega) (by omega) hk
      obtain ⟨who, ew⟩ := Int.eq_ofNat_of_zero_le (show 0 ≤ s.who by omega)
      obtain ⟨k, wh, of, to, r⟩ := s
      simp only at c0 c1 c2 c3 c4 hW hk h1 t1 ew hc ⊢
      subst hk
      subst ew
      by_cases hn : g.n = 20
      · rw [if_pos hn] at hc
        have HC := Hid.mkI hc
        have t := fun w => grow_full (some ⟨b, 0, none⟩) g.n cap hn (who : Int) w
        clear hc h1 hO hO' hn
        go_enter Tryd.func33, Tryd.ntmps33
        go_wp2_with (first | (go_at_call 47; refine (t1 _).mono ?_; clear t1; rintro e w' ⟨rfl, hw⟩; obtain rfl := hw.symm) | (go_at_call 58; refine (t _).mono ?_; clear t; rintro e w' ⟨rfl, hw⟩; obtain rfl := hw.symm))
        go_ret2
        exact playIs_err _ HC.out (by decide) rfl hbel
      · rw [if_neg hn] at hc
        have HC := Hid.mkI hc
        have t := grow_any hO' ok hb' who (by omega) hn
        have HN : Hid (stepNext g ⟨2, who, of, to, r⟩ = ⟨g.n + 1, growM g.M g.n who⟩) := rfl
        clear hc h1 hO hO' hn
        go_enter Tryd.func33, Tryd.ntmps33
        go_wp2_with (first | (go_at_call 47; refine (t1 _).mono ?_; clear t1; rintro e w' ⟨rfl, hw⟩; obtain rfl := hw.symm) | (go_at_call 58; refine t.mono ?_; clear t; rintro e w3 ⟨b', cap', C', K', rfl, hO3, hB3⟩))
        go_ret2
        refine ⟨.inr ⟨HC.out, b', cap', C', K', ?_, ?_⟩, hbel.trans (hB3)⟩
        · rw [HN.out]; rfl
        · rw [HN.out]; exact hO3
    · by_cases hk2 : s.k = 0 ∨ s.k = 1
      · have hh := hand_any hO' hb' ok s (by omega) (by omega) hk2
        have hW' : ∀ q, q = W → stpV s = .agg #[.int .i64 s.k, .int .i64 s.who, .int .i64 s.of, .int .i64 s.to, .int .i64 s.r] := fun _ _ => rfl
        clear hW'
        obtain ⟨k, who, of, to, r⟩ := s
        simp only at c0 c1 c2 c3 c4 hW hk hk2 h1 t1 hh ⊢
        rcases hk2 with hk2 | hk2
        · subst hk2
          have t := hh of who 1 rfl rfl rfl
          clear hh h1 hk hO hO'
          go_enter Tryd.func33, Tryd.ntmps33
          go_wp2_with (first | (go_at_call 47; refine (t1 _).mono ?_; clear t1; rintro e w' ⟨rfl, hw⟩; obtain rfl := hw.symm) | (go_at_call 57; refine t.mono ?_; clear t; rintro e w3 ⟨⟨hc, rfl⟩ | ⟨hc, rfl, hO3⟩, hB3⟩))
          · go_wp2
            go_ret2
            exact playIs_err _ rfl hc rfl (hbel.trans hB3)
          · have HO := Hid.mkI hO3
            have HC := Hid.mkI hc
            clear hO3 hc
            go_wp2
            go_ret2
            exact ⟨.inr ⟨HC.out, b, cap, C, K, rfl, HO.out⟩, hbel.trans hB3⟩
        · subst hk2
          have t := hh who of 2 rfl rfl rfl
          clear hh h1 hk hO hO'
          go_enter Tryd.func33, Tryd.ntmps33
          go_wp2_with (first | (go_at_call 47; refine (t1 _).mono ?_; clear t1; rintro e w' ⟨rfl, hw⟩; obtain rfl := hw.symm) | (go_at_call 57; refine t.mono ?_; clear t; rintro e w3 ⟨⟨hc, rfl⟩ | ⟨hc, rfl, hO3⟩, hB3⟩))
          · go_wp2
            go_ret2
            exact playIs_err _ rfl hc rfl (hbel.trans hB3)
          · have HO := Hid.mkI hO3
            have HC := Hid.mkI hc
            clear hO3 hc
            go_wp2
            go_ret2
            exact ⟨.inr ⟨HC.out, b, cap, C, K, rfl, HO.out⟩, hbel.trans hB3⟩
      · have HC := Hid.mkI (stepCode_kind (g := g) (s := s) (by omega))
        have k0 : (s.k == 0) = false := by simpa using (show s.k ≠ 0 by omega)
        have k1 : (s.k == 1) = false := by simpa using (show s.k ≠ 1 by omega)
        have k2 : (s.k == 2) = false := by simpa using hk
        clear h1 hO hO' hk hk2
        go_enter Tryd.func33, Tryd.ntmps33
        go_wp2_with (go_at_call 47; refine (t1 _).mono ?_; clear t1; rintro e w' ⟨rfl, hw⟩; obtain rfl := hw.symm)
        go_ret2
        exact playIs_err _ HC.out (by decide) rfl hbel
end
end Go.Proofs.YtdmdoikkemfcaaaDoor
