/- The walk of the law GrantOrder. -/
import Derived.WalkKit
import Derived.LoopTactic
import Derived.Test.YtoecomgiggalkaaDoorGraL
import Derived.Test.YtoecomgiggalkaaDoorGraS
namespace Go.Proofs.YtoecomgiggalkaaDoor
open Go.RowKit
set_option maxRecDepth 100000

/-- What Revoke tells of what is left, and what it leaves. -/
theorem rev_then {users : Int} {l : List Giv} {a b c d : Int} (h1 : revC users l a b = 0) (h2 : revC users l c d = 0) :
    (revC users (revL a b l) c d = 5 ∧ revL c d (revL a b l) = revL a b l) ∨ revC users (revL a b l) c d = 0 := by
  obtain ⟨hok, _⟩ := revC_ok h1
  obtain ⟨_, u1, u2, u3, u4, _⟩ := revC_ok h2
  unfold revC
  rw [if_pos ((givC_iff _ _).2 (hok.rev a b).ok), if_neg (by omega)]
  by_cases q : (outL c d (revL a b l)).length = (revL a b l).length
  · rw [if_pos q]
    exact .inl ⟨rfl, grev_self q⟩
  · rw [if_neg q]
    exact .inr rfl
theorem gerror_errV (c : Int) (w : World) (hE : ErrT w) (x : Int) : Calls Tryd.prog 8 #[errV c, .int .i64 x] w fun e w' => e = .returned (.bool (c == x)) ∧ Below w.heap.size w w' := by
  by_cases h : c = 0
  · subst h
    exact (error_nil x w).mono fun e w' ⟨he, hw⟩ => ⟨he, hw ▸ Below.refl _ _⟩
  · rw [errV, if_neg h]
    exact error_err c x w hE
/-- What is held against each other in the end: what one left, or what both left. -/
def PickV (w : World) (e : Int) (v x : Value) (m : List Giv) : Prop := GivV w (if e = 5 then x else v) m
set_option maxHeartbeats 4000000 in
theorem grantOrder_any (users : Int) (ad : Option Addr) (cap : Nat) (l : List Giv) (a b c d : Int) (w : World) (h : AtGivs w ad l.length (nthV l)) (hE : ErrT w) :
    Calls Tryd.prog 5 #[.int .i64 users, .slice ad l.length cap, .int .i64 a, .int .i64 b, .int .i64 c, .int .i64 d] w fun e w' => e = .returned (.bool true) ∧ Below w.heap.size w w' := by
  have t0 := grantFact_any w
  have t1 := fun w1 (hB : Below w.heap.size w w1) => revoke_any users ad cap l a b w1 (h.below hB)
  have t2 := fun w1 (hB : Below w.heap.size w w1) => revoke_any users ad cap l c d w1 (h.below hB)
  have HET := Hid.mkI (And.intro hE (old_of_cell hE))
  have HL : Hid (revC users l a b = 0 → l.length ≤ 40) := fun h => (revC_ok h).1.len
  obtain ⟨n, hn⟩ : ∃ n, l.length = n := ⟨_, rfl⟩
  rw [hn] at t1 t2 HL ⊢
  have HN := Hid.mkI hn
  clear h hn hE
  go_enter Tryd.func5, Tryd.ntmps5
  go_wp2_with fail
  refine t0.mono ?_
  clear t0
  rintro e w1 ⟨rfl, hB1⟩
  have t1 := t1 w1 hB1
  go_wp2_with fail
  refine t1.mono ?_
  clear t1
  rintro e w2 ⟨v1, rfl, hv1, hB2⟩
  have hB3 := hB1.trans (hB2.mono hB1.size)
  have t2 := t2 w2 hB3
  go_wp2_with fail
  refine t2.mono ?_
  clear t2
  rintro e w3 ⟨v2, rfl, hv2, hB4⟩
  have hB5 := hB3.trans (hB4.mono hB3.size)
  have HV1 := Hid.mkI (hv1.below hB4)
  have HV2 := Hid.mkI hv2
  clear hv1 hv2 hB1 hB2 hB3 hB4
  by_cases hc1 : revC users l a b = 0
  · by_cases hc2 : revC users l c d = 0
    · have HT1 := Hid.mkI (rev_then hc1 hc2)
      have HT2 := Hid.mkI (rev_then hc2 hc1)
      have hok := (revC_ok hc1).1
      have HLen : Hid ((revL a b (revL c d l)).length < 2 ^ 30) := by
        have h1 := (hok.rev c d).ok
        have h2 := (h1.rev a b).ok.len
        show _ < _
        omega
      have HR : Hid (revL c d (revL a b l) = revL a b (revL c d l)) := rev_rev a b c d l
      have g1 : GivV w3 v1 (revL a b l) := by
        rcases HV1.out with ⟨h, _⟩ | ⟨_, h⟩
        · exact absurd hc1 h
        · exact h
      have g2 : GivV w3 v2 (revL c d l) := by
        rcases HV2.out with ⟨h, _⟩ | ⟨_, h⟩
        · exact absurd hc2 h
        · exact h
      rw [hc1, hc2, errV_zero]
      clear hok hc1 hc2 HV1 HV2 HL
      have HG1 := Hid.mkI g1
      have HG2 := Hid.mkI g2
      obtain ⟨a1, k1, rfl, h1⟩ := g1
      obtain ⟨a2, k2, rfl, h2⟩ := g2
      have t3 := revoke_any users a1 k1 (revL a b l) c d w3 h1
      have t4 := fun w4 (hB : Below w3.heap.size w3 w4) => revoke_any users a2 k2 (revL c d l) a b w4 (h2.below hB)
      have HS : Hid (∀ (w' : World) (v v' : Value), GivV w' v (revL c d (revL a b l)) → GivV w' v' (revL a b (revL c d l)) → Calls Tryd.prog 17 #[v, v'] w' fun e w'' => e = .returned (.bool true) ∧ ∃ k, w'' = w'.drewN k) := fun w' v v' x1 x2 => by
        rw [HR.out] at x1
        exact ggivs_same v v' _ HLen.out w' x1 x2
      have HP1 : Hid (∀ (w' : World) (v : Value), Below w3.heap.size w3 w' → RevV w' v users (revL a b l) c d → (revC users (revL a b l) c d = 5 ∧ GivV w' (.slice a1 (revL a b l).length k1) (revL c d (revL a b l))) ∨ (revC users (revL a b l) c d = 0 ∧ GivV w' v (revL c d (revL a b l)))) := fun w' v hB hv => by
        rcases HT1.out with ⟨e, e'⟩ | e
        · exact .inl ⟨e, by rw [e']; exact HG1.out.below hB⟩
        · rcases hv with ⟨h, _⟩ | ⟨_, h⟩
          · exact absurd e h
          · exact .inr ⟨e, h⟩
      have HP2 : Hid (∀ (w' : World) (v : Value), Below w3.heap.size w3 w' → RevV w' v users (revL c d l) a b → (revC users (revL c d l) a b = 5 ∧ GivV w' (.slice a2 (revL c d l).length k2) (revL a b (revL c d l))) ∨ (revC users (revL c d l) a b = 0 ∧ GivV w' v (revL a b (revL c d l)))) := fun w' v hB hv => by
        rcases HT2.out with ⟨e, e'⟩ | e
        · exact .inl ⟨e, by rw [e']; exact HG2.out.below hB⟩
        · rcases hv with ⟨h, _⟩ | ⟨_, h⟩
          · exact absurd e h
          · exact .inr ⟨e, h⟩
      obtain ⟨m1, hm1⟩ : ∃ m, revL a b l = m := ⟨_, rfl⟩
      obtain ⟨m2, hm2⟩ : ∃ m, revL c d l = m := ⟨_, rfl⟩
      rw [hm1] at t3 HS HP1 ⊢
      rw [hm2] at t4 HS HP2 ⊢
      obtain ⟨x1, hx1⟩ : ∃ x, m1.length = x := ⟨_, rfl⟩
      obtain ⟨x2, hx2⟩ : ∃ x, m2.length = x := ⟨_, rfl⟩
      rw [hx1] at t3 HP1 ⊢
      rw [hx2] at t4 HP2 ⊢
      obtain ⟨q1, hq1⟩ : ∃ q, revC users m1 c d = q := ⟨_, rfl⟩
      obtain ⟨q2, hq2⟩ : ∃ q, revC users m2 a b = q := ⟨_, rfl⟩
      rw [hq1] at t3 HP1
      rw [hq2] at t4 HP2
      clear HT1 HT2 HG1 HG2 h1 h2 hm1 hm2 hx1 hx2 hq1 hq2 HR HLen
      go_wp2_with fail
      refine t3.mono ?_
      clear t3
      rintro e w4 ⟨v3, rfl, hv3, hB6⟩
      have t4 := t4 w4 hB6
      go_wp2_with fail
      refine t4.mono ?_
      clear t4
      rintro e w5 ⟨v4, rfl, hv4, hB7⟩
      have hB8 := hB6.trans (hB7.mono hB6.size)
      have p1 := HP1.out w5 v3 hB8 (hv3.below hB7)
      have p2 := HP2.out w5 v4 hB8 hv4
      have hB9 := hB5.trans (hB8.mono hB5.size)
      clear hv3 hv4 HP1 HP2 hB6 hB7 hB8 hB5
      have e1 := gerror_errV q1 w5 (HET.out.1.below hB9 HET.out.2) 5
      have e2 := fun w6 (hB : Below w5.heap.size w5 w6) => gerror_errV q2 w6 ((HET.out.1.below hB9 HET.out.2).below hB (Nat.lt_of_lt_of_le HET.out.2 hB9.size)) 5
      rcases p1 with ⟨rfl, g1⟩ | ⟨rfl, g1⟩
      · rw [gerrV_ne (c := 5) (by decide)] at e1 ⊢
        have G1 := Hid.mkI g1
        clear g1
        go_wp2_with fail
        refine e1.mono ?_
        clear e1
        rintro e w6 ⟨rfl, hB10⟩
        have e2 := e2 w6 hB10
        rcases p2 with ⟨rfl, g2⟩ | ⟨rfl, g2⟩
        · rw [gerrV_ne (c := 5) (by decide)] at e2 ⊢
          have G2 := Hid.mkI g2
          clear g2
          go_wp2_with fail
          refine e2.mono ?_
          clear e2
          rintro e w7 ⟨rfl, hB11⟩
          have hB12 := hB10.trans (hB11.mono hB10.size)
          have tS := HS.out w7 _ _ (G1.out.below hB12) (G2.out.below hB12)
          have hB13 := hB9.trans (hB12.mono hB9.size)
          go_wp2_with fail
          refine tS.mono ?_
          clear tS
          rintro e w8 ⟨rfl, k, hk⟩
          have hB14 : Below w.heap.size w w8 := by rw [hk]; exact below_drawn hB13 k
          clear hk
          go_wp2_with fail
          go_ret
          exact ⟨rfl, hB14⟩
        · rw [errV_zero] at e2 ⊢
          have G2 := Hid.mkI g2
          clear g2
          go_wp2_with fail
          refine e2.mono ?_
          clear e2
          rintro e w7 ⟨rfl, hB11⟩
          have hB12 := hB10.trans (hB11.mono hB10.size)
          have tS := HS.out w7 _ _ (G1.out.below hB12) (G2.out.below hB12)
          have hB13 := hB9.trans (hB12.mono hB9.size)
          go_wp2_with fail
          refine tS.mono ?_
          clear tS
          rintro e w8 ⟨rfl, k, hk⟩
          have hB14 : Below w.heap.size w w8 := by rw [hk]; exact below_drawn hB13 k
          clear hk
          go_wp2_with fail
          go_ret
          exact ⟨rfl, hB14⟩
      · rw [errV_zero] at e1 ⊢
        have G1 := Hid.mkI g1
        clear g1
        go_wp2_with fail
        refine e1.mono ?_
        clear e1
        rintro e w6 ⟨rfl, hB10⟩
        have e2 := e2 w6 hB10
        rcases p2 with ⟨rfl, g2⟩ | ⟨rfl, g2⟩
        · rw [gerrV_ne (c := 5) (by decide)] at e2 ⊢
          have G2 := Hid.mkI g2
          clear g2
          go_wp2_with fail
          refine e2.mono ?_
          clear e2
          rintro e w7 ⟨rfl, hB11⟩
          have hB12 := hB10.trans (hB11.mono hB10.size)
          have tS := HS.out w7 _ _ (G1.out.below hB12) (G2.out.below hB12)
          have hB13 := hB9.trans (hB12.mono hB9.size)
          go_wp2_with fail
          refine tS.mono ?_
          clear tS
          rintro e w8 ⟨rfl, k, hk⟩
          have hB14 : Below w.heap.size w w8 := by rw [hk]; exact below_drawn hB13 k
          clear hk
          go_wp2_with fail
          go_ret
          exact ⟨rfl, hB14⟩
        · rw [errV_zero] at e2 ⊢
          have G2 := Hid.mkI g2
          clear g2
          go_wp2_with fail
          refine e2.mono ?_
          clear e2
          rintro e w7 ⟨rfl, hB11⟩
          have hB12 := hB10.trans (hB11.mono hB10.size)
          have tS := HS.out w7 _ _ (G1.out.below hB12) (G2.out.below hB12)
          have hB13 := hB9.trans (hB12.mono hB9.size)
          go_wp2_with fail
          refine tS.mono ?_
          clear tS
          rintro e w8 ⟨rfl, k, hk⟩
          have hB14 : Below w.heap.size w w8 := by rw [hk]; exact below_drawn hB13 k
          clear hk
          go_wp2_with fail
          go_ret
          exact ⟨rfl, hB14⟩
    · rw [hc1, errV_zero, gerrV_ne hc2]
      clear hc1 hc2 HV1 HV2 HL
      go_wp2_with fail
      go_ret
      exact ⟨rfl, hB5⟩
  · rw [gerrV_ne hc1]
    obtain ⟨ev, hev⟩ : ∃ v, errV (revC users l c d) = v := ⟨_, rfl⟩
    rw [hev]
    clear hc1 hev HV1 HV2 HL
    go_wp2_with fail
    go_ret
    exact ⟨rfl, hB5⟩
end Go.Proofs.YtoecomgiggalkaaDoor
