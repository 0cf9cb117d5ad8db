/- What comes with each role, or what is wrong with roles (coming). -/
import Derived.WalkKit
import Derived.LoopTactic
import Derived.Test.YtolpkjemgdapgaaDoorRolC
namespace Go.Proofs.YtolpkjemgdapgaaDoor
open Go.RowKit
set_option maxRecDepth 100000

theorem areTasks_any (a : Option Addr) (m cap : Nat) (zs : List Int) (hm : m ≤ 12) (w : World) (h : AtNums w a m zs) :
    Calls Tryd.prog 13 #[.slice a m cap, .int .i64 10] w fun e w' => e = .returned (.bool (allG 10 m zs)) ∧ w' = w := areSets_any a m cap 10 zs (by decide) hm w h
/-- What is wrong with the least part of roles that has a fault. -/
def RolBad (R : Rol) (c : Int) : Prop :=
  (c = 4 ∧ (8 < R.mu ∨ 8 < R.m)) ∨ (c = 3 ∧ R.mu ≤ 8 ∧ R.m ≤ 8 ∧ R.mm ≠ R.m) ∨ (c = 1 ∧ R.mu ≤ 8 ∧ R.m ≤ 8 ∧ R.mm = R.m ∧ allG R.m R.mu R.us = false) ∨
  (c = 1 ∧ R.mu ≤ 8 ∧ R.m ≤ 8 ∧ R.mm = R.m ∧ allG R.m R.mu R.us = true ∧ allG R.m R.m R.ab = false) ∨
  (c = 6 ∧ R.mu ≤ 8 ∧ R.m ≤ 8 ∧ R.mm = R.m ∧ allG R.m R.mu R.us = true ∧ allG R.m R.m R.ab = true ∧ noRing R.m R.C = false) ∨
  (c = 1 ∧ R.mu ≤ 8 ∧ R.m ≤ 8 ∧ R.mm = R.m ∧ allG R.m R.mu R.us = true ∧ allG R.m R.m R.ab = true ∧ noRing R.m R.C = true ∧ (allG 10 R.m R.ma = false ∨ goodB R.m R.few = false ∨ R.most < 0 ∨ 8 < R.most)) ∨
  (c = 7 ∧ R.Most ∧ R.over = true)
section
variable {R : Rol}
theorem RolBad.full (h : 8 < R.mu ∨ 8 < R.m) : RolBad R 4 := .inl ⟨rfl, h⟩
theorem RolBad.shape (h1 : R.mu ≤ 8) (h2 : R.m ≤ 8) (h : R.mm ≠ R.m) : RolBad R 3 := .inr (.inl ⟨rfl, h1, h2, h⟩)
theorem RolBad.users (h1 : R.mu ≤ 8) (h2 : R.m ≤ 8) (h3 : R.mm = R.m) (h : allG R.m R.mu R.us = false) : RolBad R 1 := .inr (.inr (.inl ⟨rfl, h1, h2, h3, h⟩))
theorem RolBad.rel (h1 : R.mu ≤ 8) (h2 : R.m ≤ 8) (h3 : R.mm = R.m) (h4 : allG R.m R.mu R.us = true) (h : allG R.m R.m R.ab = false) : RolBad R 1 := .inr (.inr (.inr (.inl ⟨rfl, h1, h2, h3, h4, h⟩)))
theorem RolBad.ring (h1 : R.mu ≤ 8) (h2 : R.m ≤ 8) (h3 : R.mm = R.m) (h4 : allG R.m R.mu R.us = true) (h5 : allG R.m R.m R.ab = true) (h : noRing R.m R.C = false) : RolBad R 6 := .inr (.inr (.inr (.inr (.inl ⟨rfl, h1, h2, h3, h4, h5, h⟩))))
theorem RolBad.rest (h1 : R.mu ≤ 8) (h2 : R.m ≤ 8) (h3 : R.mm = R.m) (h4 : allG R.m R.mu R.us = true) (h5 : allG R.m R.m R.ab = true) (h6 : noRing R.m R.C = true)
    (h : allG 10 R.m R.ma = false ∨ goodB R.m R.few = false ∨ R.most < 0 ∨ 8 < R.most) : RolBad R 1 := .inr (.inr (.inr (.inr (.inr (.inl ⟨rfl, h1, h2, h3, h4, h5, h6, h⟩)))))
theorem RolBad.over (h : R.Most) (h1 : R.over = true) : RolBad R 7 := .inr (.inr (.inr (.inr (.inr (.inr ⟨rfl, h, h1⟩)))))
end
theorem rolBad_of {R : Rol} (hc : R.code ≠ 0) : RolBad R R.code := by
  unfold Rol.code at hc ⊢
  by_cases h1 : 8 < R.mu ∨ 8 < R.m
  · rw [if_pos h1]; exact .full h1
  rw [if_neg h1] at hc ⊢
  by_cases h2 : R.mm ≠ R.m
  · rw [if_pos h2]; exact .shape (by omega) (by omega) h2
  rw [if_neg h2] at hc ⊢
  by_cases h3 : allG R.m R.mu R.us = false
  · rw [if_pos h3]; exact .users (by omega) (by omega) (by omega) h3
  rw [if_neg h3] at hc ⊢
  have g3 : allG R.m R.mu R.us = true := by simpa using h3
  by_cases h4 : allG R.m R.m R.ab = false
  · rw [if_pos h4]; exact .rel (by omega) (by omega) (by omega) g3 h4
  rw [if_neg h4] at hc ⊢
  have g4 : allG R.m R.m R.ab = true := by simpa using h4
  by_cases h5 : noRing R.m R.C = false
  · rw [if_pos h5]; exact .ring (by omega) (by omega) (by omega) g3 g4 h5
  rw [if_neg h5] at hc ⊢
  have g5 : noRing R.m R.C = true := by simpa using h5
  by_cases h6 : allG 10 R.m R.ma = false ∨ goodB R.m R.few = false ∨ R.most < 0 ∨ 8 < R.most
  · rw [if_pos h6]; exact .rest (by omega) (by omega) (by omega) g3 g4 g5 h6
  rw [if_neg h6] at hc ⊢
  by_cases h7 : R.over = true
  · rw [if_pos h7]
    rw [not_or, not_or, not_or, Bool.not_eq_false] at h6
    exact .over ⟨by omega, by omega, by omega, (allG_iff _ _ _).1 g3, (allG_iff _ _ _).1 g4, g5, (allG_iff _ _ _).1 h6.1, (goodB_iff _ _).1 (by simpa using h6.2.1), by omega, by omega⟩ h7
  · rw [if_neg h7] at hc
    exact absurd rfl hc

set_option maxHeartbeats 4000000 in
theorem coming_bad (aU aA aM : Option Addr) (cU cA cM : Nat) (R : Rol) (c : Int) (hb : RolBad R c) (w : World) (hA : AtRol w aU aA aM R) (hT : Tab w) :
    Calls Tryd.prog 10 #[rolV aU aA aM cU cA cM R] w fun e w' => e = .returned (.tuple #[.slice none 0 0, .iface 36 (.int .i64 c)]) ∧ Below w.heap.size w w' := by
  obtain ⟨w1, hw1⟩ : ∃ w1, w.alloc (.cells #[.slice aU R.mu cU, .slice aA R.m cA, .slice aM R.mm cM, .int .i64 R.few, .int .i64 R.most] 24) = w1 := ⟨_, rfl⟩
  have hB0 : Below w.heap.size w w1 := by rw [← hw1]; exact (Below.refl _ w).alloc (Nat.le_refl _) _
  have hx : Box5 w1 w.heap.size (.slice aU R.mu cU) (.slice aA R.m cA) (.slice aM R.mm cM) (.int .i64 R.few) (.int .i64 R.most) := by rw [← hw1]; exact Box5.new _ _ _ _ _ _ _
  have HA := Hid.mkI (hA.below hB0)
  have hT1 := Hid.mkI (hT.below hB0 hT.size)
  obtain ⟨x0, x1, x2, x3, x4⟩ := id hx
  have HX := Hid.mkI hx
  have HO := Hid.mkI hB0
  clear hA hT hx hB0
  rcases hb with ⟨rfl, h⟩ | ⟨rfl, h1, h2, h⟩ | ⟨rfl, h1, h2, h3, h⟩ | ⟨rfl, h1, h2, h3, h4, h⟩ | ⟨rfl, h1, h2, h3, h4, h5, h⟩ | ⟨rfl, h1, h2, h3, h4, h5, h6, h⟩ | ⟨rfl, h, h7⟩
  · skip
    by_cases q : 8 < R.mu
    · have q' : (8 : Int) < (R.mu : Int) := by omega
      clear h q
      go_enter Tryd.func10, Tryd.ntmps10
      go_wp2
      go_ret2
      exact ⟨rfl, HO.out⟩
    · have q1 : (R.mu : Int) ≤ 8 := by omega
      have q' : (8 : Int) < (R.m : Int) := by omega
      clear h q
      go_enter Tryd.func10, Tryd.ntmps10
      go_wp2
      go_ret2
      exact ⟨rfl, HO.out⟩
  · skip
    have q1 : (R.mu : Int) ≤ 8 := by omega
    have q2 : (R.m : Int) ≤ 8 := by omega
    have q3 : ((R.mm : Int) != (R.m : Int)) = true := by simp; omega
    clear h h1 h2
    go_enter Tryd.func10, Tryd.ntmps10
    go_wp2
    go_ret2
    exact ⟨rfl, HO.out⟩
  · skip
    have q1 : (R.mu : Int) ≤ 8 := by omega
    have q2 : (R.m : Int) ≤ 8 := by omega
    have q3 : ((R.mm : Int) != (R.m : Int)) = false := by simp; omega
    have t1 := areSets_any aU R.mu cU R.m R.us (by omega) (by omega) w1 HA.out.us
    rw [h] at t1
    clear h h1 h2 h3
    go_enter Tryd.func10, Tryd.ntmps10
    go_wp2_with (go_at_call 13; (with_reducible refine t1.mono ?_); rintro e w' ⟨rfl, rfl⟩)
    go_ret2
    exact ⟨rfl, HO.out⟩
  · skip
    have q1 : (R.mu : Int) ≤ 8 := by omega
    have q2 : (R.m : Int) ≤ 8 := by omega
    have q3 : ((R.mm : Int) != (R.m : Int)) = false := by simp; omega
    have t1 := areSets_any aU R.mu cU R.m R.us (by omega) (by omega) w1 HA.out.us
    have t2 := OrderClosure_wrong aA R.m cA R.ab w1 HA.out.ab (fun q => by have := (allG_iff _ _ _).2 q.2; rw [h] at this; cases this)
    rw [show wrongN R.m = 1 by unfold wrongN; rw [if_neg (by omega)]] at t2
    rw [h4] at t1
    clear h h1 h2 h3 h4
    go_enter Tryd.func10, Tryd.ntmps10
    go_wp2_with (first | (go_at_call 13; (with_reducible refine t1.mono ?_); rintro e w' ⟨rfl, rfl⟩) | (go_at_call 14; (with_reducible refine t2.mono ?_); rintro e w' ⟨rfl, rfl⟩))
    go_ret2
    exact ⟨rfl, HO.out⟩
  · skip
    have q1 : (R.mu : Int) ≤ 8 := by omega
    have q2 : (R.m : Int) ≤ 8 := by omega
    have q3 : ((R.mm : Int) != (R.m : Int)) = false := by simp; omega
    have t1 := areSets_any aU R.mu cU R.m R.us (by omega) (by omega) w1 HA.out.us
    have t2 := OrderClosure_no aA R.m cA R.ab HA.out.la w1 HA.out.ab hT1.out ⟨by omega, (allG_iff _ _ _).1 h5⟩ h
    rw [h4] at t1
    clear h h1 h2 h3 h4 h5
    go_enter Tryd.func10, Tryd.ntmps10
    go_wp2_with (first | (go_at_call 13; (with_reducible refine t1.mono ?_); rintro e w' ⟨rfl, rfl⟩) | (go_at_call 14; (with_reducible refine t2.mono ?_); rintro e w2 ⟨rfl, hB⟩))
    go_ret2
    exact ⟨rfl, HO.out.trans (hB.mono HO.out.size)⟩
  · skip
    have q1 : (R.mu : Int) ≤ 8 := by omega
    have q2 : (R.m : Int) ≤ 8 := by omega
    have q3 : ((R.mm : Int) != (R.m : Int)) = false := by simp; omega
    have t1 := areSets_any aU R.mu cU R.m R.us (by omega) (by omega) w1 HA.out.us
    have t2 := OrderClosure_yes aA R.m cA R.ab HA.out.la w1 HA.out.ab hT1.out ⟨by omega, (allG_iff _ _ _).1 h5⟩ h6
    have t3 := fun W (b : Below w1.heap.size w1 W) => areTasks_any aM R.mm cM R.ma (by omega) W (HA.out.ma.below b)
    rw [h3] at t3
    have t4 := fun W => isSet_any R.few R.m (by omega) W
    rw [h4] at t1
    have e3 := h3
    have hX := HX.out
    rw [h3] at x2 hw1 hX
    have HX := Hid.mkI hX
    clear hX
    show Calls _ _ #[.agg #[.slice aU R.mu cU, .slice aA R.m cA, .slice aM R.mm cM, .int .i64 R.few, .int .i64 R.most]] _ _
    rw [h3]
    by_cases z1 : allG 10 R.m R.ma = false
    · rw [z1] at t3
      clear h h1 h2 h3 h4 h5 h6 z1 e3 q3
      go_enter Tryd.func10, Tryd.ntmps10
      go_wp2_with (first | (go_at_call 13; (with_reducible refine t1.mono ?_); clear t1; rintro e w' ⟨rfl, rfl⟩) | (go_at_call 14; (with_reducible refine t2.mono ?_); clear t2; rintro e w2 ⟨rfl, ho, hB⟩; obtain ⟨y0, y1, y2, y3, y4⟩ := HX.out.below hB; have t3 := t3 _ hB) | (go_at_call 13; (with_reducible refine t3.mono ?_); rintro e w' ⟨rfl, rfl⟩))
      go_ret2
      exact ⟨rfl, HO.out.trans (hB.mono HO.out.size)⟩
    · rw [show allG 10 R.m R.ma = true by simpa using z1] at t3
      by_cases z2 : goodB R.m R.few = false
      · rw [z2] at t4
        clear h h1 h2 h3 h4 h5 h6 z1 e3 q3 z2
        go_enter Tryd.func10, Tryd.ntmps10
        go_wp2_with (first | (go_at_call 13; (with_reducible refine t1.mono ?_); clear t1; rintro e w' ⟨rfl, rfl⟩) | (go_at_call 14; (with_reducible refine t2.mono ?_); clear t2; rintro e w2 ⟨rfl, ho, hB⟩; obtain ⟨y0, y1, y2, y3, y4⟩ := HX.out.below hB; have t3 := t3 _ hB) | (go_at_call 13; (with_reducible refine t3.mono ?_); rintro e w' ⟨rfl, rfl⟩) | (go_at_call 15; (with_reducible refine (t4 _).mono ?_); rintro e w' ⟨rfl, rfl⟩))
        go_ret2
        exact ⟨rfl, HO.out.trans (hB.mono HO.out.size)⟩
      · rw [show goodB R.m R.few = true by simpa using z2] at t4
        by_cases z3 : R.most < 0
        · clear h h1 h2 h3 h4 h5 h6 z1 e3 q3 z2
          go_enter Tryd.func10, Tryd.ntmps10
          go_wp2_with (first | (go_at_call 13; (with_reducible refine t1.mono ?_); clear t1; rintro e w' ⟨rfl, rfl⟩) | (go_at_call 14; (with_reducible refine t2.mono ?_); clear t2; rintro e w2 ⟨rfl, ho, hB⟩; obtain ⟨y0, y1, y2, y3, y4⟩ := HX.out.below hB; have t3 := t3 _ hB) | (go_at_call 13; (with_reducible refine t3.mono ?_); rintro e w' ⟨rfl, rfl⟩) | (go_at_call 15; (with_reducible refine (t4 _).mono ?_); rintro e w' ⟨rfl, rfl⟩))
          go_ret2
          exact ⟨rfl, HO.out.trans (hB.mono HO.out.size)⟩
        · have z4 : 8 < R.most := by
            rcases h with h | h | h | h
            · exact absurd h z1
            · exact absurd h z2
            · exact absurd h z3
            · exact h
          have z5 : 0 ≤ R.most := by omega
          clear h h1 h2 h3 h4 h5 h6 z1 e3 q3 z2 z3
          go_enter Tryd.func10, Tryd.ntmps10
          go_wp2_with (first | (go_at_call 13; (with_reducible refine t1.mono ?_); clear t1; rintro e w' ⟨rfl, rfl⟩) | (go_at_call 14; (with_reducible refine t2.mono ?_); clear t2; rintro e w2 ⟨rfl, ho, hB⟩; obtain ⟨y0, y1, y2, y3, y4⟩ := HX.out.below hB; have t3 := t3 _ hB) | (go_at_call 13; (with_reducible refine t3.mono ?_); rintro e w' ⟨rfl, rfl⟩) | (go_at_call 15; (with_reducible refine (t4 _).mono ?_); rintro e w' ⟨rfl, rfl⟩))
          go_ret2
          exact ⟨rfl, HO.out.trans (hB.mono HO.out.size)⟩
  · skip
    have q1 : (R.mu : Int) ≤ 8 := by have := h.mu8; omega
    have q2 : (R.m : Int) ≤ 8 := by have := h.m8; omega
    have t1 := areSets_any aU R.mu cU R.m R.us h.n12 (by omega) w1 HA.out.us
    have t2 := OrderClosure_yes aA R.m cA R.ab HA.out.la w1 HA.out.ab hT1.out ⟨h.n12, h.ab⟩ h.ring
    have t3 := fun W (b : Below w1.heap.size w1 W) => areTasks_any aM R.mm cM R.ma (by have := h.mm; omega) W (HA.out.ma.below b)
    have t4 := fun W => isSet_any R.few R.m h.n12 W
    have t5 := fun W (b : Below w1.heap.size w1 W) (ho : Own W w1.heap.size R.m R.C) => tooMany_any aU aA aM cU cA cM w1.heap.size R.m R h W (HA.out.below b) ho (hT1.out.below b hT1.out.size)
    rw [(allG_iff _ _ _).2 h.us] at t1
    rw [h.mm, (allG_iff _ _ _).2 h.ma] at t3
    rw [goodB_yes h.few] at t4
    have z3 := h.m0
    have z4 := h.m1
    have h3 := h.mm
    rw [h7] at t5
    unfold rolV at t5
    have hX := HX.out
    rw [h3] at x2 hw1 t5 hX
    have HX := Hid.mkI hX
    clear hX
    show Calls _ _ #[.agg #[.slice aU R.mu cU, .slice aA R.m cA, .slice aM R.mm cM, .int .i64 R.few, .int .i64 R.most]] _ _
    rw [h3]
    clear h h3 h7
    go_enter Tryd.func10, Tryd.ntmps10
    go_wp2_with (first | (go_at_call 13; (with_reducible refine t1.mono ?_); clear t1; rintro e w' ⟨rfl, rfl⟩) | (go_at_call 14; (with_reducible refine t2.mono ?_); clear t2; rintro e w2 ⟨rfl, ho, hB⟩; obtain ⟨y0, y1, y2, y3, y4⟩ := HX.out.below hB; have t3 := t3 _ hB; have t5 := t5 _ hB ho) | (go_at_call 13; (with_reducible refine t3.mono ?_); rintro e w' ⟨rfl, rfl⟩) | (go_at_call 15; (with_reducible refine (t4 _).mono ?_); rintro e w' ⟨rfl, rfl⟩) | (go_at_call 16; (with_reducible refine t5.mono ?_); rintro e w3 ⟨rfl, hB3⟩))
    go_ret2
    exact ⟨rfl, HO.out.trans ((hB.trans (hB3.mono hB.size)).mono HO.out.size)⟩

set_option maxHeartbeats 4000000 in
theorem coming_ok (aU aA aM : Option Addr) (cU cA cM : Nat) (R : Rol) (hk : R.Ok) (w : World) (hA : AtRol w aU aA aM R) (hT : Tab w) :
    Calls Tryd.prog 10 #[rolV aU aA aM cU cA cM R] w fun e w' => ∃ g, e = .returned (.tuple #[.slice (some ⟨g, 0, none⟩) R.m R.m, .nilIface]) ∧ Own w' g R.m R.C ∧ Below w.heap.size w w' := by
  obtain ⟨w1, hw1⟩ : ∃ w1, w.alloc (.cells #[.slice aU R.mu cU, .slice aA R.m cA, .slice aM R.mm cM, .int .i64 R.few, .int .i64 R.most] 24) = w1 := ⟨_, rfl⟩
  have hB0 : Below w.heap.size w w1 := by rw [← hw1]; exact (Below.refl _ w).alloc (Nat.le_refl _) _
  have hx : Box5 w1 w.heap.size (.slice aU R.mu cU) (.slice aA R.m cA) (.slice aM R.mm cM) (.int .i64 R.few) (.int .i64 R.most) := by rw [← hw1]; exact Box5.new _ _ _ _ _ _ _
  have h := hk.toMost
  have h7 := hk.over
  have HA := Hid.mkI (hA.below hB0)
  have hT1 := Hid.mkI (hT.below hB0 hT.size)
  have q1 : (R.mu : Int) ≤ 8 := by have := h.mu8; omega
  have q2 : (R.m : Int) ≤ 8 := by have := h.m8; omega
  have t1 := areSets_any aU R.mu cU R.m R.us h.n12 (by omega) w1 HA.out.us
  have t2 := OrderClosure_yes aA R.m cA R.ab HA.out.la w1 HA.out.ab hT1.out ⟨h.n12, h.ab⟩ h.ring
  have t3 := fun W (b : Below w1.heap.size w1 W) => areTasks_any aM R.mm cM R.ma (by have := h.mm; omega) W (HA.out.ma.below b)
  have t4 := fun W => isSet_any R.few R.m h.n12 W
  have t5 := fun W (b : Below w1.heap.size w1 W) (ho : Own W w1.heap.size R.m R.C) => tooMany_any aU aA aM cU cA cM w1.heap.size R.m R h W (HA.out.below b) ho (hT1.out.below b hT1.out.size)
  rw [(allG_iff _ _ _).2 h.us] at t1
  rw [h.mm, (allG_iff _ _ _).2 h.ma] at t3
  rw [goodB_yes h.few] at t4
  have z3 := h.m0
  have z4 := h.m1
  have h3 := h.mm
  rw [h7] at t5
  unfold rolV at t5
  rw [h3] at hx hw1 t5
  obtain ⟨x0, x1, x2, x3, x4⟩ := id hx
  have HX := Hid.mkI hx
  have HO := Hid.mkI hB0
  show Calls _ _ #[.agg #[.slice aU R.mu cU, .slice aA R.m cA, .slice aM R.mm cM, .int .i64 R.few, .int .i64 R.most]] _ _
  rw [h3]
  clear hk h h3 h7 hA hT hx hB0
  go_enter Tryd.func10, Tryd.ntmps10
  go_wp2_with (first | (go_at_call 13; (with_reducible refine t1.mono ?_); clear t1; rintro e w' ⟨rfl, rfl⟩) | (go_at_call 14; (with_reducible refine t2.mono ?_); clear t2; rintro e w2 ⟨rfl, ho, hB⟩; obtain ⟨y0, y1, y2, y3, y4⟩ := HX.out.below hB; have t3 := t3 _ hB; have t5 := t5 _ hB ho) | (go_at_call 13; (with_reducible refine t3.mono ?_); rintro e w' ⟨rfl, rfl⟩) | (go_at_call 15; (with_reducible refine (t4 _).mono ?_); rintro e w' ⟨rfl, rfl⟩) | (go_at_call 16; (with_reducible refine t5.mono ?_); rintro e w3 ⟨rfl, hB3⟩))
  go_ret2
  exact ⟨_, rfl, Own.below ho hB3, HO.out.trans ((hB.trans (hB3.mono hB.size)).mono HO.out.size)⟩
end Go.Proofs.YtolpkjemgdapgaaDoor
