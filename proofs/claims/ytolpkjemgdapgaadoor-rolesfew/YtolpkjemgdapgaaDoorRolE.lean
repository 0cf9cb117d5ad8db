/- What is wrong with roles (Check), what roles a user has (Has), and what it may do (May). -/
import Derived.WalkKit
import Derived.LoopTactic
import Derived.Test.YtolpkjemgdapgaaDoorRolD
namespace Go.Proofs.YtolpkjemgdapgaaDoor
open Go.RowKit
set_option maxRecDepth 100000

theorem errV_ne {c : Int} (h : c ≠ 0) : errV c = .iface 36 (.int .i64 c) := by unfold errV; rw [if_neg h]
theorem inB_at {i : Int} {n : Nat} (h : inB i n = true) : ∃ k : Nat, i = k ∧ k < n := by
  have := of_decide_eq_true h
  exact ⟨i.toNat, by omega, by omega⟩
/-- What is told of a user of roles. -/
def Rol.hasC (R : Rol) (user : Int) : Int := if R.code = 0 then (if inB user R.mu = true then 0 else 1) else R.code
def Rol.hasN (R : Rol) (user : Int) : Nat := if R.hasC user = 0 then R.has (R.own user.toNat) else 0
def Rol.mayN (R : Rol) (user : Int) : Nat := if R.hasC user = 0 then R.tasks (R.own user.toNat) else 0
theorem Rol.hasC_bad {R : Rol} (h : R.code ≠ 0) (user : Int) : R.hasC user = R.code := by unfold Rol.hasC; rw [if_neg h]
theorem Rol.hasC_out {R : Rol} (h : R.Ok) {user : Int} (q : inB user R.mu = false) : R.hasC user = 1 := by unfold Rol.hasC; rw [if_pos (Rol.code_ok h), q]; rfl
theorem Rol.hasC_in {R : Rol} (h : R.Ok) {u : Nat} (q : u < R.mu) : R.hasC u = 0 := by unfold Rol.hasC; rw [if_pos (Rol.code_ok h), inB_yes (by omega) (by omega)]; rfl
theorem Rol.hasN_no {R : Rol} {user : Int} (h : R.hasC user ≠ 0) : R.hasN user = 0 := by unfold Rol.hasN; rw [if_neg h]
theorem Rol.mayN_no {R : Rol} {user : Int} (h : R.hasC user ≠ 0) : R.mayN user = 0 := by unfold Rol.mayN; rw [if_neg h]
theorem Rol.hasN_in {R : Rol} (h : R.Ok) {u : Nat} (q : u < R.mu) : R.hasN u = R.has (R.own u) := by unfold Rol.hasN; rw [if_pos (Rol.hasC_in h q), Int.toNat_natCast]
theorem Rol.mayN_in {R : Rol} (h : R.Ok) {u : Nat} (q : u < R.mu) : R.mayN u = R.tasks (R.own u) := by unfold Rol.mayN; rw [if_pos (Rol.hasC_in h q), Int.toNat_natCast]

set_option maxHeartbeats 1000000 in
theorem rhas_any (aU aA aM : Option Addr) (cU cA cM : Nat) (R : Rol) (user : Int) (w : World) (hA : AtRol w aU aA aM R) (hT : Tab w) :
    Calls Tryd.prog 5 #[rolV aU aA aM cU cA cM R, .int .i64 user] w fun e w' => e = .returned (.tuple #[.int .i64 (R.hasN user : Nat), errV (R.hasC user)]) ∧ Below w.heap.size w w' := by
  obtain ⟨w1, hw1⟩ : ∃ w1, w.alloc (.cells #[.slice aU R.mu cU, .slice aA R.m cA, .slice aM R.mm cM, .int .i64 R.few, .int .i64 R.most] 24) = w1 := ⟨_, rfl⟩
  have hB0 : Below w.heap.size w w1 := by rw [← hw1]; exact (Below.refl _ w).alloc (Nat.le_refl _) _
  have hx : Box5 w1 w.heap.size (.slice aU R.mu cU) (.slice aA R.m cA) (.slice aM R.mm cM) (.int .i64 R.few) (.int .i64 R.most) := by rw [← hw1]; exact Box5.new _ _ _ _ _ _ _
  obtain ⟨x0, x1, x2, x3, x4⟩ := id hx
  have hA1 := hA.below hB0
  have hT1 := hT.below hB0 hT.size
  have HX := Hid.mkI hx
  by_cases hc : R.code = 0
  · have hk := Rol.ok_of hc
    have t1 := coming_ok aU aA aM cU cA cM R hk w1 hA1 hT1
    have t2 := fun W => isUserR_any aU aA aM cU cA cM R user W
    cases q : inB user R.mu with
    | false =>
      rw [q] at t2
      rw [Rol.hasN_no (by rw [Rol.hasC_out hk q]; decide), Rol.hasC_out hk q]
      clear hc hA hT q hk
      go_enter Tryd.func5, Tryd.ntmps5
      go_wp2_with (first | (go_at_call 10; (with_reducible refine t1.mono ?_); rintro e w2 ⟨g, rfl, ho, hB⟩; obtain ⟨y0, y1, y2, y3, y4⟩ := HX.out.below hB) | (go_at_call 11; (with_reducible refine (t2 _).mono ?_); rintro e w3 ⟨rfl, hB3⟩))
      go_ret2
      exact ⟨rfl, hB0.trans ((hB.trans (hB3.mono hB.size)).mono hB0.size)⟩
    | true =>
      obtain ⟨u, rfl, hu⟩ := inB_at q
      rw [q] at t2
      rw [Rol.hasN_in hk hu, Rol.hasC_in hk hu]
      obtain ⟨b, off, rfl, hs⟩ := hA1.us.resolve_left (show ¬ R.mu = 0 by omega)
      have hcu := hs.cell u hu
      have hgd := hk.us u hu
      have hol := hk.own_lt hu
      have hoe : R.us[u]?.getD 0 = ((R.own u : Nat) : Int) := by unfold Rol.own; have := hgd.1; omega
      rw [hoe] at hcu
      have tS := fun g W (ho : Own W g R.m R.C) (hT : Tab W) => step_all R.m hk.n12 (some ⟨g, 0, none⟩) R.m (R.own u) (listOf R.m R.C) (listOf_right hk.n12 (hk.C_lt hA1.la)).lt12 hol W (own_at ho) hT
      have hui : (u : Int) < (R.mu : Int) := by omega
      have HH : Hid (stepN R.m (listOf R.m R.C) (R.own u) = R.has (R.own u)) := rfl
      obtain ⟨x, hxe⟩ : ∃ x, stepN R.m (listOf R.m R.C) (R.own u) = x := ⟨_, rfl⟩
      rw [hxe] at tS HH
      rw [← HH.out]
      obtain ⟨s, hse⟩ : ∃ s, R.own u = s := ⟨_, rfl⟩
      rw [hse] at tS hcu
      have HN := Hid.mkI (And.intro hA1 hT1)
      clear hc hA hT q hk hs hgd hol hoe hxe hse HH hA1 hT1
      go_enter Tryd.func5, Tryd.ntmps5
      go_wp2_with (first | (go_at_call 10; (with_reducible refine t1.mono ?_); rintro e w2 ⟨g, rfl, ho, hB⟩; obtain ⟨y0, y1, y2, y3, y4⟩ := HX.out.below hB) | (go_at_call 11; (with_reducible refine (t2 _).mono ?_); rintro e w3 ⟨rfl, hB3⟩; have hB4 := hB.trans (hB3.mono hB.size); obtain ⟨z0, z1, z2, z3, z4⟩ := HX.out.below hB4; have hc4 := keep_cell hB4 hcu; have tS := tS g _ (Own.below ho hB3) (HN.out.2.below hB4 HN.out.2.size)) | (go_at_call 12; (with_reducible refine tS.mono ?_); rintro e w5 ⟨rfl, hB5⟩))
      go_ret2
      exact ⟨rfl, hB0.trans ((hB4.trans (hB5.mono hB4.size)).mono hB0.size)⟩
  · have t1 := coming_bad aU aA aM cU cA cM R R.code (rolBad_of hc) w1 hA1 hT1
    rw [Rol.hasN_no (by rw [Rol.hasC_bad hc]; exact hc), Rol.hasC_bad hc, errV_ne hc]
    obtain ⟨c, hcc⟩ : ∃ c, R.code = c := ⟨_, rfl⟩
    rw [hcc] at t1 ⊢
    clear hc hA hT hcc
    go_enter Tryd.func5, Tryd.ntmps5
    go_wp2_with (go_at_call 10; (with_reducible refine t1.mono ?_); rintro e w2 ⟨rfl, hB⟩)
    go_ret2
    exact ⟨rfl, hB0.trans (hB.mono hB0.size)⟩

theorem may_at {W : World} {aM : Option Addr} {R : Rol} (h : R.Most) (hA : AtNums W aM R.mm R.ma) : At W aM R.m R.may := by
  rw [h.mm] at hA
  rcases hA with h0 | ⟨b, off, rfl, hs⟩
  · exact .inl h0
  · refine .inr ⟨b, off, rfl, hs.old, fun i hi => ?_⟩
    rw [hs.cell i hi, ← rowsOf_any h.ma hi]
    rfl
set_option maxHeartbeats 1000000 in
theorem rmay_any (aU aA aM : Option Addr) (cU cA cM : Nat) (R : Rol) (user : Int) (w : World) (hA : AtRol w aU aA aM R) (hT : Tab w) :
    Calls Tryd.prog 8 #[rolV aU aA aM cU cA cM R, .int .i64 user] w fun e w' => e = .returned (.tuple #[.int .i64 (R.mayN user : Nat), errV (R.hasC user)]) ∧ Below w.heap.size w w' := by
  obtain ⟨w1, hw1⟩ : ∃ w1, w.alloc (.cells #[.slice aU R.mu cU, .slice aA R.m cA, .slice aM R.mm cM, .int .i64 R.few, .int .i64 R.most] 24) = w1 := ⟨_, rfl⟩
  have hB0 : Below w.heap.size w w1 := by rw [← hw1]; exact (Below.refl _ w).alloc (Nat.le_refl _) _
  have hx : Box5 w1 w.heap.size (.slice aU R.mu cU) (.slice aA R.m cA) (.slice aM R.mm cM) (.int .i64 R.few) (.int .i64 R.most) := by rw [← hw1]; exact Box5.new _ _ _ _ _ _ _
  obtain ⟨x0, x1, x2, x3, x4⟩ := id hx
  have hA1 := hA.below hB0
  have hT1 := hT.below hB0 hT.size
  have HX := Hid.mkI hx
  have t1 := rhas_any aU aA aM cU cA cM R user w1 hA1 hT1
  by_cases hc : R.hasC user = 0
  · obtain ⟨hk, u, rfl, hu⟩ : R.Ok ∧ ∃ u : Nat, user = u ∧ u < R.mu := by
      unfold Rol.hasC at hc
      split at hc
      · rename_i h0
        refine ⟨Rol.ok_of h0, ?_⟩
        split at hc
        · rename_i h1; exact inB_at h1
        · omega
      · rename_i h0; exact absurd hc h0
    rw [Rol.hasN_in hk hu, hc, errV_zero] at t1
    rw [Rol.mayN_in hk hu, hc, errV_zero]
    have tS := fun W (hb : Below w1.heap.size w1 W) => step_all R.m hk.n12 aM cM (R.has (R.own u)) R.may (fun i => by have := hk.may_lt i; omega) (hk.has_lt hA1.la _) W (may_at hk.toMost (hA1.ma.below hb)) (hT1.below hb hT1.size)
    have HH : Hid (stepN R.m R.may (R.has (R.own u)) = R.tasks (R.own u)) := rfl
    obtain ⟨y, hye⟩ : ∃ x, stepN R.m R.may (R.has (R.own u)) = x := ⟨_, rfl⟩
    rw [hye] at tS HH
    rw [← HH.out]
    obtain ⟨x, hxe⟩ : ∃ x, R.has (R.own u) = x := ⟨_, rfl⟩
    rw [hxe] at tS t1
    have h3 := hk.mm
    have hX := HX.out
    show Calls _ _ #[.agg #[.slice aU R.mu cU, .slice aA R.m cA, .slice aM R.mm cM, .int .i64 R.few, .int .i64 R.most], _] _ _
    unfold rolV at t1
    rw [h3] at hX x2 t1 hw1
    rw [h3]
    have HX := Hid.mkI hX
    clear hc hA hT hk hA1 hT1 HH hye hxe h3 hX
    go_enter Tryd.func8, Tryd.ntmps8
    go_wp2_with (first | (go_at_call 5; (with_reducible refine t1.mono ?_); rintro e w2 ⟨rfl, hB⟩; obtain ⟨y0, y1, y2, y3, y4⟩ := HX.out.below hB; have tS := tS _ hB) | (go_at_call 12; (with_reducible refine tS.mono ?_); rintro e w5 ⟨rfl, hB5⟩))
    go_ret2
    exact ⟨rfl, hB0.trans ((hB.trans (hB5.mono hB.size)).mono hB0.size)⟩
  · rw [Rol.hasN_no hc, errV_ne hc] at t1
    rw [Rol.mayN_no hc, errV_ne hc]
    obtain ⟨c, hcc⟩ : ∃ c, R.hasC user = c := ⟨_, rfl⟩
    rw [hcc] at t1 ⊢
    clear hc hA hT hcc
    go_enter Tryd.func8, Tryd.ntmps8
    go_wp2_with (go_at_call 5; (with_reducible refine t1.mono ?_); rintro e w2 ⟨rfl, hB⟩)
    go_ret2
    exact ⟨rfl, hB0.trans (hB.mono hB0.size)⟩
end Go.Proofs.YtolpkjemgdapgaaDoor
