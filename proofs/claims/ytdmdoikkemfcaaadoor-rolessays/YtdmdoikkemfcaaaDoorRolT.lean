/- The walk of the law RolesSays. -/
import Derived.WalkKit
import Derived.LoopTactic
import Derived.Deep.RegionHeld3
import Derived.Deep.DrawnRows
import Derived.Deep.Cut
import Derived.Test.YtdmdoikkemfcaaaDoorRolS
import Derived.Test.YtdmdoikkemfcaaaDoorRolN
namespace Go.Proofs.YtdmdoikkemfcaaaDoor
open Go.RowKit
set_option maxRecDepth 100000

theorem errs_errV (c : Int) : Errs (errV c) c := by
  unfold errV
  split
  · rename_i h; exact .inl ⟨rfl, h⟩
  · exact .inr rfl
theorem need_best {R : Rol} (h : R.Ok) {u k : Nat} (hu : u < R.mu) (hk : k < 1024) : R.needC u k = (if R.isN (R.own u) k = true then 0 else 7) ∧ R.needN u k = R.bestN (R.own u) k := by
  have e := needC_in h hu hk
  refine ⟨e, ?_⟩
  unfold Rol.needN Rol.bestN
  rw [e]
  show (if (if R.isN (R.own u) k = true then (0 : Int) else 7) = 0 then _ else _) = _
  by_cases q : R.isN (R.own u) k = true
  · rw [if_pos q, if_pos rfl, if_pos q, Int.toNat_natCast, Int.toNat_natCast]; rfl
  · rw [if_neg q, if_neg q, if_neg (by decide)]

set_option maxHeartbeats 8000000 in
theorem rolesSays_any (aU aA aM : Option Addr) (cU cA cM : Nat) (R : Rol) (user want : Int) (w : World) (hA : AtRol w aU aA aM R) (hT : Tab w) (hE : ErrT w) :
    Calls Tryd.prog 6 #[rolV aU aA aM cU cA cM R, .int .i64 user, .int .i64 want] w fun e w' => e = .returned (.bool true) ∧ Below w.heap.size w w' := by
  obtain ⟨w1, hw1⟩ : ∃ w1, w.alloc (.cells #[.slice aU R.mu cU, .slice aA R.m cA, .slice aM R.mm cM, .int .i64 R.few, .int .i64 R.most] 39) = w1 := ⟨_, rfl⟩
  have hB0 : Below w.heap.size w w1 := by rw [← hw1]; exact (Below.refl _ w).alloc (Nat.le_refl _) _
  have hx : Box5 w1 w.heap.size (.slice aU R.mu cU) (.slice aA R.m cA) (.slice aM R.mm cM) (.int .i64 R.few) (.int .i64 R.most) := by rw [← hw1]; exact Box5.new _ _ _ _ _ _ _
  have hA1 := hA.below hB0
  have hT1 := hT.below hB0 hT.size
  have hE1 := hE.below hB0 (by have := hT.size; omega)
  have tRoles := fun W (hb : Below w1.heap.size w1 W) => refRoles_any aU aA aM cU cA cM R W (hA1.below hb)
  have tCheck := fun W (hb : Below w1.heap.size w1 W) => rcheck_any aU aA aM cU cA cM R W (hA1.below hb) (hT1.below hb hT1.size)
  have tHas := fun W (hb : Below w1.heap.size w1 W) => rhas_any aU aA aM cU cA cM R user W (hA1.below hb) (hT1.below hb hT1.size)
  have tMay := fun W (hb : Below w1.heap.size w1 W) => rmay_any aU aA aM cU cA cM R user W (hA1.below hb) (hT1.below hb hT1.size)
  have tNeed := fun W (hb : Below w1.heap.size w1 W) => rneed_any aU aA aM cU cA cM R user want W (hA1.below hb) (hT1.below hb hT1.size)
  have tEr := fun (er : Value) (c : Int) (q : Errs er c) W (hb : Below w1.heap.size w1 W) => error_held W er c (hE1.below hb (by have := hT1.size; omega)) q
  have tE0 := tEr .nilIface 0 (.inl ⟨rfl, rfl⟩)
  have tMask : ∀ W, Calls Tryd.prog 21 #[.int .i64 want, .int .i64 10] W fun e w' => e = .returned (.bool (goodB 10 want)) ∧ w' = W := fun W => mask_any want 10 (by decide) W
  have HX := Hid.mkI hx
  have HO := Hid.mkI hB0
  obtain ⟨y0, y1, y2, y3, y4⟩ := id hx
  have hB : Below w1.heap.size w1 w1 := Below.refl _ _
  by_cases hc : R.code = 0
  case neg =>
    have n1 : R.hasC user ≠ 0 := by rw [Rol.hasC_bad hc]; exact hc
    rw [Rol.hasN_no n1, Rol.hasC_bad hc] at tHas
    rw [Rol.mayN_no n1, Rol.hasC_bad hc] at tMay
    have n2 : R.needC user want ≠ 0 := by rw [needC_bad hc]; exact hc
    rw [needN_no n2, needC_bad hc] at tNeed
    have tE1 := tEr _ _ (errs_errV R.code)
    obtain ⟨er, her⟩ : ∃ er, errV R.code = er := ⟨_, rfl⟩
    rw [her] at tCheck tHas tMay tNeed tE1
    obtain ⟨c, hcc⟩ : ∃ c, R.code = c := ⟨_, rfl⟩
    rw [hcc] at tRoles tE1 hc
    have hcb : ((c : Int) == 0) = false := by simp [hc]
    clear hA hT hE hA1 hT1 hE1 hx hB0 n1 n2 her hcc hc tEr tE0 tMask
    go_enter Tryd.func6, Tryd.ntmps6
    go_wp2_with (first | (go_at_call 15; (with_reducible refine (tRoles _ hB).mono ?_); rintro e wz ⟨rfl, hBn⟩; replace hB := hB.trans (hBn.mono hB.size); clear hBn y0 y1 y2 y3 y4; obtain ⟨y0, y1, y2, y3, y4⟩ := HX.out.below hB) | (go_at_call 16; (with_reducible refine (tCheck _ hB).mono ?_); rintro e wz ⟨rfl, hBn⟩; replace hB := hB.trans (hBn.mono hB.size); clear hBn y0 y1 y2 y3 y4; obtain ⟨y0, y1, y2, y3, y4⟩ := HX.out.below hB) | (go_at_call 19; (with_reducible refine (tHas _ hB).mono ?_); rintro e wz ⟨rfl, hBn⟩; replace hB := hB.trans (hBn.mono hB.size); clear hBn y0 y1 y2 y3 y4; obtain ⟨y0, y1, y2, y3, y4⟩ := HX.out.below hB) | (go_at_call 20; (with_reducible refine (tMay _ hB).mono ?_); rintro e wz ⟨rfl, hBn⟩; replace hB := hB.trans (hBn.mono hB.size); clear hBn y0 y1 y2 y3 y4; obtain ⟨y0, y1, y2, y3, y4⟩ := HX.out.below hB) | (go_at_call 23; (with_reducible refine (tNeed _ hB).mono ?_); rintro e wz ⟨rfl, hBn⟩; replace hB := hB.trans (hBn.mono hB.size); clear hBn y0 y1 y2 y3 y4; obtain ⟨y0, y1, y2, y3, y4⟩ := HX.out.below hB) | (go_at_call 12; (with_reducible refine (tE1 _ hB).mono ?_); rintro e wz ⟨rfl, hBn⟩; replace hB := hB.trans (hBn.mono hB.size); clear hBn y0 y1 y2 y3 y4; obtain ⟨y0, y1, y2, y3, y4⟩ := HX.out.below hB))
    go_ret
    exact ⟨rfl, HO.out.trans (hB.mono HO.out.size)⟩
  have hk := Rol.ok_of hc
  rw [hc] at tRoles tCheck
  rw [errV_zero] at tCheck
  cases hin : inB user R.mu with
  | false =>
    have e1 := Rol.hasC_out hk hin
    have n1 : R.hasC user ≠ 0 := by rw [e1]; decide
    rw [Rol.hasN_no n1, e1] at tHas
    rw [Rol.mayN_no n1, e1] at tMay
    have e2 := needC_out (want := want) hk (fun q => by rw [hin] at q; cases q.1)
    have n2 : R.needC user want ≠ 0 := by rw [e2]; decide
    rw [needN_no n2, e2] at tNeed
    have tE1 := tEr _ _ (errs_errV 1)
    obtain ⟨er, her⟩ : ∃ er, errV 1 = er := ⟨_, rfl⟩
    rw [her] at tHas tMay tNeed tE1
    have hor : user < 0 ∨ (0 ≤ user ∧ (R.mu : Int) ≤ user) := by
      rcases in_or user R.mu with h | h
      · rw [inB_yes h.1 h.2] at hin; cases hin
      · exact h
    clear hA hT hE hA1 hT1 hE1 hx hB0 n1 n2 her tEr tMask hin e1 e2 hk hc
    rcases hor with q | ⟨q1, q2⟩
    · go_enter Tryd.func6, Tryd.ntmps6
      go_wp2_with (first | (go_at_call 15; (with_reducible refine (tRoles _ hB).mono ?_); rintro e wz ⟨rfl, hBn⟩; replace hB := hB.trans (hBn.mono hB.size); clear hBn y0 y1 y2 y3 y4; obtain ⟨y0, y1, y2, y3, y4⟩ := HX.out.below hB) | (go_at_call 16; (with_reducible refine (tCheck _ hB).mono ?_); rintro e wz ⟨rfl, hBn⟩; replace hB := hB.trans (hBn.mono hB.size); clear hBn y0 y1 y2 y3 y4; obtain ⟨y0, y1, y2, y3, y4⟩ := HX.out.below hB) | (go_at_call 19; (with_reducible refine (tHas _ hB).mono ?_); rintro e wz ⟨rfl, hBn⟩; replace hB := hB.trans (hBn.mono hB.size); clear hBn y0 y1 y2 y3 y4; obtain ⟨y0, y1, y2, y3, y4⟩ := HX.out.below hB) | (go_at_call 20; (with_reducible refine (tMay _ hB).mono ?_); rintro e wz ⟨rfl, hBn⟩; replace hB := hB.trans (hBn.mono hB.size); clear hBn y0 y1 y2 y3 y4; obtain ⟨y0, y1, y2, y3, y4⟩ := HX.out.below hB) | (go_at_call 23; (with_reducible refine (tNeed _ hB).mono ?_); rintro e wz ⟨rfl, hBn⟩; replace hB := hB.trans (hBn.mono hB.size); clear hBn y0 y1 y2 y3 y4; obtain ⟨y0, y1, y2, y3, y4⟩ := HX.out.below hB) | (go_at_call 12; (with_reducible refine (tE0 _ hB).mono ?_); rintro e wz ⟨rfl, hBn⟩; replace hB := hB.trans (hBn.mono hB.size); clear hBn y0 y1 y2 y3 y4; obtain ⟨y0, y1, y2, y3, y4⟩ := HX.out.below hB) | (go_at_call 12; (with_reducible refine (tE1 _ hB).mono ?_); rintro e wz ⟨rfl, hBn⟩; replace hB := hB.trans (hBn.mono hB.size); clear hBn y0 y1 y2 y3 y4; obtain ⟨y0, y1, y2, y3, y4⟩ := HX.out.below hB))
      go_ret
      exact ⟨rfl, HO.out.trans (hB.mono HO.out.size)⟩
    · go_enter Tryd.func6, Tryd.ntmps6
      go_wp2_with (first | (go_at_call 15; (with_reducible refine (tRoles _ hB).mono ?_); rintro e wz ⟨rfl, hBn⟩; replace hB := hB.trans (hBn.mono hB.size); clear hBn y0 y1 y2 y3 y4; obtain ⟨y0, y1, y2, y3, y4⟩ := HX.out.below hB) | (go_at_call 16; (with_reducible refine (tCheck _ hB).mono ?_); rintro e wz ⟨rfl, hBn⟩; replace hB := hB.trans (hBn.mono hB.size); clear hBn y0 y1 y2 y3 y4; obtain ⟨y0, y1, y2, y3, y4⟩ := HX.out.below hB) | (go_at_call 19; (with_reducible refine (tHas _ hB).mono ?_); rintro e wz ⟨rfl, hBn⟩; replace hB := hB.trans (hBn.mono hB.size); clear hBn y0 y1 y2 y3 y4; obtain ⟨y0, y1, y2, y3, y4⟩ := HX.out.below hB) | (go_at_call 20; (with_reducible refine (tMay _ hB).mono ?_); rintro e wz ⟨rfl, hBn⟩; replace hB := hB.trans (hBn.mono hB.size); clear hBn y0 y1 y2 y3 y4; obtain ⟨y0, y1, y2, y3, y4⟩ := HX.out.below hB) | (go_at_call 23; (with_reducible refine (tNeed _ hB).mono ?_); rintro e wz ⟨rfl, hBn⟩; replace hB := hB.trans (hBn.mono hB.size); clear hBn y0 y1 y2 y3 y4; obtain ⟨y0, y1, y2, y3, y4⟩ := HX.out.below hB) | (go_at_call 12; (with_reducible refine (tE0 _ hB).mono ?_); rintro e wz ⟨rfl, hBn⟩; replace hB := hB.trans (hBn.mono hB.size); clear hBn y0 y1 y2 y3 y4; obtain ⟨y0, y1, y2, y3, y4⟩ := HX.out.below hB) | (go_at_call 12; (with_reducible refine (tE1 _ hB).mono ?_); rintro e wz ⟨rfl, hBn⟩; replace hB := hB.trans (hBn.mono hB.size); clear hBn y0 y1 y2 y3 y4; obtain ⟨y0, y1, y2, y3, y4⟩ := HX.out.below hB))
      go_ret
      exact ⟨rfl, HO.out.trans (hB.mono HO.out.size)⟩
  | true =>
    obtain ⟨u, rfl, hu⟩ := inB_at hin
    rw [Rol.hasN_in hk hu, Rol.hasC_in hk hu, errV_zero] at tHas
    rw [Rol.mayN_in hk hu, Rol.hasC_in hk hu, errV_zero] at tMay
    obtain ⟨b, off, rfl, hs⟩ := hA1.us.resolve_left (show ¬ R.mu = 0 by omega)
    have hcu := hs.cell u hu
    have hgd := hk.us u hu
    have hol := hk.own_lt hu
    have hoe : R.us[u]?.getD 0 = ((R.own u : Nat) : Int) := by unfold Rol.own; have := hgd.1; omega
    rw [hoe] at hcu
    have tRS := fun W (hb : Below w1.heap.size w1 W) => roleSet_any (some ⟨b, off, none⟩) aA aM cU cA cM R hk.toMost (R.own u) hol W (hA1.below hb)
    have tTS := fun W (hb : Below w1.heap.size w1 W) => taskSet_any (some ⟨b, off, none⟩) aA aM cU cA cM R hk.toMost (R.own u) hol W (hA1.below hb)
    have q1 : (0 : Int) ≤ (u : Int) := by omega
    have q2 : (u : Int) < (R.mu : Int) := by omega
    obtain ⟨xh, hxh⟩ : ∃ x, R.has (R.own u) = x := ⟨_, rfl⟩
    obtain ⟨xt, hxt⟩ : ∃ x, R.tasks (R.own u) = x := ⟨_, rfl⟩
    by_cases hw : goodB 10 want = true
    case neg =>
      have hwf : goodB 10 want = false := by simpa using hw
      have e2 := needC_out (user := (u : Int)) hk (fun q => by rw [hwf] at q; cases q.2)
      have n2 : R.needC u want ≠ 0 := by rw [e2]; decide
      rw [needN_no n2, e2] at tNeed
      rw [hwf] at tMask
      have tE1 := tEr _ _ (errs_errV 1)
      obtain ⟨er, her⟩ : ∃ er, errV 1 = er := ⟨_, rfl⟩
      rw [her] at tNeed tE1
      rw [hxh] at tHas tRS
      rw [hxt] at tMay tTS
      obtain ⟨s, hse⟩ : ∃ s, R.own u = s := ⟨_, rfl⟩
      rw [hse] at hcu tRS tTS
      clear hA hT hE hA1 hT1 hE1 hx hB0 n2 her tEr hin e2 hk hc hs hgd hol hoe hxh hxt hse hw hwf hu
      go_enter Tryd.func6, Tryd.ntmps6
      go_wp2_with (first | (go_at_call 15; (with_reducible refine (tRoles _ hB).mono ?_); rintro e wz ⟨rfl, hBn⟩; replace hB := hB.trans (hBn.mono hB.size); clear hBn y0 y1 y2 y3 y4; obtain ⟨y0, y1, y2, y3, y4⟩ := HX.out.below hB) | (go_at_call 16; (with_reducible refine (tCheck _ hB).mono ?_); rintro e wz ⟨rfl, hBn⟩; replace hB := hB.trans (hBn.mono hB.size); clear hBn y0 y1 y2 y3 y4; obtain ⟨y0, y1, y2, y3, y4⟩ := HX.out.below hB) | (go_at_call 19; (with_reducible refine (tHas _ hB).mono ?_); rintro e wz ⟨rfl, hBn⟩; replace hB := hB.trans (hBn.mono hB.size); clear hBn y0 y1 y2 y3 y4; obtain ⟨y0, y1, y2, y3, y4⟩ := HX.out.below hB) | (go_at_call 20; (with_reducible refine (tMay _ hB).mono ?_); rintro e wz ⟨rfl, hBn⟩; replace hB := hB.trans (hBn.mono hB.size); clear hBn y0 y1 y2 y3 y4; obtain ⟨y0, y1, y2, y3, y4⟩ := HX.out.below hB) | (go_at_call 23; (with_reducible refine (tNeed _ hB).mono ?_); rintro e wz ⟨rfl, hBn⟩; replace hB := hB.trans (hBn.mono hB.size); clear hBn y0 y1 y2 y3 y4; obtain ⟨y0, y1, y2, y3, y4⟩ := HX.out.below hB) | (go_at_call 12; (with_reducible refine (tE0 _ hB).mono ?_); rintro e wz ⟨rfl, hBn⟩; replace hB := hB.trans (hBn.mono hB.size); clear hBn y0 y1 y2 y3 y4; obtain ⟨y0, y1, y2, y3, y4⟩ := HX.out.below hB) | (go_at_call 12; (with_reducible refine (tE1 _ hB).mono ?_); rintro e wz ⟨rfl, hBn⟩; replace hB := hB.trans (hBn.mono hB.size); clear hBn y0 y1 y2 y3 y4; obtain ⟨y0, y1, y2, y3, y4⟩ := HX.out.below hB) | (go_at_call 21; (with_reducible refine (tMask _).mono ?_); rintro e w' ⟨rfl, hw'⟩; obtain rfl := hw'.symm; clear hw'))
      have d0 : wz.drew.cell? ⟨w.heap.size, 0, none⟩ = some (.slice (some ⟨b, off, none⟩) R.mu cU) := y0
      have d1 : wz.drew.cell? ⟨w.heap.size, 1, none⟩ = some (.slice aA R.m cA) := y1
      have d2 : wz.drew.cell? ⟨w.heap.size, 2, none⟩ = some (.slice aM R.mm cM) := y2
      have d3 : wz.drew.cell? ⟨w.heap.size, 3, none⟩ = some (.int .i64 R.few) := y3
      have d4 : wz.drew.cell? ⟨w.heap.size, 4, none⟩ = some (.int .i64 R.most) := y4
      have d5p := keep_cell hB hcu
      have d5 : wz.drew.cell? ⟨b, off + u, none⟩ = some (.int .i64 (s : Int)) := d5p
      have tD := tRS wz.drew (below_drawn hB 1)
      first | (go_region_held3 (fun w' => w'.cell? ⟨w.heap.size, 0, none⟩ = some (.slice (some ⟨b, off, none⟩) R.mu cU) ∧ w'.cell? ⟨w.heap.size, 1, none⟩ = some (.slice aA R.m cA) ∧ w'.cell? ⟨w.heap.size, 2, none⟩ = some (.slice aM R.mm cM) ∧ w'.cell? ⟨w.heap.size, 3, none⟩ = some (.int .i64 R.few) ∧ w'.cell? ⟨w.heap.size, 4, none⟩ = some (.int .i64 R.most) ∧ w'.cell? ⟨b, off + u, none⟩ = some (.int .i64 (s : Int))) ((go_split_ands; refine ⟨?_, ?_, ?_, ?_, ?_, ?_⟩ <;> (with_reducible assumption))) ((go_at_call 17; (with_reducible refine tD.mono ?_); rintro e wy ⟨rfl, hBs⟩; have d0b := keep_cell hBs d0; have d1b := keep_cell hBs d1; have d2b := keep_cell hBs d2; have d3b := keep_cell hBs d3; have d4b := keep_cell hBs d4; have d5b := keep_cell hBs d5))) | fail
      replace hB := hB.trans ((undrew2 hBs).mono hB.size)
      clear hBs d5p d0 d1 d2 d3 d4 d5 d0b d1b d2b d3b d4b d5b tD y0 y1 y2 y3 y4
      obtain ⟨y0, y1, y2, y3, y4⟩ := HX.out.below hB
      go_wp2_with (first | (go_at_call 15; (with_reducible refine (tRoles _ hB).mono ?_); rintro e wz ⟨rfl, hBn⟩; replace hB := hB.trans (hBn.mono hB.size); clear hBn y0 y1 y2 y3 y4; obtain ⟨y0, y1, y2, y3, y4⟩ := HX.out.below hB) | (go_at_call 16; (with_reducible refine (tCheck _ hB).mono ?_); rintro e wz ⟨rfl, hBn⟩; replace hB := hB.trans (hBn.mono hB.size); clear hBn y0 y1 y2 y3 y4; obtain ⟨y0, y1, y2, y3, y4⟩ := HX.out.below hB) | (go_at_call 19; (with_reducible refine (tHas _ hB).mono ?_); rintro e wz ⟨rfl, hBn⟩; replace hB := hB.trans (hBn.mono hB.size); clear hBn y0 y1 y2 y3 y4; obtain ⟨y0, y1, y2, y3, y4⟩ := HX.out.below hB) | (go_at_call 20; (with_reducible refine (tMay _ hB).mono ?_); rintro e wz ⟨rfl, hBn⟩; replace hB := hB.trans (hBn.mono hB.size); clear hBn y0 y1 y2 y3 y4; obtain ⟨y0, y1, y2, y3, y4⟩ := HX.out.below hB) | (go_at_call 23; (with_reducible refine (tNeed _ hB).mono ?_); rintro e wz ⟨rfl, hBn⟩; replace hB := hB.trans (hBn.mono hB.size); clear hBn y0 y1 y2 y3 y4; obtain ⟨y0, y1, y2, y3, y4⟩ := HX.out.below hB) | (go_at_call 12; (with_reducible refine (tE0 _ hB).mono ?_); rintro e wz ⟨rfl, hBn⟩; replace hB := hB.trans (hBn.mono hB.size); clear hBn y0 y1 y2 y3 y4; obtain ⟨y0, y1, y2, y3, y4⟩ := HX.out.below hB) | (go_at_call 12; (with_reducible refine (tE1 _ hB).mono ?_); rintro e wz ⟨rfl, hBn⟩; replace hB := hB.trans (hBn.mono hB.size); clear hBn y0 y1 y2 y3 y4; obtain ⟨y0, y1, y2, y3, y4⟩ := HX.out.below hB) | (go_at_call 21; (with_reducible refine (tMask _).mono ?_); rintro e w' ⟨rfl, hw'⟩; obtain rfl := hw'.symm; clear hw'))
      have d0 : wy.drew.cell? ⟨w.heap.size, 0, none⟩ = some (.slice (some ⟨b, off, none⟩) R.mu cU) := y0
      have d1 : wy.drew.cell? ⟨w.heap.size, 1, none⟩ = some (.slice aA R.m cA) := y1
      have d2 : wy.drew.cell? ⟨w.heap.size, 2, none⟩ = some (.slice aM R.mm cM) := y2
      have d3 : wy.drew.cell? ⟨w.heap.size, 3, none⟩ = some (.int .i64 R.few) := y3
      have d4 : wy.drew.cell? ⟨w.heap.size, 4, none⟩ = some (.int .i64 R.most) := y4
      have d5p := keep_cell hB hcu
      have d5 : wy.drew.cell? ⟨b, off + u, none⟩ = some (.int .i64 (s : Int)) := d5p
      have tD := tTS wy.drew (below_drawn hB 1)
      first | (go_region_held3 (fun w' => w'.cell? ⟨w.heap.size, 0, none⟩ = some (.slice (some ⟨b, off, none⟩) R.mu cU) ∧ w'.cell? ⟨w.heap.size, 1, none⟩ = some (.slice aA R.m cA) ∧ w'.cell? ⟨w.heap.size, 2, none⟩ = some (.slice aM R.mm cM) ∧ w'.cell? ⟨w.heap.size, 3, none⟩ = some (.int .i64 R.few) ∧ w'.cell? ⟨w.heap.size, 4, none⟩ = some (.int .i64 R.most) ∧ w'.cell? ⟨b, off + u, none⟩ = some (.int .i64 (s : Int))) ((go_split_ands; refine ⟨?_, ?_, ?_, ?_, ?_, ?_⟩ <;> (with_reducible assumption))) ((go_at_call 18; (with_reducible refine tD.mono ?_); rintro e wz ⟨rfl, hBs⟩; have d0b := keep_cell hBs d0; have d1b := keep_cell hBs d1; have d2b := keep_cell hBs d2; have d3b := keep_cell hBs d3; have d4b := keep_cell hBs d4; have d5b := keep_cell hBs d5))) | fail
      replace hB := hB.trans ((undrew2 hBs).mono hB.size)
      clear hBs d5p d0 d1 d2 d3 d4 d5 d0b d1b d2b d3b d4b d5b tD y0 y1 y2 y3 y4
      obtain ⟨y0, y1, y2, y3, y4⟩ := HX.out.below hB
      go_wp2_with (first | (go_at_call 15; (with_reducible refine (tRoles _ hB).mono ?_); rintro e wz ⟨rfl, hBn⟩; replace hB := hB.trans (hBn.mono hB.size); clear hBn y0 y1 y2 y3 y4; obtain ⟨y0, y1, y2, y3, y4⟩ := HX.out.below hB) | (go_at_call 16; (with_reducible refine (tCheck _ hB).mono ?_); rintro e wz ⟨rfl, hBn⟩; replace hB := hB.trans (hBn.mono hB.size); clear hBn y0 y1 y2 y3 y4; obtain ⟨y0, y1, y2, y3, y4⟩ := HX.out.below hB) | (go_at_call 19; (with_reducible refine (tHas _ hB).mono ?_); rintro e wz ⟨rfl, hBn⟩; replace hB := hB.trans (hBn.mono hB.size); clear hBn y0 y1 y2 y3 y4; obtain ⟨y0, y1, y2, y3, y4⟩ := HX.out.below hB) | (go_at_call 20; (with_reducible refine (tMay _ hB).mono ?_); rintro e wz ⟨rfl, hBn⟩; replace hB := hB.trans (hBn.mono hB.size); clear hBn y0 y1 y2 y3 y4; obtain ⟨y0, y1, y2, y3, y4⟩ := HX.out.below hB) | (go_at_call 23; (with_reducible refine (tNeed _ hB).mono ?_); rintro e wz ⟨rfl, hBn⟩; replace hB := hB.trans (hBn.mono hB.size); clear hBn y0 y1 y2 y3 y4; obtain ⟨y0, y1, y2, y3, y4⟩ := HX.out.below hB) | (go_at_call 12; (with_reducible refine (tE0 _ hB).mono ?_); rintro e wz ⟨rfl, hBn⟩; replace hB := hB.trans (hBn.mono hB.size); clear hBn y0 y1 y2 y3 y4; obtain ⟨y0, y1, y2, y3, y4⟩ := HX.out.below hB) | (go_at_call 12; (with_reducible refine (tE1 _ hB).mono ?_); rintro e wz ⟨rfl, hBn⟩; replace hB := hB.trans (hBn.mono hB.size); clear hBn y0 y1 y2 y3 y4; obtain ⟨y0, y1, y2, y3, y4⟩ := HX.out.below hB) | (go_at_call 21; (with_reducible refine (tMask _).mono ?_); rintro e w' ⟨rfl, hw'⟩; obtain rfl := hw'.symm; clear hw'))
      go_ret
      exact ⟨rfl, HO.out.trans (hB.mono HO.out.size)⟩
    have hg := (goodB_iff 10 want).1 hw
    obtain ⟨k, rfl⟩ : ∃ k : Nat, want = k := ⟨want.toNat, by have := hg.1; omega⟩
    have hk10 : k < 1024 := by have := hg.2; omega
    rw [hw] at tMask
    have tNd := fun W (hb : Below w1.heap.size w1 W) => needed_any (some ⟨b, off, none⟩) aA aM cU cA cM R hk.toMost (R.own u) k hol hk10 W (hA1.below hb)
    obtain ⟨e1, e2⟩ := need_best hk hu hk10
    rw [e1, e2] at tNeed
    obtain ⟨best, hbe⟩ : ∃ x, R.bestN (R.own u) k = x := ⟨_, rfl⟩
    rw [hbe] at tNeed tNd
    rw [hxh] at tHas tRS
    rw [hxt] at tMay tTS
    obtain ⟨s, hse⟩ : ∃ s, R.own u = s := ⟨_, rfl⟩
    rw [hse] at hcu tRS tTS tNd tNeed
    cases hq : R.isN s k with
    | true =>
      rw [hq] at tNd tNeed
      rw [if_pos rfl, errV_zero] at tNeed
      have tE1 := tE0
      clear hA hT hE hA1 hT1 hE1 hx hB0 tEr hin e1 e2 hk hc hs hgd hol hoe hxh hxt hse hw hu hq hbe hg hk10
      go_enter Tryd.func6, Tryd.ntmps6
      go_wp2_with (first | (go_at_call 15; (with_reducible refine (tRoles _ hB).mono ?_); rintro e wz ⟨rfl, hBn⟩; replace hB := hB.trans (hBn.mono hB.size); clear hBn y0 y1 y2 y3 y4; obtain ⟨y0, y1, y2, y3, y4⟩ := HX.out.below hB) | (go_at_call 16; (with_reducible refine (tCheck _ hB).mono ?_); rintro e wz ⟨rfl, hBn⟩; replace hB := hB.trans (hBn.mono hB.size); clear hBn y0 y1 y2 y3 y4; obtain ⟨y0, y1, y2, y3, y4⟩ := HX.out.below hB) | (go_at_call 19; (with_reducible refine (tHas _ hB).mono ?_); rintro e wz ⟨rfl, hBn⟩; replace hB := hB.trans (hBn.mono hB.size); clear hBn y0 y1 y2 y3 y4; obtain ⟨y0, y1, y2, y3, y4⟩ := HX.out.below hB) | (go_at_call 20; (with_reducible refine (tMay _ hB).mono ?_); rintro e wz ⟨rfl, hBn⟩; replace hB := hB.trans (hBn.mono hB.size); clear hBn y0 y1 y2 y3 y4; obtain ⟨y0, y1, y2, y3, y4⟩ := HX.out.below hB) | (go_at_call 23; (with_reducible refine (tNeed _ hB).mono ?_); rintro e wz ⟨rfl, hBn⟩; replace hB := hB.trans (hBn.mono hB.size); clear hBn y0 y1 y2 y3 y4; obtain ⟨y0, y1, y2, y3, y4⟩ := HX.out.below hB) | (go_at_call 12; (with_reducible refine (tE0 _ hB).mono ?_); rintro e wz ⟨rfl, hBn⟩; replace hB := hB.trans (hBn.mono hB.size); clear hBn y0 y1 y2 y3 y4; obtain ⟨y0, y1, y2, y3, y4⟩ := HX.out.below hB) | (go_at_call 12; (with_reducible refine (tE1 _ hB).mono ?_); rintro e wz ⟨rfl, hBn⟩; replace hB := hB.trans (hBn.mono hB.size); clear hBn y0 y1 y2 y3 y4; obtain ⟨y0, y1, y2, y3, y4⟩ := HX.out.below hB) | (go_at_call 21; (with_reducible refine (tMask _).mono ?_); rintro e w' ⟨rfl, hw'⟩; obtain rfl := hw'.symm; clear hw'))
      have d0 : wz.drew.cell? ⟨w.heap.size, 0, none⟩ = some (.slice (some ⟨b, off, none⟩) R.mu cU) := y0
      have d1 : wz.drew.cell? ⟨w.heap.size, 1, none⟩ = some (.slice aA R.m cA) := y1
      have d2 : wz.drew.cell? ⟨w.heap.size, 2, none⟩ = some (.slice aM R.mm cM) := y2
      have d3 : wz.drew.cell? ⟨w.heap.size, 3, none⟩ = some (.int .i64 R.few) := y3
      have d4 : wz.drew.cell? ⟨w.heap.size, 4, none⟩ = some (.int .i64 R.most) := y4
      have d5p := keep_cell hB hcu
      have d5 : wz.drew.cell? ⟨b, off + u, none⟩ = some (.int .i64 (s : Int)) := d5p
      have tD := tRS wz.drew (below_drawn hB 1)
      first | (go_region_held3 (fun w' => w'.cell? ⟨w.heap.size, 0, none⟩ = some (.slice (some ⟨b, off, none⟩) R.mu cU) ∧ w'.cell? ⟨w.heap.size, 1, none⟩ = some (.slice aA R.m cA) ∧ w'.cell? ⟨w.heap.size, 2, none⟩ = some (.slice aM R.mm cM) ∧ w'.cell? ⟨w.heap.size, 3, none⟩ = some (.int .i64 R.few) ∧ w'.cell? ⟨w.heap.size, 4, none⟩ = some (.int .i64 R.most) ∧ w'.cell? ⟨b, off + u, none⟩ = some (.int .i64 (s : Int))) ((go_split_ands; refine ⟨?_, ?_, ?_, ?_, ?_, ?_⟩ <;> (with_reducible assumption))) ((go_at_call 17; (with_reducible refine tD.mono ?_); rintro e wy ⟨rfl, hBs⟩; have d0b := keep_cell hBs d0; have d1b := keep_cell hBs d1; have d2b := keep_cell hBs d2; have d3b := keep_cell hBs d3; have d4b := keep_cell hBs d4; have d5b := keep_cell hBs d5))) | fail
      replace hB := hB.trans ((undrew2 hBs).mono hB.size)
      clear hBs d5p d0 d1 d2 d3 d4 d5 d0b d1b d2b d3b d4b d5b tD y0 y1 y2 y3 y4
      obtain ⟨y0, y1, y2, y3, y4⟩ := HX.out.below hB
      go_wp2_with (first | (go_at_call 15; (with_reducible refine (tRoles _ hB).mono ?_); rintro e wz ⟨rfl, hBn⟩; replace hB := hB.trans (hBn.mono hB.size); clear hBn y0 y1 y2 y3 y4; obtain ⟨y0, y1, y2, y3, y4⟩ := HX.out.below hB) | (go_at_call 16; (with_reducible refine (tCheck _ hB).mono ?_); rintro e wz ⟨rfl, hBn⟩; replace hB := hB.trans (hBn.mono hB.size); clear hBn y0 y1 y2 y3 y4; obtain ⟨y0, y1, y2, y3, y4⟩ := HX.out.below hB) | (go_at_call 19; (with_reducible refine (tHas _ hB).mono ?_); rintro e wz ⟨rfl, hBn⟩; replace hB := hB.trans (hBn.mono hB.size); clear hBn y0 y1 y2 y3 y4; obtain ⟨y0, y1, y2, y3, y4⟩ := HX.out.below hB) | (go_at_call 20; (with_reducible refine (tMay _ hB).mono ?_); rintro e wz ⟨rfl, hBn⟩; replace hB := hB.trans (hBn.mono hB.size); clear hBn y0 y1 y2 y3 y4; obtain ⟨y0, y1, y2, y3, y4⟩ := HX.out.below hB) | (go_at_call 23; (with_reducible refine (tNeed _ hB).mono ?_); rintro e wz ⟨rfl, hBn⟩; replace hB := hB.trans (hBn.mono hB.size); clear hBn y0 y1 y2 y3 y4; obtain ⟨y0, y1, y2, y3, y4⟩ := HX.out.below hB) | (go_at_call 12; (with_reducible refine (tE0 _ hB).mono ?_); rintro e wz ⟨rfl, hBn⟩; replace hB := hB.trans (hBn.mono hB.size); clear hBn y0 y1 y2 y3 y4; obtain ⟨y0, y1, y2, y3, y4⟩ := HX.out.below hB) | (go_at_call 12; (with_reducible refine (tE1 _ hB).mono ?_); rintro e wz ⟨rfl, hBn⟩; replace hB := hB.trans (hBn.mono hB.size); clear hBn y0 y1 y2 y3 y4; obtain ⟨y0, y1, y2, y3, y4⟩ := HX.out.below hB) | (go_at_call 21; (with_reducible refine (tMask _).mono ?_); rintro e w' ⟨rfl, hw'⟩; obtain rfl := hw'.symm; clear hw'))
      have d0 : wy.drew.cell? ⟨w.heap.size, 0, none⟩ = some (.slice (some ⟨b, off, none⟩) R.mu cU) := y0
      have d1 : wy.drew.cell? ⟨w.heap.size, 1, none⟩ = some (.slice aA R.m cA) := y1
      have d2 : wy.drew.cell? ⟨w.heap.size, 2, none⟩ = some (.slice aM R.mm cM) := y2
      have d3 : wy.drew.cell? ⟨w.heap.size, 3, none⟩ = some (.int .i64 R.few) := y3
      have d4 : wy.drew.cell? ⟨w.heap.size, 4, none⟩ = some (.int .i64 R.most) := y4
      have d5p := keep_cell hB hcu
      have d5 : wy.drew.cell? ⟨b, off + u, none⟩ = some (.int .i64 (s : Int)) := d5p
      have tD := tTS wy.drew (below_drawn hB 1)
      first | (go_region_held3 (fun w' => w'.cell? ⟨w.heap.size, 0, none⟩ = some (.slice (some ⟨b, off, none⟩) R.mu cU) ∧ w'.cell? ⟨w.heap.size, 1, none⟩ = some (.slice aA R.m cA) ∧ w'.cell? ⟨w.heap.size, 2, none⟩ = some (.slice aM R.mm cM) ∧ w'.cell? ⟨w.heap.size, 3, none⟩ = some (.int .i64 R.few) ∧ w'.cell? ⟨w.heap.size, 4, none⟩ = some (.int .i64 R.most) ∧ w'.cell? ⟨b, off + u, none⟩ = some (.int .i64 (s : Int))) ((go_split_ands; refine ⟨?_, ?_, ?_, ?_, ?_, ?_⟩ <;> (with_reducible assumption))) ((go_at_call 18; (with_reducible refine tD.mono ?_); rintro e wz ⟨rfl, hBs⟩; have d0b := keep_cell hBs d0; have d1b := keep_cell hBs d1; have d2b := keep_cell hBs d2; have d3b := keep_cell hBs d3; have d4b := keep_cell hBs d4; have d5b := keep_cell hBs d5))) | fail
      replace hB := hB.trans ((undrew2 hBs).mono hB.size)
      clear hBs d5p d0 d1 d2 d3 d4 d5 d0b d1b d2b d3b d4b d5b tD y0 y1 y2 y3 y4
      obtain ⟨y0, y1, y2, y3, y4⟩ := HX.out.below hB
      go_wp2_with (first | (go_at_call 15; (with_reducible refine (tRoles _ hB).mono ?_); rintro e wz ⟨rfl, hBn⟩; replace hB := hB.trans (hBn.mono hB.size); clear hBn y0 y1 y2 y3 y4; obtain ⟨y0, y1, y2, y3, y4⟩ := HX.out.below hB) | (go_at_call 16; (with_reducible refine (tCheck _ hB).mono ?_); rintro e wz ⟨rfl, hBn⟩; replace hB := hB.trans (hBn.mono hB.size); clear hBn y0 y1 y2 y3 y4; obtain ⟨y0, y1, y2, y3, y4⟩ := HX.out.below hB) | (go_at_call 19; (with_reducible refine (tHas _ hB).mono ?_); rintro e wz ⟨rfl, hBn⟩; replace hB := hB.trans (hBn.mono hB.size); clear hBn y0 y1 y2 y3 y4; obtain ⟨y0, y1, y2, y3, y4⟩ := HX.out.below hB) | (go_at_call 20; (with_reducible refine (tMay _ hB).mono ?_); rintro e wz ⟨rfl, hBn⟩; replace hB := hB.trans (hBn.mono hB.size); clear hBn y0 y1 y2 y3 y4; obtain ⟨y0, y1, y2, y3, y4⟩ := HX.out.below hB) | (go_at_call 23; (with_reducible refine (tNeed _ hB).mono ?_); rintro e wz ⟨rfl, hBn⟩; replace hB := hB.trans (hBn.mono hB.size); clear hBn y0 y1 y2 y3 y4; obtain ⟨y0, y1, y2, y3, y4⟩ := HX.out.below hB) | (go_at_call 12; (with_reducible refine (tE0 _ hB).mono ?_); rintro e wz ⟨rfl, hBn⟩; replace hB := hB.trans (hBn.mono hB.size); clear hBn y0 y1 y2 y3 y4; obtain ⟨y0, y1, y2, y3, y4⟩ := HX.out.below hB) | (go_at_call 12; (with_reducible refine (tE1 _ hB).mono ?_); rintro e wz ⟨rfl, hBn⟩; replace hB := hB.trans (hBn.mono hB.size); clear hBn y0 y1 y2 y3 y4; obtain ⟨y0, y1, y2, y3, y4⟩ := HX.out.below hB) | (go_at_call 21; (with_reducible refine (tMask _).mono ?_); rintro e w' ⟨rfl, hw'⟩; obtain rfl := hw'.symm; clear hw'))
      have d0 : wz.drew.cell? ⟨w.heap.size, 0, none⟩ = some (.slice (some ⟨b, off, none⟩) R.mu cU) := y0
      have d1 : wz.drew.cell? ⟨w.heap.size, 1, none⟩ = some (.slice aA R.m cA) := y1
      have d2 : wz.drew.cell? ⟨w.heap.size, 2, none⟩ = some (.slice aM R.mm cM) := y2
      have d3 : wz.drew.cell? ⟨w.heap.size, 3, none⟩ = some (.int .i64 R.few) := y3
      have d4 : wz.drew.cell? ⟨w.heap.size, 4, none⟩ = some (.int .i64 R.most) := y4
      have d5p := keep_cell hB hcu
      have d5 : wz.drew.cell? ⟨b, off + u, none⟩ = some (.int .i64 (s : Int)) := d5p
      have tD := tNd wz.drew (below_drawn hB 1)
      first | (go_region_held3 (fun w' => w'.cell? ⟨w.heap.size, 0, none⟩ = some (.slice (some ⟨b, off, none⟩) R.mu cU) ∧ w'.cell? ⟨w.heap.size, 1, none⟩ = some (.slice aA R.m cA) ∧ w'.cell? ⟨w.heap.size, 2, none⟩ = some (.slice aM R.mm cM) ∧ w'.cell? ⟨w.heap.size, 3, none⟩ = some (.int .i64 R.few) ∧ w'.cell? ⟨w.heap.size, 4, none⟩ = some (.int .i64 R.most) ∧ w'.cell? ⟨b, off + u, none⟩ = some (.int .i64 (s : Int))) ((go_split_ands; refine ⟨?_, ?_, ?_, ?_, ?_, ?_⟩ <;> (with_reducible assumption))) ((go_at_call 22; (with_reducible refine tD.mono ?_); rintro e wy ⟨rfl, hBs⟩; have d0b := keep_cell hBs d0; have d1b := keep_cell hBs d1; have d2b := keep_cell hBs d2; have d3b := keep_cell hBs d3; have d4b := keep_cell hBs d4; have d5b := keep_cell hBs d5))) | fail
      replace hB := hB.trans ((undrew2 hBs).mono hB.size)
      clear hBs d5p d0 d1 d2 d3 d4 d5 d0b d1b d2b d3b d4b d5b tD y0 y1 y2 y3 y4
      obtain ⟨y0, y1, y2, y3, y4⟩ := HX.out.below hB
      go_wp2_with (first | (go_at_call 15; (with_reducible refine (tRoles _ hB).mono ?_); rintro e wz ⟨rfl, hBn⟩; replace hB := hB.trans (hBn.mono hB.size); clear hBn y0 y1 y2 y3 y4; obtain ⟨y0, y1, y2, y3, y4⟩ := HX.out.below hB) | (go_at_call 16; (with_reducible refine (tCheck _ hB).mono ?_); rintro e wz ⟨rfl, hBn⟩; replace hB := hB.trans (hBn.mono hB.size); clear hBn y0 y1 y2 y3 y4; obtain ⟨y0, y1, y2, y3, y4⟩ := HX.out.below hB) | (go_at_call 19; (with_reducible refine (tHas _ hB).mono ?_); rintro e wz ⟨rfl, hBn⟩; replace hB := hB.trans (hBn.mono hB.size); clear hBn y0 y1 y2 y3 y4; obtain ⟨y0, y1, y2, y3, y4⟩ := HX.out.below hB) | (go_at_call 20; (with_reducible refine (tMay _ hB).mono ?_); rintro e wz ⟨rfl, hBn⟩; replace hB := hB.trans (hBn.mono hB.size); clear hBn y0 y1 y2 y3 y4; obtain ⟨y0, y1, y2, y3, y4⟩ := HX.out.below hB) | (go_at_call 23; (with_reducible refine (tNeed _ hB).mono ?_); rintro e wz ⟨rfl, hBn⟩; replace hB := hB.trans (hBn.mono hB.size); clear hBn y0 y1 y2 y3 y4; obtain ⟨y0, y1, y2, y3, y4⟩ := HX.out.below hB) | (go_at_call 12; (with_reducible refine (tE0 _ hB).mono ?_); rintro e wz ⟨rfl, hBn⟩; replace hB := hB.trans (hBn.mono hB.size); clear hBn y0 y1 y2 y3 y4; obtain ⟨y0, y1, y2, y3, y4⟩ := HX.out.below hB) | (go_at_call 12; (with_reducible refine (tE1 _ hB).mono ?_); rintro e wz ⟨rfl, hBn⟩; replace hB := hB.trans (hBn.mono hB.size); clear hBn y0 y1 y2 y3 y4; obtain ⟨y0, y1, y2, y3, y4⟩ := HX.out.below hB) | (go_at_call 21; (with_reducible refine (tMask _).mono ?_); rintro e w' ⟨rfl, hw'⟩; obtain rfl := hw'.symm; clear hw'))
      go_ret
      exact ⟨rfl, HO.out.trans (hB.mono HO.out.size)⟩
    | false =>
      rw [hq] at tNd tNeed
      rw [if_neg (by decide)] at tNeed
      have tE1 := tEr _ _ (errs_errV 7)
      obtain ⟨er, her⟩ : ∃ er, errV 7 = er := ⟨_, rfl⟩
      rw [her] at tNeed tE1
      have hb0 : best = 0 := by
        rw [← hbe]; unfold Rol.bestN; rw [hse, hq]; rfl
      subst hb0
      clear hA hT hE hA1 hT1 hE1 hx hB0 tEr hin e1 e2 hk hc hs hgd hol hoe hxh hxt hse hw hu hq hbe hg hk10 her
      go_enter Tryd.func6, Tryd.ntmps6
      go_wp2_with (first | (go_at_call 15; (with_reducible refine (tRoles _ hB).mono ?_); rintro e wz ⟨rfl, hBn⟩; replace hB := hB.trans (hBn.mono hB.size); clear hBn y0 y1 y2 y3 y4; obtain ⟨y0, y1, y2, y3, y4⟩ := HX.out.below hB) | (go_at_call 16; (with_reducible refine (tCheck _ hB).mono ?_); rintro e wz ⟨rfl, hBn⟩; replace hB := hB.trans (hBn.mono hB.size); clear hBn y0 y1 y2 y3 y4; obtain ⟨y0, y1, y2, y3, y4⟩ := HX.out.below hB) | (go_at_call 19; (with_reducible refine (tHas _ hB).mono ?_); rintro e wz ⟨rfl, hBn⟩; replace hB := hB.trans (hBn.mono hB.size); clear hBn y0 y1 y2 y3 y4; obtain ⟨y0, y1, y2, y3, y4⟩ := HX.out.below hB) | (go_at_call 20; (with_reducible refine (tMay _ hB).mono ?_); rintro e wz ⟨rfl, hBn⟩; replace hB := hB.trans (hBn.mono hB.size); clear hBn y0 y1 y2 y3 y4; obtain ⟨y0, y1, y2, y3, y4⟩ := HX.out.below hB) | (go_at_call 23; (with_reducible refine (tNeed _ hB).mono ?_); rintro e wz ⟨rfl, hBn⟩; replace hB := hB.trans (hBn.mono hB.size); clear hBn y0 y1 y2 y3 y4; obtain ⟨y0, y1, y2, y3, y4⟩ := HX.out.below hB) | (go_at_call 12; (with_reducible refine (tE0 _ hB).mono ?_); rintro e wz ⟨rfl, hBn⟩; replace hB := hB.trans (hBn.mono hB.size); clear hBn y0 y1 y2 y3 y4; obtain ⟨y0, y1, y2, y3, y4⟩ := HX.out.below hB) | (go_at_call 12; (with_reducible refine (tE1 _ hB).mono ?_); rintro e wz ⟨rfl, hBn⟩; replace hB := hB.trans (hBn.mono hB.size); clear hBn y0 y1 y2 y3 y4; obtain ⟨y0, y1, y2, y3, y4⟩ := HX.out.below hB) | (go_at_call 21; (with_reducible refine (tMask _).mono ?_); rintro e w' ⟨rfl, hw'⟩; obtain rfl := hw'.symm; clear hw'))
      have d0 : wz.drew.cell? ⟨w.heap.size, 0, none⟩ = some (.slice (some ⟨b, off, none⟩) R.mu cU) := y0
      have d1 : wz.drew.cell? ⟨w.heap.size, 1, none⟩ = some (.slice aA R.m cA) := y1
      have d2 : wz.drew.cell? ⟨w.heap.size, 2, none⟩ = some (.slice aM R.mm cM) := y2
      have d3 : wz.drew.cell? ⟨w.heap.size, 3, none⟩ = some (.int .i64 R.few) := y3
      have d4 : wz.drew.cell? ⟨w.heap.size, 4, none⟩ = some (.int .i64 R.most) := y4
      have d5p := keep_cell hB hcu
      have d5 : wz.drew.cell? ⟨b, off + u, none⟩ = some (.int .i64 (s : Int)) := d5p
      have tD := tRS wz.drew (below_drawn hB 1)
      first | (go_region_held3 (fun w' => w'.cell? ⟨w.heap.size, 0, none⟩ = some (.slice (some ⟨b, off, none⟩) R.mu cU) ∧ w'.cell? ⟨w.heap.size, 1, none⟩ = some (.slice aA R.m cA) ∧ w'.cell? ⟨w.heap.size, 2, none⟩ = some (.slice aM R.mm cM) ∧ w'.cell? ⟨w.heap.size, 3, none⟩ = some (.int .i64 R.few) ∧ w'.cell? ⟨w.heap.size, 4, none⟩ = some (.int .i64 R.most) ∧ w'.cell? ⟨b, off + u, none⟩ = some (.int .i64 (s : Int))) ((go_split_ands; refine ⟨?_, ?_, ?_, ?_, ?_, ?_⟩ <;> (with_reducible assumption))) ((go_at_call 17; (with_reducible refine tD.mono ?_); rintro e wy ⟨rfl, hBs⟩; have d0b := keep_cell hBs d0; have d1b := keep_cell hBs d1; have d2b := keep_cell hBs d2; have d3b := keep_cell hBs d3; have d4b := keep_cell hBs d4; have d5b := keep_cell hBs d5))) | fail
      replace hB := hB.trans ((undrew2 hBs).mono hB.size)
      clear hBs d5p d0 d1 d2 d3 d4 d5 d0b d1b d2b d3b d4b d5b tD y0 y1 y2 y3 y4
      obtain ⟨y0, y1, y2, y3, y4⟩ := HX.out.below hB
      go_wp2_with (first | (go_at_call 15; (with_reducible refine (tRoles _ hB).mono ?_); rintro e wz ⟨rfl, hBn⟩; replace hB := hB.trans (hBn.mono hB.size); clear hBn y0 y1 y2 y3 y4; obtain ⟨y0, y1, y2, y3, y4⟩ := HX.out.below hB) | (go_at_call 16; (with_reducible refine (tCheck _ hB).mono ?_); rintro e wz ⟨rfl, hBn⟩; replace hB := hB.trans (hBn.mono hB.size); clear hBn y0 y1 y2 y3 y4; obtain ⟨y0, y1, y2, y3, y4⟩ := HX.out.below hB) | (go_at_call 19; (with_reducible refine (tHas _ hB).mono ?_); rintro e wz ⟨rfl, hBn⟩; replace hB := hB.trans (hBn.mono hB.size); clear hBn y0 y1 y2 y3 y4; obtain ⟨y0, y1, y2, y3, y4⟩ := HX.out.below hB) | (go_at_call 20; (with_reducible refine (tMay _ hB).mono ?_); rintro e wz ⟨rfl, hBn⟩; replace hB := hB.trans (hBn.mono hB.size); clear hBn y0 y1 y2 y3 y4; obtain ⟨y0, y1, y2, y3, y4⟩ := HX.out.below hB) | (go_at_call 23; (with_reducible refine (tNeed _ hB).mono ?_); rintro e wz ⟨rfl, hBn⟩; replace hB := hB.trans (hBn.mono hB.size); clear hBn y0 y1 y2 y3 y4; obtain ⟨y0, y1, y2, y3, y4⟩ := HX.out.below hB) | (go_at_call 12; (with_reducible refine (tE0 _ hB).mono ?_); rintro e wz ⟨rfl, hBn⟩; replace hB := hB.trans (hBn.mono hB.size); clear hBn y0 y1 y2 y3 y4; obtain ⟨y0, y1, y2, y3, y4⟩ := HX.out.below hB) | (go_at_call 12; (with_reducible refine (tE1 _ hB).mono ?_); rintro e wz ⟨rfl, hBn⟩; replace hB := hB.trans (hBn.mono hB.size); clear hBn y0 y1 y2 y3 y4; obtain ⟨y0, y1, y2, y3, y4⟩ := HX.out.below hB) | (go_at_call 21; (with_reducible refine (tMask _).mono ?_); rintro e w' ⟨rfl, hw'⟩; obtain rfl := hw'.symm; clear hw'))
      have d0 : wy.drew.cell? ⟨w.heap.size, 0, none⟩ = some (.slice (some ⟨b, off, none⟩) R.mu cU) := y0
      have d1 : wy.drew.cell? ⟨w.heap.size, 1, none⟩ = some (.slice aA R.m cA) := y1
      have d2 : wy.drew.cell? ⟨w.heap.size, 2, none⟩ = some (.slice aM R.mm cM) := y2
      have d3 : wy.drew.cell? ⟨w.heap.size, 3, none⟩ = some (.int .i64 R.few) := y3
      have d4 : wy.drew.cell? ⟨w.heap.size, 4, none⟩ = some (.int .i64 R.most) := y4
      have d5p := keep_cell hB hcu
      have d5 : wy.drew.cell? ⟨b, off + u, none⟩ = some (.int .i64 (s : Int)) := d5p
      have tD := tTS wy.drew (below_drawn hB 1)
      first | (go_region_held3 (fun w' => w'.cell? ⟨w.heap.size, 0, none⟩ = some (.slice (some ⟨b, off, none⟩) R.mu cU) ∧ w'.cell? ⟨w.heap.size, 1, none⟩ = some (.slice aA R.m cA) ∧ w'.cell? ⟨w.heap.size, 2, none⟩ = some (.slice aM R.mm cM) ∧ w'.cell? ⟨w.heap.size, 3, none⟩ = some (.int .i64 R.few) ∧ w'.cell? ⟨w.heap.size, 4, none⟩ = some (.int .i64 R.most) ∧ w'.cell? ⟨b, off + u, none⟩ = some (.int .i64 (s : Int))) ((go_split_ands; refine ⟨?_, ?_, ?_, ?_, ?_, ?_⟩ <;> (with_reducible assumption))) ((go_at_call 18; (with_reducible refine tD.mono ?_); rintro e wz ⟨rfl, hBs⟩; have d0b := keep_cell hBs d0; have d1b := keep_cell hBs d1; have d2b := keep_cell hBs d2; have d3b := keep_cell hBs d3; have d4b := keep_cell hBs d4; have d5b := keep_cell hBs d5))) | fail
      replace hB := hB.trans ((undrew2 hBs).mono hB.size)
      clear hBs d5p d0 d1 d2 d3 d4 d5 d0b d1b d2b d3b d4b d5b tD y0 y1 y2 y3 y4
      obtain ⟨y0, y1, y2, y3, y4⟩ := HX.out.below hB
      go_wp2_with (first | (go_at_call 15; (with_reducible refine (tRoles _ hB).mono ?_); rintro e wz ⟨rfl, hBn⟩; replace hB := hB.trans (hBn.mono hB.size); clear hBn y0 y1 y2 y3 y4; obtain ⟨y0, y1, y2, y3, y4⟩ := HX.out.below hB) | (go_at_call 16; (with_reducible refine (tCheck _ hB).mono ?_); rintro e wz ⟨rfl, hBn⟩; replace hB := hB.trans (hBn.mono hB.size); clear hBn y0 y1 y2 y3 y4; obtain ⟨y0, y1, y2, y3, y4⟩ := HX.out.below hB) | (go_at_call 19; (with_reducible refine (tHas _ hB).mono ?_); rintro e wz ⟨rfl, hBn⟩; replace hB := hB.trans (hBn.mono hB.size); clear hBn y0 y1 y2 y3 y4; obtain ⟨y0, y1, y2, y3, y4⟩ := HX.out.below hB) | (go_at_call 20; (with_reducible refine (tMay _ hB).mono ?_); rintro e wz ⟨rfl, hBn⟩; replace hB := hB.trans (hBn.mono hB.size); clear hBn y0 y1 y2 y3 y4; obtain ⟨y0, y1, y2, y3, y4⟩ := HX.out.below hB) | (go_at_call 23; (with_reducible refine (tNeed _ hB).mono ?_); rintro e wz ⟨rfl, hBn⟩; replace hB := hB.trans (hBn.mono hB.size); clear hBn y0 y1 y2 y3 y4; obtain ⟨y0, y1, y2, y3, y4⟩ := HX.out.below hB) | (go_at_call 12; (with_reducible refine (tE0 _ hB).mono ?_); rintro e wz ⟨rfl, hBn⟩; replace hB := hB.trans (hBn.mono hB.size); clear hBn y0 y1 y2 y3 y4; obtain ⟨y0, y1, y2, y3, y4⟩ := HX.out.below hB) | (go_at_call 12; (with_reducible refine (tE1 _ hB).mono ?_); rintro e wz ⟨rfl, hBn⟩; replace hB := hB.trans (hBn.mono hB.size); clear hBn y0 y1 y2 y3 y4; obtain ⟨y0, y1, y2, y3, y4⟩ := HX.out.below hB) | (go_at_call 21; (with_reducible refine (tMask _).mono ?_); rintro e w' ⟨rfl, hw'⟩; obtain rfl := hw'.symm; clear hw'))
      have d0 : wz.drew.cell? ⟨w.heap.size, 0, none⟩ = some (.slice (some ⟨b, off, none⟩) R.mu cU) := y0
      have d1 : wz.drew.cell? ⟨w.heap.size, 1, none⟩ = some (.slice aA R.m cA) := y1
      have d2 : wz.drew.cell? ⟨w.heap.size, 2, none⟩ = some (.slice aM R.mm cM) := y2
      have d3 : wz.drew.cell? ⟨w.heap.size, 3, none⟩ = some (.int .i64 R.few) := y3
      have d4 : wz.drew.cell? ⟨w.heap.size, 4, none⟩ = some (.int .i64 R.most) := y4
      have d5p := keep_cell hB hcu
      have d5 : wz.drew.cell? ⟨b, off + u, none⟩ = some (.int .i64 (s : Int)) := d5p
      have tD := tNd wz.drew (below_drawn hB 1)
      first | (go_region_held3 (fun w' => w'.cell? ⟨w.heap.size, 0, none⟩ = some (.slice (some ⟨b, off, none⟩) R.mu cU) ∧ w'.cell? ⟨w.heap.size, 1, none⟩ = some (.slice aA R.m cA) ∧ w'.cell? ⟨w.heap.size, 2, none⟩ = some (.slice aM R.mm cM) ∧ w'.cell? ⟨w.heap.size, 3, none⟩ = some (.int .i64 R.few) ∧ w'.cell? ⟨w.heap.size, 4, none⟩ = some (.int .i64 R.most) ∧ w'.cell? ⟨b, off + u, none⟩ = some (.int .i64 (s : Int))) ((go_split_ands; refine ⟨?_, ?_, ?_, ?_, ?_, ?_⟩ <;> (with_reducible assumption))) ((go_at_call 22; (with_reducible refine tD.mono ?_); rintro e wy ⟨rfl, hBs⟩; have d0b := keep_cell hBs d0; have d1b := keep_cell hBs d1; have d2b := keep_cell hBs d2; have d3b := keep_cell hBs d3; have d4b := keep_cell hBs d4; have d5b := keep_cell hBs d5))) | fail
      replace hB := hB.trans ((undrew2 hBs).mono hB.size)
      clear hBs d5p d0 d1 d2 d3 d4 d5 d0b d1b d2b d3b d4b d5b tD y0 y1 y2 y3 y4
      obtain ⟨y0, y1, y2, y3, y4⟩ := HX.out.below hB
      go_wp2_with (first | (go_at_call 15; (with_reducible refine (tRoles _ hB).mono ?_); rintro e wz ⟨rfl, hBn⟩; replace hB := hB.trans (hBn.mono hB.size); clear hBn y0 y1 y2 y3 y4; obtain ⟨y0, y1, y2, y3, y4⟩ := HX.out.below hB) | (go_at_call 16; (with_reducible refine (tCheck _ hB).mono ?_); rintro e wz ⟨rfl, hBn⟩; replace hB := hB.trans (hBn.mono hB.size); clear hBn y0 y1 y2 y3 y4; obtain ⟨y0, y1, y2, y3, y4⟩ := HX.out.below hB) | (go_at_call 19; (with_reducible refine (tHas _ hB).mono ?_); rintro e wz ⟨rfl, hBn⟩; replace hB := hB.trans (hBn.mono hB.size); clear hBn y0 y1 y2 y3 y4; obtain ⟨y0, y1, y2, y3, y4⟩ := HX.out.below hB) | (go_at_call 20; (with_reducible refine (tMay _ hB).mono ?_); rintro e wz ⟨rfl, hBn⟩; replace hB := hB.trans (hBn.mono hB.size); clear hBn y0 y1 y2 y3 y4; obtain ⟨y0, y1, y2, y3, y4⟩ := HX.out.below hB) | (go_at_call 23; (with_reducible refine (tNeed _ hB).mono ?_); rintro e wz ⟨rfl, hBn⟩; replace hB := hB.trans (hBn.mono hB.size); clear hBn y0 y1 y2 y3 y4; obtain ⟨y0, y1, y2, y3, y4⟩ := HX.out.below hB) | (go_at_call 12; (with_reducible refine (tE0 _ hB).mono ?_); rintro e wz ⟨rfl, hBn⟩; replace hB := hB.trans (hBn.mono hB.size); clear hBn y0 y1 y2 y3 y4; obtain ⟨y0, y1, y2, y3, y4⟩ := HX.out.below hB) | (go_at_call 12; (with_reducible refine (tE1 _ hB).mono ?_); rintro e wz ⟨rfl, hBn⟩; replace hB := hB.trans (hBn.mono hB.size); clear hBn y0 y1 y2 y3 y4; obtain ⟨y0, y1, y2, y3, y4⟩ := HX.out.below hB) | (go_at_call 21; (with_reducible refine (tMask _).mono ?_); rintro e w' ⟨rfl, hw'⟩; obtain rfl := hw'.symm; clear hw'))
      go_ret
      exact ⟨rfl, HO.out.trans (hB.mono HO.out.size)⟩
end Go.Proofs.YtdmdoikkemfcaaaDoor
