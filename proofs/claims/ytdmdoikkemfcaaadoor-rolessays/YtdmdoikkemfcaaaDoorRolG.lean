/- The fewest of a user's roles with which it may do some tasks (Need). -/
import Derived.WalkKit
import Derived.LoopTactic
import Derived.Test.YtdmdoikkemfcaaaDoorRolF
import Derived.Test.YtdmdoikkemfcaaaDoorMid
namespace Go.Proofs.YtdmdoikkemfcaaaDoor
open Go.RowKit
set_option maxRecDepth 100000

theorem fewest_any (g m cG all want : Nat) (f : Nat → Nat) (hm : m ≤ 8) (hf : ∀ i, i < m → f i < 1024) (hw : want < 1024) (ha : all < 2 ^ m) (w : World) (ho : Own w g m f) (hT : Tab w) :
    Calls Tryd.prog 45 #[.slice (some ⟨g, 0, none⟩) m cG, .int .i64 all, .int .i64 want] w fun e w' =>
      e = .returned (.tuple #[.int .i64 ((if enB m f want all = true then fewN (fewB m f all want) all all else 0 : Nat) : Int), errV (if enB m f want all = true then 0 else 7)]) ∧ Below w.heap.size w w' := by
  by_cases h : enB m f want all = true
  · rw [if_pos h, if_pos h]
    exact fewest_yes g m cG all want f hm hf hw ha h w ho hT
  · rw [if_neg h, if_neg h]
    exact fewest_no g m cG all want f hm hf hw ha (by simpa using h) w ho hT
/-- What each role brings. -/
def Rol.bri (R : Rol) (i : Nat) : Nat := stepN R.m R.may (R.C i)
section
variable {R : Rol}
theorem Rol.Most.bri_lt (h : R.Most) : ∀ i, i < R.m → R.bri i < 1024 := fun _ _ => stepN_ltk (k := 10) h.may_lt _
theorem Rol.Most.en_tasks (h : R.Most) (hz : R.m ≤ R.ab.length) (want s : Nat) (hs : s < 2 ^ R.m) : enB R.m R.bri want s = subB want (R.tasks s) := by
  unfold enB
  rw [show R.bri = fun i => stepN R.m R.may (R.C i) from rfl, bring_step h.n12 (h.C_lt hz) R.may hs]
  rfl
theorem Rol.Most.few_ok (h : R.Most) (hz : R.m ≤ R.ab.length) (all want : Nat) (ha : all < 2 ^ R.m) : fewB R.m R.bri all want = R.okB all want := by
  funext s
  unfold fewB Rol.okB
  cases e : subB s all with
  | false => rfl
  | true => rw [h.en_tasks hz want s (Nat.lt_of_le_of_lt (sub_le e) ha)]
end
/-- What is told of what a user needs. -/
def Rol.needC (R : Rol) (user want : Int) : Int :=
  if R.code = 0 then (if inB user R.mu = true ∧ goodB 10 want = true then (if subB want.toNat (R.tasks (R.has (R.own user.toNat))) = true then 0 else 7) else 1) else R.code
def Rol.needN (R : Rol) (user want : Int) : Nat := if R.needC user want = 0 then R.need user.toNat want.toNat else 0
theorem needC_bad {R : Rol} (h : R.code ≠ 0) (user want : Int) : R.needC user want = R.code := by unfold Rol.needC; rw [if_neg h]
theorem needC_out {R : Rol} (h : R.Ok) {user want : Int} (q : ¬ (inB user R.mu = true ∧ goodB 10 want = true)) : R.needC user want = 1 := by unfold Rol.needC; rw [if_pos (Rol.code_ok h), if_neg q]
theorem needC_in {R : Rol} (h : R.Ok) {u k : Nat} (q : u < R.mu) (hk : k < 1024) : R.needC u k = if subB k (R.tasks (R.has (R.own u))) = true then 0 else 7 := by
  unfold Rol.needC
  rw [if_pos (Rol.code_ok h), if_pos ⟨inB_yes (by omega) (by omega), goodB_yes ⟨by omega, by omega⟩⟩, Int.toNat_natCast, Int.toNat_natCast]
theorem needN_no {R : Rol} {user want : Int} (h : R.needC user want ≠ 0) : R.needN user want = 0 := by unfold Rol.needN; rw [if_neg h]
theorem isTasks_any (z : Int) (w : World) : Calls Tryd.prog 44 #[.int .i64 z, .int .i64 10] w fun e w' => e = .returned (.bool (goodB 10 z)) ∧ w' = w := isSet_any z 10 (by decide) w

set_option maxHeartbeats 4000000 in
theorem rneed_bad (aU aA aM : Option Addr) (cU cA cM : Nat) (R : Rol) (user want : Int) (w : World) (hA : AtRol w aU aA aM R) (hT : Tab w) (h : R.code ≠ 0 ∨ (R.Ok ∧ ¬ (inB user R.mu = true ∧ goodB 10 want = true))) :
    Calls Tryd.prog 23 #[rolV aU aA aM cU cA cM R, .int .i64 user, .int .i64 want] w fun e w' => e = .returned (.tuple #[.int .i64 0, .iface 54 (.int .i64 (R.needC user want))]) ∧ Below w.heap.size w w' := by
  obtain ⟨w1, hw1⟩ : ∃ w1, w.alloc (.cells #[.slice aU R.mu cU, .slice aA R.m cA, .slice aM R.mm cM, .int .i64 R.few, .int .i64 R.most] 39) = w1 := ⟨_, rfl⟩
  have hB0 : Below w.heap.size w w1 := by rw [← hw1]; exact (Below.refl _ w).alloc (Nat.le_refl _) _
  have hx : Box5 w1 w.heap.size (.slice aU R.mu cU) (.slice aA R.m cA) (.slice aM R.mm cM) (.int .i64 R.few) (.int .i64 R.most) := by rw [← hw1]; exact Box5.new _ _ _ _ _ _ _
  obtain ⟨x0, x1, x2, x3, x4⟩ := id hx
  have hA1 := hA.below hB0
  have hT1 := hT.below hB0 hT.size
  have HX := Hid.mkI hx
  rcases h with hc | ⟨hk, hq⟩
  · have t1 := coming_bad aU aA aM cU cA cM R R.code (rolBad_of hc) w1 hA1 hT1
    rw [needC_bad hc]
    obtain ⟨c, hcc⟩ : ∃ c, R.code = c := ⟨_, rfl⟩
    rw [hcc] at t1 ⊢
    clear hc hA hT hcc
    go_enter Tryd.func23, Tryd.ntmps23
    go_wp2_with (go_at_call 38; (with_reducible refine t1.mono ?_); rintro e w2 ⟨rfl, hB⟩)
    go_ret2
    exact ⟨rfl, hB0.trans (hB.mono hB0.size)⟩
  · have t1 := coming_ok aU aA aM cU cA cM R hk w1 hA1 hT1
    have t2 := fun W => isUserR_any aU aA aM cU cA cM R user W
    rw [needC_out hk hq]
    cases q : inB user R.mu with
    | false =>
      rw [q] at t2
      clear hA hT hk q hq
      go_enter Tryd.func23, Tryd.ntmps23
      go_wp2_with (first | (go_at_call 38; (with_reducible refine t1.mono ?_); rintro e w2 ⟨g, rfl, ho, hB⟩; obtain ⟨y0, y1, y2, y3, y4⟩ := HX.out.below hB) | (go_at_call 42; (with_reducible refine (t2 _).mono ?_); rintro e w3 ⟨rfl, hB3⟩))
      go_ret2
      exact ⟨rfl, hB0.trans ((hB.trans (hB3.mono hB.size)).mono hB0.size)⟩
    | true =>
      have t3 := fun W => isTasks_any want W
      rw [show goodB 10 want = false by cases e : goodB 10 want with | false => rfl | true => exact absurd ⟨q, e⟩ hq] at t3
      rw [q] at t2
      clear hA hT hk q hq
      go_enter Tryd.func23, Tryd.ntmps23
      go_wp2_with (first | (go_at_call 38; (with_reducible refine t1.mono ?_); rintro e w2 ⟨g, rfl, ho, hB⟩; obtain ⟨y0, y1, y2, y3, y4⟩ := HX.out.below hB) | (go_at_call 42; (with_reducible refine (t2 _).mono ?_); rintro e w3 ⟨rfl, hB3⟩) | (go_at_call 44; (with_reducible refine (t3 _).mono ?_); rintro e w' ⟨rfl, rfl⟩))
      go_ret2
      exact ⟨rfl, hB0.trans ((hB.trans (hB3.mono hB.size)).mono hB0.size)⟩

set_option maxHeartbeats 4000000 in
theorem rneed_in (aU aA aM : Option Addr) (cU cA cM : Nat) (R : Rol) (u want : Nat) (w : World) (hA : AtRol w aU aA aM R) (hT : Tab w) (hk : R.Ok) (hu : u < R.mu) (hw : want < 1024) :
    Calls Tryd.prog 23 #[rolV aU aA aM cU cA cM R, .int .i64 u, .int .i64 want] w fun e w' => e = .returned (.tuple #[.int .i64 (R.needN u want : Nat), errV (R.needC u want)]) ∧ Below w.heap.size w w' := by
  obtain ⟨w1, hw1⟩ : ∃ w1, w.alloc (.cells #[.slice aU R.mu cU, .slice aA R.m cA, .slice aM R.mm cM, .int .i64 R.few, .int .i64 R.most] 39) = w1 := ⟨_, rfl⟩
  have hB0 : Below w.heap.size w w1 := by rw [← hw1]; exact (Below.refl _ w).alloc (Nat.le_refl _) _
  have hx : Box5 w1 w.heap.size (.slice aU R.mu cU) (.slice aA R.m cA) (.slice aM R.mm cM) (.int .i64 R.few) (.int .i64 R.most) := by rw [← hw1]; exact Box5.new _ _ _ _ _ _ _
  have hA1 := hA.below hB0
  have hT1 := hT.below hB0 hT.size
  have t1 := coming_ok aU aA aM cU cA cM R hk w1 hA1 hT1
  have t2 := fun W => isUserR_any aU aA aM cU cA cM R (u : Int) W
  have t3 := fun W => isTasks_any (want : Int) W
  rw [inB_yes (by omega) (by omega)] at t2
  rw [goodB_yes ⟨by omega, by omega⟩] at t3
  obtain ⟨b, off, rfl, hs⟩ := hA1.us.resolve_left (show ¬ R.mu = 0 by omega)
  have hcu := hs.cell u hu
  have hgd := hk.us u hu
  have hol := hk.own_lt hu
  have hoe : R.us[u]?.getD 0 = ((R.own u : Nat) : Int) := by unfold Rol.own; have := hgd.1; omega
  rw [hoe] at hcu
  have h8 := hk.m8
  have tS := fun g W (ho : Own W g R.m R.C) (hT : Tab W) => step_all R.m hk.n12 (some ⟨g, 0, none⟩) R.m (R.own u) (listOf R.m R.C) (listOf_right hk.n12 (hk.C_lt hA1.la)).lt12 hol W (own_at ho) hT
  have tM := fun i (hi : i < R.m) W (hb : Below w1.heap.size w1 W) => step_all R.m hk.n12 aM cM (R.C i) R.may (fun i => by have := hk.may_lt i; omega) (hk.C_lt hA1.la i hi) W (may_at hk.toMost (hA1.ma.below hb)) (hT1.below hb hT1.size)
  have hall := hk.has_lt hA1.la (R.own u)
  have tF := fun g W (ho : Own W g R.m R.bri) (hT : Tab W) => fewest_any g R.m R.m (R.has (R.own u)) want R.bri h8 hk.bri_lt hw hall W ho hT
  rw [hk.en_tasks hA1.la want _ hall, hk.few_ok hA1.la _ want hall] at tF
  have HR : Hid (R.needC u want = (if subB want (R.tasks (R.has (R.own u))) = true then 0 else 7) ∧ R.needN u want = (if subB want (R.tasks (R.has (R.own u))) = true then fewN (R.okB (R.has (R.own u)) want) (R.has (R.own u)) (R.has (R.own u)) else 0)) := by
    have e := needC_in hk hu hw
    refine ⟨e, ?_⟩
    unfold Rol.needN
    rw [e]
    by_cases q : subB want (R.tasks (R.has (R.own u))) = true
    · rw [if_pos q, if_pos q, if_pos rfl, Int.toNat_natCast, Int.toNat_natCast]; rfl
    · rw [if_neg q, if_neg q, if_neg (by decide)]
  rw [← HR.out.1, ← HR.out.2] at tF
  obtain ⟨er, her⟩ : ∃ v, errV (R.needC u want) = v := ⟨_, rfl⟩
  obtain ⟨n, hn⟩ : ∃ n, R.needN u want = n := ⟨_, rfl⟩
  rw [her, hn] at tF ⊢
  have HH : Hid (stepN R.m (listOf R.m R.C) (R.own u) = R.has (R.own u)) := rfl
  rw [HH.out] at tS
  obtain ⟨x, hxe⟩ : ∃ x, R.has (R.own u) = x := ⟨_, rfl⟩
  rw [hxe] at tS tF hall
  obtain ⟨s, hse⟩ : ∃ s, R.own u = s := ⟨_, rfl⟩
  rw [hse] at tS hcu
  have hui : (u : Int) < (R.mu : Int) := by omega
  have HN := Hid.mkI (And.intro hA1 hT1)
  have HK := Hid.mkI hk
  have h3 := hk.mm
  have hlt := hk.C_lt hA1.la
  have hmk := fun W => make_any W R.m hk.n12
  have hp8 := pow8 h8
  unfold rolV at t1 t2
  show Calls _ _ #[.agg #[.slice (some ⟨b, off, none⟩) R.mu cU, .slice aA R.m cA, .slice aM R.mm cM, .int .i64 R.few, .int .i64 R.most], _, _] _ _
  rw [h3] at hx hw1 t1 t2
  rw [h3]
  obtain ⟨x0, x1, x2, x3, x4⟩ := id hx
  have HX := Hid.mkI hx
  clear hA hT hk hs hgd hol hoe hxe hse HH hA1 hT1 her hn hx h3 HR hp8
  go_enter Tryd.func23, Tryd.ntmps23
  go_wp2_with (first | (go_at_call 38; (with_reducible refine t1.mono ?_); rintro e w2 ⟨g, rfl, ho, hB⟩; obtain ⟨y0, y1, y2, y3, y4⟩ := HX.out.below hB) | (go_at_call 42; (with_reducible refine (t2 _).mono ?_); rintro e w3 ⟨rfl, hB3⟩; have hB4 := hB.trans (hB3.mono hB.size)) | (go_at_call 44; (with_reducible refine (t3 _).mono ?_); rintro e w' ⟨rfl, hw'⟩; obtain rfl := hw'.symm))
  have ho4 := Own.below ho hB3
  have hmd := Own.made w3 R.m
  have hBm : Below w3.heap.size w3 (w3.alloc (.cells (madeCells #[.int .i64 0] R.m) 3)) := (Below.refl _ _).alloc (Nat.le_refl _) _
  have ho5 := Own.below ho4 hBm
  have hBc := hB4.trans (hBm.mono hB4.size)
  have N : Hid (g ≠ w3.heap.size ∧ w1.heap.size ≤ w3.heap.size) := ⟨by have := Own.lt ho4; omega, hB4.size⟩
  clear t1 t2 t3 ho hB hB3 hB4 ho4 hBm hmk y0 y1 y2 y3 y4 x0 x1 x2 x3 x4 hw1
  go_loopw [36] (fun i wr => ∃ k : Nat, k ≤ R.m ∧ i = .int .i64 k ∧ Own wr g R.m R.C ∧ Own wr w3.heap.size R.m (fun j => if j < k then R.bri j else 0) ∧ Below w1.heap.size w1 wr) (fun i _ => R.m - (intOf i).toNat)
  case atStart => exact ⟨0, by omega, rfl, ho5, by simpa using hmd, hBc⟩
  case round =>
    obtain ⟨k, hk, rfl, hoo, hod, hB⟩ := hrel
    clear hmd ho5 hBc
    obtain ⟨z0, z1, z2, z3, z4⟩ := HX.out.below hB
    by_cases hlt2 : k < R.m
    · have e1 := hoo.cell k hlt2
      have t4 := tM k hlt2 wr hB
      have HS : Hid (stepN R.m R.may (R.C k) = R.bri k) := rfl
      obtain ⟨S, hS⟩ : ∃ S, stepN R.m R.may (R.C k) = S := ⟨_, rfl⟩
      rw [hS] at t4 HS
      have hki : (k : Int) < (R.m : Int) := by omega
      clear hS tM tF tS
      go_wp2_with (go_at_call 43; (with_reducible refine t4.mono ?_); rintro e wn ⟨rfl, hBn⟩; have hod' := hod.below hBn; have hck := hod'.cell k hlt2; have hfk := hod'.free k hlt2)
      go_roundw
      case rel =>
        refine ⟨k + 1, by omega, by go_num, (hoo.below hBn).other N.out.1, hod'.put hlt2 (by rw [if_pos (by omega), HS.out]) (fun j hj hne => ?_), (hB.trans (hBn.mono hB.size)).setCell (p := ⟨w3.heap.size, k, none⟩) N.out.2 _⟩
        have e : (j < k + 1) ↔ (j < k) := by omega
        simp only [e]
      case measure => simp [intOf]; omega
    · have ho2 : Own wr w3.heap.size R.m R.bri := ⟨hod.lt, fun j hj => by rw [hod.cell j hj, if_pos (by omega)], hod.free⟩
      have hTr := HN.out.2.below hB HN.out.2.size
      have t5 := tS g wr hoo hTr
      have t6 := fun W (hb : Below wr.heap.size wr W) => tF w3.heap.size W (ho2.below hb) (hTr.below hb hTr.size)
      have hcr := keep_cell hB hcu
      have hge : (R.m : Int) ≤ (k : Int) := by omega
      clear hod hoo tM tF tS hcu hTr
      go_wp2_with (first | (go_at_call 43; (with_reducible refine t5.mono ?_); rintro e wn ⟨rfl, hBn⟩; have t6 := t6 _ hBn) | (go_at_call 45; (with_reducible refine t6.mono ?_); rintro e wo ⟨rfl, hBo⟩))
      go_ret2
      exact ⟨rfl, hB0.trans ((hB.trans ((hBn.trans (hBo.mono hBn.size)).mono hB.size)).mono hB0.size)⟩

theorem rneed_any (aU aA aM : Option Addr) (cU cA cM : Nat) (R : Rol) (user want : Int) (w : World) (hA : AtRol w aU aA aM R) (hT : Tab w) :
    Calls Tryd.prog 23 #[rolV aU aA aM cU cA cM R, .int .i64 user, .int .i64 want] w fun e w' => e = .returned (.tuple #[.int .i64 (R.needN user want : Nat), errV (R.needC user want)]) ∧ Below w.heap.size w w' := by
  by_cases hc : R.code = 0
  · have hk := Rol.ok_of hc
    by_cases q : inB user R.mu = true ∧ goodB 10 want = true
    · obtain ⟨u, rfl, hu⟩ := inB_at q.1
      have hg := (goodB_iff 10 want).1 q.2
      obtain ⟨k, rfl⟩ : ∃ k : Nat, want = k := ⟨want.toNat, by have := hg.1; omega⟩
      exact rneed_in aU aA aM cU cA cM R u k w hA hT hk hu (by have := hg.2; omega)
    · have e := needC_out hk q
      have h := rneed_bad aU aA aM cU cA cM R user want w hA hT (.inr ⟨hk, q⟩)
      rw [needN_no (by rw [e]; decide), errV_ne (by rw [e]; decide)]
      exact h
  · have e := needC_bad hc user want
    have h := rneed_bad aU aA aM cU cA cM R user want w hA hT (.inl hc)
    rw [needN_no (by rw [e]; exact hc), errV_ne (by rw [e]; exact hc)]
    exact h
end Go.Proofs.YtdmdoikkemfcaaaDoor
