/- All roles of a set and all tasks of it, as the document has them (RoleSet, TaskSet). -/
import Derived.WalkKit
import Derived.LoopTactic
import Derived.Test.YtdmdoikkemfcaaaDoorRolE
import Derived.Test.YtdmdoikkemfcaaaDoorHeld
namespace Go.Proofs.YtdmdoikkemfcaaaDoor
open Go.RowKit
set_option maxRecDepth 100000

theorem mod_lt_pow {m k s : Nat} (hk : k ≤ m) : s % 2 ^ k < 2 ^ m := Nat.lt_of_lt_of_le (Nat.mod_lt _ (Nat.two_pow_pos k)) (Nat.pow_le_pow_right (by decide) hk)
theorem step_more {m k s : Nat} {rows : List Nat} (hm : m ≤ 12) (hk : k < m) (hb : s.testBit k = true) : stepN m rows (s % 2 ^ (k + 1)) = stepN m rows (s % 2 ^ k) ||| rows.getD k 0 := eq_of_bits fun j => by
  rw [Nat.testBit_or, Bool.or_eq_true, stepN_bit hm (mod_lt_pow (by omega)), stepN_bit hm (mod_lt_pow (by omega))]
  constructor
  · rintro ⟨i, h1, h2⟩
    rw [Nat.testBit_mod_two_pow, Bool.and_eq_true, decide_eq_true_eq] at h1
    by_cases e : i = k
    · subst e; exact .inr h2
    · exact .inl ⟨i, by rw [Nat.testBit_mod_two_pow, h1.2, decide_eq_true (by omega)]; rfl, h2⟩
  · rintro (⟨i, h1, h2⟩ | h)
    · rw [Nat.testBit_mod_two_pow, Bool.and_eq_true, decide_eq_true_eq] at h1
      exact ⟨i, by rw [Nat.testBit_mod_two_pow, h1.2, decide_eq_true (by omega)]; rfl, h2⟩
    · exact ⟨k, by rw [Nat.testBit_mod_two_pow, hb, decide_eq_true (by omega)]; rfl, h⟩
theorem step_pass {m k s : Nat} {rows : List Nat} (hb : s.testBit k = false) : stepN m rows (s % 2 ^ (k + 1)) = stepN m rows (s % 2 ^ k) := by
  have : s % 2 ^ (k + 1) = s % 2 ^ k := Nat.eq_of_testBit_eq fun i => by
    rw [Nat.testBit_mod_two_pow, Nat.testBit_mod_two_pow]
    by_cases e : i = k
    · subst e; rw [hb]; simp
    · rw [show decide (i < k + 1) = decide (i < k) by rw [decide_eq_decide]; omega]
  rw [this]
theorem step_none (m : Nat) (rows : List Nat) (s : Nat) : stepN m rows (s % 2 ^ 0) = 0 := by
  rw [Nat.pow_zero, Nat.mod_one]
  unfold stepN
  rw [memN_zero]; rfl

set_option maxHeartbeats 2000000 in
theorem roleSet_any (aU aA aM : Option Addr) (cU cA cM : Nat) (R : Rol) (h : R.Most) (s : Nat) (hs : s < 2 ^ R.m) (w : World) (hA : AtRol w aU aA aM R) :
    Calls Tryd.prog 17 #[rolV aU aA aM cU cA cM R, .int .i64 s] w fun e w' => e = .returned (.int .i64 (R.has s : Nat)) ∧ Below w.heap.size w w' := by
  obtain ⟨w1, hw1⟩ : ∃ w1, w.alloc (.cells #[.slice aU R.mu cU, .slice aA R.m cA, .slice aM R.mm cM, .int .i64 R.few, .int .i64 R.most] 39) = w1 := ⟨_, rfl⟩
  have hB0 : Below w.heap.size w w1 := by rw [← hw1]; exact (Below.refl _ w).alloc (Nat.le_refl _) _
  obtain ⟨x0, x1, x2, x3, x4⟩ : Box5 w1 w.heap.size (.slice aU R.mu cU) (.slice aA R.m cA) (.slice aM R.mm cM) (.int .i64 R.few) (.int .i64 R.most) := by rw [← hw1]; exact Box5.new _ _ _ _ _ _ _
  have hA1 := hA.below hB0
  have h12 := h.n12
  have h8 := pow8 h.m8
  have t1 := refClosure_any aA R.m cA (rowsOf R.m R.ab) (rowsOf_right h12 hA1.la h.ab) w1 (hA1.ab.at h.ab)
  have HC : Hid (∀ i, i < R.m → R.C i < 256) := fun i hi => by have := h.C_lt hA1.la i hi; omega
  have HL : Hid (∀ k, stepN R.m (listOf R.m R.C) k < 256) := fun k => by have := h.has_lt hA1.la k; unfold Rol.has at this; omega
  have HE : Hid (stepN R.m (listOf R.m R.C) (s % 2 ^ R.m) = R.has s) := by show _ = _; rw [Nat.mod_eq_of_lt hs]; rfl
  have hs4 : s < 4096 := by omega
  have tB := fun (k : Nat) (hk : k < 12) W => bit_any s k hs4 (by omega) W
  have tE := fun (a b : Nat) (ha : a < 256) (hb : b < 256) W => either_any a b (by omega) (by omega) W
  have hC : come R.m (rowsOf R.m R.ab) = R.C := rfl
  rw [hC] at t1
  obtain ⟨m, hm⟩ : ∃ m, R.m = m := ⟨_, rfl⟩
  obtain ⟨C, hCe⟩ : ∃ C, R.C = C := ⟨_, rfl⟩
  obtain ⟨y, hye⟩ : ∃ y, R.has s = y := ⟨_, rfl⟩
  rw [hCe, hm] at t1 HC HL HE
  rw [hye] at HE ⊢
  rw [hm] at h12 x1 hw1
  show Calls _ _ #[.agg #[.slice aU R.mu cU, .slice aA R.m cA, .slice aM R.mm cM, .int .i64 R.few, .int .i64 R.most], _] _ _
  rw [hm]
  have HO := Hid.mkI hB0
  clear h h8 hA hA1 hs hC hm hCe hye hB0 hs4
  go_enter Tryd.func17, Tryd.ntmps17
  go_wp2_with fail
  refine t1.mono ?_
  clear t1
  rintro e w2 ⟨v, rfl, hv, hB⟩
  rcases hv with ⟨rfl, a, cp, rfl⟩ | ⟨h0, g, cp, rfl, ho⟩
  · have HE2 : Hid (y = 0) := by have := HE.out; rw [step_none] at this; exact this.symm
    clear tB tE HE HC HL
    go_wp2_with fail
    go_loop [6, 7] (fun o i => o = .int .i64 0 ∧ i = .int .i64 0) (fun _ _ => 0)
    case atStart => exact ⟨rfl, rfl⟩
    case round =>
      obtain ⟨rfl, rfl⟩ := hrel
      go_wp2
      go_ret
      exact ⟨by rw [HE2.out]; rfl, HO.out.trans (hB.mono HO.out.size)⟩
  · go_wp2_with fail
    go_loop [6, 7] (fun o i => ∃ k x : Nat, k ≤ m ∧ i = .int .i64 k ∧ o = .int .i64 x ∧ Hid (stepN m (listOf m C) (s % 2 ^ k) = x)) (fun _ i => m - (intOf i).toNat)
    case atStart => exact ⟨0, 0, by omega, rfl, rfl, step_none _ _ _⟩
    case round =>
      obtain ⟨k, x, hk, rfl, rfl, HX⟩ := hrel
      by_cases hlt : k < m
      · have hki : (k : Int) < (m : Int) := by omega
        have hxl : x < 256 := by rw [← HX.out]; exact HL.out _
        have hcl := HC.out k hlt
        have hc := ho.cell k hlt
        have tB := fun W => tB k (by omega) W
        have tE := fun W => tE x (C k) hxl hcl W
        cases hb : s.testBit k with
        | true =>
          rw [hb] at tB
          have HN : Hid (stepN m (listOf m C) (s % 2 ^ (k + 1)) = x ||| C k) := by show _ = _; rw [step_more h12 hlt hb, HX.out, listOf_get _ hlt]
          obtain ⟨z, hz⟩ : ∃ z, C k = z := ⟨_, rfl⟩
          rw [hz] at hc tE HN
          clear hb hz HX hcl
          go_wp2_with (first | (go_at_call 40; (with_reducible refine (tB _).mono ?_); rintro e w' ⟨rfl, rfl⟩) | (go_at_call 41; (with_reducible refine (tE _).mono ?_); rintro e w' ⟨rfl, rfl⟩))
          go_round
          case rel => exact ⟨k + 1, x ||| z, by omega, by go_num, rfl, HN⟩
          case measure => simp [intOf]; omega
        | false =>
          rw [hb] at tB
          have HN : Hid (stepN m (listOf m C) (s % 2 ^ (k + 1)) = x) := by show _ = _; rw [step_pass hb, HX.out]
          clear hb HX hcl tE
          go_wp2_with (first | (go_at_call 40; (with_reducible refine (tB _).mono ?_); rintro e w' ⟨rfl, rfl⟩))
          go_round
          case rel => exact ⟨k + 1, x, by omega, by go_num, rfl, HN⟩
          case measure => simp [intOf]; omega
      · have hge : (m : Int) ≤ (k : Int) := by omega
        have HF : Hid (x = y) := by
          have e : k = m := by omega
          have := HX.out
          rw [e, HE.out] at this
          exact this.symm
        clear tB tE
        go_wp2
        go_ret
        exact ⟨by rw [← HF.out]; rfl, HO.out.trans (hB.mono HO.out.size)⟩

set_option maxHeartbeats 2000000 in
theorem taskSet_any (aU aA aM : Option Addr) (cU cA cM : Nat) (R : Rol) (h : R.Most) (s : Nat) (hs : s < 2 ^ R.m) (w : World) (hA : AtRol w aU aA aM R) :
    Calls Tryd.prog 18 #[rolV aU aA aM cU cA cM R, .int .i64 s] w fun e w' => e = .returned (.int .i64 (R.tasks s : Nat)) ∧ Below w.heap.size w w' := by
  obtain ⟨w1, hw1⟩ : ∃ w1, w.alloc (.cells #[.slice aU R.mu cU, .slice aA R.m cA, .slice aM R.mm cM, .int .i64 R.few, .int .i64 R.most] 39) = w1 := ⟨_, rfl⟩
  have hB0 : Below w.heap.size w w1 := by rw [← hw1]; exact (Below.refl _ w).alloc (Nat.le_refl _) _
  have hx : Box5 w1 w.heap.size (.slice aU R.mu cU) (.slice aA R.m cA) (.slice aM R.mm cM) (.int .i64 R.few) (.int .i64 R.most) := by rw [← hw1]; exact Box5.new _ _ _ _ _ _ _
  have hA1 := hA.below hB0
  have h12 := h.n12
  have h8 := pow8 h.m8
  have t1 := roleSet_any aU aA aM cU cA cM R h s hs w1 hA1
  have hrl := h.has_lt hA1.la s
  have HAt := Hid.mkI (may_at h hA1.ma)
  have HC : Hid (∀ i, R.may.getD i 0 < 1024) := h.may_lt
  have HL : Hid (∀ k, stepN R.m R.may k < 1024) := fun k => stepN_ltk (k := 10) h.may_lt _
  have HE : Hid (stepN R.m R.may (R.has s % 2 ^ R.m) = R.tasks s) := by show _ = _; rw [Nat.mod_eq_of_lt hrl]; rfl
  have h3 := h.mm
  obtain ⟨q, hqe⟩ : ∃ y, R.has s = y := ⟨_, rfl⟩
  rw [hqe] at t1 HE hrl
  have hs4 : q < 4096 := by omega
  have tB := fun (k : Nat) (hk : k < 12) W => bit_any q k hs4 (by omega) W
  have tE := fun (a b : Nat) (ha : a < 1024) (hb : b < 1024) W => either_any a b (by omega) (by omega) W
  obtain ⟨y, hye⟩ : ∃ y, R.tasks s = y := ⟨_, rfl⟩
  rw [hye] at HE ⊢
  obtain ⟨may, hme⟩ : ∃ y, R.may = y := ⟨_, rfl⟩
  rw [hme] at HC HL HE HAt
  unfold rolV at t1
  rw [h3] at hx hw1 t1
  show Calls _ _ #[.agg #[.slice aU R.mu cU, .slice aA R.m cA, .slice aM R.mm cM, .int .i64 R.few, .int .i64 R.most], _] _ _
  rw [h3]
  obtain ⟨m, hm⟩ : ∃ m, R.m = m := ⟨_, rfl⟩
  rw [hm] at h12 hx hw1 t1 HL HE HAt ⊢
  obtain ⟨x0, x1, x2, x3, x4⟩ := id hx
  have HX0 := Hid.mkI hx
  have HO := Hid.mkI hB0
  clear h h8 hA hA1 hs hm hye hB0 hs4 hrl h3 hqe hme hx
  go_enter Tryd.func18, Tryd.ntmps18
  go_wp2_with fail
  refine t1.mono ?_
  clear t1
  rintro e w2 ⟨rfl, hB⟩
  obtain ⟨y0, y1, y2, y3, y4⟩ := HX0.out.below hB
  have HA2 := Hid.mkI (HAt.out.below hB)
  clear x0 x1 x2 x3 x4
  go_wp2_with fail
  go_loop [6, 7] (fun o i => ∃ k x : Nat, k ≤ m ∧ i = .int .i64 k ∧ o = .int .i64 x ∧ Hid (stepN m may (q % 2 ^ k) = x)) (fun _ i => m - (intOf i).toNat)
  case atStart => exact ⟨0, 0, by omega, rfl, rfl, step_none _ _ _⟩
  case round =>
    obtain ⟨k, x, hk, rfl, rfl, HX⟩ := hrel
    by_cases hlt : k < m
    · have hki : (k : Int) < (m : Int) := by omega
      have hxl : x < 1024 := by rw [← HX.out]; exact HL.out _
      have hcl := HC.out k
      obtain ⟨b, off, rfl, hl⟩ := HA2.out.resolve_left (by omega)
      have hc := hl.cell k hlt
      have tB := fun W => tB k (by omega) W
      have tE := fun W => tE x (may.getD k 0) hxl hcl W
      cases hb : q.testBit k with
      | true =>
        rw [hb] at tB
        have HN : Hid (stepN m may (q % 2 ^ (k + 1)) = x ||| may.getD k 0) := by show _ = _; rw [step_more h12 hlt hb, HX.out]
        obtain ⟨z, hz⟩ : ∃ z, may.getD k 0 = z := ⟨_, rfl⟩
        rw [hz] at hc tE HN
        clear hb hz HX hcl hl
        go_wp2_with (first | (go_at_call 40; (with_reducible refine (tB _).mono ?_); rintro e w' ⟨rfl, rfl⟩) | (go_at_call 41; (with_reducible refine (tE _).mono ?_); rintro e w' ⟨rfl, rfl⟩))
        go_round
        case rel => exact ⟨k + 1, x ||| z, by omega, by go_num, rfl, HN⟩
        case measure => simp [intOf]; omega
      | false =>
        rw [hb] at tB
        have HN : Hid (stepN m may (q % 2 ^ (k + 1)) = x) := by show _ = _; rw [step_pass hb, HX.out]
        clear hb HX hcl tE hl hc
        go_wp2_with (first | (go_at_call 40; (with_reducible refine (tB _).mono ?_); rintro e w' ⟨rfl, rfl⟩))
        go_round
        case rel => exact ⟨k + 1, x, by omega, by go_num, rfl, HN⟩
        case measure => simp [intOf]; omega
    · have hge : (m : Int) ≤ (k : Int) := by omega
      have HF : Hid (x = y) := by
        have e : k = m := by omega
        have := HX.out
        rw [e, HE.out] at this
        exact this.symm
      clear tB tE
      go_wp2
      go_ret
      exact ⟨by rw [← HF.out]; rfl, HO.out.trans (hB.mono HO.out.size)⟩
end Go.Proofs.YtdmdoikkemfcaaaDoor
