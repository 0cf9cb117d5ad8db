/- What the small functions of package grant return (isUser, has, checkNext), and who has the right (Holds, Check). -/
import Derived.WalkKit
import Derived.LoopTactic
import Derived.Test.YtoecomgiggalkaaDoorGraG
import Derived.Test.YtoecomgiggalkaaDoorArith
import Derived.Test.YtoecomgiggalkaaDoorSets
namespace Go.Proofs.YtoecomgiggalkaaDoor
open Go.RowKit
set_option maxRecDepth 100000

theorem ghas_fact (s i : Nat) (hs : s < 4096) : (bits BinOp.and IntKind.i64 ((s : Int) / 2 ^ i) 1 == 1) = s.testBit i := by
  have e : ((s : Int) / 2 ^ i) = ((s / 2 ^ i : Nat) : Int) := by simp
  have hl : s / 2 ^ i < 4096 := Nat.lt_of_le_of_lt (Nat.div_le_self _ _) hs
  have h := and_i64 (s / 2 ^ i) 1 hl (by decide)
  rw [e, show (1 : Int) = ((1 : Nat) : Int) from rfl, h, Nat.and_one_is_mod, Nat.testBit_eq_decide_div_mod_eq, Bool.eq_iff_iff, beq_iff_eq, decide_eq_true_eq]
  omega
/-- Is a number a user? -/
def uB (users i : Int) : Bool := decide (0 ≤ i ∧ i < users)
theorem uB_iff (users i : Int) : uB users i = true ↔ 0 ≤ i ∧ i < users := by rw [uB, decide_eq_true_eq]
theorem uB_not (users i : Int) : uB users i = false ↔ i < 0 ∨ users ≤ i := by rw [uB, decide_eq_false_iff_not]; omega
theorem gIsUser_any (users i : Int) (w : World) :
    Calls Tryd.prog 25 #[.int .i64 users, .int .i64 i] w fun e w' => e = .returned (.bool (uB users i)) ∧ w' = w := by
  by_cases h0 : 0 ≤ i
  · have HR : Hid (uB users i = decide (i < users)) := by show _ = _; unfold uB; simp [h0]
    go_enter Tryd.func25, Tryd.ntmps25
    go_wp2
    go_ret
    exact ⟨by rw [HR.out]; rfl, rfl⟩
  · have HR : Hid (uB users i = false) := by show _ = _; unfold uB; simp [h0]
    go_enter Tryd.func25, Tryd.ntmps25
    go_wp2
    go_ret
    exact ⟨by rw [HR.out]; rfl, rfl⟩
theorem gHas_any (s i : Nat) (hs : s < 4096) (hi : i < 12) (w : World) :
    Calls Tryd.prog 26 #[.int .i64 s, .int .i64 i] w fun e w' => e = .returned (.bool (s.testBit i)) ∧ w' = w := by
  go_enter Tryd.func26, Tryd.ntmps26
  go_wp2
  go_ret
  exact ⟨ret_bool (ghas_fact s i hs), rfl⟩
theorem gHas_int (s : Nat) (i : Int) (h0 : 0 ≤ i) (h1 : i < 12) (hs : s < 4096) (w : World) :
    Calls Tryd.prog 26 #[.int .i64 s, .int .i64 i] w fun e w' => e = .returned (.bool (s.testBit i.toNat)) ∧ w' = w := by
  have h := gHas_any s i.toNat hs (by omega) w
  rw [Int.toNat_of_nonneg h0] at h
  exact h
abbrev giv3 (g : Giv) : Value := .agg #[.int .i64 g.fr, .int .i64 g.to, .int .i64 g.tm]
set_option maxHeartbeats 1000000 in
theorem checkNext_any (users : Int) (hu : users ≤ 8) (g : Giv) (s : Nat) (hs : s < 256) (last : Int) (w : World) :
    Calls Tryd.prog 24 #[.int .i64 users, giv3 g, .int .i64 s, .int .i64 last] w fun e w' => e = .returned (errV (gNextC users g s last)) ∧ Below w.heap.size w w' := by
  obtain ⟨fr, to, tm⟩ := g
  have t1 := fun W => gIsUser_any users fr W
  have t2 := fun W => gIsUser_any users to W
  have hB : Below w.heap.size w (w.alloc (.cells #[.int .i64 fr, .int .i64 to, .int .i64 tm] 44)) := (Below.refl _ w).alloc (Nat.le_refl _) _
  have E1 : Hid (fr < 0 ∨ users ≤ fr ∨ to < 0 ∨ users ≤ to ∨ tm < 0 ∨ 999999 < tm → Ending.returned (.iface 49 (.int .i64 1)) = .returned (errV (gNextC users ⟨fr, to, tm⟩ s last))) := fun h => by rw [gNextC, if_pos h]; rfl
  cases q1 : uB users fr with
  | false =>
    rw [q1] at t1
    have E := Hid.mkI (E1.out (by have := (uB_not _ _).1 q1; omega))
    clear t2 q1 E1
    go_enter Tryd.func24, Tryd.ntmps24
    go_wp2_with (go_at_call 25; refine (t1 _).mono ?_; clear t1; rintro e w' ⟨rfl, rfl⟩)
    go_ret
    exact ⟨E.out, hB⟩
  | true =>
    rw [q1] at t1
    have p1 := (uB_iff _ _).1 q1
    cases q2 : uB users to with
    | false =>
      rw [q2] at t2
      have E := Hid.mkI (E1.out (by have := (uB_not _ _).1 q2; omega))
      clear q1 q2 E1 p1
      go_enter Tryd.func24, Tryd.ntmps24
      go_wp2_with (first | (go_at_call 25; (with_reducible refine (t1 _).mono ?_); clear t1; rintro e w' ⟨rfl, rfl⟩) | (go_at_call 25; (with_reducible refine (t2 _).mono ?_); clear t2; rintro e w' ⟨rfl, rfl⟩))
      go_ret
      exact ⟨E.out, hB⟩
    | true =>
      rw [q2] at t2
      have p2 := (uB_iff _ _).1 q2
      by_cases h3 : tm < 0
      · have E := Hid.mkI (E1.out (by omega))
        clear q1 q2 E1 p1 p2
        go_enter Tryd.func24, Tryd.ntmps24
        go_wp2_with (first | (go_at_call 25; (with_reducible refine (t1 _).mono ?_); clear t1; rintro e w' ⟨rfl, rfl⟩) | (go_at_call 25; (with_reducible refine (t2 _).mono ?_); clear t2; rintro e w' ⟨rfl, rfl⟩))
        go_ret
        exact ⟨E.out, hB⟩
      · by_cases h4 : 999999 < tm
        · have E := Hid.mkI (E1.out (by omega))
          clear q1 q2 E1 p1 p2
          go_enter Tryd.func24, Tryd.ntmps24
          go_wp2_with (first | (go_at_call 25; (with_reducible refine (t1 _).mono ?_); clear t1; rintro e w' ⟨rfl, rfl⟩) | (go_at_call 25; (with_reducible refine (t2 _).mono ?_); clear t2; rintro e w' ⟨rfl, rfl⟩))
          go_ret
          exact ⟨E.out, hB⟩
        · by_cases h5 : tm ≤ last
          · have E : Hid (Ending.returned (.iface 49 (.int .i64 3)) = .returned (errV (gNextC users ⟨fr, to, tm⟩ s last))) := by
              show _ = _
              rw [gNextC, if_neg (by simp only; omega), if_pos (by simp only; omega)]; rfl
            clear q1 q2 E1 p1 p2
            go_enter Tryd.func24, Tryd.ntmps24
            go_wp2_with (first | (go_at_call 25; (with_reducible refine (t1 _).mono ?_); clear t1; rintro e w' ⟨rfl, rfl⟩) | (go_at_call 25; (with_reducible refine (t2 _).mono ?_); clear t2; rintro e w' ⟨rfl, rfl⟩))
            go_ret
            exact ⟨E.out, hB⟩
          · have t3 := fun W => gHas_int s fr p1.1 (by omega) (by omega) W
            have E : Hid (∀ b, s.testBit fr.toNat = b → errV (gNextC users ⟨fr, to, tm⟩ s last) = if b = true then .nilIface else .iface 49 (.int .i64 7)) := fun b hb => by
              rw [gNextC, if_neg (by simp only; omega), if_neg (by simp only; omega)]
              simp only
              rw [hb]
              cases b <;> rfl
            have HQ : Hid (s.testBit fr.toNat = s.testBit fr.toNat) := rfl
            cases q : s.testBit fr.toNat with
            | true =>
              have E := Hid.mkI (E.out _ q)
              rw [q] at t3
              clear q1 q2 E1 p1 p2 q HQ
              go_enter Tryd.func24, Tryd.ntmps24
              go_wp2_with (first | (go_at_call 25; (with_reducible refine (t1 _).mono ?_); clear t1; rintro e w' ⟨rfl, rfl⟩) | (go_at_call 25; (with_reducible refine (t2 _).mono ?_); clear t2; rintro e w' ⟨rfl, rfl⟩) | (go_at_call 26; (with_reducible refine (t3 _).mono ?_); clear t3; rintro e w' ⟨rfl, rfl⟩))
              go_ret
              exact ⟨by rw [E.out]; rfl, hB⟩
            | false =>
              have E := Hid.mkI (E.out _ q)
              rw [q] at t3
              clear q1 q2 E1 p1 p2 q HQ
              go_enter Tryd.func24, Tryd.ntmps24
              go_wp2_with (first | (go_at_call 25; (with_reducible refine (t1 _).mono ?_); clear t1; rintro e w' ⟨rfl, rfl⟩) | (go_at_call 25; (with_reducible refine (t2 _).mono ?_); clear t2; rintro e w' ⟨rfl, rfl⟩) | (go_at_call 26; (with_reducible refine (t3 _).mono ?_); clear t3; rintro e w' ⟨rfl, rfl⟩))
              go_ret
              exact ⟨by rw [E.out]; rfl, hB⟩
end Go.Proofs.YtoecomgiggalkaaDoor
