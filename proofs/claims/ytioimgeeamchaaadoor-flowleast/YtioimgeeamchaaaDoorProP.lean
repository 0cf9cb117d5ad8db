/- What is wrong with a program, as the document has it (in, value, Parts). -/
import Derived.WalkKit
import Derived.LoopTactic
import Derived.OwnWalk
import Derived.Laws.MakeOwn
import Derived.Deep.QuietTactic
import Derived.BigQuiet
import Derived.Test.YtioimgeeamchaaaDoorProG
import Derived.Test.YtioimgeeamchaaaDoorProE
namespace Go.Proofs.YtioimgeeamchaaaDoor
open Go.RowKit
set_option maxRecDepth 100000

theorem rin_any (n lo hi : Int) (w : World) :
    Calls Tryd.prog 22 #[.int .i64 n, .int .i64 lo, .int .i64 hi] w fun e w' => e = .returned (.bool (decide (lo ≤ n ∧ n ≤ hi))) ∧ w' = w := by
  by_cases h1 : lo ≤ n
  · by_cases h2 : n ≤ hi
    · have e : decide (lo ≤ n ∧ n ≤ hi) = true := decide_eq_true ⟨h1, h2⟩
      rw [e]
      clear e
      go_enter Tryd.func22, Tryd.ntmps22
      go_wp2
      go_ret
      simp
    · have e : decide (lo ≤ n ∧ n ≤ hi) = false := decide_eq_false fun h => h2 h.2
      rw [e]
      clear e
      go_enter Tryd.func22, Tryd.ntmps22
      go_wp2
      go_ret
      simp
  · have e : decide (lo ≤ n ∧ n ≤ hi) = false := decide_eq_false fun h => h1 h.1
    rw [e]
    clear e
    go_enter Tryd.func22, Tryd.ntmps22
    go_wp2
    go_ret
    simp
theorem rval_any (kd : Int) (k : Nat) (w : World) :
    Calls Tryd.prog 24 #[.int .i64 kd, .int .i64 k] w fun e w' => e = .returned (.bool (valB kd k)) ∧ w' = w := by
  by_cases h1 : kd < 5
  · have e : valB kd k = true := decide_eq_true (.inl h1)
    rw [e]
    clear e
    go_enter Tryd.func24, Tryd.ntmps24
    go_wp2
    go_ret
    simp
  · by_cases h2 : k = 0
    · subst h2
      by_cases h3 : kd = 7
      · subst h3
        have e : valB 7 0 = false := by decide
        rw [e]
        clear e
        go_enter Tryd.func24, Tryd.ntmps24
        go_wp2
        go_ret
        simp
      · have e : valB kd 0 = true := decide_eq_true (.inr ⟨rfl, h3⟩)
        rw [e]
        clear e
        go_enter Tryd.func24, Tryd.ntmps24
        go_wp2
        go_ret
        simp [h3]
    · have e : valB kd k = false := decide_eq_false fun h => by omega
      rw [e]
      clear e
      have hk : (k : Int) ≠ 0 := by omega
      go_enter Tryd.func24, Tryd.ntmps24
      go_wp2
      go_ret
      simp
/-- Numbers that lie in a block of their own, behind B. -/
def NewNums (w : World) (B : Nat) (a : Option Addr) (l : List Int) : Prop := l = [] ∨ ∃ b, a = some ⟨b, 0, none⟩ ∧ B ≤ b ∧ ∀ (j : Nat) (v : Int), l[j]? = some v → w.cell? ⟨b, j, none⟩ = some (.int .i64 v)
theorem newNums_of (w : World) (l : List Int) (cs : Array Value) (t : TypeId) (h : ∀ (j : Nat) (v : Int), l[j]? = some v → cs[j]? = some (Value.int .i64 v)) : NewNums (w.alloc (.cells cs t)) w.heap.size (some ⟨w.heap.size, 0, none⟩) l := by
  refine .inr ⟨w.heap.size, rfl, Nat.le_refl _, fun j v hj => ?_⟩
  have h1 := World.alloc_heap_new w (.cells cs t)
  simp only [World.cell?]
  rw [h1]
  simpa using h j v hj
theorem rparts_any (x : Nod) (w : World) :
    Calls Tryd.prog 23 #[.agg #[.int .i64 x.kd, .int .i64 x.num, .int .i64 x.pa, .int .i64 x.pb, .int .i64 x.pc]] w fun e w' => ∃ a cp, e = .returned (.slice a (prtL x).length cp) ∧ NewNums w' (w.heap.size + 1) a (prtL x) ∧ Below w.heap.size w w' := by
  obtain ⟨kd, num, pa, pb, pc⟩ := x
  have hB1 : Below w.heap.size w (w.alloc (.cells #[.int .i64 kd, .int .i64 num, .int .i64 pa, .int .i64 pb, .int .i64 pc] 47)) := (Below.refl _ w).alloc (Nat.le_refl _) _
  have hn := fun (l : List Int) (cs : Array Value) h => newNums_of (w.alloc (.cells #[.int .i64 kd, .int .i64 num, .int .i64 pa, .int .i64 pb, .int .i64 pc] 47)) l cs 3 h
  simp only [World.size_alloc] at hn
  have tI := fun lo hi w => rin_any kd lo hi w
  by_cases h8 : kd = 8
  · subst h8
    have e : prtL ⟨8, num, pa, pb, pc⟩ = [pa, pb, pc] := by simp [prtL]
    rw [e]
    have HN := Hid.mkI (hn [pa, pb, pc] #[.int .i64 pa, .int .i64 pb, .int .i64 pc] (fun j v hj => by
      rcases j with _ | _ | _ | j <;> simp_all))
    have HB := Hid.mkI (hB1.alloc (by simp) (.cells #[.int .i64 pa, .int .i64 pb, .int .i64 pc] 3))
    clear e hn tI hB1
    go_enter Tryd.func23, Tryd.ntmps23
    go_wp2
    go_ret
    exact ⟨_, _, rfl, HN.out, HB.out⟩
  · by_cases h6 : kd = 6
    · subst h6
      have e : prtL ⟨6, num, pa, pb, pc⟩ = [pa] := by simp [prtL]
      rw [e]
      have HN := Hid.mkI (hn [pa] #[.int .i64 pa] (fun j v hj => by
        rcases j with _ | j <;> simp_all))
      have HB := Hid.mkI (hB1.alloc (by simp) (.cells #[.int .i64 pa] 3))
      clear e hn tI hB1
      go_enter Tryd.func23, Tryd.ntmps23
      go_wp2
      go_ret
      exact ⟨_, _, rfl, HN.out, HB.out⟩
    · by_cases h2 : (2 ≤ kd ∧ kd ≤ 4) ∨ kd = 7 ∨ kd = 9
      · have e : prtL ⟨kd, num, pa, pb, pc⟩ = [pa, pb] := by
          unfold prtL
          rw [if_neg h8, if_neg h6, if_pos h2]
        rw [e]
        have HN := Hid.mkI (hn [pa, pb] #[.int .i64 pa, .int .i64 pb] (fun j v hj => by
          rcases j with _ | _ | j <;> simp_all))
        have HB := Hid.mkI (hB1.alloc (by simp) (.cells #[.int .i64 pa, .int .i64 pb] 3))
        clear e hn hB1
        rcases h2 with h2 | rfl | rfl
        · have t := fun w => tI 2 4 w
          rw [decide_eq_true h2] at t
          clear tI
          go_enter Tryd.func23, Tryd.ntmps23
          go_wp2_with (go_at_call 22; refine (t _).mono ?_; clear t; rintro e w' ⟨rfl, hw⟩; obtain rfl := hw.symm)
          go_ret
          exact ⟨_, _, rfl, HN.out, HB.out⟩
        · have t := fun w => tI 2 4 w
          rw [decide_eq_false (by omega)] at t
          clear tI
          go_enter Tryd.func23, Tryd.ntmps23
          go_wp2_with (go_at_call 22; refine (t _).mono ?_; clear t; rintro e w' ⟨rfl, hw⟩; obtain rfl := hw.symm)
          go_ret
          exact ⟨_, _, rfl, HN.out, HB.out⟩
        · have t := fun w => tI 2 4 w
          rw [decide_eq_false (by omega)] at t
          clear tI
          go_enter Tryd.func23, Tryd.ntmps23
          go_wp2_with (go_at_call 22; refine (t _).mono ?_; clear t; rintro e w' ⟨rfl, hw⟩; obtain rfl := hw.symm)
          go_ret
          exact ⟨_, _, rfl, HN.out, HB.out⟩
      · have e : prtL ⟨kd, num, pa, pb, pc⟩ = [] := by
          unfold prtL
          rw [if_neg h8, if_neg h6, if_neg h2]
        rw [e]
        have h7 : (kd == 7) = false := by simpa using (show kd ≠ 7 by omega)
        have h9 : (kd == 9) = false := by simpa using (show kd ≠ 9 by omega)
        have t := fun w => tI 2 4 w
        rw [decide_eq_false (by omega)] at t
        have HB := Hid.mkI hB1
        clear tI hn e h2 hB1
        go_enter Tryd.func23, Tryd.ntmps23
        go_wp2_with (go_at_call 22; refine (t _).mono ?_; clear t; rintro e w' ⟨rfl, hw⟩; obtain rfl := hw.symm)
        go_ret
        exact ⟨_, _, rfl, .inl rfl, HB.out⟩
end Go.Proofs.YtioimgeeamchaaaDoor
