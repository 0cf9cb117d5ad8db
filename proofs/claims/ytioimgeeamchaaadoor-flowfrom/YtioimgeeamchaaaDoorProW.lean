/- What is wrong with a program, as the program has it: a node by itself, its parts, what a part must be. -/
import Derived.WalkKit
import Derived.LoopTactic
import Derived.OwnWalk
import Derived.Laws.MakeOwn
import Derived.Deep.QuietTactic
import Derived.BigQuiet
import Derived.Test.YtioimgeeamchaaaDoorProG
import Derived.Test.YtioimgeeamchaaaDoorProE
namespace Go.Proofs.YtioimgeeamchaaaDoor
open Go.RowKit
set_option maxRecDepth 100000

abbrev nodV (x : Nod) : Value := .agg #[.int .i64 x.kd, .int .i64 x.num, .int .i64 x.pa, .int .i64 x.pb, .int .i64 x.pc]
theorem wisVar_any (n : Int) (w : World) : Calls Tryd.prog 56 #[.int .i64 n] w fun e w' => e = .returned (.bool (decide (0 ≤ n ∧ n < 6))) ∧ w' = w := by
  by_cases h0 : 0 ≤ n
  · by_cases h1 : n < 6
    · rw [decide_eq_true ⟨h0, h1⟩]
      go_enter Tryd.func56, Tryd.ntmps56
      go_wp2
      go_ret
      exact ⟨rfl, rfl⟩
    · rw [decide_eq_false (by omega)]
      go_enter Tryd.func56, Tryd.ntmps56
      go_wp2
      go_ret
      exact ⟨rfl, rfl⟩
  · rw [decide_eq_false (by omega)]
    go_enter Tryd.func56, Tryd.ntmps56
    go_wp2
    go_ret
    exact ⟨rfl, rfl⟩
theorem wisValue_any (x : Nod) (w : World) : Calls Tryd.prog 45 #[nodV x] w fun e w' => e = .returned (.bool (decide (0 ≤ x.kd ∧ x.kd ≤ 4))) ∧ Below w.heap.size w w' := by
  obtain ⟨kd, num, pa, pb, pc⟩ := x
  have hB : Below w.heap.size w (w.alloc (.cells #[.int .i64 kd, .int .i64 num, .int .i64 pa, .int .i64 pb, .int .i64 pc] 47)) := (Below.refl _ w).alloc (Nat.le_refl _) _
  simp only
  by_cases h0 : 0 ≤ kd
  · by_cases h1 : kd ≤ 4
    · rw [decide_eq_true ⟨h0, h1⟩]
      go_enter Tryd.func45, Tryd.ntmps45
      go_wp2
      go_ret
      exact ⟨rfl, hB⟩
    · rw [decide_eq_false (by omega)]
      go_enter Tryd.func45, Tryd.ntmps45
      go_wp2
      go_ret
      exact ⟨rfl, hB⟩
  · rw [decide_eq_false (by omega)]
    go_enter Tryd.func45, Tryd.ntmps45
    go_wp2
    go_ret
    exact ⟨rfl, hB⟩
theorem wisDeed_any (x : Nod) (w : World) : Calls Tryd.prog 57 #[nodV x] w fun e w' => e = .returned (.bool (decide (5 ≤ x.kd ∧ x.kd ≤ 9))) ∧ Below w.heap.size w w' := by
  obtain ⟨kd, num, pa, pb, pc⟩ := x
  have hB : Below w.heap.size w (w.alloc (.cells #[.int .i64 kd, .int .i64 num, .int .i64 pa, .int .i64 pb, .int .i64 pc] 47)) := (Below.refl _ w).alloc (Nat.le_refl _) _
  simp only
  by_cases h0 : 5 ≤ kd
  · by_cases h1 : kd ≤ 9
    · rw [decide_eq_true ⟨h0, h1⟩]
      go_enter Tryd.func57, Tryd.ntmps57
      go_wp2
      go_ret
      exact ⟨rfl, hB⟩
    · rw [decide_eq_false (by omega)]
      go_enter Tryd.func57, Tryd.ntmps57
      go_wp2
      go_ret
      exact ⟨rfl, hB⟩
  · rw [decide_eq_false (by omega)]
    go_enter Tryd.func57, Tryd.ntmps57
    go_wp2
    go_ret
    exact ⟨rfl, hB⟩
/-- Must a part have a value? -/
def wantB (kd : Int) (k : Nat) : Bool := decide ((0 ≤ kd ∧ kd ≤ 4) ∨ (k = 0 ∧ kd ≠ 7))
theorem wwants_any (x : Nod) (k : Nat) (hk : k < 4) (w : World) : Calls Tryd.prog 59 #[nodV x, .int .i64 (k : Int)] w fun e w' => e = .returned (.bool (wantB x.kd k)) ∧ Below w.heap.size w w' := by
  have tV := fun w => wisValue_any x w
  obtain ⟨kd, num, pa, pb, pc⟩ := x
  have hB : Below w.heap.size w (w.alloc (.cells #[.int .i64 kd, .int .i64 num, .int .i64 pa, .int .i64 pb, .int .i64 pc] 47)) := (Below.refl _ w).alloc (Nat.le_refl _) _
  have c0 := cell_five_new w ⟨kd, num, pa, pb, pc⟩ 47 0 _ rfl
  rw [Go.WideShapes.add_plain, Nat.zero_add] at c0
  simp only at tV c0 ⊢
  unfold wantB
  by_cases h0 : 0 ≤ kd ∧ kd ≤ 4
  · rw [decide_eq_true h0] at tV
    rw [decide_eq_true (.inl h0)]
    clear h0
    go_enter Tryd.func59, Tryd.ntmps59
    go_wp2_with (go_at_call 45; refine (tV _).mono ?_; clear tV; rintro e w1 ⟨rfl, hB1⟩; have hE := hB.trans (hB1.mono hB.size))
    go_ret
    exact ⟨rfl, hE⟩
  · rw [decide_eq_false h0] at tV
    by_cases h1 : k = 0
    · subst h1
      by_cases h2 : kd = 7
      · subst h2
        rw [decide_eq_false (by omega)]
        clear h0
        go_enter Tryd.func59, Tryd.ntmps59
        go_wp2_with (go_at_call 45; refine (tV _).mono ?_; clear tV; rintro e w1 ⟨rfl, hB1⟩; have hE := hB.trans (hB1.mono hB.size); have c1 := keep_cell hB1 c0)
        go_ret
        exact ⟨rfl, hE⟩
      · rw [decide_eq_true (.inr ⟨rfl, h2⟩)]
        have h2I : (kd != 7) = true := by simpa using h2
        clear h0 h2
        go_enter Tryd.func59, Tryd.ntmps59
        go_wp2_with (go_at_call 45; refine (tV _).mono ?_; clear tV; rintro e w1 ⟨rfl, hB1⟩; have hE := hB.trans (hB1.mono hB.size); have c1 := keep_cell hB1 c0)
        go_ret
        exact ⟨rfl, hE⟩
    · rw [decide_eq_false (by omega)]
      have h1I : ((k : Int) == 0) = false := by simpa using (show (k : Int) ≠ 0 by omega)
      clear h0
      go_enter Tryd.func59, Tryd.ntmps59
      go_wp2_with (go_at_call 45; refine (tV _).mono ?_; clear tV; rintro e w1 ⟨rfl, hB1⟩; have hE := hB.trans (hB1.mono hB.size))
      go_ret
      exact ⟨rfl, hE⟩
theorem winRange_any (x : Nod) (w : World) : Calls Tryd.prog 42 #[nodV x] w fun e w' => e = .returned (.bool (kinB x)) ∧ Below w.heap.size w w' := by
  have tV := fun w => wisValue_any x w
  have tD := fun w => wisDeed_any x w
  have tR := fun w => wisVar_any x.num w
  obtain ⟨kd, num, pa, pb, pc⟩ := x
  have hB : Below w.heap.size w (w.alloc (.cells #[.int .i64 kd, .int .i64 num, .int .i64 pa, .int .i64 pb, .int .i64 pc] 47)) := (Below.refl _ w).alloc (Nat.le_refl _) _
  have c0 := fun j u h => by
    have := cell_five_new w ⟨kd, num, pa, pb, pc⟩ 47 j u h
    rw [Go.WideShapes.add_plain, Nat.zero_add] at this
    exact this
  have d0 := c0 0 _ rfl
  have d1 := c0 1 _ rfl
  have d2 := c0 2 _ rfl
  have d3 := c0 3 _ rfl
  have d4 := c0 4 _ rfl
  simp only at tV tD tR d0 d1 d2 d3 d4
  unfold kinB
  simp only
  by_cases h0 : kd = 0
  · subst h0
    clear tV tD tR c0
    by_cases h1 : 0 ≤ num
    · by_cases h2 : num ≤ 999999
      · rw [decide_eq_true (by omega)]
        go_enter Tryd.func42, Tryd.ntmps42
        go_wp2
        go_ret
        exact ⟨rfl, hB⟩
      · rw [decide_eq_false (by omega)]
        go_enter Tryd.func42, Tryd.ntmps42
        go_wp2
        go_ret
        exact ⟨rfl, hB⟩
    · rw [decide_eq_false (by omega)]
      go_enter Tryd.func42, Tryd.ntmps42
      go_wp2
      go_ret
      exact ⟨rfl, hB⟩
  · by_cases h1 : kd = 1 ∨ kd = 6
    · have e : decide (0 ≤ kd ∧ kd ≤ 9 ∧ (kd = 0 → 0 ≤ num ∧ num ≤ 999999) ∧ (kd = 1 ∨ kd = 6 → 0 ≤ num ∧ num ≤ 5)) = decide (0 ≤ num ∧ num < 6) := decide_eq_decide.2 (by omega)
      rw [e]
      clear tV tD c0 e
      obtain ⟨b, hb⟩ : ∃ b, decide (0 ≤ num ∧ num < 6) = b := ⟨_, rfl⟩
      rw [hb] at tR ⊢
      clear hb
      rcases h1 with rfl | rfl
      · go_enter Tryd.func42, Tryd.ntmps42
        go_wp2_with (go_at_call 56; refine (tR _).mono ?_; rintro e w1 ⟨rfl, hw⟩; obtain rfl := hw.symm)
        go_ret
        exact ⟨rfl, hB⟩
      · go_enter Tryd.func42, Tryd.ntmps42
        go_wp2_with (go_at_call 56; refine (tR _).mono ?_; rintro e w1 ⟨rfl, hw⟩; obtain rfl := hw.symm)
        go_ret
        exact ⟨rfl, hB⟩
    · have g0 : (kd == 0) = false := by simpa using h0
      have g1 : (kd == 1) = false := by simpa using (show kd ≠ 1 by omega)
      have g6 : (kd == 6) = false := by simpa using (show kd ≠ 6 by omega)
      by_cases h2 : 0 ≤ kd ∧ kd ≤ 4
      · rw [decide_eq_true h2] at tV
        rw [decide_eq_true (by omega)]
        clear tD tR h0 h1 h2 c0
        go_enter Tryd.func42, Tryd.ntmps42
        go_wp2_with (go_at_call 45; refine (tV _).mono ?_; clear tV; rintro e w1 ⟨rfl, hB1⟩; have hE := hB.trans (hB1.mono hB.size))
        go_ret
        exact ⟨rfl, hE⟩
      · rw [decide_eq_false h2] at tV
        have e : decide (0 ≤ kd ∧ kd ≤ 9 ∧ (kd = 0 → 0 ≤ num ∧ num ≤ 999999) ∧ (kd = 1 ∨ kd = 6 → 0 ≤ num ∧ num ≤ 5)) = decide (5 ≤ kd ∧ kd ≤ 9) := decide_eq_decide.2 (by omega)
        rw [e]
        obtain ⟨b, hb⟩ : ∃ b, decide (5 ≤ kd ∧ kd ≤ 9) = b := ⟨_, rfl⟩
        rw [hb] at tD ⊢
        clear tR h0 h1 h2 c0 e hb
        go_enter Tryd.func42, Tryd.ntmps42
        go_wp2_with (first | (go_at_call 45; refine (tV _).mono ?_; clear tV; rintro e w1 ⟨rfl, hB1⟩; have hE := hB.trans (hB1.mono hB.size); have f0 := keep_cell hB1 d0; have f1 := keep_cell hB1 d1; have f2 := keep_cell hB1 d2; have f3 := keep_cell hB1 d3; have f4 := keep_cell hB1 d4) | (go_at_call 57; refine (tD _).mono ?_; clear tD; rintro e w2 ⟨rfl, hB2⟩; have hE2 := hE.trans (hB2.mono hE.size)))
        go_ret
        exact ⟨rfl, hE2⟩
/-- Numbers in a new row. -/
def NewP (w : World) (B : Nat) (a : Option Addr) (l : List Int) : Prop := l = [] ∨ ∃ b, a = some ⟨b, 0, none⟩ ∧ B ≤ b ∧ ∀ (j : Nat) (v : Int), l[j]? = some v → w.cell? ⟨b, j, none⟩ = some (.int .i64 v)
theorem newP_of (w : World) (l : List Int) (cs : Array Value) (t : TypeId) (h : ∀ (j : Nat) (v : Int), l[j]? = some v → cs[j]? = some (.int .i64 v)) : NewP (w.alloc (.cells cs t)) w.heap.size (some ⟨w.heap.size, 0, none⟩) l := by
  refine .inr ⟨_, rfl, Nat.le_refl _, fun j v hj => ?_⟩
  have h1 := World.alloc_heap_new w (.cells cs t)
  simp only [World.cell?]
  rw [h1]
  simpa using h j v hj
theorem wparts_any (x : Nod) (w : World) : Calls Tryd.prog 58 #[nodV x] w fun e w' => ∃ a c, e = .returned (.slice a (prtL x).length c) ∧ NewP w' w.heap.size a (prtL x) ∧ Below w.heap.size w w' := by
  obtain ⟨kd, num, pa, pb, pc⟩ := x
  have hB1 : Below w.heap.size w (w.alloc (.cells #[.int .i64 kd, .int .i64 num, .int .i64 pa, .int .i64 pb, .int .i64 pc] 47)) := (Below.refl _ w).alloc (Nat.le_refl _) _
  have hn := fun (l : List Int) (cs : Array Value) h => newP_of (w.alloc (.cells #[.int .i64 kd, .int .i64 num, .int .i64 pa, .int .i64 pb, .int .i64 pc] 47)) l cs 3 h
  simp only [World.size_alloc] at hn
  have hup : ∀ {W : World} {a : Option Addr} {l : List Int}, NewP W (w.heap.size + 1) a l → NewP W w.heap.size a l := fun h => h.imp id fun ⟨b, e, q, c⟩ => ⟨b, e, by omega, c⟩
  by_cases h8 : kd = 8
  · subst h8
    have e : prtL ⟨8, num, pa, pb, pc⟩ = [pa, pb, pc] := by simp [prtL]
    rw [e]
    have HN := Hid.mkI (hup (hn [pa, pb, pc] #[.int .i64 pa, .int .i64 pb, .int .i64 pc] (fun j v hj => by
      rcases j with _ | _ | _ | j <;> simp_all)))
    have HB := Hid.mkI (hB1.alloc (by simp) (.cells #[.int .i64 pa, .int .i64 pb, .int .i64 pc] 3))
    clear e hn hB1 hup
    go_enter Tryd.func58, Tryd.ntmps58
    go_wp2
    go_ret
    exact ⟨_, _, rfl, HN.out, HB.out⟩
  · by_cases h6 : kd = 6
    · subst h6
      have e : prtL ⟨6, num, pa, pb, pc⟩ = [pa] := by simp [prtL]
      rw [e]
      have HN := Hid.mkI (hup (hn [pa] #[.int .i64 pa] (fun j v hj => by
        rcases j with _ | j <;> simp_all)))
      have HB := Hid.mkI (hB1.alloc (by simp) (.cells #[.int .i64 pa] 3))
      clear e hn hB1 hup
      go_enter Tryd.func58, Tryd.ntmps58
      go_wp2
      go_ret
      exact ⟨_, _, rfl, HN.out, HB.out⟩
    · by_cases h2 : (2 ≤ kd ∧ kd ≤ 4) ∨ kd = 7 ∨ kd = 9
      · have e : prtL ⟨kd, num, pa, pb, pc⟩ = [pa, pb] := by
          unfold prtL
          rw [if_neg h8, if_neg h6, if_pos h2]
        rw [e]
        have HN := Hid.mkI (hup (hn [pa, pb] #[.int .i64 pa, .int .i64 pb] (fun j v hj => by
          rcases j with _ | _ | j <;> simp_all)))
        have HB := Hid.mkI (hB1.alloc (by simp) (.cells #[.int .i64 pa, .int .i64 pb] 3))
        clear e hn hB1 hup
        obtain rfl | rfl | rfl | rfl | rfl : kd = 2 ∨ kd = 3 ∨ kd = 4 ∨ kd = 7 ∨ kd = 9 := by omega
        all_goals
          clear h8 h6 h2
          go_enter Tryd.func58, Tryd.ntmps58
          go_wp2
          go_ret
          exact ⟨_, _, rfl, HN.out, HB.out⟩
      · have e : prtL ⟨kd, num, pa, pb, pc⟩ = [] := by
          unfold prtL
          rw [if_neg h8, if_neg h6, if_neg h2]
        rw [e]
        have h2' : (kd == 2) = false := by simpa using (show kd ≠ 2 by omega)
        have h3 : (kd == 3) = false := by simpa using (show kd ≠ 3 by omega)
        have h4 : (kd == 4) = false := by simpa using (show kd ≠ 4 by omega)
        have h7 : (kd == 7) = false := by simpa using (show kd ≠ 7 by omega)
        have h9 : (kd == 9) = false := by simpa using (show kd ≠ 9 by omega)
        have h6' : (kd == 6) = false := by simpa using h6
        have h8' : (kd == 8) = false := by simpa using h8
        have HB := Hid.mkI hB1
        clear hn e h2 hB1 h6 h8 hup
        go_enter Tryd.func58, Tryd.ntmps58
        go_wp2
        go_ret
        exact ⟨_, _, rfl, .inl rfl, HB.out⟩
end Go.Proofs.YtioimgeeamchaaaDoor
