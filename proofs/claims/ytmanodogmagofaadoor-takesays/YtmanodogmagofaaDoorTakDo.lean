/- The document's step on a graph (DoStep). -/
import Derived.WalkKit
import Derived.LoopTactic
import Derived.OwnWalk
import Derived.Deep.QuietTactic
import Derived.BigQuiet
import Derived.Maps.AppendAt
import Derived.Test.YtmanodogmagofaaDoorTakPlay
import Derived.Test.YtmanodogmagofaaDoorTakCopy
import Derived.Test.YtmanodogmagofaaDoorRefLb
namespace Go.Proofs.YtmanodogmagofaaDoor
open Go.RowKit
set_option maxRecDepth 100000

theorem hasB_one {x : Nat} (h : x < 8) : x.testBit 0 = hasB x 1 := by
  have all : ∀ x : Nat, x < 8 → x.testBit 0 = hasB x 1 := by decide
  exact all x h
theorem hasB_two {x : Nat} (h : x < 8) : x.testBit 1 = hasB x 2 := by
  have all : ∀ x : Nat, x < 8 → x.testBit 1 = hasB x 2 := by decide
  exact all x h
theorem hasB_sub (x r : Nat) : subB r x = hasB x r := by unfold subB hasB; rw [Nat.and_comm]
/-- Rows so far, of new memory. -/
structure RowsB (B : Nat) (w : World) (o : Value) (i m : Nat) (C K : Nat → Nat) (X : Nat → Nat → Nat) : Prop where
  out : w.ownsRow B 36 1 o i ((List.range i).map fun q => .slice (some ⟨C q, 0, none⟩) m (K q))
  row : ∀ q, q < i → w.ownsRow B 3 1 (.slice (some ⟨C q, 0, none⟩) m (K q)) m (rowI m fun j => (X q j : Int))
  ne : ∀ q, q < i → o.ownBlock ≠ some (C q)
theorem RowsB.below {B i m : Nat} {w w' : World} {o : Value} {C K : Nat → Nat} {X : Nat → Nat → Nat} (h : RowsB B w o i m C K X) (k : Below w.heap.size w w') : RowsB B w' o i m C K X :=
  ⟨ownsRow_stays h.out k, fun q hq => ownsRow_stays (h.row q hq) k, h.ne⟩
theorem RowsB.nil (B m : Nat) (w : World) (C K : Nat → Nat) (X : Nat → Nat → Nat) : RowsB B w (.slice none 0 0) 0 m C K X :=
  ⟨World.ownsRow_nil _ _ _ _, fun q hq => by omega, fun q hq => by omega⟩
theorem RowsB.push {B i m c k : Nat} {w w' : World} {o o' : Value} {C K : Nat → Nat} {X : Nat → Nat → Nat} (h : RowsB B w o i m C K X) (hr : w.ownsRow B 3 1 (.slice (some ⟨c, 0, none⟩) m k) m (rowI m fun j => (X i j : Int))) (hc : o.ownBlock ≠ some c)
    (hown : w'.ownsRow B 36 1 o' (i + 1) (((List.range i).map fun q => Value.slice (some ⟨C q, 0, none⟩) m (K q)) ++ [.slice (some ⟨c, 0, none⟩) m k])) (hg : w.grownBy w' o.ownBlock) (hat : o'.ownBlock = o.ownBlock ∨ o'.ownBlock = some w.heap.size) :
    RowsB B w' o' (i + 1) m (upd C i c) (upd K i k) X := by
  have hne : ∀ d, d < w.heap.size → o.ownBlock ≠ some d → o'.ownBlock ≠ some d := fun d hd ho q => by
    rcases hat with e | e
    · exact ho (by rw [← e]; exact q)
    · rw [e] at q; have := Option.some.inj q; omega
  refine ⟨?_, fun q hq => ?_, fun q hq => ?_⟩
  · have he : (List.range (i + 1)).map (fun q => Value.slice (some ⟨upd C i c q, 0, none⟩) m (upd K i k q)) = ((List.range i).map fun q => Value.slice (some ⟨C q, 0, none⟩) m (K q)) ++ [.slice (some ⟨c, 0, none⟩) m k] := by
      rw [List.range_succ, List.map_append]
      congr 1
      · refine List.map_congr_left fun q hq => ?_
        have := List.mem_range.1 hq
        rw [upd_other _ (by omega), upd_other _ (by omega)]
      · simp [upd_same]
    rw [he]; exact hown
  · by_cases e : q = i
    · subst e
      rw [upd_same, upd_same]
      exact hr.kept hg (.inr fun q => hc q.symm)
    · rw [upd_other _ e, upd_other _ e]
      exact (h.row q (by omega)).kept hg (.inr fun r => h.ne q (by omega) r.symm)
  · by_cases e : q = i
    · subst e
      rw [upd_same]
      exact hne c (hr.lt c rfl).2 hc
    · rw [upd_other _ e]
      exact hne _ ((h.row q (by omega)).lt _ rfl).2 (h.ne q (by omega))
theorem RowsB.grV {B : Nat} {w : World} {o : Value} {C K : Nat → Nat} {g : Gr} (h : RowsB B w o g.n g.n C K g.M) (h0 : 0 < g.n) : GrV w o g := by
  obtain ⟨b, cap, rfl⟩ := row_some h.out h0
  refine GrAt.grV (b := b) (off := 0) (B := C) (O := fun _ => 0) (C := K) ⟨(h.out.lt b rfl).2, fun i hi => ?_, fun i hi => ((h.row i hi).lt _ rfl).2, fun i j hi hj => ?_⟩ cap
  · rw [Nat.zero_add, h.out.cellAt i (by omega), range_get _ hi]
  · rw [Nat.zero_add, (h.row i hi).cellAt j (by omega), rowI_get _ hj]
/-- What the document's step tells. -/
def DoIs (w : World) (g : Gr) (s : Stp) (e : Ending) (w' : World) : Prop :=
  (∃ v, e = .returned (.tuple #[v, .int .i64 (stepCode g s)]) ∧ (stepCode g s = 0 → GrV w' v (stepNext g s))) ∧ Below w.heap.size w w'
theorem doIs_err {w w' : World} {g : Gr} {s : Stp} {e : Ending} {c : Int} (v : Value) (hc : stepCode g s = c) (h0 : c ≠ 0) (he : e = .returned (.tuple #[v, .int .i64 c])) (hB : Below w.heap.size w w') : DoIs w g s e w' :=
  ⟨⟨v, by rw [hc]; exact he, fun h => absurd (hc.symm.trans h) h0⟩, hB⟩
theorem inD {x : Int} {n : Nat} (h : ¬ (0 ≤ x ∧ x < (n : Int))) (W : World) : Calls Tryd.prog 24 #[.int .i64 x, .int .i64 0, .int .i64 ((n : Int) - 1)] W fun e w' => e = .returned (.bool false) ∧ w' = W := by
  by_cases h0 : x < 0
  · exact in_low _ _ _ h0 W
  · exact in_high _ _ _ (by omega) (by omega) W
theorem inN {x : Int} {a b : Int} (h : ¬ (a ≤ x ∧ x ≤ b)) (W : World) : Calls Tryd.prog 24 #[.int .i64 x, .int .i64 a, .int .i64 b] W fun e w' => e = .returned (.bool false) ∧ w' = W := by
  by_cases h0 : x < a
  · exact in_low _ _ _ h0 W
  · exact in_high _ _ _ (by omega) (by omega) W
section
variable {w : World} {g : Gr}
theorem do_kind (a : Option Addr) (cp : Nat) (s : Stp) (h : s.k < 0 ∨ 2 < s.k) :
    Calls Tryd.prog 25 #[.slice a g.n cp, stpV s] w (DoIs w g s) := by
  have hB := box5_new w s 56
  obtain ⟨c0, c1, c2, c3, c4, hbel⟩ := hB
  obtain ⟨W, hW⟩ : ∃ W, w.alloc (.cells #[.int .i64 s.k, .int .i64 s.who, .int .i64 s.of, .int .i64 s.to, .int .i64 s.r] 56) = W := ⟨_, rfl⟩
  rw [hW] at c0 c1 c2 c3 c4 hbel
  have HC := Hid.mkI (stepCode_kind (g := g) (s := s) h)
  have tK := fun W => inN (x := s.k) (a := 0) (b := 2) (by omega) W
  clear h
  go_enter Tryd.func25, Tryd.ntmps25
  go_wp2_with (first | (go_at_call 24; (with_reducible refine (tK _).mono ?_); clear tK; rintro e w' ⟨rfl, hw⟩; obtain rfl := hw.symm))
  go_ret2
  exact doIs_err _ HC.out (by decide) rfl hbel
theorem do_who (a : Option Addr) (cp : Nat) (s : Stp) (h : 0 ≤ s.k ∧ s.k ≤ 2) (h1 : s.who < 0 ∨ (g.n : Int) ≤ s.who) (hn : g.n ≤ 20) :
    Calls Tryd.prog 25 #[.slice a g.n cp, stpV s] w (DoIs w g s) := by
  have hB := box5_new w s 56
  obtain ⟨c0, c1, c2, c3, c4, hbel⟩ := hB
  obtain ⟨W, hW⟩ : ∃ W, w.alloc (.cells #[.int .i64 s.k, .int .i64 s.who, .int .i64 s.of, .int .i64 s.to, .int .i64 s.r] 56) = W := ⟨_, rfl⟩
  rw [hW] at c0 c1 c2 c3 c4 hbel
  have HC := Hid.mkI (stepCode_who (g := g) (s := s) h1)
  have tK := fun W => in_yes s.k 0 2 h.1 h.2 W
  have tU := fun W => inD (x := s.who) (n := g.n) (by omega) W
  clear h h1
  go_enter Tryd.func25, Tryd.ntmps25
  go_wp2_with (first | (go_at_call 24; (with_reducible refine (tK _).mono ?_); clear tK; rintro e w' ⟨rfl, hw⟩; obtain rfl := hw.symm) | (go_at_call 24; (with_reducible refine (tU _).mono ?_); clear tU; rintro e w' ⟨rfl, hw⟩; obtain rfl := hw.symm))
  go_ret2
  exact doIs_err _ HC.out (by decide) rfl hbel
theorem do_full (a : Option Addr) (cp : Nat) (s : Stp) (h1 : 0 ≤ s.who) (h2 : s.who < g.n) (hk : s.k = 2) (hn : g.n = 20) :
    Calls Tryd.prog 25 #[.slice a g.n cp, stpV s] w (DoIs w g s) := by
  have hc := stepCode_new (g := g) (s := s) h1 h2 hk
  rw [if_pos hn] at hc
  have HC := Hid.mkI hc
  clear hc
  obtain ⟨k, who, of, to, r⟩ := s
  simp only at h1 h2 hk
  subst hk
  have hB := box5_new w ⟨2, who, of, to, r⟩ 56
  obtain ⟨c0, c1, c2, c3, c4, hbel⟩ := hB
  obtain ⟨W, hW⟩ : ∃ W, w.alloc (.cells #[.int .i64 2, .int .i64 who, .int .i64 of, .int .i64 to, .int .i64 r] 56) = W := ⟨_, rfl⟩
  rw [hW] at c0 c1 c2 c3 c4 hbel
  have tK := fun W => in_yes 2 0 2 (by decide) (by decide) W
  have tU := fun W => in_yes who 0 ((g.n : Int) - 1) h1 (by omega) W
  have hb : ((g.n : Int) == 20) = true := by simpa using (show (g.n : Int) = 20 by omega)
  have hn2 : g.n ≤ 20 := by omega
  clear h1 h2 hn
  go_enter Tryd.func25, Tryd.ntmps25
  go_wp2_with (first | (go_at_call 24; (with_reducible refine (tK _).mono ?_); clear tK; rintro e w' ⟨rfl, hw⟩; obtain rfl := hw.symm) | (go_at_call 24; (with_reducible refine (tU _).mono ?_); clear tU; rintro e w' ⟨rfl, hw⟩; obtain rfl := hw.symm))
  go_ret2
  exact doIs_err _ HC.out (by decide) rfl hbel
theorem do_range0 (a : Option Addr) (cp : Nat) (who of to r : Int) (h1 : 0 ≤ who) (h2 : who < g.n) (hn : g.n ≤ 20) (h : of < 0 ∨ (g.n : Int) ≤ of ∨ to < 0 ∨ (g.n : Int) ≤ to ∨ r < 1 ∨ 7 < r) :
    Calls Tryd.prog 25 #[.slice a g.n cp, stpV ⟨0, who, of, to, r⟩] w (DoIs w g ⟨0, who, of, to, r⟩) := by
  have HC := Hid.mkI (stepCode_range (g := g) (s := ⟨0, who, of, to, r⟩) h1 h2 (by simp) h)
  have hB := box5_new w ⟨0, who, of, to, r⟩ 56
  obtain ⟨c0, c1, c2, c3, c4, hbel⟩ := hB
  obtain ⟨W, hW⟩ : ∃ W, w.alloc (.cells #[.int .i64 0, .int .i64 who, .int .i64 of, .int .i64 to, .int .i64 r] 56) = W := ⟨_, rfl⟩
  rw [hW] at c0 c1 c2 c3 c4 hbel
  have tK := fun W => in_yes 0 0 2 (by decide) (by decide) W
  have tU := fun W => in_yes who 0 ((g.n : Int) - 1) h1 (by omega) W
  clear h1 h2
  by_cases q1 : 0 ≤ of ∧ of < (g.n : Int)
  · have tO := fun W => in_yes of 0 ((g.n : Int) - 1) q1.1 (by omega) W
    by_cases q2 : 0 ≤ to ∧ to < (g.n : Int)
    · have tT := fun W => in_yes to 0 ((g.n : Int) - 1) q2.1 (by omega) W
      have tR := fun W => inN (x := r) (a := 1) (b := 7) (by omega) W
      clear h q1 q2
      go_enter Tryd.func25, Tryd.ntmps25
      go_wp2_with (first | (go_at_call 24; (with_reducible refine (tK _).mono ?_); clear tK; rintro e w' ⟨rfl, hw⟩; obtain rfl := hw.symm) | (go_at_call 24; (with_reducible refine (tU _).mono ?_); clear tU; rintro e w' ⟨rfl, hw⟩; obtain rfl := hw.symm) | (go_at_call 24; (with_reducible refine (tO _).mono ?_); clear tO; rintro e w' ⟨rfl, hw⟩; obtain rfl := hw.symm) | (go_at_call 24; (with_reducible refine (tT _).mono ?_); clear tT; rintro e w' ⟨rfl, hw⟩; obtain rfl := hw.symm) | (go_at_call 24; (with_reducible refine (tR _).mono ?_); clear tR; rintro e w' ⟨rfl, hw⟩; obtain rfl := hw.symm))
      go_ret2
      exact doIs_err _ HC.out (by decide) rfl hbel
    · have tT := fun W => inD (x := to) (n := g.n) q2 W
      clear h q1 q2
      go_enter Tryd.func25, Tryd.ntmps25
      go_wp2_with (first | (go_at_call 24; (with_reducible refine (tK _).mono ?_); clear tK; rintro e w' ⟨rfl, hw⟩; obtain rfl := hw.symm) | (go_at_call 24; (with_reducible refine (tU _).mono ?_); clear tU; rintro e w' ⟨rfl, hw⟩; obtain rfl := hw.symm) | (go_at_call 24; (with_reducible refine (tO _).mono ?_); clear tO; rintro e w' ⟨rfl, hw⟩; obtain rfl := hw.symm) | (go_at_call 24; (with_reducible refine (tT _).mono ?_); clear tT; rintro e w' ⟨rfl, hw⟩; obtain rfl := hw.symm))
      go_ret2
      exact doIs_err _ HC.out (by decide) rfl hbel
  · have tO := fun W => inD (x := of) (n := g.n) q1 W
    clear h q1
    go_enter Tryd.func25, Tryd.ntmps25
    go_wp2_with (first | (go_at_call 24; (with_reducible refine (tK _).mono ?_); clear tK; rintro e w' ⟨rfl, hw⟩; obtain rfl := hw.symm) | (go_at_call 24; (with_reducible refine (tU _).mono ?_); clear tU; rintro e w' ⟨rfl, hw⟩; obtain rfl := hw.symm) | (go_at_call 24; (with_reducible refine (tO _).mono ?_); clear tO; rintro e w' ⟨rfl, hw⟩; obtain rfl := hw.symm))
    go_ret2
    exact doIs_err _ HC.out (by decide) rfl hbel
theorem do_range1 (a : Option Addr) (cp : Nat) (who of to r : Int) (h1 : 0 ≤ who) (h2 : who < g.n) (hn : g.n ≤ 20) (h : of < 0 ∨ (g.n : Int) ≤ of ∨ to < 0 ∨ (g.n : Int) ≤ to ∨ r < 1 ∨ 7 < r) :
    Calls Tryd.prog 25 #[.slice a g.n cp, stpV ⟨1, who, of, to, r⟩] w (DoIs w g ⟨1, who, of, to, r⟩) := by
  have HC := Hid.mkI (stepCode_range (g := g) (s := ⟨1, who, of, to, r⟩) h1 h2 (by simp) h)
  have hB := box5_new w ⟨1, who, of, to, r⟩ 56
  obtain ⟨c0, c1, c2, c3, c4, hbel⟩ := hB
  obtain ⟨W, hW⟩ : ∃ W, w.alloc (.cells #[.int .i64 1, .int .i64 who, .int .i64 of, .int .i64 to, .int .i64 r] 56) = W := ⟨_, rfl⟩
  rw [hW] at c0 c1 c2 c3 c4 hbel
  have tK := fun W => in_yes 1 0 2 (by decide) (by decide) W
  have tU := fun W => in_yes who 0 ((g.n : Int) - 1) h1 (by omega) W
  clear h1 h2
  by_cases q1 : 0 ≤ of ∧ of < (g.n : Int)
  · have tO := fun W => in_yes of 0 ((g.n : Int) - 1) q1.1 (by omega) W
    by_cases q2 : 0 ≤ to ∧ to < (g.n : Int)
    · have tT := fun W => in_yes to 0 ((g.n : Int) - 1) q2.1 (by omega) W
      have tR := fun W => inN (x := r) (a := 1) (b := 7) (by omega) W
      clear h q1 q2
      go_enter Tryd.func25, Tryd.ntmps25
      go_wp2_with (first | (go_at_call 24; (with_reducible refine (tK _).mono ?_); clear tK; rintro e w' ⟨rfl, hw⟩; obtain rfl := hw.symm) | (go_at_call 24; (with_reducible refine (tU _).mono ?_); clear tU; rintro e w' ⟨rfl, hw⟩; obtain rfl := hw.symm) | (go_at_call 24; (with_reducible refine (tO _).mono ?_); clear tO; rintro e w' ⟨rfl, hw⟩; obtain rfl := hw.symm) | (go_at_call 24; (with_reducible refine (tT _).mono ?_); clear tT; rintro e w' ⟨rfl, hw⟩; obtain rfl := hw.symm) | (go_at_call 24; (with_reducible refine (tR _).mono ?_); clear tR; rintro e w' ⟨rfl, hw⟩; obtain rfl := hw.symm))
      go_ret2
      exact doIs_err _ HC.out (by decide) rfl hbel
    · have tT := fun W => inD (x := to) (n := g.n) q2 W
      clear h q1 q2
      go_enter Tryd.func25, Tryd.ntmps25
      go_wp2_with (first | (go_at_call 24; (with_reducible refine (tK _).mono ?_); clear tK; rintro e w' ⟨rfl, hw⟩; obtain rfl := hw.symm) | (go_at_call 24; (with_reducible refine (tU _).mono ?_); clear tU; rintro e w' ⟨rfl, hw⟩; obtain rfl := hw.symm) | (go_at_call 24; (with_reducible refine (tO _).mono ?_); clear tO; rintro e w' ⟨rfl, hw⟩; obtain rfl := hw.symm) | (go_at_call 24; (with_reducible refine (tT _).mono ?_); clear tT; rintro e w' ⟨rfl, hw⟩; obtain rfl := hw.symm))
      go_ret2
      exact doIs_err _ HC.out (by decide) rfl hbel
  · have tO := fun W => inD (x := of) (n := g.n) q1 W
    clear h q1
    go_enter Tryd.func25, Tryd.ntmps25
    go_wp2_with (first | (go_at_call 24; (with_reducible refine (tK _).mono ?_); clear tK; rintro e w' ⟨rfl, hw⟩; obtain rfl := hw.symm) | (go_at_call 24; (with_reducible refine (tU _).mono ?_); clear tU; rintro e w' ⟨rfl, hw⟩; obtain rfl := hw.symm) | (go_at_call 24; (with_reducible refine (tO _).mono ?_); clear tO; rintro e w' ⟨rfl, hw⟩; obtain rfl := hw.symm))
    go_ret2
    exact doIs_err _ HC.out (by decide) rfl hbel
end
end Go.Proofs.YtmanodogmagofaaDoor
