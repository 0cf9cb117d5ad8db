/- The program's reader: each of its functions by what it calls, way by way (made by a program: gen/proread.py). -/
import Derived.WalkKit
import Derived.LoopTactic
import Derived.OwnWalk
import Derived.Laws.Strings
import Derived.Laws.Strings2
import Derived.WalkLawsBesides
import Derived.Test.YtdmdoikkemfcaabDoorProL
namespace Go.Proofs.YtdmdoikkemfcaabDoor
open Go.RowKit
set_option maxRecDepth 100000
set_option linter.unusedVariables false

/-- A call that goes on, and one that ends the reading. -/
def OkC (B X F : Nat) (args : Array Value) (r : List Nat) (o : List Nod) (r' : List Nat) (o' : List Nod) (v : Value) : Prop :=
  ∀ a cp w, RdA B X r o a cp w → LibT B w → Calls Tryd.prog F args w fun E w' => E = .returned v ∧ (∃ p cp, RdA B X r' o' p cp w') ∧ Below B w w'
def ErC (B X F : Nat) (args : Array Value) (r : List Nat) (o : List Nod) (c : Int) : Prop :=
  ∀ a cp w, RdA B X r o a cp w → LibT B w → Calls Tryd.prog F args w fun E w' => E = ErrE c ∧ Below B w w'
def EndC (B X F : Nat) (args : Array Value) (r : List Nat) (o : List Nod) (res : Rd) : Prop :=
  match res with
  | .ok a => OkC B X F args r o a.1 a.2 (.int .i64 (lstI a.2)) ∧ Sml a.1 ∧ a.2.length ≤ 80
  | .error c => ErC B X F args r o c
abbrev nodA (x : Nod) : Value := .agg #[.int .i64 x.kd, .int .i64 x.num, .int .i64 x.pa, .int .i64 x.pb, .int .i64 x.pc]
theorem add_end (B X : Nat) {r : List Nat} {o : List Nod} (hr : Sml r) (ho : o.length ≤ 80) (x : Nod) : EndC B X 29 #[rdP X, nodA x] r o (mdN r o x) := by
  unfold mdN
  by_cases h80 : o.length = 80
  · rw [if_pos h80]
    exact fun a cp w h _ => radd_full h80 x w h
  · rw [if_neg h80]
    exact ⟨fun a cp w h _ => radd_on (by omega) x w h, hr, by rw [List.length_append]; simp; omega⟩
theorem next_ok (B X : Nat) {r : List Nat} (o : List Nod) (hr : Sml r) : OkC B X 60 #[rdP X] r o r.tail o (.int .i64 (pk r)) := fun a cp w h _ =>
  (rnext_any hr w h).mono fun E w' ⟨e, k, b⟩ => ⟨e, ⟨_, _, k⟩, b⟩
theorem peek_ok (B X : Nat) {r : List Nat} (o : List Nod) (hr : Sml r) : OkC B X 28 #[rdP X] r o r o (.int .i64 (pk r)) := fun a cp w h _ =>
  (rpeek_any hr w h).mono fun E w' ⟨e, k⟩ => ⟨e, ⟨_, _, k ▸ h⟩, k ▸ Below.refl _ _⟩
theorem need_ok (B X : Nat) {c : Nat} {r : List Nat} (o : List Nod) (hr : Sml (c :: r)) : OkC B X 72 #[rdP X, .int .i64 (c : Int)] (c :: r) o r o (.tuple #[]) := fun a cp w h _ =>
  (rneed_yes hr w h).mono fun E w' ⟨e, k, b⟩ => ⟨e, ⟨_, _, k⟩, b⟩
theorem need_er (B X : Nat) {c : Int} {r : List Nat} (o : List Nod) (hr : Sml r) (hp : pk r ≠ c) : ErC B X 72 #[rdP X, .int .i64 c] r o 2 := fun a cp w h _ => rneed_no hr c hp w h
theorem var_ok (B X : Nat) {c : Nat} (r : List Nat) (o : List Nod) (h0 : 97 ≤ c) (h1 : c < 103) : OkC B X 64 #[.int .i64 (c : Int)] r o r o (.int .i64 ((c - 97 : Nat) : Int)) := fun a cp w h _ =>
  (rvar_yes c h0 h1 w).mono fun E w' ⟨e, k⟩ => ⟨e, ⟨_, _, k ▸ h⟩, k ▸ Below.refl _ _⟩
theorem var_er (B X : Nat) {c : Int} (r : List Nat) (o : List Nod) (h0 : -1 ≤ c) (h1 : c < 256) (h2 : ¬ (97 ≤ c ∧ c < 103)) : ErC B X 64 #[.int .i64 c] r o 2 := fun a cp w h _ =>
  (rvar_no c h0 h1 h2 w).mono fun E w' ⟨e, k⟩ => ⟨e, k ▸ Below.refl _ _⟩
theorem num_ok (B X : Nat) {r : List Nat} (o : List Nod) (hr : Sml r) (hg : goodD (tkW r)) : OkC B X 70 #[rdP X] r o (dpW r) o (.int .i64 ((valD (tkW r) : Nat) : Int)) := fun a cp w h hL =>
  (rnum_yes hr hg w h hL).mono fun E w' ⟨e, k, b⟩ => ⟨e, ⟨_, _, k⟩, b⟩
theorem num_er (B X : Nat) {r : List Nat} (o : List Nod) (hr : Sml r) (hg : ¬ goodD (tkW r)) : ErC B X 70 #[rdP X] r o 2 := fun a cp w h hL => rnum_no hr hg w h hL
theorem pair_e0 {B X : Nat} {r0 : List Nat} {o0 : List Nod} {k : Int} {c : Int} (k0 : ErC B X 61 #[rdP X] r0 o0 c) :
    ErC B X 71 #[rdP X, .int .i64 k] r0 o0 c := by
  intro a0 q0 w0 hR0 hL0
  go_enter Tryd.func71, Tryd.ntmps71
  go_wp2_with ((go_at_call 61; refine (k0 _ _ _ hR0 hL0).mono ?_; clear k0; rintro E0 w1 ⟨rfl, hB0⟩; have hX0 := hB0))
  exact ⟨rfl, rfl, hX0⟩
theorem pair_e1 {B X : Nat} {r0 r1 : List Nat} {o0 o1 : List Nod} {k v1 : Int} {c : Int} (k0 : OkC B X 61 #[rdP X] r0 o0 r1 o1 (.int .i64 v1)) (k1 : ErC B X 61 #[rdP X] r1 o1 c) :
    ErC B X 71 #[rdP X, .int .i64 k] r0 o0 c := by
  intro a0 q0 w0 hR0 hL0
  go_enter Tryd.func71, Tryd.ntmps71
  go_wp2_with (first | (go_at_call 61; refine (k0 _ _ _ hR0 hL0).mono ?_; clear k0; rintro E0 w1 ⟨rfl, ⟨a1, q1, hR1⟩, hB0⟩; have hL1 := hL0.on hB0; have hX0 := hB0) | (go_at_call 61; refine (k1 _ _ _ hR1 hL1).mono ?_; clear k1; rintro E1 w2 ⟨rfl, hB1⟩; have hX1 := hX0.trans hB1))
  exact ⟨rfl, rfl, hX1⟩
theorem pair_e2 {B X : Nat} {r0 r1 r2 : List Nat} {o0 o1 o2 : List Nod} {k v1 v2 : Int} {c : Int} (k0 : OkC B X 61 #[rdP X] r0 o0 r1 o1 (.int .i64 v1)) (k1 : OkC B X 61 #[rdP X] r1 o1 r2 o2 (.int .i64 v2)) (k2 : ErC B X 29 #[rdP X, .agg #[.int .i64 k, .int .i64 0, .int .i64 v1, .int .i64 v2, .int .i64 0]] r2 o2 c) :
    ErC B X 71 #[rdP X, .int .i64 k] r0 o0 c := by
  intro a0 q0 w0 hR0 hL0
  go_enter Tryd.func71, Tryd.ntmps71
  go_wp2_with (first | (go_at_call 61; refine (k0 _ _ _ hR0 hL0).mono ?_; clear k0; rintro E0 w1 ⟨rfl, ⟨a1, q1, hR1⟩, hB0⟩; have hL1 := hL0.on hB0; have hX0 := hB0) | (go_at_call 61; refine (k1 _ _ _ hR1 hL1).mono ?_; clear k1; rintro E1 w2 ⟨rfl, ⟨a2, q2, hR2⟩, hB1⟩; have hL2 := hL1.on hB1; have hX1 := hX0.trans hB1) | (go_at_call 29; refine (k2 _ _ _ hR2 hL2).mono ?_; clear k2; rintro E2 w3 ⟨rfl, hB2⟩; have hX2 := hX1.trans hB2))
  exact ⟨rfl, rfl, hX2⟩
theorem pair_ok {B X : Nat} {r0 r1 r2 r3 : List Nat} {o0 o1 o2 o3 : List Nod} {k v1 v2 v3 : Int} (k0 : OkC B X 61 #[rdP X] r0 o0 r1 o1 (.int .i64 v1)) (k1 : OkC B X 61 #[rdP X] r1 o1 r2 o2 (.int .i64 v2)) (k2 : OkC B X 29 #[rdP X, .agg #[.int .i64 k, .int .i64 0, .int .i64 v1, .int .i64 v2, .int .i64 0]] r2 o2 r3 o3 (.int .i64 v3)) :
    OkC B X 71 #[rdP X, .int .i64 k] r0 o0 r3 o3 (.int .i64 v3) := by
  intro a0 q0 w0 hR0 hL0
  go_enter Tryd.func71, Tryd.ntmps71
  go_wp2_with (first | (go_at_call 61; refine (k0 _ _ _ hR0 hL0).mono ?_; clear k0; rintro E0 w1 ⟨rfl, ⟨a1, q1, hR1⟩, hB0⟩; have hL1 := hL0.on hB0; have hX0 := hB0) | (go_at_call 61; refine (k1 _ _ _ hR1 hL1).mono ?_; clear k1; rintro E1 w2 ⟨rfl, ⟨a2, q2, hR2⟩, hB1⟩; have hL2 := hL1.on hB1; have hX1 := hX0.trans hB1) | (go_at_call 29; refine (k2 _ _ _ hR2 hL2).mono ?_; clear k2; rintro E2 w3 ⟨rfl, ⟨a3, q3, hR3⟩, hB2⟩; have hL3 := hL2.on hB2; have hX2 := hX1.trans hB2))
  go_ret
  exact ⟨rfl, ⟨_, _, hR3⟩, hX2⟩
theorem val35_e1 {B X : Nat} {r0 r1 : List Nat} {o0 o1 : List Nod} {c : Int} (k0 : OkC B X 60 #[rdP X] r0 o0 r1 o1 (.int .i64 35)) (k1 : ErC B X 70 #[rdP X] r1 o1 c) :
    ErC B X 61 #[rdP X] r0 o0 c := by
  intro a0 q0 w0 hR0 hL0
  go_enter Tryd.func61, Tryd.ntmps61
  go_wp2_with (first | (go_at_call 60; refine (k0 _ _ _ hR0 hL0).mono ?_; clear k0; rintro E0 w1 ⟨rfl, ⟨a1, q1, hR1⟩, hB0⟩; have hL1 := hL0.on hB0; have hX0 := hB0) | (go_at_call 70; refine (k1 _ _ _ hR1 hL1).mono ?_; clear k1; rintro E1 w2 ⟨rfl, hB1⟩; have hX1 := hX0.trans hB1))
  exact ⟨rfl, rfl, hX1⟩
theorem val35_e2 {B X : Nat} {r0 r1 r2 : List Nat} {o0 o1 o2 : List Nod} {v1 : Int} {c : Int} (k0 : OkC B X 60 #[rdP X] r0 o0 r1 o1 (.int .i64 35)) (k1 : OkC B X 70 #[rdP X] r1 o1 r2 o2 (.int .i64 v1)) (k2 : ErC B X 29 #[rdP X, .agg #[.int .i64 0, .int .i64 v1, .int .i64 0, .int .i64 0, .int .i64 0]] r2 o2 c) :
    ErC B X 61 #[rdP X] r0 o0 c := by
  intro a0 q0 w0 hR0 hL0
  go_enter Tryd.func61, Tryd.ntmps61
  go_wp2_with (first | (go_at_call 60; refine (k0 _ _ _ hR0 hL0).mono ?_; clear k0; rintro E0 w1 ⟨rfl, ⟨a1, q1, hR1⟩, hB0⟩; have hL1 := hL0.on hB0; have hX0 := hB0) | (go_at_call 70; refine (k1 _ _ _ hR1 hL1).mono ?_; clear k1; rintro E1 w2 ⟨rfl, ⟨a2, q2, hR2⟩, hB1⟩; have hL2 := hL1.on hB1; have hX1 := hX0.trans hB1) | (go_at_call 29; refine (k2 _ _ _ hR2 hL2).mono ?_; clear k2; rintro E2 w3 ⟨rfl, hB2⟩; have hX2 := hX1.trans hB2))
  exact ⟨rfl, rfl, hX2⟩
theorem val35_ok {B X : Nat} {r0 r1 r2 r3 : List Nat} {o0 o1 o2 o3 : List Nod} {v1 v2 : Int} (k0 : OkC B X 60 #[rdP X] r0 o0 r1 o1 (.int .i64 35)) (k1 : OkC B X 70 #[rdP X] r1 o1 r2 o2 (.int .i64 v1)) (k2 : OkC B X 29 #[rdP X, .agg #[.int .i64 0, .int .i64 v1, .int .i64 0, .int .i64 0, .int .i64 0]] r2 o2 r3 o3 (.int .i64 v2)) :
    OkC B X 61 #[rdP X] r0 o0 r3 o3 (.int .i64 v2) := by
  intro a0 q0 w0 hR0 hL0
  go_enter Tryd.func61, Tryd.ntmps61
  go_wp2_with (first | (go_at_call 60; refine (k0 _ _ _ hR0 hL0).mono ?_; clear k0; rintro E0 w1 ⟨rfl, ⟨a1, q1, hR1⟩, hB0⟩; have hL1 := hL0.on hB0; have hX0 := hB0) | (go_at_call 70; refine (k1 _ _ _ hR1 hL1).mono ?_; clear k1; rintro E1 w2 ⟨rfl, ⟨a2, q2, hR2⟩, hB1⟩; have hL2 := hL1.on hB1; have hX1 := hX0.trans hB1) | (go_at_call 29; refine (k2 _ _ _ hR2 hL2).mono ?_; clear k2; rintro E2 w3 ⟨rfl, ⟨a3, q3, hR3⟩, hB2⟩; have hL3 := hL2.on hB2; have hX2 := hX1.trans hB2))
  go_ret
  exact ⟨rfl, ⟨_, _, hR3⟩, hX2⟩
theorem val43_e1 {B X : Nat} {r0 r1 : List Nat} {o0 o1 : List Nod} {c : Int} (k0 : OkC B X 60 #[rdP X] r0 o0 r1 o1 (.int .i64 43)) (k1 : ErC B X 71 #[rdP X, .int .i64 2] r1 o1 c) :
    ErC B X 61 #[rdP X] r0 o0 c := by
  intro a0 q0 w0 hR0 hL0
  go_enter Tryd.func61, Tryd.ntmps61
  go_wp2_with (first | (go_at_call 60; refine (k0 _ _ _ hR0 hL0).mono ?_; clear k0; rintro E0 w1 ⟨rfl, ⟨a1, q1, hR1⟩, hB0⟩; have hL1 := hL0.on hB0; have hX0 := hB0) | (go_at_call 71; refine (k1 _ _ _ hR1 hL1).mono ?_; clear k1; rintro E1 w2 ⟨rfl, hB1⟩; have hX1 := hX0.trans hB1))
  exact ⟨rfl, rfl, hX1⟩
theorem val43_ok {B X : Nat} {r0 r1 r2 : List Nat} {o0 o1 o2 : List Nod} {v1 : Int} (k0 : OkC B X 60 #[rdP X] r0 o0 r1 o1 (.int .i64 43)) (k1 : OkC B X 71 #[rdP X, .int .i64 2] r1 o1 r2 o2 (.int .i64 v1)) :
    OkC B X 61 #[rdP X] r0 o0 r2 o2 (.int .i64 v1) := by
  intro a0 q0 w0 hR0 hL0
  go_enter Tryd.func61, Tryd.ntmps61
  go_wp2_with (first | (go_at_call 60; refine (k0 _ _ _ hR0 hL0).mono ?_; clear k0; rintro E0 w1 ⟨rfl, ⟨a1, q1, hR1⟩, hB0⟩; have hL1 := hL0.on hB0; have hX0 := hB0) | (go_at_call 71; refine (k1 _ _ _ hR1 hL1).mono ?_; clear k1; rintro E1 w2 ⟨rfl, ⟨a2, q2, hR2⟩, hB1⟩; have hL2 := hL1.on hB1; have hX1 := hX0.trans hB1))
  go_ret
  exact ⟨rfl, ⟨_, _, hR2⟩, hX1⟩
theorem val60_e1 {B X : Nat} {r0 r1 : List Nat} {o0 o1 : List Nod} {c : Int} (k0 : OkC B X 60 #[rdP X] r0 o0 r1 o1 (.int .i64 60)) (k1 : ErC B X 71 #[rdP X, .int .i64 3] r1 o1 c) :
    ErC B X 61 #[rdP X] r0 o0 c := by
  intro a0 q0 w0 hR0 hL0
  go_enter Tryd.func61, Tryd.ntmps61
  go_wp2_with (first | (go_at_call 60; refine (k0 _ _ _ hR0 hL0).mono ?_; clear k0; rintro E0 w1 ⟨rfl, ⟨a1, q1, hR1⟩, hB0⟩; have hL1 := hL0.on hB0; have hX0 := hB0) | (go_at_call 71; refine (k1 _ _ _ hR1 hL1).mono ?_; clear k1; rintro E1 w2 ⟨rfl, hB1⟩; have hX1 := hX0.trans hB1))
  exact ⟨rfl, rfl, hX1⟩
theorem val60_ok {B X : Nat} {r0 r1 r2 : List Nat} {o0 o1 o2 : List Nod} {v1 : Int} (k0 : OkC B X 60 #[rdP X] r0 o0 r1 o1 (.int .i64 60)) (k1 : OkC B X 71 #[rdP X, .int .i64 3] r1 o1 r2 o2 (.int .i64 v1)) :
    OkC B X 61 #[rdP X] r0 o0 r2 o2 (.int .i64 v1) := by
  intro a0 q0 w0 hR0 hL0
  go_enter Tryd.func61, Tryd.ntmps61
  go_wp2_with (first | (go_at_call 60; refine (k0 _ _ _ hR0 hL0).mono ?_; clear k0; rintro E0 w1 ⟨rfl, ⟨a1, q1, hR1⟩, hB0⟩; have hL1 := hL0.on hB0; have hX0 := hB0) | (go_at_call 71; refine (k1 _ _ _ hR1 hL1).mono ?_; clear k1; rintro E1 w2 ⟨rfl, ⟨a2, q2, hR2⟩, hB1⟩; have hL2 := hL1.on hB1; have hX1 := hX0.trans hB1))
  go_ret
  exact ⟨rfl, ⟨_, _, hR2⟩, hX1⟩
theorem val61_e1 {B X : Nat} {r0 r1 : List Nat} {o0 o1 : List Nod} {c : Int} (k0 : OkC B X 60 #[rdP X] r0 o0 r1 o1 (.int .i64 61)) (k1 : ErC B X 71 #[rdP X, .int .i64 4] r1 o1 c) :
    ErC B X 61 #[rdP X] r0 o0 c := by
  intro a0 q0 w0 hR0 hL0
  go_enter Tryd.func61, Tryd.ntmps61
  go_wp2_with (first | (go_at_call 60; refine (k0 _ _ _ hR0 hL0).mono ?_; clear k0; rintro E0 w1 ⟨rfl, ⟨a1, q1, hR1⟩, hB0⟩; have hL1 := hL0.on hB0; have hX0 := hB0) | (go_at_call 71; refine (k1 _ _ _ hR1 hL1).mono ?_; clear k1; rintro E1 w2 ⟨rfl, hB1⟩; have hX1 := hX0.trans hB1))
  exact ⟨rfl, rfl, hX1⟩
theorem val61_ok {B X : Nat} {r0 r1 r2 : List Nat} {o0 o1 o2 : List Nod} {v1 : Int} (k0 : OkC B X 60 #[rdP X] r0 o0 r1 o1 (.int .i64 61)) (k1 : OkC B X 71 #[rdP X, .int .i64 4] r1 o1 r2 o2 (.int .i64 v1)) :
    OkC B X 61 #[rdP X] r0 o0 r2 o2 (.int .i64 v1) := by
  intro a0 q0 w0 hR0 hL0
  go_enter Tryd.func61, Tryd.ntmps61
  go_wp2_with (first | (go_at_call 60; refine (k0 _ _ _ hR0 hL0).mono ?_; clear k0; rintro E0 w1 ⟨rfl, ⟨a1, q1, hR1⟩, hB0⟩; have hL1 := hL0.on hB0; have hX0 := hB0) | (go_at_call 71; refine (k1 _ _ _ hR1 hL1).mono ?_; clear k1; rintro E1 w2 ⟨rfl, ⟨a2, q2, hR2⟩, hB1⟩; have hL2 := hL1.on hB1; have hX1 := hX0.trans hB1))
  go_ret
  exact ⟨rfl, ⟨_, _, hR2⟩, hX1⟩
theorem valv_e1 {B X : Nat} {r0 r1 : List Nat} {o0 o1 : List Nod} {s : Int} {c : Int} (h0 : s ≠ 35) (h1 : s ≠ 43) (h2 : s ≠ 60) (h3 : s ≠ 61) (k0 : OkC B X 60 #[rdP X] r0 o0 r1 o1 (.int .i64 s)) (k1 : ErC B X 64 #[.int .i64 s] r1 o1 c) :
    ErC B X 61 #[rdP X] r0 o0 c := by
  intro a0 q0 w0 hR0 hL0
  have g0 : (s == 35) = false := by simpa using h0
  have g1 : (s == 43) = false := by simpa using h1
  have g2 : (s == 60) = false := by simpa using h2
  have g3 : (s == 61) = false := by simpa using h3
  clear h0 h1 h2 h3
  go_enter Tryd.func61, Tryd.ntmps61
  go_wp2_with (first | (go_at_call 60; refine (k0 _ _ _ hR0 hL0).mono ?_; clear k0; rintro E0 w1 ⟨rfl, ⟨a1, q1, hR1⟩, hB0⟩; have hL1 := hL0.on hB0; have hX0 := hB0) | (go_at_call 64; refine (k1 _ _ _ hR1 hL1).mono ?_; clear k1; rintro E1 w2 ⟨rfl, hB1⟩; have hX1 := hX0.trans hB1))
  exact ⟨rfl, rfl, hX1⟩
theorem valv_e2 {B X : Nat} {r0 r1 r2 : List Nat} {o0 o1 o2 : List Nod} {s v1 : Int} {c : Int} (h0 : s ≠ 35) (h1 : s ≠ 43) (h2 : s ≠ 60) (h3 : s ≠ 61) (k0 : OkC B X 60 #[rdP X] r0 o0 r1 o1 (.int .i64 s)) (k1 : OkC B X 64 #[.int .i64 s] r1 o1 r2 o2 (.int .i64 v1)) (k2 : ErC B X 29 #[rdP X, .agg #[.int .i64 1, .int .i64 v1, .int .i64 0, .int .i64 0, .int .i64 0]] r2 o2 c) :
    ErC B X 61 #[rdP X] r0 o0 c := by
  intro a0 q0 w0 hR0 hL0
  have g0 : (s == 35) = false := by simpa using h0
  have g1 : (s == 43) = false := by simpa using h1
  have g2 : (s == 60) = false := by simpa using h2
  have g3 : (s == 61) = false := by simpa using h3
  clear h0 h1 h2 h3
  go_enter Tryd.func61, Tryd.ntmps61
  go_wp2_with (first | (go_at_call 60; refine (k0 _ _ _ hR0 hL0).mono ?_; clear k0; rintro E0 w1 ⟨rfl, ⟨a1, q1, hR1⟩, hB0⟩; have hL1 := hL0.on hB0; have hX0 := hB0) | (go_at_call 64; refine (k1 _ _ _ hR1 hL1).mono ?_; clear k1; rintro E1 w2 ⟨rfl, ⟨a2, q2, hR2⟩, hB1⟩; have hL2 := hL1.on hB1; have hX1 := hX0.trans hB1) | (go_at_call 29; refine (k2 _ _ _ hR2 hL2).mono ?_; clear k2; rintro E2 w3 ⟨rfl, hB2⟩; have hX2 := hX1.trans hB2))
  exact ⟨rfl, rfl, hX2⟩
theorem valv_ok {B X : Nat} {r0 r1 r2 r3 : List Nat} {o0 o1 o2 o3 : List Nod} {s v1 v2 : Int} (h0 : s ≠ 35) (h1 : s ≠ 43) (h2 : s ≠ 60) (h3 : s ≠ 61) (k0 : OkC B X 60 #[rdP X] r0 o0 r1 o1 (.int .i64 s)) (k1 : OkC B X 64 #[.int .i64 s] r1 o1 r2 o2 (.int .i64 v1)) (k2 : OkC B X 29 #[rdP X, .agg #[.int .i64 1, .int .i64 v1, .int .i64 0, .int .i64 0, .int .i64 0]] r2 o2 r3 o3 (.int .i64 v2)) :
    OkC B X 61 #[rdP X] r0 o0 r3 o3 (.int .i64 v2) := by
  intro a0 q0 w0 hR0 hL0
  have g0 : (s == 35) = false := by simpa using h0
  have g1 : (s == 43) = false := by simpa using h1
  have g2 : (s == 60) = false := by simpa using h2
  have g3 : (s == 61) = false := by simpa using h3
  clear h0 h1 h2 h3
  go_enter Tryd.func61, Tryd.ntmps61
  go_wp2_with (first | (go_at_call 60; refine (k0 _ _ _ hR0 hL0).mono ?_; clear k0; rintro E0 w1 ⟨rfl, ⟨a1, q1, hR1⟩, hB0⟩; have hL1 := hL0.on hB0; have hX0 := hB0) | (go_at_call 64; refine (k1 _ _ _ hR1 hL1).mono ?_; clear k1; rintro E1 w2 ⟨rfl, ⟨a2, q2, hR2⟩, hB1⟩; have hL2 := hL1.on hB1; have hX1 := hX0.trans hB1) | (go_at_call 29; refine (k2 _ _ _ hR2 hL2).mono ?_; clear k2; rintro E2 w3 ⟨rfl, ⟨a3, q3, hR3⟩, hB2⟩; have hL3 := hL2.on hB2; have hX2 := hX1.trans hB2))
  go_ret
  exact ⟨rfl, ⟨_, _, hR3⟩, hX2⟩
theorem set_e0 {B X : Nat} {r0 : List Nat} {o0 : List Nod} {n : Int} {c : Int} (k0 : ErC B X 72 #[rdP X, .int .i64 61] r0 o0 c) :
    ErC B X 63 #[rdP X, .int .i64 n] r0 o0 c := by
  intro a0 q0 w0 hR0 hL0
  go_enter Tryd.func63, Tryd.ntmps63
  go_wp2_with ((go_at_call 72; refine (k0 _ _ _ hR0 hL0).mono ?_; clear k0; rintro E0 w1 ⟨rfl, hB0⟩; have hX0 := hB0))
  exact ⟨rfl, rfl, hX0⟩
theorem set_e1 {B X : Nat} {r0 r1 : List Nat} {o0 o1 : List Nod} {n : Int} {c : Int} (k0 : OkC B X 72 #[rdP X, .int .i64 61] r0 o0 r1 o1 (.tuple #[])) (k1 : ErC B X 61 #[rdP X] r1 o1 c) :
    ErC B X 63 #[rdP X, .int .i64 n] r0 o0 c := by
  intro a0 q0 w0 hR0 hL0
  go_enter Tryd.func63, Tryd.ntmps63
  go_wp2_with (first | (go_at_call 72; refine (k0 _ _ _ hR0 hL0).mono ?_; clear k0; rintro E0 w1 ⟨rfl, ⟨a1, q1, hR1⟩, hB0⟩; have hL1 := hL0.on hB0; have hX0 := hB0) | (go_at_call 61; refine (k1 _ _ _ hR1 hL1).mono ?_; clear k1; rintro E1 w2 ⟨rfl, hB1⟩; have hX1 := hX0.trans hB1))
  exact ⟨rfl, rfl, hX1⟩
theorem set_e2 {B X : Nat} {r0 r1 r2 : List Nat} {o0 o1 o2 : List Nod} {n v1 : Int} {c : Int} (k0 : OkC B X 72 #[rdP X, .int .i64 61] r0 o0 r1 o1 (.tuple #[])) (k1 : OkC B X 61 #[rdP X] r1 o1 r2 o2 (.int .i64 v1)) (k2 : ErC B X 72 #[rdP X, .int .i64 59] r2 o2 c) :
    ErC B X 63 #[rdP X, .int .i64 n] r0 o0 c := by
  intro a0 q0 w0 hR0 hL0
  go_enter Tryd.func63, Tryd.ntmps63
  go_wp2_with (first | (go_at_call 72; refine (k0 _ _ _ hR0 hL0).mono ?_; clear k0; rintro E0 w1 ⟨rfl, ⟨a1, q1, hR1⟩, hB0⟩; have hL1 := hL0.on hB0; have hX0 := hB0) | (go_at_call 61; refine (k1 _ _ _ hR1 hL1).mono ?_; clear k1; rintro E1 w2 ⟨rfl, ⟨a2, q2, hR2⟩, hB1⟩; have hL2 := hL1.on hB1; have hX1 := hX0.trans hB1) | (go_at_call 72; refine (k2 _ _ _ hR2 hL2).mono ?_; clear k2; rintro E2 w3 ⟨rfl, hB2⟩; have hX2 := hX1.trans hB2))
  exact ⟨rfl, rfl, hX2⟩
theorem set_e3 {B X : Nat} {r0 r1 r2 r3 : List Nat} {o0 o1 o2 o3 : List Nod} {n v1 : Int} {c : Int} (k0 : OkC B X 72 #[rdP X, .int .i64 61] r0 o0 r1 o1 (.tuple #[])) (k1 : OkC B X 61 #[rdP X] r1 o1 r2 o2 (.int .i64 v1)) (k2 : OkC B X 72 #[rdP X, .int .i64 59] r2 o2 r3 o3 (.tuple #[])) (k3 : ErC B X 29 #[rdP X, .agg #[.int .i64 6, .int .i64 n, .int .i64 v1, .int .i64 0, .int .i64 0]] r3 o3 c) :
    ErC B X 63 #[rdP X, .int .i64 n] r0 o0 c := by
  intro a0 q0 w0 hR0 hL0
  go_enter Tryd.func63, Tryd.ntmps63
  go_wp2_with (first | (go_at_call 72; refine (k0 _ _ _ hR0 hL0).mono ?_; clear k0; rintro E0 w1 ⟨rfl, ⟨a1, q1, hR1⟩, hB0⟩; have hL1 := hL0.on hB0; have hX0 := hB0) | (go_at_call 61; refine (k1 _ _ _ hR1 hL1).mono ?_; clear k1; rintro E1 w2 ⟨rfl, ⟨a2, q2, hR2⟩, hB1⟩; have hL2 := hL1.on hB1; have hX1 := hX0.trans hB1) | (go_at_call 72; refine (k2 _ _ _ hR2 hL2).mono ?_; clear k2; rintro E2 w3 ⟨rfl, ⟨a3, q3, hR3⟩, hB2⟩; have hL3 := hL2.on hB2; have hX2 := hX1.trans hB2) | (go_at_call 29; refine (k3 _ _ _ hR3 hL3).mono ?_; clear k3; rintro E3 w4 ⟨rfl, hB3⟩; have hX3 := hX2.trans hB3))
  exact ⟨rfl, rfl, hX3⟩
theorem set_ok {B X : Nat} {r0 r1 r2 r3 r4 : List Nat} {o0 o1 o2 o3 o4 : List Nod} {n v1 v2 : Int} (k0 : OkC B X 72 #[rdP X, .int .i64 61] r0 o0 r1 o1 (.tuple #[])) (k1 : OkC B X 61 #[rdP X] r1 o1 r2 o2 (.int .i64 v1)) (k2 : OkC B X 72 #[rdP X, .int .i64 59] r2 o2 r3 o3 (.tuple #[])) (k3 : OkC B X 29 #[rdP X, .agg #[.int .i64 6, .int .i64 n, .int .i64 v1, .int .i64 0, .int .i64 0]] r3 o3 r4 o4 (.int .i64 v2)) :
    OkC B X 63 #[rdP X, .int .i64 n] r0 o0 r4 o4 (.int .i64 v2) := by
  intro a0 q0 w0 hR0 hL0
  go_enter Tryd.func63, Tryd.ntmps63
  go_wp2_with (first | (go_at_call 72; refine (k0 _ _ _ hR0 hL0).mono ?_; clear k0; rintro E0 w1 ⟨rfl, ⟨a1, q1, hR1⟩, hB0⟩; have hL1 := hL0.on hB0; have hX0 := hB0) | (go_at_call 61; refine (k1 _ _ _ hR1 hL1).mono ?_; clear k1; rintro E1 w2 ⟨rfl, ⟨a2, q2, hR2⟩, hB1⟩; have hL2 := hL1.on hB1; have hX1 := hX0.trans hB1) | (go_at_call 72; refine (k2 _ _ _ hR2 hL2).mono ?_; clear k2; rintro E2 w3 ⟨rfl, ⟨a3, q3, hR3⟩, hB2⟩; have hL3 := hL2.on hB2; have hX2 := hX1.trans hB2) | (go_at_call 29; refine (k3 _ _ _ hR3 hL3).mono ?_; clear k3; rintro E3 w4 ⟨rfl, ⟨a4, q4, hR4⟩, hB3⟩; have hL4 := hL3.on hB3; have hX3 := hX2.trans hB3))
  go_ret
  exact ⟨rfl, ⟨_, _, hR4⟩, hX3⟩
theorem brac_e0 {B X : Nat} {r0 : List Nat} {o0 : List Nod} {c : Int} (k0 : ErC B X 72 #[rdP X, .int .i64 123] r0 o0 c) :
    ErC B X 62 #[rdP X] r0 o0 c := by
  intro a0 q0 w0 hR0 hL0
  go_enter Tryd.func62, Tryd.ntmps62
  go_wp2_with ((go_at_call 72; refine (k0 _ _ _ hR0 hL0).mono ?_; clear k0; rintro E0 w1 ⟨rfl, hB0⟩; have hX0 := hB0))
  exact ⟨rfl, rfl, hX0⟩
theorem brac_e1 {B X : Nat} {r0 r1 : List Nat} {o0 o1 : List Nod} {c : Int} (k0 : OkC B X 72 #[rdP X, .int .i64 123] r0 o0 r1 o1 (.tuple #[])) (k1 : ErC B X 18 #[rdP X, .int .i64 125] r1 o1 c) :
    ErC B X 62 #[rdP X] r0 o0 c := by
  intro a0 q0 w0 hR0 hL0
  go_enter Tryd.func62, Tryd.ntmps62
  go_wp2_with (first | (go_at_call 72; refine (k0 _ _ _ hR0 hL0).mono ?_; clear k0; rintro E0 w1 ⟨rfl, ⟨a1, q1, hR1⟩, hB0⟩; have hL1 := hL0.on hB0; have hX0 := hB0) | (go_at_call 18; refine (k1 _ _ _ hR1 hL1).mono ?_; clear k1; rintro E1 w2 ⟨rfl, hB1⟩; have hX1 := hX0.trans hB1))
  exact ⟨rfl, rfl, hX1⟩
theorem brac_e2 {B X : Nat} {r0 r1 r2 : List Nat} {o0 o1 o2 : List Nod} {v1 : Int} {c : Int} (k0 : OkC B X 72 #[rdP X, .int .i64 123] r0 o0 r1 o1 (.tuple #[])) (k1 : OkC B X 18 #[rdP X, .int .i64 125] r1 o1 r2 o2 (.int .i64 v1)) (k2 : ErC B X 72 #[rdP X, .int .i64 125] r2 o2 c) :
    ErC B X 62 #[rdP X] r0 o0 c := by
  intro a0 q0 w0 hR0 hL0
  go_enter Tryd.func62, Tryd.ntmps62
  go_wp2_with (first | (go_at_call 72; refine (k0 _ _ _ hR0 hL0).mono ?_; clear k0; rintro E0 w1 ⟨rfl, ⟨a1, q1, hR1⟩, hB0⟩; have hL1 := hL0.on hB0; have hX0 := hB0) | (go_at_call 18; refine (k1 _ _ _ hR1 hL1).mono ?_; clear k1; rintro E1 w2 ⟨rfl, ⟨a2, q2, hR2⟩, hB1⟩; have hL2 := hL1.on hB1; have hX1 := hX0.trans hB1) | (go_at_call 72; refine (k2 _ _ _ hR2 hL2).mono ?_; clear k2; rintro E2 w3 ⟨rfl, hB2⟩; have hX2 := hX1.trans hB2))
  exact ⟨rfl, rfl, hX2⟩
theorem brac_ok {B X : Nat} {r0 r1 r2 r3 : List Nat} {o0 o1 o2 o3 : List Nod} {v1 : Int} (k0 : OkC B X 72 #[rdP X, .int .i64 123] r0 o0 r1 o1 (.tuple #[])) (k1 : OkC B X 18 #[rdP X, .int .i64 125] r1 o1 r2 o2 (.int .i64 v1)) (k2 : OkC B X 72 #[rdP X, .int .i64 125] r2 o2 r3 o3 (.tuple #[])) :
    OkC B X 62 #[rdP X] r0 o0 r3 o3 (.int .i64 v1) := by
  intro a0 q0 w0 hR0 hL0
  go_enter Tryd.func62, Tryd.ntmps62
  go_wp2_with (first | (go_at_call 72; refine (k0 _ _ _ hR0 hL0).mono ?_; clear k0; rintro E0 w1 ⟨rfl, ⟨a1, q1, hR1⟩, hB0⟩; have hL1 := hL0.on hB0; have hX0 := hB0) | (go_at_call 18; refine (k1 _ _ _ hR1 hL1).mono ?_; clear k1; rintro E1 w2 ⟨rfl, ⟨a2, q2, hR2⟩, hB1⟩; have hL2 := hL1.on hB1; have hX1 := hX0.trans hB1) | (go_at_call 72; refine (k2 _ _ _ hR2 hL2).mono ?_; clear k2; rintro E2 w3 ⟨rfl, ⟨a3, q3, hR3⟩, hB2⟩; have hL3 := hL2.on hB2; have hX2 := hX1.trans hB2))
  go_ret
  exact ⟨rfl, ⟨_, _, hR3⟩, hX2⟩
theorem dif_e1 {B X : Nat} {r0 r1 : List Nat} {o0 o1 : List Nod} {c : Int} (k0 : OkC B X 60 #[rdP X] r0 o0 r1 o1 (.int .i64 63)) (k1 : ErC B X 61 #[rdP X] r1 o1 c) :
    ErC B X 46 #[rdP X] r0 o0 c := by
  intro a0 q0 w0 hR0 hL0
  go_enter Tryd.func46, Tryd.ntmps46
  go_wp2_with (first | (go_at_call 60; refine (k0 _ _ _ hR0 hL0).mono ?_; clear k0; rintro E0 w1 ⟨rfl, ⟨a1, q1, hR1⟩, hB0⟩; have hL1 := hL0.on hB0; have hX0 := hB0) | (go_at_call 61; refine (k1 _ _ _ hR1 hL1).mono ?_; clear k1; rintro E1 w2 ⟨rfl, hB1⟩; have hX1 := hX0.trans hB1))
  exact ⟨rfl, rfl, hX1⟩
theorem dif_e2 {B X : Nat} {r0 r1 r2 : List Nat} {o0 o1 o2 : List Nod} {v1 : Int} {c : Int} (k0 : OkC B X 60 #[rdP X] r0 o0 r1 o1 (.int .i64 63)) (k1 : OkC B X 61 #[rdP X] r1 o1 r2 o2 (.int .i64 v1)) (k2 : ErC B X 62 #[rdP X] r2 o2 c) :
    ErC B X 46 #[rdP X] r0 o0 c := by
  intro a0 q0 w0 hR0 hL0
  go_enter Tryd.func46, Tryd.ntmps46
  go_wp2_with (first | (go_at_call 60; refine (k0 _ _ _ hR0 hL0).mono ?_; clear k0; rintro E0 w1 ⟨rfl, ⟨a1, q1, hR1⟩, hB0⟩; have hL1 := hL0.on hB0; have hX0 := hB0) | (go_at_call 61; refine (k1 _ _ _ hR1 hL1).mono ?_; clear k1; rintro E1 w2 ⟨rfl, ⟨a2, q2, hR2⟩, hB1⟩; have hL2 := hL1.on hB1; have hX1 := hX0.trans hB1) | (go_at_call 62; refine (k2 _ _ _ hR2 hL2).mono ?_; clear k2; rintro E2 w3 ⟨rfl, hB2⟩; have hX2 := hX1.trans hB2))
  exact ⟨rfl, rfl, hX2⟩
theorem dif_e3 {B X : Nat} {r0 r1 r2 r3 : List Nat} {o0 o1 o2 o3 : List Nod} {v1 v2 : Int} {c : Int} (k0 : OkC B X 60 #[rdP X] r0 o0 r1 o1 (.int .i64 63)) (k1 : OkC B X 61 #[rdP X] r1 o1 r2 o2 (.int .i64 v1)) (k2 : OkC B X 62 #[rdP X] r2 o2 r3 o3 (.int .i64 v2)) (k3 : ErC B X 62 #[rdP X] r3 o3 c) :
    ErC B X 46 #[rdP X] r0 o0 c := by
  intro a0 q0 w0 hR0 hL0
  go_enter Tryd.func46, Tryd.ntmps46
  go_wp2_with (first | (go_at_call 60; refine (k0 _ _ _ hR0 hL0).mono ?_; clear k0; rintro E0 w1 ⟨rfl, ⟨a1, q1, hR1⟩, hB0⟩; have hL1 := hL0.on hB0; have hX0 := hB0) | (go_at_call 61; refine (k1 _ _ _ hR1 hL1).mono ?_; clear k1; rintro E1 w2 ⟨rfl, ⟨a2, q2, hR2⟩, hB1⟩; have hL2 := hL1.on hB1; have hX1 := hX0.trans hB1) | (go_at_call 62; refine (k2 _ _ _ hR2 hL2).mono ?_; clear k2; rintro E2 w3 ⟨rfl, ⟨a3, q3, hR3⟩, hB2⟩; have hL3 := hL2.on hB2; have hX2 := hX1.trans hB2) | (go_at_call 62; refine (k3 _ _ _ hR3 hL3).mono ?_; clear k3; rintro E3 w4 ⟨rfl, hB3⟩; have hX3 := hX2.trans hB3))
  exact ⟨rfl, rfl, hX3⟩
theorem dif_e4 {B X : Nat} {r0 r1 r2 r3 r4 : List Nat} {o0 o1 o2 o3 o4 : List Nod} {v1 v2 v3 : Int} {c : Int} (k0 : OkC B X 60 #[rdP X] r0 o0 r1 o1 (.int .i64 63)) (k1 : OkC B X 61 #[rdP X] r1 o1 r2 o2 (.int .i64 v1)) (k2 : OkC B X 62 #[rdP X] r2 o2 r3 o3 (.int .i64 v2)) (k3 : OkC B X 62 #[rdP X] r3 o3 r4 o4 (.int .i64 v3)) (k4 : ErC B X 29 #[rdP X, .agg #[.int .i64 8, .int .i64 0, .int .i64 v1, .int .i64 v2, .int .i64 v3]] r4 o4 c) :
    ErC B X 46 #[rdP X] r0 o0 c := by
  intro a0 q0 w0 hR0 hL0
  go_enter Tryd.func46, Tryd.ntmps46
  go_wp2_with (first | (go_at_call 60; refine (k0 _ _ _ hR0 hL0).mono ?_; clear k0; rintro E0 w1 ⟨rfl, ⟨a1, q1, hR1⟩, hB0⟩; have hL1 := hL0.on hB0; have hX0 := hB0) | (go_at_call 61; refine (k1 _ _ _ hR1 hL1).mono ?_; clear k1; rintro E1 w2 ⟨rfl, ⟨a2, q2, hR2⟩, hB1⟩; have hL2 := hL1.on hB1; have hX1 := hX0.trans hB1) | (go_at_call 62; refine (k2 _ _ _ hR2 hL2).mono ?_; clear k2; rintro E2 w3 ⟨rfl, ⟨a3, q3, hR3⟩, hB2⟩; have hL3 := hL2.on hB2; have hX2 := hX1.trans hB2) | (go_at_call 62; refine (k3 _ _ _ hR3 hL3).mono ?_; clear k3; rintro E3 w4 ⟨rfl, ⟨a4, q4, hR4⟩, hB3⟩; have hL4 := hL3.on hB3; have hX3 := hX2.trans hB3) | (go_at_call 29; refine (k4 _ _ _ hR4 hL4).mono ?_; clear k4; rintro E4 w5 ⟨rfl, hB4⟩; have hX4 := hX3.trans hB4))
  exact ⟨rfl, rfl, hX4⟩
theorem dif_ok {B X : Nat} {r0 r1 r2 r3 r4 r5 : List Nat} {o0 o1 o2 o3 o4 o5 : List Nod} {v1 v2 v3 v4 : Int} (k0 : OkC B X 60 #[rdP X] r0 o0 r1 o1 (.int .i64 63)) (k1 : OkC B X 61 #[rdP X] r1 o1 r2 o2 (.int .i64 v1)) (k2 : OkC B X 62 #[rdP X] r2 o2 r3 o3 (.int .i64 v2)) (k3 : OkC B X 62 #[rdP X] r3 o3 r4 o4 (.int .i64 v3)) (k4 : OkC B X 29 #[rdP X, .agg #[.int .i64 8, .int .i64 0, .int .i64 v1, .int .i64 v2, .int .i64 v3]] r4 o4 r5 o5 (.int .i64 v4)) :
    OkC B X 46 #[rdP X] r0 o0 r5 o5 (.int .i64 v4) := by
  intro a0 q0 w0 hR0 hL0
  go_enter Tryd.func46, Tryd.ntmps46
  go_wp2_with (first | (go_at_call 60; refine (k0 _ _ _ hR0 hL0).mono ?_; clear k0; rintro E0 w1 ⟨rfl, ⟨a1, q1, hR1⟩, hB0⟩; have hL1 := hL0.on hB0; have hX0 := hB0) | (go_at_call 61; refine (k1 _ _ _ hR1 hL1).mono ?_; clear k1; rintro E1 w2 ⟨rfl, ⟨a2, q2, hR2⟩, hB1⟩; have hL2 := hL1.on hB1; have hX1 := hX0.trans hB1) | (go_at_call 62; refine (k2 _ _ _ hR2 hL2).mono ?_; clear k2; rintro E2 w3 ⟨rfl, ⟨a3, q3, hR3⟩, hB2⟩; have hL3 := hL2.on hB2; have hX2 := hX1.trans hB2) | (go_at_call 62; refine (k3 _ _ _ hR3 hL3).mono ?_; clear k3; rintro E3 w4 ⟨rfl, ⟨a4, q4, hR4⟩, hB3⟩; have hL4 := hL3.on hB3; have hX3 := hX2.trans hB3) | (go_at_call 29; refine (k4 _ _ _ hR4 hL4).mono ?_; clear k4; rintro E4 w5 ⟨rfl, ⟨a5, q5, hR5⟩, hB4⟩; have hL5 := hL4.on hB4; have hX4 := hX3.trans hB4))
  go_ret
  exact ⟨rfl, ⟨_, _, hR5⟩, hX4⟩
theorem dwh_e1 {B X : Nat} {r0 r1 : List Nat} {o0 o1 : List Nod} {c : Int} (k0 : OkC B X 60 #[rdP X] r0 o0 r1 o1 (.int .i64 64)) (k1 : ErC B X 61 #[rdP X] r1 o1 c) :
    ErC B X 46 #[rdP X] r0 o0 c := by
  intro a0 q0 w0 hR0 hL0
  go_enter Tryd.func46, Tryd.ntmps46
  go_wp2_with (first | (go_at_call 60; refine (k0 _ _ _ hR0 hL0).mono ?_; clear k0; rintro E0 w1 ⟨rfl, ⟨a1, q1, hR1⟩, hB0⟩; have hL1 := hL0.on hB0; have hX0 := hB0) | (go_at_call 61; refine (k1 _ _ _ hR1 hL1).mono ?_; clear k1; rintro E1 w2 ⟨rfl, hB1⟩; have hX1 := hX0.trans hB1))
  exact ⟨rfl, rfl, hX1⟩
theorem dwh_e2 {B X : Nat} {r0 r1 r2 : List Nat} {o0 o1 o2 : List Nod} {v1 : Int} {c : Int} (k0 : OkC B X 60 #[rdP X] r0 o0 r1 o1 (.int .i64 64)) (k1 : OkC B X 61 #[rdP X] r1 o1 r2 o2 (.int .i64 v1)) (k2 : ErC B X 62 #[rdP X] r2 o2 c) :
    ErC B X 46 #[rdP X] r0 o0 c := by
  intro a0 q0 w0 hR0 hL0
  go_enter Tryd.func46, Tryd.ntmps46
  go_wp2_with (first | (go_at_call 60; refine (k0 _ _ _ hR0 hL0).mono ?_; clear k0; rintro E0 w1 ⟨rfl, ⟨a1, q1, hR1⟩, hB0⟩; have hL1 := hL0.on hB0; have hX0 := hB0) | (go_at_call 61; refine (k1 _ _ _ hR1 hL1).mono ?_; clear k1; rintro E1 w2 ⟨rfl, ⟨a2, q2, hR2⟩, hB1⟩; have hL2 := hL1.on hB1; have hX1 := hX0.trans hB1) | (go_at_call 62; refine (k2 _ _ _ hR2 hL2).mono ?_; clear k2; rintro E2 w3 ⟨rfl, hB2⟩; have hX2 := hX1.trans hB2))
  exact ⟨rfl, rfl, hX2⟩
theorem dwh_e3 {B X : Nat} {r0 r1 r2 r3 : List Nat} {o0 o1 o2 o3 : List Nod} {v1 v2 : Int} {c : Int} (k0 : OkC B X 60 #[rdP X] r0 o0 r1 o1 (.int .i64 64)) (k1 : OkC B X 61 #[rdP X] r1 o1 r2 o2 (.int .i64 v1)) (k2 : OkC B X 62 #[rdP X] r2 o2 r3 o3 (.int .i64 v2)) (k3 : ErC B X 29 #[rdP X, .agg #[.int .i64 9, .int .i64 0, .int .i64 v1, .int .i64 v2, .int .i64 0]] r3 o3 c) :
    ErC B X 46 #[rdP X] r0 o0 c := by
  intro a0 q0 w0 hR0 hL0
  go_enter Tryd.func46, Tryd.ntmps46
  go_wp2_with (first | (go_at_call 60; refine (k0 _ _ _ hR0 hL0).mono ?_; clear k0; rintro E0 w1 ⟨rfl, ⟨a1, q1, hR1⟩, hB0⟩; have hL1 := hL0.on hB0; have hX0 := hB0) | (go_at_call 61; refine (k1 _ _ _ hR1 hL1).mono ?_; clear k1; rintro E1 w2 ⟨rfl, ⟨a2, q2, hR2⟩, hB1⟩; have hL2 := hL1.on hB1; have hX1 := hX0.trans hB1) | (go_at_call 62; refine (k2 _ _ _ hR2 hL2).mono ?_; clear k2; rintro E2 w3 ⟨rfl, ⟨a3, q3, hR3⟩, hB2⟩; have hL3 := hL2.on hB2; have hX2 := hX1.trans hB2) | (go_at_call 29; refine (k3 _ _ _ hR3 hL3).mono ?_; clear k3; rintro E3 w4 ⟨rfl, hB3⟩; have hX3 := hX2.trans hB3))
  exact ⟨rfl, rfl, hX3⟩
theorem dwh_ok {B X : Nat} {r0 r1 r2 r3 r4 : List Nat} {o0 o1 o2 o3 o4 : List Nod} {v1 v2 v3 : Int} (k0 : OkC B X 60 #[rdP X] r0 o0 r1 o1 (.int .i64 64)) (k1 : OkC B X 61 #[rdP X] r1 o1 r2 o2 (.int .i64 v1)) (k2 : OkC B X 62 #[rdP X] r2 o2 r3 o3 (.int .i64 v2)) (k3 : OkC B X 29 #[rdP X, .agg #[.int .i64 9, .int .i64 0, .int .i64 v1, .int .i64 v2, .int .i64 0]] r3 o3 r4 o4 (.int .i64 v3)) :
    OkC B X 46 #[rdP X] r0 o0 r4 o4 (.int .i64 v3) := by
  intro a0 q0 w0 hR0 hL0
  go_enter Tryd.func46, Tryd.ntmps46
  go_wp2_with (first | (go_at_call 60; refine (k0 _ _ _ hR0 hL0).mono ?_; clear k0; rintro E0 w1 ⟨rfl, ⟨a1, q1, hR1⟩, hB0⟩; have hL1 := hL0.on hB0; have hX0 := hB0) | (go_at_call 61; refine (k1 _ _ _ hR1 hL1).mono ?_; clear k1; rintro E1 w2 ⟨rfl, ⟨a2, q2, hR2⟩, hB1⟩; have hL2 := hL1.on hB1; have hX1 := hX0.trans hB1) | (go_at_call 62; refine (k2 _ _ _ hR2 hL2).mono ?_; clear k2; rintro E2 w3 ⟨rfl, ⟨a3, q3, hR3⟩, hB2⟩; have hL3 := hL2.on hB2; have hX2 := hX1.trans hB2) | (go_at_call 29; refine (k3 _ _ _ hR3 hL3).mono ?_; clear k3; rintro E3 w4 ⟨rfl, ⟨a4, q4, hR4⟩, hB3⟩; have hL4 := hL3.on hB3; have hX3 := hX2.trans hB3))
  go_ret
  exact ⟨rfl, ⟨_, _, hR4⟩, hX3⟩
theorem dst_e1 {B X : Nat} {r0 r1 : List Nat} {o0 o1 : List Nod} {s : Int} {c : Int} (h0 : s ≠ 63) (h1 : s ≠ 64) (k0 : OkC B X 60 #[rdP X] r0 o0 r1 o1 (.int .i64 s)) (k1 : ErC B X 64 #[.int .i64 s] r1 o1 c) :
    ErC B X 46 #[rdP X] r0 o0 c := by
  intro a0 q0 w0 hR0 hL0
  have g0 : (s == 63) = false := by simpa using h0
  have g1 : (s == 64) = false := by simpa using h1
  clear h0 h1
  go_enter Tryd.func46, Tryd.ntmps46
  go_wp2_with (first | (go_at_call 60; refine (k0 _ _ _ hR0 hL0).mono ?_; clear k0; rintro E0 w1 ⟨rfl, ⟨a1, q1, hR1⟩, hB0⟩; have hL1 := hL0.on hB0; have hX0 := hB0) | (go_at_call 64; refine (k1 _ _ _ hR1 hL1).mono ?_; clear k1; rintro E1 w2 ⟨rfl, hB1⟩; have hX1 := hX0.trans hB1))
  exact ⟨rfl, rfl, hX1⟩
theorem dst_e2 {B X : Nat} {r0 r1 r2 : List Nat} {o0 o1 o2 : List Nod} {s v1 : Int} {c : Int} (h0 : s ≠ 63) (h1 : s ≠ 64) (k0 : OkC B X 60 #[rdP X] r0 o0 r1 o1 (.int .i64 s)) (k1 : OkC B X 64 #[.int .i64 s] r1 o1 r2 o2 (.int .i64 v1)) (k2 : ErC B X 63 #[rdP X, .int .i64 v1] r2 o2 c) :
    ErC B X 46 #[rdP X] r0 o0 c := by
  intro a0 q0 w0 hR0 hL0
  have g0 : (s == 63) = false := by simpa using h0
  have g1 : (s == 64) = false := by simpa using h1
  clear h0 h1
  go_enter Tryd.func46, Tryd.ntmps46
  go_wp2_with (first | (go_at_call 60; refine (k0 _ _ _ hR0 hL0).mono ?_; clear k0; rintro E0 w1 ⟨rfl, ⟨a1, q1, hR1⟩, hB0⟩; have hL1 := hL0.on hB0; have hX0 := hB0) | (go_at_call 64; refine (k1 _ _ _ hR1 hL1).mono ?_; clear k1; rintro E1 w2 ⟨rfl, ⟨a2, q2, hR2⟩, hB1⟩; have hL2 := hL1.on hB1; have hX1 := hX0.trans hB1) | (go_at_call 63; refine (k2 _ _ _ hR2 hL2).mono ?_; clear k2; rintro E2 w3 ⟨rfl, hB2⟩; have hX2 := hX1.trans hB2))
  exact ⟨rfl, rfl, hX2⟩
theorem dst_ok {B X : Nat} {r0 r1 r2 r3 : List Nat} {o0 o1 o2 o3 : List Nod} {s v1 v2 : Int} (h0 : s ≠ 63) (h1 : s ≠ 64) (k0 : OkC B X 60 #[rdP X] r0 o0 r1 o1 (.int .i64 s)) (k1 : OkC B X 64 #[.int .i64 s] r1 o1 r2 o2 (.int .i64 v1)) (k2 : OkC B X 63 #[rdP X, .int .i64 v1] r2 o2 r3 o3 (.int .i64 v2)) :
    OkC B X 46 #[rdP X] r0 o0 r3 o3 (.int .i64 v2) := by
  intro a0 q0 w0 hR0 hL0
  have g0 : (s == 63) = false := by simpa using h0
  have g1 : (s == 64) = false := by simpa using h1
  clear h0 h1
  go_enter Tryd.func46, Tryd.ntmps46
  go_wp2_with (first | (go_at_call 60; refine (k0 _ _ _ hR0 hL0).mono ?_; clear k0; rintro E0 w1 ⟨rfl, ⟨a1, q1, hR1⟩, hB0⟩; have hL1 := hL0.on hB0; have hX0 := hB0) | (go_at_call 64; refine (k1 _ _ _ hR1 hL1).mono ?_; clear k1; rintro E1 w2 ⟨rfl, ⟨a2, q2, hR2⟩, hB1⟩; have hL2 := hL1.on hB1; have hX1 := hX0.trans hB1) | (go_at_call 63; refine (k2 _ _ _ hR2 hL2).mono ?_; clear k2; rintro E2 w3 ⟨rfl, ⟨a3, q3, hR3⟩, hB2⟩; have hL3 := hL2.on hB2; have hX2 := hX1.trans hB2))
  go_ret
  exact ⟨rfl, ⟨_, _, hR3⟩, hX2⟩
theorem sod_one {B X : Nat} {r0 r1 r2 : List Nat} {o0 o1 o2 : List Nod} {t v1 : Int} (k0 : OkC B X 46 #[rdP X] r0 o0 r1 o1 (.int .i64 v1)) (k1 : OkC B X 28 #[rdP X] r1 o1 r2 o2 (.int .i64 t)) :
    OkC B X 30 #[rdP X, .int .i64 t] r0 o0 r2 o2 (.int .i64 v1) := by
  intro a0 q0 w0 hR0 hL0
  go_enter Tryd.func30, Tryd.ntmps30
  go_wp2_with (first | (go_at_call 46; refine (k0 _ _ _ hR0 hL0).mono ?_; clear k0; rintro E0 w1 ⟨rfl, ⟨a1, q1, hR1⟩, hB0⟩; have hL1 := hL0.on hB0; have hX0 := hB0) | (go_at_call 28; refine (k1 _ _ _ hR1 hL1).mono ?_; clear k1; rintro E1 w2 ⟨rfl, ⟨a2, q2, hR2⟩, hB1⟩; have hL2 := hL1.on hB1; have hX1 := hX0.trans hB1))
  go_ret
  exact ⟨rfl, ⟨_, _, hR2⟩, hX1⟩
theorem sod_e0 {B X : Nat} {r0 : List Nat} {o0 : List Nod} {t : Int} {c : Int} (k0 : ErC B X 46 #[rdP X] r0 o0 c) :
    ErC B X 30 #[rdP X, .int .i64 t] r0 o0 c := by
  intro a0 q0 w0 hR0 hL0
  go_enter Tryd.func30, Tryd.ntmps30
  go_wp2_with ((go_at_call 46; refine (k0 _ _ _ hR0 hL0).mono ?_; clear k0; rintro E0 w1 ⟨rfl, hB0⟩; have hX0 := hB0))
  exact ⟨rfl, rfl, hX0⟩
theorem sod_e2 {B X : Nat} {r0 r1 r2 : List Nat} {o0 o1 o2 : List Nod} {s t v1 : Int} {c : Int} (h0 : s ≠ t) (k0 : OkC B X 46 #[rdP X] r0 o0 r1 o1 (.int .i64 v1)) (k1 : OkC B X 28 #[rdP X] r1 o1 r2 o2 (.int .i64 s)) (k2 : ErC B X 30 #[rdP X, .int .i64 t] r2 o2 c) :
    ErC B X 30 #[rdP X, .int .i64 t] r0 o0 c := by
  intro a0 q0 w0 hR0 hL0
  have g0 : (s == t) = false := by simpa using h0
  clear h0
  go_enter Tryd.func30, Tryd.ntmps30
  go_wp2_with (first | (go_at_call 46; refine (k0 _ _ _ hR0 hL0).mono ?_; clear k0; rintro E0 w1 ⟨rfl, ⟨a1, q1, hR1⟩, hB0⟩; have hL1 := hL0.on hB0; have hX0 := hB0) | (go_at_call 28; refine (k1 _ _ _ hR1 hL1).mono ?_; clear k1; rintro E1 w2 ⟨rfl, ⟨a2, q2, hR2⟩, hB1⟩; have hL2 := hL1.on hB1; have hX1 := hX0.trans hB1) | (go_at_call 30; refine (k2 _ _ _ hR2 hL2).mono ?_; clear k2; rintro E2 w3 ⟨rfl, hB2⟩; have hX2 := hX1.trans hB2))
  exact ⟨rfl, rfl, hX2⟩
theorem sod_e3 {B X : Nat} {r0 r1 r2 r3 : List Nat} {o0 o1 o2 o3 : List Nod} {s t v1 v2 : Int} {c : Int} (h0 : s ≠ t) (k0 : OkC B X 46 #[rdP X] r0 o0 r1 o1 (.int .i64 v1)) (k1 : OkC B X 28 #[rdP X] r1 o1 r2 o2 (.int .i64 s)) (k2 : OkC B X 30 #[rdP X, .int .i64 t] r2 o2 r3 o3 (.int .i64 v2)) (k3 : ErC B X 29 #[rdP X, .agg #[.int .i64 7, .int .i64 0, .int .i64 v1, .int .i64 v2, .int .i64 0]] r3 o3 c) :
    ErC B X 30 #[rdP X, .int .i64 t] r0 o0 c := by
  intro a0 q0 w0 hR0 hL0
  have g0 : (s == t) = false := by simpa using h0
  clear h0
  go_enter Tryd.func30, Tryd.ntmps30
  go_wp2_with (first | (go_at_call 46; refine (k0 _ _ _ hR0 hL0).mono ?_; clear k0; rintro E0 w1 ⟨rfl, ⟨a1, q1, hR1⟩, hB0⟩; have hL1 := hL0.on hB0; have hX0 := hB0) | (go_at_call 28; refine (k1 _ _ _ hR1 hL1).mono ?_; clear k1; rintro E1 w2 ⟨rfl, ⟨a2, q2, hR2⟩, hB1⟩; have hL2 := hL1.on hB1; have hX1 := hX0.trans hB1) | (go_at_call 30; refine (k2 _ _ _ hR2 hL2).mono ?_; clear k2; rintro E2 w3 ⟨rfl, ⟨a3, q3, hR3⟩, hB2⟩; have hL3 := hL2.on hB2; have hX2 := hX1.trans hB2) | (go_at_call 29; refine (k3 _ _ _ hR3 hL3).mono ?_; clear k3; rintro E3 w4 ⟨rfl, hB3⟩; have hX3 := hX2.trans hB3))
  exact ⟨rfl, rfl, hX3⟩
theorem sod_ok {B X : Nat} {r0 r1 r2 r3 r4 : List Nat} {o0 o1 o2 o3 o4 : List Nod} {s t v1 v2 v3 : Int} (h0 : s ≠ t) (k0 : OkC B X 46 #[rdP X] r0 o0 r1 o1 (.int .i64 v1)) (k1 : OkC B X 28 #[rdP X] r1 o1 r2 o2 (.int .i64 s)) (k2 : OkC B X 30 #[rdP X, .int .i64 t] r2 o2 r3 o3 (.int .i64 v2)) (k3 : OkC B X 29 #[rdP X, .agg #[.int .i64 7, .int .i64 0, .int .i64 v1, .int .i64 v2, .int .i64 0]] r3 o3 r4 o4 (.int .i64 v3)) :
    OkC B X 30 #[rdP X, .int .i64 t] r0 o0 r4 o4 (.int .i64 v3) := by
  intro a0 q0 w0 hR0 hL0
  have g0 : (s == t) = false := by simpa using h0
  clear h0
  go_enter Tryd.func30, Tryd.ntmps30
  go_wp2_with (first | (go_at_call 46; refine (k0 _ _ _ hR0 hL0).mono ?_; clear k0; rintro E0 w1 ⟨rfl, ⟨a1, q1, hR1⟩, hB0⟩; have hL1 := hL0.on hB0; have hX0 := hB0) | (go_at_call 28; refine (k1 _ _ _ hR1 hL1).mono ?_; clear k1; rintro E1 w2 ⟨rfl, ⟨a2, q2, hR2⟩, hB1⟩; have hL2 := hL1.on hB1; have hX1 := hX0.trans hB1) | (go_at_call 30; refine (k2 _ _ _ hR2 hL2).mono ?_; clear k2; rintro E2 w3 ⟨rfl, ⟨a3, q3, hR3⟩, hB2⟩; have hL3 := hL2.on hB2; have hX2 := hX1.trans hB2) | (go_at_call 29; refine (k3 _ _ _ hR3 hL3).mono ?_; clear k3; rintro E3 w4 ⟨rfl, ⟨a4, q4, hR4⟩, hB3⟩; have hL4 := hL3.on hB3; have hX3 := hX2.trans hB3))
  go_ret
  exact ⟨rfl, ⟨_, _, hR4⟩, hX3⟩
theorem dsk_e1 {B X : Nat} {r0 r1 : List Nat} {o0 o1 : List Nod} {t : Int} {c : Int} (k0 : OkC B X 28 #[rdP X] r0 o0 r1 o1 (.int .i64 t)) (k1 : ErC B X 29 #[rdP X, .agg #[.int .i64 5, .int .i64 0, .int .i64 0, .int .i64 0, .int .i64 0]] r1 o1 c) :
    ErC B X 18 #[rdP X, .int .i64 t] r0 o0 c := by
  intro a0 q0 w0 hR0 hL0
  go_enter Tryd.func18, Tryd.ntmps18
  go_wp2_with (first | (go_at_call 28; refine (k0 _ _ _ hR0 hL0).mono ?_; clear k0; rintro E0 w1 ⟨rfl, ⟨a1, q1, hR1⟩, hB0⟩; have hL1 := hL0.on hB0; have hX0 := hB0) | (go_at_call 29; refine (k1 _ _ _ hR1 hL1).mono ?_; clear k1; rintro E1 w2 ⟨rfl, hB1⟩; have hX1 := hX0.trans hB1))
  exact ⟨rfl, rfl, hX1⟩
theorem dsk_ok {B X : Nat} {r0 r1 r2 : List Nat} {o0 o1 o2 : List Nod} {t v1 : Int} (k0 : OkC B X 28 #[rdP X] r0 o0 r1 o1 (.int .i64 t)) (k1 : OkC B X 29 #[rdP X, .agg #[.int .i64 5, .int .i64 0, .int .i64 0, .int .i64 0, .int .i64 0]] r1 o1 r2 o2 (.int .i64 v1)) :
    OkC B X 18 #[rdP X, .int .i64 t] r0 o0 r2 o2 (.int .i64 v1) := by
  intro a0 q0 w0 hR0 hL0
  go_enter Tryd.func18, Tryd.ntmps18
  go_wp2_with (first | (go_at_call 28; refine (k0 _ _ _ hR0 hL0).mono ?_; clear k0; rintro E0 w1 ⟨rfl, ⟨a1, q1, hR1⟩, hB0⟩; have hL1 := hL0.on hB0; have hX0 := hB0) | (go_at_call 29; refine (k1 _ _ _ hR1 hL1).mono ?_; clear k1; rintro E1 w2 ⟨rfl, ⟨a2, q2, hR2⟩, hB1⟩; have hL2 := hL1.on hB1; have hX1 := hX0.trans hB1))
  go_ret
  exact ⟨rfl, ⟨_, _, hR2⟩, hX1⟩
theorem dsm_e1 {B X : Nat} {r0 r1 : List Nat} {o0 o1 : List Nod} {s t : Int} {c : Int} (h0 : s ≠ t) (k0 : OkC B X 28 #[rdP X] r0 o0 r1 o1 (.int .i64 s)) (k1 : ErC B X 30 #[rdP X, .int .i64 t] r1 o1 c) :
    ErC B X 18 #[rdP X, .int .i64 t] r0 o0 c := by
  intro a0 q0 w0 hR0 hL0
  have g0 : (s == t) = false := by simpa using h0
  clear h0
  go_enter Tryd.func18, Tryd.ntmps18
  go_wp2_with (first | (go_at_call 28; refine (k0 _ _ _ hR0 hL0).mono ?_; clear k0; rintro E0 w1 ⟨rfl, ⟨a1, q1, hR1⟩, hB0⟩; have hL1 := hL0.on hB0; have hX0 := hB0) | (go_at_call 30; refine (k1 _ _ _ hR1 hL1).mono ?_; clear k1; rintro E1 w2 ⟨rfl, hB1⟩; have hX1 := hX0.trans hB1))
  exact ⟨rfl, rfl, hX1⟩
theorem dsm_ok {B X : Nat} {r0 r1 r2 : List Nat} {o0 o1 o2 : List Nod} {s t v1 : Int} (h0 : s ≠ t) (k0 : OkC B X 28 #[rdP X] r0 o0 r1 o1 (.int .i64 s)) (k1 : OkC B X 30 #[rdP X, .int .i64 t] r1 o1 r2 o2 (.int .i64 v1)) :
    OkC B X 18 #[rdP X, .int .i64 t] r0 o0 r2 o2 (.int .i64 v1) := by
  intro a0 q0 w0 hR0 hL0
  have g0 : (s == t) = false := by simpa using h0
  clear h0
  go_enter Tryd.func18, Tryd.ntmps18
  go_wp2_with (first | (go_at_call 28; refine (k0 _ _ _ hR0 hL0).mono ?_; clear k0; rintro E0 w1 ⟨rfl, ⟨a1, q1, hR1⟩, hB0⟩; have hL1 := hL0.on hB0; have hX0 := hB0) | (go_at_call 30; refine (k1 _ _ _ hR1 hL1).mono ?_; clear k1; rintro E1 w2 ⟨rfl, ⟨a2, q2, hR2⟩, hB1⟩; have hL2 := hL1.on hB1; have hX1 := hX0.trans hB1))
  go_ret
  exact ⟨rfl, ⟨_, _, hR2⟩, hX1⟩
end Go.Proofs.YtdmdoikkemfcaabDoor
