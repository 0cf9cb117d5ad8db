/- The planner brings a right down a chain (passBy, pass, passRound, bring). -/
import Derived.WalkKit
import Derived.LoopTactic
import Derived.StillTailTactics
import Derived.Test.YtdmdoikkemfcaaaDoorTakPln
namespace Go.Proofs.YtdmdoikkemfcaaaDoor
open Go.RowKit
set_option maxRecDepth 100000

/-- The steps by which rights R over T pass from b to a; vt: the next vertex. -/
def passL (g : Gr) (R T b a vt : Nat) : List Stp :=
  if hasB (g.M a b) 1 = true then [⟨0, a, b, T, R⟩]
  else if hasB (g.M b a) 2 = true then [⟨1, b, a, T, R⟩]
  else [⟨2, a, 0, 0, 0⟩, (if hasB (g.M b a) 1 = true then ⟨0, b, a, vt, 2⟩ else ⟨1, a, b, vt, 2⟩), ⟨1, b, vt, T, R⟩, ⟨0, a, vt, T, R⟩]
def passN (g : Gr) (b a : Nat) : Nat := if hasB (g.M a b) 1 = true then 0 else if hasB (g.M b a) 2 = true then 0 else 1
def roundL (g : Gr) (r over b a vt : Nat) : List Stp :=
  [⟨2, over, 0, 0, 0⟩] ++ passL g 3 vt over a (vt + 1) ++ passL g 3 vt over b (vt + 1 + passN g over a) ++ [⟨1, b, vt, over, r⟩, ⟨0, a, vt, over, r⟩]
def roundN (g : Gr) (over b a : Nat) : Nat := 1 + passN g over a + passN g over b
/-- The steps down a chain from its place i on. -/
def bringL (g : Gr) (r over : Nat) (W : Nat → Nat) : Nat → Nat → List Stp
  | 0, _ => []
  | 1, vt => passL g r over (W 1) (W 0) vt
  | i + 2, vt => if W (i + 1) = over then roundL g r over (W (i + 2)) (W i) vt ++ bringL g r over W i (vt + roundN g over (W (i + 2)) (W i)) else passL g r over (W (i + 2)) (W (i + 1)) vt ++ bringL g r over W (i + 1) (vt + passN g (W (i + 2)) (W (i + 1)))
def bringN (g : Gr) (over : Nat) (W : Nat → Nat) : Nat → Nat → Nat
  | 0, vt => vt
  | 1, vt => vt + passN g (W 1) (W 0)
  | i + 2, vt => if W (i + 1) = over then bringN g over W i (vt + roundN g over (W (i + 2)) (W i)) else bringN g over W (i + 1) (vt + passN g (W (i + 2)) (W (i + 1)))
theorem passL_len (g : Gr) (R T b a vt : Nat) : (passL g R T b a vt).length ≤ 4 := by
  unfold passL
  split
  · simp
  · split <;> simp
theorem passN_le (g : Gr) (b a : Nat) : passN g b a ≤ 1 := by
  unfold passN
  split
  · omega
  · split <;> omega
theorem roundL_len (g : Gr) (r over b a vt : Nat) : (roundL g r over b a vt).length ≤ 11 := by
  unfold roundL
  have h1 := passL_len g 3 vt over a (vt + 1)
  have h2 := passL_len g 3 vt over b (vt + 1 + passN g over a)
  simp only [List.length_append, List.length_cons, List.length_nil]
  omega
section
variable {X : Nat} {w w0 : World} {gv v : Value} {l : List Stp} {vt : Nat}
/-- What a call of the planner leaves. -/
def PlIs (X : Nat) (w : World) (gv : Value) (l : List Stp) (vt : Nat) (e : Ending) (w' : World) : Prop := (∃ u, e = .returned u) ∧ (∃ v', Plnr X w' gv l vt v') ∧ Below X w w'
theorem passBy_any (h : Plnr X w gv l vt v) (hl : l.length < 100000000) (n r over b a : Int) :
    Calls Tryd.prog 71 #[.pointer (some ⟨X, 0, none⟩), .int .i64 n, .int .i64 r, .int .i64 over, .int .i64 b, .int .i64 a] w (PlIs X w gv (l ++ [⟨1, b, n, over, r⟩, ⟨0, a, n, over, r⟩]) vt) := by
  have t1 := pGrant_any h (by omega) b n over r
  have t2 := fun w1 v1 (h1 : Plnr X w1 gv (l ++ [⟨1, b, n, over, r⟩]) vt v1) => pTake_any h1 (by simp; omega) a n over r
  clear h
  go_enter Tryd.func71, Tryd.ntmps71
  go_wp2_with fail
  refine t1.mono ?_
  clear t1
  rintro e w1 ⟨⟨u, rfl⟩, ⟨v1, h1⟩, hB1⟩
  have t2 := t2 w1 v1 h1
  clear h1
  go_wp2_with fail
  refine t2.mono ?_
  clear t2
  rintro e w2 ⟨⟨u2, rfl⟩, ⟨v2, h2⟩, hB2⟩
  rw [List.append_assoc] at h2
  go_wp2_with fail
  go_end0
  exact ⟨⟨_, rfl⟩, ⟨v2, h2⟩, hB1.trans hB2⟩
variable {b0 off : Nat} {B O C : Nat → Nat} {g : Gr} {cp : Nat}
set_option maxHeartbeats 2000000 in
theorem pass_any (h : Plnr X w (.slice (some ⟨b0, off, none⟩) g.n cp) l vt v) (hG0 : GrAt w0 b0 off B O C g) (ok : g.Ok) (hX : w0.heap.size ≤ X) (hB0 : Below X w0 w) (hl : l.length < 50000000) (hvt : vt < 50000000) (R : Nat) (T b a : Nat) (hb : b < g.n) (ha : a < g.n) :
    Calls Tryd.prog 52 #[.pointer (some ⟨X, 0, none⟩), .int .i64 R, .int .i64 T, .int .i64 b, .int .i64 a] w (PlIs X w (.slice (some ⟨b0, off, none⟩) g.n cp) (l ++ passL g R T b a vt) (vt + passN g b a)) := by
  have gr : ∀ w1, Below X w0 w1 → GrAt w1 b0 off B O C g := fun w1 k => hG0.below (k.mono hX)
  have hG := gr w hB0
  have a1 := hG.top a ha
  have a2 := hG.cell a b ha hb
  have a3 := hG.top b hb
  have a4 := hG.cell b a hb ha
  have m1 := ok.lt a b
  have m2 := ok.lt b a
  have c0 := h.c0
  have u1 : ∀ W, Calls Tryd.prog 67 #[.int .i64 ((g.M a b : Nat) : Int), .int .i64 1] W fun e w' => e = .returned (.bool (hasB (g.M a b) 1)) ∧ w' = W := fun W => thas_any (g.M a b) 1 (by omega) (by decide) W
  have u2 : ∀ W, Calls Tryd.prog 67 #[.int .i64 ((g.M b a : Nat) : Int), .int .i64 2] W fun e w' => e = .returned (.bool (hasB (g.M b a) 2)) ∧ w' = W := fun W => thas_any (g.M b a) 2 (by omega) (by decide) W
  have u3 : ∀ W, Calls Tryd.prog 67 #[.int .i64 ((g.M b a : Nat) : Int), .int .i64 1] W fun e w' => e = .returned (.bool (hasB (g.M b a) 1)) ∧ w' = W := fun W => thas_any (g.M b a) 1 (by omega) (by decide) W
  have HL : Hid (passL g R T b a vt = if hasB (g.M a b) 1 = true then [⟨0, a, b, T, R⟩] else if hasB (g.M b a) 2 = true then [⟨1, b, a, T, R⟩] else [⟨2, a, 0, 0, 0⟩, (if hasB (g.M b a) 1 = true then ⟨0, b, a, vt, 2⟩ else ⟨1, a, b, vt, 2⟩), ⟨1, b, vt, T, R⟩, ⟨0, a, vt, T, R⟩]) := rfl
  have HN : Hid (passN g b a = if hasB (g.M a b) 1 = true then 0 else if hasB (g.M b a) 2 = true then 0 else 1) := rfl
  have GR := Hid.mkI gr
  obtain ⟨x1, hx1⟩ : ∃ x, g.M a b = x := ⟨_, rfl⟩
  obtain ⟨x2, hx2⟩ : ∃ x, g.M b a = x := ⟨_, rfl⟩
  have HX2 : Hid (g.M b a = x2) := hx2
  rw [hx1] at a2 m1 u1 HL HN
  rw [hx2] at a4 m2 u2 u3 HL HN
  clear hx1 hx2 gr hG
  cases q1 : hasB x1 1 with
  | true =>
    rw [q1] at u1 HL HN
    have t := pTake_any h (by omega) a b T R
    have HL : Hid (passL g R T b a vt = [⟨0, a, b, T, R⟩]) := HL.out
    have HN : Hid (passN g b a = 0) := HN.out
    clear h q1 u2 u3
    go_enter Tryd.func52, Tryd.ntmps52
    go_wp2_with (first | (go_at_call 67; (with_reducible refine (u1 _).mono ?_); clear u1; rintro e w' ⟨rfl, hw⟩; obtain rfl := hw.symm) | (go_at_call 68; (with_reducible refine t.mono ?_); clear t; rintro e w1 ⟨⟨u, rfl⟩, ⟨v1, h1⟩, hB1⟩))
    go_end0
    exact ⟨⟨_, rfl⟩, ⟨v1, by rw [HL.out, HN.out]; exact h1⟩, hB1⟩
  | false =>
    rw [q1] at u1 HL HN
    cases q2 : hasB x2 2 with
    | true =>
      rw [q2] at u2 HL HN
      have t := pGrant_any h (by omega) b a T R
      have HL : Hid (passL g R T b a vt = [⟨1, b, a, T, R⟩]) := HL.out
      have HN : Hid (passN g b a = 0) := HN.out
      clear h q1 q2 u3
      go_enter Tryd.func52, Tryd.ntmps52
      go_wp2_with (first | (go_at_call 67; (with_reducible refine (u1 _).mono ?_); clear u1; rintro e w' ⟨rfl, hw⟩; obtain rfl := hw.symm) | (go_at_call 67; (with_reducible refine (u2 _).mono ?_); clear u2; rintro e w' ⟨rfl, hw⟩; obtain rfl := hw.symm) | (go_at_call 69; (with_reducible refine t.mono ?_); clear t; rintro e w1 ⟨⟨u, rfl⟩, ⟨v1, h1⟩, hB1⟩))
      go_end0
      exact ⟨⟨_, rfl⟩, ⟨v1, by rw [HL.out, HN.out]; exact h1⟩, hB1⟩
    | false =>
      rw [q2] at u2 HL HN
      have t := pCreate_any h (by omega) (by omega) (a : Int)
      have t4 := fun w1 v1 (s : Stp) (h1 : Plnr X w1 (.slice (some ⟨b0, off, none⟩) g.n cp) (l ++ [⟨2, a, 0, 0, 0⟩] ++ [s]) (vt + 1) v1) => passBy_any h1 (by simp; omega) (vt : Int) R T b a
      have HN : Hid (passN g b a = 1) := HN.out
      cases q3 : hasB x2 1 with
      | true =>
        rw [q3] at u3 HL
        have t3 := fun w1 v1 (h1 : Plnr X w1 (.slice (some ⟨b0, off, none⟩) g.n cp) (l ++ [⟨2, a, 0, 0, 0⟩]) (vt + 1) v1) => pTake_any h1 (by simp; omega) b a vt 2
        have HL : Hid (passL g R T b a vt = [⟨2, a, 0, 0, 0⟩, ⟨0, b, a, vt, 2⟩, ⟨1, b, vt, T, R⟩, ⟨0, a, vt, T, R⟩]) := HL.out
        clear h q1 q2 q3
        go_enter Tryd.func52, Tryd.ntmps52
        go_wp2_with (first | (go_at_call 67; (with_reducible refine (u1 _).mono ?_); clear u1; rintro e w' ⟨rfl, hw⟩; obtain rfl := hw.symm) | (go_at_call 67; (with_reducible refine (u2 _).mono ?_); clear u2; rintro e w' ⟨rfl, hw⟩; obtain rfl := hw.symm) | (go_at_call 70; (with_reducible refine t.mono ?_); clear t; rintro e w1 ⟨rfl, ⟨v1, h1⟩, hB1⟩; have hGb := GR.out w1 (hB0.trans hB1); have d1 := hGb.top b hb; have d2 := hGb.cell b a hb ha; have d0 := h1.c0; rw [HX2.out] at d2; have t3 := t3 w1 v1 h1; clear h1 hGb a1 a2 a3 a4 c0) | (go_at_call 67; (with_reducible refine (u3 _).mono ?_); clear u3; rintro e w' ⟨rfl, hw⟩; obtain rfl := hw.symm) | (go_at_call 68; (with_reducible refine t3.mono ?_); clear t3; rintro e w2 ⟨⟨u, rfl⟩, ⟨v2, h2⟩, hB2⟩; have t4 := t4 w2 v2 _ h2; clear h2) | (go_at_call 71; (with_reducible refine t4.mono ?_); clear t4; rintro e w3 ⟨⟨u3, rfl⟩, ⟨v3, h3⟩, hB3⟩))
        go_end0
        refine ⟨⟨_, rfl⟩, ⟨v3, ?_⟩, (hB1.trans hB2).trans hB3⟩
        rw [HL.out, HN.out]
        simpa [List.append_assoc] using h3
      | false =>
        rw [q3] at u3 HL
        have t3 := fun w1 v1 (h1 : Plnr X w1 (.slice (some ⟨b0, off, none⟩) g.n cp) (l ++ [⟨2, a, 0, 0, 0⟩]) (vt + 1) v1) => pGrant_any h1 (by simp; omega) a b vt 2
        have HL : Hid (passL g R T b a vt = [⟨2, a, 0, 0, 0⟩, ⟨1, a, b, vt, 2⟩, ⟨1, b, vt, T, R⟩, ⟨0, a, vt, T, R⟩]) := HL.out
        clear h q1 q2 q3
        go_enter Tryd.func52, Tryd.ntmps52
        go_wp2_with (first | (go_at_call 67; (with_reducible refine (u1 _).mono ?_); clear u1; rintro e w' ⟨rfl, hw⟩; obtain rfl := hw.symm) | (go_at_call 67; (with_reducible refine (u2 _).mono ?_); clear u2; rintro e w' ⟨rfl, hw⟩; obtain rfl := hw.symm) | (go_at_call 70; (with_reducible refine t.mono ?_); clear t; rintro e w1 ⟨rfl, ⟨v1, h1⟩, hB1⟩; have hGb := GR.out w1 (hB0.trans hB1); have d1 := hGb.top b hb; have d2 := hGb.cell b a hb ha; have d0 := h1.c0; rw [HX2.out] at d2; have t3 := t3 w1 v1 h1; clear h1 hGb a1 a2 a3 a4 c0) | (go_at_call 67; (with_reducible refine (u3 _).mono ?_); clear u3; rintro e w' ⟨rfl, hw⟩; obtain rfl := hw.symm) | (go_at_call 69; (with_reducible refine t3.mono ?_); clear t3; rintro e w2 ⟨⟨u, rfl⟩, ⟨v2, h2⟩, hB2⟩; have t4 := t4 w2 v2 _ h2; clear h2) | (go_at_call 71; (with_reducible refine t4.mono ?_); clear t4; rintro e w3 ⟨⟨u3, rfl⟩, ⟨v3, h3⟩, hB3⟩))
        go_end0
        refine ⟨⟨_, rfl⟩, ⟨v3, ?_⟩, (hB1.trans hB2).trans hB3⟩
        rw [HL.out, HN.out]
        simpa [List.append_assoc] using h3
set_option maxHeartbeats 2000000 in
theorem passRound_any (h : Plnr X w (.slice (some ⟨b0, off, none⟩) g.n cp) l vt v) (hG0 : GrAt w0 b0 off B O C g) (ok : g.Ok) (hX : w0.heap.size ≤ X) (hB0 : Below X w0 w) (hl : l.length < 20000000) (hvt : vt < 20000000) (r over b a : Nat) (ho : over < g.n) (hb : b < g.n) (ha : a < g.n) :
    Calls Tryd.prog 53 #[.pointer (some ⟨X, 0, none⟩), .int .i64 r, .int .i64 over, .int .i64 b, .int .i64 a] w (PlIs X w (.slice (some ⟨b0, off, none⟩) g.n cp) (l ++ roundL g r over b a vt) (vt + roundN g over b a)) := by
  have t1 := pCreate_any h (by omega) (by omega) (over : Int)
  have p1 := passL_len g 3 vt over a (vt + 1)
  have p2 := passL_len g 3 vt over b (vt + 1 + passN g over a)
  have n1 := passN_le g over a
  have t2 := fun w1 v1 (h1 : Plnr X w1 (.slice (some ⟨b0, off, none⟩) g.n cp) (l ++ [⟨2, over, 0, 0, 0⟩]) (vt + 1) v1) (k : Below X w0 w1) => pass_any h1 hG0 ok hX k (by simp; omega) (by omega) 3 vt over a ho ha
  have t3 := fun w1 v1 (h1 : Plnr X w1 (.slice (some ⟨b0, off, none⟩) g.n cp) (l ++ [⟨2, over, 0, 0, 0⟩] ++ passL g 3 vt over a (vt + 1)) (vt + 1 + passN g over a) v1) (k : Below X w0 w1) => pass_any h1 hG0 ok hX k (by simp; omega) (by omega) 3 vt over b ho hb
  have t4 := fun w1 v1 (h1 : Plnr X w1 (.slice (some ⟨b0, off, none⟩) g.n cp) (l ++ [⟨2, over, 0, 0, 0⟩] ++ passL g 3 vt over a (vt + 1) ++ passL g 3 vt over b (vt + 1 + passN g over a)) (vt + 1 + passN g over a + passN g over b) v1) => passBy_any h1 (by simp; omega) (vt : Int) r over b a
  clear h
  go_enter Tryd.func53, Tryd.ntmps53
  go_wp2_with fail
  refine t1.mono ?_
  clear t1
  rintro e w1 ⟨rfl, ⟨v1, h1⟩, hB1⟩
  have t2 := t2 w1 v1 h1 (hB0.trans hB1)
  clear h1
  go_wp2_with fail
  refine t2.mono ?_
  clear t2
  rintro e w2 ⟨⟨u2, rfl⟩, ⟨v2, h2⟩, hB2⟩
  have hB2 := hB1.trans hB2
  have t3 := t3 w2 v2 h2 (hB0.trans hB2)
  clear h2
  go_wp2_with fail
  refine t3.mono ?_
  clear t3
  rintro e w3 ⟨⟨u3, rfl⟩, ⟨v3, h3⟩, hB3⟩
  have hB3 := hB2.trans hB3
  have t4 := t4 w3 v3 h3
  clear h3
  go_wp2_with fail
  refine t4.mono ?_
  clear t4
  rintro e w4 ⟨⟨u4, rfl⟩, ⟨v4, h4⟩, hB4⟩
  have h4 : Plnr X w4 (.slice (some ⟨b0, off, none⟩) g.n cp) (l ++ roundL g r over b a vt) (vt + roundN g over b a) v4 := by
    have e1 : l ++ roundL g r over b a vt = l ++ [⟨2, over, 0, 0, 0⟩] ++ passL g 3 vt over a (vt + 1) ++ passL g 3 vt over b (vt + 1 + passN g over a) ++ [⟨1, b, vt, over, r⟩, ⟨0, a, vt, over, r⟩] := by simp [roundL, List.append_assoc]
    have e2 : vt + roundN g over b a = vt + 1 + passN g over a + passN g over b := by unfold roundN; omega
    rw [e1, e2]; exact h4
  have HH := Hid.mkI h4
  clear h4
  go_wp2_with fail
  go_end0
  exact ⟨⟨_, rfl⟩, ⟨v4, HH.out⟩, hB3.trans hB4⟩
end
end Go.Proofs.YtdmdoikkemfcaaaDoor
