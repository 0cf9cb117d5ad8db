/- The program's deeds: what each does with the variables and the fuel. -/
import Derived.WalkKit
import Derived.LoopTactic
import Derived.OwnWalk
import Derived.Deep.LoopGhost
import Derived.Deep.RegionHeld3
import Derived.Deep.QuietTactic
import Derived.Test.YtioimgeeamchaaaDoorRunJ
namespace Go.Proofs.YtioimgeeamchaaaDoor
open Go.RowKit
set_option maxRecDepth 100000
set_option linter.unusedVariables false

/-- What lies in memory behind a deed. -/
structure DeedT (w0 : World) (X V cV : Nat) (pv : Value) (w : World) (R : Rn) (w' : World) : Prop where
  ap : Apart X V w w'
  st : ∀ r, R = some r → Rnr w0 X V cV pv r.1 r.2 w'
/-- How a deed ends. -/
def DeedV (w0 : World) (X V cV : Nat) (pv : Value) (w : World) (R : Rn) (e : Ending) (w' : World) : Prop :=
  e = .returned (.bool R.isSome) ∧ DeedT w0 X V cV pv w R w'
theorem deedV_some {w0 : World} {X V cV : Nat} {pv : Value} {w : World} {r : (Nat → Int) × Nat} {e : Ending} {w' : World} (h : DeedV w0 X V cV pv w (some r) e w') : e = .returned (.bool true) ∧ Rnr w0 X V cV pv r.1 r.2 w' ∧ Apart X V w w' := ⟨h.1, h.2.st r rfl, h.2.ap⟩
theorem deedV_none {w0 : World} {X V cV : Nat} {pv : Value} {w : World} {e : Ending} {w' : World} (h : DeedV w0 X V cV pv w none e w') : e = .returned (.bool false) ∧ Apart X V w w' := ⟨h.1, h.2.ap⟩
theorem deedV_of {w0 : World} {X V cV : Nat} {pv : Value} {w : World} {r : (Nat → Int) × Nat} {w' : World} (h : Rnr w0 X V cV pv r.1 r.2 w') (k : Apart X V w w') : DeedV w0 X V cV pv w (some r) (.returned (.bool true)) w' := ⟨rfl, k, fun q e => by cases e; exact h⟩
theorem deedV_no {w0 : World} {X V cV : Nat} {pv : Value} {w w' : World} (k : Apart X V w w') : DeedV w0 X V cV pv w none (.returned (.bool false)) w' := ⟨rfl, k, fun q e => by cases e⟩
theorem DeedT.behind {w0 : World} {X V cV : Nat} {pv : Value} {w w1 w' : World} {R : Rn} (h : DeedT w0 X V cV pv w1 R w') (k : Apart X V w w1) : DeedT w0 X V cV pv w R w' := ⟨k.trans h.ap, h.st⟩
abbrev ValC (w0 : World) (X V cV : Nat) (pv : Value) (l : List Nod) (i : Nat) : Prop := ∀ (s : Nat → Int) (f : Nat) (w : World), Bnd6 s → Rnr w0 X V cV pv s f w →
  Calls Tryd.prog 51 #[rnP X, .int .i64 (i : Int)] w fun e w' => e = .returned (.int .i64 (vl l i s)) ∧ Below w.heap.size w w'
abbrev DeedC (w0 : World) (X V cV : Nat) (pv : Value) (l : List Nod) (i : Nat) : Prop := ∀ (s : Nat → Int) (f : Nat) (w : World), Bnd6 s → f ≤ 5000 → Rnr w0 X V cV pv s f w →
  Calls Tryd.prog 37 #[rnP X, .int .i64 (i : Int)] w fun e w' => DeedV w0 X V cV pv w (ex l i s f) e w'
theorem ex_le {l : List Nod} {i f : Nat} {s : Nat → Int} {r : (Nat → Int) × Nat} (h : ex l i s f = some r) : r.2 ≤ f := exN_le _ _ _ _ _ h
theorem ex_bnd {l : List Nod} (hG : Good l) {i f : Nat} {s : Nat → Int} {r : (Nat → Int) × Nat} (hi : i < l.length) (h5 : 5 ≤ (nthD l i).kd) (hs : Bnd6 s) (h : ex l i s f = some r) : Bnd6 r.1 := exN_bnd hG _ _ hi h5 _ _ _ hs h
theorem vl_bnd {l : List Nod} (hG : Good l) {i : Nat} (hi : i < l.length) {s : Nat → Int} (hs : Bnd6 s) : 0 ≤ vl l i s ∧ vl l i s ≤ 999999 := vlE_bnd hG.r hs (i + 1) i hi
/-- The cells of a node's place of its own. -/
structure Nod5 (W : World) (Y : Nat) (kd num pa pb pc : Int) : Prop where
  c0 : W.cell? ⟨Y, 0, none⟩ = some (.int .i64 kd)
  c1 : W.cell? ⟨Y, 1, none⟩ = some (.int .i64 num)
  c2 : W.cell? ⟨Y, 2, none⟩ = some (.int .i64 pa)
  c3 : W.cell? ⟨Y, 3, none⟩ = some (.int .i64 pb)
  c4 : W.cell? ⟨Y, 4, none⟩ = some (.int .i64 pc)
theorem nod5_new (w : World) (kd num pa pb pc : Int) : Nod5 (w.alloc (.cells #[.int .i64 kd, .int .i64 num, .int .i64 pa, .int .i64 pb, .int .i64 pc] 47)) w.heap.size kd num pa pb pc := by
  have hc := fun j u h => by
    have := cell_five_new w ⟨kd, num, pa, pb, pc⟩ 47 j u h
    rw [Go.WideShapes.add_plain, Nat.zero_add] at this
    exact this
  exact ⟨hc 0 _ rfl, hc 1 _ rfl, hc 2 _ rfl, hc 3 _ rfl, hc 4 _ rfl⟩
theorem Nod5.below {W W' : World} {Y : Nat} {kd num pa pb pc : Int} (h : Nod5 W Y kd num pa pb pc) (k : Below W.heap.size W W') : Nod5 W' Y kd num pa pb pc :=
  ⟨keep_cell k h.c0, keep_cell k h.c1, keep_cell k h.c2, keep_cell k h.c3, keep_cell k h.c4⟩
theorem Nod5.apart {X V : Nat} {W W' : World} {Y : Nat} {kd num pa pb pc : Int} (h : Nod5 W Y kd num pa pb pc) (k : Apart X V W W') (hx : Y ≠ X) (hv : Y ≠ V) : Nod5 W' Y kd num pa pb pc :=
  ⟨k.cell h.c0 hx hv, k.cell h.c1 hx hv, k.cell h.c2 hx hv, k.cell h.c3 hx hv, k.cell h.c4 hx hv⟩

set_option maxHeartbeats 4000000 in
theorem chosen_any {l : List Nod} {w0 : World} {X V cV f : Nat} {pv : Value} {s : Nat → Int} {A D C : Nat} {num : Int} (hs : Bnd6 s) (tV : ValC w0 X V cV pv l A) (w : World) (h : Rnr w0 X V cV pv s f w) :
    Calls Tryd.prog 52 #[rnP X, .agg #[.int .i64 8, .int .i64 num, .int .i64 (A : Int), .int .i64 (D : Int), .int .i64 (C : Int)]] w fun e w' => e = .returned (.int .i64 ((if vl l A s ≠ 0 then D else C : Nat) : Int)) ∧ Below w.heap.size w w' := by
  have N := nod5_new w 8 num A D C
  have hB : Below w.heap.size w (w.alloc (.cells #[.int .i64 8, .int .i64 num, .int .i64 (A : Int), .int .i64 (D : Int), .int .i64 (C : Int)] 47)) := (Below.refl _ w).alloc (Nat.le_refl _) _
  have h1 := h.below hB
  obtain ⟨wx, hwx⟩ : ∃ W, w.alloc (.cells #[.int .i64 8, .int .i64 num, .int .i64 (A : Int), .int .i64 (D : Int), .int .i64 (C : Int)] 47) = W := ⟨_, rfl⟩
  rw [hwx] at N hB h1
  have t := tV s f wx hs h1
  have d2 := N.c2
  have d3 := N.c3
  have d4 := N.c4
  clear tV h N h1
  by_cases hc : vl l A s = 0
  · rw [if_neg (by simpa using hc)]
    rw [hc] at t
    clear hc
    go_enter Tryd.func52, Tryd.ntmps52
    go_wp2_with (go_at_call 51; (with_reducible refine t.mono ?_); clear t; rintro e w1 ⟨rfl, hB1⟩; have hB2 := hB.trans (hB1.mono hB.size); have d3 := keep_cell hB1 d3; have d4 := keep_cell hB1 d4)
    go_ret
    exact ⟨rfl, hB2⟩
  · rw [if_pos hc]
    obtain ⟨y, hy⟩ : ∃ y, vl l A s = y := ⟨_, rfl⟩
    rw [hy] at t hc
    have hcI : (y != 0) = true := by simpa using hc
    have hcI2 : (y == 0) = false := by simpa using hc
    clear hy hc
    go_enter Tryd.func52, Tryd.ntmps52
    go_wp2_with (go_at_call 51; (with_reducible refine t.mono ?_); clear t; rintro e w1 ⟨rfl, hB1⟩; have hB2 := hB.trans (hB1.mono hB.size); have d3 := keep_cell hB1 d3; have d4 := keep_cell hB1 d4)
    go_ret
    exact ⟨rfl, hB2⟩
set_option maxHeartbeats 4000000 in
theorem loop_any {l : List Nod} (hG : Good l) {w0 : World} {X V cV i A D : Nat} {pv : Value} {num pc : Int} (hi : i < l.length) (h9 : (nthD l i).kd = 9) (hA : (nthD l i).pa = (A : Int)) (hD : (nthD l i).pb = (D : Int)) (tV : ValC w0 X V cV pv l A) (tD : DeedC w0 X V cV pv l D) (s0 : Nat → Int) (f0 : Nat) (hs0 : Bnd6 s0) (hf0 : f0 ≤ 5000) (w : World) (h : Rnr w0 X V cV pv s0 f0 w) :
    Calls Tryd.prog 53 #[rnP X, .agg #[.int .i64 9, .int .i64 num, .int .i64 (A : Int), .int .i64 (D : Int), .int .i64 pc]] w fun e w' => DeedV w0 X V cV pv w (ex l i s0 f0) e w' := by
  have N := nod5_new w 9 num A D pc
  have hB : Below w.heap.size w (w.alloc (.cells #[.int .i64 9, .int .i64 num, .int .i64 (A : Int), .int .i64 (D : Int), .int .i64 pc] 47)) := (Below.refl _ w).alloc (Nat.le_refl _) _
  have h1 := h.below hB
  have hYX : w.heap.size ≠ X := by have := h.hi; omega
  have hYV : w.heap.size ≠ V := by have := h.vlt.2; omega
  have hAp : Apart X V w (w.alloc (.cells #[.int .i64 9, .int .i64 num, .int .i64 (A : Int), .int .i64 (D : Int), .int .i64 pc] 47)) := Apart.ofBelow hB
  obtain ⟨wx, hwx⟩ : ∃ W, w.alloc (.cells #[.int .i64 9, .int .i64 num, .int .i64 (A : Int), .int .i64 (D : Int), .int .i64 pc] 47) = W := ⟨_, rfl⟩
  rw [hwx] at N hB h1 hAp
  obtain ⟨-, hDi, hDk⟩ := hG.whl hi h9
  rw [hD, Int.toNat_natCast] at hDi hDk
  obtain ⟨R, hR⟩ : ∃ R, ex l i s0 f0 = R := ⟨_, rfl⟩
  rw [hR]
  have hout : ex l i s0 0 = none := ex_out (by omega) (by omega)
  have HOut : Hid (∀ s, ex l i s 0 = none) := fun s => ex_out (by omega) (by omega)
  have HStop : Hid (∀ s f, vl l A s = 0 → ex l i s (f + 1) = some (s, f)) := fun s f hv => ex_stop h9 (by rw [hA, Int.toNat_natCast]; exact hv)
  have HRound : Hid (∀ s f, vl l A s ≠ 0 → ex l i s (f + 1) = (ex l D s f).bind fun r => ex l i r.1 r.2) := fun s f hv => by
    have := ex_round hG hi h9 (s := s) (f := f) (by rw [hA, Int.toNat_natCast]; exact hv)
    rw [hD, Int.toNat_natCast] at this
    exact this
  have HV := Hid.mkI tV
  have HD := Hid.mkI tD
  have HG := Hid.mkI hG
  have HR := Hid.mkI hR
  have HDl : Hid (D < l.length) := by show _ < _; omega
  have HDk := Hid.mkI hDk
  clear tV tD hR h hout hG hi h9 hA hD hDi hDk hB
  go_enter Tryd.func53, Tryd.ntmps53
  go_wp2
  go_loopg [] f0 (fun g wr => ∃ (s : Nat → Int) (f : Nat), g = f ∧ f ≤ 5000 ∧ Hid (Bnd6 s) ∧ Hid (ex l i s f = R) ∧ Hid (Rnr w0 X V cV pv s f wr) ∧ Hid (Apart X V w wr) ∧ Hid (Nod5 wr w.heap.size 9 num A D pc))
  case atStart => exact ⟨s0, f0, rfl, hf0, hs0, HR.out, h1, hAp, N⟩
  case round =>
    clear h1 hAp N HR
    obtain ⟨s, f, hgf, hf, HS, HR, H, HAp, HN⟩ := hrel
    obtain rfl := hgf.symm
    cases f with
    | zero =>
      have tB := burn_no wr H.out
      have hE : DeedV w0 X V cV pv w R (.returned (.bool false)) wr := by
        rw [← HR.out, HOut.out s]
        exact deedV_no HAp.out
      clear HR HOut HStop HRound HV HD HG HS HN H HAp
      go_wp2_with (go_at_call 50; (with_reducible refine tB.mono ?_); clear tB; rintro e w1 ⟨rfl, hw⟩; obtain rfl := hw.symm)
      go_ret
      exact hE
    | succ f =>
      have tB := burn_yes hf wr H.out
      have d2 := HN.out.c2
      by_cases hv : vl l A s = 0
      · have HR2 : Hid (R = some (s, f)) := by show R = _; rw [← HR.out, HStop.out s f hv]
        have tV := fun w' h => HV.out s f w' HS.out h
        rw [hv] at tV
        clear HR HOut HStop HRound HV HD HG HS hv
        go_wp2_with (first | (go_at_call 50; (with_reducible refine tB.mono ?_); clear tB; rintro e w1 ⟨rfl, H1, A1⟩; have H1 := Hid.mkI H1; have A1 := Hid.mkI A1; have N1 := Hid.mkI (HN.out.apart A1.out hYX hYV); have d2 := N1.out.c2) | (go_at_call 51; (with_reducible refine (tV _ H1.out).mono ?_); clear tV; rintro e w2 ⟨rfl, hB2⟩; have H2 := Hid.mkI (H1.out.below hB2); have A2 := Hid.mkI ((HAp.out.trans A1.out).trans (Apart.ofBelow hB2))))
        go_ret
        rw [HR2.out]
        exact deedV_of H2.out A2.out
      · have hR2 : R = (ex l D s f).bind fun r => ex l i r.1 r.2 := by rw [← HR.out, HRound.out s f hv]
        have tV := fun w' h => HV.out s f w' HS.out h
        obtain ⟨y, hy⟩ : ∃ y, vl l A s = y := ⟨_, rfl⟩
        rw [hy] at tV hv
        have g1 : (y == 0) = false := by simpa using hv
        have tD := fun w' h => HD.out s f w' HS.out (by omega) h
        have hle := fun r (h : ex l D s f = some r) => ex_le h
        have hbd := fun r (h : ex l D s f = some r) => ex_bnd HG.out HDl.out HDk.out HS.out h
        cases hX : ex l D s f with
        | none =>
          rw [hX] at tD hR2
          have HR2 : Hid (R = none) := hR2
          have tD : ∀ w', Rnr w0 X V cV pv s f w' → Calls Tryd.prog 37 #[rnP X, .int .i64 (D : Int)] w' fun e w'' => e = .returned (.bool false) ∧ Apart X V w' w'' := fun w' h => (tD w' h).mono fun e w'' h => deedV_none h
          clear HR HOut HStop HRound HV HD HG HS hv hy hX hle hbd hR2
          go_wp2_with (first | (go_at_call 50; (with_reducible refine tB.mono ?_); clear tB; rintro e w1 ⟨rfl, H1, A1⟩; have H1 := Hid.mkI H1; have A1 := Hid.mkI A1; have N1 := Hid.mkI (HN.out.apart A1.out hYX hYV); have d2 := N1.out.c2) | (go_at_call 51; (with_reducible refine (tV _ H1.out).mono ?_); clear tV; rintro e w2 ⟨rfl, hB2⟩; have H2 := Hid.mkI (H1.out.below hB2); have A2 := Hid.mkI ((HAp.out.trans A1.out).trans (Apart.ofBelow hB2)); have N2 := Hid.mkI (N1.out.below hB2); have d3 := N2.out.c3) | (go_at_call 37; (with_reducible refine (tD _ H2.out).mono ?_); clear tD; rintro e w3 ⟨rfl, A3⟩; have A3 := Hid.mkI A3))
          go_ret
          rw [HR2.out]
          exact deedV_no (A2.out.trans A3.out)
        | some r =>
          have hl1 := hle r hX
          have hb1 : Hid (Bnd6 r.1) := hbd r hX
          rw [hX] at tD hR2
          have HR2 : Hid (ex l i r.1 r.2 = R) := hR2.symm
          have tD : ∀ w', Rnr w0 X V cV pv s f w' → Calls Tryd.prog 37 #[rnP X, .int .i64 (D : Int)] w' fun e w'' => e = .returned (.bool true) ∧ Rnr w0 X V cV pv r.1 r.2 w'' ∧ Apart X V w' w'' := fun w' h => (tD w' h).mono fun e w'' h => deedV_some h
          clear HR HOut HStop HRound HV HD HG HS hv hy hX hle hbd hR2
          go_wp2_with (first | (go_at_call 50; (with_reducible refine tB.mono ?_); clear tB; rintro e w1 ⟨rfl, H1, A1⟩; have H1 := Hid.mkI H1; have A1 := Hid.mkI A1; have N1 := Hid.mkI (HN.out.apart A1.out hYX hYV); have d2 := N1.out.c2) | (go_at_call 51; (with_reducible refine (tV _ H1.out).mono ?_); clear tV; rintro e w2 ⟨rfl, hB2⟩; have H2 := Hid.mkI (H1.out.below hB2); have A2 := Hid.mkI ((HAp.out.trans A1.out).trans (Apart.ofBelow hB2)); have N2 := Hid.mkI (N1.out.below hB2); have d3 := N2.out.c3) | (go_at_call 37; (with_reducible refine (tD _ H2.out).mono ?_); clear tD; rintro e w3 ⟨rfl, H3, A3⟩; have H3 := Hid.mkI H3; have N3 := Hid.mkI (N2.out.apart A3 hYX hYV); have A3 := Hid.mkI (A2.out.trans A3)))
          go_roundg r.2
          case measure => omega
          case rel => exact ⟨r.1, r.2, rfl, by omega, hb1, HR2, H3, A3, N3⟩
theorem deed_start {w0 w : World} {X V cV f n cp i : Nat} {a : Option Addr} {s : Nat → Int} {S : Nat → Nod} (hat : AtNods w0 a n S) (h : Rnr w0 X V cV (.slice a n cp) s f w) (hi : i < n) {kd num pa pb pc : Int} (hx : S i = ⟨kd, num, pa, pb, pc⟩) :
    ∃ b off wx, a = some ⟨b, off, none⟩ ∧ b < w.heap.size ∧ w.cell? ⟨b, off + i * 5, none⟩ = some (.int .i64 kd) ∧ w.cell? ⟨b, off + i * 5 + 1, none⟩ = some (.int .i64 num) ∧ w.cell? ⟨b, off + i * 5 + 2, none⟩ = some (.int .i64 pa) ∧ w.cell? ⟨b, off + i * 5 + 3, none⟩ = some (.int .i64 pb) ∧ w.cell? ⟨b, off + i * 5 + 4, none⟩ = some (.int .i64 pc) ∧ w.cell? ⟨X, 0, none⟩ = some (.slice (some ⟨b, off, none⟩) n cp) ∧
      w.alloc (.cells #[.int .i64 kd, .int .i64 num, .int .i64 pa, .int .i64 pb, .int .i64 pc] 47) = wx ∧ Nod5 wx w.heap.size kd num pa pb pc ∧ Rnr w0 X V cV (.slice (some ⟨b, off, none⟩) n cp) s f wx ∧ Apart X V w wx ∧ w.heap.size ≠ X ∧ w.heap.size ≠ V := by
  obtain ⟨b, off, rfl, hb, z0, z1, z2, z3, z4⟩ := nods_cells (hat.below h.bel) hi hx
  have hB : Below w.heap.size w (w.alloc (.cells #[.int .i64 kd, .int .i64 num, .int .i64 pa, .int .i64 pb, .int .i64 pc] 47)) := (Below.refl _ w).alloc (Nat.le_refl _) _
  have := h.hi
  have := h.vlt.2
  exact ⟨b, off, _, rfl, hb, z0, z1, z2, z3, z4, h.c0, rfl, nod5_new w kd num pa pb pc, h.below hB, Apart.ofBelow hB, by omega, by omega⟩
section
variable {l : List Nod} {w0 : World} {X V cV cp i : Nat} {a : Option Addr}
theorem deed_skip (hat : AtNods w0 a l.length (nthD l)) (hi : i < l.length) (h80 : l.length ≤ 80) (hk : (nthD l i).kd = 5) : DeedC w0 X V cV (.slice a l.length cp) l i := by
  intro s f w hs hf h
  rw [ex_skip hk]
  obtain ⟨x, hx⟩ : ∃ x, nthD l i = x := ⟨_, rfl⟩
  rw [hx] at hk
  obtain ⟨kd, num, pa, pb, pc⟩ := x
  simp only at hk
  subst hk
  obtain ⟨b, off, wx, rfl, hb, z0, z1, z2, z3, z4, p0, hwx, N, H, A, -, -⟩ := deed_start hat h hi hx
  have hE := deedV_of (r := (s, f)) H A
  have hnI : (l.length : Int) ≤ 80 := by omega
  have hiI : (i : Int) < (l.length : Int) := by omega
  have d0 := N.c0
  obtain ⟨n, hn⟩ : ∃ n, l.length = n := ⟨_, rfl⟩
  rw [hn] at hnI hiI p0 hE
  rw [hn]
  clear N H A h hat hi h80 hx hn hs hf
  go_enter Tryd.func37, Tryd.ntmps37
  go_wp2
  go_ret
  exact hE
set_option maxHeartbeats 2000000 in
theorem deed_set (hG : Good l) (hat : AtNods w0 a l.length (nthD l)) (hi : i < l.length) (hk : (nthD l i).kd = 6) (tV : ∀ j, j < i → (nthD l j).kd < 5 → ValC w0 X V cV (.slice a l.length cp) l j) : DeedC w0 X V cV (.slice a l.length cp) l i := by
  intro s f w hs hf h
  obtain ⟨A, k, eA, ek, hA, hk6, kA⟩ := hG.setN hi hk
  have h80 := hG.r.few
  have hout : ex l i s 0 = none := ex_out (by omega) (by omega)
  have hset : ∀ f, ex l i s (f + 1) = some (upv s k (vl l A s), f) := fun f => by rw [ex_set hk, ek, eA]; rfl
  have tV := tV A hA kA
  obtain ⟨x, hx⟩ : ∃ x, nthD l i = x := ⟨_, rfl⟩
  rw [hx] at hk ek eA
  obtain ⟨kd, num, pa, pb, pc⟩ := x
  simp only at hk ek eA
  subst hk ek eA
  obtain ⟨b, off, wx, rfl, hb, z0, z1, z2, z3, z4, p0, hwx, N, H, Ap, yX, yV⟩ := deed_start hat h hi hx
  have hnI : (l.length : Int) ≤ 80 := by omega
  have hiI : (i : Int) < (l.length : Int) := by omega
  have hkI : (k : Int) < 6 := by omega
  have d0 := N.c0
  cases f with
  | zero =>
    have tB := burn_no wx H
    have hE : DeedV w0 X V cV (.slice (some ⟨b, off, none⟩) l.length cp) w (ex l i s 0) (.returned (.bool false)) wx := by rw [hout]; exact deedV_no Ap
    obtain ⟨n, hn⟩ : ∃ n, l.length = n := ⟨_, rfl⟩
    rw [hn] at hnI hiI p0 hE
    rw [hn]
    clear N H Ap h hat hi h80 hx hn hs hf tV hset hout hG
    go_enter Tryd.func37, Tryd.ntmps37
    go_wp2_with (go_at_call 50; (with_reducible refine tB.mono ?_); clear tB; rintro e w1 ⟨rfl, hw⟩; obtain rfl := hw.symm)
    go_ret
    exact hE
  | succ f =>
    have tB := burn_yes hf wx H
    have tV := fun w' h => tV s f w' hs h
    rw [hset f]
    obtain ⟨y, hy⟩ : ∃ y, vl l A s = y := ⟨_, rfl⟩
    rw [hy] at tV ⊢
    obtain ⟨n, hn⟩ : ∃ n, l.length = n := ⟨_, rfl⟩
    rw [hn] at hnI hiI p0 tB tV
    rw [hn]
    have N := Hid.mkI N
    have Ap := Hid.mkI Ap
    clear H h hat hi h80 hx hn hs hf hset hout hG hy
    go_enter Tryd.func37, Tryd.ntmps37
    go_wp2_with (go_at_call 50; (with_reducible refine tB.mono ?_); clear tB; rintro e w1 ⟨rfl, H1, A1⟩; have H1 := Hid.mkI H1; have N1 := Hid.mkI (N.out.apart A1 yX yV); have A1 := Hid.mkI (Ap.out.trans A1); have d1 := N1.out.c1; have d2 := N1.out.c2; have p1 := H1.out.c1)
    have hV := H1.out.ne
    have hvl := H1.out.vlt.2
    have tV := tV w1.drew (H1.out.below ((Below.refl _ w1).drew))
    first | (go_region_held3 (fun w' => w'.cell? ⟨X, 1, none⟩ = some (.slice (some ⟨V, 0, none⟩) 6 cV) ∧ w'.cell? ⟨w.heap.size, 1, none⟩ = some (.int .i64 (k : Int)) ∧ w'.cell? ⟨w.heap.size, 2, none⟩ = some (.int .i64 (A : Int))) (first | ((try dsimp only); (repeat' apply And.intro) <;> go_keep; done) | (go_split_ands; refine ⟨?_, ?_, ?_⟩ <;> first | (exact keep_cell hB2 (by assumption)) | (exact (cell_far (by omega)).trans (by assumption)))) ((go_at_call 51; (with_reducible refine tV.mono ?_); clear tV; rintro e w2 ⟨rfl, hB2⟩; have H2 := Hid.mkI ((H1.out.below ((Below.refl _ w1).drew)).below hB2); have A2 := Hid.mkI (A1.out.trans (Apart.ofBelow ((Below.refl _ w1).drew.trans hB2))); obtain ⟨cv1, fv1⟩ := H2.out.var hk6))) | fail
    all_goals go_wp2
    go_ret
    exact deedV_of (r := (upv s k y, f)) (H2.out.set hk6 y) (A2.out.trans (Apart.setV w2 k _))
set_option maxHeartbeats 2000000 in
theorem deed_both (hG : Good l) (hat : AtNods w0 a l.length (nthD l)) (hi : i < l.length) (hk : (nthD l i).kd = 7) (tD : ∀ j, j < i → 5 ≤ (nthD l j).kd → DeedC w0 X V cV (.slice a l.length cp) l j) : DeedC w0 X V cV (.slice a l.length cp) l i := by
  intro s f w hs hf h
  obtain ⟨A, D, eA, eD, hA, hD, kA, kD⟩ := hG.bothN hi hk
  have h80 := hG.r.few
  have hb : ex l i s f = (ex l A s f).bind fun r => ex l D r.1 r.2 := by rw [ex_both hG hi hk, eA, eD]; rfl
  have tA := fun w' h => tD A hA kA s f w' hs hf h
  have tC := tD D hD kD
  have hle := fun r (h : ex l A s f = some r) => ex_le h
  have hbd := fun r (h : ex l A s f = some r) => ex_bnd hG (by omega) kA hs h
  obtain ⟨x, hx⟩ : ∃ x, nthD l i = x := ⟨_, rfl⟩
  rw [hx] at hk eA eD
  obtain ⟨kd, num, pa, pb, pc⟩ := x
  simp only at hk eA eD
  subst hk eA eD
  obtain ⟨b, off, wx, rfl, hb', z0, z1, z2, z3, z4, p0, hwx, N, H, Ap, yX, yV⟩ := deed_start hat h hi hx
  have hnI : (l.length : Int) ≤ 80 := by omega
  have hiI : (i : Int) < (l.length : Int) := by omega
  have d0 := N.c0
  have d2 := N.c2
  have N := Hid.mkI N
  have tA := tA wx H
  have Ap := Hid.mkI Ap
  rw [hb]
  clear hb tD
  cases hX : ex l A s f with
  | none =>
    rw [hX] at tA
    have tA := tA.mono fun e w' h => deedV_none h
    obtain ⟨n, hn⟩ : ∃ n, l.length = n := ⟨_, rfl⟩
    rw [hn] at hnI hiI p0
    rw [hn]
    clear tC hle hbd hX hx hn hi hat h H hs hf hG h80
    go_enter Tryd.func37, Tryd.ntmps37
    go_wp2_with (go_at_call 37; (with_reducible refine tA.mono ?_); clear tA; rintro e w1 ⟨rfl, A1⟩; have A1 := Hid.mkI A1)
    go_ret
    exact deedV_no (Ap.out.trans A1.out)
  | some r =>
    have hl1 := hle r hX
    have hb1 := hbd r hX
    rw [hX] at tA
    have tA := tA.mono fun e w' h => deedV_some h
    have tC := fun w' h => tC r.1 r.2 w' hb1 (by omega) h
    obtain ⟨R, hR⟩ : ∃ R, ex l D r.1 r.2 = R := ⟨_, rfl⟩
    show Calls _ _ _ w fun e w' => DeedV w0 X V cV _ w (ex l D r.1 r.2) e w'
    rw [hR] at tC ⊢
    obtain ⟨n, hn⟩ : ∃ n, l.length = n := ⟨_, rfl⟩
    rw [hn] at hnI hiI p0 tA tC
    rw [hn]
    obtain ⟨c, hc⟩ : ∃ c, R.isSome = c := ⟨_, rfl⟩
    have HC := Hid.mkI hc
    have tC : ∀ w', Rnr w0 X V cV (.slice (some ⟨b, off, none⟩) n cp) r.1 r.2 w' → Calls Tryd.prog 37 #[rnP X, .int .i64 (D : Int)] w' fun e w'' => e = .returned (.bool c) ∧ DeedT w0 X V cV (.slice (some ⟨b, off, none⟩) n cp) w' R w'' := by rw [← hc]; exact tC
    clear hle hbd hX hx hn hi hat h H hs hf hG h80 hl1 hb1 hR hc
    go_enter Tryd.func37, Tryd.ntmps37
    go_wp2_with (first | (go_at_call 37; (with_reducible refine tA.mono ?_); clear tA; rintro e w1 ⟨rfl, H1, A1⟩; have H1 := Hid.mkI H1; have N1 := Hid.mkI (N.out.apart A1 yX yV); have A1 := Hid.mkI (Ap.out.trans A1); clear d0 d2; have d3 := N1.out.c3) | (go_at_call 37; (with_reducible refine (tC _ H1.out).mono ?_); clear tC; rintro e w2 ⟨rfl, T2⟩; have T2 := Hid.mkI (T2.behind A1.out)))
    go_ret
    exact ⟨by rw [HC.out]; rfl, T2.out⟩
set_option maxHeartbeats 2000000 in
theorem deed_if (hG : Good l) (hat : AtNods w0 a l.length (nthD l)) (hi : i < l.length) (hk : (nthD l i).kd = 8) (tV : ∀ j, j < i → (nthD l j).kd < 5 → ValC w0 X V cV (.slice a l.length cp) l j) (tD : ∀ j, j < i → 5 ≤ (nthD l j).kd → DeedC w0 X V cV (.slice a l.length cp) l j) : DeedC w0 X V cV (.slice a l.length cp) l i := by
  intro s f w hs hf h
  obtain ⟨A, D, C, eA, eD, eC, hA, hD, hCi, kA, kD, kC⟩ := hG.ifN hi hk
  have h80 := hG.r.few
  have hout : ex l i s 0 = none := ex_out (by omega) (by omega)
  have hif : ∀ f, ex l i s (f + 1) = ex l (if vl l A s ≠ 0 then D else C) s f := fun f => by
    by_cases hv : vl l A s = 0
    · rw [if_neg (by simpa using hv), ex_else hG hi hk (by rw [eA]; exact hv), eC]; rfl
    · rw [if_pos hv, ex_then hG hi hk (by rw [eA]; exact hv), eD]; rfl
  have tV := tV A hA kA
  have tD : DeedC w0 X V cV (.slice a l.length cp) l (if vl l A s ≠ 0 then D else C) := by
    split
    · exact tD D hD kD
    · exact tD C hCi kC
  obtain ⟨x, hx⟩ : ∃ x, nthD l i = x := ⟨_, rfl⟩
  rw [hx] at hk eD eA eC
  obtain ⟨kd, num, pa, pb, pc⟩ := x
  simp only at hk eD eA eC
  subst hk eD eA eC
  obtain ⟨b, off, wx, rfl, hb, z0, z1, z2, z3, z4, p0, hwx, N, H, Ap, yX, yV⟩ := deed_start hat h hi hx
  have hnI : (l.length : Int) ≤ 80 := by omega
  have hiI : (i : Int) < (l.length : Int) := by omega
  have d0 := N.c0
  cases f with
  | zero =>
    have tB := burn_no wx H
    have hE : DeedV w0 X V cV (.slice (some ⟨b, off, none⟩) l.length cp) w (ex l i s 0) (.returned (.bool false)) wx := by rw [hout]; exact deedV_no Ap
    obtain ⟨n, hn⟩ : ∃ n, l.length = n := ⟨_, rfl⟩
    rw [hn] at hnI hiI p0 hE
    rw [hn]
    clear N H Ap h hat hi h80 hx hn hs hf tV hif hout hG tD
    go_enter Tryd.func37, Tryd.ntmps37
    go_wp2_with (go_at_call 50; (with_reducible refine tB.mono ?_); clear tB; rintro e w1 ⟨rfl, hw⟩; obtain rfl := hw.symm)
    go_ret
    exact hE
  | succ f =>
    have tB := burn_yes hf wx H
    have tC := fun w' h => chosen_any (D := D) (C := C) (num := num) hs tV w' (h : Rnr w0 X V cV _ s f w')
    have tD := fun w' h => tD s f w' hs (by omega) h
    rw [hif f]
    obtain ⟨j, hj⟩ : ∃ j, (if vl l A s ≠ 0 then D else C) = j := ⟨_, rfl⟩
    rw [hj] at tC tD ⊢
    obtain ⟨R, hR⟩ : ∃ R, ex l j s f = R := ⟨_, rfl⟩
    rw [hR] at tD ⊢
    obtain ⟨n, hn⟩ : ∃ n, l.length = n := ⟨_, rfl⟩
    rw [hn] at hnI hiI p0 tB tC tD
    rw [hn]
    obtain ⟨c, hc⟩ : ∃ c, R.isSome = c := ⟨_, rfl⟩
    have HC := Hid.mkI hc
    have tD : ∀ w', Rnr w0 X V cV (.slice (some ⟨b, off, none⟩) n cp) s f w' → Calls Tryd.prog 37 #[rnP X, .int .i64 (j : Int)] w' fun e w'' => e = .returned (.bool c) ∧ DeedT w0 X V cV (.slice (some ⟨b, off, none⟩) n cp) w' R w'' := by rw [← hc]; exact tD
    have N := Hid.mkI N
    have Ap := Hid.mkI Ap
    clear H h hat hi h80 hx hn hs hf hif hout hG hj hR hc tV
    go_enter Tryd.func37, Tryd.ntmps37
    go_wp2_with (first | (go_at_call 50; (with_reducible refine tB.mono ?_); clear tB; rintro e w1 ⟨rfl, H1, A1⟩; have H1 := Hid.mkI H1; have N1 := Hid.mkI (N.out.apart A1 yX yV); have A1 := Hid.mkI (Ap.out.trans A1); clear d0; have d0 := N1.out.c0; have d1 := N1.out.c1; have d2 := N1.out.c2; have d3 := N1.out.c3; have d4 := N1.out.c4) | (go_at_call 52; (with_reducible refine (tC _ H1.out).mono ?_); clear tC; rintro e w2 ⟨rfl, hB2⟩; have H2 := Hid.mkI (H1.out.below hB2); have A2 := Hid.mkI (A1.out.trans (Apart.ofBelow hB2)); clear d0 d1 d2 d3 d4 hB2) | (go_at_call 37; (with_reducible refine (tD _ H2.out).mono ?_); clear tD; rintro e w3 ⟨rfl, T3⟩; have T3 := Hid.mkI (T3.behind A2.out)))
    go_ret
    exact ⟨by rw [HC.out]; rfl, T3.out⟩
set_option maxHeartbeats 2000000 in
theorem deed_while (hG : Good l) (hat : AtNods w0 a l.length (nthD l)) (hi : i < l.length) (hk : (nthD l i).kd = 9) (tV : ∀ j, j < i → (nthD l j).kd < 5 → ValC w0 X V cV (.slice a l.length cp) l j) (tD : ∀ j, j < i → 5 ≤ (nthD l j).kd → DeedC w0 X V cV (.slice a l.length cp) l j) : DeedC w0 X V cV (.slice a l.length cp) l i := by
  intro s f w hs hf h
  obtain ⟨A, D, eA, eD, hA, hD, kA, kD⟩ := hG.whlN hi hk
  have h80 := hG.r.few
  have tL := fun num pc w' h => loop_any hG (num := num) (pc := pc) hi hk eA eD (tV A hA kA) (tD D hD kD) s f hs hf w' h
  obtain ⟨x, hx⟩ : ∃ x, nthD l i = x := ⟨_, rfl⟩
  rw [hx] at hk eD eA
  obtain ⟨kd, num, pa, pb, pc⟩ := x
  simp only at hk eD eA
  subst hk eD eA
  obtain ⟨b, off, wx, rfl, hb, z0, z1, z2, z3, z4, p0, hwx, N, H, Ap, yX, yV⟩ := deed_start hat h hi hx
  have hnI : (l.length : Int) ≤ 80 := by omega
  have hiI : (i : Int) < (l.length : Int) := by omega
  have d0 := N.c0
  have d1 := N.c1
  have d2 := N.c2
  have d3 := N.c3
  have d4 := N.c4
  have tL := tL num pc wx H
  have Ap := Hid.mkI Ap
  obtain ⟨R, hR⟩ : ∃ R, ex l i s f = R := ⟨_, rfl⟩
  rw [hR] at tL ⊢
  obtain ⟨n, hn⟩ : ∃ n, l.length = n := ⟨_, rfl⟩
  rw [hn] at hnI hiI p0 tL
  rw [hn]
  obtain ⟨c, hc⟩ : ∃ c, R.isSome = c := ⟨_, rfl⟩
  have HC := Hid.mkI hc
  have tL := tL.mono fun e w' h => (by rw [← hc]; exact h : e = .returned (.bool c) ∧ DeedT w0 X V cV (.slice (some ⟨b, off, none⟩) n cp) wx R w')
  clear N H h hat hi h80 hx hn hs hf hG hR hc tV tD
  go_enter Tryd.func37, Tryd.ntmps37
  go_wp2_with (go_at_call 53; (with_reducible refine tL.mono ?_); clear tL; rintro e w2 ⟨rfl, T2⟩; have T2 := Hid.mkI (T2.behind Ap.out))
  go_ret
  exact ⟨by rw [HC.out]; rfl, T2.out⟩
theorem rdeed_any (hG : Good l) (hat : AtNods w0 a l.length (nthD l)) : ∀ (m i : Nat), i < m → i < l.length → 5 ≤ (nthD l i).kd → DeedC w0 X V cV (.slice a l.length cp) l i
  | 0, _, h, _, _ => absurd h (by omega)
  | m + 1, i, him, hi, h5 => by
    have tV : ∀ j, j < i → (nthD l j).kd < 5 → ValC w0 X V cV (.slice a l.length cp) l j := fun j hj h s f w hs hr => rvalue_any hG hs hat (j + 1) j (by omega) (by omega) h w hr
    have tD : ∀ j, j < i → 5 ≤ (nthD l j).kd → DeedC w0 X V cV (.slice a l.length cp) l j := fun j hj h => rdeed_any hG hat m j (by omega) (by omega) h
    have hkd := hG.kd hi
    rcases (show (nthD l i).kd = 5 ∨ (nthD l i).kd = 6 ∨ (nthD l i).kd = 7 ∨ (nthD l i).kd = 8 ∨ (nthD l i).kd = 9 by omega) with h | h | h | h | h
    · exact deed_skip hat hi hG.r.few h
    · exact deed_set hG hat hi h tV
    · exact deed_both hG hat hi h tD
    · exact deed_if hG hat hi h tV tD
    · exact deed_while hG hat hi h tV tD
end
end Go.Proofs.YtioimgeeamchaaaDoor
