/- The program's runner: where it lies in memory; values; a drop that is burnt. -/
import Derived.WalkKit
import Derived.LoopTactic
import Derived.OwnWalk
import Derived.Deep.AppendLies
import Derived.Deep.RegionHeld3
import Derived.Deep.QuietTactic
import Derived.Test.YtioimgeeamchaaaDoorRunA
import Derived.Test.YtioimgeeamchaaaDoorRunC
import Derived.Test.YtioimgeeamchaaaDoorProG
import Derived.Test.YtioimgeeamchaaaDoorProJ
import Derived.Test.YtioimgeeamchaaaDoorLst
namespace Go.Proofs.YtioimgeeamchaaaDoor
open Go.RowKit
set_option maxRecDepth 100000
set_option linter.unusedVariables false

theorem nods_cells {w : World} {a : Option Addr} {n i : Nat} {S : Nat → Nod} (h : AtNods w a n S) (hi : i < n) {x : Nod} (e : S i = x) : ∃ b off, a = some ⟨b, off, none⟩ ∧ b < w.heap.size ∧ w.cell? ⟨b, off + i * 5, none⟩ = some (.int .i64 x.kd) ∧ w.cell? ⟨b, off + i * 5 + 1, none⟩ = some (.int .i64 x.num) ∧ w.cell? ⟨b, off + i * 5 + 2, none⟩ = some (.int .i64 x.pa) ∧ w.cell? ⟨b, off + i * 5 + 3, none⟩ = some (.int .i64 x.pb) ∧ w.cell? ⟨b, off + i * 5 + 4, none⟩ = some (.int .i64 x.pc) := by
  subst e
  rcases h with h | ⟨b, off, e, h⟩
  · omega
  · exact ⟨b, off, e, h.old, h.c0 i hi, h.c1 i hi, h.c2 i hi, h.c3 i hi, h.c4 i hi⟩
/-- All stays but two places. -/
structure Apart (X V : Nat) (w w' : World) : Prop where
  os : w'.os = w.os
  tape : w'.tape = w.tape
  output : w'.output = w.output
  size : w.heap.size ≤ w'.heap.size
  block : ∀ k, k < w.heap.size → k ≠ X → k ≠ V → w'.heap[k]? = w.heap[k]?
theorem Apart.refl (X V : Nat) (w : World) : Apart X V w w := ⟨rfl, rfl, rfl, Nat.le_refl _, fun _ _ _ _ => rfl⟩
theorem Apart.trans {X V : Nat} {a b c : World} (h : Apart X V a b) (k : Apart X V b c) : Apart X V a c :=
  ⟨k.os.trans h.os, k.tape.trans h.tape, k.output.trans h.output, Nat.le_trans h.size k.size, fun i hi hx hv => (k.block i (Nat.lt_of_lt_of_le hi h.size) hx hv).trans (h.block i hi hx hv)⟩
theorem Apart.ofBelow {X V : Nat} {w w' : World} (h : Below w.heap.size w w') : Apart X V w w' := ⟨h.os, h.tape, h.output, h.size, fun k hk _ _ => h.block k hk⟩
theorem Apart.setX {X V : Nat} (w : World) (o : Nat) (u : Value) : Apart X V w (w.setCell ⟨X, o, none⟩ u) := ⟨rfl, rfl, rfl, by simp [World.setCell], fun k _ hx _ => Below.heap_setCell _ _ _ k hx⟩
theorem Apart.setV {X V : Nat} (w : World) (o : Nat) (u : Value) : Apart X V w (w.setCell ⟨V, o, none⟩ u) := ⟨rfl, rfl, rfl, by simp [World.setCell], fun k _ _ hv => Below.heap_setCell _ _ _ k hv⟩
theorem Apart.below {X V B : Nat} {w w' : World} (h : Apart X V w w') (hB : B ≤ w.heap.size) (hX : B ≤ X) (hV : B ≤ V) : Below B w w' :=
  ⟨h.os, h.tape, h.output, h.size, fun k hk => h.block k (Nat.lt_of_lt_of_le hk hB) (by omega) (by omega)⟩
theorem Apart.cell {X V : Nat} {w w' : World} (h : Apart X V w w') {b o : Nat} {v : Value} (hc : w.cell? ⟨b, o, none⟩ = some v) (hx : b ≠ X) (hv : b ≠ V) : w'.cell? ⟨b, o, none⟩ = some v := by
  have e := h.block b (old_of_cell hc) hx hv
  unfold World.cell? at hc ⊢
  rw [e]; exact hc

/-- The runner: the program, the variables, and the fuel left. -/
structure Rnr (w0 : World) (X V cV : Nat) (pv : Value) (s : Nat → Int) (f : Nat) (W : World) : Prop where
  lo : w0.heap.size ≤ X
  c0 : W.cell? ⟨X, 0, none⟩ = some pv
  c1 : W.cell? ⟨X, 1, none⟩ = some (.slice (some ⟨V, 0, none⟩) 6 cV)
  c2 : W.cell? ⟨X, 2, none⟩ = some (.int .i64 (f : Int))
  r2 : W.frozen? ⟨X, 2, none⟩ = false
  own : W.ownsRow w0.heap.size 3 1 (.slice (some ⟨V, 0, none⟩) 6 cV) 6 (rowI 6 s)
  ne : V ≠ X
  bel : Below w0.heap.size w0 W
section
variable {w0 : World} {X V cV : Nat} {pv : Value} {s : Nat → Int} {f : Nat} {W : World}
theorem Rnr.hi (h : Rnr w0 X V cV pv s f W) : X < W.heap.size := old_of_cell h.c0
theorem Rnr.vlt (h : Rnr w0 X V cV pv s f W) : w0.heap.size ≤ V ∧ V < W.heap.size := h.own.lt V rfl
theorem Rnr.below {W' : World} (h : Rnr w0 X V cV pv s f W) (k : Below W.heap.size W W') : Rnr w0 X V cV pv s f W' :=
  ⟨h.lo, keep_cell k h.c0, keep_cell k h.c1, keep_cell k h.c2, (k.frozen (p := ⟨X, 2, none⟩) h.hi).trans h.r2, own_stays h.own k, h.ne, h.bel.trans (k.mono h.bel.size)⟩
/-- Fuel anew. -/
theorem Rnr.fuel (h : Rnr w0 X V cV pv s f W) (g : Nat) : Rnr w0 X V cV pv s g (W.setCell ⟨X, 2, none⟩ (.int .i64 (g : Int))) :=
  ⟨h.lo, (cell_far (by omega)).trans h.c0, (cell_far (by omega)).trans h.c1, World.cell?_setCell_same' _ _ _ (by rw [h.c2]; rfl), (World.frozen?_setCell _ _ _ _).trans h.r2,
    own_farQ h.own (fun q => h.ne (by simpa [Value.ownBlock] using q)) 2 _, h.ne, h.bel.setCell (p := ⟨X, 2, none⟩) h.lo _⟩
/-- A variable anew. -/
theorem Rnr.set (h : Rnr w0 X V cV pv s f W) {k : Nat} (hk : k < 6) (v : Int) : Rnr w0 X V cV pv (upv s k v) f (W.setCell ⟨V, k, none⟩ (.int .i64 v)) := by
  have hne := h.ne
  refine ⟨h.lo, (cell_far (by omega)).trans h.c0, (cell_far (by omega)).trans h.c1, (cell_far (by omega)).trans h.c2, (World.frozen?_setCell _ _ _ _).trans h.r2, ?_, h.ne, h.bel.setCell (p := ⟨V, k, none⟩) h.vlt.1 _⟩
  have e : (rowI 6 s).set k (.int .i64 v) = rowI 6 (upv s k v) := by
    refine List.ext_getElem? fun i => ?_
    rw [List.getElem?_set]
    unfold rowI upv
    by_cases e : k = i
    · subst e; simp [hk]
    · rw [if_neg e]
      by_cases hi : i < 6
      · simp [hi, (show i ≠ k from fun q => e q.symm)]
      · simp [hi]
  rw [← e]
  exact (h.own.stored k _).1
theorem Rnr.var (h : Rnr w0 X V cV pv s f W) {k : Nat} (hk : k < 6) : W.cell? ⟨V, k, none⟩ = some (.int .i64 (s k)) ∧ W.frozen? ⟨V, k, none⟩ = false := by
  obtain ⟨a, g, cap, e, hq⟩ := row_form h.own
  obtain ⟨ea, _, hc, hf⟩ := hq (by decide)
  have e2 : g = V := by rw [ea] at e; simp at e; exact e.1.symm
  subst e2
  exact ⟨hc k _ (rowI_get _ hk), hf k _ (rowI_get _ hk)⟩
end
abbrev rnP (X : Nat) : Value := .pointer (some ⟨X, 0, none⟩)
theorem truth_any (b : Bool) (w : World) : Calls Tryd.prog 67 #[.bool b] w fun e w' => e = .returned (.int .i64 (if b then 1 else 0)) ∧ w' = w := by
  cases b
  · go_enter Tryd.func67, Tryd.ntmps67
    go_wp2
    go_ret
    exact ⟨rfl, rfl⟩
  · go_enter Tryd.func67, Tryd.ntmps67
    go_wp2
    go_ret
    exact ⟨rfl, rfl⟩
theorem burn_no {w0 : World} {X V cV : Nat} {pv : Value} {s : Nat → Int} (w : World) (h : Rnr w0 X V cV pv s 0 w) :
    Calls Tryd.prog 50 #[rnP X] w fun e w' => e = .returned (.bool false) ∧ w' = w := by
  have c2 := h.c2
  clear h
  go_enter Tryd.func50, Tryd.ntmps50
  go_wp2
  go_ret
  exact ⟨rfl, rfl⟩
theorem burn_yes {w0 : World} {X V cV f : Nat} {pv : Value} {s : Nat → Int} (hf : f + 1 ≤ 5000) (w : World) (h : Rnr w0 X V cV pv s (f + 1) w) :
    Calls Tryd.prog 50 #[rnP X] w fun e w' => e = .returned (.bool true) ∧ Rnr w0 X V cV pv s f w' ∧ Apart X V w w' := by
  have c2 := h.c2
  have r2 := h.r2
  have hE : Rnr w0 X V cV pv s f (w.setCell ⟨X, 2, none⟩ (.int .i64 (f : Int))) ∧ Apart X V w (w.setCell ⟨X, 2, none⟩ (.int .i64 (f : Int))) := ⟨h.fuel f, Apart.setX w 2 _⟩
  have hx : (((f + 1 : Nat) : Int) == 0) = false := by simp; omega
  have hy : ((f + 1 : Nat) : Int) - 1 = (f : Int) := by omega
  have hz : ((f + 1 : Nat) : Int) ≤ 5000 := by omega
  clear h
  obtain ⟨y, hyy⟩ : ∃ y, ((f + 1 : Nat) : Int) = y := ⟨_, rfl⟩
  rw [hyy] at c2 hx hy hz
  have hy0 : 1 ≤ y := by omega
  clear hyy
  go_enter Tryd.func50, Tryd.ntmps50
  go_wp2
  go_ret
  exact ⟨rfl, hE⟩
theorem opV_sum (y z : Int) : opV 2 y z = if 999999 < y + z then y + z - 1000000 else y + z := by unfold opV; rw [if_pos rfl]
theorem opV_rem {y z : Int} (h0 : 0 ≤ y + z) (h1 : y + z ≤ 1999998) : (IntKind.i64.wrap (y + z)).tmod 1000000 = opV 2 y z := by
  rw [wraps62 _ h0 (by omega), opV_sum, Int.tmod_eq_emod_of_nonneg h0]
  split <;> omega
/-- A test as a number. -/
def trN (b : Bool) : Int := if b = true then 1 else 0
theorem truth_is (b : Bool) (w : World) : Calls Tryd.prog 67 #[.bool b] w fun e w' => e = .returned (.int .i64 (trN b)) ∧ w' = w := truth_any b w
theorem opV_less (y z : Int) : trN (decide (y < z)) = opV 3 y z := by
  unfold opV trN; by_cases h : y < z <;> simp [h]
theorem opV_same (y z : Int) : trN (y == z) = opV 4 y z := by
  unfold opV trN; by_cases h : y = z <;> simp [h]
theorem rvalue_any {l : List Nod} (hG : Good l) {w0 : World} {X V cV f cp : Nat} {a : Option Addr} {s : Nat → Int} (hs : Bnd6 s) (hat : AtNods w0 a l.length (nthD l)) : ∀ (m i : Nat), i < m → i < l.length → (nthD l i).kd < 5 → ∀ (w : World), Rnr w0 X V cV (.slice a l.length cp) s f w →
    Calls Tryd.prog 51 #[rnP X, .int .i64 (i : Int)] w fun e w' => e = .returned (.int .i64 (vl l i s)) ∧ Below w.heap.size w w'
  | 0, _, h, _, _, _, _ => absurd h (by omega)
  | m + 1, i, him, hi, h5, w, hrn => by
    have hkd := hG.kd hi
    have h80 := hG.r.few
    obtain ⟨x, hx⟩ : ∃ x, nthD l i = x := ⟨_, rfl⟩
    obtain ⟨b, off, rfl, hb, z0, z1, z2, z3, z4⟩ := nods_cells (hat.below hrn.bel) hi hx
    have hB : Below w.heap.size w (w.alloc (.cells #[.int .i64 x.kd, .int .i64 x.num, .int .i64 x.pa, .int .i64 x.pb, .int .i64 x.pc] 47)) := (Below.refl _ w).alloc (Nat.le_refl _) _
    have hc := fun j u h => by
      have := cell_five_new w x 47 j u h
      rw [Go.WideShapes.add_plain, Nat.zero_add] at this
      exact this
    have d0 := hc 0 _ rfl
    have d1 := hc 1 _ rfl
    have d2 := hc 2 _ rfl
    have d3 := hc 3 _ rfl
    have p0 := hrn.c0
    have hnI : (l.length : Int) ≤ 80 := by omega
    have hiI : (i : Int) < (l.length : Int) := by omega
    by_cases h2 : 2 ≤ x.kd ∧ x.kd ≤ 4
    · obtain ⟨p, q, ep, eq, hp, hq, kp, kq⟩ := hG.two hi (by rw [hx]; exact h2)
      have hv := vl_two (s := s) hG.r.wf hi (by rw [hx]; exact h2)
      rw [ep, eq, Int.toNat_natCast, Int.toNat_natCast] at hv
      rw [hx] at ep eq hv
      have t1 := fun w' (k : Below w.heap.size w w') => rvalue_any hG (cp := cp) hs hat m p (by omega) (by omega) kp w' (hrn.below k)
      have t2 := fun w' (k : Below w.heap.size w w') => rvalue_any hG (cp := cp) hs hat m q (by omega) (by omega) kq w' (hrn.below k)
      have tT := truth_is
      have b1 := vlE_bnd hG.r hs (p + 1) p (by omega)
      have b2 := vlE_bnd hG.r hs (q + 1) q (by omega)
      change 0 ≤ vl l p s ∧ vl l p s ≤ 999999 at b1
      change 0 ≤ vl l q s ∧ vl l q s ≤ 999999 at b2
      rw [hv]
      obtain ⟨y, hy⟩ : ∃ y, vl l p s = y := ⟨_, rfl⟩
      obtain ⟨z, hz⟩ : ∃ z, vl l q s = z := ⟨_, rfl⟩
      rw [hy] at t1 b1 ⊢
      rw [hz] at t2 b2 ⊢
      obtain ⟨n, hn⟩ : ∃ n, l.length = n := ⟨_, rfl⟩
      rw [hn] at p0 hiI hnI
      obtain ⟨b11, b12⟩ := b1
      obtain ⟨b21, b22⟩ := b2
      obtain ⟨kd, num, pa, pb, pc⟩ := x
      simp only at ep eq d0 d1 d2 d3 z0 z1 z2 z3 z4 hB h2 ⊢
      subst ep; subst eq
      clear hv hy hz hn hx hat hrn hc hG hs hkd h5 hp hq kp kq him h80 hi
      obtain ⟨wx, hwx⟩ : ∃ W, w.alloc (.cells #[.int .i64 kd, .int .i64 num, .int .i64 (p : Int), .int .i64 (q : Int), .int .i64 pc] 47) = W := ⟨_, rfl⟩
      rw [hwx] at hB d0 d1 d2 d3
      obtain ⟨r, hr⟩ : ∃ r, opV kd y z = r := ⟨_, rfl⟩
      rw [hr]
      obtain rfl | rfl | rfl : kd = 2 ∨ kd = 3 ∨ kd = 4 := by omega
      · have HR := Hid.mkI hr
        clear hr tT
        go_enter Tryd.func51, Tryd.ntmps51
        go_wp2
        first | (go_region_held3 (fun w' => w'.cell? ⟨w.heap.size, 2, none⟩ = some (.int .i64 (p : Int)) ∧ w'.cell? ⟨w.heap.size, 3, none⟩ = some (.int .i64 (q : Int))) (first | go_keep | (go_split_ands; refine ⟨?_, ?_⟩ <;> first | (exact keep_cell hB1 (by assumption)) | (exact keep_cell hB3 (by assumption)))) (first | (go_at_call 51; (with_reducible refine (t1 _ hB.drew).mono ?_); clear t1; rintro e w1 ⟨rfl, hB1⟩; have hB2 := hB.drew.trans (hB1.mono hB.size)) | (go_at_call 51; (with_reducible refine (t2 _ hB2).mono ?_); clear t2; rintro e w2 ⟨rfl, hB3⟩; have hB4 := hB2.trans (hB3.mono hB2.size)))) | fail
        all_goals go_wp2
        go_ret
        refine ⟨?_, hB4⟩
        rw [← HR.out, ← opV_rem (by omega) (by omega)]
        rfl
      · have HR := Hid.mkI ((opV_less y z).trans hr)
        clear hr
        go_enter Tryd.func51, Tryd.ntmps51
        go_wp2
        first | (go_region_held3 (fun w' => w'.cell? ⟨w.heap.size, 2, none⟩ = some (.int .i64 (p : Int)) ∧ w'.cell? ⟨w.heap.size, 3, none⟩ = some (.int .i64 (q : Int))) (first | go_keep | (go_split_ands; refine ⟨?_, ?_⟩ <;> first | (exact keep_cell hB1 (by assumption)) | (exact keep_cell hB3 (by assumption)))) (first | (go_at_call 51; (with_reducible refine (t1 _ hB.drew).mono ?_); clear t1; rintro e w1 ⟨rfl, hB1⟩; have hB2 := hB.drew.trans (hB1.mono hB.size)) | (go_at_call 51; (with_reducible refine (t2 _ hB2).mono ?_); clear t2; rintro e w2 ⟨rfl, hB3⟩; have hB4 := hB2.trans (hB3.mono hB2.size)) | (go_at_call 67; (with_reducible refine (tT _ _).mono ?_); clear tT; rintro e w3 ⟨rfl, hw⟩; obtain rfl := hw.symm))) | fail
        all_goals go_wp2
        go_ret
        exact ⟨by rw [← HR.out]; rfl, hB4⟩
      · have HR := Hid.mkI ((opV_same y z).trans hr)
        clear hr
        go_enter Tryd.func51, Tryd.ntmps51
        go_wp2
        first | (go_region_held3 (fun w' => w'.cell? ⟨w.heap.size, 2, none⟩ = some (.int .i64 (p : Int)) ∧ w'.cell? ⟨w.heap.size, 3, none⟩ = some (.int .i64 (q : Int))) (first | go_keep | (go_split_ands; refine ⟨?_, ?_⟩ <;> first | (exact keep_cell hB1 (by assumption)) | (exact keep_cell hB3 (by assumption)))) (first | (go_at_call 51; (with_reducible refine (t1 _ hB.drew).mono ?_); clear t1; rintro e w1 ⟨rfl, hB1⟩; have hB2 := hB.drew.trans (hB1.mono hB.size)) | (go_at_call 51; (with_reducible refine (t2 _ hB2).mono ?_); clear t2; rintro e w2 ⟨rfl, hB3⟩; have hB4 := hB2.trans (hB3.mono hB2.size)) | (go_at_call 67; (with_reducible refine (tT _ _).mono ?_); clear tT; rintro e w3 ⟨rfl, hw⟩; obtain rfl := hw.symm))) | fail
        all_goals go_wp2
        go_ret
        exact ⟨by rw [← HR.out]; rfl, hB4⟩
    · rw [hx] at h5 hkd
      by_cases h0 : x.kd = 0
      · rw [vl_num (by rw [hx]; exact h0), hx]
        obtain ⟨kd, num, pa, pb, pc⟩ := x
        simp only at d0 d1 d2 d3 z0 z1 z2 z3 z4 hB h0 ⊢
        subst h0
        obtain ⟨n, hn⟩ : ∃ n, l.length = n := ⟨_, rfl⟩
        rw [hn] at hiI hnI p0
        clear hG hs hat hrn hc hx hn
        go_enter Tryd.func51, Tryd.ntmps51
        go_wp2
        go_ret
        exact ⟨rfl, hB⟩
      · have h1 : x.kd = 1 := by omega
        obtain ⟨k, ek, hk6⟩ := hG.var hi (.inl (by rw [hx]; exact h1))
        rw [vl_var (by rw [hx]; exact h1), ek, Int.toNat_natCast]
        rw [hx] at ek
        have cv2 := keep_cell hB (hrn.var hk6).1
        have p1 := keep_cell hB hrn.c1
        have hkI : (k : Int) < 6 := by omega
        obtain ⟨y, hy⟩ : ∃ y, s k = y := ⟨_, rfl⟩
        rw [hy] at cv2 ⊢
        obtain ⟨kd, num, pa, pb, pc⟩ := x
        simp only at d0 d1 d2 d3 z0 z1 z2 z3 z4 hB h1 ek cv2 p1 ⊢
        subst h1; subst ek
        obtain ⟨n, hn⟩ : ∃ n, l.length = n := ⟨_, rfl⟩
        rw [hn] at hiI hnI p0
        clear hG hs hat hrn hc hx hy hn
        go_enter Tryd.func51, Tryd.ntmps51
        go_wp2
        go_quiet (fail)
        go_wp2
        go_ret
        exact ⟨rfl, below_drawn hB _⟩
end Go.Proofs.YtioimgeeamchaaaDoor
