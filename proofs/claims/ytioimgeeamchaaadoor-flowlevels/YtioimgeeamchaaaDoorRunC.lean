/- Running with a pile, plainly; the pile and the variables in memory. -/
import Derived.WalkKit
import Derived.LoopTactic
import Derived.OwnWalk
import Derived.Deep.AppendLies
import Derived.Test.YtioimgeeamchaaaDoorRunA
import Derived.Test.YtioimgeeamchaaaDoorProG
import Derived.Test.YtioimgeeamchaaaDoorLst
namespace Go.Proofs.YtioimgeeamchaaaDoor
open Go.RowKit
set_option maxRecDepth 100000
set_option linter.unusedVariables false

/-- What a pile of deeds does. -/
def exP (l : List Nod) : List Nat → (Nat → Int) → Nat → Rn
  | [], s, f => some (s, f)
  | i :: r, s, f => (ex l i s f).bind fun q => exP l r q.1 q.2
theorem exP_one (l : List Nod) (i : Nat) (s : Nat → Int) (f : Nat) : exP l [i] s f = ex l i s f := by
  show (ex l i s f).bind (fun q => some (q.1, q.2)) = _
  cases ex l i s f <;> rfl
section
variable {l : List Nod} {i f : Nat} {r : List Nat} {s : Nat → Int}
theorem exP_skip (h : (nthD l i).kd = 5) : exP l (i :: r) s f = exP l r s f := by
  rw [exP, ex_skip h]; rfl
theorem exP_both (hG : Good l) (hi : i < l.length) (h : (nthD l i).kd = 7) : exP l (i :: r) s f = exP l ((nthD l i).pa.toNat :: (nthD l i).pb.toNat :: r) s f := by
  rw [exP, ex_both hG hi h, exP]
  cases ex l (nthD l i).pa.toNat s f with
  | none => rfl
  | some q => rfl
theorem exP_out (h1 : (nthD l i).kd ≠ 5) (h2 : (nthD l i).kd ≠ 7) : exP l (i :: r) s 0 = none := by
  rw [exP, ex_out h1 h2]; rfl
theorem exP_set (h : (nthD l i).kd = 6) : exP l (i :: r) s (f + 1) = exP l r (upv s (nthD l i).num.toNat (vl l (nthD l i).pa.toNat s)) f := by
  rw [exP, ex_set h]; rfl
theorem exP_then (hG : Good l) (hi : i < l.length) (h : (nthD l i).kd = 8) (hv : vl l (nthD l i).pa.toNat s ≠ 0) : exP l (i :: r) s (f + 1) = exP l ((nthD l i).pb.toNat :: r) s f := by
  rw [exP, ex_then hG hi h hv]; rfl
theorem exP_else (hG : Good l) (hi : i < l.length) (h : (nthD l i).kd = 8) (hv : vl l (nthD l i).pa.toNat s = 0) : exP l (i :: r) s (f + 1) = exP l ((nthD l i).pc.toNat :: r) s f := by
  rw [exP, ex_else hG hi h hv]; rfl
theorem exP_stop (h : (nthD l i).kd = 9) (hv : vl l (nthD l i).pa.toNat s = 0) : exP l (i :: r) s (f + 1) = exP l r s f := by
  rw [exP, ex_stop h hv]; rfl
theorem exP_round (hG : Good l) (hi : i < l.length) (h : (nthD l i).kd = 9) (hv : vl l (nthD l i).pa.toNat s ≠ 0) : exP l (i :: r) s (f + 1) = exP l ((nthD l i).pb.toNat :: i :: r) s f := by
  rw [exP, ex_round hG hi h hv, exP]
  cases ex l (nthD l i).pb.toNat s f with
  | none => rfl
  | some q => rfl
end
/-- How much is still to be done, at most. -/
def pil : List Nat → Nat
  | [] => 0
  | i :: r => 3 ^ (i + 1) + pil r
def mu (r : List Nat) (f : Nat) : Nat := f * 3 ^ 90 + pil r
theorem three_pos (i : Nat) : 0 < 3 ^ i := Nat.pow_pos (by decide)
theorem three_up {a i : Nat} (h : a < i) : 3 ^ (a + 1) ≤ 3 ^ i := Nat.pow_le_pow_right (by decide) h
theorem mu_skip (i f : Nat) (r : List Nat) : mu r f < mu (i :: r) f := by
  have := three_pos (i + 1)
  show f * 3 ^ 90 + pil r < f * 3 ^ 90 + (3 ^ (i + 1) + pil r)
  omega
theorem mu_both {a b i : Nat} (f : Nat) (r : List Nat) (ha : a < i) (hb : b < i) : mu (a :: b :: r) f < mu (i :: r) f := by
  have h1 := three_up ha
  have h2 := three_up hb
  have h3 := three_pos i
  have h4 : 3 ^ (i + 1) = 3 ^ i * 3 := Nat.pow_succ ..
  show f * 3 ^ 90 + (3 ^ (a + 1) + (3 ^ (b + 1) + pil r)) < f * 3 ^ 90 + (3 ^ (i + 1) + pil r)
  omega
theorem mu_burn0 (i f : Nat) (r : List Nat) : mu r f < mu (i :: r) (f + 1) := by
  have h3 := three_pos (i + 1)
  show f * 3 ^ 90 + pil r < (f + 1) * 3 ^ 90 + (3 ^ (i + 1) + pil r)
  omega
theorem mu_burn1 {a i : Nat} (f : Nat) (r : List Nat) (ha : a < i) : mu (a :: r) f < mu (i :: r) (f + 1) := by
  have h1 := three_up ha
  have h3 := three_pos i
  have h4 : 3 ^ (i + 1) = 3 ^ i * 3 := Nat.pow_succ ..
  show f * 3 ^ 90 + (3 ^ (a + 1) + pil r) < (f + 1) * 3 ^ 90 + (3 ^ (i + 1) + pil r)
  omega
theorem mu_burn2 {a i : Nat} (f : Nat) (r : List Nat) (ha : a < 80) : mu (a :: i :: r) f < mu (i :: r) (f + 1) := by
  have h1 : 3 ^ (a + 1) < 3 ^ 90 := Nat.pow_lt_pow_right (by decide) (by omega)
  show f * 3 ^ 90 + (3 ^ (a + 1) + (3 ^ (i + 1) + pil r)) < (f + 1) * 3 ^ 90 + (3 ^ (i + 1) + pil r)
  rw [Nat.succ_mul]
  omega

/-- The pile in memory: the top one last. -/
def rowT (st : List Nat) : List Value := st.reverse.map fun (i : Nat) => Value.int .i64 (i : Int)
theorem rowT_cons (i : Nat) (st : List Nat) : rowT (i :: st) = rowT st ++ [.int .i64 (i : Int)] := by simp [rowT]
theorem rowT_len (st : List Nat) : (rowT st).length = st.length := by simp [rowT]
/-- While a program runs. -/
structure RunSt (wr w : World) (gV cV : Nat) (T : Value) (st : List Nat) (s : Nat → Int) : Prop where
  ownV : wr.ownsRow w.heap.size 3 1 (.slice (some ⟨gV, 0, none⟩) 6 cV) 6 (rowI 6 s)
  ownT : wr.ownsRow w.heap.size 3 1 T st.length (rowT st)
  ne : T.ownBlock ≠ some gV
  bel : Below w.heap.size w wr
theorem run_stays {w w' : World} {B e k n : Nat} {v : Value} {xs : List Value} (h : w.ownsRow B e k v n xs) (hb : Below w.heap.size w w') : w'.ownsRow B e k v n xs :=
  h.kept (row := none) ⟨hb.os, hb.tape, hb.output, hb.size, fun k hk _ => hb.block k hk⟩ (by cases hv : v.ownBlock <;> simp)
theorem RunSt.below {wr w w' : World} {gV cV : Nat} {T : Value} {st : List Nat} {s : Nat → Int} (h : RunSt wr w gV cV T st s) (k : Below wr.heap.size wr w') : RunSt w' w gV cV T st s :=
  ⟨run_stays h.ownV k, run_stays h.ownT k, h.ne, h.bel.trans (k.mono h.bel.size)⟩
theorem RunSt.form {wr w : World} {gV cV i : Nat} {T : Value} {st : List Nat} {s : Nat → Int} (h : RunSt wr w gV cV T (i :: st) s) : ∃ g cap, T = .slice (some ⟨g, 0, none⟩) (st.length + 1) cap ∧ wr.cell? ⟨g, st.length, none⟩ = some (.int .i64 (i : Int)) ∧ RunSt wr w gV cV (.slice (some ⟨g, 0, none⟩) st.length cap) st s := by
  obtain ⟨g, cap, e⟩ := drow_someK h.ownT (by simp)
  have hT := h.ownT
  rw [e] at hT
  refine ⟨g, cap, e, ?_, h.ownV, ?_, ?_, h.bel⟩
  · refine (hT.cellAt st.length (by simp)).trans ?_
    rw [rowT_cons, List.getElem?_append_right (by rw [rowT_len]; exact Nat.le_refl _), rowT_len, Nat.sub_self]; rfl
  · obtain ⟨h1, h2 | ⟨g', cap', cur, hv, hb, hh, hn, hm, hs, ht⟩⟩ := hT
    · exact absurd h2.2 (by simp)
    · obtain ⟨rfl, rfl⟩ : g = g' ∧ cap = cap' := by simp at hv; exact ⟨hv.1, hv.2⟩
      refine ⟨by rw [rowT_len]; omega, .inr ⟨g, cap, cur, rfl, hb, hh, by simp at hn; omega, hm, hs, ?_⟩⟩
      have := congrArg (List.take (st.length * 1)) ht
      rw [List.take_take, rowT_cons, List.take_append_of_le_length (by rw [rowT_len]; omega), List.take_of_length_le (l := rowT st) (by rw [rowT_len]; omega)] at this
      rw [← this]
      congr 1
      simp
  · have := h.ne
    rw [e] at this
    exact this
/-- A deed more on the pile. -/
theorem RunSt.push {wr w w5 : World} {gV cV g cap i : Nat} {T : Value} {st : List Nat} {s : Nat → Int} {o : Obj} (h : RunSt wr w gV cV T st s) (hown : w5.ownsRow w.heap.size 3 1 (.slice (some ⟨g, 0, none⟩) (st.length + 1) cap) (st.length + 1) (rowT st ++ [.int .i64 (i : Int)])) (hg : (wr.alloc o).grownBy w5 T.ownBlock) (hat : T.ownBlock = some g ∨ g = wr.heap.size + 1) : RunSt w5 w gV cV (.slice (some ⟨g, 0, none⟩) (st.length + 1) cap) (i :: st) s := by
  have hV := h.ownV.lt gV rfl
  refine ⟨(h.ownV.alloc _).kept hg (.inr fun q => h.ne q.symm), by rw [rowT_cons]; exact hown, ?_, ?_⟩
  · intro q
    have q : g = gV := by simpa [Value.ownBlock] using q
    subst q
    rcases hat with q | q
    · exact h.ne q
    · omega
  · exact (h.bel.alloc h.bel.size _).grown hg (by simp; have := h.bel.size; omega) (fun k hk => (h.ownT.lt k hk).1)
/-- A variable anew. -/
theorem RunSt.set {wr w : World} {gV cV k : Nat} {T : Value} {st : List Nat} {s : Nat → Int} (h : RunSt wr w gV cV T st s) (hk : k < 6) (v : Int) : RunSt (wr.setCell ⟨gV, k, none⟩ (.int .i64 v)) w gV cV T st (upv s k v) := by
  have hV := h.ownV.lt gV rfl
  refine ⟨?_, ?_, h.ne, h.bel.setCell (p := ⟨gV, k, none⟩) hV.1 _⟩
  · have e : (rowI 6 s).set k (.int .i64 v) = rowI 6 (upv s k v) := by
      refine List.ext_getElem? fun i => ?_
      rw [List.getElem?_set]
      unfold rowI upv
      by_cases e : k = i
      · subst e; simp [hk]
      · rw [if_neg e]
        by_cases hi : i < 6
        · simp [hi, (show i ≠ k from fun q => e q.symm)]
        · simp [hi]
    rw [← e]
    exact (h.ownV.stored k _).1
  · exact h.ownT.kept (row := some gV) ⟨rfl, rfl, rfl, by simp [World.setCell], fun j _ hj => Below.heap_setCell _ _ _ j (fun q => hj (by rw [q]))⟩ (.inr h.ne)
/-- The pile is no longer than the program: each is below a bound, and the bounds rise. -/
def Chn (n : Nat) : Nat → List Nat → Prop
  | c, [] => c ≤ n
  | c, x :: r => ∃ c', c < c' ∧ x < c' ∧ Chn n c' r
theorem chn_len {n : Nat} : ∀ {c : Nat} {r : List Nat}, Chn n c r → c + r.length ≤ n
  | c, [], h => h
  | c, x :: r, ⟨c', h1, _, h3⟩ => by have := chn_len h3; rw [List.length_cons]; omega
theorem chn_low {n c d : Nat} (h : d ≤ c) : ∀ {r : List Nat}, Chn n c r → Chn n d r
  | [], k => Nat.le_trans h k
  | x :: r, ⟨c', h1, h2, h3⟩ => ⟨c', by omega, h2, h3⟩
theorem chn_pop {n i : Nat} {r : List Nat} (h : Chn n 0 (i :: r)) : Chn n 0 r := by
  obtain ⟨c', _, _, h3⟩ := h
  exact chn_low (Nat.zero_le _) h3
theorem chn_both {n i a b : Nat} {r : List Nat} (h : Chn n 0 (i :: r)) (ha : a < i) (hb : b ≤ i) : Chn n 0 (a :: b :: r) := by
  obtain ⟨c', _, h2, h3⟩ := h
  exact ⟨i, by omega, ha, i + 1, by omega, by omega, chn_low (by omega) h3⟩
theorem chn_one {n i a : Nat} {r : List Nat} (h : Chn n 0 (i :: r)) (ha : a < i) : Chn n 0 (a :: r) := by
  obtain ⟨c', _, h2, h3⟩ := h
  exact ⟨i, by omega, ha, chn_low (by omega) h3⟩
theorem box_grown {W w5 : World} {o : Obj} {Y j : Nat} {u : Value} {row : Option Nat} (hc : W.cell? ⟨Y, j, none⟩ = some u) (hg : (W.alloc o).grownBy w5 row) (hne : row ≠ some Y) : w5.cell? ⟨Y, j, none⟩ = some u := by
  have lt := old_of_cell hc
  have h1 := keep_cell ((Below.refl _ W).alloc (Nat.le_refl _) o) hc
  exact (hg.cell_far ⟨Y, j, none⟩ (by simp; omega) (fun q => hne q.symm)).trans h1
theorem own_built (w : World) (u : Value) (hu : u.oneCell' = true) (t : TypeId) : (w.alloc (.cells #[u] t)).ownsRow w.heap.size t 1 (.slice (some ⟨w.heap.size, 0, none⟩) 1 1) 1 [u] :=
  ⟨rfl, .inr ⟨w.heap.size, 1, #[u], rfl, Nat.le_refl _, World.alloc_heap_new w _, Nat.le_refl _, by decide, rfl, rfl⟩⟩
theorem RunSt.var {wr w : World} {gV cV k : Nat} {T : Value} {st : List Nat} {s : Nat → Int} (h : RunSt wr w gV cV T st s) (hk : k < 6) : wr.cell? ⟨gV, k, none⟩ = some (.int .i64 (s k)) ∧ wr.frozen? ⟨gV, k, none⟩ = false := by
  obtain ⟨a, g, cap, e, hq⟩ := row_form h.ownV
  obtain ⟨ea, _, hc, hf⟩ := hq (by decide)
  have e2 : g = gV := by rw [ea] at e; simp at e; exact e.1.symm
  subst e2
  exact ⟨hc k _ (rowI_get _ hk), hf k _ (rowI_get _ hk)⟩
theorem Good.bothN {l : List Nod} (h : Good l) {i : Nat} (hi : i < l.length) (h7 : (nthD l i).kd = 7) : ∃ a b : Nat, (nthD l i).pa = (a : Int) ∧ (nthD l i).pb = (b : Int) ∧ a < i ∧ b < i ∧ 5 ≤ (nthD l a).kd ∧ 5 ≤ (nthD l b).kd := by
  obtain ⟨⟨a1, b1⟩, a2, b2⟩ := h.both hi h7
  obtain ⟨_, _, a3, a4⟩ := wf_two h.r.wf hi (.inr (.inl h7))
  exact ⟨_, _, (Int.toNat_of_nonneg a3).symm, (Int.toNat_of_nonneg a4).symm, a1, a2, b1, b2⟩
theorem Good.setN {l : List Nod} (h : Good l) {i : Nat} (hi : i < l.length) (h6 : (nthD l i).kd = 6) : ∃ a k : Nat, (nthD l i).pa = (a : Int) ∧ (nthD l i).num = (k : Int) ∧ a < i ∧ k < 6 ∧ (nthD l a).kd < 5 := by
  obtain ⟨a1, a3⟩ := wf_set h.r.wf hi h6
  obtain ⟨k, ek, hk⟩ := h.var hi (.inr h6)
  have hp : prtL (nthD l i) = [(nthD l i).pa] := by unfold prtL; rw [if_neg (by omega), if_pos h6]
  have t1 := h.t.val i hi 0 _ (by rw [hp]; rfl)
  unfold valB at t1
  rw [decide_eq_decide] at t1
  exact ⟨_, k, (Int.toNat_of_nonneg a3).symm, ek, a1, hk, by omega⟩
theorem Good.ifN {l : List Nod} (h : Good l) {i : Nat} (hi : i < l.length) (h8 : (nthD l i).kd = 8) : ∃ a b c : Nat, (nthD l i).pa = (a : Int) ∧ (nthD l i).pb = (b : Int) ∧ (nthD l i).pc = (c : Int) ∧ a < i ∧ b < i ∧ c < i ∧ (nthD l a).kd < 5 ∧ 5 ≤ (nthD l b).kd ∧ 5 ≤ (nthD l c).kd := by
  obtain ⟨a1, ⟨a2, b2⟩, a3, b3⟩ := h.if hi h8
  obtain ⟨_, _, _, c1, c2, c3⟩ := wf_if h.r.wf hi h8
  have hp : prtL (nthD l i) = [(nthD l i).pa, (nthD l i).pb, (nthD l i).pc] := by unfold prtL; rw [if_pos h8]
  have t1 := h.t.val i hi 0 _ (by rw [hp]; rfl)
  unfold valB at t1
  rw [decide_eq_decide] at t1
  exact ⟨_, _, _, (Int.toNat_of_nonneg c1).symm, (Int.toNat_of_nonneg c2).symm, (Int.toNat_of_nonneg c3).symm, a1, a2, a3, by omega, b2, b3⟩
theorem Good.whlN {l : List Nod} (h : Good l) {i : Nat} (hi : i < l.length) (h9 : (nthD l i).kd = 9) : ∃ a b : Nat, (nthD l i).pa = (a : Int) ∧ (nthD l i).pb = (b : Int) ∧ a < i ∧ b < i ∧ (nthD l a).kd < 5 ∧ 5 ≤ (nthD l b).kd := by
  obtain ⟨a1, a2, b2⟩ := h.whl hi h9
  obtain ⟨_, _, a3, a4⟩ := wf_two h.r.wf hi (.inr (.inr h9))
  have hp : prtL (nthD l i) = [(nthD l i).pa, (nthD l i).pb] := by unfold prtL; rw [if_neg (by omega), if_neg (by omega), if_pos (.inr (.inr h9))]
  have t1 := h.t.val i hi 0 _ (by rw [hp]; rfl)
  unfold valB at t1
  rw [decide_eq_decide] at t1
  exact ⟨_, _, (Int.toNat_of_nonneg a3).symm, (Int.toNat_of_nonneg a4).symm, a1, a2, by omega, b2⟩
end Go.Proofs.YtioimgeeamchaaaDoor
