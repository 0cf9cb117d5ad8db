/- Programs as lists of deeds, plainly: nodes without Skips and Boths; their texts, and what they do. -/
import Derived.Test.YtioimgeeamchaaaDoorRunC
namespace Go.Proofs.YtioimgeeamchaaaDoor
open Go.RowKit
set_option maxRecDepth 100000
set_option linter.unusedVariables false

/-- A node of a program. -/
structure Nd where
  l : List Nod
  i : Nat
def tN (d : Nd) : List Nat := txN d.l (d.i : Int)
def vN (d : Nd) (s : Nat → Int) : Int := vl d.l d.i s
def xN (d : Nd) (s : Nat → Int) (f : Nat) : Rn := ex d.l d.i s f
structure OkV (d : Nd) : Prop where
  g : Good d.l
  i : d.i < d.l.length
  k : (nthD d.l d.i).kd < 5
structure OkN (d : Nd) : Prop where
  g : Good d.l
  i : d.i < d.l.length
  k : (nthD d.l d.i).kd = 6 ∨ (nthD d.l d.i).kd = 8 ∨ (nthD d.l d.i).kd = 9
/-- Deeds, one behind the other: their text, and what they do. -/
def tD : List Nd → List Nat
  | [] => []
  | d :: r => tN d ++ tD r
def eD : List Nd → (Nat → Int) → Nat → Rn
  | [], s, f => some (s, f)
  | d :: r, s, f => (xN d s f).bind fun q => eD r q.1 q.2
def OkD (D : List Nd) : Prop := ∀ d ∈ D, OkN d
theorem okD_nil : OkD [] := fun _ h => by cases h
theorem OkD.head {d : Nd} {r : List Nd} (h : OkD (d :: r)) : OkN d := h d (by simp)
theorem OkD.tail {d : Nd} {r : List Nd} (h : OkD (d :: r)) : OkD r := fun x hx => h x (by simp [hx])
theorem OkD.app {a b : List Nd} (h : OkD a) (k : OkD b) : OkD (a ++ b) := fun x hx => (List.mem_append.1 hx).elim (h x) (k x)
theorem tD_app : ∀ (a b : List Nd), tD (a ++ b) = tD a ++ tD b
  | [], b => rfl
  | d :: a, b => by rw [List.cons_append, tD, tD, tD_app a b, List.append_assoc]
theorem eD_app : ∀ (a b : List Nd) (s : Nat → Int) (f : Nat), eD (a ++ b) s f = (eD a s f).bind fun q => eD b q.1 q.2
  | [], b, s, f => rfl
  | d :: a, b, s, f => by
    rw [List.cons_append, eD, eD]
    cases xN d s f with
    | none => rfl
    | some q => exact eD_app a b q.1 q.2
theorem eD_one (d : Nd) (s : Nat → Int) (f : Nat) : eD [d] s f = xN d s f := by
  show (xN d s f).bind (fun q => some (q.1, q.2)) = _
  cases xN d s f <;> rfl

/-- A deed's node as such a list. -/
def fl : Nat → List Nod → Nat → List Nd
  | 0, _, _ => []
  | k + 1, l, i => if (nthD l i).kd = 5 then [] else if (nthD l i).kd = 7 then fl k l (nthD l i).pa.toNat ++ fl k l (nthD l i).pb.toNat else [⟨l, i⟩]
def flat (l : List Nod) (i : Nat) : List Nd := fl (i + 1) l i
theorem fl_fuel {l : List Nod} (hG : Good l) : ∀ (m i : Nat), i < m → i < l.length → 5 ≤ (nthD l i).kd → ∀ k k', i < k → i < k' → fl k l i = fl k' l i
  | 0, _, h, _, _ => absurd h (by omega)
  | m + 1, i, him, hi, h5 => fun k k' hk hk' => by
    obtain ⟨k, rfl⟩ : ∃ q, k = q + 1 := ⟨k - 1, by omega⟩
    obtain ⟨k', rfl⟩ : ∃ q, k' = q + 1 := ⟨k' - 1, by omega⟩
    rw [fl, fl]
    split
    · rfl
    split
    · rename_i h7
      obtain ⟨⟨a1, b1⟩, a2, b2⟩ := hG.both hi h7
      rw [fl_fuel hG m _ (by omega) (by omega) b1 k k' (by omega) (by omega), fl_fuel hG m _ (by omega) (by omega) b2 k k' (by omega) (by omega)]
    · rfl
theorem flat_all {l : List Nod} (hG : Good l) : ∀ (m i : Nat), i < m → i < l.length → 5 ≤ (nthD l i).kd → tD (flat l i) = txN l (i : Int) ∧ (∀ s f, eD (flat l i) s f = ex l i s f) ∧ OkD (flat l i)
  | 0, _, h, _, _ => absurd h (by omega)
  | m + 1, i, him, hi, h5 => by
    have hkd := hG.kd hi
    by_cases h5' : (nthD l i).kd = 5
    · have e : flat l i = [] := by rw [flat, fl, if_pos h5']
      rw [e, txN_eq hG.r.wf hi]
      refine ⟨?_, fun s f => (ex_skip h5').symm, okD_nil⟩
      unfold txB
      rw [if_neg (by omega), if_neg (by omega), if_neg (by omega), if_neg (by omega), if_neg (by omega), if_neg (by omega), if_neg (by omega), if_neg (by omega), if_neg (by omega)]
      rfl
    by_cases h7 : (nthD l i).kd = 7
    · obtain ⟨a, b, ea, eb, ha, hb, ka, kb⟩ := hG.bothN hi h7
      obtain ⟨t1, x1, o1⟩ := flat_all hG m a (by omega) (by omega) ka
      obtain ⟨t2, x2, o2⟩ := flat_all hG m b (by omega) (by omega) kb
      have e : flat l i = flat l a ++ flat l b := by
        rw [flat, fl, if_neg h5', if_pos h7, ea, eb, Int.toNat_natCast, Int.toNat_natCast, fl_fuel hG i a ha (by omega) ka i (a + 1) ha (by omega), fl_fuel hG i b hb (by omega) kb i (b + 1) hb (by omega)]
        rfl
      rw [e, txN_eq hG.r.wf hi]
      refine ⟨?_, fun s f => ?_, o1.app o2⟩
      · rw [tD_app, t1, t2]
        unfold txB
        rw [if_neg (by omega), if_neg (by omega), if_neg (by omega), if_neg (by omega), if_neg (by omega), if_neg (by omega), if_pos h7, ea, eb]
      · rw [eD_app, x1, ex_both hG hi h7, ea, eb, Int.toNat_natCast, Int.toNat_natCast]
        congr 1
        funext q
        exact x2 q.1 q.2
    · have e : flat l i = [⟨l, i⟩] := by rw [flat, fl, if_neg h5', if_neg h7]
      rw [e]
      refine ⟨?_, fun s f => eD_one _ s f, fun d hd => ?_⟩
      · show txN l (i : Int) ++ [] = _
        rw [List.append_nil]
      · obtain rfl := List.mem_singleton.1 hd
        exact ⟨hG, hi, by show (nthD l i).kd = 6 ∨ (nthD l i).kd = 8 ∨ (nthD l i).kd = 9; omega⟩
def flat0 (l : List Nod) : List Nd := flat l (l.length - 1)
theorem flat0_all {l : List Nod} (hG : Good l) : tD (flat0 l) = txN l (lstI l) ∧ (∀ s f, eD (flat0 l) s f = runP l s f) ∧ OkD (flat0 l) := by
  have h0 := hG.r.some
  exact flat_all hG l.length (l.length - 1) (by omega) (by omega) hG.r.deed

def sgK (k : Int) : Nat := if k = 2 then 43 else if k = 3 then 60 else 61
/-- A value's node: a number, a variable, or two values. -/
theorem val_view {d : Nd} (h : OkV d) : (∃ n : Nat, n ≤ 999999 ∧ tN d = 35 :: digs n ∧ ∀ s, vN d s = (n : Int)) ∨ (∃ k : Nat, k < 6 ∧ tN d = [97 + k] ∧ ∀ s, vN d s = s k) ∨
    (∃ (k : Int) (a b : Nd), (2 ≤ k ∧ k ≤ 4) ∧ OkV a ∧ OkV b ∧ a.i < d.i ∧ b.i < d.i ∧ tN d = sgK k :: (tN a ++ tN b) ∧ ∀ s, vN d s = opV k (vN a s) (vN b s)) := by
  obtain ⟨l, i⟩ := d
  obtain ⟨hG, hi, h5⟩ := h
  simp only at hG hi h5
  have hkd := hG.kd hi
  have hk := hG.r.kin i hi
  unfold kinB at hk
  simp only [decide_eq_true_eq] at hk
  have ht : tN ⟨l, i⟩ = txB (nthD l i) (txN l) := txN_eq hG.r.wf hi
  rw [ht]
  unfold txB
  by_cases h0 : (nthD l i).kd = 0
  · have := hk.2.2.1 h0
    refine .inl ⟨(nthD l i).num.toNat, by omega, by rw [if_pos h0], fun s => ?_⟩
    show vl l i s = _
    rw [vl_num h0]
    omega
  by_cases h1 : (nthD l i).kd = 1
  · have := hk.2.2.2 (.inl h1)
    refine .inr (.inl ⟨(nthD l i).num.toNat, by omega, by rw [if_neg h0, if_pos h1], fun s => ?_⟩)
    show vl l i s = _
    rw [vl_var h1]
  obtain ⟨a, b, ea, eb, ha, hb, ka, kb⟩ := hG.two hi (by omega)
  refine .inr (.inr ⟨(nthD l i).kd, ⟨l, a⟩, ⟨l, b⟩, by omega, ⟨hG, by show a < l.length; omega, ka⟩, ⟨hG, by show b < l.length; omega, kb⟩, ha, hb, ?_, fun s => ?_⟩)
  · rw [if_neg h0, if_neg h1, ea, eb]
    show _ = sgK (nthD l i).kd :: (txN l (a : Int) ++ txN l (b : Int))
    unfold sgK
    by_cases h2 : (nthD l i).kd = 2
    · rw [if_pos h2, if_pos h2]
    rw [if_neg h2, if_neg h2]
    by_cases h3 : (nthD l i).kd = 3
    · rw [if_pos h3, if_pos h3]
    rw [if_neg h3, if_neg h3, if_pos (by omega)]
  · show vl l i s = opV _ (vl l a s) (vl l b s)
    rw [vl_two hG.r.wf hi (by omega), ea, eb, Int.toNat_natCast, Int.toNat_natCast]
/-- A deed's node: a Set, an If, or a While. -/
theorem deed_view {d : Nd} (h : OkN d) : (∃ (k : Nat) (v : Nd), k < 6 ∧ OkV v ∧ (∀ x, tN d ++ x = (97 + k) :: 61 :: (tN v ++ 59 :: x)) ∧ ∀ s f, xN d s f = if f = 0 then none else some (upv s k (vN v s), f - 1)) ∨
    (∃ (v : Nd) (A B : List Nd), OkV v ∧ OkD A ∧ OkD B ∧ (∀ x, tN d ++ x = 63 :: (tN v ++ 123 :: (tD A ++ 125 :: 123 :: (tD B ++ 125 :: x)))) ∧ ∀ s f, xN d s f = if f = 0 then none else eD (if vN v s ≠ 0 then A else B) s (f - 1)) ∨
    (∃ (v : Nd) (A : List Nd), OkV v ∧ OkD A ∧ (∀ x, tN d ++ x = 64 :: (tN v ++ 123 :: (tD A ++ 125 :: x))) ∧ ∀ s f, xN d s f = if f = 0 then none else if vN v s = 0 then some (s, f - 1) else (eD A s (f - 1)).bind fun q => xN d q.1 q.2) := by
  obtain ⟨l, i⟩ := d
  obtain ⟨hG, hi, h5⟩ := h
  simp only at hG hi h5
  have ht : tN ⟨l, i⟩ = txB (nthD l i) (txN l) := txN_eq hG.r.wf hi
  rw [ht]
  unfold txB
  rw [if_neg (by omega), if_neg (by omega), if_neg (by omega), if_neg (by omega), if_neg (by omega)]
  rcases h5 with h6 | h8 | h9
  · obtain ⟨a, k, ea, ek, ha, hk, ka⟩ := hG.setN hi h6
    refine .inl ⟨k, ⟨l, a⟩, hk, ⟨hG, by show a < l.length; omega, ka⟩, fun x => ?_, fun s f => ?_⟩
    · rw [if_pos h6, ek, ea, Int.toNat_natCast]
      show _ = (97 + k) :: 61 :: (txN l (a : Int) ++ 59 :: x)
      simp
    · show ex l i s f = _
      cases f with
      | zero => rw [if_pos rfl]; exact ex_out (by omega) (by omega)
      | succ f => rw [if_neg (by omega), ex_set h6, ek, ea, Int.toNat_natCast, Int.toNat_natCast]; rfl
  · obtain ⟨a, b, c, ea, eb, ec, ha, hb, hc, ka, kb, kc⟩ := hG.ifN hi h8
    obtain ⟨t1, x1, o1⟩ := flat_all hG (b + 1) b (Nat.lt_succ_self _) (by omega) kb
    obtain ⟨t2, x2, o2⟩ := flat_all hG (c + 1) c (Nat.lt_succ_self _) (by omega) kc
    refine .inr (.inl ⟨⟨l, a⟩, flat l b, flat l c, ⟨hG, by show a < l.length; omega, ka⟩, o1, o2, fun x => ?_, fun s f => ?_⟩)
    · rw [if_neg (by omega), if_neg (by omega), if_pos h8, ea, eb, ec, t1, t2]
      show _ = 63 :: (txN l (a : Int) ++ 123 :: (txN l (b : Int) ++ 125 :: 123 :: (txN l (c : Int) ++ 125 :: x)))
      simp
    · show ex l i s f = _
      cases f with
      | zero => rw [if_pos rfl]; exact ex_out (by omega) (by omega)
      | succ f =>
        rw [if_neg (by omega)]
        by_cases hv : vl l a s = 0
        · rw [if_neg (by simpa [vN] using hv), ex_else hG hi h8 (by rw [ea]; exact hv), ec, Int.toNat_natCast, x2]; rfl
        · rw [if_pos (by simpa [vN] using hv), ex_then hG hi h8 (by rw [ea]; exact hv), eb, Int.toNat_natCast, x1]; rfl
  · obtain ⟨a, b, ea, eb, ha, hb, ka, kb⟩ := hG.whlN hi h9
    obtain ⟨t1, x1, o1⟩ := flat_all hG (b + 1) b (Nat.lt_succ_self _) (by omega) kb
    refine .inr (.inr ⟨⟨l, a⟩, flat l b, ⟨hG, by show a < l.length; omega, ka⟩, o1, fun x => ?_, fun s f => ?_⟩)
    · rw [if_neg (by omega), if_neg (by omega), if_neg (by omega), if_pos h9, ea, eb, t1]
      show _ = 64 :: (txN l (a : Int) ++ 123 :: (txN l (b : Int) ++ 125 :: x))
      simp
    · show ex l i s f = _
      cases f with
      | zero => rw [if_pos rfl]; exact ex_out (by omega) (by omega)
      | succ f =>
        rw [if_neg (by omega)]
        by_cases hv : vl l a s = 0
        · rw [if_pos (by simpa [vN] using hv), ex_stop h9 (by rw [ea]; exact hv)]; rfl
        · rw [if_neg (by simpa [vN] using hv), ex_round hG hi h9 (by rw [ea]; exact hv), eb, Int.toNat_natCast, ← x1]; rfl
end Go.Proofs.YtioimgeeamchaaaDoor
