/- Rows of users and files as they grow, and the monitor that they make. -/
import Derived.WalkKit
import Derived.LoopTactic
import Derived.Deep.LoopGhost
import Derived.Deep.Cut
import Derived.Deep.RegionLaw
import Derived.Deep.RegionHeld3
import Derived.Deep.AppendLies
import Derived.Deep.DrawnRows
import Derived.Test.YteheaeihoameeaaDoorBellChk
namespace Go.Proofs.YteheaeihoameeaaDoor
open Go.RowKit
attribute [local go_sem ↓] Go.wp_at_zero Go.wp_at_succ
set_option maxRecDepth 100000

/-- A monitor of labels, as it begins. -/
def newSt (n m : Nat) (z y : Nat → Int × Int) : BellSt :=
  { nu := n, nf := m, ul := fun i => (z i).1.toNat, us := fun i => (z i).2.toNat, ur := fun _ => 0, uw := fun _ => 0, fl := fun i => (y i).1.toNat, fs := fun i => (y i).2.toNat, fh := fun i => 2 ^ i }
/-- Users in a row, as they lie in memory. -/
def rowU (z : Nat → Int × Int) : Nat → List Value
  | 0 => []
  | k + 1 => rowU z k ++ [.int .i64 (z k).1, .int .i64 (z k).2, .int .i64 0, .int .i64 0]
def rowF (y : Nat → Int × Int) : Nat → List Value
  | 0 => []
  | k + 1 => rowF y k ++ [.int .i64 (y k).1, .int .i64 (y k).2, .int .i64 (2 ^ k : Nat)]
theorem AtLabs.below {w W : World} {a : Option Addr} {n : Nat} {z : Nat → Int × Int} (h : AtLabs w a n z) (b : Below w.heap.size w W) : AtLabs W a n z :=
  h.imp id fun ⟨b', off, e, hl⟩ => ⟨b', off, e, Nat.lt_of_lt_of_le hl.old b.size, fun i hi => (b.cell (p := ⟨b', off + i * 2, none⟩) hl.old).trans (hl.c1 i hi), fun i hi => (b.cell (p := ⟨b', off + i * 2 + 1, none⟩) hl.old).trans (hl.c2 i hi)⟩
theorem infoU : (Tryd.prog.info? 60).map (fun i => (i.zero, i.size, i.bytes)) = some (some (.agg #[.int .i64 0, .int .i64 0, .int .i64 0, .int .i64 0]), 4, 32) := by kernel_rfl
theorem infoF : (Tryd.prog.info? 62).map (fun i => (i.zero, i.size, i.bytes)) = some (some (.agg #[.int .i64 0, .int .i64 0, .int .i64 0]), 3, 24) := by kernel_rfl

theorem pow_wrapI {a : Nat} (h : a ≤ 12) : IntKind.i64.wrap ((2 : Int) ^ a) = ((2 ^ a : Nat) : Int) := by
  have h1 : 2 ^ a ≤ 4096 := pow12 h
  have h2 : (2 : Int) ^ a = ((2 ^ a : Nat) : Int) := by simp
  rw [h2]
  obtain ⟨p, hp⟩ : ∃ p, 2 ^ a = p := ⟨_, rfl⟩
  rw [hp] at h1 ⊢
  exact wraps62 _ (by omega) (by omega)
theorem rowU_len (z : Nat → Int × Int) (n : Nat) : (rowU z n).length = n * 4 := by
  induction n with
  | zero => rfl
  | succ k ih => simp only [rowU, List.length_append, ih, List.length_cons, List.length_nil]; omega
theorem rowF_len (z : Nat → Int × Int) (n : Nat) : (rowF z n).length = n * 3 := by
  induction n with
  | zero => rfl
  | succ k ih => simp only [rowF, List.length_append, ih, List.length_cons, List.length_nil]; omega
theorem rowU_get (z : Nat → Int × Int) {n i : Nat} (h : i < n) (j : Nat) (hj : j < 4) : (rowU z n)[i * 4 + j]? = [Value.int .i64 (z i).1, .int .i64 (z i).2, .int .i64 0, .int .i64 0][j]? := by
  induction n with
  | zero => omega
  | succ k ih =>
    have hl := rowU_len z k
    rw [rowU]
    by_cases e : i = k
    · subst e
      rw [List.getElem?_append_right (by omega), hl]
      congr 1
      omega
    · rw [List.getElem?_append_left (by omega)]
      exact ih (by omega)
theorem rowF_get (z : Nat → Int × Int) {n i : Nat} (h : i < n) (j : Nat) (hj : j < 3) : (rowF z n)[i * 3 + j]? = [Value.int .i64 (z i).1, .int .i64 (z i).2, .int .i64 (2 ^ i : Nat)][j]? := by
  induction n with
  | zero => omega
  | succ k ih =>
    have hl := rowF_len z k
    rw [rowF]
    by_cases e : i = k
    · subst e
      rw [List.getElem?_append_right (by omega), hl]
      congr 1
      omega
    · rw [List.getElem?_append_left (by omega)]
      exact ih (by omega)
theorem lab_cast {x y : Int} (h : IsLab x y) : x = (x.toNat : Int) ∧ y = (y.toNat : Int) ∧ x.toNat ≤ 7 ∧ y.toNat < 256 := by
  unfold IsLab at h
  omega
theorem newSt_ok {n m : Nat} {z y : Nat → Int × Int} (hn : n ≤ 8) (hm : m ≤ 8) (hz : AllLab n z) (hy : AllLab m y) : BellOk (newSt n m z y) :=
  ⟨hn, hm, fun i hi => (lab_cast (hz i hi)).2.2.1, fun i hi => (lab_cast (hz i hi)).2.2.2, fun _ _ => Nat.two_pow_pos _, fun _ _ => Nat.two_pow_pos _, fun i hi => (lab_cast (hy i hi)).2.2.1, fun i hi => (lab_cast (hy i hi)).2.2.2, fun i hi => Nat.pow_lt_pow_right (by decide) hi⟩
theorem mon_of {W : World} {n0 B F n m : Nat} {v v' : Value} {z y : Nat → Int × Int} {e e' : TypeId} (h0 : n0 ≤ B) (hX : Boxes W B v v') (hu : W.ownsRow (B + 1) e 4 v n (rowU z n)) (hf : W.ownsRow F e' 3 v' m (rowF y m)) (hF : B + 1 ≤ F) (hv : ∀ j, v.ownBlock = some j → j < F) (hz : AllLab n z) (hy : AllLab m y) :
    ∃ au af gu gf cu cf, Mon n0 W.heap.size B au af gu gf cu cf W (newSt n m z y) := by
  obtain ⟨au, gu, cu, rfl, qu⟩ := row_form hu
  obtain ⟨af, gf, cf, rfl, qf⟩ := row_form hf
  have cu' := fun i (hi : i < n) j u (hj : j < 4) (e : [Value.int .i64 (z i).1, .int .i64 (z i).2, .int .i64 0, .int .i64 0][j]? = some u) => (qu (by omega)).2.2.1 (i * 4 + j) u ((rowU_get z hi j hj).trans e)
  have ru' := fun i (hi : i < n) j u (hj : j < 4) (e : [Value.int .i64 (z i).1, .int .i64 (z i).2, .int .i64 0, .int .i64 0][j]? = some u) => (qu (by omega)).2.2.2 (i * 4 + j) u ((rowU_get z hi j hj).trans e)
  have cf' := fun i (hi : i < m) j u (hj : j < 3) (e : [Value.int .i64 (y i).1, .int .i64 (y i).2, .int .i64 (2 ^ i : Nat)][j]? = some u) => (qf (by omega)).2.2.1 (i * 3 + j) u ((rowF_get y hi j hj).trans e)
  have rf' := fun i (hi : i < m) j u (hj : j < 3) (e : [Value.int .i64 (y i).1, .int .i64 (y i).2, .int .i64 (2 ^ i : Nat)][j]? = some u) => (qf (by omega)).2.2.2 (i * 3 + j) u ((rowF_get y hi j hj).trans e)
  refine ⟨au, af, gu, gf, cu, cf, hX.c0, hX.c1, h0, fun h => ?_, fun h => ?_, fun h h' => ?_, fun i hi => ?_, fun i hi => ?_, fun i hi => ?_, fun i hi => ?_, fun i hi => ?_, fun i hi => ?_, fun i hi => ?_, fun i hi => ?_, fun i hi => ?_, fun i hi => ?_⟩
  · have q := qu h
    exact ⟨q.1, by omega, by omega, old_of_cell (cu' 0 h 0 _ (by omega) rfl)⟩
  · have q := qf h
    exact ⟨q.1, by omega, by omega, old_of_cell (cf' 0 h 0 _ (by omega) rfl)⟩
  · have q := qu h
    have q' := qf h'
    have := hv gu (by rw [q.1]; rfl)
    omega
  · have q := cu' i hi 0 _ (by omega) rfl
    rw [Nat.add_zero] at q
    rw [q, (lab_cast (hz i hi)).1]; rfl
  · rw [cu' i hi 1 _ (by omega) rfl, (lab_cast (hz i hi)).2.1]; rfl
  · exact cu' i hi 2 _ (by omega) rfl
  · exact cu' i hi 3 _ (by omega) rfl
  · exact ru' i hi 2 _ (by omega) rfl
  · exact ru' i hi 3 _ (by omega) rfl
  · have q := cf' i hi 0 _ (by omega) rfl
    rw [Nat.add_zero] at q
    rw [q, (lab_cast (hy i hi)).1]; rfl
  · rw [cf' i hi 1 _ (by omega) rfl, (lab_cast (hy i hi)).2.1]; rfl
  · exact cf' i hi 2 _ (by omega) rfl
  · exact rf' i hi 2 _ (by omega) rfl

end Go.Proofs.YteheaeihoameeaaDoor
