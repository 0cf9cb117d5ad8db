/- Lists of numbers that lie in blocks of some kind: what leaves them as they were, and those that a call made. -/
import Derived.WalkKit
import Derived.Test.YtoecomgiggalkaaDoorBetw
namespace Go.Proofs.YtoecomgiggalkaaDoor
open Go.RowKit

/-- A value is a list of n numbers that lies in a block of the kind P. -/
def Lstp (P : Nat → Prop) (w : World) (v : Value) (n : Nat) (f : Nat → Int) : Prop := ∃ a cp, v = .slice a n cp ∧ (n = 0 ∨ ∃ b off, a = some ⟨b, off, none⟩ ∧ P b ∧ b < w.heap.size ∧ ∀ i, i < n → w.cell? ⟨b, off + i, none⟩ = some (.int .i64 (f i)))
section
variable {P P' : Nat → Prop} {n n0 n1 X B o : Nat} {w w' : World} {v : Value} {f g : Nat → Int}
theorem Lstp.lst (h : Lstp P w v n f) : Lst w v n f := by
  obtain ⟨a, cp, e, h | ⟨b, off, ea, _, hl, hc⟩⟩ := h
  · exact ⟨a, cp, e, .inl h⟩
  · exact ⟨a, cp, e, .inr ⟨b, off, ea, hl, hc⟩⟩
theorem Lstp.betw (h : Lstp P w v n f) (k : Betw n0 n1 w w') (hP : ∀ b, P b → b < n0 ∨ n1 ≤ b) : Lstp P w' v n f := by
  obtain ⟨a, cp, e, h | ⟨b, off, ea, ho, hl, hc⟩⟩ := h
  · exact ⟨a, cp, e, .inl h⟩
  · exact ⟨a, cp, e, .inr ⟨b, off, ea, ho, Nat.lt_of_lt_of_le hl k.size, fun i hi => (k.cell (p := ⟨b, off + i, none⟩) hl (hP b ho)).trans (hc i hi)⟩⟩
theorem Lstp.below (h : Lstp P w v n f) (k : Below w.heap.size w w') : Lstp P w' v n f := by
  obtain ⟨a, cp, e, h | ⟨b, off, ea, ho, hl, hc⟩⟩ := h
  · exact ⟨a, cp, e, .inl h⟩
  · exact ⟨a, cp, e, .inr ⟨b, off, ea, ho, Nat.lt_of_lt_of_le hl k.size, fun i hi => (k.cell (p := ⟨b, off + i, none⟩) hl).trans (hc i hi)⟩⟩
theorem Lstp.weak (h : Lstp P w v n f) (hP : ∀ b, b < w.heap.size → P b → P' b) : Lstp P' w v n f := by
  obtain ⟨a, cp, e, h | ⟨b, off, ea, ho, hl, hc⟩⟩ := h
  · exact ⟨a, cp, e, .inl h⟩
  · exact ⟨a, cp, e, .inr ⟨b, off, ea, hP b hl ho, hl, hc⟩⟩
theorem Lstp.like (h : Lstp P w v n f) (e : ∀ i, i < n → f i = g i) : Lstp P w v n g := by
  obtain ⟨a, cp, ev, h | ⟨b, off, ea, ho, hl, hc⟩⟩ := h
  · exact ⟨a, cp, ev, .inl h⟩
  · exact ⟨a, cp, ev, .inr ⟨b, off, ea, ho, hl, fun i hi => by rw [hc i hi, e i hi]⟩⟩
theorem Lstp.drawn (h : Lstp P w v n f) (k : Nat) : Lstp P (w.drewN k) v n f := h
theorem Lstp.drew (h : Lstp P w v n f) : Lstp P w.drew v n f := h
theorem Lstp.put (h : Lstp P w v n f) (hB : ∀ b, P b → b ≠ B) (u : Value) : Lstp P (w.setCell ⟨B, o, none⟩ u) v n f := by
  obtain ⟨a, cp, e, h | ⟨b, off, ea, ho, hl, hc⟩⟩ := h
  · exact ⟨a, cp, e, .inl h⟩
  · have hb := hB b ho
    exact ⟨a, cp, e, .inr ⟨b, off, ea, ho, Nat.lt_of_lt_of_le hl ((Below.refl 0 w).setCell (p := ⟨B, o, none⟩) (Nat.zero_le _) u).size, fun i hi => (cell_far fun e => hb e.1).trans (hc i hi)⟩⟩
theorem Lstp.putN (h : Lstp (fun b => X ≤ b) w v n f) (hB : B < X) (u : Value) : Lstp (fun b => X ≤ b) (w.setCell ⟨B, o, none⟩ u) v n f := h.put (fun b hb => by omega) u
theorem Lstp.some (h : Lstp P w v n f) (hn : 0 < n) : ∃ b off cp, v = .slice (some ⟨b, off, none⟩) n cp ∧ b < w.heap.size ∧ ∀ i, i < n → w.cell? ⟨b, off + i, none⟩ = some (.int .i64 (f i)) := by
  obtain ⟨a, cp, rfl, h | ⟨b, off, rfl, _, hl, hc⟩⟩ := h
  · omega
  · exact ⟨b, off, cp, rfl, hl, hc⟩
/-- A list that was there. -/
theorem lstp_old (h : Lst w v n f) (hP : ∀ b, b < w.heap.size → P b) : Lstp P w v n f := by
  obtain ⟨a, cp, e, h | ⟨b, off, ea, hl, hc⟩⟩ := h
  · exact ⟨a, cp, e, .inl h⟩
  · exact ⟨a, cp, e, .inr ⟨b, off, ea, hP b hl, hl, hc⟩⟩
/-- A list that was just made. -/
theorem lstp_of_row {base : Nat} (h : w.ownsRow base 3 1 v n (rowI n f)) (hb : ∀ b, base ≤ b → P b) : Lstp P w v n f := by
  obtain ⟨a, g, cap, rfl, hq⟩ := row_form h
  refine ⟨a, cap, rfl, ?_⟩
  rcases Nat.eq_zero_or_pos n with h0 | h0
  · exact .inl h0
  · obtain ⟨e, hg, hc, _⟩ := hq h0
    have c := fun j (hj : j < n) => hc j _ (rowI_get f hj)
    exact .inr ⟨g, 0, e, hb g hg, old_of_cell (c 0 h0), fun i hi => by rw [Nat.zero_add]; exact c i hi⟩
end
end Go.Proofs.YtoecomgiggalkaaDoor
