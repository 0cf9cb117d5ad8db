/- Worlds that are alike but for some blocks in a row. -/
import Derived.WalkKit
import Derived.Test.YtoecomgiggalkaaLst
namespace Go.Proofs.Ytoecomgiggalkaa
open Go.RowKit

/-- But for the blocks from n0 to n1 the world w' is as w was. -/
structure Betw (n0 n1 : Nat) (w w' : World) : Prop where
  os : w'.os = w.os
  tape : w'.tape = w.tape
  output : w'.output = w.output
  size : w.heap.size ≤ w'.heap.size
  block : ∀ k, k < w.heap.size → (k < n0 ∨ n1 ≤ k) → w'.heap[k]? = w.heap[k]?
section
variable {n0 n1 : Nat} {a b c w w' : World}
theorem Betw.refl (n0 n1 : Nat) (w : World) : Betw n0 n1 w w := ⟨rfl, rfl, rfl, Nat.le_refl _, fun _ _ _ => rfl⟩
theorem Betw.trans (h : Betw n0 n1 a b) (k : Betw n0 n1 b c) : Betw n0 n1 a c :=
  ⟨k.os.trans h.os, k.tape.trans h.tape, k.output.trans h.output, Nat.le_trans h.size k.size, fun i hi ho => (k.block i (Nat.lt_of_lt_of_le hi h.size) ho).trans (h.block i hi ho)⟩
theorem Betw.drew (h : Betw n0 n1 a w) : Betw n0 n1 a w.drew := ⟨h.os, h.tape, h.output, h.size, h.block⟩
theorem Betw.drewN (h : Betw n0 n1 a w) (k : Nat) : Betw n0 n1 a (w.drewN k) := ⟨h.os, h.tape, h.output, h.size, h.block⟩
theorem Betw.setCell (h : Betw n0 n1 a w) {p : Addr} (hp : n0 ≤ p.block ∧ p.block < n1) (u : Value) : Betw n0 n1 a (w.setCell p u) := by
  have hb := (Below.refl 0 w).setCell (p := p) (Nat.zero_le _) u
  exact ⟨hb.os.trans h.os, hb.tape.trans h.tape, hb.output.trans h.output, Nat.le_trans h.size hb.size, fun k hk ho => (Below.heap_setCell w p u k (by omega)).trans (h.block k hk ho)⟩
theorem betw_of (h : Below w.heap.size w w') : Betw n0 n1 w w' := ⟨h.os, h.tape, h.output, h.size, fun k hk _ => h.block k hk⟩
theorem Betw.below (h : Betw n0 n1 w w') (hn : n0 ≤ w.heap.size) : Below n0 w w' := ⟨h.os, h.tape, h.output, h.size, fun k hk => h.block k (Nat.lt_of_lt_of_le hk hn) (.inl hk)⟩
theorem Betw.cell (h : Betw n0 n1 w w') {p : Addr} (hp : p.block < w.heap.size) (ho : p.block < n0 ∨ n1 ≤ p.block) : w'.cell? p = w.cell? p := World.cell?_of_block (w := w) (h.block p.block hp ho)
theorem Betw.frozen (h : Betw n0 n1 w w') {p : Addr} (hp : p.block < w.heap.size) (ho : p.block < n0 ∨ n1 ≤ p.block) : w'.frozen? p = w.frozen? p := World.frozen?_of_block (w := w) (h.block p.block hp ho)
end
/-- A value is a list of n numbers that lies outside some blocks. -/
def Lsto (n0 n1 : Nat) (w : World) (v : Value) (n : Nat) (f : Nat → Int) : Prop := ∃ a cp, v = .slice a n cp ∧ (n = 0 ∨ ∃ b off, a = some ⟨b, off, none⟩ ∧ (b < n0 ∨ n1 ≤ b) ∧ b < w.heap.size ∧ ∀ i, i < n → w.cell? ⟨b, off + i, none⟩ = some (.int .i64 (f i)))
section
variable {n0 n1 n : Nat} {w w' : World} {v : Value} {f : Nat → Int}
theorem Lsto.lst (h : Lsto n0 n1 w v n f) : Lst w v n f := by
  obtain ⟨a, cp, e, h | ⟨b, off, ea, _, hl, hc⟩⟩ := h
  · exact ⟨a, cp, e, .inl h⟩
  · exact ⟨a, cp, e, .inr ⟨b, off, ea, hl, hc⟩⟩
theorem Lsto.betw (h : Lsto n0 n1 w v n f) (k : Betw n0 n1 w w') : Lsto n0 n1 w' v n f := by
  obtain ⟨a, cp, e, h | ⟨b, off, ea, ho, hl, hc⟩⟩ := h
  · exact ⟨a, cp, e, .inl h⟩
  · exact ⟨a, cp, e, .inr ⟨b, off, ea, ho, Nat.lt_of_lt_of_le hl k.size, fun i hi => (k.cell (p := ⟨b, off + i, none⟩) hl ho).trans (hc i hi)⟩⟩
theorem Lsto.below (h : Lsto n0 n1 w v n f) (k : Below w.heap.size w w') : Lsto n0 n1 w' v n f := h.betw (betw_of k)
/-- A list that was there ahead of the blocks. -/
theorem lsto_old (h : Lst w v n f) (hn : w.heap.size ≤ n0) (hw : Below w.heap.size w w') : Lsto n0 n1 w' v n f := by
  obtain ⟨a, cp, e, h | ⟨b, off, ea, hl, hc⟩⟩ := h
  · exact ⟨a, cp, e, .inl h⟩
  · exact ⟨a, cp, e, .inr ⟨b, off, ea, .inl (by omega), Nat.lt_of_lt_of_le hl hw.size, fun i hi => (hw.cell (p := ⟨b, off + i, none⟩) hl).trans (hc i hi)⟩⟩
end
end Go.Proofs.Ytoecomgiggalkaa
