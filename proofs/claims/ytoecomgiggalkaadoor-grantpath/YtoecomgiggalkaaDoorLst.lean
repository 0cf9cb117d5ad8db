/- Lists of numbers as values: those that came in, and those that a call made. -/
import Derived.WalkKit
import Derived.LoopTactic
import Derived.Maps.AppendAt
import Derived.Test.YtoecomgiggalkaaDoorGen
namespace Go.Proofs.YtoecomgiggalkaaDoor
open Go.RowKit
set_option maxRecDepth 100000

/-- A value is a list of n numbers; of none it may lie anywhere. -/
def Lst (w : World) (v : Value) (n : Nat) (f : Nat → Int) : Prop := ∃ a cp, v = .slice a n cp ∧ (n = 0 ∨ ∃ b off, a = some ⟨b, off, none⟩ ∧ b < w.heap.size ∧ ∀ i, i < n → w.cell? ⟨b, off + i, none⟩ = some (.int .i64 (f i)))
theorem Lst.below {w w' : World} {v : Value} {n : Nat} {f : Nat → Int} (h : Lst w v n f) (hb : Below w.heap.size w w') : Lst w' v n f := by
  obtain ⟨a, cp, e, h | ⟨b, off, ea, hl, hc⟩⟩ := h
  · exact ⟨a, cp, e, .inl h⟩
  · exact ⟨a, cp, e, .inr ⟨b, off, ea, Nat.lt_of_lt_of_le hl hb.size, fun i hi => (hb.cell (p := ⟨b, off + i, none⟩) hl).trans (hc i hi)⟩⟩
theorem Lst.drawn {w : World} {v : Value} {n : Nat} {f : Nat → Int} (h : Lst w v n f) (k : Nat) : Lst (w.drewN k) v n f := h
theorem Lst.like {w : World} {v : Value} {n : Nat} {f g : Nat → Int} (h : Lst w v n f) (e : ∀ i, i < n → f i = g i) : Lst w v n g := by
  obtain ⟨a, cp, ev, h | ⟨b, off, ea, hl, hc⟩⟩ := h
  · exact ⟨a, cp, ev, .inl h⟩
  · exact ⟨a, cp, ev, .inr ⟨b, off, ea, hl, fun i hi => by rw [hc i hi, e i hi]⟩⟩
theorem lst_of_nums {w : World} {a : Option Addr} {n cp : Nat} {zs : List Int} (h : AtNums w a n zs) : Lst w (.slice a n cp) n (fun i => zs[i]?.getD 0) :=
  ⟨a, cp, rfl, h.imp id fun ⟨b, off, e, hl⟩ => ⟨b, off, e, hl.old, hl.cell⟩⟩
/-- The first numbers of a function, as they lie in memory. -/
def rowI (m : Nat) (D : Nat → Int) : List Value := (List.range m).map fun i => Value.int .i64 (D i)
theorem rowI_snoc (t : Nat) (D : Nat → Int) : rowI t D ++ [.int .i64 (D t)] = rowI (t + 1) D := by
  unfold rowI
  rw [List.range_succ, List.map_append]
  rfl
theorem rowI_get {m j : Nat} (D : Nat → Int) (h : j < m) : (rowI m D)[j]? = some (.int .i64 (D j)) := by simp [rowI, h]
theorem lst_of_row {w : World} {base m : Nat} {v : Value} {D : Nat → Int} (h : w.ownsRow base 3 1 v m (rowI m D)) : Lst w v m D := by
  obtain ⟨a, g, cap, rfl, hq⟩ := row_form h
  refine ⟨a, cap, rfl, ?_⟩
  rcases Nat.eq_zero_or_pos m with h0 | h0
  · exact .inl h0
  · obtain ⟨e, _, hc, _⟩ := hq h0
    have c := fun j (hj : j < m) => hc j _ (rowI_get D hj)
    exact .inr ⟨g, 0, e, old_of_cell (c 0 h0), fun i hi => by rw [Nat.zero_add]; exact c i hi⟩
theorem rowI_block {w : World} {base e n : Nat} {v : Value} {xs : List Value} {sz : Nat} (h : w.ownsRow base e sz v n xs) : ∀ k, v.ownBlock = some k → base ≤ k := fun k hk => (h.lt k hk).1
theorem info3i : (Tryd.prog.info? 3).map (fun i => (i.zero, i.size, i.bytes)) = some (some (.int .i64 0), 1, 8) := by kernel_rfl
/-- One number put in another one's place. -/
def updI (f : Nat → Int) (k : Int) (v : Int) : Nat → Int := fun x => if (x : Int) = k then v else f x
theorem updI_cast (f : Nat → Nat) (k v : Nat) : updI (fun i => (f i : Int)) k v = fun i => ((upd f k v i : Nat) : Int) := by
  funext x
  unfold updI upd
  by_cases e : x = k
  · subst e; simp
  · rw [if_neg (by omega), if_neg e]
end Go.Proofs.YtoecomgiggalkaaDoor
