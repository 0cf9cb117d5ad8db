/- Grants: how a list of them lies in memory; what a list that came in is. -/
import Derived.WalkKit
import Derived.ProofKit
import Derived.OpenShut
import Derived.ChangeOld
import Derived.ChangeSlices
import Derived.Below
import Derived.OwnWalk
import Derived.Maps.AppendAt
import Derived.Test.YtoecomgiggalkaaDoorGraA
namespace Go.Proofs.YtoecomgiggalkaaDoor
open Go.ChangeShapes Go.WideShapes Go.ChangeAt Go.RowKit
set_option maxRecDepth 100000

/-- Grants that lie in a row. -/
structure Givs (w : World) (b off n : Nat) (S : Nat → Giv) : Prop where
  old : b < w.heap.size
  c0 : ∀ i, i < n → w.cell? ⟨b, off + i * 3, none⟩ = some (.int .i64 (S i).fr)
  c1 : ∀ i, i < n → w.cell? ⟨b, off + i * 3 + 1, none⟩ = some (.int .i64 (S i).to)
  c2 : ∀ i, i < n → w.cell? ⟨b, off + i * 3 + 2, none⟩ = some (.int .i64 (S i).tm)
def AtGivs (w : World) (a : Option Addr) (n : Nat) (S : Nat → Giv) : Prop := n = 0 ∨ ∃ b off, a = some ⟨b, off, none⟩ ∧ Givs w b off n S
theorem Givs.below {w w' : World} {b off n : Nat} {S : Nat → Giv} (h : Givs w b off n S) (k : Below w.heap.size w w') : Givs w' b off n S := by
  have c := fun o => k.cell (p := ⟨b, o, none⟩) h.old
  exact ⟨Nat.lt_of_lt_of_le h.old k.size, fun i hi => (c _).trans (h.c0 i hi), fun i hi => (c _).trans (h.c1 i hi), fun i hi => (c _).trans (h.c2 i hi)⟩
theorem AtGivs.below {w w' : World} {a : Option Addr} {n : Nat} {S : Nat → Giv} (h : AtGivs w a n S) (k : Below w.heap.size w w') : AtGivs w' a n S :=
  h.imp id fun ⟨b, off, e, h⟩ => ⟨b, off, e, h.below k⟩
theorem AtGivs.like {w : World} {a : Option Addr} {n : Nat} {S T : Nat → Giv} (h : AtGivs w a n S) (e : ∀ i, i < n → S i = T i) : AtGivs w a n T :=
  h.imp id fun ⟨b, off, ea, h⟩ => ⟨b, off, ea, h.old, fun i hi => by rw [← e i hi]; exact h.c0 i hi, fun i hi => by rw [← e i hi]; exact h.c1 i hi, fun i hi => by rw [← e i hi]; exact h.c2 i hi⟩
theorem AtGivs.mono {w : World} {a : Option Addr} {n m : Nat} {S : Nat → Giv} (h : AtGivs w a n S) (hm : m ≤ n) : AtGivs w a m S := by
  rcases h with h | ⟨b, off, ea, h⟩
  · exact .inl (by omega)
  · exact .inr ⟨b, off, ea, h.old, fun i hi => h.c0 i (by omega), fun i hi => h.c1 i (by omega), fun i hi => h.c2 i (by omega)⟩
/-- A value is a list of grants. -/
def GivV (w : World) (v : Value) (l : List Giv) : Prop := ∃ a cp, v = .slice a l.length cp ∧ AtGivs w a l.length (nthV l)
theorem GivV.below {w w' : World} {v : Value} {l : List Giv} (h : GivV w v l) (k : Below w.heap.size w w') : GivV w' v l := by
  obtain ⟨a, cp, e, h⟩ := h
  exact ⟨a, cp, e, h.below k⟩
theorem givV_nil (w : World) : GivV w (.slice none 0 0) [] := ⟨none, 0, rfl, .inl rfl⟩
/-- The first ones of a list. -/
theorem givs_take {w : World} {a : Option Addr} {l : List Giv} (h : AtGivs w a l.length (nthV l)) (k : Nat) : AtGivs w a (l.take k).length (nthV (l.take k)) := by
  have hk : (l.take k).length ≤ l.length := by simp; omega
  refine (h.mono hk).like fun i hi => ?_
  rw [List.length_take] at hi
  exact (nthV_take l (by omega)).symm

theorem cellsGiv : Tryd.prog.cellsOf 44 = 3 := by kernel_rfl
theorem giv_cells {H : Type} {enc : TypeId × Value → H} {W : World} {base : Nat} {sp : Nat → Bool} {held : Bool} {fuel : Nat} {cs : List Value} {x : DataW H × List MemPlace}
    (h : DataW.trod enc Tryd.prog W base sp held fuel 44 cs = some x) : ∃ s : Giv, cs = [.int .i64 s.fr, .int .i64 s.to, .int .i64 s.tm] := by
  obtain ⟨xs, n, rfl, _, hl, hx, hf⟩ := DataW.trod_struct Tryd.underlying44 h
  have h0 : DataW.trod enc Tryd.prog W base sp held n 3 ((cs.drop 0).take (Tryd.prog.cellsOf 3)) = xs[0]? := hf 0 _ rfl
  have h1 : DataW.trod enc Tryd.prog W base sp held n 3 ((cs.drop 1).take (Tryd.prog.cellsOf 3)) = xs[1]? := hf 1 _ rfl
  have h2 : DataW.trod enc Tryd.prog W base sp held n 3 ((cs.drop 2).take (Tryd.prog.cellsOf 3)) = xs[2]? := hf 2 _ rfl
  rw [cellsGiv] at hl
  rw [cellsInt] at h0 h1 h2
  match cs, hl with
  | [c0, c1, c2], _ =>
    match xs, hx with
    | [y0, y1, y2], _ =>
      simp only [List.drop_zero, List.drop_succ_cons, List.take_succ_cons, List.take_zero, List.getElem?_cons_zero, List.getElem?_cons_succ] at h0 h1 h2
      obtain ⟨a, ea, rfl, _⟩ := DataW.trod_int Tryd.underlying3 h0
      obtain ⟨b, eb, rfl, _⟩ := DataW.trod_int Tryd.underlying3 h1
      obtain ⟨c, ec, rfl, _⟩ := DataW.trod_int Tryd.underlying3 h2
      simp at ea eb ec
      subst ea; subst eb; subst ec
      exact ⟨⟨a, b, c⟩, rfl⟩
theorem open_givs {H : Type} {enc : TypeId × Value → H} {W : World} {base : Nat} {sp : Nat → Bool} {held : Bool} {a : Option Addr} {len cap : Nat} {d : DataW H} {ps : List MemPlace}
    (hd : DataW.Trod enc Tryd.prog W base sp held 22 (.slice a len cap) d ps) : ∃ l : List Giv, l.length = len ∧ AtGivs W a len (nthV l) := by
  have mk : ∀ S, AtGivs W a len S → ∃ l : List Giv, l.length = len ∧ AtGivs W a len (nthV l) := fun S h => ⟨(List.range len).map S, by simp, h.like fun i hi => (nthV_mk S hi).symm⟩
  obtain ⟨fuel, hf⟩ := hd
  rcases DataW.trod_slice Tryd.underlying22 hf with ⟨hcs, _⟩ | ⟨x, l, c, elems, rest, n, _, hcs, _, _, hl, _, hlen, hel, _, _⟩
  · simp [Value.cells] at hcs
    exact mk (fun _ => ⟨0, 0, 0⟩) (.inl hcs.2.1)
  · simp [Value.cells] at hcs
    obtain ⟨rfl, rfl, rfl⟩ := hcs
    by_cases h0 : len = 0
    · exact mk (fun _ => ⟨0, 0, 0⟩) (.inl h0)
    · have each : ∀ i, ∃ s : Giv, i < len → W.cell? (x.add (i * 3)) = some (.int .i64 s.fr) ∧ W.cell? ((x.add (i * 3)).add 1) = some (.int .i64 s.to) ∧ W.cell? ((x.add (i * 3)).add 2) = some (.int .i64 s.tm) := by
        intro i
        by_cases hi : i < len
        · have h := hel i hi
          rw [cellsGiv] at h
          have he : elems[i]? = some (elems[i]'(by omega)) := List.getElem?_eq_getElem (by omega)
          rw [he, Option.bind_eq_some_iff] at h
          obtain ⟨cs, hc, ht⟩ := h
          obtain ⟨s, rfl⟩ := giv_cells ht
          obtain ⟨_, _, hcell⟩ := World.cells?_some hc
          have e0 := hcell 0 (by omega)
          have e1 := hcell 1 (by omega)
          have e2 := hcell 2 (by omega)
          exact ⟨s, fun _ => ⟨by simpa [Addr.add] using e0, by simpa using e1, by simpa using e2⟩⟩
        · exact ⟨⟨0, 0, 0⟩, fun h => absurd h hi⟩
      obtain ⟨zf, hz⟩ : ∃ zf : Nat → Giv, ∀ i, i < len → W.cell? (x.add (i * 3)) = some (.int .i64 (zf i).fr) ∧ W.cell? ((x.add (i * 3)).add 1) = some (.int .i64 (zf i).to) ∧ W.cell? ((x.add (i * 3)).add 2) = some (.int .i64 (zf i).tm) := ⟨fun i => (each i).choose, fun i => (each i).choose_spec⟩
      clear each
      have hs : x.spot = none := by
        have h := (hz 0 (by omega)).1
        have := spot_of_cell h
        simpa [Addr.add] using this
      obtain ⟨b, off, s⟩ := x
      simp only at hs
      subst hs
      refine mk zf (.inr ⟨b, off, rfl, ?_, fun i hi => ?_, fun i hi => ?_, fun i hi => ?_⟩)
      · have h := (hz 0 (by omega)).1
        exact old_of_cell (o := off + 0 * 3) (by simpa [Addr.add] using h)
      · have h := (hz i hi).1
        rw [add_plain] at h
        exact h
      · have h := (hz i hi).2.1
        rw [add_plain, add_plain] at h
        exact h
      · have h := (hz i hi).2.2
        rw [add_plain, add_plain] at h
        exact h

/-- The cells of a grant, of grants. -/
def givR (g : Giv) : List Value := [.int .i64 g.fr, .int .i64 g.to, .int .i64 g.tm]
def flatG (l : List Giv) : List Value := l.flatMap givR
theorem flatG_snoc (l : List Giv) (g : Giv) : flatG (l ++ [g]) = flatG l ++ givR g := by simp [flatG]
theorem flatG_get : ∀ (l : List Giv) (i q : Nat), i < l.length → q < 3 → (flatG l)[i * 3 + q]? = (givR (nthV l i))[q]?
  | [], i, q, h, _ => by simp at h
  | s :: l, 0, q, _, hq => by
    have e : flatG (s :: l) = givR s ++ flatG l := by simp [flatG]
    rw [e, List.getElem?_append_left (by simp [givR]; omega), Nat.zero_mul, Nat.zero_add]
    rfl
  | s :: l, i + 1, q, h, hq => by
    have e : flatG (s :: l) = givR s ++ flatG l := by simp [flatG]
    have h5 : (givR s).length = 3 := rfl
    rw [e, List.getElem?_append_right (by rw [h5]; omega), h5, show (i + 1) * 3 + q - 3 = i * 3 + q by omega]
    exact flatG_get l i q (by simpa using h) hq
theorem grow_someK {w : World} {base e k n : Nat} {v : Value} {xs : List Value} (h : w.ownsRow base e k v n xs) (hn : 0 < n) : ∃ g cap, v = .slice (some ⟨g, 0, none⟩) n cap := by
  obtain ⟨_, ⟨_, h0⟩ | ⟨g, cap, _, hv, _⟩⟩ := h
  · omega
  · exact ⟨g, cap, hv⟩
theorem givs_of {w : World} {X : Nat} {v : Value} {l : List Giv} (h : w.ownsRow X 44 3 v l.length (flatG l)) : GivV w v l := by
  by_cases h0 : l.length = 0
  · obtain ⟨_, ⟨hv, _⟩ | ⟨g, cap, cur, hv, _⟩⟩ := h
    · exact ⟨none, 0, by rw [hv, h0], .inl h0⟩
    · exact ⟨_, cap, hv, .inl h0⟩
  · obtain ⟨g, cap, rfl⟩ := grow_someK h (by omega)
    have hc : ∀ i q, i < l.length → q < 3 → w.cell? ⟨g, 0 + i * 3 + q, none⟩ = (givR (nthV l i))[q]? := fun i q hi hq => by
      rw [Nat.zero_add, h.cellAt (i * 3 + q) (by omega)]
      exact flatG_get l i q hi hq
    exact ⟨_, cap, rfl, .inr ⟨g, 0, rfl, (h.lt g rfl).2, fun i hi => hc i 0 hi (by decide), fun i hi => hc i 1 hi (by decide), fun i hi => hc i 2 hi (by decide)⟩⟩
theorem infoGiv : (Tryd.prog.info? 44).map (fun i => (i.zero, i.size, i.bytes)) = some (some (.agg #[.int .i64 0, .int .i64 0, .int .i64 0]), 3, 24) := by kernel_rfl
theorem cell_three_new (w : World) (s : Giv) (t : TypeId) : ∀ j u, (givR s)[j]? = some u → (w.alloc (.cells #[.int .i64 s.fr, .int .i64 s.to, .int .i64 s.tm] t)).cell? ((⟨w.heap.size, 0, none⟩ : Addr).add j) = some u := by
  intro j u hj
  have h1 := World.alloc_heap_new w (.cells #[.int .i64 s.fr, .int .i64 s.to, .int .i64 s.tm] t)
  rw [Go.WideShapes.add_plain, Nat.zero_add]
  simp only [World.cell?]
  rw [h1]
  rw [← hj]
  simp [givR]
theorem givR_one (s : Giv) : ∀ u ∈ givR s, u.oneCell' = true := by
  intro u hu
  simp only [givR, List.mem_cons, List.not_mem_nil, or_false] at hu
  rcases hu with rfl | rfl | rfl <;> rfl
theorem owng_snoc {w : World} {base : Nat} {v : Value} {l l' : List Giv} {s : Giv} (e : l ++ [s] = l') (h : w.ownsRow base 44 3 v (l.length + 1) (flatG l ++ givR s)) : w.ownsRow base 44 3 v l'.length (flatG l') := by
  subst e
  rw [flatG_snoc, List.length_append]; exact h
theorem bndG {n k : Nat} (h : n ≤ k) (hk : k ≤ 1000 := by decide) : n + 1 ≤ maxLen ∧ (n + 1) * 24 ≤ 140737488355328 := by
  unfold maxLen
  omega
theorem sizeG {w W : World} (h : Below w.heap.size w W) (o : Obj) : w.heap.size ≤ (W.alloc o).heap.size := Nat.le_trans h.size (by simp)
end Go.Proofs.YtoecomgiggalkaaDoor
