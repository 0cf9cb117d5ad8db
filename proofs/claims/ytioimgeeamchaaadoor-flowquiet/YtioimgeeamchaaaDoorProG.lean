/- Nodes: how a list of them lies in memory; what a list that came in is; whether two lists are the same. -/
import Derived.WalkKit
import Derived.ProofKit
import Derived.OpenShut
import Derived.ChangeOld
import Derived.ChangeSlices
import Derived.Below
import Derived.OwnWalk
import Derived.LoopTactic
import Derived.Maps.AppendAt
import Derived.Deep.QuietTactic
import Derived.BigQuiet
import Derived.Test.YtioimgeeamchaaaDoorProA
namespace Go.Proofs.YtioimgeeamchaaaDoor
open Go.ChangeShapes Go.WideShapes Go.ChangeAt Go.RowKit
set_option maxRecDepth 100000

/-- Nodes that lie in a row. -/
structure Nods (w : World) (b off n : Nat) (S : Nat → Nod) : Prop where
  old : b < w.heap.size
  c0 : ∀ i, i < n → w.cell? ⟨b, off + i * 5, none⟩ = some (.int .i64 (S i).kd)
  c1 : ∀ i, i < n → w.cell? ⟨b, off + i * 5 + 1, none⟩ = some (.int .i64 (S i).num)
  c2 : ∀ i, i < n → w.cell? ⟨b, off + i * 5 + 2, none⟩ = some (.int .i64 (S i).pa)
  c3 : ∀ i, i < n → w.cell? ⟨b, off + i * 5 + 3, none⟩ = some (.int .i64 (S i).pb)
  c4 : ∀ i, i < n → w.cell? ⟨b, off + i * 5 + 4, none⟩ = some (.int .i64 (S i).pc)
def AtNods (w : World) (a : Option Addr) (n : Nat) (S : Nat → Nod) : Prop := n = 0 ∨ ∃ b off, a = some ⟨b, off, none⟩ ∧ Nods w b off n S
theorem Nods.below {w w' : World} {b off n : Nat} {S : Nat → Nod} (h : Nods w b off n S) (k : Below w.heap.size w w') : Nods w' b off n S := by
  have c := fun o => k.cell (p := ⟨b, o, none⟩) h.old
  exact ⟨Nat.lt_of_lt_of_le h.old k.size, fun i hi => (c _).trans (h.c0 i hi), fun i hi => (c _).trans (h.c1 i hi), fun i hi => (c _).trans (h.c2 i hi), fun i hi => (c _).trans (h.c3 i hi), fun i hi => (c _).trans (h.c4 i hi)⟩
theorem AtNods.below {w w' : World} {a : Option Addr} {n : Nat} {S : Nat → Nod} (h : AtNods w a n S) (k : Below w.heap.size w w') : AtNods w' a n S :=
  h.imp id fun ⟨b, off, e, h⟩ => ⟨b, off, e, h.below k⟩
theorem AtNods.like {w : World} {a : Option Addr} {n : Nat} {S T : Nat → Nod} (h : AtNods w a n S) (e : ∀ i, i < n → S i = T i) : AtNods w a n T :=
  h.imp id fun ⟨b, off, ea, h⟩ => ⟨b, off, ea, h.old, fun i hi => by rw [← e i hi]; exact h.c0 i hi, fun i hi => by rw [← e i hi]; exact h.c1 i hi, fun i hi => by rw [← e i hi]; exact h.c2 i hi, fun i hi => by rw [← e i hi]; exact h.c3 i hi, fun i hi => by rw [← e i hi]; exact h.c4 i hi⟩
/-- A value is a list of nodes. -/
def NodV (w : World) (v : Value) (l : List Nod) : Prop := ∃ a cp, v = .slice a l.length cp ∧ AtNods w a l.length (nthD l)
theorem NodV.below {w w' : World} {v : Value} {l : List Nod} (h : NodV w v l) (k : Below w.heap.size w w') : NodV w' v l := by
  obtain ⟨a, cp, e, h⟩ := h
  exact ⟨a, cp, e, h.below k⟩
theorem nodV_nil (w : World) : NodV w (.slice none 0 0) [] := ⟨none, 0, rfl, .inl rfl⟩

theorem cellsNod : Tryd.prog.cellsOf 47 = 5 := by kernel_rfl
theorem nod_cells {H : Type} {enc : TypeId × Value → H} {W : World} {base : Nat} {sp : Nat → Bool} {held : Bool} {fuel : Nat} {cs : List Value} {x : DataW H × List MemPlace}
    (h : DataW.trod enc Tryd.prog W base sp held fuel 47 cs = some x) : ∃ s : Nod, cs = [.int .i64 s.kd, .int .i64 s.num, .int .i64 s.pa, .int .i64 s.pb, .int .i64 s.pc] := by
  obtain ⟨xs, n, rfl, _, hl, hx, hf⟩ := DataW.trod_struct Tryd.underlying47 h
  have h0 : DataW.trod enc Tryd.prog W base sp held n 3 ((cs.drop 0).take (Tryd.prog.cellsOf 3)) = xs[0]? := hf 0 _ rfl
  have h1 : DataW.trod enc Tryd.prog W base sp held n 3 ((cs.drop 1).take (Tryd.prog.cellsOf 3)) = xs[1]? := hf 1 _ rfl
  have h2 : DataW.trod enc Tryd.prog W base sp held n 3 ((cs.drop 2).take (Tryd.prog.cellsOf 3)) = xs[2]? := hf 2 _ rfl
  have h3 : DataW.trod enc Tryd.prog W base sp held n 3 ((cs.drop 3).take (Tryd.prog.cellsOf 3)) = xs[3]? := hf 3 _ rfl
  have h4 : DataW.trod enc Tryd.prog W base sp held n 3 ((cs.drop 4).take (Tryd.prog.cellsOf 3)) = xs[4]? := hf 4 _ rfl
  rw [cellsNod] at hl
  rw [cellsInt] at h0 h1 h2 h3 h4
  match cs, hl with
  | [c0, c1, c2, c3, c4], _ =>
    match xs, hx with
    | [y0, y1, y2, y3, y4], _ =>
      simp only [List.drop_zero, List.drop_succ_cons, List.take_succ_cons, List.take_zero, List.getElem?_cons_zero, List.getElem?_cons_succ] at h0 h1 h2 h3 h4
      obtain ⟨a, ea, rfl, _⟩ := DataW.trod_int Tryd.underlying3 h0
      obtain ⟨b, eb, rfl, _⟩ := DataW.trod_int Tryd.underlying3 h1
      obtain ⟨c, ec, rfl, _⟩ := DataW.trod_int Tryd.underlying3 h2
      obtain ⟨d, ed, rfl, _⟩ := DataW.trod_int Tryd.underlying3 h3
      obtain ⟨f, ef, rfl, _⟩ := DataW.trod_int Tryd.underlying3 h4
      simp at ea eb ec ed ef
      subst ea; subst eb; subst ec; subst ed; subst ef
      exact ⟨⟨a, b, c, d, f⟩, rfl⟩
theorem open_nods {H : Type} {enc : TypeId × Value → H} {W : World} {base : Nat} {sp : Nat → Bool} {held : Bool} {a : Option Addr} {len cap : Nat} {d : DataW H} {ps : List MemPlace}
    (hd : DataW.Trod enc Tryd.prog W base sp held 22 (.slice a len cap) d ps) : ∃ l : List Nod, l.length = len ∧ AtNods W a len (nthD l) := by
  have mk : ∀ S, AtNods W a len S → ∃ l : List Nod, l.length = len ∧ AtNods W a len (nthD l) := fun S h => ⟨(List.range len).map S, by simp, h.like fun i hi => (nthD_mk S hi).symm⟩
  obtain ⟨fuel, hf⟩ := hd
  rcases DataW.trod_slice Tryd.underlying22 hf with ⟨hcs, _⟩ | ⟨x, l, c, elems, rest, n, _, hcs, _, _, hl, _, hlen, hel, _, _⟩
  · simp [Value.cells] at hcs
    exact mk (fun _ => ⟨0, 0, 0, 0, 0⟩) (.inl hcs.2.1)
  · simp [Value.cells] at hcs
    obtain ⟨rfl, rfl, rfl⟩ := hcs
    by_cases h0 : len = 0
    · exact mk (fun _ => ⟨0, 0, 0, 0, 0⟩) (.inl h0)
    · have each : ∀ i, ∃ s : Nod, i < len → W.cell? (x.add (i * 5)) = some (.int .i64 s.kd) ∧ W.cell? ((x.add (i * 5)).add 1) = some (.int .i64 s.num) ∧ W.cell? ((x.add (i * 5)).add 2) = some (.int .i64 s.pa) ∧ W.cell? ((x.add (i * 5)).add 3) = some (.int .i64 s.pb) ∧ W.cell? ((x.add (i * 5)).add 4) = some (.int .i64 s.pc) := by
        intro i
        by_cases hi : i < len
        · have h := hel i hi
          rw [cellsNod] at h
          have he : elems[i]? = some (elems[i]'(by omega)) := List.getElem?_eq_getElem (by omega)
          rw [he, Option.bind_eq_some_iff] at h
          obtain ⟨cs, hc, ht⟩ := h
          obtain ⟨s, rfl⟩ := nod_cells ht
          obtain ⟨_, _, hcell⟩ := World.cells?_some hc
          have e0 := hcell 0 (by omega)
          have e1 := hcell 1 (by omega)
          have e2 := hcell 2 (by omega)
          have e3 := hcell 3 (by omega)
          have e4 := hcell 4 (by omega)
          exact ⟨s, fun _ => ⟨by simpa [Addr.add] using e0, by simpa using e1, by simpa using e2, by simpa using e3, by simpa using e4⟩⟩
        · exact ⟨⟨0, 0, 0, 0, 0⟩, fun h => absurd h hi⟩
      obtain ⟨zf, hz⟩ : ∃ zf : Nat → Nod, ∀ i, i < len → W.cell? (x.add (i * 5)) = some (.int .i64 (zf i).kd) ∧ W.cell? ((x.add (i * 5)).add 1) = some (.int .i64 (zf i).num) ∧ W.cell? ((x.add (i * 5)).add 2) = some (.int .i64 (zf i).pa) ∧ W.cell? ((x.add (i * 5)).add 3) = some (.int .i64 (zf i).pb) ∧ W.cell? ((x.add (i * 5)).add 4) = some (.int .i64 (zf i).pc) := ⟨fun i => (each i).choose, fun i => (each i).choose_spec⟩
      clear each
      have hs : x.spot = none := by
        have h := (hz 0 (by omega)).1
        have := spot_of_cell h
        simpa [Addr.add] using this
      obtain ⟨b, off, s⟩ := x
      simp only at hs
      subst hs
      refine mk zf (.inr ⟨b, off, rfl, ?_, fun i hi => ?_, fun i hi => ?_, fun i hi => ?_, fun i hi => ?_, fun i hi => ?_⟩)
      · have h := (hz 0 (by omega)).1
        exact old_of_cell (o := off + 0 * 5) (by simpa [Addr.add] using h)
      · have h := (hz i hi).1
        rw [add_plain] at h
        exact h
      · have h := (hz i hi).2.1
        rw [add_plain, add_plain] at h
        exact h
      · have h := (hz i hi).2.2.1
        rw [add_plain, add_plain] at h
        exact h
      · have h := (hz i hi).2.2.2.1
        rw [add_plain, add_plain] at h
        exact h
      · have h := (hz i hi).2.2.2.2
        rw [add_plain, add_plain] at h
        exact h

/-- The cells of a node, of nodes. -/
def nodR (g : Nod) : List Value := [.int .i64 g.kd, .int .i64 g.num, .int .i64 g.pa, .int .i64 g.pb, .int .i64 g.pc]
def flatD (l : List Nod) : List Value := l.flatMap nodR
theorem flatD_snoc (l : List Nod) (g : Nod) : flatD (l ++ [g]) = flatD l ++ nodR g := by simp [flatD]
theorem flatD_get : ∀ (l : List Nod) (i q : Nat), i < l.length → q < 5 → (flatD l)[i * 5 + q]? = (nodR (nthD l i))[q]?
  | [], i, q, h, _ => by simp at h
  | s :: l, 0, q, _, hq => by
    have e : flatD (s :: l) = nodR s ++ flatD l := by simp [flatD]
    rw [e, List.getElem?_append_left (by simp [nodR]; omega), Nat.zero_mul, Nat.zero_add]
    rfl
  | s :: l, i + 1, q, h, hq => by
    have e : flatD (s :: l) = nodR s ++ flatD l := by simp [flatD]
    have h5 : (nodR s).length = 5 := rfl
    rw [e, List.getElem?_append_right (by rw [h5]; omega), h5, show (i + 1) * 5 + q - 5 = i * 5 + q by omega]
    exact flatD_get l i q (by simpa using h) hq
theorem drow_someK {w : World} {base e k n : Nat} {v : Value} {xs : List Value} (h : w.ownsRow base e k v n xs) (hn : 0 < n) : ∃ g cap, v = .slice (some ⟨g, 0, none⟩) n cap := by
  obtain ⟨_, ⟨_, h0⟩ | ⟨g, cap, _, hv, _⟩⟩ := h
  · omega
  · exact ⟨g, cap, hv⟩
theorem nods_of {w : World} {X : Nat} {v : Value} {l : List Nod} (h : w.ownsRow X 47 5 v l.length (flatD l)) : NodV w v l := by
  by_cases h0 : l.length = 0
  · obtain ⟨_, ⟨hv, _⟩ | ⟨g, cap, cur, hv, _⟩⟩ := h
    · exact ⟨none, 0, by rw [hv, h0], .inl h0⟩
    · exact ⟨_, cap, hv, .inl h0⟩
  · obtain ⟨g, cap, rfl⟩ := drow_someK h (by omega)
    have hc : ∀ i q, i < l.length → q < 5 → w.cell? ⟨g, 0 + i * 5 + q, none⟩ = (nodR (nthD l i))[q]? := fun i q hi hq => by
      rw [Nat.zero_add, h.cellAt (i * 5 + q) (by omega)]
      exact flatD_get l i q hi hq
    exact ⟨_, cap, rfl, .inr ⟨g, 0, rfl, (h.lt g rfl).2, fun i hi => hc i 0 hi (by decide), fun i hi => hc i 1 hi (by decide), fun i hi => hc i 2 hi (by decide), fun i hi => hc i 3 hi (by decide), fun i hi => hc i 4 hi (by decide)⟩⟩
theorem infoNod : (Tryd.prog.info? 47).map (fun i => (i.zero, i.size, i.bytes)) = some (some (.agg #[.int .i64 0, .int .i64 0, .int .i64 0, .int .i64 0, .int .i64 0]), 5, 40) := by kernel_rfl
theorem cell_five_new (w : World) (s : Nod) (t : TypeId) : ∀ j u, (nodR s)[j]? = some u → (w.alloc (.cells #[.int .i64 s.kd, .int .i64 s.num, .int .i64 s.pa, .int .i64 s.pb, .int .i64 s.pc] t)).cell? ((⟨w.heap.size, 0, none⟩ : Addr).add j) = some u := by
  intro j u hj
  have h1 := World.alloc_heap_new w (.cells #[.int .i64 s.kd, .int .i64 s.num, .int .i64 s.pa, .int .i64 s.pb, .int .i64 s.pc] t)
  rw [Go.WideShapes.add_plain, Nat.zero_add]
  simp only [World.cell?]
  rw [h1]
  rw [← hj]
  simp [nodR]
theorem nodR_one (s : Nod) : ∀ u ∈ nodR s, u.oneCell' = true := by
  intro u hu
  simp only [nodR, List.mem_cons, List.not_mem_nil, or_false] at hu
  rcases hu with rfl | rfl | rfl | rfl | rfl <;> rfl
theorem ownd_snoc {w : World} {base : Nat} {v : Value} {l l' : List Nod} {s : Nod} (e : l ++ [s] = l') (h : w.ownsRow base 47 5 v (l.length + 1) (flatD l ++ nodR s)) : w.ownsRow base 47 5 v l'.length (flatD l') := by
  subst e
  rw [flatD_snoc, List.length_append]; exact h
theorem bndD {n k : Nat} (h : n ≤ k) (hk : k ≤ 1000 := by decide) : n + 1 ≤ maxLen ∧ (n + 1) * 40 ≤ 140737488355328 := by
  unfold maxLen
  omega

end Go.Proofs.YtioimgeeamchaaaDoor
