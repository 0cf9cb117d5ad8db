/- What a list of asks that came in is: four numbers an ask, in a row. -/
import Derived.WalkKit
import Derived.ProofKit
import Derived.OpenShut
import Derived.ChangeOld
import Derived.ChangeSlices
import Derived.Below
import Derived.Test.YtkkhcgapfklmjaaDoorGen
namespace Go.Proofs.YtkkhcgapfklmjaaDoor
open Go.ChangeShapes Go.WideShapes Go.ChangeAt Go.RowKit
set_option maxRecDepth 100000

/-- Asks that lie in a row. -/
structure Asks (w : World) (b off n : Nat) (z0 z1 z2 z3 : Nat → Int) : Prop where
  old : b < w.heap.size
  c0 : ∀ i, i < n → w.cell? ⟨b, off + i * 4, none⟩ = some (.int .i64 (z0 i))
  c1 : ∀ i, i < n → w.cell? ⟨b, off + i * 4 + 1, none⟩ = some (.int .i64 (z1 i))
  c2 : ∀ i, i < n → w.cell? ⟨b, off + i * 4 + 2, none⟩ = some (.int .i64 (z2 i))
  c3 : ∀ i, i < n → w.cell? ⟨b, off + i * 4 + 3, none⟩ = some (.int .i64 (z3 i))
def AtAsks (w : World) (a : Option Addr) (n : Nat) (z0 z1 z2 z3 : Nat → Int) : Prop := n = 0 ∨ ∃ b off, a = some ⟨b, off, none⟩ ∧ Asks w b off n z0 z1 z2 z3
theorem cellsAsk : Tryd.prog.cellsOf 32 = 4 := by kernel_rfl
theorem ask_cells {H : Type} {enc : TypeId × Value → H} {W : World} {base : Nat} {sp : Nat → Bool} {held : Bool} {fuel : Nat} {cs : List Value} {x : DataW H × List MemPlace}
    (h : DataW.trod enc Tryd.prog W base sp held fuel 32 cs = some x) : ∃ k u f t : Int, cs = [.int .i64 k, .int .i64 u, .int .i64 f, .int .i64 t] := by
  obtain ⟨xs, n, rfl, _, hl, hx, hf⟩ := DataW.trod_struct Tryd.underlying32 h
  have h0 : DataW.trod enc Tryd.prog W base sp held n 3 ((cs.drop 0).take (Tryd.prog.cellsOf 3)) = xs[0]? := hf 0 _ rfl
  have h1 : DataW.trod enc Tryd.prog W base sp held n 3 ((cs.drop 1).take (Tryd.prog.cellsOf 3)) = xs[1]? := hf 1 _ rfl
  have h2 : DataW.trod enc Tryd.prog W base sp held n 3 ((cs.drop 2).take (Tryd.prog.cellsOf 3)) = xs[2]? := hf 2 _ rfl
  have h3 : DataW.trod enc Tryd.prog W base sp held n 3 ((cs.drop 3).take (Tryd.prog.cellsOf 3)) = xs[3]? := hf 3 _ rfl
  rw [cellsAsk] at hl
  rw [cellsInt] at h0 h1 h2 h3
  match cs, hl with
  | [c0, c1, c2, c3], _ =>
    match xs, hx with
    | [y0, y1, y2, y3], _ =>
      simp only [List.drop_zero, List.drop_succ_cons, List.take_succ_cons, List.take_zero, List.getElem?_cons_zero, List.getElem?_cons_succ] at h0 h1 h2 h3
      obtain ⟨a, ea, rfl, _⟩ := DataW.trod_int Tryd.underlying3 h0
      obtain ⟨b, eb, rfl, _⟩ := DataW.trod_int Tryd.underlying3 h1
      obtain ⟨c, ec, rfl, _⟩ := DataW.trod_int Tryd.underlying3 h2
      obtain ⟨d, ed, rfl, _⟩ := DataW.trod_int Tryd.underlying3 h3
      simp at ea eb ec ed
      subst ea; subst eb; subst ec; subst ed
      exact ⟨a, b, c, d, rfl⟩
theorem open_asks {H : Type} {enc : TypeId × Value → H} {W : World} {base : Nat} {sp : Nat → Bool} {held : Bool} {a : Option Addr} {len cap : Nat} {d : DataW H} {ps : List MemPlace}
    (hd : DataW.Trod enc Tryd.prog W base sp held 23 (.slice a len cap) d ps) : ∃ z0 z1 z2 z3, AtAsks W a len z0 z1 z2 z3 := by
  obtain ⟨fuel, hf⟩ := hd
  rcases DataW.trod_slice Tryd.underlying23 hf with ⟨hcs, _⟩ | ⟨x, l, c, elems, rest, n, _, hcs, _, _, hl, _, hlen, hel, _, _⟩
  · simp [Value.cells] at hcs
    exact ⟨fun _ => 0, fun _ => 0, fun _ => 0, fun _ => 0, .inl hcs.2.1⟩
  · simp [Value.cells] at hcs
    obtain ⟨rfl, rfl, rfl⟩ := hcs
    by_cases h0 : len = 0
    · exact ⟨fun _ => 0, fun _ => 0, fun _ => 0, fun _ => 0, .inl h0⟩
    · have each : ∀ i, ∃ p : Int × Int × Int × Int, i < len → W.cell? (x.add (i * 4)) = some (.int .i64 p.1) ∧ W.cell? ((x.add (i * 4)).add 1) = some (.int .i64 p.2.1) ∧ W.cell? ((x.add (i * 4)).add 2) = some (.int .i64 p.2.2.1) ∧ W.cell? ((x.add (i * 4)).add 3) = some (.int .i64 p.2.2.2) := by
        intro i
        by_cases hi : i < len
        · have h := hel i hi
          rw [cellsAsk] at h
          have he : elems[i]? = some (elems[i]'(by omega)) := List.getElem?_eq_getElem (by omega)
          rw [he, Option.bind_eq_some_iff] at h
          obtain ⟨cs, hc, ht⟩ := h
          obtain ⟨k, u, f, t, rfl⟩ := ask_cells ht
          obtain ⟨_, _, hcell⟩ := World.cells?_some hc
          have e0 := hcell 0 (by omega)
          have e1 := hcell 1 (by omega)
          have e2 := hcell 2 (by omega)
          have e3 := hcell 3 (by omega)
          exact ⟨(k, u, f, t), fun _ => ⟨by simpa [Addr.add] using e0, by simpa using e1, by simpa using e2, by simpa using e3⟩⟩
        · exact ⟨(0, 0, 0, 0), fun h => absurd h hi⟩
      obtain ⟨zf, hz⟩ : ∃ zf : Nat → Int × Int × Int × Int, ∀ i, i < len → W.cell? (x.add (i * 4)) = some (.int .i64 (zf i).1) ∧ W.cell? ((x.add (i * 4)).add 1) = some (.int .i64 (zf i).2.1) ∧ W.cell? ((x.add (i * 4)).add 2) = some (.int .i64 (zf i).2.2.1) ∧ W.cell? ((x.add (i * 4)).add 3) = some (.int .i64 (zf i).2.2.2) := ⟨fun i => (each i).choose, fun i => (each i).choose_spec⟩
      clear each
      have hs : x.spot = none := by
        have h := (hz 0 (by omega)).1
        have := spot_of_cell h
        simpa [Addr.add] using this
      obtain ⟨b, off, s⟩ := x
      simp only at hs
      subst hs
      refine ⟨fun i => (zf i).1, fun i => (zf i).2.1, fun i => (zf i).2.2.1, fun i => (zf i).2.2.2, .inr ⟨b, off, rfl, ?_, fun i hi => ?_, fun i hi => ?_, fun i hi => ?_, fun i hi => ?_⟩⟩
      · have h := (hz 0 (by omega)).1
        exact old_of_cell (o := off + 0 * 4) (by simpa [Addr.add] using h)
      · have h := (hz i hi).1
        rw [add_plain] at h
        exact h
      · have h := (hz i hi).2.1
        rw [add_plain, add_plain] at h
        exact h
      · have h := (hz i hi).2.2.1
        rw [add_plain, add_plain] at h
        exact h
      · have h := (hz i hi).2.2.2
        rw [add_plain, add_plain] at h
        exact h
end Go.Proofs.YtkkhcgapfklmjaaDoor
