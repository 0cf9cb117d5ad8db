/- What a list of steps that came in is: five numbers a step, in a row; and a list of lists of numbers. -/
import Derived.WalkKit
import Derived.ProofKit
import Derived.OpenShut
import Derived.ChangeOld
import Derived.ChangeSlices
import Derived.Below
import Derived.Deep.Matrix
import Derived.Test.YtdmdoikkemfcaaaDoorTakG
namespace Go.Proofs.YtdmdoikkemfcaaaDoor
open Go.ChangeShapes Go.WideShapes Go.ChangeAt Go.RowKit
set_option maxRecDepth 100000

/-- Steps that lie in a row. -/
structure Stps (w : World) (b off n : Nat) (S : Nat → Stp) : Prop where
  old : b < w.heap.size
  c0 : ∀ i, i < n → w.cell? ⟨b, off + i * 5, none⟩ = some (.int .i64 (S i).k)
  c1 : ∀ i, i < n → w.cell? ⟨b, off + i * 5 + 1, none⟩ = some (.int .i64 (S i).who)
  c2 : ∀ i, i < n → w.cell? ⟨b, off + i * 5 + 2, none⟩ = some (.int .i64 (S i).of)
  c3 : ∀ i, i < n → w.cell? ⟨b, off + i * 5 + 3, none⟩ = some (.int .i64 (S i).to)
  c4 : ∀ i, i < n → w.cell? ⟨b, off + i * 5 + 4, none⟩ = some (.int .i64 (S i).r)
def AtStps (w : World) (a : Option Addr) (n : Nat) (S : Nat → Stp) : Prop := n = 0 ∨ ∃ b off, a = some ⟨b, off, none⟩ ∧ Stps w b off n S
theorem Stps.below {w w' : World} {b off n : Nat} {S : Nat → Stp} (h : Stps w b off n S) (k : Below w.heap.size w w') : Stps w' b off n S := by
  have c := fun o => k.cell (p := ⟨b, o, none⟩) h.old
  exact ⟨Nat.lt_of_lt_of_le h.old k.size, fun i hi => (c _).trans (h.c0 i hi), fun i hi => (c _).trans (h.c1 i hi), fun i hi => (c _).trans (h.c2 i hi), fun i hi => (c _).trans (h.c3 i hi), fun i hi => (c _).trans (h.c4 i hi)⟩
theorem AtStps.below {w w' : World} {a : Option Addr} {n : Nat} {S : Nat → Stp} (h : AtStps w a n S) (k : Below w.heap.size w w') : AtStps w' a n S :=
  h.imp id fun ⟨b, off, e, h⟩ => ⟨b, off, e, h.below k⟩
theorem cellsStp : Tryd.prog.cellsOf 63 = 5 := by kernel_rfl
theorem stp_cells {H : Type} {enc : TypeId × Value → H} {W : World} {base : Nat} {sp : Nat → Bool} {held : Bool} {fuel : Nat} {cs : List Value} {x : DataW H × List MemPlace}
    (h : DataW.trod enc Tryd.prog W base sp held fuel 63 cs = some x) : ∃ s : Stp, cs = [.int .i64 s.k, .int .i64 s.who, .int .i64 s.of, .int .i64 s.to, .int .i64 s.r] := by
  obtain ⟨xs, n, rfl, _, hl, hx, hf⟩ := DataW.trod_struct Tryd.underlying63 h
  have h0 : DataW.trod enc Tryd.prog W base sp held n 3 ((cs.drop 0).take (Tryd.prog.cellsOf 3)) = xs[0]? := hf 0 _ rfl
  have h1 : DataW.trod enc Tryd.prog W base sp held n 3 ((cs.drop 1).take (Tryd.prog.cellsOf 3)) = xs[1]? := hf 1 _ rfl
  have h2 : DataW.trod enc Tryd.prog W base sp held n 3 ((cs.drop 2).take (Tryd.prog.cellsOf 3)) = xs[2]? := hf 2 _ rfl
  have h3 : DataW.trod enc Tryd.prog W base sp held n 3 ((cs.drop 3).take (Tryd.prog.cellsOf 3)) = xs[3]? := hf 3 _ rfl
  have h4 : DataW.trod enc Tryd.prog W base sp held n 3 ((cs.drop 4).take (Tryd.prog.cellsOf 3)) = xs[4]? := hf 4 _ rfl
  rw [cellsStp] at hl
  rw [cellsInt] at h0 h1 h2 h3 h4
  match cs, hl with
  | [c0, c1, c2, c3, c4], _ =>
    match xs, hx with
    | [y0, y1, y2, y3, y4], _ =>
      simp only [List.drop_zero, List.drop_succ_cons, List.take_succ_cons, List.take_zero, List.getElem?_cons_zero, List.getElem?_cons_succ] at h0 h1 h2 h3 h4
      obtain ⟨a, ea, rfl, _⟩ := DataW.trod_int Tryd.underlying3 h0
      obtain ⟨b, eb, rfl, _⟩ := DataW.trod_int Tryd.underlying3 h1
      obtain ⟨c, ec, rfl, _⟩ := DataW.trod_int Tryd.underlying3 h2
      obtain ⟨d, ed, rfl, _⟩ := DataW.trod_int Tryd.underlying3 h3
      obtain ⟨f, ef, rfl, _⟩ := DataW.trod_int Tryd.underlying3 h4
      simp at ea eb ec ed ef
      subst ea; subst eb; subst ec; subst ed; subst ef
      exact ⟨⟨a, b, c, d, f⟩, rfl⟩
theorem open_stps {H : Type} {enc : TypeId × Value → H} {W : World} {base : Nat} {sp : Nat → Bool} {held : Bool} {a : Option Addr} {len cap : Nat} {d : DataW H} {ps : List MemPlace}
    (hd : DataW.Trod enc Tryd.prog W base sp held 28 (.slice a len cap) d ps) : ∃ S, AtStps W a len S := by
  obtain ⟨fuel, hf⟩ := hd
  rcases DataW.trod_slice Tryd.underlying28 hf with ⟨hcs, _⟩ | ⟨x, l, c, elems, rest, n, _, hcs, _, _, hl, _, hlen, hel, _, _⟩
  · simp [Value.cells] at hcs
    exact ⟨fun _ => ⟨0, 0, 0, 0, 0⟩, .inl hcs.2.1⟩
  · simp [Value.cells] at hcs
    obtain ⟨rfl, rfl, rfl⟩ := hcs
    by_cases h0 : len = 0
    · exact ⟨fun _ => ⟨0, 0, 0, 0, 0⟩, .inl h0⟩
    · have each : ∀ i, ∃ s : Stp, i < len → W.cell? (x.add (i * 5)) = some (.int .i64 s.k) ∧ W.cell? ((x.add (i * 5)).add 1) = some (.int .i64 s.who) ∧ W.cell? ((x.add (i * 5)).add 2) = some (.int .i64 s.of) ∧ W.cell? ((x.add (i * 5)).add 3) = some (.int .i64 s.to) ∧ W.cell? ((x.add (i * 5)).add 4) = some (.int .i64 s.r) := by
        intro i
        by_cases hi : i < len
        · have h := hel i hi
          rw [cellsStp] at h
          have he : elems[i]? = some (elems[i]'(by omega)) := List.getElem?_eq_getElem (by omega)
          rw [he, Option.bind_eq_some_iff] at h
          obtain ⟨cs, hc, ht⟩ := h
          obtain ⟨s, rfl⟩ := stp_cells ht
          obtain ⟨_, _, hcell⟩ := World.cells?_some hc
          have e0 := hcell 0 (by omega)
          have e1 := hcell 1 (by omega)
          have e2 := hcell 2 (by omega)
          have e3 := hcell 3 (by omega)
          have e4 := hcell 4 (by omega)
          exact ⟨s, fun _ => ⟨by simpa [Addr.add] using e0, by simpa using e1, by simpa using e2, by simpa using e3, by simpa using e4⟩⟩
        · exact ⟨⟨0, 0, 0, 0, 0⟩, fun h => absurd h hi⟩
      obtain ⟨zf, hz⟩ : ∃ zf : Nat → Stp, ∀ i, i < len → W.cell? (x.add (i * 5)) = some (.int .i64 (zf i).k) ∧ W.cell? ((x.add (i * 5)).add 1) = some (.int .i64 (zf i).who) ∧ W.cell? ((x.add (i * 5)).add 2) = some (.int .i64 (zf i).of) ∧ W.cell? ((x.add (i * 5)).add 3) = some (.int .i64 (zf i).to) ∧ W.cell? ((x.add (i * 5)).add 4) = some (.int .i64 (zf i).r) := ⟨fun i => (each i).choose, fun i => (each i).choose_spec⟩
      clear each
      have hs : x.spot = none := by
        have h := (hz 0 (by omega)).1
        have := spot_of_cell h
        simpa [Addr.add] using this
      obtain ⟨b, off, s⟩ := x
      simp only at hs
      subst hs
      refine ⟨zf, .inr ⟨b, off, rfl, ?_, fun i hi => ?_, fun i hi => ?_, fun i hi => ?_, fun i hi => ?_, fun i hi => ?_⟩⟩
      · have h := (hz 0 (by omega)).1
        exact old_of_cell (o := off + 0 * 5) (by simpa [Addr.add] using h)
      · have h := (hz i hi).1
        rw [add_plain] at h
        exact h
      · have h := (hz i hi).2.1
        rw [add_plain, add_plain] at h
        exact h
      · have h := (hz i hi).2.2.1
        rw [add_plain, add_plain] at h
        exact h
      · have h := (hz i hi).2.2.2.1
        rw [add_plain, add_plain] at h
        exact h
      · have h := (hz i hi).2.2.2.2
        rw [add_plain, add_plain] at h
        exact h
theorem open_grid {H : Type} {enc : TypeId × Value → H} {W : World} {held : Bool} {a : Option Addr} {len cap : Nat} {d : DataW H} {ps : List MemPlace}
    (hd : DataW.Trod enc Tryd.prog W 0 (fun _ => true) held 22 (.slice a len cap) d ps) : ∃ L F, Grd W (.slice a len cap) len L F := by
  obtain ⟨fuel, hf⟩ := hd
  rcases Go.Deep.open_int_rows Tryd.underlying22 Tryd.underlying34 Tryd.underlying3 (by kernel_rfl) (by kernel_rfl) hf with ⟨hcs, _⟩ | ⟨x, l, c, A, L, C, Z, hcs, _, hl, _, _, hx⟩
  · simp [Value.cells] at hcs
    obtain ⟨rfl, rfl, rfl⟩ := hcs
    exact ⟨fun _ => 0, fun _ _ => 0, none, 0, rfl, .inl rfl⟩
  · simp [Value.cells] at hcs
    obtain ⟨rfl, rfl, rfl⟩ := hcs
    by_cases h0 : len = 0
    · exact ⟨fun _ => 0, fun _ _ => 0, some x, cap, rfl, .inl h0⟩
    · have hs : x.spot = none := by
        have h := (hx 0 (by omega)).1
        have := spot_of_cell h
        simpa [Addr.add] using this
      obtain ⟨b, off, s⟩ := x
      simp only at hs
      subst hs
      have ht := fun i (hi : i < len) => hx i (by omega)
      clear hx
      refine ⟨L, fun i j => (Z i).getD j 0, some ⟨b, off, none⟩, cap, rfl, .inr ⟨b, off, A, C, rfl, ?_, fun i hi => ?_, fun i hi => ?_⟩⟩
      · have h := (ht 0 (by omega)).1
        exact old_of_cell (o := off + 0) (by simpa [Addr.add] using h)
      · have h := (ht i hi).1
        rw [add_plain] at h
        exact h
      · obtain ⟨_, hle, _, _, _, hnil, hcell⟩ := ht i hi
        by_cases hL : L i = 0
        · exact .inl hL
        · right
          cases hA : A i with
          | none => have := hnil hA; omega
          | some a' =>
            have hc := (hcell a' hA).2
            have hs : a'.spot = none := by
              have h := hc 0 (by omega)
              have := spot_of_cell h
              simpa [Addr.add] using this
            obtain ⟨b', o', s'⟩ := a'
            simp only at hs
            subst hs
            refine ⟨b', o', rfl, ?_, fun j hj => ?_⟩
            · have h := hc 0 (by omega)
              exact old_of_cell (o := o' + 0) (by simpa [Addr.add] using h)
            · have h := hc j (by omega)
              rw [add_plain] at h
              exact h
end Go.Proofs.YtdmdoikkemfcaaaDoor
