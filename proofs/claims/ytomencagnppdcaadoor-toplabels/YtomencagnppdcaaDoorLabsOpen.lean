/- What a list of labels that came in is: two numbers a label, in a row. -/
import Derived.WalkKit
import Derived.ProofKit
import Derived.OpenShut
import Derived.ChangeOld
import Derived.ChangeSlices
import Derived.Below
import Derived.Test.YtomencagnppdcaaDoorLabOpen
import Derived.Test.YtomencagnppdcaaDoorRowk
namespace Go.Proofs.YtomencagnppdcaaDoor
open Go.ChangeShapes Go.WideShapes Go.ChangeAt Go.RowKit
set_option maxRecDepth 100000

/-- Labels that lie in a row. -/
structure Labs (w : World) (b off n : Nat) (z : Nat → Int × Int) : Prop where
  old : b < w.heap.size
  c1 : ∀ i, i < n → w.cell? ⟨b, off + i * 2, none⟩ = some (.int .i64 (z i).1)
  c2 : ∀ i, i < n → w.cell? ⟨b, off + i * 2 + 1, none⟩ = some (.int .i64 (z i).2)
def AtLabs (w : World) (a : Option Addr) (n : Nat) (z : Nat → Int × Int) : Prop := n = 0 ∨ ∃ b off, a = some ⟨b, off, none⟩ ∧ Labs w b off n z
theorem open_labels {H : Type} {enc : TypeId × Value → H} {W : World} {base : Nat} {sp : Nat → Bool} {held : Bool} {a : Option Addr} {len cap : Nat} {d : DataW H} {ps : List MemPlace}
    (hd : DataW.Trod enc Tryd.prog W base sp held 40 (.slice a len cap) d ps) : ∃ z, AtLabs W a len z := by
  obtain ⟨fuel, hf⟩ := hd
  rcases DataW.trod_slice Tryd.underlying40 hf with ⟨hcs, _⟩ | ⟨x, l, c, elems, rest, n, _, hcs, _, _, hl, _, hlen, hel, _, _⟩
  · simp [Value.cells] at hcs
    exact ⟨fun _ => (0, 0), .inl hcs.2.1⟩
  · simp [Value.cells] at hcs
    obtain ⟨rfl, rfl, rfl⟩ := hcs
    by_cases h0 : len = 0
    · exact ⟨fun _ => (0, 0), .inl h0⟩
    · have each : ∀ i, ∃ p : Int × Int, i < len → W.cell? (x.add (i * 2)) = some (.int .i64 p.1) ∧ W.cell? ((x.add (i * 2)).add 1) = some (.int .i64 p.2) := by
        intro i
        by_cases hi : i < len
        · have h := hel i hi
          rw [cellsLab] at h
          have he : elems[i]? = some (elems[i]'(by omega)) := List.getElem?_eq_getElem (by omega)
          rw [he, Option.bind_eq_some_iff] at h
          obtain ⟨cs, hc, ht⟩ := h
          obtain ⟨l, s, rfl, _, _⟩ := lab_cells ht
          obtain ⟨_, _, hcell⟩ := World.cells?_some hc
          have e0 := hcell 0 (by omega)
          have e1 := hcell 1 (by omega)
          exact ⟨(l, s), fun _ => ⟨by simpa [Addr.add] using e0, by simpa using e1⟩⟩
        · exact ⟨(0, 0), fun h => absurd h hi⟩
      obtain ⟨zf, hz⟩ : ∃ zf : Nat → Int × Int, ∀ i, i < len → W.cell? (x.add (i * 2)) = some (.int .i64 (zf i).1) ∧ W.cell? ((x.add (i * 2)).add 1) = some (.int .i64 (zf i).2) := ⟨fun i => (each i).choose, fun i => (each i).choose_spec⟩
      clear each
      have hs : x.spot = none := by
        have h := (hz 0 (by omega)).1
        have := spot_of_cell h
        simpa [Addr.add] using this
      obtain ⟨b, off, s⟩ := x
      simp only at hs
      subst hs
      refine ⟨zf, .inr ⟨b, off, rfl, ?_, fun i hi => ?_, fun i hi => ?_⟩⟩
      · have h := (hz 0 (by omega)).1
        exact old_of_cell (o := off + 0 * 2) (by simpa [Addr.add] using h)
      · have h := (hz i hi).1
        rw [add_plain] at h
        exact h
      · have h := (hz i hi).2
        rw [add_plain, add_plain] at h
        exact h
end Go.Proofs.YtomencagnppdcaaDoor
