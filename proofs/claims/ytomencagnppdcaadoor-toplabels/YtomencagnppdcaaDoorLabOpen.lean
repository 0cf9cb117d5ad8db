/- What a label that came in is: two numbers. -/
import Derived.WalkKit
import Derived.ProofKit
import Derived.OpenShut
import Derived.ShutString
import Derived.ChangeOld
import Derived.Below
import Derived.Test.YtomencagnppdcaaDoorLabel
namespace Go.Proofs.YtomencagnppdcaaDoor
open Go.ChangeShapes Go.WideShapes Go.ChangeAt Go.RowKit
set_option maxRecDepth 100000

theorem cellsLab : Tryd.prog.cellsOf 43 = 2 := by kernel_rfl
/-- Two cells that are read as a label. -/
theorem lab_cells {H : Type} {enc : TypeId × Value → H} {W : World} {base : Nat} {sp : Nat → Bool} {held : Bool} {fuel : Nat} {cs : List Value} {x : DataW H × List MemPlace}
    (h : DataW.trod enc Tryd.prog W base sp held fuel 43 cs = some x) : ∃ l s : Int, cs = [.int .i64 l, .int .i64 s] ∧ (Lit.int .i64 l).wf = true ∧ (Lit.int .i64 s).wf = true := by
  obtain ⟨xs, n, rfl, _, hl, hx, hf⟩ := DataW.trod_struct Tryd.underlying43 h
  have h0 : DataW.trod enc Tryd.prog W base sp held n 3 ((cs.drop 0).take (Tryd.prog.cellsOf 3)) = xs[0]? := hf 0 _ rfl
  have h1 : DataW.trod enc Tryd.prog W base sp held n 3 ((cs.drop 1).take (Tryd.prog.cellsOf 3)) = xs[1]? := hf 1 _ rfl
  rw [cellsLab] at hl
  rw [cellsInt] at h0 h1
  match cs, hl with
  | [c0, c1], _ =>
    match xs, hx with
    | [y0, y1], _ =>
      simp only [List.drop_zero, List.drop_succ_cons, List.take_succ_cons, List.take_zero, List.getElem?_cons_zero, List.getElem?_cons_succ] at h0 h1
      obtain ⟨a, ea, rfl, wa⟩ := DataW.trod_int Tryd.underlying3 h0
      obtain ⟨b, eb, rfl, wb⟩ := DataW.trod_int Tryd.underlying3 h1
      simp at ea eb
      subst ea; subst eb
      exact ⟨a, b, rfl, wa, wb⟩
theorem open_label {H : Type} {enc : TypeId × Value → H} {W : World} {base : Nat} {sp : Nat → Bool} {held : Bool} {r : Go.Reach} {b0 : Nat} {v : Value} {d : DataW H} {ps : List MemPlace}
    (hval : Value.okWide Tryd.prog W r b0 43 v) (hd : DataW.Trod enc Tryd.prog W base sp held 43 v d ps) : ∃ l s : Int, v = lab l s ∧ (Lit.int .i64 l).wf = true ∧ (Lit.int .i64 s).wf = true := by
  obtain ⟨cs, rfl, _⟩ := okWide_struct Tryd.underlying43 hval
  obtain ⟨fuel, hf⟩ := hd
  obtain ⟨l, s, hcs, wl, ws⟩ := lab_cells hf
  obtain ⟨cl⟩ := cs
  simp only [Value.cells] at hcs
  subst hcs
  exact ⟨l, s, rfl, wl, ws⟩
end Go.Proofs.YtomencagnppdcaaDoor
