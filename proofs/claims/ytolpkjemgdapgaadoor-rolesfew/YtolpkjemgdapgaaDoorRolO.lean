/- What roles that came in are: three lists of numbers, and two numbers. -/
import Derived.WalkKit
import Derived.ProofKit
import Derived.OpenShut
import Derived.ChangeOld
import Derived.ChangeSlices
import Derived.Below
import Derived.Test.YtolpkjemgdapgaaDoorRolB
namespace Go.Proofs.YtolpkjemgdapgaaDoor
open Go.ChangeShapes Go.WideShapes Go.ChangeAt Go.RowKit
set_option maxRecDepth 100000

theorem cellsRoles : Tryd.prog.cellsOf 24 = 5 := by kernel_rfl
theorem cellsIntsR : Tryd.prog.cellsOf 22 = 1 := by kernel_rfl
/-- A cell that is read as a list of numbers. -/
theorem ints_cell {H : Type} {enc : TypeId × Value → H} {W : World} {fuel : Nat} {v : Value} {held : Bool} {x : DataW H × List MemPlace}
    (h : DataW.trod enc Tryd.prog W 0 (fun _ => true) held fuel 22 [v] = some x) : ∃ a m cp zs, v = .slice a m cp ∧ m ≤ zs.length ∧ AtNums W a m zs := by
  rcases open_ints Tryd.underlying22 Tryd.underlying3 (by kernel_rfl) h with ⟨hcs, _⟩ | ⟨x, l, c, zs, hcs, _, hl, _, hz, _, hcell, _⟩
  · simp at hcs
    exact ⟨none, 0, 0, [], hcs, by simp, .inl rfl⟩
  · simp at hcs
    have hz' : zs.length = c := by simpa using hz
    refine ⟨some x, l, c, zs, hcs, by omega, ?_⟩
    by_cases h0 : l = 0
    · exact .inl h0
    · obtain ⟨b, off, rfl, hc⟩ := ints_at hcell (by omega)
      exact .inr ⟨b, off, rfl, old_of_cell (hc 0 (by omega)), fun i hi => by rw [hc i (by omega), List.getD_eq_getElem?_getD]⟩
theorem roles_cells {H : Type} {enc : TypeId × Value → H} {W : World} {held : Bool} {fuel : Nat} {cs : List Value} {x : DataW H × List MemPlace}
    (h : DataW.trod enc Tryd.prog W 0 (fun _ => true) held fuel 24 cs = some x) :
    ∃ aU aA aM cU cA cM, ∃ R : Rol, cs = [.slice aU R.mu cU, .slice aA R.m cA, .slice aM R.mm cM, .int .i64 R.few, .int .i64 R.most] ∧ AtRol W aU aA aM R := by
  obtain ⟨xs, n, rfl, _, hl, hx, hg⟩ := DataW.trod_struct Tryd.underlying24 h
  have h0 : DataW.trod enc Tryd.prog W 0 (fun _ => true) held n 22 ((cs.drop 0).take (Tryd.prog.cellsOf 22)) = xs[0]? := hg 0 _ rfl
  have h1 : DataW.trod enc Tryd.prog W 0 (fun _ => true) held n 22 ((cs.drop 1).take (Tryd.prog.cellsOf 22)) = xs[1]? := hg 1 _ rfl
  have h2 : DataW.trod enc Tryd.prog W 0 (fun _ => true) held n 22 ((cs.drop 2).take (Tryd.prog.cellsOf 22)) = xs[2]? := hg 2 _ rfl
  have h3 : DataW.trod enc Tryd.prog W 0 (fun _ => true) held n 3 ((cs.drop 3).take (Tryd.prog.cellsOf 3)) = xs[3]? := hg 3 _ rfl
  have h4 : DataW.trod enc Tryd.prog W 0 (fun _ => true) held n 3 ((cs.drop 4).take (Tryd.prog.cellsOf 3)) = xs[4]? := hg 4 _ rfl
  rw [cellsRoles] at hl
  rw [cellsInt] at h3 h4
  rw [cellsIntsR] at h0 h1 h2
  match cs, hl with
  | [c0, c1, c2, c3, c4], _ =>
    match xs, hx with
    | [y0, y1, y2, y3, y4], _ =>
      simp only [List.drop_zero, List.drop_succ_cons, List.take_succ_cons, List.take_zero, List.getElem?_cons_zero, List.getElem?_cons_succ] at h0 h1 h2 h3 h4
      obtain ⟨aU, mu, cU, us, rfl, lu, au⟩ := ints_cell h0
      obtain ⟨aA, m, cA, ab, rfl, la, aa⟩ := ints_cell h1
      obtain ⟨aM, mm, cM, ma, rfl, lm, am⟩ := ints_cell h2
      obtain ⟨few, e3, rfl, _⟩ := DataW.trod_int Tryd.underlying3 h3
      obtain ⟨most, e4, rfl, _⟩ := DataW.trod_int Tryd.underlying3 h4
      simp at e3 e4
      subst e3; subst e4
      exact ⟨aU, aA, aM, cU, cA, cM, ⟨mu, us, m, ab, mm, ma, few, most⟩, rfl, au, aa, am, lu, la, lm⟩
theorem open_roles {H : Type} {enc : TypeId × Value → H} {W : World} {held : Bool} {r : Go.Reach} {b0 : Nat} {v : Value} {d : DataW H} {ps : List MemPlace}
    (hval : Value.okWide Tryd.prog W r b0 24 v) (hd : DataW.Trod enc Tryd.prog W 0 (fun _ => true) held 24 v d ps) :
    ∃ aU aA aM cU cA cM, ∃ R : Rol, v = rolV aU aA aM cU cA cM R ∧ AtRol W aU aA aM R := by
  obtain ⟨cs, rfl, _⟩ := okWide_struct Tryd.underlying24 hval
  obtain ⟨fuel, hf⟩ := hd
  obtain ⟨aU, aA, aM, cU, cA, cM, R, hcs, hA⟩ := roles_cells hf
  obtain ⟨cl⟩ := cs
  simp only [Value.cells] at hcs
  subst hcs
  exact ⟨aU, aA, aM, cU, cA, cM, R, rfl, hA⟩
end Go.Proofs.YtolpkjemgdapgaaDoor
