/- Programs: nodes as plain numbers; what is wrong with a list of them; their text. -/
import Derived.WalkKit
import Derived.Test.YtioimgeeamchaaaDoorLsto
namespace Go.Proofs.YtioimgeeamchaaaDoor
open Go.RowKit

/-- A node. -/
structure Nod where
  kd : Int
  num : Int
  pa : Int
  pb : Int
  pc : Int
/-- The nodes of a list by their place. -/
def nthD (l : List Nod) (i : Nat) : Nod := l.getD i ⟨0, 0, 0, 0, 0⟩
theorem nthD_app {l : List Nod} (m : List Nod) {i : Nat} (h : i < l.length) : nthD (l ++ m) i = nthD l i := by
  simp [nthD, List.getD_eq_getElem?_getD, List.getElem?_append_left h]
theorem nthD_at (l m : List Nod) (g : Nod) : nthD (l ++ g :: m) l.length = g := by simp [nthD]
theorem nthD_take (l : List Nod) {i k : Nat} (h : i < k) : nthD (l.take k) i = nthD l i := by simp [nthD, List.getD_eq_getElem?_getD, h]
theorem nthD_get {l : List Nod} {i : Nat} (h : i < l.length) : nthD l i = l[i] := by simp [nthD, h]
theorem dtake_snoc (l : List Nod) {k : Nat} (h : k < l.length) : l.take (k + 1) = l.take k ++ [nthD l k] := by
  rw [List.take_add_one, List.getElem?_eq_getElem h, nthD_get h]; rfl
theorem nthD_mk (S : Nat → Nod) {n i : Nat} (h : i < n) : nthD ((List.range n).map S) i = S i := by simp [nthD, h]

/-- The parts of a node. -/
def prtL (x : Nod) : List Int := if x.kd = 8 then [x.pa, x.pb, x.pc] else if x.kd = 6 then [x.pa] else if (2 ≤ x.kd ∧ x.kd ≤ 4) ∨ x.kd = 7 ∨ x.kd = 9 then [x.pa, x.pb] else []
/-- Must the part of a node be one that has a value? -/
def valB (kd : Int) (k : Nat) : Bool := decide (kd < 5 ∨ (k = 0 ∧ kd ≠ 7))
/-- Is what is in a node itself right? -/
def kinB (x : Nod) : Bool := decide (0 ≤ x.kd ∧ x.kd ≤ 9 ∧ (x.kd = 0 → 0 ≤ x.num ∧ x.num ≤ 999999) ∧ (x.kd = 1 ∨ x.kd = 6 → 0 ≤ x.num ∧ x.num ≤ 5))
/-- What is wrong with the parts of a node, from the k-th on; and what is a part by then. -/
def prtC (l : List Nod) (i : Nat) (kd : Int) : Nat → List Int → (Nat → Nat) → Int × (Nat → Nat)
  | _, [], u => (0, u)
  | k, p :: ps, u =>
    if p < 0 ∨ (i : Int) ≤ p then (1, u)
    else if 1 < u p.toNat + 1 ∨ decide ((nthD l p.toNat).kd < 5) ≠ valB kd k then (3, upd u p.toNat (u p.toNat + 1))
    else prtC l i kd (k + 1) ps (upd u p.toNat (u p.toNat + 1))
/-- What is wrong with the first n nodes. -/
def nodC (l : List Nod) : Nat → Int × (Nat → Nat)
  | 0 => (0, fun _ => 0)
  | n + 1 => if (nodC l n).1 ≠ 0 then nodC l n else if kinB (nthD l n) = false then (1, (nodC l n).2) else prtC l n (nthD l n).kd 0 (prtL (nthD l n)) (nodC l n).2
/-- What is wrong with a program. -/
def proC (l : List Nod) : Int :=
  if l.length = 0 then 5 else if 80 < l.length then 4 else if (nodC l l.length).1 ≠ 0 then (nodC l l.length).1
  else if (List.range (l.length - 1)).any (fun i => (nodC l l.length).2 i == 0) = true then 3 else if (nthD l (l.length - 1)).kd < 5 then 3 else 0
end Go.Proofs.YtioimgeeamchaaaDoor
