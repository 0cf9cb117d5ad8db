/- What is wrong with a program, as the document has it (Prog). Made by wip/tools/gen/proprog.py. -/
import Derived.WalkKit
import Derived.LoopTactic
import Derived.OwnWalk
import Derived.Laws.MakeOwn
import Derived.Deep.QuietTactic
import Derived.BigQuiet
import Derived.Test.YtdmdoikkemfcaabDoorProQ
namespace Go.Proofs.YtdmdoikkemfcaabDoor
open Go.RowKit
set_option maxRecDepth 100000

theorem prtL_len (x : Nod) : (prtL x).length ≤ 3 := by
  unfold prtL
  split
  · simp
  · split
    · simp
    · split <;> simp
theorem pwrap_int {a : Int} (h1 : -4096 ≤ a) (h2 : a < 2 ^ 61) : wrap64 a = a ∧ IntKind.i64.wrap a = a :=
  ⟨IntWalk.wrap64_in _ ⟨by omega, by omega⟩, by rw [IntKind.wrap_i64]; omega⟩
theorem pwrap_eq {a : Int} {c : Nat} (h : a = (c : Int)) (hc : c < 2 ^ 61) : wrap64 a = (c : Int) ∧ IntKind.i64.wrap a = (c : Int) := by
  subst h
  exact ⟨IntWalk.wrap64_in _ ⟨by omega, by omega⟩, wraps62 _ (by omega) (by omega)⟩
theorem PrtSt.start {wr w w2 : World} {n : Nat} {u : Nat → Nat} {a : Option Addr} {pl : List Int} {kd num pa pb pc : Int} (ho : OwnU wr w.heap.size n u) (hB : Below w.heap.size w wr)
    (hN : NewNums w2 ((wr.alloc (.cells #[.int .i64 kd, .int .i64 num, .int .i64 pa, .int .i64 pb, .int .i64 pc] 45)).heap.size + 1) a pl)
    (h2 : Below (wr.alloc (.cells #[.int .i64 kd, .int .i64 num, .int .i64 pa, .int .i64 pb, .int .i64 pc] 45)).heap.size (wr.alloc (.cells #[.int .i64 kd, .int .i64 num, .int .i64 pa, .int .i64 pb, .int .i64 pc] 45)) w2) : PrtSt w2 w n wr.heap.size kd a pl u := by
  have hs := World.size_alloc wr (.cells #[.int .i64 kd, .int .i64 num, .int .i64 pa, .int .i64 pb, .int .i64 pc] 45)
  have b1 : Below wr.heap.size wr (wr.alloc (.cells #[.int .i64 kd, .int .i64 num, .int .i64 pa, .int .i64 pb, .int .i64 pc] 45)) := (Below.refl _ wr).alloc (Nat.le_refl _) _
  have b2 : Below wr.heap.size wr w2 := b1.trans (h2.mono b1.size)
  have lt := ho.lt
  refine ⟨ho.below b2, hB.trans (b2.mono hB.size), ho.lt, ?_, hN.imp id fun ⟨b, e, hb, hc⟩ => ⟨b, e, by omega, hc⟩⟩
  have c := cell_five_new wr ⟨kd, num, pa, pb, pc⟩ 45 0 _ rfl
  exact keep_cell h2 c
theorem prtC_bad {l : List Nod} {i k : Nat} {kd p : Int} {ps : List Int} {v : Nat → Nat} (h : p < 0 ∨ (i : Int) ≤ p) : prtC l i kd k (p :: ps) v = (1, v) := by rw [prtC, if_pos h]
theorem prtC_two {l : List Nod} {i k p : Nat} {kd : Int} {ps : List Int} {v : Nat → Nat} (h : p < i) (hv : v p = 1) : prtC l i kd k ((p : Int) :: ps) v = (3, upd v p 2) := by
  rw [prtC, if_neg (by omega), if_pos (.inl (by rw [Int.toNat_natCast]; omega)), Int.toNat_natCast, hv]
theorem prtC_odd {l : List Nod} {i k p : Nat} {kd : Int} {ps : List Int} {v : Nat → Nat} (h : p < i) (hv : v p = 0) (hd : decide ((nthD l p).kd < 5) ≠ valB kd k) : prtC l i kd k ((p : Int) :: ps) v = (3, upd v p 1) := by
  rw [prtC, if_neg (by omega), if_pos (.inr (by rw [Int.toNat_natCast]; exact hd)), Int.toNat_natCast, hv]
theorem prtC_on {l : List Nod} {i k p : Nat} {kd : Int} {ps : List Int} {v : Nat → Nat} (h : p < i) (hv : v p = 0) (hd : decide ((nthD l p).kd < 5) = valB kd k) : prtC l i kd k ((p : Int) :: ps) v = prtC l i kd (k + 1) ps (upd v p 1) := by
  rw [prtC, if_neg (by omega), if_neg (by rw [Int.toNat_natCast, hv]; exact fun q => q.elim (by omega) (fun q => q hd)), Int.toNat_natCast, hv]
theorem upd_le {v : Nat → Nat} (h : ∀ j, v j ≤ 1) (p : Nat) : ∀ j, upd v p 1 j ≤ 1 := fun j => by
  unfold upd; split
  · exact Nat.le_refl 1
  · exact h j
theorem drop_at {pl : List Int} {k : Nat} {P : Int} (h : pl[k]? = some P) : pl.drop k = P :: pl.drop (k + 1) := by
  obtain ⟨hk, rfl⟩ := List.getElem?_eq_some_iff.1 h
  exact List.drop_eq_getElem_cons hk

end Go.Proofs.YtdmdoikkemfcaabDoor
