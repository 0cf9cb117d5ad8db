/- Values that are lists of numbers, and errors of numbers; what is told of them; what the document's closure is, and whether it calls a relation an order. -/
import Derived.WalkKit
import Derived.LoopTactic
import Derived.Test.YtdmdoikkemfcaaaDoorRefOr
import Derived.Test.YtdmdoikkemfcaaaDoorRowk
import Derived.Test.YtdmdoikkemfcaaaDoorAs
namespace Go.Proofs.YtdmdoikkemfcaaaDoor
open Go.RowKit

/-- A value is a list of n numbers. -/
def Held (w : World) (v : Value) (n : Nat) (f : Nat → Nat) : Prop := (n = 0 ∧ ∃ a cp, v = .slice a 0 cp) ∨ (0 < n ∧ ∃ g cp, v = .slice (some ⟨g, 0, none⟩) n cp ∧ Own w g n f)
theorem Held.below {w w' : World} {v : Value} {n : Nat} {f : Nat → Nat} (h : Held w v n f) (hb : Below w.heap.size w w') : Held w' v n f :=
  h.imp id fun ⟨h0, g, cp, e, ho⟩ => ⟨h0, g, cp, e, ho.below hb⟩
theorem Held.nil (w : World) (f : Nat → Nat) : Held w (.slice none 0 0) 0 f := .inl ⟨rfl, none, 0, rfl⟩
theorem Held.of {w : World} {g n cp : Nat} {f : Nat → Nat} (ho : Own w g n f) : Held w (.slice (some ⟨g, 0, none⟩) n cp) n f := by
  rcases Nat.eq_zero_or_pos n with rfl | h
  · exact .inl ⟨rfl, _, _, rfl⟩
  · exact .inr ⟨h, _, _, rfl, ho⟩
theorem Held.like {w : World} {v : Value} {n : Nat} {f g : Nat → Nat} (h : Held w v n f) (e : ∀ j, j < n → f j = g j) : Held w v n g :=
  h.imp id fun ⟨h0, b, cp, ev, ho⟩ => ⟨h0, b, cp, ev, ho.like e⟩

/-- A value is the error of a number; that of 0 is none. -/
def Errs (er : Value) (c : Int) : Prop := (er = .nilIface ∧ c = 0) ∨ er = .iface 54 (.int .i64 c)
theorem error_held (w : World) (er : Value) (c : Int) (hE : ErrT w) (h : Errs er c) :
    Calls Tryd.prog 12 #[er, .int .i64 c] w fun e w' => e = .returned (.bool true) ∧ Below w.heap.size w w' := by
  rcases h with ⟨rfl, rfl⟩ | rfl
  · exact (error_nil 0 w).mono fun e w' ⟨he, hw⟩ => ⟨he, hw ▸ Below.refl _ _⟩
  · exact (error_err c c w hE).mono fun e w' ⟨he, hb⟩ => ⟨by rw [he]; simp, hb⟩

theorem stays {f : FuncId} {args : Array Value} {w : World} {v : Value} (h : Calls Tryd.prog f args w fun e w' => e = .returned v ∧ w' = w) :
    Calls Tryd.prog f args w fun e w' => e = .returned v ∧ Below w.heap.size w w' :=
  h.mono fun _ _ ⟨he, hw⟩ => ⟨he, hw ▸ Below.refl _ _⟩

theorem refClosure_any (a : Option Addr) (m cap : Nat) (rows : List Nat) (hr : Right m rows) (w : World) (hl : At w a m rows) :
    Calls Tryd.prog 39 #[.slice a m cap] w fun e w' => ∃ v, e = .returned v ∧ Held w' v m (come m rows) ∧ Below w.heap.size w w' := by
  by_cases h0 : 0 < m
  · rcases hl with h | ⟨b, off, rfl, hl⟩
    · omega
    · exact (refClosure_some b off m cap rows hr h0 w hl).mono fun e w' ⟨g, cp, he, _, ho, hB⟩ => ⟨_, he, Held.of ho, hB⟩
  · obtain rfl : m = 0 := by omega
    exact (refClosure_none a cap w).mono fun e w' ⟨he, hw⟩ => ⟨_, he, Held.nil _ _, hw ▸ Below.refl _ _⟩
theorem refOrder_any (a : Option Addr) (m cap : Nat) (rows : List Nat) (hr : Right m rows) (w : World) (hl : At w a m rows) :
    Calls Tryd.prog 35 #[.slice a m cap] w fun e w' => e = .returned (.bool (noRing m (come m rows))) ∧ Below w.heap.size w w' := by
  by_cases h0 : 0 < m
  · rcases hl with h | ⟨b, off, rfl, hl⟩
    · omega
    · exact refOrder_some _ m cap hr.1 (come m rows) (fun _ hi => Nat.lt_of_lt_of_le (come_lt hr hi) (pow12 hr.1)) w (refClosure_some b off m cap rows hr h0 w hl)
  · obtain rfl : m = 0 := by omega
    have hn : noRing 0 (come 0 rows) = true := rfl
    rw [hn]
    exact stays (refOrder_none a cap w)
end Go.Proofs.YtdmdoikkemfcaaaDoor
