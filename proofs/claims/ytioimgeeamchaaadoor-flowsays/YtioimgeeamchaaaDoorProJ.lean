/- Texts of bytes; rows that stay while another place is written. -/
import Derived.WalkKit
import Derived.LoopTactic
import Derived.OwnWalk
import Derived.Laws.BytesArg
import Derived.Laws.Strings
import Derived.Laws.Strings2
import Derived.Laws.Concat
import Derived.Test.YtioimgeeamchaaaDoorProC
import Derived.Test.YtioimgeeamchaaaDoorGen
namespace Go.Proofs.YtioimgeeamchaaaDoor
open Go.RowKit
set_option maxRecDepth 100000

/-- A text's bytes as numbers. -/
def numsB (y : ByteArray) : List Nat := y.data.toList.map (·.toNat)
/-- A text of bytes. -/
def strB (l : List Nat) : ByteArray := ⟨(l.map UInt8.ofNat).toArray⟩
theorem strB_numsB (y : ByteArray) : strB (numsB y) = y := by
  unfold strB numsB
  rw [List.map_map]
  have : ∀ m : List UInt8, m.map (UInt8.ofNat ∘ (·.toNat)) = m := fun m => by
    induction m with
    | nil => rfl
    | cons c m ih => rw [List.map_cons, ih]; simp
  rw [this]
theorem numsB_lt (y : ByteArray) : ∀ c ∈ numsB y, c < 256 := fun c hc => by
  unfold numsB at hc
  obtain ⟨b, _, rfl⟩ := List.mem_map.1 hc
  exact UInt8.toNat_lt b
theorem numsB_len (y : ByteArray) : (numsB y).length = y.size := by
  unfold numsB
  rw [List.length_map, Array.length_toList]
  rfl
theorem strB_app (a b : List Nat) : strB a ++ strB b = strB (a ++ b) := by
  unfold strB
  rw [List.map_append]
  rfl
theorem strB_nil : strB [] = ⟨#[]⟩ := rfl
theorem strB_size (l : List Nat) : (strB l).size = l.length := by
  show (l.map UInt8.ofNat).toArray.size = _
  simp
theorem strB_data (l : List Nat) : (strB l).data.toList = l.map UInt8.ofNat := rfl
theorem strB_inj {a b : List Nat} (ha : ∀ c ∈ a, c < 256) (hb : ∀ c ∈ b, c < 256) (h : strB a = strB b) : a = b := by
  have e : a.map UInt8.ofNat = b.map UInt8.ofNat := by rw [← strB_data, ← strB_data, h]
  have back : ∀ m : List Nat, (∀ c ∈ m, c < 256) → (m.map UInt8.ofNat).map (·.toNat) = m := fun m => by
    induction m with
    | nil => intro _; rfl
    | cons c m ih =>
      intro h
      rw [List.map_cons, List.map_cons, ih fun x hx => h x (by simp [hx])]
      have := h c (by simp)
      congr 1
      simp
      omega
  rw [← back a ha, ← back b hb, e]
theorem own_farQ {W : World} {base e k n : Nat} {v : Value} {xs : List Value} (h : W.ownsRow base e k v n xs) {X : Nat} (hne : v.ownBlock ≠ some X) (o : Nat) (u : Value) : (W.setCell ⟨X, o, none⟩ u).ownsRow base e k v n xs :=
  h.kept (row := some X) ⟨rfl, rfl, rfl, by simp [World.setCell], fun j _ hj => Below.heap_setCell _ _ _ j (fun q => hj (by rw [q]))⟩ (.inr hne)
theorem own_stays {w w' : World} {B e k n : Nat} {v : Value} {xs : List Value} (h : w.ownsRow B e k v n xs) (hb : Below w.heap.size w w') : w'.ownsRow B e k v n xs :=
  h.kept (row := none) ⟨hb.os, hb.tape, hb.output, hb.size, fun k hk _ => hb.block k hk⟩ (by cases hv : v.ownBlock <;> simp)
end Go.Proofs.YtioimgeeamchaaaDoor
