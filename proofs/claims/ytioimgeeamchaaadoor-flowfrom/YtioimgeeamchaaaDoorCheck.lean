/- What is told of a relation (Check), and whether two lists are the same (Ints). -/
import Derived.WalkKit
import Derived.LoopTactic
import Derived.Outline
import Derived.Deep.QuietTactic
import Derived.BigQuiet
import Derived.Test.YtioimgeeamchaaaDoorClosure
import Derived.Test.YtioimgeeamchaaaDoorSets
namespace Go.Proofs.YtioimgeeamchaaaDoor
open Go.RowKit

/-- A number is a set of m things. -/
def IsRow (m : Nat) (z : Int) : Prop := 0 ≤ z ∧ z < (2 ^ m : Nat)

/-- Is a number a set of m things? -/
def goodB (m : Nat) (z : Int) : Bool := decide (0 ≤ z ∧ z < ((2 ^ m : Nat) : Int))
theorem goodB_yes {m : Nat} {z : Int} (h : IsRow m z) : goodB m z = true := decide_eq_true h
theorem goodB_no {m : Nat} {z : Int} (h : ¬ IsRow m z) : goodB m z = false := decide_eq_false h

theorem isSet_any (z : Int) (n : Nat) (hn : n ≤ 12) (w : World) :
    Calls Tryd.prog 54 #[.int .i64 z, .int .i64 n] w fun e w' => e = .returned (.bool (goodB n z)) ∧ w' = w := by
  have hp := pow_wrap hn
  have hpl := pow12 hn
  obtain ⟨p, hpe⟩ : ∃ p, 2 ^ n = p := ⟨_, rfl⟩
  rw [hpe] at hp hpl
  by_cases h0 : z < 0
  · have HE : Hid (goodB n z = false) := goodB_no fun h => by have := h.1; omega
    clear hpe
    go_enter Tryd.func54, Tryd.ntmps54
    go_wp2
    go_ret
    exact ⟨ret_bool HE.out.symm, rfl⟩
  · have h0' : 0 ≤ z := by omega
    by_cases h1 : z < (p : Int)
    · have HE : Hid (goodB n z = true) := goodB_yes ⟨by omega, by rw [hpe]; exact h1⟩
      clear hpe
      go_enter Tryd.func54, Tryd.ntmps54
      go_wp2
      go_ret
      exact ⟨ret_bool HE.out.symm, rfl⟩
    · have HE : Hid (goodB n z = false) := goodB_no fun h => by have := h.2; rw [hpe] at this; omega
      clear hpe
      go_enter Tryd.func54, Tryd.ntmps54
      go_wp2
      go_ret
      exact ⟨ret_bool (by rw [HE.out]; try exact decide_eq_false (by omega)), rfl⟩

theorem check_full (a : Option Addr) (m cap : Nat) (hm : 12 < m) (w : World) :
    Calls Tryd.prog 38 #[.slice a m cap] w fun e w' => e = .returned (.iface 57 (.int .i64 4)) ∧ w' = w := by
  go_enter Tryd.func38, Tryd.ntmps38
  go_wp2
  go_ret
  exact ⟨rfl, rfl⟩

theorem check_none (a : Option Addr) (cap : Nat) (w : World) :
    Calls Tryd.prog 38 #[.slice a 0 cap] w fun e w' => e = .returned .nilIface ∧ w' = w := by
  go_enter Tryd.func38, Tryd.ntmps38
  go_wp2
  go_loop [11] (fun i => i = .int .i64 0) (fun _ => 0)
  case atStart => rfl
  case round =>
    obtain rfl := hrel
    go_wp2
    go_ret
    exact ⟨rfl, rfl⟩

set_option maxHeartbeats 400000 in
theorem check_some (b off m cap : Nat) (zs : List Int) (hm : m ≤ 12) (w : World) (hn : Nums w b off m zs) :
    Calls Tryd.prog 38 #[.slice (some ⟨b, off, none⟩) m cap] w fun e w' =>
      ((e = .returned .nilIface ∧ ∀ i, i < m → IsRow m (zs[i]?.getD 0)) ∨ (e = .returned (.iface 57 (.int .i64 1)) ∧ ∃ i, i < m ∧ ¬ IsRow m (zs[i]?.getD 0))) ∧ w' = w := by
  have hmk := fun z => isSet_any z m hm w
  go_enter Tryd.func38, Tryd.ntmps38
  go_wp2
  go_loop [11] (fun i => ∃ k : Nat, k ≤ m ∧ i = .int .i64 k ∧ Hid (∀ i, i < k → IsRow m (zs[i]?.getD 0))) (fun i => m - (intOf i).toNat)
  case atStart => exact ⟨0, by omega, rfl, fun i h => absurd h (by omega)⟩
  case round =>
    obtain ⟨k, hk, rfl, HG⟩ := hrel
    by_cases hlt : k < m
    · have hc := hn.cell k hlt
      have hi : (k : Int) < (m : Int) := by omega
      have hmz := hmk (zs[k]?.getD 0)
      clear hmk
      by_cases hg : IsRow m (zs[k]?.getD 0)
      · rw [goodB_yes hg] at hmz
        have HZ : Hid (IsRow m (zs[k]?.getD 0)) := hg
        clear hg
        go_wp2_with (go_at_call 54; refine hmz.mono ?_; rintro e w' ⟨rfl, rfl⟩)
        go_round
        case rel => exact ⟨k + 1, by omega, by go_num, fun i hi => by
            by_cases e : i = k
            · subst e; exact HZ.out
            · exact HG.out i (by omega)⟩
        case measure => simp [intOf]; omega
      · rw [goodB_no hg] at hmz
        have HZ : Hid (¬ IsRow m (zs[k]?.getD 0)) := hg
        clear hg
        go_wp2_with (go_at_call 54; refine hmz.mono ?_; rintro e w' ⟨rfl, rfl⟩)
        go_ret
        exact ⟨.inr ⟨rfl, k, hlt, HZ.out⟩, rfl⟩
    · clear hmk
      go_wp2
      go_ret
      exact ⟨.inl ⟨rfl, fun i hi => HG.out i (by omega)⟩, rfl⟩

theorem check_any (a : Option Addr) (m cap : Nat) (zs : List Int) (hm : m ≤ 12) (w : World) (hn : AtNums w a m zs) :
    Calls Tryd.prog 38 #[.slice a m cap] w fun e w' =>
      ((e = .returned .nilIface ∧ ∀ i, i < m → IsRow m (zs[i]?.getD 0)) ∨ (e = .returned (.iface 57 (.int .i64 1)) ∧ ∃ i, i < m ∧ ¬ IsRow m (zs[i]?.getD 0))) ∧ w' = w := by
  rcases hn with rfl | ⟨b, off, rfl, hn⟩
  · exact (check_none a cap w).mono fun e w' ⟨he, hw⟩ => ⟨.inl ⟨he, fun i hi => absurd hi (by omega)⟩, hw⟩
  · exact check_some b off m cap zs hm w hn

/-- Are two lists of m numbers the same? -/
def sameB (m : Nat) (xs ys : List Nat) : Bool := (List.range m).all fun i => xs.getD i 0 == ys.getD i 0
theorem sameB_iff (m : Nat) (xs ys : List Nat) : sameB m xs ys = true ↔ ∀ i, i < m → xs.getD i 0 = ys.getD i 0 := by
  simp [sameB]
end Go.Proofs.YtioimgeeamchaaaDoor
