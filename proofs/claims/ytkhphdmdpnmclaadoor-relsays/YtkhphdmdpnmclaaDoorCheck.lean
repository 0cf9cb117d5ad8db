/- What is told of a relation (Check), and whether two lists are the same (Ints). -/
import Derived.WalkKit
import Derived.LoopTactic
import Derived.Outline
import Derived.Deep.QuietTactic
import Derived.BigQuiet
import Derived.Test.YtkhphdmdpnmclaaDoorClosure
import Derived.Test.YtkhphdmdpnmclaaDoorSets
namespace Go.Proofs.YtkhphdmdpnmclaaDoor
open Go.RowKit

/-- A number is a set of m things. -/
def Good (m : Nat) (z : Int) : Prop := 0 ≤ z ∧ z < (2 ^ m : Nat)

theorem check_full (a : Option Addr) (m cap : Nat) (hm : 12 < m) (w : World) :
    Calls Tryd.prog 7 #[.slice a m cap] w fun e w' => e = .returned (.iface 42 (.int .i64 4)) ∧ w' = w := by
  go_enter Tryd.func7, Tryd.ntmps7
  go_wp2
  go_ret
  exact ⟨rfl, rfl⟩

theorem check_none (a : Option Addr) (cap : Nat) (w : World) :
    Calls Tryd.prog 7 #[.slice a 0 cap] w fun e w' => e = .returned .nilIface ∧ w' = w := by
  go_enter Tryd.func7, Tryd.ntmps7
  go_wp2
  go_loop [11] (fun i => i = .int .i64 0) (fun _ => 0)
  case atStart => rfl
  case round =>
    obtain rfl := hrel
    go_wp2
    go_ret
    exact ⟨rfl, rfl⟩

set_option maxHeartbeats 400000 in
theorem check_some (b off m cap p : Nat) (zs : List Int) (hm : m ≤ 12) (hp : wrap64 ((2 : Int) ^ m) = (p : Int)) (w : World) (hn : Nums w b off m zs) :
    Calls Tryd.prog 7 #[.slice (some ⟨b, off, none⟩) m cap] w fun e w' =>
      ((e = .returned .nilIface ∧ ∀ i, i < m → 0 ≤ zs[i]?.getD 0 ∧ zs[i]?.getD 0 < (p : Int)) ∨ (e = .returned (.iface 42 (.int .i64 1)) ∧ ∃ i, i < m ∧ ¬ (0 ≤ zs[i]?.getD 0 ∧ zs[i]?.getD 0 < (p : Int)))) ∧ w' = w := by
  go_enter Tryd.func7, Tryd.ntmps7
  go_wp2
  go_loop [11] (fun i => ∃ k : Nat, k ≤ m ∧ i = .int .i64 k ∧ ∀ i, i < k → 0 ≤ zs[i]?.getD 0 ∧ zs[i]?.getD 0 < (p : Int)) (fun i => m - (intOf i).toNat)
  case atStart => exact ⟨0, by omega, rfl, fun i h => absurd h (by omega)⟩
  case round =>
    obtain ⟨k, hk, rfl, hg⟩ := hrel
    have HG : Hid (∀ i, i < k → 0 ≤ zs[i]?.getD 0 ∧ zs[i]?.getD 0 < (p : Int)) := hg
    clear hg
    by_cases hlt : k < m
    · have hc := hn.cell k hlt
      by_cases h0 : zs[k]?.getD 0 < 0
      · go_wp2
        go_ret
        exact ⟨.inr ⟨rfl, k, hlt, fun h => by omega⟩, rfl⟩
      · by_cases h1 : (p : Int) ≤ zs[k]?.getD 0
        · go_wp2
          go_ret
          exact ⟨.inr ⟨rfl, k, hlt, fun h => by omega⟩, rfl⟩
        · go_wp2
          go_round
          case rel => exact ⟨k + 1, by omega, by go_num, fun i hi => by
            by_cases e : i = k
            · subst e; exact ⟨by omega, by omega⟩
            · exact HG.out i (by omega)⟩
          case measure => simp [intOf]; omega
    · go_wp2
      go_ret
      exact ⟨.inl ⟨rfl, fun i hi => HG.out i (by omega)⟩, rfl⟩

theorem check_any (a : Option Addr) (m cap : Nat) (zs : List Int) (hm : m ≤ 12) (w : World) (hn : AtNums w a m zs) :
    Calls Tryd.prog 7 #[.slice a m cap] w fun e w' =>
      ((e = .returned .nilIface ∧ ∀ i, i < m → Good m (zs[i]?.getD 0)) ∨ (e = .returned (.iface 42 (.int .i64 1)) ∧ ∃ i, i < m ∧ ¬ Good m (zs[i]?.getD 0))) ∧ w' = w := by
  rcases hn with rfl | ⟨b, off, rfl, hn⟩
  · exact (check_none a cap w).mono fun e w' ⟨he, hw⟩ => ⟨.inl ⟨he, fun i hi => absurd hi (by omega)⟩, hw⟩
  · exact check_some b off m cap (2 ^ m) zs hm (pow_wrap hm) w hn

/-- Are two lists of m numbers the same? -/
def sameB (m : Nat) (xs ys : List Nat) : Bool := (List.range m).all fun i => xs.getD i 0 == ys.getD i 0
theorem sameB_iff (m : Nat) (xs ys : List Nat) : sameB m xs ys = true ↔ ∀ i, i < m → xs.getD i 0 = ys.getD i 0 := by
  simp [sameB]
end Go.Proofs.YtkhphdmdpnmclaaDoor
