/- What the small functions of package biba return: whether there is a user or a file (isUser, isFile), what is wrong with levels (check). -/
import Derived.WalkKit
import Derived.LoopTactic
import Derived.Test.YteheaeihoameeaaDoorGen
namespace Go.Proofs.YteheaeihoameeaaDoor
open Go.RowKit
set_option maxRecDepth 100000

theorem biUser_any (B : Nat) (a : Option Addr) (n cap : Nat) (i : Int) (w : World) (hc : w.cell? ⟨B, 0, none⟩ = some (.slice a n cap)) :
    Calls Tryd.prog 40 #[.pointer (some ⟨B, 0, none⟩), .int .i64 i] w fun e w' => e = .returned (.bool (inB i n)) ∧ w' = w := by
  rcases in_or i n with ⟨h0, h1⟩ | h | ⟨h0, h1⟩
  · rw [inB_yes h0 h1]
    go_enter Tryd.func40, Tryd.ntmps40
    go_wp2
    go_ret
    exact ⟨rfl, rfl⟩
  · rw [inB_no (.inl h)]
    have h0 : ¬ 0 ≤ i := by omega
    go_enter Tryd.func40, Tryd.ntmps40
    go_wp2
    go_ret
    exact ⟨rfl, rfl⟩
  · rw [inB_no (.inr h1)]
    have h2 : ¬ i < (n : Int) := by omega
    go_enter Tryd.func40, Tryd.ntmps40
    go_wp2
    go_ret
    exact ⟨by simp, rfl⟩
theorem biFile_any (B : Nat) (a : Option Addr) (n cap : Nat) (i : Int) (w : World) (hc : w.cell? ⟨B, 1, none⟩ = some (.slice a n cap)) :
    Calls Tryd.prog 41 #[.pointer (some ⟨B, 0, none⟩), .int .i64 i] w fun e w' => e = .returned (.bool (inB i n)) ∧ w' = w := by
  rcases in_or i n with ⟨h0, h1⟩ | h | ⟨h0, h1⟩
  · rw [inB_yes h0 h1]
    go_enter Tryd.func41, Tryd.ntmps41
    go_wp2
    go_ret
    exact ⟨rfl, rfl⟩
  · rw [inB_no (.inl h)]
    have h0 : ¬ 0 ≤ i := by omega
    go_enter Tryd.func41, Tryd.ntmps41
    go_wp2
    go_ret
    exact ⟨rfl, rfl⟩
  · rw [inB_no (.inr h1)]
    have h2 : ¬ i < (n : Int) := by omega
    go_enter Tryd.func41, Tryd.ntmps41
    go_wp2
    go_ret
    exact ⟨by simp, rfl⟩

/-- Is a number a level? -/
def IsLev (z : Int) : Prop := 0 ≤ z ∧ z ≤ 7
/-- Are all of them levels? -/
def AllLev (n : Nat) (zs : List Int) : Prop := ∀ i, i < n → IsLev (zs[i]?.getD 0)
theorem allLev_or (n : Nat) (zs : List Int) : AllLev n zs ∨ ∃ i, i < n ∧ ¬ IsLev (zs[i]?.getD 0) := by
  by_cases h : AllLev n zs
  · exact .inl h
  · refine .inr (Classical.byContradiction fun hn => h fun i hi => Classical.byContradiction fun hl => hn ⟨i, hi, hl⟩)
/-- What is wrong with levels. -/
def levCode (n : Nat) (zs : List Int) (c : Int) : Prop := (c = 4 ∧ 8 < n) ∨ (c = 0 ∧ n ≤ 8 ∧ AllLev n zs) ∨ (c = 1 ∧ n ≤ 8 ∧ ∃ i, i < n ∧ ¬ IsLev (zs[i]?.getD 0))
theorem levCode_some (n : Nat) (zs : List Int) : ∃ c, levCode n zs c := by
  by_cases h : 8 < n
  · exact ⟨4, .inl ⟨rfl, h⟩⟩
  · rcases allLev_or n zs with hl | hl
    · exact ⟨0, .inr (.inl ⟨rfl, by omega, hl⟩)⟩
    · exact ⟨1, .inr (.inr ⟨rfl, by omega, hl⟩)⟩
theorem biCheck_full (a : Option Addr) (n cap : Nat) (hn : 8 < n) (w : World) :
    Calls Tryd.prog 39 #[.slice a n cap, .int .i64 8] w fun e w' => e = .returned (.iface 63 (.int .i64 4)) ∧ w' = w := by
  have h : (8 : Int) < (n : Int) := by omega
  go_enter Tryd.func39, Tryd.ntmps39
  go_wp2
  go_ret
  exact ⟨rfl, rfl⟩
theorem biCheck_none (a : Option Addr) (cap : Nat) (w : World) :
    Calls Tryd.prog 39 #[.slice a 0 cap, .int .i64 8] w fun e w' => e = .returned .nilIface ∧ w' = w := by
  go_enter Tryd.func39, Tryd.ntmps39
  go_wp2
  go_loop [14] (fun i => i = .int .i64 0) (fun _ => 0)
  case atStart => rfl
  case round =>
    obtain rfl := hrel
    go_wp2
    go_ret
    exact ⟨rfl, rfl⟩
theorem biCheck_walk (b off n cap : Nat) (zs : List Int) (hn : n ≤ 8) (w : World) (hl : Nums w b off n zs) :
    Calls Tryd.prog 39 #[.slice (some ⟨b, off, none⟩) n cap, .int .i64 8] w fun e w' => ((e = .returned .nilIface ∧ AllLev n zs) ∨ (e = .returned (.iface 63 (.int .i64 1)) ∧ ∃ i, i < n ∧ ¬ IsLev (zs[i]?.getD 0))) ∧ w' = w := by
  have hn8 : (n : Int) ≤ 8 := by omega
  go_enter Tryd.func39, Tryd.ntmps39
  go_wp2
  go_loop [14] (fun i => ∃ k : Nat, k ≤ n ∧ i = .int .i64 k ∧ Hid (AllLev k zs)) (fun i => n - (intOf i).toNat)
  case atStart => exact ⟨0, by omega, rfl, fun _ h => absurd h (by omega)⟩
  case round =>
    obtain ⟨k, hk, rfl, HA⟩ := hrel
    by_cases hlt : k < n
    · have hlt' : (k : Int) < (n : Int) := by omega
      have a1 := hl.cell k hlt
      obtain ⟨x, hx⟩ : ∃ x, zs[k]?.getD 0 = x := ⟨_, rfl⟩
      rw [hx] at a1
      have HX : Hid (zs[k]?.getD 0 = x) := hx
      clear hx
      by_cases h0 : x < 0
      · go_wp2
        go_ret
        exact ⟨.inr ⟨rfl, k, hlt, by rw [HX.out]; intro h; have := h.1; omega⟩, rfl⟩
      · by_cases h7 : 7 < x
        · have h0' : ¬ x < 0 := h0
          go_wp2
          go_ret
          exact ⟨.inr ⟨rfl, k, hlt, by rw [HX.out]; intro h; have := h.2; omega⟩, rfl⟩
        · have HN : Hid (AllLev (k + 1) zs) := fun i hi => by
            by_cases e : i = k
            · subst e; rw [HX.out]; exact ⟨by omega, by omega⟩
            · exact HA.out i (by omega)
          clear HA HX
          go_wp2
          go_round
          case rel => exact ⟨k + 1, by omega, by go_num, HN⟩
          case measure => simp [intOf]; omega
    · have hge : (n : Int) ≤ (k : Int) := by omega
      have HN : Hid (AllLev n zs) := by
        obtain rfl : k = n := by omega
        exact HA.out
      clear HA
      go_wp2
      go_ret
      exact ⟨.inl ⟨rfl, HN.out⟩, rfl⟩
theorem biCheck_ok (a : Option Addr) (n cap : Nat) (zs : List Int) (hn : n ≤ 8) (hz : AllLev n zs) (w : World) (hl : AtNums w a n zs) :
    Calls Tryd.prog 39 #[.slice a n cap, .int .i64 8] w fun e w' => e = .returned .nilIface ∧ w' = w := by
  rcases hl with rfl | ⟨b, off, rfl, hl⟩
  · exact biCheck_none a cap w
  · refine (biCheck_walk b off n cap zs hn w hl).mono fun e w' ⟨h, hw⟩ => ⟨?_, hw⟩
    rcases h with ⟨he, _⟩ | ⟨_, i, hi, hb⟩
    · exact he
    · exact absurd (hz i hi) hb
theorem biCheck_no (a : Option Addr) (n cap : Nat) (zs : List Int) (hn : n ≤ 8) (hz : ∃ i, i < n ∧ ¬ IsLev (zs[i]?.getD 0)) (w : World) (hl : AtNums w a n zs) :
    Calls Tryd.prog 39 #[.slice a n cap, .int .i64 8] w fun e w' => e = .returned (.iface 63 (.int .i64 1)) ∧ w' = w := by
  obtain ⟨i, hi, hb⟩ := hz
  rcases hl with rfl | ⟨b, off, rfl, hl⟩
  · omega
  · refine (biCheck_walk b off n cap zs hn w hl).mono fun e w' ⟨h, hw⟩ => ⟨?_, hw⟩
    rcases h with ⟨_, hz⟩ | ⟨he, _⟩
    · exact absurd (hz i hi) hb
    · exact he
end Go.Proofs.YteheaeihoameeaaDoor
