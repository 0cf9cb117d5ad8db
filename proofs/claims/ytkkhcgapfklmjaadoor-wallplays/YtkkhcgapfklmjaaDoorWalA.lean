/- What the small functions of package wall return: whether there is a user or a firm (isUser, isFirm), what is wrong with a number of users and trades (check). -/
import Derived.WalkKit
import Derived.LoopTactic
import Derived.Test.YtkkhcgapfklmjaaDoorBibA
namespace Go.Proofs.YtkkhcgapfklmjaaDoor
open Go.RowKit
set_option maxRecDepth 100000

theorem waUser_any (B : Nat) (a : Option Addr) (n cap : Nat) (i : Int) (w : World) (hc : w.cell? ⟨B, 0, none⟩ = some (.slice a n cap)) :
    Calls Tryd.prog 18 #[.pointer (some ⟨B, 0, none⟩), .int .i64 i] w fun e w' => e = .returned (.bool (inB i n)) ∧ w' = w := by
  rcases in_or i n with ⟨h0, h1⟩ | h | ⟨h0, h1⟩
  · rw [inB_yes h0 h1]
    go_enter Tryd.func18, Tryd.ntmps18
    go_wp2
    go_ret
    exact ⟨rfl, rfl⟩
  · rw [inB_no (.inl h)]
    have h0 : ¬ 0 ≤ i := by omega
    go_enter Tryd.func18, Tryd.ntmps18
    go_wp2
    go_ret
    exact ⟨rfl, rfl⟩
  · rw [inB_no (.inr h1)]
    have h2 : ¬ i < (n : Int) := by omega
    go_enter Tryd.func18, Tryd.ntmps18
    go_wp2
    go_ret
    exact ⟨by simp, rfl⟩
theorem waFirm_any (B : Nat) (a : Option Addr) (n cap : Nat) (i : Int) (w : World) (hc : w.cell? ⟨B, 1, none⟩ = some (.slice a n cap)) :
    Calls Tryd.prog 19 #[.pointer (some ⟨B, 0, none⟩), .int .i64 i] w fun e w' => e = .returned (.bool (inB i n)) ∧ w' = w := by
  rcases in_or i n with ⟨h0, h1⟩ | h | ⟨h0, h1⟩
  · rw [inB_yes h0 h1]
    go_enter Tryd.func19, Tryd.ntmps19
    go_wp2
    go_ret
    exact ⟨rfl, rfl⟩
  · rw [inB_no (.inl h)]
    have h0 : ¬ 0 ≤ i := by omega
    go_enter Tryd.func19, Tryd.ntmps19
    go_wp2
    go_ret
    exact ⟨rfl, rfl⟩
  · rw [inB_no (.inr h1)]
    have h2 : ¬ i < (n : Int) := by omega
    go_enter Tryd.func19, Tryd.ntmps19
    go_wp2
    go_ret
    exact ⟨by simp, rfl⟩

theorem waCheck_users (a : Option Addr) (n cap : Nat) (u : Int) (hu : u < 0 ∨ 8 < u) (w : World) :
    Calls Tryd.prog 17 #[.int .i64 u, .slice a n cap] w fun e w' => e = .returned (.iface 50 (.int .i64 1)) ∧ w' = w := by
  by_cases h0 : u < 0
  · go_enter Tryd.func17, Tryd.ntmps17
    go_wp2
    go_ret
    exact ⟨rfl, rfl⟩
  · have h8 : 8 < u := by omega
    go_enter Tryd.func17, Tryd.ntmps17
    go_wp2
    go_ret
    exact ⟨rfl, rfl⟩
theorem waCheck_full (a : Option Addr) (n cap : Nat) (u : Int) (h0 : 0 ≤ u) (h8 : u ≤ 8) (hn : 8 < n) (w : World) :
    Calls Tryd.prog 17 #[.int .i64 u, .slice a n cap] w fun e w' => e = .returned (.iface 50 (.int .i64 4)) ∧ w' = w := by
  have h : (8 : Int) < (n : Int) := by omega
  go_enter Tryd.func17, Tryd.ntmps17
  go_wp2
  go_ret
  exact ⟨rfl, rfl⟩
theorem waCheck_walk (a : Option Addr) (n cap : Nat) (u : Int) (h0 : 0 ≤ u) (h8 : u ≤ 8) (zs : List Int) (hn : n ≤ 8) (w : World) (hl : AtNums w a n zs) :
    Calls Tryd.prog 17 #[.int .i64 u, .slice a n cap] w fun e w' => ((e = .returned .nilIface ∧ AllLev n zs) ∨ (e = .returned (.iface 50 (.int .i64 1)) ∧ ∃ i, i < n ∧ ¬ IsLev (zs[i]?.getD 0))) ∧ w' = w := by
  have hn8 : (n : Int) ≤ 8 := by omega
  go_enter Tryd.func17, Tryd.ntmps17
  go_wp2
  go_loop [20] (fun i => ∃ k : Nat, k ≤ n ∧ i = .int .i64 k ∧ Hid (AllLev k zs)) (fun i => n - (intOf i).toNat)
  case atStart => exact ⟨0, by omega, rfl, fun _ h => absurd h (by omega)⟩
  case round =>
    obtain ⟨k, hk, rfl, HA⟩ := hrel
    by_cases hlt : k < n
    · have hlt' : (k : Int) < (n : Int) := by omega
      rcases hl with hl | ⟨b, off, rfl, hl⟩
      · omega
      have a1 := hl.cell k hlt
      obtain ⟨x, hx⟩ : ∃ x, zs[k]?.getD 0 = x := ⟨_, rfl⟩
      rw [hx] at a1
      have HX : Hid (zs[k]?.getD 0 = x) := hx
      clear hx
      by_cases h0 : x < 0
      · go_wp2
        go_ret
        exact ⟨.inr ⟨rfl, k, hlt, by rw [HX.out]; intro h; have := h.1; omega⟩, rfl⟩
      · by_cases h7 : 7 < x
        · have h0' : ¬ x < 0 := h0
          go_wp2
          go_ret
          exact ⟨.inr ⟨rfl, k, hlt, by rw [HX.out]; intro h; have := h.2; omega⟩, rfl⟩
        · have HN : Hid (AllLev (k + 1) zs) := fun i hi => by
            by_cases e : i = k
            · subst e; rw [HX.out]; exact ⟨by omega, by omega⟩
            · exact HA.out i (by omega)
          clear HA HX
          go_wp2
          go_round
          case rel => exact ⟨k + 1, by omega, by go_num, HN⟩
          case measure => simp [intOf]; omega
    · have hge : (n : Int) ≤ (k : Int) := by omega
      have HN : Hid (AllLev n zs) := by
        obtain rfl : k = n := by omega
        exact HA.out
      clear HA
      go_wp2
      go_ret
      exact ⟨.inl ⟨rfl, HN.out⟩, rfl⟩
/-- What is wrong with a number of users and trades. -/
def wallCode (u : Int) (n : Nat) (zs : List Int) (c : Int) : Prop := (c = 1 ∧ (u < 0 ∨ 8 < u)) ∨ (0 ≤ u ∧ u ≤ 8 ∧ levCode n zs c)
theorem waCheck_told (a : Option Addr) (n cap : Nat) (u : Int) (zs : List Int) (w : World) (h : AtNums w a n zs) :
    (0 ≤ u ∧ u ≤ 8 ∧ n ≤ 8 ∧ AllLev n zs ∧ ∀ W, Below w.heap.size w W → Calls Tryd.prog 17 #[.int .i64 u, .slice a n cap] W fun e w' => e = .returned .nilIface ∧ w' = W) ∨
    ∃ x : Int, x ≠ 0 ∧ wallCode u n zs x ∧ ∀ W, Below w.heap.size w W → Calls Tryd.prog 17 #[.int .i64 u, .slice a n cap] W fun e w' => e = .returned (.iface 50 (.int .i64 x)) ∧ w' = W := by
  by_cases hu : u < 0 ∨ 8 < u
  · exact .inr ⟨1, by decide, .inl ⟨rfl, hu⟩, fun W _ => waCheck_users a n cap u hu W⟩
  · have h0 : 0 ≤ u := by omega
    have h8 : u ≤ 8 := by omega
    by_cases hn : 8 < n
    · exact .inr ⟨4, by decide, .inr ⟨h0, h8, .inl ⟨rfl, hn⟩⟩, fun W _ => waCheck_full a n cap u h0 h8 hn W⟩
    · rcases allLev_or n zs with hz | ⟨i, hi, hb⟩
      · refine .inl ⟨h0, h8, by omega, hz, fun W b => (waCheck_walk a n cap u h0 h8 zs (by omega) W (h.below b)).mono fun e w' ⟨h, hw⟩ => ⟨?_, hw⟩⟩
        rcases h with ⟨he, _⟩ | ⟨_, i, hi, hb⟩
        · exact he
        · exact absurd (hz i hi) hb
      · refine .inr ⟨1, by decide, .inr ⟨h0, h8, .inr (.inr ⟨rfl, by omega, i, hi, hb⟩)⟩, fun W b => (waCheck_walk a n cap u h0 h8 zs (by omega) W (h.below b)).mono fun e w' ⟨h, hw⟩ => ⟨?_, hw⟩⟩
        rcases h with ⟨_, hz⟩ | ⟨he, _⟩
        · exact absurd (hz i hi) hb
        · exact he
end Go.Proofs.YtkkhcgapfklmjaaDoor
