/- What is wrong with labels of which there are at most so many (check). -/
import Derived.WalkKit
import Derived.LoopTactic
import Derived.Deep.LoopGhost
import Derived.Test.YteheaeihoameeaaDoorBellMon
namespace Go.Proofs.YteheaeihoameeaaDoor
open Go.RowKit
set_option maxRecDepth 100000

/-- Are all of them labels? -/
def AllLab (n : Nat) (z : Nat → Int × Int) : Prop := ∀ i, i < n → IsLab (z i).1 (z i).2
theorem allLab_or (n : Nat) (z : Nat → Int × Int) : AllLab n z ∨ ∃ i, i < n ∧ NoLab (z i).1 (z i).2 := by
  by_cases h : AllLab n z
  · exact .inl h
  · refine .inr (Classical.byContradiction fun hn => h fun i hi => ?_)
    rcases lab_or (z i).1 (z i).2 with hl | hl
    · exact hl
    · exact absurd ⟨i, hi, hl⟩ hn
theorem isLab_not {l s : Int} (h : IsLab l s) (k : NoLab l s) : False := by
  unfold IsLab at h
  unfold NoLab at k
  omega
theorem bcheck_full (a : Option Addr) (n cap : Nat) (hn : 8 < n) (w : World) :
    Calls Tryd.prog 24 #[.slice a n cap, .int .i64 8] w fun e w' => e = .returned (.iface 63 (.int .i64 4)) ∧ w' = w := by
  have h : (8 : Int) < (n : Int) := by omega
  go_enter Tryd.func24, Tryd.ntmps24
  go_wp2
  go_ret
  exact ⟨rfl, rfl⟩
set_option maxHeartbeats 400000 in
theorem bcheck_none (a : Option Addr) (cap : Nat) (w : World) :
    Calls Tryd.prog 24 #[.slice a 0 cap, .int .i64 8] w fun e w' => e = .returned .nilIface ∧ Below w.heap.size w w' := by
  go_enter Tryd.func24, Tryd.ntmps24
  go_wp2
  go_loop [15] (fun i => i = .int .i64 0) (fun _ => 0)
  case atStart => rfl
  case round =>
    obtain rfl := hrel
    go_wp2
    go_ret
    exact ⟨rfl, Below.refl _ _⟩
/-- What lies in a label's place that was made. -/
theorem one_lab {w w' : World} {x y : Int} {t : TypeId} (S : Below (w.alloc (.cells #[.int .i64 x, .int .i64 y] t)).heap.size (w.alloc (.cells #[.int .i64 x, .int .i64 y] t)) w') : Below w.heap.size w w' :=
  ((Below.refl _ w).alloc (Nat.le_refl _) _).trans (S.mono (by simp))
set_option maxHeartbeats 400000 in
theorem bcheck_walk (b off n cap : Nat) (z : Nat → Int × Int) (hn : n ≤ 8) (w : World) (hl : Labs w b off n z) :
    Calls Tryd.prog 24 #[.slice (some ⟨b, off, none⟩) n cap, .int .i64 8] w fun e w' => ((e = .returned .nilIface ∧ AllLab n z) ∨ (e = .returned (.iface 63 (.int .i64 1)) ∧ ∃ i, i < n ∧ NoLab (z i).1 (z i).2)) ∧ Below w.heap.size w w' := by
  have hn8 : (n : Int) ≤ 8 := by omega
  go_enter Tryd.func24, Tryd.ntmps24
  go_wp2
  go_loopg [15] n (fun g i wr => ∃ k : Nat, k ≤ n ∧ g = n - k ∧ i = .int .i64 k ∧ Below w.heap.size w wr ∧ Hid (AllLab k z))
  case atStart => exact ⟨0, by omega, rfl, rfl, Below.refl _ _, fun _ h => absurd h (by omega)⟩
  case round =>
    obtain ⟨k, hk, rfl, rfl, hB, HA⟩ := hrel
    by_cases hlt : k < n
    · have hlt' : (k : Int) < (n : Int) := by omega
      have a1 := (hB.cell (p := ⟨b, off + k * 2, none⟩) hl.old).trans (hl.c1 k hlt)
      have a2 := (hB.cell (p := ⟨b, off + k * 2 + 1, none⟩) hl.old).trans (hl.c2 k hlt)
      rcases lab_or (z k).1 (z k).2 with hz | hz
      · have tC := fun W => labCheck_ok (z k).1 (z k).2 hz W
        have HN : Hid (AllLab (k + 1) z) := fun i hi => by
          by_cases e : i = k
          · subst e; exact hz
          · exact HA.out i (by omega)
        clear hz HA
        go_wp2_with (go_at_call 46; refine (tC _).mono ?_; clear tC; rintro e w2 ⟨rfl, S⟩; have hB2 := one_lab S; clear S)
        go_roundg (n - (k + 1))
        case measure => omega
        case rel => exact ⟨k + 1, by omega, rfl, by go_num, hB.trans (hB2.mono hB.size), HN⟩
      · have tC := fun W => labCheck_no (z k).1 (z k).2 hz W
        have HN : Hid (NoLab (z k).1 (z k).2) := hz
        clear hz HA
        go_wp2_with (go_at_call 46; refine (tC _).mono ?_; clear tC; rintro e w2 ⟨rfl, S⟩; have hB2 := one_lab S; clear S)
        go_ret
        exact ⟨.inr ⟨rfl, k, hlt, HN.out⟩, hB.trans (hB2.mono hB.size)⟩
    · have hge : (n : Int) ≤ (k : Int) := by omega
      have HN : Hid (AllLab n z) := by
        obtain rfl : k = n := by omega
        exact HA.out
      clear HA
      go_wp2
      go_ret
      exact ⟨.inl ⟨rfl, HN.out⟩, hB⟩
/-- What is told of labels. -/
def labsCode (n : Nat) (z : Nat → Int × Int) (c : Int) : Prop := (c = 4 ∧ 8 < n) ∨ (c = 0 ∧ n ≤ 8 ∧ AllLab n z) ∨ (c = 1 ∧ n ≤ 8 ∧ ∃ i, i < n ∧ NoLab (z i).1 (z i).2)
theorem labsCode_some (n : Nat) (z : Nat → Int × Int) : ∃ c, labsCode n z c := by
  by_cases h : 8 < n
  · exact ⟨4, .inl ⟨rfl, h⟩⟩
  · rcases allLab_or n z with hl | hl
    · exact ⟨0, .inr (.inl ⟨rfl, by omega, hl⟩)⟩
    · exact ⟨1, .inr (.inr ⟨rfl, by omega, hl⟩)⟩
theorem bcheck_ok (a : Option Addr) (n cap : Nat) (z : Nat → Int × Int) (hn : n ≤ 8) (hz : AllLab n z) (w : World) (hl : AtLabs w a n z) :
    Calls Tryd.prog 24 #[.slice a n cap, .int .i64 8] w fun e w' => e = .returned .nilIface ∧ Below w.heap.size w w' := by
  rcases hl with rfl | ⟨b, off, rfl, hl⟩
  · exact bcheck_none a cap w
  · refine (bcheck_walk b off n cap z hn w hl).mono fun e w' ⟨h, hB⟩ => ⟨?_, hB⟩
    rcases h with ⟨he, _⟩ | ⟨_, i, hi, hb⟩
    · exact he
    · exact (isLab_not (hz i hi) hb).elim
theorem bcheck_no (a : Option Addr) (n cap : Nat) (z : Nat → Int × Int) (hn : n ≤ 8) (hz : ∃ i, i < n ∧ NoLab (z i).1 (z i).2) (w : World) (hl : AtLabs w a n z) :
    Calls Tryd.prog 24 #[.slice a n cap, .int .i64 8] w fun e w' => e = .returned (.iface 63 (.int .i64 1)) ∧ Below w.heap.size w w' := by
  obtain ⟨i, hi, hb⟩ := hz
  rcases hl with rfl | ⟨b, off, rfl, hl⟩
  · omega
  · refine (bcheck_walk b off n cap z hn w hl).mono fun e w' ⟨h, hB⟩ => ⟨?_, hB⟩
    rcases h with ⟨_, hz⟩ | ⟨he, _⟩
    · exact (isLab_not (hz i hi) hb).elim
    · exact he
end Go.Proofs.YteheaeihoameeaaDoor
