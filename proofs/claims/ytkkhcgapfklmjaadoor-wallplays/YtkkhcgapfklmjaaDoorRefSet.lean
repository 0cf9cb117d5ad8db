/- What the document's set answers: a list with one number in another one's place; and whether a number is from one to another one (in), and the lesser of two (less). -/
import Derived.WalkKit
import Derived.LoopTactic
import Derived.Deep.LoopGhost
import Derived.Test.YtkkhcgapfklmjaaDoorLsto
namespace Go.Proofs.YtkkhcgapfklmjaaDoor
open Go.RowKit
set_option maxRecDepth 100000

set_option maxHeartbeats 4000000 in
theorem set_any (P : Nat → Prop) (v : Value) (n : Nat) (f : Nat → Int) (i x : Int) (hn : n ≤ 4096) (w : World) (hv : Lst w v n f) (hh : ∀ b, w.heap.size ≤ b → P b) :
    Calls Tryd.prog 25 #[v, .int .i64 i, .int .i64 x] w fun e w' => ∃ v', e = .returned v' ∧ Lstp P w' v' n (updI f i x) ∧ Below w.heap.size w w' := by
  obtain ⟨a, cp, rfl, hv⟩ := hv
  have hn' : (n : Int) ≤ 4096 := by omega
  obtain ⟨i0, hi0, hz0, hz1, hz2⟩ := info_parts info3i
  go_enter Tryd.func25, Tryd.ntmps25
  go_wp2
  go_loopg [7, 8] n (fun g o j wr => ∃ k : Nat, k ≤ n ∧ g = n - k ∧ j = .int .i64 k ∧ wr.ownsRow w.heap.size 3 1 o k (rowI k (updI f i x)) ∧ Below w.heap.size w wr)
  case atStart => exact ⟨0, by omega, rfl, rfl, World.ownsRow_nil _ _ _ _, Below.refl _ _⟩
  case round =>
    obtain ⟨k, hk, rfl, rfl, hown, hB⟩ := hrel
    by_cases hlt : k < n
    · have hlt' : (k : Int) < (n : Int) := by omega
      have hc4 : k + 1 ≤ maxLen := by unfold maxLen; omega
      have hc5 : (k + 1) * 8 ≤ 140737488355328 := by omega
      have hbase : ∀ o, w.heap.size ≤ (wr.alloc o).heap.size := fun o => by have := hB.size; simp; omega
      have hone : ∀ y : Int, ∀ u ∈ [Value.int .i64 y], u.oneCell' = true := by intro y u hu; rw [List.mem_singleton.1 hu]; rfl
      have HS := rowI_snoc k (updI f i x)
      by_cases he : (k : Int) = i
      · have HE : Hid (updI f i x k = x) := by rw [Hid, updI, if_pos he]
        rw [HE.out] at HS
        have hbe : ((k : Int) == i) = true := by simp [he]
        clear he HE hv
        as_aux_lemma =>
        go_wp2_with (at_builtin; refine wpList_append_own _ rfl _ _ 22 rfl w.heap.size 3 i0 (.int .i64 0) 1 8 Tryd.underlying22 hi0 hz0 hz1 hz2 rfl (by decide) _ k _ rfl (hown.alloc _) ⟨_, 0, none⟩ 1 1 [.int .i64 x] rfl rfl (cell_one_new _ _ _) (hone x) hc4 hc5 (hbase _) ?_; intro v' w3 hown' hgrow hnil; rw [HS] at hown'; have hB3 : Below w.heap.size w w3 := (hB.alloc hB.size _).grown hgrow (hbase _) (rowI_block hown))
        go_roundg (n - (k + 1))
        case measure => omega
        case rel => exact ⟨k + 1, by omega, rfl, by go_num, hown', hB3⟩
      · have HE : Hid (updI f i x k = f k) := by rw [Hid, updI, if_neg he]
        rw [HE.out] at HS
        have hbe : ((k : Int) == i) = false := by simp [he]
        rcases hv with hv | ⟨b, off, rfl, hl, hc⟩
        · omega
        have e1 := (hB.cell (p := ⟨b, off + k, none⟩) hl).trans (hc k hlt)
        obtain ⟨y, hy⟩ : ∃ y, f k = y := ⟨_, rfl⟩
        rw [hy] at e1 HS
        clear he HE hy hc
        as_aux_lemma =>
        go_wp2_with (at_builtin; refine wpList_append_own _ rfl _ _ 22 rfl w.heap.size 3 i0 (.int .i64 0) 1 8 Tryd.underlying22 hi0 hz0 hz1 hz2 rfl (by decide) _ k _ rfl (hown.alloc _) ⟨_, 0, none⟩ 1 1 [.int .i64 y] rfl rfl (cell_one_new _ _ _) (hone y) hc4 hc5 (hbase _) ?_; intro v' w3 hown' hgrow hnil; rw [HS] at hown'; have hB3 : Below w.heap.size w w3 := (hB.alloc hB.size _).grown hgrow (hbase _) (rowI_block hown))
        go_roundg (n - (k + 1))
        case measure => omega
        case rel => exact ⟨k + 1, by omega, rfl, by go_num, hown', hB3⟩
    · have hge : (n : Int) ≤ (k : Int) := by omega
      obtain rfl : k = n := by omega
      have hL := lstp_of_row hown hh
      clear hv hown
      go_wp2
      go_ret
      exact ⟨_, rfl, hL, hB⟩
/-- Is a number from one to another one? -/
def inQ (x a b : Int) : Bool := decide (a ≤ x ∧ x ≤ b)
theorem inQ_iff (x a b : Int) : inQ x a b = true ↔ a ≤ x ∧ x ≤ b := by rw [inQ, decide_eq_true_eq]
theorem refIn_any (x a b : Int) (w : World) :
    Calls Tryd.prog 22 #[.int .i64 x, .int .i64 a, .int .i64 b] w fun e w' => e = .returned (.bool (inQ x a b)) ∧ w' = w := by
  by_cases h1 : a ≤ x
  · by_cases h2 : x ≤ b
    · rw [(inQ_iff x a b).2 ⟨h1, h2⟩]
      go_enter Tryd.func22, Tryd.ntmps22
      go_wp2
      go_ret
      exact ⟨rfl, rfl⟩
    · rw [show inQ x a b = false from decide_eq_false (by omega)]
      have h3 : b < x := by omega
      go_enter Tryd.func22, Tryd.ntmps22
      go_wp2
      go_ret
      exact ⟨by simp, rfl⟩
  · rw [show inQ x a b = false from decide_eq_false (by omega)]
    have h3 : x < a := by omega
    go_enter Tryd.func22, Tryd.ntmps22
    go_wp2
    go_ret
    exact ⟨rfl, rfl⟩
end Go.Proofs.YtkkhcgapfklmjaaDoor
