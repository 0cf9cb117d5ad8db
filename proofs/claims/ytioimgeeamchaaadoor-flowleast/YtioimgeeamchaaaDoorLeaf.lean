/- What the small functions of package rel return. -/
import Derived.RangeFuncNested
import Derived.RangeFuncBound
import Derived.RangeFuncCalls
import Derived.RangeFuncLeaves
import Derived.RangeFuncFrom
import Derived.Shelf.Abstract
import Derived.Shelf.RegionOpen
import Derived.WalkKit
import Derived.OwnWalkIn
import Derived.TacticsInMore
import Derived.LoopNIn
import Derived.LoopIn
import Derived.Test.YtioimgeeamchaaaDoorArith
import Derived.Test.YtioimgeeamchaaaDoorChecked
namespace Go.Proofs.YtioimgeeamchaaaDoor
open Go.RowKit Go.Shelf
attribute [local go_sem] Oper.semAt_some

/-- The table lies where it was laid. -/
def Tab (w : World) : Prop := ∀ i, i < 64 → w.cell? ⟨1, i, none⟩ = some (.int .u8 (tab.getD i 0))
theorem Tab.below {B : Nat} {w w' : World} (h : Tab w) (hb : Below B w w') (h1 : 1 < B) : Tab w' := fun i hi => (hb.cell (p := ⟨1, i, none⟩) h1).trans (h i hi)
theorem Tab.size {w : World} (h : Tab w) : 1 < w.heap.size := by
  have h0 := h 0 (by decide)
  by_cases hs : 1 < w.heap.size
  · exact hs
  · have : w.heap[1]? = none := Array.getElem?_eq_none (by omega)
    simp [World.cell?, this] at h0
theorem tz_walk (x i l : Nat) (w : World) (h0 : ((x : Int) == 0) = false)
    (h1 : IntKind.u64.wrap (bits BinOp.and IntKind.u64 (x : Int) (IntKind.u64.wrap (-(x : Int))) * 285870213051353865) / 288230376151711744 = (i : Int))
    (h2 : i < 64) (hc : w.cell? ⟨1, i, none⟩ = some (.int .u8 l)) (hl : (l : Int) < 12) :
    Calls Tryd.prog 72 #[.int .u64 x] w fun e w' => e = .returned (.int .i64 l) ∧ w' = w := by
  go_enter Tryd.func72, Tryd.ntmps72
  go_wp2
  go_ret
  exact ⟨rfl, rfl⟩
theorem tz_any (x : Nat) (w : World) (hT : Tab w) (h0 : x ≠ 0) (h : x < 4096) :
    Calls Tryd.prog 72 #[.int .u64 x] w fun e w' => e = .returned (.int .i64 (low x)) ∧ w' = w := by
  obtain ⟨h1, h2, h3⟩ := ix_fact x h0 h
  have hc := hT (ix x) h2
  rw [h3] at hc
  have hl := low_lt (n := 12) (by decide) h h0
  exact tz_walk x (ix x) (low x) w (by simp; omega) h1 h2 hc (by omega)

theorem least_walk (x l : Nat) (w : World) (hx : x < 4096)
    (hc : Calls Tryd.prog 72 #[.int .u64 x] w fun e w' => e = .returned (.int .i64 l) ∧ w' = w) :
    Calls Tryd.prog 66 #[.int .i64 x] w fun e w' => e = .returned (.int .i64 l) ∧ w' = w := by
  go_enter Tryd.func66, Tryd.ntmps66
  go_wp2_with (go_at_call 72; refine hc.mono ?_; rintro e w' ⟨rfl, rfl⟩)
  go_ret
  exact ⟨rfl, rfl⟩
theorem least_any (x : Nat) (w : World) (hT : Tab w) (h0 : x ≠ 0) (h : x < 4096) :
    Calls Tryd.prog 66 #[.int .i64 x] w fun e w' => e = .returned (.int .i64 (low x)) ∧ w' = w :=
  least_walk x (low x) w h (tz_any x w hT h0 h)

theorem things_in (n : Nat) (x : Int) (w : World) :
    CallsIn Fence.wide n Tryd.prog 49 #[.int .i64 x] w fun e w' => e = .returned (.func (.func 65) #[] #[.pointer (some ⟨w.heap.size, 0, none⟩)]) ∧ w' = w.alloc (.cells #[.int .i64 x] 3) := by
  refine callsIn_of_wp Tryd.func49 rfl trivial ?_ rfl
  simp only [Tryd.ntmps49, List.size_toArray, List.length_cons, List.length_nil, Nat.reduceAdd, Nat.reduceSub, Array.replicate_succ, Array.replicate_zero, List.push_toArray, List.append_toArray, List.nil_append, List.cons_append]
  gi_wp2
  go_ret
  exact ⟨rfl, rfl⟩

/-- One round of the loop over a set's things. -/
theorem things1_in (n m : Nat) (hm : m ≤ 12) (hn : 1 ≤ n) (l Bn n₀ set : Nat) (hs : set < 2 ^ m) (J Jx : List (Thing m) → World → Prop)
    (hY : ∀ pre x W, J pre W → pre.length < 12 → YieldAt Fence.wide (n - 1) Tryd.prog l #[.int .i64 (x.1 : Int)] W fun e W' =>
      (e = .returned (.bool true) ∧ J (pre ++ [x]) W' ∧ Below n₀ W W') ∨ (e = .returned (.bool false) ∧ Jx (pre ++ [x]) W'))
    (W : World) (hBn : W.cell? ⟨Bn, 0, none⟩ = some (.int .i64 set)) (hT : Tab W) (h1 : 1 < n₀) (h0 : J [] W) :
    CallsIn Fence.wide n Tryd.prog 65 #[.func (.yield l) #[] #[], .pointer (some ⟨Bn, 0, none⟩)] W fun e W' => (∃ v, e = .returned v) ∧
      ((∃ ys, ys = memN m set ∧ J ys W') ∨ (∃ pre, pre <+: memN m set ∧ Jx pre W')) := by
  refine callsIn_of_wp Tryd.func65 rfl trivial ?_ rfl
  simp only [Tryd.ntmps65, List.size_toArray, List.length_cons, List.length_nil, Nat.reduceAdd, Nat.reduceSub, Array.replicate_succ, Array.replicate_zero, List.push_toArray, List.append_toArray, List.nil_append, List.cons_append]
  gi_wp2
  gi_loopw [3] (fun p wr => ∃ (pre : List (Thing m)) (x : Nat), p = .int .i64 x ∧ x < 2 ^ m ∧ memN m set = pre ++ memN m x ∧ Tab wr ∧ J pre wr)
    (fun p _ => (intOf p).toNat)
  case atStart =>
    exact ⟨[], set, rfl, hs, rfl, hT, h0⟩
  case round =>
    obtain ⟨pre, x, rfl, hx, hl, hTr, hJs⟩ := hrel
    have h12 := pow12 hm
    by_cases hx0 : x = 0
    · subst hx0
      gi_wp2
      go_end0
      exact ⟨⟨_, rfl⟩, .inl ⟨pre, by rw [hl, memN_zero, List.append_nil], hJs⟩⟩
    · have hlen : pre.length < 12 := by
        have a := memN_length m set
        have b := congrArg List.length hl
        rw [memN_cons hm hx hx0] at b
        simp at b; omega
      obtain ⟨fn, tmps, assign, body, hy, hR⟩ := hY pre ⟨low x, low_lt hm hx hx0⟩ wr hJs hlen
      dsimp only at hy
      have hba : bits BinOp.and IntKind.i64 (x : Int) ((x : Int) - 1) = ((x &&& (x - 1) : Nat) : Int) := by
        have := and_i64 x (x - 1) (by omega) (by omega)
        rw [← this]; congr 1; omega
      have hne : ((x : Int) != 0) = true := by simp; omega
      have hcl := least_any x wr hTr hx0 (by omega)
      gi_wp2_with (refine ⟨trivial, ?_⟩; gi_at_call 66; refine (callsIn_wide.2 hcl).mono ?_; rintro e w' ⟨rfl, rfl⟩)
      refine hR.mono ?_
      rintro e W3 (⟨rfl, hJ3, hk3⟩ | ⟨rfl, hJx3⟩)
      · gi_wp2
        go_roundw
        case rel => exact ⟨pre ++ [⟨low x, low_lt hm hx hx0⟩], x &&& (x - 1), rfl, Nat.lt_trans (and_pred_lt hx0) hx, by rw [hl, memN_cons hm hx hx0]; simp, hTr.below hk3 h1, hJ3⟩
        case measure =>
          have := and_pred_lt hx0
          simp [intOf]; omega
      · gi_wp2
        refine bodyPost_ret (results_none rfl _ _ _) rfl ?_
        exact ⟨⟨_, rfl⟩, .inr ⟨pre ++ [⟨low x, low_lt hm hx hx0⟩], ⟨memN m (x &&& (x - 1)), by rw [hl, memN_cons hm hx hx0]; simp⟩, hJx3⟩⟩
/-- What a set's things are gone over by. -/
theorem things_stops (n m : Nat) (hm : m ≤ 12) (hn : 1 ≤ n) (Bn n₀ set : Nat) (hs : set < 2 ^ m) (w : World) (hBn : Bn < w.heap.size) (hn₀ : n₀ ≤ w.heap.size) (h1 : 1 < n₀)
    (hc : w.cell? ⟨Bn, 0, none⟩ = some (.int .i64 set)) (hT : Tab w) :
    SeqStopsK Fence.wide n Tryd.prog 65 #[.pointer (some ⟨Bn, 0, none⟩)] (fun x : Thing m => #[Value.int .i64 (x.1 : Int)]) (Below n₀) (fun ys => ys = memN m set) (fun pre => pre <+: memN m set) 12 w := fun l J Jx W hW _ _ hY h0 =>
  things1_in n m hm hn l Bn n₀ set hs J Jx hY W ((hW.cell (p := ⟨Bn, 0, none⟩) hBn).trans hc) (hT.below (hW.mono hn₀) h1) h1 h0

end Go.Proofs.YtioimgeeamchaaaDoor
