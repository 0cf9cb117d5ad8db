/- The walk of the law RelCloses at any two lists of numbers. -/
import Derived.WalkKit
import Derived.LoopTactic
import Derived.Outline
import Derived.OpenShut
import Derived.Test.YtfdappdcihljdaaDoorCloses
import Derived.Test.YtfdappdcihljdaaDoorRowk
namespace Go.Proofs.YtfdappdcihljdaaDoor
open Go.RowKit

set_option maxRecDepth 100000 in
set_option maxHeartbeats 1000000 in
theorem closes_none (a1 : Option Addr) (c1 : Nat) (a2 : Option Addr) (m2 c2 : Nat) (w : World)
    (hfact : Calls Tryd.prog 20 #[] w fun e w' => e = .returned (.bool true) ∧ Below w.heap.size w w')
    (hcl : ∀ w1, Below w.heap.size w w1 → Calls Tryd.prog 15 #[.slice a1 0 c1] w1 fun e w' => e = .returned (.tuple #[.slice (some ⟨w1.heap.size, 0, none⟩) 0 0, .nilIface]) ∧ Below w1.heap.size w1 w') :
    Calls Tryd.prog 4 #[.slice a1 0 c1, .slice a2 m2 c2] w fun e w' => e = .returned (.bool true) ∧ Below w.heap.size w w' := by
  go_enter Tryd.func4, Tryd.ntmps4
  go_wp2_with (first | (go_at_call 20; refine hfact.mono ?_; rintro e w1 ⟨rfl, hB⟩; have hcl1 := hcl w1 hB; clear hcl) | (go_at_call 15; refine hcl1.mono ?_; rintro e w2 ⟨rfl, hB2⟩))
  have hBz : Below w.heap.size w w2 := hB.trans (hB2.mono hB.size)
  clear hB hB2 hcl1 hfact
  go_loop [9] (fun i => i = .int .i64 0) (fun _ => 0)
  case atStart => rfl
  case round =>
    obtain rfl := hrel
    by_cases hm : m2 = 0
    · subst hm
      go_wp2_with (go_at_call 10; refine (check_none _ _ _).mono ?_; rintro e w' ⟨rfl, rfl⟩)
      go_loop [11] (fun i => i = .int .i64 0) (fun _ => 0)
      case atStart => rfl
      case round =>
        obtain rfl := hrel
        go_wp2
        go_loop [13] (fun i => i = .int .i64 0) (fun _ => 0)
        case atStart => rfl
        case round =>
          obtain rfl := hrel
          go_wp2
          go_ret
          exact ⟨rfl, hBz⟩
    · have hne : ((m2 : Int) != 0) = true := by simp; omega
      go_wp2
      go_ret
      exact ⟨rfl, hBz⟩

theorem come_closed {m : Nat} {rows : List Nat} (hr : Right m rows) : Closed m (fun i => rows.getD i 0) (come m rows) where
  few := hr.1
  lr := fun i _ => Nat.lt_of_lt_of_le (hr.2.2 i) (pow12 hr.1)
  lc := fun _ hi => Nat.lt_of_lt_of_le (come_lt hr hi) (pow12 hr.1)
  self := fun i hi => (come_bit hr hi i).2 (Reach.refl _ _)
  all := fun _ hi => (subB_iff _ _).2 fun j hj => (come_bit hr hi j).2 ((Reach.refl _ _).step hj)
  on := fun _ j hi hj hb => (subB_iff _ _).2 fun k hk => (come_bit hr hi k).2 (((come_bit hr hi j).1 hb).trans ((come_bit hr hj k).1 hk))

/-- No closed relation that has all of a relation has less than its closure. -/
theorem come_least {m : Nat} {rows : List Nat} (hr : Right m rows) {S : Nat → Nat} (hg : GoesOn m (fun i => rows.getD i 0) S) (i : Nat) (hi : i < m) : subB (come m rows i) (S i) = true := by
  refine (subB_iff _ _).2 fun j hj => ?_
  have hR := (come_bit hr hi j).1 hj
  have := hR (fun k => k < m ∧ (S i).testBit k = true) ⟨hi, hg.self i hi⟩ fun a b ⟨ha, hb⟩ hab =>
    ⟨bit_lt (hr.2.2 a) hab, (subB_iff _ _).1 (hg.on i a hi ha hb) b ((subB_iff _ _).1 (hg.all a ha) b hab)⟩
  exact this.2

theorem closes_any (a1 a2 : Option Addr) (m1 c1 m2 c2 : Nat) (z1 z2 : List Int) (hz1 : m1 ≤ z1.length) (hz2 : m2 ≤ z2.length) (w : World) (h1 : AtNums w a1 m1 z1) (h2 : AtNums w a2 m2 z2) (hT : Tab w) :
    Calls Tryd.prog 4 #[.slice a1 m1 c1, .slice a2 m2 c2] w fun e w' => e = .returned (.bool true) ∧ Below w.heap.size w w' := by
  have hfact := fact_any w hT
  by_cases hf : Fine m1 z1
  · by_cases h0 : m1 = 0
    · subst h0
      exact closes_none a1 c1 a2 m2 c2 w hfact fun w1 hB => (Closure_fine a1 0 c1 z1 hz1 w1 (.inl rfl) (hT.below hB hT.size) hf).mono fun e w' ⟨he, _, hb⟩ => ⟨he, hb⟩
    · have hr := rowsOf_right hf.1 hz1 hf.2
      have hcl : ∀ w1, Below w.heap.size w w1 → Calls Tryd.prog 15 #[.slice a1 m1 c1] w1 fun e w' => e = .returned (.tuple #[.slice (some ⟨w1.heap.size, 0, none⟩) m1 m1, .nilIface]) ∧ Own w' w1.heap.size m1 (come m1 (rowsOf m1 z1)) ∧ Below w1.heap.size w1 w' :=
        fun w1 hB => Closure_fine a1 m1 c1 z1 hz1 w1 (h1.below hB) (hT.below hB hT.size) hf
      have hl := h1.at hf.2
      rcases hl with h | ⟨b, off, rfl, hl⟩
      · exact absurd h h0
      · refine closes_some b off c1 m1 a2 m2 c2 w (fun i => (rowsOf m1 z1).getD i 0) (come m1 (rowsOf m1 z1)) hf.1 (come_closed hr) ⟨hl.old, hl.cell⟩ ?_ hfact hcl
        by_cases hm : m2 = m1
        · subst hm
          by_cases hf2 : Fine m2 z2
          · refine .inr (.inr ⟨rfl, fun w1 hB => check_fine a2 m2 c2 z2 w1 (h2.below hB) hf2, ?_⟩)
            rcases h2.at hf2.2 with h | ⟨b2, off2, rfl, hl2⟩
            · exact absurd h h0
            · have hr2 := rowsOf_right hf2.1 hz2 hf2.2
              exact ⟨b2, off2, fun i => (rowsOf m2 z2).getD i 0, rfl, ⟨hl2.old, hl2.cell⟩, fun i _ => Nat.lt_of_lt_of_le (hr2.2.2 i) (pow12 hr2.1), fun hg i hi => come_least hr hg i hi⟩
          · exact .inr (.inl ⟨rfl, _, fun w1 hB => check_wrong a2 m2 c2 z2 w1 (h2.below hB) hf2⟩)
        · exact .inl (by simp; omega)
  · exact closes_wrong a1 a2 m1 c1 m2 c2 (wrongN m1) w hfact fun w1 hB => Closure_wrong a1 m1 c1 z1 w1 (h1.below hB) hf
end Go.Proofs.YtfdappdcihljdaaDoor
