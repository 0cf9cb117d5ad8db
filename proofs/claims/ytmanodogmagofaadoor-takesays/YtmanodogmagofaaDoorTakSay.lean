/- The walk of the law TakeSays. -/
import Derived.WalkKit
import Derived.LoopTactic
import Derived.Test.YtmanodogmagofaaDoorAs
import Derived.Test.YtmanodogmagofaaDoorTakDoA
import Derived.Test.YtmanodogmagofaaDoorTakSame
namespace Go.Proofs.YtmanodogmagofaaDoor
open Go.RowKit
set_option maxRecDepth 100000

theorem terror_errV (c : Int) (w : World) (hE : ErrT w) : Calls Tryd.prog 8 #[errV c, .int .i64 c] w fun e w' => e = .returned (.bool true) ∧ Below w.heap.size w w' := by
  by_cases h : c = 0
  · subst h
    exact (error_nil 0 w).mono fun e w' ⟨he, hw⟩ => ⟨by rw [he]; rfl, hw ▸ Below.refl _ _⟩
  · rw [errV, if_neg h]
    exact (error_err c c w hE).mono fun e w' ⟨he, hb⟩ => ⟨by rw [he]; simp, hb⟩
theorem trows_play {n m : Nat} {L : Nat → Nat} {F : Nat → Nat → Int} {S : Nat → Stp} {v1 v2 : Value} {w1 w : World} (h1 : PlayV w1 v1 n L F S m) (hB : Below w1.heap.size w1 w) (h2 : PlayV w v2 n L F S m) :
    Calls Tryd.prog 13 #[v2, v1] w fun e w' => e = .returned (.bool true) ∧ ∃ k, w' = w.drewN k := by
  rcases h1 with ⟨e, rfl⟩ | ⟨e, g1, ok⟩
  · rcases h2 with ⟨_, rfl⟩ | ⟨e2, _⟩
    · have h0 : GrV w (.slice none 0 0) ⟨0, fun _ _ => 0⟩ := ⟨none, 0, rfl, .inl rfl⟩
      exact trows_same _ _ ⟨0, fun _ _ => 0⟩ (by decide) w h0 h0
    · exact absurd e2 e
  · rcases h2 with ⟨e2, _⟩ | ⟨_, g2, _⟩
    · exact absurd e e2
    · exact trows_same _ _ _ (by have := ok.le; omega) w g2 (g1.below hB)
set_option maxHeartbeats 1000000 in
theorem takeSays_any (a0 a1 : Option Addr) (len0 cap0 len1 cap1 : Nat) (L : Nat → Nat) (F : Nat → Nat → Int) (S : Nat → Stp) (w : World) (h : Grd w (.slice a0 len0 cap0) len0 L F) (hS : AtStps w a1 len1 S) (hE : ErrT w) :
    Calls Tryd.prog 3 #[.slice a0 len0 cap0, .slice a1 len1 cap1] w fun e w' => e = .returned (.bool true) ∧ Below w.heap.size w w' := by
  have t1 := tcheck_any a0 len0 cap0 L F w h
  have t2 := refGraph_any a0 len0 cap0 L F w h
  have t3 := terror_errV (graphCode len0 L F) w hE
  have t4 := fun w1 (hB : Below w.heap.size w w1) => refPlay_any a0 a1 len0 cap0 len1 cap1 L F S w1 (h.below hB) (hS.below hB)
  have t5 := fun w1 (hB : Below w.heap.size w w1) => tplay_any a0 a1 len0 cap0 len1 cap1 L F S w1 (h.below hB) (hS.below hB)
  have t6 := fun w1 (hB : Below w.heap.size w w1) => terror_errV (playE len0 L F S len1) w1 (hE.below hB (old_of_cell hE))
  clear h hS hE
  obtain ⟨c1, hc1⟩ : ∃ c, graphCode len0 L F = c := ⟨_, rfl⟩
  rw [hc1] at t1 t2 t3
  clear hc1
  have HV : Hid (∀ (v1 v2 : Value) (w1 w : World), PlayV w1 v1 len0 L F S len1 → Below w1.heap.size w1 w → PlayV w v2 len0 L F S len1 → Calls Tryd.prog 13 #[v2, v1] w fun e w' => e = .returned (.bool true) ∧ ∃ k, w' = w.drewN k) := fun v1 v2 w1 w h1 hB h2 => trows_play h1 hB h2
  have PB : Hid (∀ (v : Value) (w w' : World), PlayV w v len0 L F S len1 → Below w.heap.size w w' → PlayV w' v len0 L F S len1) := fun v w w' h hB => by
    rcases h with h | ⟨e, g, ok⟩
    · exact .inl h
    · exact .inr ⟨e, g.below hB, ok⟩
  obtain ⟨PV, hPV⟩ : ∃ PV, (fun (w : World) (v : Value) => PlayV w v len0 L F S len1) = PV := ⟨_, rfl⟩
  have t4 : ∀ w1, Below w.heap.size w w1 → Calls Tryd.prog 11 #[.slice a0 len0 cap0, .slice a1 len1 cap1] w1 fun e w' => ∃ v, e = .returned (.tuple #[v, .int .i64 (playAt len0 L F S len1 : Nat), .int .i64 (playE len0 L F S len1)]) ∧ PV w' v ∧ Below w1.heap.size w1 w' := by rw [← hPV]; exact t4
  have t5 : ∀ w1, Below w.heap.size w w1 → Calls Tryd.prog 12 #[.slice a0 len0 cap0, .slice a1 len1 cap1] w1 fun e w' => ∃ v, e = .returned (.tuple #[v, .int .i64 (playAt len0 L F S len1 : Nat), errV (playE len0 L F S len1)]) ∧ PV w' v ∧ Below w1.heap.size w1 w' := by rw [← hPV]; exact t5
  have HV : Hid (∀ (v1 v2 : Value) (w1 w : World), PV w1 v1 → Below w1.heap.size w1 w → PV w v2 → Calls Tryd.prog 13 #[v2, v1] w fun e w' => e = .returned (.bool true) ∧ ∃ k, w' = w.drewN k) := by rw [← hPV]; exact HV
  have PB : Hid (∀ (v : Value) (w w' : World), PV w v → Below w.heap.size w w' → PV w' v) := by rw [← hPV]; exact PB
  clear hPV
  obtain ⟨at0, hat⟩ : ∃ x, playAt len0 L F S len1 = x := ⟨_, rfl⟩
  obtain ⟨c2, hc2⟩ : ∃ x, playE len0 L F S len1 = x := ⟨_, rfl⟩
  rw [hat, hc2] at t4 t5
  rw [hc2] at t6
  clear hat hc2
  obtain ⟨e1, he1⟩ : ∃ x, errV c1 = x := ⟨_, rfl⟩
  obtain ⟨e2, he2⟩ : ∃ x, errV c2 = x := ⟨_, rfl⟩
  rw [he1] at t1 t3
  rw [he2] at t5 t6
  clear he1 he2
  go_enter Tryd.func3, Tryd.ntmps3
  go_wp2_with fail
  refine t1.mono ?_
  clear t1
  rintro e w' ⟨rfl, hw⟩
  obtain rfl := hw.symm
  clear hw
  go_wp2_with fail
  refine t2.mono ?_
  clear t2
  rintro e w' ⟨rfl, hw⟩
  obtain rfl := hw.symm
  clear hw
  go_wp2_with fail
  refine t3.mono ?_
  clear t3
  rintro e w1 ⟨rfl, hB1⟩
  go_wp2_with fail
  refine (t4 _ hB1).mono ?_
  clear t4
  rintro e w2 ⟨v1, rfl, hv1, hB2⟩
  have hB2' := hB1.trans (hB2.mono hB1.size)
  go_wp2_with fail
  refine (t5 _ hB2').mono ?_
  clear t5
  rintro e w3 ⟨v2, rfl, hv2, hB3⟩
  have hB3' := hB2'.trans (hB3.mono hB2'.size)
  go_wp2_with fail
  refine (t6 _ hB3').mono ?_
  clear t6
  rintro e w4 ⟨rfl, hB4⟩
  have hB4' := hB3'.trans (hB4.mono hB3'.size)
  have t7 := HV.out v1 v2 w2 w4 hv1 (hB3.trans (hB4.mono hB3.size)) (PB.out v2 w3 w4 hv2 hB4)
  go_wp2_with fail
  refine t7.mono ?_
  clear t7
  rintro e w5 ⟨rfl, k, rfl⟩
  go_wp2_with fail
  go_ret
  exact ⟨rfl, below_drawn hB4' k⟩
end Go.Proofs.YtmanodogmagofaaDoor
