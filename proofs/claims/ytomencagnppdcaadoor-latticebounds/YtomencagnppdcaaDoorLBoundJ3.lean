/- The walk of the law LatticeBounds, by what the Join is (3). -/
import Derived.WalkKit
import Derived.LoopTactic
import Derived.Test.YtomencagnppdcaaDoorLBound0
namespace Go.Proofs.YtomencagnppdcaaDoor
open Go.RowKit

set_option maxRecDepth 100000 in
set_option maxHeartbeats 4000000 in
theorem lbounds_j3 (a : Option Addr) (m cap i j k : Nat) (C : Nat → Nat) (hi : i < m) (hj : j < m) (hk : k < m) (w : World) (n : Nat) (hn : n < m) 
    (hJ : ∀ w1, Below w.heap.size w w1 → Calls Tryd.prog 13 #[.slice a m cap, .int .i64 i, .int .i64 j] w1 fun e w' => e = .returned (.tuple #[.int .i64 n, .nilIface]) ∧ Below w1.heap.size w1 w')
    (b1 : Bt (C i) n true) (b2 : Bt (C j) n true) (b3 : Bt (C i) k true) (b4 : Bt (C j) k true) (b5 : Bt (C n) k true)
    (hmb : MB w a m cap i j k C)
    (hF : Calls Tryd.prog 15 #[] w fun e w' => e = .returned (.bool true) ∧ Below w.heap.size w w')
    (hC : ∀ w1, Below w.heap.size w w1 → Calls Tryd.prog 16 #[.slice a m cap] w1 fun e w' => ∃ g, e = .returned (.tuple #[.slice (some ⟨g, 0, none⟩) m m, .nilIface]) ∧ Own w' g m C ∧ Below w1.heap.size w1 w') :
    Calls Tryd.prog 4 #[.slice a m cap, .int .i64 i, .int .i64 j, .int .i64 k] w fun e w' => e = .returned (.bool true) ∧ Below w.heap.size w w' := by
  have hii : (i : Int) < (m : Int) := by omega
  have hji : (j : Int) < (m : Int) := by omega
  have hki : (k : Int) < (m : Int) := by omega
  have hni : (n : Int) < (m : Int) := by omega
  have HQ : Hid (∀ W g, Own W g m C → ∀ i, i < m → W.cell? ⟨g, i, none⟩ = some (.int .i64 (C i : Nat))) := fun W g ho i hi => ho.cell i hi
  rcases hmb with ⟨c', hM⟩ | ⟨y, hy, hM, d1, d2, d3 | ⟨d3, d4⟩ | ⟨d3, d4, d5⟩⟩
  · as_aux_lemma =>
      unfold Bt at *
      go_enter Tryd.func4, Tryd.ntmps4
      go_wp2_with (first | (go_at_call 15; refine hF.mono ?_; rintro e w1 ⟨rfl, hB⟩) | (go_at_call 16; refine (hC _ hB).mono ?_; rintro e w1 ⟨g, rfl, ho, S⟩; replace hB := hB.trans (S.mono hB.size); clear S) | (go_at_call 13; refine (hJ _ hB).mono ?_; rintro e w1 ⟨rfl, S⟩; replace ho := ho.below S; replace hB := hB.trans (S.mono hB.size); clear S; have ca := HQ.out _ _ ho i hi; have cb := HQ.out _ _ ho j hj; (try have cn := HQ.out _ _ ho n hn)) | (go_at_call 14; refine (hM _ hB).mono ?_; rintro e w1 ⟨rfl, S⟩; replace ho := ho.below S; replace hB := hB.trans (S.mono hB.size); clear S; have ck := HQ.out _ _ ho k hk; (try have cm := HQ.out _ _ ho y hy)) | (go_at_call 17; refine (b1 _).mono ?_; clear b1; rintro e w' ⟨rfl, rfl⟩) | (go_at_call 17; refine (b2 _).mono ?_; clear b2; rintro e w' ⟨rfl, rfl⟩) | (go_at_call 17; refine (b3 _).mono ?_; clear b3; rintro e w' ⟨rfl, rfl⟩) | (go_at_call 17; refine (b4 _).mono ?_; clear b4; rintro e w' ⟨rfl, rfl⟩) | (go_at_call 17; refine (b5 _).mono ?_; clear b5; rintro e w' ⟨rfl, rfl⟩) | (go_at_call 17; refine (d1 _).mono ?_; clear d1; rintro e w' ⟨rfl, rfl⟩) | (go_at_call 17; refine (d2 _).mono ?_; clear d2; rintro e w' ⟨rfl, rfl⟩) | (go_at_call 17; refine (d3 _).mono ?_; clear d3; rintro e w' ⟨rfl, rfl⟩) | (go_at_call 17; refine (d4 _).mono ?_; clear d4; rintro e w' ⟨rfl, rfl⟩) | (go_at_call 17; refine (d5 _).mono ?_; clear d5; rintro e w' ⟨rfl, rfl⟩))
      go_ret
      exact ⟨rfl, hB⟩
  all_goals as_aux_lemma =>
    have hyi : (y : Int) < (m : Int) := by omega
    unfold Bt at *
    go_enter Tryd.func4, Tryd.ntmps4
    go_wp2_with (first | (go_at_call 15; refine hF.mono ?_; rintro e w1 ⟨rfl, hB⟩) | (go_at_call 16; refine (hC _ hB).mono ?_; rintro e w1 ⟨g, rfl, ho, S⟩; replace hB := hB.trans (S.mono hB.size); clear S) | (go_at_call 13; refine (hJ _ hB).mono ?_; rintro e w1 ⟨rfl, S⟩; replace ho := ho.below S; replace hB := hB.trans (S.mono hB.size); clear S; have ca := HQ.out _ _ ho i hi; have cb := HQ.out _ _ ho j hj; (try have cn := HQ.out _ _ ho n hn)) | (go_at_call 14; refine (hM _ hB).mono ?_; rintro e w1 ⟨rfl, S⟩; replace ho := ho.below S; replace hB := hB.trans (S.mono hB.size); clear S; have ck := HQ.out _ _ ho k hk; (try have cm := HQ.out _ _ ho y hy)) | (go_at_call 17; refine (b1 _).mono ?_; clear b1; rintro e w' ⟨rfl, rfl⟩) | (go_at_call 17; refine (b2 _).mono ?_; clear b2; rintro e w' ⟨rfl, rfl⟩) | (go_at_call 17; refine (b3 _).mono ?_; clear b3; rintro e w' ⟨rfl, rfl⟩) | (go_at_call 17; refine (b4 _).mono ?_; clear b4; rintro e w' ⟨rfl, rfl⟩) | (go_at_call 17; refine (b5 _).mono ?_; clear b5; rintro e w' ⟨rfl, rfl⟩) | (go_at_call 17; refine (d1 _).mono ?_; clear d1; rintro e w' ⟨rfl, rfl⟩) | (go_at_call 17; refine (d2 _).mono ?_; clear d2; rintro e w' ⟨rfl, rfl⟩) | (go_at_call 17; refine (d3 _).mono ?_; clear d3; rintro e w' ⟨rfl, rfl⟩) | (go_at_call 17; refine (d4 _).mono ?_; clear d4; rintro e w' ⟨rfl, rfl⟩) | (go_at_call 17; refine (d5 _).mono ?_; clear d5; rintro e w' ⟨rfl, rfl⟩))
    go_ret
    exact ⟨rfl, hB⟩
end Go.Proofs.YtomencagnppdcaaDoor
