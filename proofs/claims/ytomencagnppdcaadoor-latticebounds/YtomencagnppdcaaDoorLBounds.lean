/- The walk of the law LatticeBounds. -/
import Derived.WalkKit
import Derived.LoopTactic
import Derived.Test.YtomencagnppdcaaDoorLBoundJ0
import Derived.Test.YtomencagnppdcaaDoorLBoundJ1
import Derived.Test.YtomencagnppdcaaDoorLBoundJ2
import Derived.Test.YtomencagnppdcaaDoorLBoundJ3
namespace Go.Proofs.YtomencagnppdcaaDoor
open Go.RowKit

theorem jb_of {m : Nat} {C : Nat → Nat} (hL : Lat m C) {i j k n : Nat} (hi : i < m) (hj : j < m) (hk : k < m) (hb : IsBnd m C i j n) :
    Bt (C i) n true ∧ Bt (C j) n true ∧ (Bt (C i) k false ∨ (Bt (C i) k true ∧ Bt (C j) k false) ∨ (Bt (C i) k true ∧ Bt (C j) k true ∧ Bt (C n) k true)) := by
  have hl := And.intro hL.few hL.lt
  refine ⟨bt_of hl hi hb.lt hb.one, bt_of hl hj hb.lt hb.two, ?_⟩
  cases p1 : (C i).testBit k with
  | false => exact .inl (bt_of hl hi hk p1)
  | true =>
    cases p2 : (C j).testBit k with
    | false => exact .inr (.inl ⟨bt_of hl hi hk p1, bt_of hl hj hk p2⟩)
    | true => exact .inr (.inr ⟨bt_of hl hi hk p1, bt_of hl hj hk p2, bt_of hl hb.lt hk (hb.all k hk p1 p2)⟩)
theorem mb_of {m : Nat} {C : Nat → Nat} (hL : Lat m C) {i j k y : Nat} (hi : i < m) (hj : j < m) (hk : k < m) (hb : IsBnd m (turnN m C) i j y) :
    Bt (C y) i true ∧ Bt (C y) j true ∧ (Bt (C k) i false ∨ (Bt (C k) i true ∧ Bt (C k) j false) ∨ (Bt (C k) i true ∧ Bt (C k) j true ∧ Bt (C k) y true)) := by
  have hl := And.intro hL.few hL.lt
  refine ⟨bt_of hl hb.lt hi ((turnN_bit m C i y).1 hb.one).2, bt_of hl hb.lt hj ((turnN_bit m C j y).1 hb.two).2, ?_⟩
  cases p1 : (C k).testBit i with
  | false => exact .inl (bt_of hl hk hi p1)
  | true =>
    cases p2 : (C k).testBit j with
    | false => exact .inr (.inl ⟨bt_of hl hk hi p1, bt_of hl hk hj p2⟩)
    | true => exact .inr (.inr ⟨bt_of hl hk hi p1, bt_of hl hk hj p2, bt_of hl hk hb.lt ((turnN_bit m C y k).1 (hb.all k hk ((turnN_bit m C i k).2 ⟨hk, p1⟩) ((turnN_bit m C j k).2 ⟨hk, p2⟩))).2⟩)

theorem lbounds_on (a : Option Addr) (m cap i j k : Nat) (C : Nat → Nat) (hi : i < m) (hj : j < m) (hk : k < m) (w : World) (hjb : JB w a m cap i j k C) (hmb : MB w a m cap i j k C)
    (hF : Calls Tryd.prog 15 #[] w fun e w' => e = .returned (.bool true) ∧ Below w.heap.size w w')
    (hC : ∀ w1, Below w.heap.size w w1 → Calls Tryd.prog 16 #[.slice a m cap] w1 fun e w' => ∃ g, e = .returned (.tuple #[.slice (some ⟨g, 0, none⟩) m m, .nilIface]) ∧ Own w' g m C ∧ Below w1.heap.size w1 w') :
    Calls Tryd.prog 4 #[.slice a m cap, .int .i64 i, .int .i64 j, .int .i64 k] w fun e w' => e = .returned (.bool true) ∧ Below w.heap.size w w' := by
  rcases hjb with ⟨c, hJ⟩ | ⟨n, hn, hJ, b1, b2, b3 | ⟨b3, b4⟩ | ⟨b3, b4, b5⟩⟩
  · exact lbounds_j0 a m cap i j k C hi hj hk w c hJ hmb hF hC
  · exact lbounds_j1 a m cap i j k C hi hj hk w n hn hJ b1 b2 b3 hmb hF hC
  · exact lbounds_j2 a m cap i j k C hi hj hk w n hn hJ b1 b2 b3 b4 hmb hF hC
  · exact lbounds_j3 a m cap i j k C hi hj hk w n hn hJ b1 b2 b3 b4 b5 hmb hF hC

theorem lbounds_any (a : Option Addr) (m cap : Nat) (z : List Int) (x y v : Int) (hz : m ≤ z.length) (w : World) (h1 : AtNums w a m z) (hT : Tab w) :
    Calls Tryd.prog 4 #[.slice a m cap, .int .i64 x, .int .i64 y, .int .i64 v] w fun e w' => e = .returned (.bool true) ∧ Below w.heap.size w w' := by
  have hF := lfact_any w hT
  have hTb : ∀ w1, Below w.heap.size w w1 → Tab w1 := fun w1 hB => hT.below hB hT.size
  by_cases hf : Fine m z
  · have hC := fun w1 (hB : Below w.heap.size w w1) => (Closure_fine a m cap z hz w1 (h1.below hB) (hTb w1 hB) hf).mono (R' := fun e w' => ∃ g, e = .returned (.tuple #[.slice (some ⟨g, 0, none⟩) m m, .nilIface]) ∧ Own w' g m (abv m z) ∧ Below w1.heap.size w1 w') fun e w' ⟨he, ho, hB'⟩ => ⟨_, he, ho, hB'⟩
    rcases out6_or m x y v with ho | ⟨i, j, k, rfl, rfl, rfl, hi, hj, hk⟩
    · exact lbounds_out a m cap x y v ho _ w hF hC
    · cases hn : noRing m (abv m z) with
      | false =>
        have hb : Bad m z i j 6 := .inr (.inl ⟨hf, hn, rfl⟩)
        exact lbounds_on a m cap i j k (abv m z) hi hj hk w (.inl ⟨6, fun w1 hB => Join_bad a m cap z hz i j 6 w1 (h1.below hB) (hTb w1 hB) hb⟩) (.inl ⟨6, fun w1 hB => Meet_bad a m cap z hz i j 6 w1 (h1.below hB) (hTb w1 hB) hb⟩) hF hC
      | true =>
        have hg : Good2 m z := ⟨hf, hn⟩
        have hL := hg.lat hz
        have hJ := fun w1 (hB : Below w.heap.size w w1) => Join_in a m cap i j z hz w1 (h1.below hB) (hTb w1 hB) hg hi hj
        have hM := fun w1 (hB : Below w.heap.size w w1) => Meet_in a m cap i j z hz w1 (h1.below hB) (hTb w1 hB) hg hi hj
        refine lbounds_on a m cap i j k (abv m z) hi hj hk w ?_ ?_ hF hC
        · cases e : bnd m (abv m z) i j with
          | none =>
            rw [e] at hJ
            exact .inl ⟨5, hJ⟩
          | some n =>
            rw [e] at hJ
            have hb := bnd_some e
            exact .inr ⟨n, hb.lt, hJ, jb_of hL hi hj hk hb⟩
        · cases e : bnd m (turnN m (abv m z)) i j with
          | none =>
            rw [e] at hM
            exact .inl ⟨5, hM⟩
          | some n =>
            rw [e] at hM
            have hb := bnd_some e
            exact .inr ⟨n, hb.lt, hM, mb_of hL hi hj hk hb⟩
  · exact lbounds_skip a m cap x y v (wrongN m) w hF (fun w1 hB => (Closure_wrong a m cap z w1 (h1.below hB) hf).mono fun e w' ⟨he, hw⟩ => ⟨he, hw ▸ Below.refl _ _⟩)
end Go.Proofs.YtomencagnppdcaaDoor
