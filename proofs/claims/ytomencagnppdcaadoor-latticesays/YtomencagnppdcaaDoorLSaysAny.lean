/- The law LatticeSays at any list of numbers and any two numbers. -/
import Derived.WalkKit
import Derived.LoopTactic
import Derived.Test.YtomencagnppdcaaDoorLSome
import Derived.Test.YtomencagnppdcaaDoorLatAny
namespace Go.Proofs.YtomencagnppdcaaDoor
open Go.RowKit

theorem refBound_any (a : Option Addr) (m cap i j : Nat) (d : Bool) (z : List Int) (hz : m ≤ z.length) (w : World) (h1 : AtNums w a m z) (h : Good2 m z) (hi : i < m) (hj : j < m) :
    Calls Tryd.prog 10 #[.slice a m cap, .int .i64 i, .int .i64 j, .bool d] w fun e w' => e = .returned (.tuple (refRes (bnd m (dirD m (abv m z) d) i j))) ∧ Below w.heap.size w w' := by
  rcases h1.at h.fine.2 with h0 | ⟨b, off, rfl, hl⟩
  · omega
  · exact refBound_own m i j d (abv m z) (h.lat hz) hi hj _ cap w (refClosure_some b off m cap _ (rowsOf_right h.fine.1 hz h.fine.2) (by omega) w hl)

theorem lsays_any (a : Option Addr) (m cap : Nat) (z : List Int) (x y : Int) (hz : m ≤ z.length) (w : World) (h1 : AtNums w a m z) (hT : Tab w) (hE : ErrT w) :
    Calls Tryd.prog 3 #[.slice a m cap, .int .i64 x, .int .i64 y] w fun e w' => e = .returned (.bool true) ∧ Below w.heap.size w w' := by
  have hTb : ∀ w1, Below w.heap.size w w1 → Tab w1 := fun w1 hB => hT.below hB hT.size
  have hErr : ∀ w1, Below w.heap.size w w1 → ErrT w1 := fun w1 hB => hE.below hB (by have := hT.size; omega)
  have hJ := fun (x y c : Int) (hb : Bad m z x y c) w1 (hB : Below w.heap.size w w1) => Join_bad a m cap z hz x y c w1 (h1.below hB) (hTb w1 hB) hb
  have hM := fun (x y c : Int) (hb : Bad m z x y c) w1 (hB : Below w.heap.size w w1) => Meet_bad a m cap z hz x y c w1 (h1.below hB) (hTb w1 hB) hb
  by_cases hf : Fine m z
  · have hr := rowsOf_right hf.1 hz hf.2
    have hO := refOrder_any a m cap _ hr w (h1.at hf.2)
    have hR := rel_fine a m cap z w h1 hf
    cases hn : noRing m (abv m z) with
    | false =>
      rw [hn] at hO
      exact lsays_ring a m cap x y w hErr hR hO (fun w1 hB => Is_bad a m cap z hz 6 w1 (h1.below hB) (hTb w1 hB) (.inr ⟨hf, hn, rfl⟩)) (hJ x y 6 (.inr (.inl ⟨hf, hn, rfl⟩))) (hM x y 6 (.inr (.inl ⟨hf, hn, rfl⟩)))
    | true =>
      rw [hn] at hO
      have hg : Good2 m z := ⟨hf, hn⟩
      have hI := fun w1 (hB : Below w.heap.size w w1) => Is_in a m cap z hz w1 (h1.below hB) (hTb w1 hB) hg
      have hout := fun (x y : Int) (ho : Off2 m x y) => (show Bad m z x y 1 from .inr (.inr ⟨hf, hn, ho, rfl⟩))
      rcases Nat.eq_zero_or_pos m with rfl | h0
      · have ho : Off2 0 x y := .inl (by omega)
        exact lsays_none a cap x y w hErr hR hO hI (hJ x y 1 (hout x y ho)) (hM x y 1 (hout x y ho))
      · refine lsays_some a m cap x y (abv m z) hf.1 h0 w hErr hR hO hI (fun d p q hp hq w1 hB => refBound_any a m cap p q d z hz w1 (h1.below hB) hg hp hq) ?_
        rcases off2_or m x y with ho | ⟨i, j, rfl, rfl, hi, hj⟩
        · exact .inl ⟨out4_of ho, hJ x y 1 (hout x y ho), hM x y 1 (hout x y ho)⟩
        · exact .inr ⟨i, j, _, _, rfl, rfl, hi, hj, fun w1 hB => refBound_any a m cap i j false z hz w1 (h1.below hB) hg hi hj, fun w1 hB => refBound_any a m cap i j true z hz w1 (h1.below hB) hg hi hj,
            fun w1 hB => Join_in a m cap i j z hz w1 (h1.below hB) (hTb w1 hB) hg hi hj, fun w1 hB => Meet_in a m cap i j z hz w1 (h1.below hB) (hTb w1 hB) hg hi hj⟩
  · have hc : (wrongN m == 0) = false := by unfold wrongN; split <;> rfl
    exact lsays_wrong a m cap x y (wrongN m) hc w hErr (rel_wrong a m cap z w h1 hf) (fun w1 hB => Is_bad a m cap z hz _ w1 (h1.below hB) (hTb w1 hB) (.inl ⟨hf, rfl⟩)) (hJ x y _ (.inl ⟨hf, rfl⟩)) (hM x y _ (.inl ⟨hf, rfl⟩))
end Go.Proofs.YtomencagnppdcaaDoor
