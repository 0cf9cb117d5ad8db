/- The walk of the law RelWay at any list of numbers and any three numbers. -/
import Derived.Test.YtfdappdcihljdaaDoorWaysOn
namespace Go.Proofs.YtfdappdcihljdaaDoor
open Go.RowKit

theorem leads_of {m : Nat} {rows : List Nat} {i j D : Nat} {W : Nat → Nat} (hD : D ≤ 4096) (h0 : W 0 = i) (h : WayTo m rows j D D W) : Leads m (fun x => rows.getD x 0) i j D W where
  few := hD
  start := h0
  stop := by
    have := (h.far D (Nat.le_refl _)).1
    rw [Nat.sub_self] at this
    exact this
  lt := h.lt
  on := h.on
  once := fun s t hst ht e => by
    have h1 := h.far s (by omega)
    have h2 := h.far t ht
    rw [e] at h1
    have := h1.unique h2
    omega

theorem ways_any (a : Option Addr) (m cap : Nat) (z : List Int) (x y k : Int) (hz : m ≤ z.length) (w : World) (h1 : AtNums w a m z) (hT : Tab w) (hE : ErrT w) :
    Calls Tryd.prog 6 #[.slice a m cap, .int .i64 x, .int .i64 y, .int .i64 k] w fun e w' => e = .returned (.bool true) ∧ Below w.heap.size w w' := by
  have hfact := fact_any w hT
  have hTb : ∀ w1, Below w.heap.size w w1 → Tab w1 := fun w1 hB => hT.below hB hT.size
  by_cases hf : Fine m z
  · have hr := rowsOf_right hf.1 hz hf.2
    have hcl := fun w1 (hB : Below w.heap.size w w1) => Closure_fine a m cap z hz w1 (h1.below hB) (hTb w1 hB) hf
    have hck := fun w1 (hB : Below w.heap.size w w1) => check_fine a m cap z w1 (h1.below hB) hf
    by_cases hout : Out m x y
    · refine ways_out a m cap x y k w hf.1 hout hfact (fun w1 hB => (hcl w1 hB).mono fun e w' ⟨he, _, hB'⟩ => ⟨_, he, hB'⟩) fun w1 hB => Way_range a m cap hf.1 x y w1 ?_ (hck w1 hB)
      rcases hout with h | ⟨_, h⟩ | ⟨h, h', h2⟩ | ⟨h, h', _, h2⟩
      · exact .inl (.inl h)
      · exact .inl (.inr h)
      · exact .inr ⟨h, h', .inl h2⟩
      · exact .inr ⟨h, h', .inr h2⟩
    · simp only [Out, not_or] at hout
      obtain ⟨o1, o2, o3, o4⟩ := hout
      obtain ⟨i, rfl⟩ := Int.eq_ofNat_of_zero_le (show 0 ≤ x by omega)
      obtain ⟨j, rfl⟩ := Int.eq_ofNat_of_zero_le (show 0 ≤ y by omega)
      have hi : i < m := by omega
      have hj : j < m := by omega
      have hc := come_closed hr
      by_cases hR : Reach (rowsOf m z) i j
      · obtain ⟨D, hd⟩ := hR.dist
        rcases h1.at hf.2 with h | ⟨b, off, rfl, hl⟩
        · omega
        refine ways_some b off m cap i j D k w (fun x => (rowsOf m z).getD x 0) (come m (rowsOf m z)) hf.1 hi hj (hc.lc i hi) ((come_bit hr hi j).2 hR) hc.lr ⟨hl.old, hl.cell⟩ hfact hcl (fun w1 hB => ?_) fun w1 x hB hx hb => ?_
        · exact (Way_fine _ m cap i j D (rowsOf m z) hr hi hj hd w1 ((h1.below hB).at hf.2) (hTb w1 hB) (hck w1 hB)).mono fun e w' ⟨g, cp, W, he, _, ho, h0, hD, hw, hB'⟩ => ⟨g, cp, W, he, ho, leads_of hD h0 hw, hB'⟩
        · obtain ⟨E, hE'⟩ := (hR.step hb).dist
          have hED : E ≤ D + 1 := by
            by_cases h : D + 1 < E
            · exact absurd (hd.1.snoc hb) (hE'.2 (D + 1) h)
            · omega
          exact (Way_fine _ m cap i x E (rowsOf m z) hr hi hx hE' w1 ((h1.below hB).at hf.2) (hTb w1 hB) (hck w1 hB)).mono fun e w' ⟨g, cp, _, he, _, _, _, _, _, hB'⟩ => ⟨g, cp, E, he, hED, hB'⟩
      · have hb : (come m (rowsOf m z) i).testBit j = false := by
          cases hb : (come m (rowsOf m z) i).testBit j with
          | false => rfl
          | true => exact absurd ((come_bit hr hi j).1 hb) hR
        exact ways_none a m cap i j k w (come m (rowsOf m z)) hf.1 hi hj (hc.lc i hi) hb hE hfact hcl fun w1 hB => Way_no a m cap i j (rowsOf m z) hr hi hj hR w1 ((h1.below hB).at hf.2) (hTb w1 hB) (hck w1 hB)
  · exact ways_wrong a m cap x y k (wrongN m) w hfact (fun w1 hB => Closure_wrong a m cap z w1 (h1.below hB) hf) fun w1 hB => Way_bad a m cap x y (wrongN m) w1 (check_wrong a m cap z w1 (h1.below hB) hf)
end Go.Proofs.YtfdappdcihljdaaDoor
