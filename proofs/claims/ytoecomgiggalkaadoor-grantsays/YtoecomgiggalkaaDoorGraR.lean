/- What the path to who has the right is made with: a list turned round (slices.Reverse), the first grant to a user (slices.IndexFunc with path's closure). -/
import Derived.WalkKit
import Derived.LoopTactic
import Derived.OwnWalk
import Derived.BigRegion
import Derived.Laws.OwnMore
import Derived.Maps.AppendAt
import Derived.Test.YtoecomgiggalkaaDoorGraI
import Derived.Test.YtoecomgiggalkaaDoorGraP
namespace Go.Proofs.YtoecomgiggalkaaDoor
open Go.RowKit
set_option maxRecDepth 100000

/-- A list of which the first k and the last k numbers have changed places. -/
def swpI (n : Nat) (f : Nat → Int) (k : Nat) (x : Nat) : Int := if x < k ∨ n ≤ x + k then f (n - 1 - x) else f x
def updZ (f : Nat → Int) (j : Nat) (v : Int) : Nat → Int := fun i => if i = j then v else f i
theorem rowI_setZ {m j : Nat} (f : Nat → Int) (x : Int) (h : j < m) : (rowI m f).set j (.int .i64 x) = rowI m (updZ f j x) := by
  refine List.ext_getElem? fun i => ?_
  rw [List.getElem?_set]
  by_cases e : j = i
  · subst e
    rw [if_pos rfl, rowI_get _ h]
    simp [rowI, h, updZ]
  · rw [if_neg e]
    by_cases hi : i < m
    · rw [rowI_get _ hi, rowI_get _ hi, updZ, if_neg (fun q => e q.symm)]
    · have e1 : (rowI m f)[i]? = none := by simp [rowI]; omega
      have e2 : (rowI m (updZ f j x))[i]? = none := by simp [rowI]; omega
      rw [e1, e2]
theorem rowI_like {m : Nat} {f g : Nat → Int} (h : ∀ i, i < m → f i = g i) : rowI m f = rowI m g := by
  unfold rowI
  refine List.map_congr_left fun i hi => ?_
  show Value.int .i64 (f i) = .int .i64 (g i)
  rw [h i (List.mem_range.1 hi)]
theorem swp_step {n i j : Nat} (f : Nat → Int) (h : i + j + 1 = n) (hij : i < j) : ∀ x, x < n → updZ (updZ (swpI n f i) i (f j)) j (f i) x = swpI n f (i + 1) x := by
  intro x hx
  unfold updZ swpI
  by_cases e1 : x = j
  · subst e1
    rw [if_pos rfl, if_pos (by omega), show n - 1 - x = i by omega]
  · rw [if_neg e1]
    by_cases e2 : x = i
    · subst e2
      rw [if_pos rfl, if_pos (by omega), show n - 1 - x = j by omega]
    · rw [if_neg e2]
      by_cases e3 : x < i ∨ n ≤ x + i
      · rw [if_pos e3, if_pos (by omega)]
      · rw [if_neg e3, if_neg (by omega)]
theorem swp_two {w : World} {base g cap n i j : Nat} {f : Nat → Int} (h : w.ownsRow base 3 1 (.slice (some ⟨g, 0, none⟩) n cap) n (rowI n (swpI n f i))) (hn : i + j + 1 = n) (hij : i < j) :
    (((w.setCell ⟨g, i, none⟩ (.int .i64 (f j))).setCell ⟨g, j, none⟩ (.int .i64 (f i))).ownsRow base 3 1 (.slice (some ⟨g, 0, none⟩) n cap) n (rowI n (swpI n f (i + 1)))) := by
  have h1 := (h.stored i (.int .i64 (f j))).1
  rw [rowI_setZ _ _ (by omega)] at h1
  have h2 := (h1.stored j (.int .i64 (f i))).1
  rw [rowI_setZ _ _ (by omega), rowI_like (swp_step f hn hij)] at h2
  exact h2
theorem gOwnStays {w w' : World} {B e k n : Nat} {v : Value} {xs : List Value} (h : w.ownsRow B e k v n xs) (hb : Below w.heap.size w w') : w'.ownsRow B e k v n xs :=
  h.kept (row := none) ⟨hb.os, hb.tape, hb.output, hb.size, fun k hk _ => hb.block k hk⟩ (by cases hv : v.ownBlock <;> simp)
theorem gOwnDrew {w : World} {B e k n : Nat} {v : Value} {xs : List Value} (h : w.ownsRow B e k v n xs) : w.drew.ownsRow B e k v n xs :=
  h.kept (row := none) ⟨rfl, rfl, rfl, Nat.le_refl _, fun k hk _ => rfl⟩ (by cases hv : v.ownBlock <;> simp)
set_option maxHeartbeats 2000000 in
theorem greverse_any (base g cap n : Nat) (f : Nat → Int) (w : World) (h0 : 0 < n) (hn : n ≤ 1000) (h : w.ownsRow base 3 1 (.slice (some ⟨g, 0, none⟩) n cap) n (rowI n f)) :
    Calls Tryd.prog 35 #[.slice (some ⟨g, 0, none⟩) n cap] w fun e w' => (∃ u, e = .returned u) ∧ w'.ownsRow base 3 1 (.slice (some ⟨g, 0, none⟩) n cap) n (rowI n fun i => f (n - 1 - i)) ∧ Below base w w' := by
  have hstart : w.ownsRow base 3 1 (.slice (some ⟨g, 0, none⟩) n cap) n (rowI n (swpI n f 0)) := by
    rw [rowI_like (g := f) (fun i hi => by rw [swpI, if_neg (by omega)])]; exact h
  have hb : base ≤ g := (h.lt g rfl).1
  have hnm : (n : Int) - 1 = ((n - 1 : Nat) : Int) := by omega
  clear h
  go_enter Tryd.func35, Tryd.ntmps35
  go_wp2
  go_loopw [2, 3] (fun p q wr => ∃ (i j : Nat), p = .int .i64 i ∧ q = .int .i64 j ∧ i + j + 1 = n ∧ i ≤ j + 1 ∧ wr.ownsRow base 3 1 (.slice (some ⟨g, 0, none⟩) n cap) n (rowI n (swpI n f i)) ∧ Below base w wr) (fun _ q _ => (intOf q).toNat)
  case atStart => exact ⟨0, n - 1, rfl, by rw [← hnm], by omega, by omega, hstart, Below.refl _ _⟩
  case round =>
    obtain ⟨i, j, rfl, rfl, hij, hle, hown, hB⟩ := hrel
    by_cases hlt : i < j
    · have hltI : (i : Int) < (j : Int) := by omega
      have c1 : wr.cell? ⟨g, i, none⟩ = some (.int .i64 (f i)) := by
        have := (hown.cellAt i (by omega)).trans (rowI_get _ (by omega))
        rw [swpI, if_neg (by omega)] at this
        exact this
      have c2 : wr.cell? ⟨g, j, none⟩ = some (.int .i64 (f j)) := by
        have := (hown.cellAt j (by omega)).trans (rowI_get _ (by omega))
        rw [swpI, if_neg (by omega)] at this
        exact this
      have f1 := hown.frozenAt i
      have f2 := hown.frozenAt j
      have hin : (i : Int) < (n : Int) := by omega
      have hjn : (j : Int) < (n : Int) := by omega
      have hsw := swp_two hown hij hlt
      have hB2 : Below base w (((wr.setCell ⟨g, i, none⟩ (.int .i64 (f j))).setCell ⟨g, j, none⟩ (.int .i64 (f i))).drew) := ((hB.setCell (p := ⟨g, i, none⟩) hb _).setCell (p := ⟨g, j, none⟩) hb _).drew
      have HS := Hid.mkI (And.intro (gOwnDrew hsw) hB2)
      have HN := Hid.mkI hij
      clear hsw hB2 hB hown hij
      obtain ⟨x, hx⟩ : ∃ x, f i = x := ⟨_, rfl⟩
      obtain ⟨y, hy⟩ : ∃ y, f j = y := ⟨_, rfl⟩
      rw [hx] at c1 HS
      rw [hy] at c2 HS
      clear hx hy
      go_wp2
      go_region
      all_goals
        go_wp2
        go_roundw
        case rel => exact ⟨i + 1, j - 1, by go_num, by go_num, by have := HN.out; omega, by omega, HS.out.1, HS.out.2⟩
        case measure => simp [intOf]; omega
    · have hge : (j : Int) ≤ (i : Int) := by omega
      have hend : wr.ownsRow base 3 1 (.slice (some ⟨g, 0, none⟩) n cap) n (rowI n fun i => f (n - 1 - i)) := by
        rw [← rowI_like (f := swpI n f i) (fun x hx => by
          unfold swpI
          by_cases e : x < i ∨ n ≤ x + i
          · rw [if_pos e]
          · rw [if_neg e]; congr 1; omega)]
        exact hown
      clear hown
      go_wp2
      go_end0
      exact ⟨⟨_, rfl⟩, hend, hB⟩
end Go.Proofs.YtoecomgiggalkaaDoor
