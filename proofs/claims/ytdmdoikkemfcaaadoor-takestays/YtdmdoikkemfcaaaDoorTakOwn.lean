/- A graph of one's own: how it lies in memory where it may be written. -/
import Derived.WalkKit
import Derived.Laws.OwnMore
import Derived.Maps.AppendAt
import Derived.Test.YtdmdoikkemfcaaaDoorTakG
namespace Go.Proofs.YtdmdoikkemfcaaaDoor
open Go.RowKit
set_option maxRecDepth 100000

/-- Rows of one's own, apart from each other. -/
structure OwnG (base : Nat) (w : World) (b cap n : Nat) (C K L : Nat → Nat) (F : Nat → Nat → Nat) : Prop where
  out : w.ownsRow base 34 1 (.slice (some ⟨b, 0, none⟩) n cap) n ((List.range n).map fun i => .slice (some ⟨C i, 0, none⟩) (L i) (K i))
  row : ∀ i, i < n → w.ownsRow base 3 1 (.slice (some ⟨C i, 0, none⟩) (L i) (K i)) (L i) (rowI (L i) fun j => (F i j : Int))
  ne : ∀ i, i < n → C i ≠ b
  inj : ∀ i j, i < n → j < n → i ≠ j → C i ≠ C j
theorem ownsRow_stays {w w' : World} {B e k n : Nat} {v : Value} {xs : List Value} (h : w.ownsRow B e k v n xs) (hb : Below w.heap.size w w') : w'.ownsRow B e k v n xs :=
  h.kept (row := none) ⟨hb.os, hb.tape, hb.output, hb.size, fun k hk _ => hb.block k hk⟩ (by cases hv : v.ownBlock <;> simp)
theorem range_get {n i : Nat} (f : Nat → Value) (h : i < n) : ((List.range n).map f)[i]? = some (f i) := by simp [h]
theorem rowI_set {m j : Nat} (f : Nat → Nat) (x : Nat) (h : j < m) : (rowI m fun i => (f i : Int)).set j (.int .i64 (x : Int)) = rowI m fun i => ((upd f j x i : Nat) : Int) := by
  refine List.ext_getElem? fun i => ?_
  rw [List.getElem?_set]
  by_cases e : j = i
  · subst e
    rw [if_pos rfl, rowI_get _ h, upd_same]
    simp [rowI, h]
  · rw [if_neg e]
    by_cases hi : i < m
    · rw [rowI_get _ hi, rowI_get _ hi, upd_other _ (fun q => e q.symm)]
    · have e1 : (rowI m fun i => (f i : Int))[i]? = none := by simp [rowI]; omega
      have e2 : (rowI m fun i => ((upd f j x i : Nat) : Int))[i]? = none := by simp [rowI]; omega
      rw [e1, e2]
section
variable {base b cap n : Nat} {C K L : Nat → Nat} {F F' : Nat → Nat → Nat} {w w' : World}
theorem OwnG.top (h : OwnG base w b cap n C K L F) {i : Nat} (hi : i < n) : w.cell? ⟨b, i, none⟩ = some (.slice (some ⟨C i, 0, none⟩) (L i) (K i)) :=
  (h.out.cellAt i (by omega)).trans (range_get _ hi)
theorem OwnG.free (h : OwnG base w b cap n C K L F) (i : Nat) : w.frozen? ⟨b, i, none⟩ = false := h.out.frozenAt i
theorem OwnG.cell (h : OwnG base w b cap n C K L F) {i j : Nat} (hi : i < n) (hj : j < L i) : w.cell? ⟨C i, j, none⟩ = some (.int .i64 (F i j : Nat)) :=
  ((h.row i hi).cellAt j (by omega)).trans (rowI_get _ hj)
theorem OwnG.freeR (h : OwnG base w b cap n C K L F) {i : Nat} (hi : i < n) (j : Nat) : w.frozen? ⟨C i, j, none⟩ = false := (h.row i hi).frozenAt j
theorem OwnG.lt (h : OwnG base w b cap n C K L F) : base ≤ b ∧ b < w.heap.size := h.out.lt b rfl
theorem OwnG.ltR (h : OwnG base w b cap n C K L F) {i : Nat} (hi : i < n) : base ≤ C i ∧ C i < w.heap.size := (h.row i hi).lt (C i) rfl
theorem OwnG.kept {row : Option Nat} (h : OwnG base w b cap n C K L F) (hg : w.grownBy w' row) (hb : some b ≠ row) (hC : ∀ i, i < n → some (C i) ≠ row) : OwnG base w' b cap n C K L F :=
  ⟨h.out.kept hg (.inr hb), fun i hi => (h.row i hi).kept hg (.inr (hC i hi)), h.ne, h.inj⟩
theorem OwnG.below (h : OwnG base w b cap n C K L F) (k : Below w.heap.size w w') : OwnG base w' b cap n C K L F :=
  ⟨ownsRow_stays h.out k, fun i hi => ownsRow_stays (h.row i hi) k, h.ne, h.inj⟩
theorem OwnG.drawn (h : OwnG base w b cap n C K L F) (k : Nat) : OwnG base (w.drewN k) b cap n C K L F := h.below (below_drawn (Below.refl _ _) k)
theorem OwnG.like (h : OwnG base w b cap n C K L F) (e : ∀ i j, i < n → j < L i → F i j = F' i j) : OwnG base w b cap n C K L F' :=
  ⟨h.out, fun i hi => by
    have he : (rowI (L i) fun j => (F i j : Int)) = rowI (L i) fun j => (F' i j : Int) := by
      unfold rowI
      refine List.map_congr_left fun j hj => ?_
      show Value.int .i64 (F i j : Int) = .int .i64 (F' i j : Int)
      rw [e i j hi (List.mem_range.1 hj)]
    rw [← he]; exact h.row i hi, h.ne, h.inj⟩
/-- A number is put. -/
theorem OwnG.put (h : OwnG base w b cap n C K L F) {i j : Nat} (hi : i < n) (hj : j < L i) (x : Nat) :
    OwnG base (w.setCell ⟨C i, j, none⟩ (.int .i64 (x : Int))) b cap n C K L (fun i' j' => if i' = i ∧ j' = j then x else F i' j') := by
  have hs := (h.row i hi).stored j (.int .i64 (x : Int))
  have hne := h.ne i hi
  refine ⟨h.out.kept hs.2 (.inr fun e => hne (by cases e; rfl)), fun k hk => ?_, h.ne, h.inj⟩
  by_cases e : k = i
  · subst e
    have h1 := hs.1
    rw [rowI_set _ _ hj] at h1
    have he : (rowI (L k) fun j' => (((fun i' j' => if i' = k ∧ j' = j then x else F i' j') k j' : Nat) : Int)) = rowI (L k) fun i => ((upd (F k) j x i : Nat) : Int) := by
      unfold rowI upd
      refine List.map_congr_left fun j' _ => ?_
      simp
    rw [he]; exact h1
  · have he : (rowI (L k) fun j' => (((fun i' j' => if i' = i ∧ j' = j then x else F i' j') k j' : Nat) : Int)) = rowI (L k) fun j => (F k j : Int) := by
      unfold rowI
      refine List.map_congr_left fun j' _ => ?_
      simp [e]
    rw [he]
    exact (h.row k hk).kept hs.2 (.inr fun q => h.inj k i hk hi e (Option.some.inj q))
/-- A row is put in another one's place. -/
theorem OwnG.putTop {w1 : World} (h : OwnG base w b cap n C K L F) {i : Nat} (hi : i < n) {c' k' l' : Nat} {f' : Nat → Nat} (hg : w.grownBy w1 (some (C i)))
    (hr : w1.ownsRow base 3 1 (.slice (some ⟨c', 0, none⟩) l' k') l' (rowI l' fun j => (f' j : Int))) (hc : c' = C i ∨ w.heap.size ≤ c') :
    OwnG base (w1.setCell ⟨b, i, none⟩ (.slice (some ⟨c', 0, none⟩) l' k')) b cap n (upd C i c') (upd K i k') (upd L i l') (fun i' => if i' = i then f' else F i') := by
  have hlb := h.lt
  have hne : ∀ j, j < n → j ≠ i → c' ≠ C j := fun j hj e q => by
    rcases hc with hc | hc
    · exact h.inj j i hj hi e (by omega)
    · have := (h.ltR hj).2; omega
  have hnb : c' ≠ b := fun q => by
    rcases hc with hc | hc
    · exact h.ne i hi (by omega)
    · omega
  have ho1 := h.out.kept hg (.inr fun q => h.ne i hi (by cases q; rfl))
  have hs := ho1.stored i (.slice (some ⟨c', 0, none⟩) l' k')
  refine ⟨?_, fun j hj => ?_, fun j hj => ?_, fun j k hj hk e => ?_⟩
  · have h1 := hs.1
    have he : ((List.range n).map fun j => Value.slice (some ⟨C j, 0, none⟩) (L j) (K j)).set i (.slice (some ⟨c', 0, none⟩) l' k') = (List.range n).map fun j => Value.slice (some ⟨upd C i c' j, 0, none⟩) (upd L i l' j) (upd K i k' j) := by
      refine List.ext_getElem? fun j => ?_
      rw [List.getElem?_set]
      by_cases e : i = j
      · subst e
        rw [if_pos rfl, range_get _ hi, upd_same, upd_same, upd_same]
        simp [hi]
      · rw [if_neg e]
        by_cases hj : j < n
        · rw [range_get _ hj, range_get _ hj, upd_other _ (fun q => e q.symm), upd_other _ (fun q => e q.symm), upd_other _ (fun q => e q.symm)]
        · simp [hj]
    rw [he] at h1
    exact h1
  · by_cases e : j = i
    · subst e
      rw [upd_same, upd_same, upd_same, if_pos rfl]
      exact hr.kept hs.2 (.inr fun q => hnb (by cases q; rfl))
    · rw [upd_other _ e, upd_other _ e, upd_other _ e, if_neg e]
      exact ((h.row j hj).kept hg (.inr fun q => h.inj j i hj hi e (Option.some.inj q))).kept hs.2 (.inr fun q => h.ne j hj (by cases q; rfl))
  · by_cases e : j = i
    · subst e; rw [upd_same]; exact hnb
    · rw [upd_other _ e]; exact h.ne j hj
  · by_cases e1 : j = i
    · subst e1
      rw [upd_same, upd_other _ (fun q => e q.symm)]
      exact hne k hk (fun q => e q.symm)
    · rw [upd_other _ e1]
      by_cases e2 : k = i
      · subst e2; rw [upd_same]; exact fun q => hne j hj e1 q.symm
      · rw [upd_other _ e2]; exact h.inj j k hj hk e
/-- A row more. -/
theorem OwnG.push (h : OwnG base w b cap n C K L F) {c k l b' cap' : Nat} {f : Nat → Nat} (hr : w.ownsRow base 3 1 (.slice (some ⟨c, 0, none⟩) l k) l (rowI l fun j => (f j : Int))) (hcb : c ≠ b) (hcC : ∀ i, i < n → c ≠ C i)
    (hown : w'.ownsRow base 34 1 (.slice (some ⟨b', 0, none⟩) (n + 1) cap') (n + 1) (((List.range n).map fun i => Value.slice (some ⟨C i, 0, none⟩) (L i) (K i)) ++ [.slice (some ⟨c, 0, none⟩) l k])) (hg : w.grownBy w' (some b)) (hb' : b' = b ∨ b' = w.heap.size) :
    OwnG base w' b' cap' (n + 1) (upd C n c) (upd K n k) (upd L n l) (fun i => if i = n then f else F i) := by
  have hcl := (hr.lt c rfl).2
  have hne : ∀ i, i < n → C i ≠ b' := fun i hi q => by
    rcases hb' with e | e
    · exact h.ne i hi (by omega)
    · have := (h.ltR hi).2; omega
  have hnc : c ≠ b' := fun q => by rcases hb' with e | e <;> omega
  refine ⟨?_, fun j hj => ?_, fun j hj => ?_, fun i j hi hj e => ?_⟩
  · have he : (List.range (n + 1)).map (fun i => Value.slice (some ⟨upd C n c i, 0, none⟩) (upd L n l i) (upd K n k i)) = ((List.range n).map fun i => Value.slice (some ⟨C i, 0, none⟩) (L i) (K i)) ++ [.slice (some ⟨c, 0, none⟩) l k] := by
      rw [List.range_succ, List.map_append]
      congr 1
      · refine List.map_congr_left fun i hi => ?_
        have := List.mem_range.1 hi
        rw [upd_other _ (by omega), upd_other _ (by omega), upd_other _ (by omega)]
      · simp [upd_same]
    rw [he]; exact hown
  · by_cases e : j = n
    · subst e
      rw [upd_same, upd_same, upd_same, if_pos rfl]
      exact hr.kept hg (.inr fun q => hcb (by cases q; rfl))
    · rw [upd_other _ e, upd_other _ e, upd_other _ e, if_neg e]
      exact (h.row j (by omega)).kept hg (.inr fun q => h.ne j (by omega) (by cases q; rfl))
  · by_cases e : j = n
    · subst e; rw [upd_same]; exact hnc
    · rw [upd_other _ e]; exact hne j (by omega)
  · by_cases e1 : i = n
    · subst e1
      rw [upd_same, upd_other _ (fun q => e q.symm)]
      exact hcC j (by omega)
    · rw [upd_other _ e1]
      by_cases e2 : j = n
      · subst e2; rw [upd_same]; exact fun q => hcC i (by omega) q.symm
      · rw [upd_other _ e2]; exact h.inj i j (by omega) (by omega) e
end
/-- A graph of one's own. -/
abbrev OwnGr (base : Nat) (w : World) (b cap : Nat) (C K : Nat → Nat) (g : Gr) : Prop := OwnG base w b cap g.n C K (fun _ => g.n) g.M
theorem OwnGr.grAt {base b cap : Nat} {C K : Nat → Nat} {g : Gr} {w : World} (h : OwnGr base w b cap C K g) : GrAt w b 0 C (fun _ => 0) K g :=
  ⟨h.lt.2, fun i hi => by rw [Nat.zero_add]; exact h.top hi, fun i hi => (h.ltR hi).2, fun i j hi hj => by rw [Nat.zero_add]; exact h.cell hi hj⟩
end Go.Proofs.YtdmdoikkemfcaaaDoor
