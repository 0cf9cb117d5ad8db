/- A graph's copy (copied). -/
import Derived.WalkKit
import Derived.LoopTactic
import Derived.OwnWalk
import Derived.Maps.AppendAt
import Derived.Lib.SliceRun
import Derived.Test.YtdmdoikkemfcaaaDoorTakGrow
namespace Go.Proofs.YtdmdoikkemfcaaaDoor
open Go.RowKit
set_option maxRecDepth 100000

theorem ownsRow_low {w : World} {B B' e k n : Nat} {v : Value} {xs : List Value} (h : w.ownsRow B e k v n xs) (hb : B' ≤ B) : w.ownsRow B' e k v n xs := by
  obtain ⟨h1, h2 | ⟨g, cap, cur, hv, hg, r⟩⟩ := h
  · exact ⟨h1, .inl h2⟩
  · exact ⟨h1, .inr ⟨g, cap, cur, hv, Nat.le_trans hb hg, r⟩⟩
theorem clone_row (b off n c : Nat) (h0 : 0 < n) (hn : n ≤ 1048576) (f : Nat → Int) (w : World) (hc : ∀ j, j < n → w.cell? ⟨b, off + j, none⟩ = some (.int .i64 (f j))) :
    Calls Tryd.prog 56 #[.slice (some ⟨b, off, none⟩) n c] w fun e w' => ∃ g cp, e = .returned (.slice (some ⟨g, 0, none⟩) n cp) ∧ w'.ownsRow w.heap.size 3 1 (.slice (some ⟨g, 0, none⟩) n cp) n (rowI n f) ∧ Below w.heap.size w w' := by
  obtain ⟨i0, hi0, hz0, hz1, hz2⟩ := info_parts info3i
  have ho := World.ownsRow_lit (base := w.heap.size) (e := 3) (size := 1) w #[] 0 (Nat.le_refl _) (by decide) (by simp)
  have hBa : Below w.heap.size w (w.alloc (.cells #[] 3)) := (Below.refl _ w).alloc (Nat.le_refl _) _
  have hnews : ∀ j u, (rowI n f)[j]? = some u → (w.alloc (.cells #[] 3)).cell? ((⟨b, off, none⟩ : Addr).add j) = some u := by
    intro j u hu
    have hj : j < n := by
      by_cases h : j < n
      · exact h
      · simp [rowI, h] at hu
    rw [rowI_get f hj] at hu
    rw [Go.WideShapes.add_plain, ← hu]
    exact keep_cell hBa (hc j hj)
  have hone : ∀ u ∈ rowI n f, u.oneCell' = true := by
    intro u hu
    simp only [rowI, List.mem_map] at hu
    obtain ⟨j, _, rfl⟩ := hu
    rfl
  have hl : (rowI n f).length = n * 1 := by simp [rowI]
  have h4 : 0 + n ≤ maxLen := by unfold maxLen; omega
  have h5 : (0 + n) * 8 ≤ 140737488355328 := by omega
  have hb : w.heap.size ≤ (w.alloc (.cells #[] 3)).heap.size := hBa.size
  have HFix : Hid (∀ v' w', w'.ownsRow w.heap.size 3 1 v' (0 + n) ([] ++ rowI n f) → (w.alloc (.cells #[] 3)).grownBy w' (some w.heap.size) → ∃ g cp, v' = .slice (some ⟨g, 0, none⟩) n cp ∧ w'.ownsRow w.heap.size 3 1 (.slice (some ⟨g, 0, none⟩) n cp) n (rowI n f) ∧ Below w.heap.size w w') := by
    intro v' w' hown hg
    rw [Nat.zero_add, List.nil_append] at hown
    obtain ⟨g, cp, rfl⟩ := row_some hown h0
    exact ⟨g, cp, rfl, hown, hBa.grown hg hb (fun q hq => by cases hq; exact Nat.le_refl _)⟩
  clear hc
  have q22 : ∀ (w : World) (a : Option Addr) (n c n' c' : Nat), (binOp .eql 34 (.slice a n c) (.slice none n' c')).run Tryd.prog w = .ok (.bool a.isNone) w := fun w a n c n' c' => Lib.run_eql_slice_nil w _ _ a n c n' c' Tryd.underlying34
  go_enter Tryd.func56, Tryd.ntmps56
  go_wp2_with (at_builtin; refine wpList_append_own_at _ rfl _ _ 34 rfl w.heap.size 3 i0 (.int .i64 0) 1 8 Tryd.underlying34 hi0 hz0 hz1 hz2 rfl (by decide) _ 0 [] rfl ho ⟨b, off, none⟩ n c (rowI n f) rfl hl hnews hone h4 h5 hb ?_; intro v' w3 hown' hgrow hnil hat; obtain ⟨g, cp, rfl, hown, hB⟩ := HFix.out v' w3 hown' hgrow)
  go_ret
  exact ⟨g, cp, rfl, hown, hB⟩

/-- The first k rows are there. -/
structure PartG (base : Nat) (w : World) (b n k : Nat) (C K : Nat → Nat) (F : Nat → Nat → Nat) : Prop where
  out : w.ownsRow base 34 1 (.slice (some ⟨b, 0, none⟩) n n) n ((List.range n).map fun i => if i < k then .slice (some ⟨C i, 0, none⟩) n (K i) else .slice none 0 0)
  row : ∀ i, i < k → w.ownsRow base 3 1 (.slice (some ⟨C i, 0, none⟩) n (K i)) n (rowI n fun j => (F i j : Int))
  ne : ∀ i, i < k → C i ≠ b
  inj : ∀ i j, i < k → j < k → i ≠ j → C i ≠ C j
theorem PartG.step {base b n k c kk : Nat} {C K : Nat → Nat} {F : Nat → Nat → Nat} {w w1 : World} (h : PartG base w b n k C K F) (hk : k < n) (hbase : base ≤ w.heap.size) (hB : Below w.heap.size w w1)
    (hr : w1.ownsRow w.heap.size 3 1 (.slice (some ⟨c, 0, none⟩) n kk) n (rowI n fun j => (F k j : Int))) :
    (w1.cell? ⟨b, k, none⟩).isSome = true ∧ w1.frozen? ⟨b, k, none⟩ = false ∧ base ≤ b ∧ PartG base (w1.setCell ⟨b, k, none⟩ (.slice (some ⟨c, 0, none⟩) n kk)) b n (k + 1) (upd C k c) (upd K k kk) F := by
  have hlb := h.out.lt b rfl
  have hlc := hr.lt c rfl
  have ho1 := ownsRow_stays h.out hB
  have hs := ho1.stored k (.slice (some ⟨c, 0, none⟩) n kk)
  refine ⟨?_, ho1.frozenAt k, hlb.1, ?_, fun i hi => ?_, fun i hi => ?_, fun i j hi hj e => ?_⟩
  · rw [ho1.cellAt k (by omega), range_get _ hk]; rfl
  · have h1 := hs.1
    have he : ((List.range n).map fun i => if i < k then Value.slice (some ⟨C i, 0, none⟩) n (K i) else .slice none 0 0).set k (.slice (some ⟨c, 0, none⟩) n kk) = (List.range n).map fun i => if i < k + 1 then Value.slice (some ⟨upd C k c i, 0, none⟩) n (upd K k kk i) else .slice none 0 0 := by
      refine List.ext_getElem? fun j => ?_
      rw [List.getElem?_set]
      by_cases e : k = j
      · subst e
        rw [if_pos rfl, range_get _ hk, if_pos (show k < k + 1 by omega), upd_same, upd_same]
        simp [hk]
      · rw [if_neg e]
        by_cases hj : j < n
        · rw [range_get _ hj, range_get _ hj, upd_other _ (fun q => e q.symm), upd_other _ (fun q => e q.symm)]
          by_cases h2 : j < k
          · rw [if_pos h2, if_pos (by omega)]
          · rw [if_neg h2, if_neg (by omega)]
        · simp [hj]
    rw [he] at h1
    exact h1
  · by_cases e : i = k
    · subst e
      rw [upd_same, upd_same]
      exact (ownsRow_low hr hbase).kept hs.2 (.inr fun q => by have := Option.some.inj q; simp only at this; omega)
    · rw [upd_other _ e, upd_other _ e]
      exact (ownsRow_stays (h.row i (by omega)) hB).kept hs.2 (.inr fun q => h.ne i (by omega) (Option.some.inj q))
  · by_cases e : i = k
    · subst e; rw [upd_same]; omega
    · rw [upd_other _ e]; exact h.ne i (by omega)
  · have hl : ∀ i, i < k → C i ≠ c := fun i hi q => by have := ((h.row i hi).lt (C i) rfl).2; omega
    by_cases e1 : i = k
    · subst e1
      rw [upd_same, upd_other _ (fun q => e q.symm)]
      exact fun q => hl j (by omega) q.symm
    · rw [upd_other _ e1]
      by_cases e2 : j = k
      · subst e2; rw [upd_same]; exact hl i (by omega)
      · rw [upd_other _ e2]; exact h.inj i j (by omega) (by omega) e
theorem PartG.all {base b n : Nat} {C K : Nat → Nat} {F : Nat → Nat → Nat} {w : World} (h : PartG base w b n n C K F) : OwnG base w b n n C K (fun _ => n) F :=
  ⟨by
    have he : ((List.range n).map fun i => if i < n then Value.slice (some ⟨C i, 0, none⟩) n (K i) else .slice none 0 0) = (List.range n).map fun i => Value.slice (some ⟨C i, 0, none⟩) n (K i) := by
      refine List.map_congr_left fun j hj => ?_
      rw [if_pos (List.mem_range.1 hj)]
    rw [← he]; exact h.out, h.row, h.ne, h.inj⟩
theorem made_part (w : World) (n : Nat) (hn : n ≤ 1048576) (F : Nat → Nat → Nat) : PartG w.heap.size (w.alloc (.cells (madeCells #[.slice none 0 0] n) 34)) w.heap.size n 0 (fun _ => 0) (fun _ => 0) F := by
  have h := World.ownsRow_lit (base := w.heap.size) (e := 34) (size := 1) w (madeCells #[.slice none 0 0] n) n (Nat.le_refl _) (by unfold maxLen; omega) (by rw [size_madeCells]; omega)
  rw [toList_madeCells_one] at h
  refine ⟨?_, fun i hi => by omega, fun i hi => by omega, fun i j hi => by omega⟩
  have e : ((List.range n).map fun i => if i < 0 then Value.slice (some ⟨0, 0, none⟩) n 0 else .slice none 0 0) = List.replicate n (.slice none 0 0) := by
    refine List.ext_getElem? fun j => ?_
    by_cases hj : j < n <;> simp [hj]
  rw [e]; exact h

set_option maxHeartbeats 1000000 in
theorem copied_any (v : Value) (g : Gr) (ok : g.Ok) (w : World) (h : GrV w v g) :
    Calls Tryd.prog 32 #[v] w fun e w' => ∃ b C K, e = .returned (.slice (some ⟨b, 0, none⟩) g.n g.n) ∧ OwnGr w.heap.size w' b g.n C K g ∧ Below w.heap.size w w' := by
  obtain ⟨a, cp, rfl, hg⟩ := h.open
  have hle := ok.le
  have hmk := makeR_any w g.n (by omega)
  have hmp := made_part w g.n (by omega) g.M
  have hBm : Below w.heap.size w (w.alloc (.cells (madeCells #[.slice none 0 0] g.n) 34)) := (Below.refl _ w).alloc (Nat.le_refl _) _
  obtain ⟨w1, hw1⟩ : ∃ x, w.alloc (.cells (madeCells #[.slice none 0 0] g.n) 34) = x := ⟨_, rfl⟩
  rw [hw1] at hmk hmp hBm
  clear hw1
  have HW := Hid.mkI hBm
  go_enter Tryd.func32, Tryd.ntmps32
  go_wp2
  go_loopw [11] (fun p wr => ∃ (k : Nat) (C K : Nat → Nat), k ≤ g.n ∧ p = .int .i64 k ∧ PartG w.heap.size wr w.heap.size g.n k C K g.M ∧ Below w.heap.size w wr) (fun p _ => g.n - (intOf p).toNat)
  case atStart => exact ⟨0, _, _, by omega, rfl, hmp, HW.out⟩
  case round =>
    obtain ⟨k, C, K, hk, rfl, hP, hBr⟩ := hrel
    by_cases hlt : k < g.n
    · obtain ⟨b, off, B, O, Cc, rfl, hG⟩ := hg (by omega)
      have hG := hG.below hBr
      have a1 := hG.top k hlt
      have t := clone_row (B k) (O k) g.n (Cc k) (by omega) (by omega) (fun j => (g.M k j : Int)) wr (fun j hj => hG.cell k j hlt hj)
      have hst := fun (w3 : World) (c kk : Nat) (hB3 : Below wr.heap.size wr w3) hr => hP.step (c := c) (kk := kk) (w1 := w3) hlt hBr.size hB3 hr
      have HS := Hid.mkI hst
      clear hst hP hG
      go_wp2_with (go_at_call 56; refine t.mono ?_; clear t; rintro e w3 ⟨gg, kk, rfl, hown, hB3⟩; obtain ⟨s1, s2, s3, hP3⟩ := HS.out w3 gg kk hB3 hown; obtain ⟨x, hx⟩ := Option.isSome_iff_exists.1 s1)
      go_roundw
      case rel => exact ⟨k + 1, _, _, by omega, by go_num, hP3, (hBr.trans (hB3.mono hBr.size)).setCell (p := ⟨w.heap.size, k, none⟩) s3 _⟩
      case measure => simp [intOf]; omega
    · obtain rfl : k = g.n := by omega
      go_wp2
      go_ret
      exact ⟨_, C, K, rfl, hP.all, hBr⟩
end Go.Proofs.YtdmdoikkemfcaaaDoor
