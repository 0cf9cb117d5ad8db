/- The program's writer, whole: a node's text; Write. -/
import Derived.WalkKit
import Derived.LoopTactic
import Derived.OwnWalk
import Derived.Laws.Strings
import Derived.Laws.Strings2
import Derived.Laws.Concat
import Derived.Deep.RegionHeld3
import Derived.Test.YtdmdoikkemfcaabDoorPrwB
import Derived.Test.YtdmdoikkemfcaabDoorProY
namespace Go.Proofs.YtdmdoikkemfcaabDoor
open Go.RowKit
set_option maxRecDepth 100000
set_option linter.unusedVariables false

theorem digF_lt : ∀ (f n : Nat), ∀ c ∈ digF f n, c < 256
  | 0, n, c, hc => by simp [digF] at hc
  | f + 1, n, c, hc => by
    rw [digF] at hc
    split at hc
    · simp at hc; omega
    · rcases List.mem_append.1 hc with hc | hc
      · exact digF_lt f _ c hc
      · simp at hc; omega
theorem hash_add (m : Nat) (hm : m ≤ 999999) (W : World) : (Op.stringOp .add (⟨#[35]⟩ : ByteArray) (strB (digs m))).run Tryd.prog W = .ok (.string (strB (35 :: digs m))) W := by
  have h1 : (⟨#[35]⟩ : ByteArray) = strB [35] := rfl
  have hl := digs_len hm
  rw [h1, run_string_add (P := Tryd.prog) W (strB [35]) (strB (digs m)) (by rw [strB_size]; simp) (by rw [strB_size]; omega), strB_app]
  rfl
section
variable {B X b off n : Nat} {S : Nat → Nod} {pv : Value}
theorem node0_wk {t : List Nat} {i cp m : Nat} {pa pb pc : Int} (hm : m ≤ 999999) (hl : t.length ≤ 900000) (hi : i < n) (hn : n ≤ 80) (hS : S i = ⟨0, (m : Int), pa, pb, pc⟩) (hv : pv = .slice (some ⟨b, off, none⟩) n cp) :
    WkC B X b off n S pv 20 #[wrP X, .int .i64 (i : Int)] t (t ++ 35 :: digs m) := by
  intro w hW hC
  obtain ⟨z0, z1, z2, z3, z4⟩ := five_cells hC.nods hi hS
  simp only at z0 z1 z2 z3 z4
  have x2 := hW.c2
  rw [hv] at x2
  have hiI : (i : Int) < (n : Int) := by omega
  have hnI : (n : Int) ≤ 80 := by omega
  have hne : w.heap.size ≠ X := fun q => by have := hW.hi; omega
  have hA0 : Below w.heap.size w (w.alloc (.cells #[.int .i64 0, .int .i64 (m : Int), .int .i64 pa, .int .i64 pb, .int .i64 pc] 45)) := (Below.refl _ w).alloc (Nat.le_refl _) _
  have hW0 := hW.below hA0
  have hX0 := hA0.mono hW.sz
  have hC0 := hC.on hX0
  have hF0 := FrW.ofBelow (X := X) hA0
  have hY0 : BxN w.heap.size ⟨0, (m : Int), pa, pb, pc⟩ (w.alloc (.cells #[.int .i64 0, .int .i64 (m : Int), .int .i64 pa, .int .i64 pb, .int .i64 pc] 45)) := World.alloc_heap_new w _
  obtain ⟨y0, y1, y2, y3, y4⟩ := hY0.cells
  clear hW hC hS hv
  obtain ⟨W0, hW0e⟩ : ∃ W0, w.alloc (.cells #[.int .i64 0, .int .i64 (m : Int), .int .i64 pa, .int .i64 pb, .int .i64 pc] 45) = W0 := ⟨_, rfl⟩
  rw [hW0e] at hW0 hX0 hC0 hF0 hY0 y0 y1 y2 y3 y4 hA0
  have hdr : Below W0.heap.size W0 W0.drew := (Below.refl _ W0).drew
  have hWd := hW0.below hdr
  have hXd := hX0.trans (hdr.mono hW0.sz)
  have hCd := hC0.on (hdr.mono hW0.sz)
  have hFd := hF0.trans (FrW.ofBelow (X := X) hdr)
  have hYd : BxN w.heap.size ⟨0, (m : Int), pa, pb, pc⟩ W0.drew := hY0.fr (FrW.ofBelow (X := X) hdr) hne
  have y1d : W0.drew.cell? ⟨w.heap.size, 1, none⟩ = some (.int .i64 (m : Int)) := y1
  have hadd := fun W => hash_add m hm W
  have tI := fun w' (k : LibT B w') => lib_itoa m hm w' k
  have hl7 := digs_len hm
  have tS := str_wk (B := B) (X := X) (b := b) (off := off) (n := n) (S := S) (pv := pv) (t := t) (s := 35 :: digs m) (fun c hc => by
    rcases List.mem_cons.1 hc with rfl | hc
    · decide
    · exact digF_lt 7 m c hc) (by rw [List.length_cons]; omega)
  obtain ⟨y, hy⟩ : ∃ y, strB (digs m) = y := ⟨_, rfl⟩
  obtain ⟨z, hz⟩ : ∃ z, strB (35 :: digs m) = z := ⟨_, rfl⟩
  obtain ⟨t', ht⟩ : ∃ t', t ++ 35 :: digs m = t' := ⟨_, rfl⟩
  rw [hy, hz] at hadd
  rw [hy] at tI
  rw [hz, ht] at tS
  rw [ht]
  clear hy hz ht hY0 hdr
  go_enter Tryd.func20, Tryd.ntmps20
  go_wp2
  go_region_held3 (fun w' => w'.cell? ⟨w.heap.size, 1, none⟩ = some (.int .i64 (m : Int))) (with_reducible assumption) (first | (go_at_call 36; (with_reducible refine (tI _ hCd.lib).mono ?_); clear tI; rintro e w2 ⟨rfl, hB2⟩; have y1d := keep_cell hB2 y1d; have hWe := hWd.below hB2; have hXe := hXd.trans (hB2.mono hWd.sz); have hCe := hCd.on (hB2.mono hWd.sz); have hFe := hFd.trans (FrW.ofBelow (X := X) hB2); have hYe := hYd.fr (FrW.ofBelow (X := X) hB2) hne) | (go_at_call 35; refine (tS _ hWe hCe).mono ?_; clear tS; rintro e w3 ⟨⟨v3, rfl⟩, hW3, hB3, hG3⟩; have hX3 := hXe.trans hB3; have hF3 := hFe.trans hG3; have y1d := (hYe.fr hG3 hne).cells.2.1))
  all_goals
    go_wp2
    go_end0
    exact ⟨⟨_, rfl⟩, hW3, hX3, hF3⟩
theorem braced_at {j : Nat} {t g : List Nat} (hl : t.length + (g.length + 2) ≤ 700000) (hk : ∀ t', t'.length + g.length ≤ 700000 → WkC B X b off n S pv 20 #[wrP X, .int .i64 (j : Int)] t' (t' ++ g)) :
    WkC B X b off n S pv 40 #[wrP X, .int .i64 (j : Int)] t (t ++ (123 :: (g ++ [125]))) := by
  have e : t ++ (123 :: (g ++ [125])) = ((t ++ [123]) ++ g) ++ [125] := by simp
  rw [e]
  exact braced_wk (byte_wk (by decide) (by omega)) (hk (t ++ [123]) (by rw [List.length_append, List.length_singleton]; omega)) (byte_wk (by decide) (by rw [List.length_append, List.length_append, List.length_singleton]; omega))
theorem pair_at {s0 : List Nat} {sg : ByteArray} {kd num pc : Int} {j k : Nat} {t g h : List Nat} (hsg : strB s0 = sg) (hs0 : ∀ c ∈ s0, c < 256) (hl : t.length + (s0.length + (g.length + h.length)) ≤ 700000) (hj : ∀ t', t'.length + g.length ≤ 700000 → WkC B X b off n S pv 20 #[wrP X, .int .i64 (j : Int)] t' (t' ++ g)) (hk : ∀ t', t'.length + h.length ≤ 700000 → WkC B X b off n S pv 20 #[wrP X, .int .i64 (k : Int)] t' (t' ++ h)) :
    WkC B X b off n S pv 38 #[wrP X, .string sg, .agg #[.int .i64 kd, .int .i64 num, .int .i64 (j : Int), .int .i64 (k : Int), .int .i64 pc]] t (t ++ (s0 ++ (g ++ h))) := by
  have e : t ++ (s0 ++ (g ++ h)) = ((t ++ s0) ++ g) ++ h := by simp
  rw [e, ← hsg]
  exact pair_wk (str_wk hs0 (by omega)) (hj (t ++ s0) (by rw [List.length_append]; omega)) (hk (t ++ s0 ++ g) (by rw [List.length_append, List.length_append]; omega))
end
theorem node_any {B X b off cp : Nat} {l : List Nod} (hR : RightP l) : ∀ (m i : Nat), i < m → i < l.length → ∀ t, t.length + (txN l (i : Int)).length ≤ 700000 →
    WkC B X b off l.length (nthD l) (.slice (some ⟨b, off, none⟩) l.length cp) 20 #[wrP X, .int .i64 (i : Int)] t (t ++ txN l (i : Int))
  | 0, _, h, _, _, _ => absurd h (by omega)
  | m + 1, i, him, hi, t, hl => by
    have hwf := hR.wf i hi
    have hk := hR.kin i hi
    have h80 := hR.few
    rw [txN_eq hR.wf hi] at hl ⊢
    have ih : ∀ p ∈ prtL (nthD l i), ∃ j : Nat, p = (j : Int) ∧ ∀ t', t'.length + (txN l p).length ≤ 700000 → WkC B X b off l.length (nthD l) (.slice (some ⟨b, off, none⟩) l.length cp) 20 #[wrP X, .int .i64 (j : Int)] t' (t' ++ txN l p) := fun p hp => by
      obtain ⟨h0, h1⟩ := hwf p hp
      obtain ⟨j, rfl⟩ := Int.eq_ofNat_of_zero_le h0
      exact ⟨j, rfl, fun t' ht => node_any hR m j (by omega) (by omega) t' ht⟩
    obtain ⟨x, hx⟩ : ∃ x, nthD l i = x := ⟨_, rfl⟩
    rw [hx] at hk hl ih ⊢
    clear hwf
    obtain ⟨kd, num, pa, pb, pc⟩ := x
    unfold kinB at hk
    simp only [decide_eq_true_eq] at hk
    obtain ⟨k0, k9, kn, kv⟩ := hk
    obtain ⟨g, hg⟩ : ∃ g, txN l = g := ⟨_, rfl⟩
    rw [hg] at hl ih ⊢
    unfold prtL at ih
    unfold txB at hl ⊢
    obtain rfl | rfl | rfl | rfl | rfl | rfl | rfl | rfl | rfl | rfl : kd = 0 ∨ kd = 1 ∨ kd = 2 ∨ kd = 3 ∨ kd = 4 ∨ kd = 5 ∨ kd = 6 ∨ kd = 7 ∨ kd = 8 ∨ kd = 9 := by omega
    · obtain ⟨q, rfl⟩ := Int.eq_ofNat_of_zero_le (kn rfl).1
      have hq : q ≤ 999999 := by have := (kn rfl).2; omega
      simp only [if_pos, Int.toNat_natCast] at hl ⊢
      exact node0_wk hq (by simp only [List.length_cons] at hl; omega) hi h80 hx rfl
    · obtain ⟨q, rfl⟩ := Int.eq_ofNat_of_zero_le (kv (.inl rfl)).1
      have hq : q < 6 := by have := (kv (.inl rfl)).2; omega
      simp at hl ⊢
      exact node1_wk hi h80 hx rfl (letter_wk hq (by omega))
    · simp at hl ih ⊢
      obtain ⟨⟨j, rfl, hj⟩, q, rfl, hq⟩ := ih
      exact node2_wk hi h80 hx rfl (pair_at (s0 := [43]) rfl (by simp) (by simp; omega) hj hq)
    · simp at hl ih ⊢
      obtain ⟨⟨j, rfl, hj⟩, q, rfl, hq⟩ := ih
      exact node3_wk hi h80 hx rfl (pair_at (s0 := [60]) rfl (by simp) (by simp; omega) hj hq)
    · simp at hl ih ⊢
      obtain ⟨⟨j, rfl, hj⟩, q, rfl, hq⟩ := ih
      exact node4_wk hi h80 hx rfl (pair_at (s0 := [61]) rfl (by simp) (by simp; omega) hj hq)
    · simp at hl ⊢
      exact node5_wk hi h80 hx rfl
    · obtain ⟨q, rfl⟩ := Int.eq_ofNat_of_zero_le (kv (.inr rfl)).1
      have hq : q < 6 := by have := (kv (.inr rfl)).2; omega
      simp at hl ih ⊢
      obtain ⟨j, rfl, hj⟩ := ih
      have e : t ++ (97 + q) :: 61 :: (g (j : Int) ++ [59]) = (((t ++ [97 + q]) ++ [61]) ++ g (j : Int)) ++ [59] := by simp
      rw [e]
      exact node6_wk hi h80 hx rfl (letter_wk hq (by omega)) (byte_wk (by decide) (by simp; omega)) (hj _ (by simp; omega)) (byte_wk (by decide) (by simp; omega))
    · simp at hl ih ⊢
      obtain ⟨⟨j, rfl, hj⟩, q, rfl, hq⟩ := ih
      exact node7_wk hi h80 hx rfl (pair_at (s0 := []) rfl (by simp) (by simp; omega) hj hq)
    · simp at hl ih ⊢
      obtain ⟨⟨j, rfl, hj⟩, ⟨q, rfl, hq⟩, r, rfl, hr⟩ := ih
      have e : t ++ 63 :: (g (j : Int) ++ 123 :: (g (q : Int) ++ 125 :: 123 :: (g (r : Int) ++ [125]))) = (((t ++ [63]) ++ g (j : Int)) ++ (123 :: (g (q : Int) ++ [125]))) ++ (123 :: (g (r : Int) ++ [125])) := by simp
      rw [e]
      exact node8_wk hi h80 hx rfl (byte_wk (by decide) (by omega)) (hj _ (by simp; omega)) (braced_at (by simp; omega) hq) (braced_at (by simp; omega) hr)
    · simp at hl ih ⊢
      obtain ⟨⟨j, rfl, hj⟩, q, rfl, hq⟩ := ih
      have e : t ++ 64 :: (g (j : Int) ++ 123 :: (g (q : Int) ++ [125])) = ((t ++ [64]) ++ g (j : Int)) ++ (123 :: (g (q : Int) ++ [125])) := by simp
      rw [e]
      exact node9_wk hi h80 hx rfl (byte_wk (by decide) (by omega)) (hj _ (by simp; omega)) (braced_at (by simp; omega) hq)
end Go.Proofs.YtdmdoikkemfcaabDoor
