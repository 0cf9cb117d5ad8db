/- The value of a node, as the document has it (Value). -/
import Derived.WalkKit
import Derived.LoopTactic
import Derived.OwnWalk
import Derived.Test.YtahdbhehaoeemaaDoorRunA
import Derived.Test.YtahdbhehaoeemaaDoorProG
import Derived.Test.YtahdbhehaoeemaaDoorLst
namespace Go.Proofs.YtahdbhehaoeemaaDoor
open Go.RowKit
set_option maxRecDepth 100000
set_option linter.unusedVariables false

theorem nod_cells5 {w : World} {a : Option Addr} {n i : Nat} {S : Nat → Nod} (h : AtNods w a n S) (hi : i < n) {x : Nod} (e : S i = x) : ∃ b off, a = some ⟨b, off, none⟩ ∧ b < w.heap.size ∧ w.cell? ⟨b, off + i * 5, none⟩ = some (.int .i64 x.kd) ∧ w.cell? ⟨b, off + i * 5 + 1, none⟩ = some (.int .i64 x.num) ∧ w.cell? ⟨b, off + i * 5 + 2, none⟩ = some (.int .i64 x.pa) ∧ w.cell? ⟨b, off + i * 5 + 3, none⟩ = some (.int .i64 x.pb) ∧ w.cell? ⟨b, off + i * 5 + 4, none⟩ = some (.int .i64 x.pc) := by
  subst e
  rcases h with h | ⟨b, off, e, h⟩
  · omega
  · exact ⟨b, off, e, h.old, h.c0 i hi, h.c1 i hi, h.c2 i hi, h.c3 i hi, h.c4 i hi⟩
theorem nods_five {w : World} {b off n i : Nat} {S : Nat → Nod} (h : Nods w b off n S) (hi : i < n) {x : Nod} (e : S i = x) : w.cell? ⟨b, off + i * 5, none⟩ = some (.int .i64 x.kd) ∧ w.cell? ⟨b, off + i * 5 + 1, none⟩ = some (.int .i64 x.num) ∧ w.cell? ⟨b, off + i * 5 + 2, none⟩ = some (.int .i64 x.pa) ∧ w.cell? ⟨b, off + i * 5 + 3, none⟩ = some (.int .i64 x.pb) ∧ w.cell? ⟨b, off + i * 5 + 4, none⟩ = some (.int .i64 x.pc) := by
  subst e
  exact ⟨h.c0 i hi, h.c1 i hi, h.c2 i hi, h.c3 i hi, h.c4 i hi⟩
theorem refValue_any {l : List Nod} (hG : Good l) {a : Option Addr} {cp : Nat} {v : Value} {s : Nat → Int} (hs : Bnd6 s) : ∀ (m i : Nat), i < m → i < l.length → (nthD l i).kd < 5 → ∀ (w : World), AtNods w a l.length (nthD l) → Lst w v 6 s →
    Calls Tryd.prog 16 #[.slice a l.length cp, .int .i64 (i : Int), v] w fun e w' => e = .returned (.int .i64 (vl l i s)) ∧ Below w.heap.size w w'
  | 0, _, h, _, _, _, _, _ => absurd h (by omega)
  | m + 1, i, him, hi, h5, w, hat, hl => by
    have hkd := hG.kd hi
    have h80 := hG.r.few
    obtain ⟨x, hx⟩ : ∃ x, nthD l i = x := ⟨_, rfl⟩
    obtain ⟨b, off, rfl, hb, z0, z1, z2, z3, z4⟩ := nod_cells5 hat hi hx
    have hB : Below w.heap.size w (w.alloc (.cells #[.int .i64 x.kd, .int .i64 x.num, .int .i64 x.pa, .int .i64 x.pb, .int .i64 x.pc] 37)) := (Below.refl _ w).alloc (Nat.le_refl _) _
    have hc := fun j u h => by
      have := cell_five_new w x 37 j u h
      rw [Go.WideShapes.add_plain, Nat.zero_add] at this
      exact this
    have d0 := hc 0 _ rfl
    have d1 := hc 1 _ rfl
    have d2 := hc 2 _ rfl
    have d3 := hc 3 _ rfl
    by_cases h2 : 2 ≤ x.kd ∧ x.kd ≤ 4
    · obtain ⟨p, q, ep, eq, hp, hq, kp, kq⟩ := hG.two hi (by rw [hx]; exact h2)
      have hv := vl_two (s := s) hG.r.wf hi (by rw [hx]; exact h2)
      rw [ep, eq, Int.toNat_natCast, Int.toNat_natCast] at hv
      rw [hx] at ep eq hv
      have t1 := fun w' (k : Below w.heap.size w w') => refValue_any hG (a := some ⟨b, off, none⟩) (cp := cp) hs m p (by omega) (by omega) kp w' (hat.below k) (hl.below k)
      have t2 := fun w' (k : Below w.heap.size w w') => refValue_any hG (a := some ⟨b, off, none⟩) (cp := cp) hs m q (by omega) (by omega) kq w' (hat.below k) (hl.below k)
      have b1 := vlE_bnd hG.r hs (p + 1) p (by omega)
      have b2 := vlE_bnd hG.r hs (q + 1) q (by omega)
      change 0 ≤ vl l p s ∧ vl l p s ≤ 999999 at b1
      change 0 ≤ vl l q s ∧ vl l q s ≤ 999999 at b2
      rw [hv]
      obtain ⟨y, hy⟩ : ∃ y, vl l p s = y := ⟨_, rfl⟩
      obtain ⟨z, hz⟩ : ∃ z, vl l q s = z := ⟨_, rfl⟩
      rw [hy] at t1 b1 ⊢
      rw [hz] at t2 b2 ⊢
      obtain ⟨n, hn⟩ : ∃ n, l.length = n := ⟨_, rfl⟩
      rw [hn] at t1 t2 hi h80 ⊢
      have hiI : (i : Int) < (n : Int) := by omega
      have hnI : (n : Int) ≤ 80 := by omega
      obtain ⟨b11, b12⟩ := b1
      obtain ⟨b21, b22⟩ := b2
      obtain ⟨kd, num, pa, pb, pc⟩ := x
      simp only at ep eq d0 d1 d2 d3 z0 z1 z2 z3 z4 hB h2 ⊢
      subst ep; subst eq
      clear hv hy hz hn hx hat hl hc hG hs hkd h5 hp hq kp kq him
      obtain ⟨wx, hwx⟩ : ∃ W, w.alloc (.cells #[.int .i64 kd, .int .i64 num, .int .i64 (p : Int), .int .i64 (q : Int), .int .i64 pc] 37) = W := ⟨_, rfl⟩
      rw [hwx] at hB d0 d1 d2 d3
      obtain ⟨r, hr⟩ : ∃ r, opV kd y z = r := ⟨_, rfl⟩
      rw [hr]
      unfold opV at hr
      obtain rfl | rfl | rfl : kd = 2 ∨ kd = 3 ∨ kd = 4 := by omega
      · rw [if_pos rfl] at hr
        by_cases hc : 999999 < y + z
        · rw [if_pos hc] at hr
          have HR := Hid.mkI hr
          clear hr
          go_enter Tryd.func16, Tryd.ntmps16
          go_wp2_with (first | (go_at_call 16; (with_reducible refine (t1 _ hB).mono ?_); clear t1; rintro e w1 ⟨rfl, hB1⟩; have hB2 := hB.trans (hB1.mono hB.size); have d0 := keep_cell hB1 d0; have d3 := keep_cell hB1 d3) | (go_at_call 16; (with_reducible refine (t2 _ hB2).mono ?_); clear t2; rintro e w2 ⟨rfl, hB3⟩; have hB4 := hB2.trans (hB3.mono hB2.size); have d0 := keep_cell hB3 d0))
          go_ret
          exact ⟨by rw [← HR.out]; go_num, hB4⟩
        · rw [if_neg hc] at hr
          have HR := Hid.mkI hr
          clear hr
          go_enter Tryd.func16, Tryd.ntmps16
          go_wp2_with (first | (go_at_call 16; (with_reducible refine (t1 _ hB).mono ?_); clear t1; rintro e w1 ⟨rfl, hB1⟩; have hB2 := hB.trans (hB1.mono hB.size); have d0 := keep_cell hB1 d0; have d3 := keep_cell hB1 d3) | (go_at_call 16; (with_reducible refine (t2 _ hB2).mono ?_); clear t2; rintro e w2 ⟨rfl, hB3⟩; have hB4 := hB2.trans (hB3.mono hB2.size); have d0 := keep_cell hB3 d0))
          go_ret
          exact ⟨by rw [← HR.out]; go_num, hB4⟩
      · rw [if_neg (by decide)] at hr
        by_cases hc : y < z
        · rw [if_pos (.inl ⟨rfl, hc⟩)] at hr
          subst hr
          go_enter Tryd.func16, Tryd.ntmps16
          go_wp2_with (first | (go_at_call 16; (with_reducible refine (t1 _ hB).mono ?_); clear t1; rintro e w1 ⟨rfl, hB1⟩; have hB2 := hB.trans (hB1.mono hB.size); have d0 := keep_cell hB1 d0; have d3 := keep_cell hB1 d3) | (go_at_call 16; (with_reducible refine (t2 _ hB2).mono ?_); clear t2; rintro e w2 ⟨rfl, hB3⟩; have hB4 := hB2.trans (hB3.mono hB2.size); have d0 := keep_cell hB3 d0))
          go_ret
          exact ⟨rfl, hB4⟩
        · rw [if_neg (by omega)] at hr
          subst hr
          go_enter Tryd.func16, Tryd.ntmps16
          go_wp2_with (first | (go_at_call 16; (with_reducible refine (t1 _ hB).mono ?_); clear t1; rintro e w1 ⟨rfl, hB1⟩; have hB2 := hB.trans (hB1.mono hB.size); have d0 := keep_cell hB1 d0; have d3 := keep_cell hB1 d3) | (go_at_call 16; (with_reducible refine (t2 _ hB2).mono ?_); clear t2; rintro e w2 ⟨rfl, hB3⟩; have hB4 := hB2.trans (hB3.mono hB2.size); have d0 := keep_cell hB3 d0))
          go_ret
          exact ⟨rfl, hB4⟩
      · rw [if_neg (by decide)] at hr
        by_cases hc : y = z
        · rw [if_pos (.inr ⟨rfl, hc⟩)] at hr
          subst hr; subst hc
          go_enter Tryd.func16, Tryd.ntmps16
          go_wp2_with (first | (go_at_call 16; (with_reducible refine (t1 _ hB).mono ?_); clear t1; rintro e w1 ⟨rfl, hB1⟩; have hB2 := hB.trans (hB1.mono hB.size); have d0 := keep_cell hB1 d0; have d3 := keep_cell hB1 d3) | (go_at_call 16; (with_reducible refine (t2 _ hB2).mono ?_); clear t2; rintro e w2 ⟨rfl, hB3⟩; have hB4 := hB2.trans (hB3.mono hB2.size); have d0 := keep_cell hB3 d0))
          go_ret
          exact ⟨rfl, hB4⟩
        · rw [if_neg (by omega)] at hr
          subst hr
          have hcI : (y == z) = false := by simpa using hc
          go_enter Tryd.func16, Tryd.ntmps16
          go_wp2_with (first | (go_at_call 16; (with_reducible refine (t1 _ hB).mono ?_); clear t1; rintro e w1 ⟨rfl, hB1⟩; have hB2 := hB.trans (hB1.mono hB.size); have d0 := keep_cell hB1 d0; have d3 := keep_cell hB1 d3) | (go_at_call 16; (with_reducible refine (t2 _ hB2).mono ?_); clear t2; rintro e w2 ⟨rfl, hB3⟩; have hB4 := hB2.trans (hB3.mono hB2.size); have d0 := keep_cell hB3 d0))
          go_ret
          exact ⟨rfl, hB4⟩
    · rw [hx] at h5 hkd
      have hiI : (i : Int) < (l.length : Int) := by omega
      have hnI : (l.length : Int) ≤ 80 := by omega
      by_cases h0 : x.kd = 0
      · rw [vl_num (by rw [hx]; exact h0), hx]
        obtain ⟨kd, num, pa, pb, pc⟩ := x
        simp only at d0 d1 d2 d3 z0 z1 z2 z3 z4 hB h0 ⊢
        subst h0
        clear hG hs hat hl hc hx
        obtain ⟨n, hn⟩ : ∃ n, l.length = n := ⟨_, rfl⟩
        rw [hn] at hiI hnI ⊢
        clear hn
        go_enter Tryd.func16, Tryd.ntmps16
        go_wp2
        go_ret
        exact ⟨rfl, hB⟩
      · have h1 : x.kd = 1 := by omega
        obtain ⟨k, ek, hk6⟩ := hG.var hi (.inl (by rw [hx]; exact h1))
        rw [vl_var (by rw [hx]; exact h1), ek, Int.toNat_natCast]
        rw [hx] at ek
        obtain ⟨av, cv, rfl, hlv⟩ := hl
        obtain ⟨bv, ov, rfl, hbv, hcv⟩ := hlv.resolve_left (by omega)
        have cv1 := hcv k hk6
        have cv2 := keep_cell hB cv1
        have hkI : (k : Int) < 6 := by omega
        obtain ⟨y, hy⟩ : ∃ y, s k = y := ⟨_, rfl⟩
        rw [hy] at cv1 cv2 ⊢
        obtain ⟨kd, num, pa, pb, pc⟩ := x
        simp only at d0 d1 d2 d3 z0 z1 z2 z3 z4 hB h1 ek cv2 ⊢
        subst h1; subst ek
        clear hG hs hat hc hx hcv hy
        obtain ⟨n, hn⟩ : ∃ n, l.length = n := ⟨_, rfl⟩
        rw [hn] at hiI hnI ⊢
        clear hn
        go_enter Tryd.func16, Tryd.ntmps16
        go_wp2
        go_ret
        exact ⟨rfl, hB⟩
end Go.Proofs.YtahdbhehaoeemaaDoor
