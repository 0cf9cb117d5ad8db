/- The path by which one has the right (path, Path). -/
import Derived.WalkKit
import Derived.LoopTactic
import Derived.OwnWalk
import Derived.BigRegion
import Derived.Deep.Cut
import Derived.Maps.AppendAt
import Derived.Test.YtoecomgiggalkaaDoorGraR
namespace Go.Proofs.YtoecomgiggalkaaDoor
open Go.RowKit
set_option maxRecDepth 100000

theorem pathLit_any (u : Int) (U : Nat) (g : Giv) (w : World) (hu : w.cell? ⟨U, 0, none⟩ = some (.int .i64 u)) :
    Calls Tryd.prog 34 #[giv3 g, .pointer (some ⟨U, 0, none⟩)] w fun e w' => e = .returned (.bool (g.to == u)) ∧ Below w.heap.size w w' := by
  obtain ⟨fr, to, tm⟩ := g
  have hB : Below w.heap.size w (w.alloc (.cells #[.int .i64 fr, .int .i64 to, .int .i64 tm] 44)) := (Below.refl _ w).alloc (Nat.le_refl _) _
  have c0 := keep_cell hB hu
  go_enter Tryd.func34, Tryd.ntmps34
  go_wp2
  go_ret
  exact ⟨rfl, hB⟩
set_option maxHeartbeats 1000000 in
theorem gindex_any (a : Option Addr) (m cap : Nat) (l : List Giv) (hm : m ≤ 40) (u : Int) (U : Nat) (w : World) (hat : AtGivs w a m (nthV l)) (hu : w.cell? ⟨U, 0, none⟩ = some (.int .i64 u)) (j : Nat) (hj : j < m) (hej : (nthV l j).to = u) (hnj : ∀ i, i < j → (nthV l i).to ≠ u) :
    Calls Tryd.prog 33 #[.slice a m cap, .func (.func 34) #[] #[.pointer (some ⟨U, 0, none⟩)]] w fun e w' => e = .returned (.int .i64 (j : Nat)) ∧ Below w.heap.size w w' := by
  obtain ⟨b, off, rfl, hs⟩ : ∃ b off, a = some ⟨b, off, none⟩ ∧ Givs w b off m (nthV l) := by
    rcases hat with h0 | h
    · omega
    · exact h
  have HS := Hid.mkI hs
  have HU := Hid.mkI hu
  have HN := Hid.mkI hnj
  have HJ := Hid.mkI hej
  clear hs hu hnj hat hej
  go_enter Tryd.func33, Tryd.ntmps33
  go_wp2
  go_loopw [8] (fun p wr => ∃ k : Nat, k ≤ j ∧ p = .int .i64 k ∧ Below w.heap.size w wr) (fun p _ => j + 1 - (intOf p).toNat)
  case atStart => exact ⟨0, by omega, rfl, Below.refl _ _⟩
  case round =>
    obtain ⟨k, hk, rfl, hB⟩ := hrel
    have hkm : k < m := by omega
    have hkI : (k : Int) < (m : Int) := by omega
    have hs := HS.out.below hB
    have c0 := hs.c0 k hkm
    have c1 := hs.c1 k hkm
    have c2 := hs.c2 k hkm
    have t := pathLit_any u U (nthV l k) wr (keep_cell hB HU.out)
    have HE : Hid (k = j → (nthV l k).to = u) := fun e => by rw [e]; exact HJ.out
    have HF : Hid (k ≠ j → (nthV l k).to ≠ u) := fun e => HN.out k (by omega)
    obtain ⟨g, hg⟩ : ∃ g, nthV l k = g := ⟨_, rfl⟩
    rw [hg] at c0 c1 c2 t HE HF
    clear hg hs
    obtain ⟨fr, to, tm⟩ := g
    by_cases q : k = j
    · have hb : (to == u) = true := by have := HE.out q; simpa using this
      rw [hb] at t
      subst q
      clear HE HF hb
      go_wp2_with fail
      refine t.mono ?_
      clear t
      rintro e w2 ⟨rfl, hB2⟩
      have hB3 := hB.trans (hB2.mono hB.size)
      go_wp2_with fail
      go_ret
      exact ⟨rfl, hB3⟩
    · have hb : (to == u) = false := by have := HF.out q; simpa using this
      rw [hb] at t
      clear HE HF hb
      go_wp2_with fail
      refine t.mono ?_
      clear t
      rintro e w2 ⟨rfl, hB2⟩
      have hB3 := hB.trans (hB2.mono hB.size)
      go_wp2_with fail
      go_roundw
      case rel => exact ⟨k + 1, by omega, by go_num, hB3⟩
      case measure => simp [intOf]; omega
/-- A list of numbers of one's own. -/
def rowQ (q : List Int) : List Value := rowI q.length fun i => q.getD i 0
theorem rowQ_snoc (q : List Int) (x : Int) : rowQ q ++ [.int .i64 x] = rowQ (q ++ [x]) := by
  unfold rowQ
  rw [List.length_append, List.length_singleton, ← rowI_snoc]
  have e1 : (q ++ [x]).getD q.length 0 = x := by simp [List.getD_eq_getElem?_getD]
  rw [e1]
  congr 1
  refine rowI_like fun i hi => ?_
  simp [List.getD_eq_getElem?_getD, List.getElem?_append_left hi]
theorem rowZ_new (w : World) (x : Int) : (w.alloc (.cells #[.int .i64 x] 3)).ownsRow w.heap.size 3 1 (.slice (some ⟨w.heap.size, 0, none⟩) 1 1) 1 (rowQ [x]) :=
  ⟨by simp [rowQ, rowI], .inr ⟨w.heap.size, 1, #[.int .i64 x], rfl, Nat.le_refl _, World.alloc_heap_new w _, by omega, by decide, by simp, by simp [rowQ, rowI]⟩⟩
theorem rowQ_rev (q : List Int) : (rowI q.length fun i => q.getD (q.length - 1 - i) 0) = rowQ q.reverse := by
  unfold rowQ
  rw [List.length_reverse]
  refine rowI_like fun i hi => ?_
  rw [List.getD_eq_getElem?_getD, List.getD_eq_getElem?_getD, List.getElem?_reverse hi]
def lenOf : Value → Nat
  | .slice _ n _ => n
  | _ => 0
/-- Where the path's loop stands. -/
structure AtPath (l : List Giv) (n : Nat) (u0 : Int) (m : Nat) (u : Int) (q : List Int) : Prop where
  le : m ≤ n
  len : q.length + m ≤ n + 1
  pos : 0 < q.length
  nn : 0 ≤ u
  bit : (setL (l.take m)).testBit u.toNat = true
  all : ∃ pre, q = pre ++ [u] ∧ pre ++ dnG l n m u = dnG l n n u0
theorem AtPath.next {users : Int} {l : List Giv} (hr : GOk users l) {u0 : Int} {m : Nat} {u : Int} {q : List Int} (h : AtPath l l.length u0 m u q) (hu : u ≠ 0) :
    ∃ j, j < m ∧ j < l.length ∧ (nthV l j).to = u ∧ (∀ i, i < j → (nthV l i).to ≠ u) ∧ AtPath l l.length u0 j (nthV l j).fr (q ++ [(nthV l j).fr]) := by
  obtain ⟨i1, i2, i3⟩ := has_idx hr h.nn hu h.bit
  have hn := hr.each _ i2
  obtain ⟨pre, hq, ha⟩ := h.all
  refine ⟨idxG l m u, i1, i2, i3, fun i hi => idxG_not hi, by omega, by have := h.len; simp; omega, by simp, hn.f0, hn.bit, q, rfl, ?_⟩
  obtain ⟨k, hk⟩ : ∃ k, l.length = k + 1 := ⟨l.length - 1, by omega⟩
  rw [← ha, hq, hk, dnG_step hu (f := k), dnG_any hr (f := k + 1) (f' := k) (m := idxG l m u) (by omega) (by omega) hn.f0 hn.bit]
  simp
theorem AtPath.ends {l : List Giv} {n m : Nat} {u0 : Int} {q : List Int} (h : AtPath l n u0 m 0 q) : q = dnG l n n u0 := by
  obtain ⟨pre, hq, ha⟩ := h.all
  rw [hq, ← ha, dnG_zero]
set_option maxHeartbeats 4000000 in
theorem gpath_any (users : Int) (a : Option Addr) (cap : Nat) (l : List Giv) (hr : GOk users l) (hcap : l.length ≤ cap) (u : Int) (h0 : 0 ≤ u) (hb : (setL l).testBit u.toNat = true) (w : World) (hat : AtGivs w a l.length (nthV l)) :
    Calls Tryd.prog 27 #[.slice a l.length cap, .int .i64 u] w fun e w' => ∃ v, e = .returned v ∧ Lst w' v (pathL l u).length (fun i => (pathL l u).getD i 0) ∧ Below w.heap.size w w' := by
  obtain ⟨i0, hi0, hz0, hz1, hz2⟩ := info_parts info3i
  have hlen := hr.len
  have HA := Hid.mkI hat
  have HR := Hid.mkI hr
  have hstart : AtPath l l.length u l.length u [u] := ⟨Nat.le_refl _, by simp; omega, by simp, h0, by rw [List.take_length]; exact hb, [], rfl, rfl⟩
  have HSt := Hid.mkI hstart
  have HP : Hid (pathL l u = (dnG l l.length l.length u).reverse) := rfl
  have hbA : Below w.heap.size w (w.alloc (.cells #[.int .i64 u] 3)) := (Below.refl _ w).alloc (Nat.le_refl _) _
  have hrow := rowZ_new (w.alloc (.cells #[.int .i64 u] 3)) u
  have hcU : (w.alloc (.cells #[.int .i64 u] 3)).cell? ⟨w.heap.size, 0, none⟩ = some (.int .i64 u) := by simp [go_sem]
  have hfU : (w.alloc (.cells #[.int .i64 u] 3)).frozen? ⟨w.heap.size, 0, none⟩ = false := by
    have h1 := World.alloc_heap_new w (.cells #[.int .i64 u] 3)
    simp only [World.frozen?]; rw [h1]; simp
  have hsz : (w.alloc (.cells #[.int .i64 u] 3)).heap.size = w.heap.size + 1 := World.size_alloc _ _
  obtain ⟨W1, hW1⟩ : ∃ W, w.alloc (.cells #[.int .i64 u] 3) = W := ⟨_, rfl⟩
  rw [hW1] at hbA hrow hcU hfU hsz
  have hb2 : Below W1.heap.size W1 (W1.alloc (.cells #[.int .i64 u] 3)) := (Below.refl _ W1).alloc (Nat.le_refl _) _
  have hcU2 := keep_cell hb2 hcU
  have hfU2 := (hb2.frozen (p := ⟨w.heap.size, 0, none⟩) (by simp only; omega)).trans hfU
  have hbA2 := hbA.trans (hb2.mono hbA.size)
  rw [hsz] at hrow
  obtain ⟨W2, hW2⟩ : ∃ W, W1.alloc (.cells #[.int .i64 u] 3) = W := ⟨_, rfl⟩
  rw [hW2] at hb2 hcU2 hfU2 hbA2 hrow
  have HI := Hid.mkI (And.intro hrow (And.intro hcU2 (And.intro hfU2 hbA2)))
  clear hat hr hstart hrow hcU2 hfU2 hfU hbA hb2 hbA2 hb
  obtain ⟨n, hn⟩ : ∃ n, l.length = n := ⟨_, rfl⟩
  have HN := Hid.mkI hn
  rw [hn] at hlen hcap ⊢
  clear hn
  go_enter Tryd.func27, Tryd.ntmps27
  go_wp2
  go_loopw [0, 5] (fun s o wr => ∃ (m : Nat) (u' : Int) (q : List Int) (g c : Nat), s = .slice a m cap ∧ o = .slice (some ⟨g, 0, none⟩) q.length c ∧ m ≤ n ∧ q.length ≤ 41 ∧ Hid (AtPath l n u m u' q) ∧ wr.cell? ⟨w.heap.size, 0, none⟩ = some (.int .i64 u') ∧ wr.frozen? ⟨w.heap.size, 0, none⟩ = false ∧ wr.ownsRow (w.heap.size + 1) 3 1 (.slice (some ⟨g, 0, none⟩) q.length c) q.length (rowQ q) ∧ Below w.heap.size w wr) (fun s _ _ => lenOf s)
  case atStart => exact ⟨n, u, [u], w.heap.size + 1, 1, rfl, rfl, by omega, by simp, by have := HSt.out; rw [HN.out] at this; exact this, HI.out.2.1, HI.out.2.2.1, HI.out.1, HI.out.2.2.2⟩
  case round =>
    obtain ⟨m, u', q, g, c, rfl, rfl, hm, hq41, HP1, cU, fU, hown, hB⟩ := hrel
    by_cases hu : u' = 0
    · subst hu
      have hend : Hid (q = dnG l n n u) := HP1.out.ends
      have hpos := HP1.out.pos
      have t := greverse_any (w.heap.size + 1) g c q.length (fun i => q.getD i 0) wr hpos (by omega) hown
      rw [rowQ_rev] at t
      have HF : Hid (pathL l u = q.reverse) := by show _ = _; rw [HP.out, hend.out, HN.out]
      clear hown hend HP1 HI HSt HA
      go_wp2_with fail
      refine t.mono ?_
      clear t
      rintro e w3 ⟨⟨x, rfl⟩, hown3, hB3⟩
      have hBw := hB.trans (hB3.mono (Nat.le_succ _))
      have hL : Lst w3 (.slice (some ⟨g, 0, none⟩) q.length c) q.reverse.length (fun i => q.reverse.getD i 0) := by
        have h : w3.ownsRow (w.heap.size + 1) 3 1 (.slice (some ⟨g, 0, none⟩) q.length c) q.reverse.length (rowI q.reverse.length fun i => q.reverse.getD i 0) := by
          have e : rowQ q.reverse = rowI q.reverse.length fun i => q.reverse.getD i 0 := rfl
          rw [← e, List.length_reverse]; exact hown3
        exact lst_of_row h
      have HL := Hid.mkI hL
      clear hL hown3
      go_wp2_with fail
      go_ret
      exact ⟨_, rfl, by rw [HF.out]; exact HL.out, hBw⟩
    · obtain ⟨j, j1, j2, j3, j4, hA2⟩ := AtPath.next HR.out (by rw [HN.out]; exact HP1.out) hu
      obtain ⟨b, off, rfl, hs⟩ : ∃ b off, a = some ⟨b, off, none⟩ ∧ Givs wr b off n (nthV l) := by
        rcases HA.out with h0 | ⟨b, off, e, h⟩
        · omega
        · rw [HN.out] at h; exact ⟨b, off, e, h.below hB⟩
      have hatm : AtGivs wr (some ⟨b, off, none⟩) m (nthV l) := AtGivs.mono (n := n) (.inr ⟨b, off, rfl, hs⟩) hm
      have t := gindex_any (some ⟨b, off, none⟩) m cap l (by omega) u' w.heap.size wr hatm cU j j1 j3 j4
      have HS := Hid.mkI hs
      have hjn : j < n := by omega
      have hA2 : Hid (AtPath l n u j (nthV l j).fr (q ++ [(nthV l j).fr])) := by rw [← HN.out]; exact hA2
      have hqn := HP1.out.len
      have huB : ((u' : Int) != 0) = true := by simp [hu]
      obtain ⟨fr, hfr⟩ : ∃ x, (nthV l j).fr = x := ⟨_, rfl⟩
      rw [hfr] at hA2
      have hB0 := hB.size
      clear hatm hs j2 j3 j4 HI HSt HP1
      go_wp2_with fail
      refine t.mono ?_
      clear t
      rintro e w4 ⟨rfl, hB4⟩
      have hB5 := hB.trans (hB4.mono hB.size)
      have hUl : w.heap.size < wr.heap.size := World.block_lt_of_cell? wr ⟨w.heap.size, 0, none⟩ cU
      have cU4 := keep_cell hB4 cU
      have fU4 := (hB4.frozen (p := ⟨w.heap.size, 0, none⟩) hUl).trans fU
      have hown4 := gOwnStays hown hB4
      have d0 := (HS.out.below hB4).c0 j hjn
      rw [hfr] at d0
      have hown5 := gOwnDrew (ownsRow_setCell_below hown4 (a := ⟨w.heap.size, 0, none⟩) (Nat.lt_succ_self _) (.int .i64 fr))
      have hB6 := (hB5.setCell (p := ⟨w.heap.size, 0, none⟩) (Nat.le_refl _) (.int .i64 fr)).drew
      have cU5 : ((w4.setCell ⟨w.heap.size, 0, none⟩ (.int .i64 fr)).drew).cell? ⟨w.heap.size, 0, none⟩ = some (.int .i64 fr) := World.cell?_setCell_same' _ _ _ (by rw [cU4]; rfl)
      have fU5 : ((w4.setCell ⟨w.heap.size, 0, none⟩ (.int .i64 fr)).drew).frozen? ⟨w.heap.size, 0, none⟩ = false := (World.frozen?_setCell _ _ _ _).trans fU4
      have hUl5 : w.heap.size < ((w4.setCell ⟨w.heap.size, 0, none⟩ (.int .i64 fr)).drew).heap.size := World.block_lt_of_cell? _ ⟨w.heap.size, 0, none⟩ cU5
      have hjm : (j : Int) < (m : Int) := by omega
      have hjc : (j : Int) ≤ (cap : Int) := by omega
      have hjm' : j < m := j1
      have hjm' : j < m := j1
      have HQ : Hid ((q ++ [fr]).length = q.length + 1) := by show _ = _; rw [List.length_append]; rfl
      have hql : q.length + 1 ≤ maxLen := by unfold maxLen; omega
      have hqb : (q.length + 1) * 8 ≤ 140737488355328 := by omega
      have hq40 : q.length ≤ 40 := by omega
      obtain ⟨W5, hW5⟩ : ∃ W, (w4.setCell ⟨w.heap.size, 0, none⟩ (.int .i64 fr)).drew = W := ⟨_, rfl⟩
      rw [hW5] at hown5 hB6 cU5 fU5 hUl5
      have hbase : ∀ o, w.heap.size + 1 ≤ (W5.alloc o).heap.size := fun o => by rw [World.size_alloc]; omega
      have hone : ∀ u ∈ [Value.int .i64 fr], u.oneCell' = true := by intro u hu; rw [List.mem_singleton.1 hu]; rfl
      have HC5 : Hid (∀ o w6, (W5.alloc o).grownBy w6 (Value.ownBlock (.slice (some ⟨g, 0, none⟩) q.length c)) → w6.cell? ⟨w.heap.size, 0, none⟩ = some (.int .i64 fr) ∧ w6.frozen? ⟨w.heap.size, 0, none⟩ = false ∧ Below w.heap.size w w6) := fun o w6 hg => by
        have hk := (Below.refl W5.heap.size W5).alloc (Nat.le_refl _) o
        have hne : some w.heap.size ≠ Value.ownBlock (.slice (some ⟨g, 0, none⟩) q.length c) := fun e => by have h := (hown5.lt _ e.symm).1; omega
        have hlt : w.heap.size < (W5.alloc o).heap.size := Nat.lt_of_lt_of_le hUl5 hk.size
        exact ⟨(hg.cell_far ⟨w.heap.size, 0, none⟩ hlt hne).trans ((hk.cell (p := ⟨w.heap.size, 0, none⟩) hUl5).trans cU5), (hg.frozen_far ⟨w.heap.size, 0, none⟩ hlt hne).trans ((hk.frozen (p := ⟨w.heap.size, 0, none⟩) hUl5).trans fU5), (hB6.alloc hB6.size o).grown hg (Nat.le_of_lt hlt) fun k hk => by have := (hown5.lt k hk).1; omega⟩
      clear hB hB4 hB5 cU fU hown hown4 hB0 hUl hfr j1
      go_upto_region 4 with fail
      go_region
      all_goals
        go_wp2_with (at_builtin; refine wpList_append_own _ rfl _ _ 31 rfl (w.heap.size + 1) 3 i0 (.int .i64 0) 1 8 Tryd.underlying31 hi0 hz0 hz1 hz2 rfl (by decide) _ q.length _ rfl (hown5.alloc _) ⟨_, 0, none⟩ 1 1 [.int .i64 fr] rfl rfl (cell_one_new _ _ _) hone hql hqb (hbase _) ?_; intro v6 w6 hown6 hg6 _; rw [rowQ_snoc] at hown6; obtain ⟨g6, c6, rfl⟩ := grow_someK hown6 (by omega))
        go_roundw
        case rel => exact ⟨j, fr, q ++ [fr], g6, c6, rfl, by rw [HQ.out], by omega, by rw [HQ.out]; omega, hA2, (HC5.out _ _ hg6).1, (HC5.out _ _ hg6).2.1, by rw [HQ.out]; exact hown6, (HC5.out _ _ hg6).2.2⟩
        case measure => exact hjm'
end Go.Proofs.YtoecomgiggalkaaDoor
