/- A vertex more (grow), and a graph's copy (copied). -/
import Derived.WalkKit
import Derived.LoopTactic
import Derived.OwnWalk
import Derived.Maps.AppendAt
import Derived.Test.YtdmdoikkemfcaaaDoorTakHand
namespace Go.Proofs.YtdmdoikkemfcaaaDoor
open Go.RowKit
set_option maxRecDepth 100000

theorem infoRow : (Tryd.prog.info? 34).map (fun i => (i.zero, i.size, i.bytes)) = some (some (.slice none 0 0), 1, 24) := by kernel_rfl
theorem makeI_any (w : World) (m : Nat) (hm : m ≤ 1048576) : (Instr.makeSlice 34 (.int .i64 m) (.int .i64 m)).run Tryd.prog w = .ok (.slice (some ⟨w.heap.size, 0, none⟩) m m) (w.alloc (.cells (madeCells #[.int .i64 0] m) 3)) := by
  obtain ⟨i0, hi, hz0, hz1, hz2⟩ := info_parts info3i
  have := run_make (P := Tryd.prog) w 34 3 i0 (.int .i64 0) Tryd.underlying34 hi hz0 .i64 .i64 m m (by omega) (by omega) (by rw [hz2]; omega) (by omega)
  simpa [hz1, Value.cells] using this
theorem makeR_any (w : World) (m : Nat) (hm : m ≤ 1048576) : (Instr.makeSlice 22 (.int .i64 m) (.int .i64 m)).run Tryd.prog w = .ok (.slice (some ⟨w.heap.size, 0, none⟩) m m) (w.alloc (.cells (madeCells #[.slice none 0 0] m) 34)) := by
  obtain ⟨i0, hi, hz0, hz1, hz2⟩ := info_parts infoRow
  have := run_make (P := Tryd.prog) w 22 34 i0 (.slice none 0 0) Tryd.underlying22 hi hz0 .i64 .i64 m m (by omega) (by omega) (by rw [hz2]; omega) (by omega)
  simpa [hz1, Value.cells] using this
theorem made_rowI (w : World) (base m : Nat) (hb : base ≤ w.heap.size) (hm : m ≤ 1048576) : (w.alloc (.cells (madeCells #[.int .i64 0] m) 3)).ownsRow base 3 1 (.slice (some ⟨w.heap.size, 0, none⟩) m m) m (rowI m fun _ => ((0 : Nat) : Int)) := by
  have h := World.ownsRow_lit (base := base) (e := 3) (size := 1) w (madeCells #[.int .i64 0] m) m hb (by unfold maxLen; omega) (by rw [size_madeCells]; omega)
  rw [toList_madeCells_one] at h
  have e : rowI m (fun _ => ((0 : Nat) : Int)) = List.replicate m (.int .i64 0) := by
    unfold rowI
    refine List.ext_getElem? fun j => ?_
    by_cases hj : j < m <;> simp [hj]
  rw [e]; exact h
theorem OwnG.likeL {base b cap n : Nat} {C K L L' : Nat → Nat} {F : Nat → Nat → Nat} {w : World} (h : OwnG base w b cap n C K L F) (e : ∀ i, i < n → L i = L' i) : OwnG base w b cap n C K L' F :=
  ⟨by
    have he : ((List.range n).map fun i => Value.slice (some ⟨C i, 0, none⟩) (L i) (K i)) = (List.range n).map fun i => Value.slice (some ⟨C i, 0, none⟩) (L' i) (K i) := by
      refine List.map_congr_left fun j hj => ?_
      rw [e j (List.mem_range.1 hj)]
    rw [← he]; exact h.out, fun i hi => by rw [← e i hi]; exact h.row i hi, h.ne, h.inj⟩
theorem row_some {w : World} {base e n : Nat} {v : Value} {xs : List Value} (h : w.ownsRow base e 1 v n xs) (hn : 0 < n) : ∃ g cap, v = .slice (some ⟨g, 0, none⟩) n cap := by
  obtain ⟨_, ⟨_, h0⟩ | ⟨g, cap, _, hv, _⟩⟩ := h
  · omega
  · exact ⟨g, cap, hv⟩

theorem grow_full (a : Option Addr) (n cap : Nat) (hn : n = 20) (x : Int) (w : World) :
    Calls Tryd.prog 58 #[.slice a n cap, .int .i64 x] w fun e w' => e = .returned (.tuple #[.slice none 0 0, .iface 54 (.int .i64 4)]) ∧ w' = w := by
  subst hn
  go_enter Tryd.func58, Tryd.ntmps58
  go_wp2
  go_ret2
  exact ⟨rfl, rfl⟩
set_option maxHeartbeats 1000000 in
theorem grow_any {base b cap : Nat} {C K : Nat → Nat} {g : Gr} {w : World} (hO : OwnGr base w b cap C K g) (ok : g.Ok) (hbase : base ≤ w.heap.size) (who : Nat) (hw : who < g.n) (hn : g.n ≠ 20) :
    Calls Tryd.prog 58 #[.slice (some ⟨b, 0, none⟩) g.n cap, .int .i64 who] w fun e w' => ∃ b' cap' C' K', e = .returned (.tuple #[.slice (some ⟨b', 0, none⟩) (g.n + 1) cap', .nilIface]) ∧ OwnGr base w' b' cap' C' K' ⟨g.n + 1, growM g.M g.n who⟩ ∧ Below base w w' := by
  have hle := ok.le
  obtain ⟨i0, hi0, hz0, hz1, hz2⟩ := info_parts info3i
  obtain ⟨j0, hj0, hy0, hy1, hy2⟩ := info_parts infoRow
  have Hout : Hid (∀ i, g.M i g.n = 0) := fun i => ok.out i g.n (.inr (Nat.le_refl _))
  have Hrow : Hid (∀ j, g.M g.n j = 0) := fun j => ok.out g.n j (.inl (Nat.le_refl _))
  obtain ⟨n, M⟩ := g
  simp only at hO hw hn hle Hout Hrow ⊢
  clear ok
  have hb20 : ((n : Int) == 20) = false := by simpa using (show (n : Int) ≠ 20 by omega)
  go_enter Tryd.func58, Tryd.ntmps58
  go_wp2
  go_loopw [13] (fun p wr => ∃ (k : Nat) (C K : Nat → Nat), k ≤ n ∧ p = .int .i64 k ∧ OwnG base wr b cap n C K (fun i => if i < k then n + 1 else n) M ∧ Below base w wr) (fun p _ => n - (intOf p).toNat)
  case atStart => exact ⟨0, C, K, by omega, rfl, hO.likeL fun i _ => by simp, Below.refl _ _⟩
  case round =>
    obtain ⟨k, C, K, hk, rfl, hO, hBr⟩ := hrel
    by_cases hlt : k < n
    · have a1 := hO.top hlt
      have a2 := hO.free k
      have hrow := hO.row k hlt
      simp only [Nat.lt_irrefl, if_false] at a1 hrow
      have hbw : base ≤ wr.heap.size := Nat.le_trans hbase hBr.size
      have hOa := hO.below ((Below.refl _ wr).alloc (Nat.le_refl _) (.cells #[.int .i64 0] 3))
      have hBa := hBr.alloc hbw (.cells #[.int .i64 0] 3)
      have hone : ∀ u ∈ [Value.int .i64 (0 : Int)], u.oneCell' = true := by intro u hu; rw [List.mem_singleton.1 hu]; rfl
      have hc4 : n + 1 ≤ maxLen := by unfold maxLen; omega
      have hc5 : (n + 1) * 8 ≤ 140737488355328 := by omega
      have hb3 : base ≤ (wr.alloc (.cells #[.int .i64 0] 3)).heap.size := by simp; omega
      have hws : (wr.alloc (.cells #[.int .i64 0] 3)).heap.size = wr.heap.size + 1 := by simp
      have hrowa := hrow.alloc (.cells #[.int .i64 0] 3)
      have hfix : ∀ v' w3, w3.ownsRow base 3 1 v' (n + 1) (rowI n (fun j => (M k j : Int)) ++ [.int .i64 0]) → (wr.alloc (.cells #[.int .i64 0] 3)).grownBy w3 (Value.ownBlock (.slice (some ⟨C k, 0, none⟩) n (K k))) → (v'.ownBlock = Value.ownBlock (.slice (some ⟨C k, 0, none⟩) n (K k)) ∨ v'.ownBlock = some (wr.alloc (.cells #[.int .i64 0] 3)).heap.size) →
          ∃ c' k', v' = .slice (some ⟨c', 0, none⟩) (n + 1) k' ∧ w3.cell? ⟨b, k, none⟩ = some (.slice (some ⟨C k, 0, none⟩) n (K k)) ∧ w3.frozen? ⟨b, k, none⟩ = false ∧ OwnG base (w3.setCell ⟨b, k, none⟩ (.slice (some ⟨c', 0, none⟩) (n + 1) k')) b cap n (upd C k c') (upd K k k') (fun i => if i < k + 1 then n + 1 else n) M ∧ Below base w (w3.setCell ⟨b, k, none⟩ (.slice (some ⟨c', 0, none⟩) (n + 1) k')) := by
        intro v' w3 ho hg hat
        obtain ⟨c', k', rfl⟩ := row_some ho (by omega)
        have hcC := (hOa.ltR hlt).1
        have hB3 : Below base w w3 := hBa.grown hg hb3 (fun q hq => by cases hq; exact hcC)
        have hne := hOa.ne k hlt
        have hlb := hOa.lt
        have f1 := (hg.cell (a := ⟨b, k, none⟩) (v := .slice (some ⟨C k, 0, none⟩) n (K k)) (by have := hOa.top hlt; simp only [Nat.lt_irrefl, if_false] at this; exact this) (fun q => hne (by cases q; rfl)))
        have f2 := (hg.frozen_far ⟨b, k, none⟩ hlb.2 (fun q => hne (by cases q; rfl))).trans (hOa.free k)
        have he : rowI n (fun j => (M k j : Int)) ++ [.int .i64 0] = rowI (n + 1) fun j => (M k j : Int) := by
          rw [← rowI_snoc, Hout.out k]; rfl
        rw [he] at ho
        have hP := hOa.putTop hlt hg ho (by
          rcases hat with h | h
          · exact .inl (Option.some.inj h)
          · exact .inr (by have h2 : c' = (wr.alloc (.cells #[.int .i64 0] 3)).heap.size := Option.some.inj h; omega))
        refine ⟨c', k', rfl, f1, f2, ?_, hB3.setCell (p := ⟨b, k, none⟩) hlb.1 _⟩
        refine (hP.likeL fun i hi => ?_).like fun i j hi hj => ?_
        · by_cases e : i = k
          · subst e; rw [upd_same, if_pos (by omega)]
          · rw [upd_other _ e]
            by_cases h2 : i < k
            · rw [if_pos h2, if_pos (by omega)]
            · rw [if_neg h2, if_neg (by omega)]
        · by_cases e : i = k
          · subst e; rw [if_pos rfl]
          · rw [if_neg e]
      have HFix := Hid.mkI hfix
      clear hfix
      go_wp2_with (at_builtin; refine wpList_append_own_at _ rfl _ _ 34 rfl base 3 i0 (.int .i64 0) 1 8 Tryd.underlying34 hi0 hz0 hz1 hz2 rfl (by decide) _ n (rowI n fun j => (M k j : Int)) rfl hrowa ⟨_, 0, none⟩ 1 1 [.int .i64 0] rfl rfl (cell_one_new _ _ _) hone hc4 hc5 hb3 ?_; intro v' w3 hown' hgrow hnil hat; obtain ⟨c', k', rfl, f1, f2, hOn, hBn⟩ := HFix.out v' w3 hown' hgrow hat)
      go_roundw
      case rel => exact ⟨k + 1, _, _, by omega, by go_num, hOn, hBn⟩
      case measure => simp [intOf]; omega
    · obtain rfl : k = n := by omega
      have hO := hO.likeL (L' := fun _ => k + 1) fun i hi => if_pos hi
      have a1 := hO.top hw
      have a2 := hO.cell hw (j := k) (by simp)
      have a3 := hO.freeR hw k
      have hP := hO.put hw (j := k) (by simp) 3
      have hBp := hBr.setCell (p := ⟨C who, k, none⟩) (hO.ltR hw).1 (.int .i64 ((3 : Nat) : Int))
      obtain ⟨x, hx⟩ : ∃ x, M who k = x := ⟨_, rfl⟩
      rw [hx] at a2
      clear hx
      obtain ⟨w2, hw2⟩ : ∃ x, wr.setCell ⟨C who, k, none⟩ (.int .i64 ((3 : Nat) : Int)) = x := ⟨_, rfl⟩
      rw [hw2] at hP hBp
      have hw2' : wr.setCell ⟨C who, k, none⟩ (.int .i64 3) = w2 := hw2
      clear hw2 hO
      have hbw : base ≤ w2.heap.size := Nat.le_trans hbase hBp.size
      have hmk := makeI_any w2 (k + 1) (by omega)
      rw [show ((k + 1 : Nat) : Int) = (k : Int) + 1 by omega] at hmk
      have hmr := made_rowI w2 base (k + 1) hbw (by omega)
      have hPm := hP.below ((Below.refl _ w2).alloc (Nat.le_refl _) (.cells (madeCells #[.int .i64 0] (k + 1)) 3))
      have hBm := hBp.alloc hbw (.cells (madeCells #[.int .i64 0] (k + 1)) 3)
      have hms : (w2.alloc (.cells (madeCells #[.int .i64 0] (k + 1)) 3)).heap.size = w2.heap.size + 1 := by simp
      obtain ⟨w3, hw3⟩ : ∃ x, w2.alloc (.cells (madeCells #[.int .i64 0] (k + 1)) 3) = x := ⟨_, rfl⟩
      rw [hw3] at hmk hmr hPm hBm hms
      clear hw3
      have hb3 : base ≤ w3.heap.size := by omega
      have hrow1 := hmr.alloc (.cells #[.slice (some ⟨w2.heap.size, 0, none⟩) (k + 1) (k + 1)] 34)
      have hP1 := hPm.below ((Below.refl _ w3).alloc (Nat.le_refl _) (.cells #[.slice (some ⟨w2.heap.size, 0, none⟩) (k + 1) (k + 1)] 34))
      have hB1 := hBm.alloc hb3 (.cells #[.slice (some ⟨w2.heap.size, 0, none⟩) (k + 1) (k + 1)] 34)
      have hs1 : (w3.alloc (.cells #[.slice (some ⟨w2.heap.size, 0, none⟩) (k + 1) (k + 1)] 34)).heap.size = w3.heap.size + 1 := by simp
      have hone : ∀ u ∈ [Value.slice (some ⟨w2.heap.size, 0, none⟩) (k + 1) (k + 1)], u.oneCell' = true := by intro u hu; rw [List.mem_singleton.1 hu]; rfl
      have hc4 : k + 1 ≤ maxLen := by unfold maxLen; omega
      have hc5 : (k + 1) * 24 ≤ 140737488355328 := by omega
      have hb4 : base ≤ (w3.alloc (.cells #[.slice (some ⟨w2.heap.size, 0, none⟩) (k + 1) (k + 1)] 34)).heap.size := by omega
      have hlow : b < w2.heap.size ∧ ∀ i, i < k → C i < w2.heap.size := ⟨hP.lt.2, fun i hi => (hP.ltR hi).2⟩
      have Hlow := Hid.mkI hlow
      clear hlow
      have hfix : ∀ v' w5, w5.ownsRow base 34 1 v' (k + 1) ((List.range k).map (fun i => Value.slice (some ⟨C i, 0, none⟩) (k + 1) (K i)) ++ [.slice (some ⟨w2.heap.size, 0, none⟩) (k + 1) (k + 1)]) → (w3.alloc (.cells #[.slice (some ⟨w2.heap.size, 0, none⟩) (k + 1) (k + 1)] 34)).grownBy w5 (Value.ownBlock (.slice (some ⟨b, 0, none⟩) k cap)) → (v'.ownBlock = Value.ownBlock (.slice (some ⟨b, 0, none⟩) k cap) ∨ v'.ownBlock = some (w3.alloc (.cells #[.slice (some ⟨w2.heap.size, 0, none⟩) (k + 1) (k + 1)] 34)).heap.size) →
          ∃ b' cap' C' K', v' = .slice (some ⟨b', 0, none⟩) (k + 1) cap' ∧ OwnGr base w5 b' cap' C' K' ⟨k + 1, growM M k who⟩ ∧ Below base w w5 := by
        intro v' w5 ho hg hat
        obtain ⟨b', cap', rfl⟩ := row_some ho (by omega)
        have hB5 : Below base w w5 := hB1.grown hg hb4 (fun q hq => by cases hq; exact hP.lt.1)
        have hN := hP1.push hrow1 (by have := Hlow.out.1; omega) (fun i hi => by have := Hlow.out.2 i hi; omega) ho hg (by
          rcases hat with h | h
          · exact .inl (Option.some.inj h)
          · exact .inr (Option.some.inj h))
        refine ⟨b', cap', upd C k w2.heap.size, upd K k (k + 1), rfl, ?_, hB5⟩
        refine (hN.likeL fun i hi => ?_).like fun i j hi hj => ?_
        · unfold upd; split <;> rfl
        · simp only [growM]
          by_cases e : i = k
          · subst e
            rw [if_pos rfl, if_neg (by omega), Hrow.out j]
          · rw [if_neg e]
      have hcn := cell_one_new w3 (.slice (some ⟨w2.heap.size, 0, none⟩) (k + 1) (k + 1)) 34
      rw [hms] at hcn
      have HFix := Hid.mkI hfix
      clear hfix hrow1 hB1 hBm hPm hmr hP hBp
      go_wp2_with (at_builtin; refine wpList_append_own_at _ rfl _ _ 22 rfl base 34 j0 (.slice none 0 0) 1 24 Tryd.underlying22 hj0 hy0 hy1 hy2 rfl (by decide) _ k ((List.range k).map fun i => Value.slice (some ⟨C i, 0, none⟩) (k + 1) (K i)) rfl hP1.out ⟨_, 0, none⟩ 1 1 [.slice (some ⟨w2.heap.size, 0, none⟩) (k + 1) (k + 1)] rfl rfl hcn hone hc4 hc5 hb4 ?_; intro v' w5 hown' hgrow hnil hat; obtain ⟨b', cap', C', K', rfl, hOn, hBn⟩ := HFix.out v' w5 hown' hgrow hat)
      go_ret2
      exact ⟨b', cap', C', K', rfl, hOn, hBn⟩
end Go.Proofs.YtdmdoikkemfcaaaDoor
