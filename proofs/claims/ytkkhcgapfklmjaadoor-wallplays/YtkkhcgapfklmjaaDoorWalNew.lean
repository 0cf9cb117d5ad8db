/- What a new wall is (New). -/
import Derived.WalkKit
import Derived.LoopTactic
import Derived.Deep.LoopGhost
import Derived.Deep.Cut
import Derived.Deep.RegionLaw
import Derived.Deep.AppendLies
import Derived.Deep.DrawnRows
import Derived.Test.YtkkhcgapfklmjaaDoorWalSaw
namespace Go.Proofs.YtkkhcgapfklmjaaDoor
open Go.RowKit
attribute [local go_sem ↓] Go.wp_at_zero Go.wp_at_succ
set_option maxRecDepth 100000

/-- Firms in a row, as they lie in memory: a trade, and what its files hold. -/
def rowW (zs : List Int) : Nat → List Value
  | 0 => []
  | k + 1 => rowW zs k ++ [.int .i64 (zs[k]?.getD 0), .int .i64 ((2 ^ k : Nat) : Int)]
theorem rowW_len (zs : List Int) (n : Nat) : (rowW zs n).length = n * 2 := by
  induction n with
  | zero => rfl
  | succ k ih => simp only [rowW, List.length_append, ih, List.length_cons, List.length_nil]; omega
theorem rowW_get (zs : List Int) {n i : Nat} (h : i < n) : (rowW zs n)[i * 2]? = some (.int .i64 (zs[i]?.getD 0)) ∧ (rowW zs n)[i * 2 + 1]? = some (.int .i64 ((2 ^ i : Nat) : Int)) := by
  induction n with
  | zero => omega
  | succ k ih =>
    have hl := rowW_len zs k
    rw [rowW]
    by_cases e : i = k
    · subst e
      rw [List.getElem?_append_right (by omega), List.getElem?_append_right (by omega), hl, show i * 2 - i * 2 = 0 by omega, show i * 2 + 1 - i * 2 = 1 by omega]
      exact ⟨rfl, rfl⟩
    · rw [List.getElem?_append_left (by omega), List.getElem?_append_left (by omega)]
      exact ih (by omega)
theorem waInfo : (Tryd.prog.info? 48).map (fun i => (i.zero, i.size, i.bytes)) = some (some (.agg #[.int .i64 0, .int .i64 0]), 2, 16) := by kernel_rfl
theorem Own.grown {W W' : World} {B m : Nat} {f : Nat → Nat} {row : Option Nat} (h : Own W B m f) (hg : W.grownBy W' row) (hne : some B ≠ row) : Own W' B m f :=
  ⟨Nat.lt_of_lt_of_le h.lt hg.size, fun j hj => (hg.cell_far ⟨B, j, none⟩ h.lt hne).trans (h.cell j hj), fun j hj => (hg.frozen_far ⟨B, j, none⟩ h.lt hne).trans (h.free j hj)⟩
theorem Own.far {W : World} {B m X o : Nat} {f : Nat → Nat} (h : Own W B m f) (hX : B ≠ X) (v : Value) : Own (W.setCell ⟨X, o, none⟩ v) B m f :=
  ⟨Nat.lt_of_lt_of_le h.lt ((Below.refl 0 W).setCell (p := ⟨X, o, none⟩) (Nat.zero_le _) v).size, fun j hj => (cell_far fun e => hX e.1).trans (h.cell j hj), fun j hj => (World.frozen?_setCell _ _ _ _).trans (h.free j hj)⟩
theorem wmon_of {W : World} {n0 n m : Nat} {v : Value} {zs : List Int} {e : TypeId} (hX : Boxes W (n0 + 1) (.slice (some ⟨n0, 0, none⟩) n n) v) (ho : Own W n0 n (fun _ => 0)) (hf : W.ownsRow (n0 + 2) e 2 v m (rowW zs m)) (hz : AllLev m zs) :
    ∃ au af gu gf cu cf, WMon n0 W.heap.size (n0 + 1) au af gu gf cu cf W (newWall n m zs) := by
  obtain ⟨af, gf, cf, rfl, qf⟩ := row_form hf
  have cz := fun i (hi : i < m) => (lev_cast (hz i hi)).1
  refine ⟨_, af, n0, gf, n, cf, hX.c0, hX.c1, by omega, fun _ => ⟨rfl, Nat.le_refl _, by omega, ho.lt⟩, fun h => ?_, fun _ h => ?_, fun i hi => ho.cell i hi, fun i hi => ho.free i hi, fun i hi => ?_, fun i hi => ?_, fun i hi => ?_⟩
  · have q := qf h
    exact ⟨q.1, by omega, by omega, old_of_cell (q.2.2.1 _ _ (rowW_get zs h).1)⟩
  · have q := qf h
    omega
  · have q := (qf (by simp only [newWall] at hi; omega)).2.2.1 _ _ (rowW_get zs hi).1
    rw [cz i hi] at q
    exact q
  · exact (qf (by simp only [newWall] at hi; omega)).2.2.1 _ _ (rowW_get zs hi).2
  · exact (qf (by simp only [newWall] at hi; omega)).2.2.2 _ _ (rowW_get zs hi).2
set_option maxHeartbeats 8000000 in
theorem waNew_walk (a : Option Addr) (n m c : Nat) (zs : List Int) (hn : n ≤ 8) (hm : m ≤ 8) (w : World) (h : AtNums w a m zs) (hz : AllLev m zs)
    (t : Calls Tryd.prog 17 #[.int .i64 (n : Int), .slice a m c] w fun e w' => e = .returned .nilIface ∧ w' = w) :
    Calls Tryd.prog 8 #[.int .i64 (n : Int), .slice a m c] w fun e w' => ∃ B au af gu gf cu cf, e = .returned (.tuple #[.pointer (some ⟨B, 0, none⟩), .nilIface]) ∧ WMon w.heap.size w'.heap.size B au af gu gf cu cf w' (newWall n m zs) ∧ Below w.heap.size w w' := by
  obtain ⟨i0, hi0, hz0, hz1, hz2⟩ := info_parts waInfo
  have hmk := make_any w n (by omega)
  have hmd := Own.made w n
  have hBm : Below w.heap.size w (w.alloc (.cells (madeCells #[.int .i64 0] n) 3)) := (Below.refl _ w).alloc (Nat.le_refl _) _
  have hms : (w.alloc (.cells (madeCells #[.int .i64 0] n) 3)).heap.size = w.heap.size + 1 := by simp
  obtain ⟨w1, hw1⟩ : ∃ x, w.alloc (.cells (madeCells #[.int .i64 0] n) 3) = x := ⟨_, rfl⟩
  rw [hw1] at hmk hmd hBm hms
  clear hw1
  have hX := Boxes.new w1 (.slice (some ⟨w.heap.size, 0, none⟩) n n) (.slice none 0 0) 46
  rw [hms] at hX
  have hB0 : Below w.heap.size w (w1.alloc (.cells #[.slice (some ⟨w.heap.size, 0, none⟩) n n, .slice none 0 0] 46)) := hBm.alloc hBm.size _
  have hO0 := hmd.below ((Below.refl _ w1).alloc (Nat.le_refl _) (.cells #[.slice (some ⟨w.heap.size, 0, none⟩) n n, .slice none 0 0] 46))
  go_enter Tryd.func8, Tryd.ntmps8
  go_wp2_with (go_at_call 17; refine t.mono ?_; clear t; rintro e w1 ⟨rfl, hw⟩; obtain rfl := hw.symm)
  go_loopg [22] m (fun g i wr => ∃ (k : Nat) (v : Value), k ≤ m ∧ g = m - k ∧ i = .int .i64 k ∧ Boxes wr (w.heap.size + 1) (.slice (some ⟨w.heap.size, 0, none⟩) n n) v ∧ Own wr w.heap.size n (fun _ => 0) ∧ wr.ownsRow (w.heap.size + 2) 48 2 v k (rowW zs k) ∧ Below w.heap.size w wr)
  case atStart => exact ⟨0, _, by omega, rfl, rfl, hX, hO0, World.ownsRow_nil _ _ _ _, hB0⟩
  case round =>
    clear hX hB0 hO0 hmk hmd hBm
    obtain ⟨k, v, hk, rfl, rfl, hX, hO, hown, hB⟩ := hrel
    by_cases hlt : k < m
    · have hlt' : (k : Int) < (m : Int) := by omega
      rcases h with h | ⟨b, off, rfl, hl⟩
      · omega
      have e1 := (hB.cell (p := ⟨b, off + k, none⟩) hl.old).trans (hl.cell k hlt)
      have HR : rowW zs (k + 1) = rowW zs k ++ [.int .i64 (zs[k]?.getD 0), .int .i64 ((2 ^ k : Nat) : Int)] := rfl
      have hpj := pow_wrapJ (a := k) (by omega)
      obtain ⟨lx, hlx⟩ : ∃ x, zs[k]?.getD 0 = x := ⟨_, rfl⟩
      obtain ⟨px, hpx⟩ : ∃ x, 2 ^ k = x := ⟨_, rfl⟩
      rw [hlx] at e1 HR
      rw [hpx] at HR hpj
      have HR' := Hid.mkI HR
      clear hlx HR hpx
      obtain ⟨xs, hxs⟩ : ∃ x, rowW zs k = x := ⟨_, rfl⟩
      rw [hxs] at hown HR'
      clear hxs
      have lb : b < wr.heap.size := Nat.lt_of_lt_of_le hl.old hB.size
      have lX := hX.lt
      obtain ⟨x0, x1, r0, r1⟩ := id hX
      have hne := row_apart hown (B := w.heap.size + 1) (by omega)
      have hne0 := row_apart hown (B := w.heap.size) (by omega)
      have hb1 : k + 1 ≤ maxLen := by unfold maxLen; omega
      have hb2 : (k + 1) * 16 ≤ 140737488355328 := by omega
      go_wp2
      go_region_law ((refine step_append_lies _ (by rfl) _ _ _ (by rfl) (w.heap.size + 2) 48 i0 _ 2 16 Tryd.underlying44 hi0 hz0 hz1 hz2 rfl (by omega) v k xs (by rfl) ((hown.alloc _).drew) ⟨wr.heap.size, 0, none⟩ 1 1 [.int .i64 lx, .int .i64 (px : Int)] (by rfl) (by rfl) (World.news_of_block (heap_alloc_new wr _)) (by simp [Value.oneCell']) (by omega) hb1 hb2 (by simp; omega) (wr.heap.size + 1) (by simp) ?_; intro gg cap w3 hown1 hgrow hat hlt2; have hX3 := ((hX.alloc _).drew).grown hgrow hne; obtain ⟨x30, x31, r30, r31⟩ := id hX3))
      all_goals
        go_wp2
        go_roundg (m - (k + 1))
        case measure => omega
        case rel => exact ⟨k + 1, _, by omega, rfl, by go_num, hX3.put1 _, Own.far (Own.grown (hO.below ((Below.refl _ wr).alloc (Nat.le_refl _) _).drew) hgrow hne0) (by omega) _, by rw [HR'.out]; exact ownsRow_setCell_below hown1 (by simp) _, ((((hB.alloc hB.size _).drew).grown hgrow (by simp; have := hB.size; omega) (fun j q => by have := (hown.lt j q).1; omega)).setCell (by simp) _)⟩
    · have hge : (m : Int) ≤ (k : Int) := by omega
      obtain rfl : k = m := by omega
      obtain ⟨au, af, gu, gf, cu, cf, hM⟩ := wmon_of hX hO hown hz
      clear hi0 hz0 hz1 hz2 hX hown hO
      go_wp2
      go_ret2
      exact ⟨w.heap.size + 1, au, af, gu, gf, cu, cf, rfl, hM, hB⟩
theorem waNew_bad (a : Option Addr) (u : Int) (m c : Nat) (x : Int) (w : World) (t : Calls Tryd.prog 17 #[.int .i64 u, .slice a m c] w fun e w' => e = .returned (.iface 50 (.int .i64 x)) ∧ w' = w) :
    Calls Tryd.prog 8 #[.int .i64 u, .slice a m c] w fun e w' => e = .returned (.tuple #[.pointer none, .iface 50 (.int .i64 x)]) ∧ w' = w := by
  go_enter Tryd.func8, Tryd.ntmps8
  go_wp2_with (go_at_call 17; refine t.mono ?_; rintro e w1 ⟨rfl, rfl⟩)
  go_ret2
  exact ⟨rfl, rfl⟩
/-- What a new wall is, or what is wrong. -/
def WNewIs (a : Option Addr) (u : Int) (m c : Nat) (zs : List Int) (w : World) : Prop :=
  (∃ x : Int, x ≠ 0 ∧ wallCode u m zs x ∧ ∀ W, Below w.heap.size w W → Calls Tryd.prog 8 #[.int .i64 u, .slice a m c] W fun e w' => e = .returned (.tuple #[.pointer none, .iface 50 (.int .i64 x)]) ∧ w' = W) ∨
  (∃ n : Nat, u = n ∧ n ≤ 8 ∧ m ≤ 8 ∧ AllLev m zs ∧ ∀ W, Below w.heap.size w W → Calls Tryd.prog 8 #[.int .i64 (n : Int), .slice a m c] W fun e w' => ∃ B au af gu gf cu cf, e = .returned (.tuple #[.pointer (some ⟨B, 0, none⟩), .nilIface]) ∧ WMon W.heap.size w'.heap.size B au af gu gf cu cf w' (newWall n m zs) ∧ Below W.heap.size W w')
theorem waNew_is (a : Option Addr) (u : Int) (m c : Nat) (zs : List Int) (w : World) (h : AtNums w a m zs) : WNewIs a u m c zs w := by
  rcases waCheck_told a m c u zs w h with ⟨h0, h8, hm, hz, t⟩ | ⟨x, hx, hc, t⟩
  · obtain ⟨n, rfl⟩ := Int.eq_ofNat_of_zero_le h0
    exact .inr ⟨n, rfl, by omega, hm, hz, fun W b => waNew_walk a n m c zs (by omega) hm W (h.below b) hz (t W b)⟩
  · exact .inl ⟨x, hx, hc, fun W b => waNew_bad a u m c x W (t W b)⟩
end Go.Proofs.YtkkhcgapfklmjaaDoor
