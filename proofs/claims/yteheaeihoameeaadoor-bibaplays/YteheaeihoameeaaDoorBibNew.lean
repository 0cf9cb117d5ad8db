/- What a new monitor of package biba is (New). -/
import Derived.WalkKit
import Derived.LoopTactic
import Derived.Deep.LoopGhost
import Derived.Deep.AppendLies
import Derived.Test.YteheaeihoameeaaDoorBibMon
namespace Go.Proofs.YteheaeihoameeaaDoor
open Go.RowKit
set_option maxRecDepth 100000

/-- Users or files in a row, as they lie in memory: each level twice. -/
def rowT (zs : List Int) : Nat → List Value
  | 0 => []
  | k + 1 => rowT zs k ++ [.int .i64 (zs[k]?.getD 0), .int .i64 (zs[k]?.getD 0)]
theorem rowT_len (zs : List Int) (n : Nat) : (rowT zs n).length = n * 2 := by
  induction n with
  | zero => rfl
  | succ k ih => simp only [rowT, List.length_append, ih, List.length_cons, List.length_nil]; omega
theorem rowT_get (zs : List Int) {n i : Nat} (h : i < n) (j : Nat) (hj : j < 2) : (rowT zs n)[i * 2 + j]? = some (.int .i64 (zs[i]?.getD 0)) := by
  induction n with
  | zero => omega
  | succ k ih =>
    have hl := rowT_len zs k
    rw [rowT]
    by_cases e : i = k
    · subst e
      rw [List.getElem?_append_right (by omega), hl, show i * 2 + j - i * 2 = j by omega]
      rcases (show j = 0 ∨ j = 1 by omega) with rfl | rfl <;> rfl
    · rw [List.getElem?_append_left (by omega)]
      exact ih (by omega)
theorem biInfoU : (Tryd.prog.info? 82).map (fun i => (i.zero, i.size, i.bytes)) = some (some (.agg #[.int .i64 0, .int .i64 0]), 2, 16) := by kernel_rfl
theorem biInfoF : (Tryd.prog.info? 84).map (fun i => (i.zero, i.size, i.bytes)) = some (some (.agg #[.int .i64 0, .int .i64 0]), 2, 16) := by kernel_rfl
theorem bmon_of {W : World} {n0 B F n m : Nat} {v v' : Value} {zs ys : List Int} {e e' : TypeId} (h0 : n0 ≤ B) (hX : Boxes W B v v') (hu : W.ownsRow (B + 1) e 2 v n (rowT zs n)) (hf : W.ownsRow F e' 2 v' m (rowT ys m)) (hF : B + 1 ≤ F) (hv : ∀ j, v.ownBlock = some j → j < F) (hz : AllLev n zs) (hy : AllLev m ys) :
    ∃ au af gu gf cu cf, BMon n0 W.heap.size B au af gu gf cu cf W (newBib n m zs ys) := by
  obtain ⟨au, gu, cu, rfl, qu⟩ := row_form hu
  obtain ⟨af, gf, cf, rfl, qf⟩ := row_form hf
  have cu' := fun i (hi : i < n) j (hj : j < 2) => (qu (by omega)).2.2.1 (i * 2 + j) _ (rowT_get zs hi j hj)
  have ru' := fun i (hi : i < n) j (hj : j < 2) => (qu (by omega)).2.2.2 (i * 2 + j) _ (rowT_get zs hi j hj)
  have cf' := fun i (hi : i < m) j (hj : j < 2) => (qf (by omega)).2.2.1 (i * 2 + j) _ (rowT_get ys hi j hj)
  have rf' := fun i (hi : i < m) j (hj : j < 2) => (qf (by omega)).2.2.2 (i * 2 + j) _ (rowT_get ys hi j hj)
  have cz := fun i (hi : i < n) => (lev_cast (hz i hi)).1
  have cy := fun i (hi : i < m) => (lev_cast (hy i hi)).1
  refine ⟨au, af, gu, gf, cu, cf, hX.c0, hX.c1, h0, fun h => ?_, fun h => ?_, fun h h' => ?_, fun i hi => ?_, fun i hi => ?_, fun i hi => ?_, fun i hi => ?_, fun i hi => ?_, fun i hi => ?_, fun i hi => ?_⟩
  · have q := qu h
    exact ⟨q.1, by omega, by omega, old_of_cell (cu' 0 h 0 (by omega))⟩
  · have q := qf h
    exact ⟨q.1, by omega, by omega, old_of_cell (cf' 0 h 0 (by omega))⟩
  · have q := qu h
    have q' := qf h'
    have := hv gu (by rw [q.1]; rfl)
    omega
  · have q := cu' i hi 0 (by omega)
    rw [Nat.add_zero, cz i hi] at q
    exact q
  · have q := cu' i hi 1 (by omega)
    rw [cz i hi] at q
    exact q
  · have q := ru' i hi 0 (by omega)
    rw [Nat.add_zero] at q
    exact q
  · exact ru' i hi 1 (by omega)
  · have q := cf' i hi 0 (by omega)
    rw [Nat.add_zero, cy i hi] at q
    exact q
  · have q := cf' i hi 1 (by omega)
    rw [cy i hi] at q
    exact q
  · exact rf' i hi 1 (by omega)

set_option maxHeartbeats 80000000 in
theorem biNew_walk (a1 a2 : Option Addr) (n c1 m c2 : Nat) (zs ys : List Int) (hn : n ≤ 8) (hm : m ≤ 8) (w : World) (h1 : AtNums w a1 n zs) (h2 : AtNums w a2 m ys) (hz : AllLev n zs) (hy : AllLev m ys) :
    Calls Tryd.prog 16 #[.slice a1 n c1, .slice a2 m c2] w fun e w' => ∃ B au af gu gf cu cf, e = .returned (.tuple #[.pointer (some ⟨B, 0, none⟩), .nilIface]) ∧ BMon w.heap.size w'.heap.size B au af gu gf cu cf w' (newBib n m zs ys) ∧ Below w.heap.size w w' := by
  have t1 := biCheck_ok a1 n c1 zs hn hz w h1
  have t2 := biCheck_ok a2 m c2 ys hm hy w h2
  obtain ⟨i0, hi0, hz0, hz1, hz2⟩ := info_parts biInfoU
  have hX := Boxes.new w (.slice none 0 0) (.slice none 0 0) 80
  have hB0 : Below w.heap.size w (w.alloc (.cells #[.slice none 0 0, .slice none 0 0] 80)) := (Below.refl _ w).alloc (Nat.le_refl _) _
  go_enter Tryd.func16, Tryd.ntmps16
  go_wp2_with (first | (go_at_call 39; refine t1.mono ?_; clear t1; rintro e w1 ⟨rfl, hw⟩; obtain rfl := hw.symm) | (go_at_call 39; refine t2.mono ?_; clear t2; rintro e w2 ⟨rfl, hw⟩; obtain rfl := hw.symm))
  go_loopg [27] n (fun g i wr => ∃ (k : Nat) (v : Value), k ≤ n ∧ g = n - k ∧ i = .int .i64 k ∧ Boxes wr w.heap.size v (.slice none 0 0) ∧ wr.ownsRow (w.heap.size + 1) 82 2 v k (rowT zs k) ∧ Below w.heap.size w wr)
  case atStart => exact ⟨0, _, by omega, rfl, rfl, hX, World.ownsRow_nil _ _ _ _, hB0⟩
  case round =>
    clear hX hB0
    obtain ⟨k, v, hk, rfl, rfl, hX, hown, hB⟩ := hrel
    by_cases hlt : k < n
    · as_aux_lemma =>
      have hlt' : (k : Int) < (n : Int) := by omega
      rcases h1 with h1 | ⟨b, off, rfl, hl⟩
      · omega
      have e1 := (hB.cell (p := ⟨b, off + k, none⟩) hl.old).trans (hl.cell k hlt)
      have HR : rowT zs (k + 1) = rowT zs k ++ [.int .i64 (zs[k]?.getD 0), .int .i64 (zs[k]?.getD 0)] := rfl
      obtain ⟨lx, hlx⟩ : ∃ x, zs[k]?.getD 0 = x := ⟨_, rfl⟩
      rw [hlx] at e1 HR
      have HR' := Hid.mkI HR
      clear hlx HR
      obtain ⟨xs, hxs⟩ : ∃ x, rowT zs k = x := ⟨_, rfl⟩
      rw [hxs] at hown HR'
      clear hxs
      have lb : b < wr.heap.size := Nat.lt_of_lt_of_le hl.old hB.size
      have lX := hX.lt
      obtain ⟨x0, x1, r0, r1⟩ := id hX
      have hne := row_apart hown (Nat.lt_succ_self _)
      have hb1 : k + 1 ≤ maxLen := by unfold maxLen; omega
      have hb2 : (k + 1) * 16 ≤ 140737488355328 := by omega
      go_wp2_with (at_builtin; refine wpList_append_lies _ rfl _ _ _ rfl (w.heap.size + 1) 82 i0 _ 2 16 Tryd.underlying77 hi0 hz0 hz1 hz2 rfl (by omega) v k xs rfl (hown.alloc _) ⟨wr.heap.size, 0, none⟩ 1 1 [.int .i64 lx, .int .i64 lx] rfl rfl (World.news_of_block (heap_alloc_new wr _)) (by simp [Value.oneCell']) (by omega) hb1 hb2 (by simp; omega) (wr.heap.size + 1) (by simp) ?_; intro gg cap w3 hown1 hgrow hat hlt2; have hX3 := (hX.alloc _).grown hgrow hne; obtain ⟨x30, x31, r30, r31⟩ := id hX3)
      go_roundg (n - (k + 1))
      case measure => omega
      case rel => exact ⟨k + 1, _, by omega, rfl, by go_num, hX3.put0 _, by rw [HR'.out]; exact ownsRow_setCell_below hown1 (Nat.lt_succ_self _) _, (((hB.alloc hB.size _).grown hgrow (by simp; have := hB.size; omega) (fun j q => by have := (hown.lt j q).1; omega)).setCell (Nat.le_refl _) _)⟩
    · have hge : (n : Int) ≤ (k : Int) := by omega
      obtain rfl : k = n := by omega
      clear hi0 hz0 hz1 hz2 h1 hlt i0 hk
      obtain ⟨i0, hi0, hz0, hz1, hz2⟩ := info_parts biInfoF
      have hv : ∀ j, v.ownBlock = some j → j < wr.heap.size := fun j q => (hown.lt j q).2
      have hF : w.heap.size + 1 ≤ wr.heap.size := hX.lt
      go_wp2
      obtain ⟨wf, rfl⟩ : ∃ wf, wf = wr := ⟨_, rfl⟩
      go_loopg [46] m (fun g i wr => ∃ (q : Nat) (v' : Value), q ≤ m ∧ g = m - q ∧ i = .int .i64 q ∧ Boxes wr w.heap.size v v' ∧ wr.ownsRow (w.heap.size + 1) 82 2 v k (rowT zs k) ∧ wr.ownsRow wf.heap.size 84 2 v' q (rowT ys q) ∧ Below w.heap.size w wr ∧ wf.heap.size ≤ wr.heap.size)
      case atStart => exact ⟨0, _, by omega, rfl, rfl, hX, hown, World.ownsRow_nil _ _ _ _, hB, Nat.le_refl _⟩
      case round =>
        clear hX hown hB
        obtain ⟨q, v', hq, rfl, rfl, hX, hown, hrow, hB, hsz⟩ := hrel
        by_cases hlt : q < m
        · as_aux_lemma =>
          have hlt' : (q : Int) < (m : Int) := by omega
          rcases h2 with h2 | ⟨b, off, rfl, hl⟩
          · omega
          have e1 := (hB.cell (p := ⟨b, off + q, none⟩) hl.old).trans (hl.cell q hlt)
          have HR : rowT ys (q + 1) = rowT ys q ++ [.int .i64 (ys[q]?.getD 0), .int .i64 (ys[q]?.getD 0)] := rfl
          obtain ⟨lx, hlx⟩ : ∃ x, ys[q]?.getD 0 = x := ⟨_, rfl⟩
          rw [hlx] at e1 HR
          have HR' := Hid.mkI HR
          clear hlx HR
          obtain ⟨xs, hxs⟩ : ∃ x, rowT ys q = x := ⟨_, rfl⟩
          rw [hxs] at hrow HR'
          clear hxs
          have lb : b < wr.heap.size := Nat.lt_of_lt_of_le hl.old hB.size
          have lX := hX.lt
          obtain ⟨x0, x1, r0, r1⟩ := id hX
          have hne := row_apart hrow (B := w.heap.size) (by omega)
          have hvn : v.ownBlock = none ∨ v.ownBlock ≠ v'.ownBlock := by
            cases hvb : v.ownBlock with
            | none => exact .inl rfl
            | some j => exact .inr fun q => by have h1 := hv j hvb; have h2 := (hrow.lt j q.symm).1; omega
          have hb1 : q + 1 ≤ maxLen := by unfold maxLen; omega
          have hb2 : (q + 1) * 16 ≤ 140737488355328 := by omega
          go_wp2_with (at_builtin; refine wpList_append_lies _ rfl _ _ _ rfl wf.heap.size 84 i0 _ 2 16 Tryd.underlying78 hi0 hz0 hz1 hz2 rfl (by omega) v' q xs rfl (hrow.alloc _) ⟨wr.heap.size, 0, none⟩ 1 1 [.int .i64 lx, .int .i64 lx] rfl rfl (World.news_of_block (heap_alloc_new wr _)) (by simp [Value.oneCell']) (by omega) hb1 hb2 (by simp; omega) (wr.heap.size + 1) (by simp) ?_; intro gg cap w3 hown1 hgrow hat hlt2; have hX3 := (hX.alloc _).grown hgrow hne; obtain ⟨x30, x31, r30, r31⟩ := id hX3)
          go_roundg (m - (q + 1))
          case measure => omega
          case rel => exact ⟨q + 1, _, by omega, rfl, by go_num, hX3.put1 _, ownsRow_setCell_below ((hown.alloc _).kept hgrow hvn) (Nat.lt_succ_self _) _, by rw [HR'.out]; exact ownsRow_setCell_below hown1 (by simp; omega) _, (((hB.alloc hB.size _).grown hgrow (by simp; have := hB.size; omega) (fun j q => by have := (hrow.lt j q).1; omega)).setCell (Nat.le_refl _) _), by simp; have := hgrow.size; simp at this; omega⟩
        · have hge2 : (m : Int) ≤ (q : Int) := by omega
          obtain rfl : q = m := by omega
          obtain ⟨au, af, gu, gf, cu, cf, hM⟩ := bmon_of (Nat.le_refl _) hX hown hrow hF hv hz hy
          clear hi0 hz0 hz1 hz2 hX hown hrow
          go_wp2
          go_ret2
          exact ⟨w.heap.size, au, af, gu, gf, cu, cf, rfl, hM, hB⟩
theorem biNew_bad1 (a1 a2 : Option Addr) (n c1 m c2 : Nat) (c : Int) (w : World) (t : Calls Tryd.prog 39 #[.slice a1 n c1, .int .i64 8] w fun e w' => e = .returned (.iface 63 (.int .i64 c)) ∧ w' = w) :
    Calls Tryd.prog 16 #[.slice a1 n c1, .slice a2 m c2] w fun e w' => e = .returned (.tuple #[.pointer none, .iface 63 (.int .i64 c)]) ∧ w' = w := by
  go_enter Tryd.func16, Tryd.ntmps16
  go_wp2_with (go_at_call 39; refine t.mono ?_; rintro e w1 ⟨rfl, rfl⟩)
  go_ret2
  exact ⟨rfl, rfl⟩
theorem biNew_bad2 (a1 a2 : Option Addr) (n c1 m c2 : Nat) (c : Int) (w : World) (t1 : Calls Tryd.prog 39 #[.slice a1 n c1, .int .i64 8] w fun e w' => e = .returned .nilIface ∧ w' = w)
    (t2 : Calls Tryd.prog 39 #[.slice a2 m c2, .int .i64 8] w fun e w' => e = .returned (.iface 63 (.int .i64 c)) ∧ w' = w) :
    Calls Tryd.prog 16 #[.slice a1 n c1, .slice a2 m c2] w fun e w' => e = .returned (.tuple #[.pointer none, .iface 63 (.int .i64 c)]) ∧ w' = w := by
  go_enter Tryd.func16, Tryd.ntmps16
  go_wp2_with (first | (go_at_call 39; refine t1.mono ?_; clear t1; rintro e w1 ⟨rfl, rfl⟩) | (go_at_call 39; refine t2.mono ?_; clear t2; rintro e w2 ⟨rfl, rfl⟩))
  go_ret2
  exact ⟨rfl, rfl⟩
/-- What a new monitor is, or what is wrong. -/
def BNewIs (a1 a2 : Option Addr) (n c1 m c2 : Nat) (zs ys : List Int) (w : World) : Prop :=
  (∃ c : Int, c ≠ 0 ∧ ((levCode n zs c) ∨ (levCode n zs 0 ∧ levCode m ys c)) ∧ ∀ W, Below w.heap.size w W → Calls Tryd.prog 16 #[.slice a1 n c1, .slice a2 m c2] W fun e w' => e = .returned (.tuple #[.pointer none, .iface 63 (.int .i64 c)]) ∧ w' = W) ∨
  (n ≤ 8 ∧ m ≤ 8 ∧ AllLev n zs ∧ AllLev m ys ∧ ∀ W, Below w.heap.size w W → Calls Tryd.prog 16 #[.slice a1 n c1, .slice a2 m c2] W fun e w' => ∃ B au af gu gf cu cf, e = .returned (.tuple #[.pointer (some ⟨B, 0, none⟩), .nilIface]) ∧ BMon W.heap.size w'.heap.size B au af gu gf cu cf w' (newBib n m zs ys) ∧ Below W.heap.size W w')
theorem levs_told (a : Option Addr) (n c : Nat) (zs : List Int) (w : World) (h : AtNums w a n zs) :
    (n ≤ 8 ∧ AllLev n zs ∧ ∀ W, Below w.heap.size w W → Calls Tryd.prog 39 #[.slice a n c, .int .i64 8] W fun e w' => e = .returned .nilIface ∧ w' = W) ∨
    ∃ x : Int, x ≠ 0 ∧ levCode n zs x ∧ ∀ W, Below w.heap.size w W → Calls Tryd.prog 39 #[.slice a n c, .int .i64 8] W fun e w' => e = .returned (.iface 63 (.int .i64 x)) ∧ w' = W := by
  by_cases hn : 8 < n
  · exact .inr ⟨4, by decide, .inl ⟨rfl, hn⟩, fun W _ => biCheck_full a n c hn W⟩
  · rcases allLev_or n zs with hz | hz
    · exact .inl ⟨by omega, hz, fun W b => biCheck_ok a n c zs (by omega) hz W (h.below b)⟩
    · exact .inr ⟨1, by decide, .inr (.inr ⟨rfl, by omega, hz⟩), fun W b => biCheck_no a n c zs (by omega) hz W (h.below b)⟩
theorem biNew_is (a1 a2 : Option Addr) (n c1 m c2 : Nat) (zs ys : List Int) (w : World) (h1 : AtNums w a1 n zs) (h2 : AtNums w a2 m ys) : BNewIs a1 a2 n c1 m c2 zs ys w := by
  rcases levs_told a1 n c1 zs w h1 with ⟨hn, hz, t1⟩ | ⟨c, hc, hl, t1⟩
  · rcases levs_told a2 m c2 ys w h2 with ⟨hm, hy, _⟩ | ⟨c, hc, hl, t2⟩
    · exact .inr ⟨hn, hm, hz, hy, fun W b => biNew_walk a1 a2 n c1 m c2 zs ys hn hm W (h1.below b) (h2.below b) hz hy⟩
    · exact .inl ⟨c, hc, .inr ⟨.inr (.inl ⟨rfl, hn, hz⟩), hl⟩, fun W b => biNew_bad2 a1 a2 n c1 m c2 c W (t1 W b) (t2 W b)⟩
  · exact .inl ⟨c, hc, .inl hl, fun W b => biNew_bad1 a1 a2 n c1 m c2 c W (t1 W b)⟩
end Go.Proofs.YteheaeihoameeaaDoor
