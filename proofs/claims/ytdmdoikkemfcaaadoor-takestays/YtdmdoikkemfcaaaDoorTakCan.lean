/- Whether a vertex can come to a right (findChain, Can). -/
import Derived.WalkKit
import Derived.LoopTactic
import Derived.Lib.SliceRun
import Derived.Laws.Cover3
import Derived.Test.YtdmdoikkemfcaaaDoorTakLink
import Derived.Test.YtdmdoikkemfcaaaDoorTakChk
namespace Go.Proofs.YtdmdoikkemfcaaaDoor
open Go.RowKit
set_option maxRecDepth 100000

/-- What is wrong with what is asked of a graph. -/
def askCode (n : Nat) (L : Nat → Nat) (F : Nat → Nat → Int) (r x y : Int) : Int :=
  if graphCode n L F = 0 then (if x < 0 ∨ (n : Int) ≤ x ∨ y < 0 ∨ (n : Int) ≤ y ∨ (r ≠ 1 ∧ r ≠ 2 ∧ r ≠ 4) then 1 else if x = y then 3 else 0) else graphCode n L F
/-- Can it come to it? -/
def CanP (g : Gr) (r x y : Nat) : Prop := ∃ n, InS (lkRows g) (holdN g r y) n x
/-- A chain as a value; none: nil. -/
def ChainV (w : World) (v : Value) (g : Gr) (r x y : Nat) : Prop :=
  (∃ gb cp D W, v = .slice (some ⟨gb, 0, none⟩) (D + 1) cp ∧ Own w gb (D + 1) W ∧ W 0 = x ∧ D ≤ 1048576 ∧ DistS (lkRows g) (holdN g r y) D x ∧ WayS g.n (lkRows g) (holdN g r y) D D W) ∨ (v = .slice none 0 0 ∧ ¬ CanP g r x y)
theorem isOne_any (r : Int) (w : World) : Calls Tryd.prog 48 #[.int .i64 r] w fun e w' => e = .returned (.bool (decide (r = 1 ∨ r = 2 ∨ r = 4))) ∧ w' = w := by
  by_cases h1 : r = 1
  · subst h1
    go_enter Tryd.func48, Tryd.ntmps48
    go_wp2
    go_ret
    exact ⟨rfl, rfl⟩
  · by_cases h2 : r = 2
    · subst h2
      go_enter Tryd.func48, Tryd.ntmps48
      go_wp2
      go_ret
      exact ⟨rfl, rfl⟩
    · by_cases h4 : r = 4
      · subst h4
        go_enter Tryd.func48, Tryd.ntmps48
        go_wp2
        go_ret
        exact ⟨rfl, rfl⟩
      · have b1 : (r == 1) = false := by simpa using h1
        have b2 : (r == 2) = false := by simpa using h2
        have b4 : (r == 4) = false := by simpa using h4
        have HD : Hid (decide (r = 1 ∨ r = 2 ∨ r = 4) = false) := by show _ = _; simp [h1, h2, h4]
        clear h1 h2 h4
        go_enter Tryd.func48, Tryd.ntmps48
        go_wp2
        go_ret
        exact ⟨by rw [HD.out]; rfl, rfl⟩
section
variable {a : Option Addr} {n cap : Nat} {L : Nat → Nat} {F : Nat → Nat → Int} {w : World}
set_option maxHeartbeats 1000000 in
theorem findChain_err (h : Grd w (.slice a n cap) n L F) (r x y : Int) (hc : askCode n L F r x y ≠ 0) :
    Calls Tryd.prog 28 #[.slice a n cap, .int .i64 r, .int .i64 x, .int .i64 y] w fun e w' => e = .returned (.tuple #[.slice none 0 0, errV (askCode n L F r x y)]) ∧ w' = w := by
  have t1 := tcheck_any a n cap L F w h
  by_cases h1 : graphCode n L F = 0
  · have hcode : askCode n L F r x y = if x < 0 ∨ (n : Int) ≤ x ∨ y < 0 ∨ (n : Int) ≤ y ∨ (r ≠ 1 ∧ r ≠ 2 ∧ r ≠ 4) then 1 else if x = y then 3 else 0 := if_pos h1
    rw [h1, errV_zero] at t1
    have tx := fun W => isVert_any a n cap x W
    have ty := fun W => isVert_any a n cap y W
    have tr := fun W => isOne_any r W
    by_cases q : x < 0 ∨ (n : Int) ≤ x ∨ y < 0 ∨ (n : Int) ≤ y ∨ (r ≠ 1 ∧ r ≠ 2 ∧ r ≠ 4)
    · rw [if_pos q] at hcode
      have HC := Hid.mkI hcode
      clear hcode hc h
      by_cases q1 : 0 ≤ x ∧ x < (n : Int)
      · rw [inB_yes q1.1 q1.2] at tx
        by_cases q2 : 0 ≤ y ∧ y < (n : Int)
        · rw [inB_yes q2.1 q2.2] at ty
          rw [decide_eq_false (by omega)] at tr
          clear q q1 q2
          go_enter Tryd.func28, Tryd.ntmps28
          go_wp2_with (first | (go_at_call 31; refine t1.mono ?_; clear t1; rintro e w' ⟨rfl, hw⟩; obtain rfl := hw.symm) | (go_at_call 47; (with_reducible refine (tx _).mono ?_); clear tx; rintro e w' ⟨rfl, hw⟩; obtain rfl := hw.symm) | (go_at_call 47; (with_reducible refine (ty _).mono ?_); clear ty; rintro e w' ⟨rfl, hw⟩; obtain rfl := hw.symm) | (go_at_call 48; refine (tr _).mono ?_; clear tr; rintro e w' ⟨rfl, hw⟩; obtain rfl := hw.symm))
          go_ret2
          exact ⟨by rw [HC.out]; rfl, rfl⟩
        · rw [inB_no (by omega)] at ty
          clear q q1 q2 tr
          go_enter Tryd.func28, Tryd.ntmps28
          go_wp2_with (first | (go_at_call 31; refine t1.mono ?_; clear t1; rintro e w' ⟨rfl, hw⟩; obtain rfl := hw.symm) | (go_at_call 47; (with_reducible refine (tx _).mono ?_); clear tx; rintro e w' ⟨rfl, hw⟩; obtain rfl := hw.symm) | (go_at_call 47; (with_reducible refine (ty _).mono ?_); clear ty; rintro e w' ⟨rfl, hw⟩; obtain rfl := hw.symm))
          go_ret2
          exact ⟨by rw [HC.out]; rfl, rfl⟩
      · rw [inB_no (by omega)] at tx
        clear q q1 tr ty
        go_enter Tryd.func28, Tryd.ntmps28
        go_wp2_with (first | (go_at_call 31; refine t1.mono ?_; clear t1; rintro e w' ⟨rfl, hw⟩; obtain rfl := hw.symm) | (go_at_call 47; (with_reducible refine (tx _).mono ?_); clear tx; rintro e w' ⟨rfl, hw⟩; obtain rfl := hw.symm))
        go_ret2
        exact ⟨by rw [HC.out]; rfl, rfl⟩
    · rw [if_neg q] at hcode
      by_cases e : x = y
      · rw [if_pos e] at hcode
        have HC := Hid.mkI hcode
        clear hcode hc h
        subst e
        rw [inB_yes (by omega) (by omega)] at tx
        rw [decide_eq_true (by omega)] at tr
        clear q ty
        go_enter Tryd.func28, Tryd.ntmps28
        go_wp2_with (first | (go_at_call 31; refine t1.mono ?_; clear t1; rintro e w' ⟨rfl, hw⟩; obtain rfl := hw.symm) | (go_at_call 47; (with_reducible refine (tx _).mono ?_); rintro e w' ⟨rfl, hw⟩; obtain rfl := hw.symm) | (go_at_call 48; refine (tr _).mono ?_; clear tr; rintro e w' ⟨rfl, hw⟩; obtain rfl := hw.symm))
        go_ret2
        exact ⟨by rw [HC.out]; rfl, rfl⟩
      · rw [if_neg e] at hcode
        exact absurd hcode hc
  · have HC : Hid (askCode n L F r x y = graphCode n L F) := if_neg h1
    rw [errV_ne h1] at t1
    clear h hc
    go_enter Tryd.func28, Tryd.ntmps28
    go_wp2_with (go_at_call 31; refine t1.mono ?_; clear t1; rintro e w' ⟨rfl, hw⟩; obtain rfl := hw.symm)
    go_ret2
    exact ⟨by rw [HC.out, errV_ne h1]; rfl, rfl⟩
theorem askCode_ok {r x y : Int} (hc : askCode n L F r x y = 0) : graphCode n L F = 0 ∧ ∃ r' x' y' : Nat, r = r' ∧ x = x' ∧ y = y' ∧ x' < n ∧ y' < n ∧ x' ≠ y' ∧ (r' = 1 ∨ r' = 2 ∨ r' = 4) := by
  unfold askCode at hc
  split at hc
  · rename_i h1
    refine ⟨h1, r.toNat, x.toNat, y.toNat, ?_⟩
    split at hc
    · omega
    · split at hc
      · omega
      · omega
  · rename_i h1; exact absurd hc h1
set_option maxHeartbeats 1000000 in
theorem findChain_ok (h : Grd w (.slice a n cap) n L F) (hT : Tab w) (hg0 : graphCode n L F = 0) (r x y : Nat) (hx : x < n) (hy : y < n) (hxy : x ≠ y) (hr : r = 1 ∨ r = 2 ∨ r = 4) :
    Calls Tryd.prog 28 #[.slice a n cap, .int .i64 r, .int .i64 x, .int .i64 y] w fun e w' => (∃ v, e = .returned (.tuple #[v, .nilIface]) ∧ ChainV w' v (grOf n F) r x y) ∧ Below w.heap.size w w' := by
  have t1 := tcheck_any a n cap L F w h
  rw [hg0, errV_zero] at t1
  have ok := (graphCode_ok hg0).1
  obtain ⟨a', cp, e, hG⟩ := (grV_of h hg0).open
  have hn : (grOf n F).n = n := rfl
  obtain ⟨b, off, B, O, C, ea, hG2⟩ := hG (by omega)
  cases e
  subst ea
  clear hG
  have hG := hG2
  clear hG2
  have tx := fun W => isVert_any (some ⟨b, off, none⟩) n cap x W
  have ty := fun W => isVert_any (some ⟨b, off, none⟩) n cap y W
  have tr := fun W => isOne_any r W
  rw [inB_yes (by omega) (by omega)] at tx ty
  rw [decide_eq_true (by omega)] at tr
  have tl := tlinks_any hG ok cap
  have th := fun w1 (hB : Below w.heap.size w w1) => tholders_any (hG.below hB) ok cap r y (by omega) hy
  have tw : ∀ w1, Below w.heap.size w w1 → Own w1 w.heap.size (grOf n F).n (lkN (grOf n F)) → Calls Tryd.prog 49 #[.slice (some ⟨w.heap.size, 0, none⟩) (grOf n F).n (grOf n F).n, .int .i64 x, .int .i64 (holdN (grOf n F) r y)] w1 fun e w' => ∃ v, e = .returned v ∧ ChainV w' v (grOf n F) r x y ∧ Below w1.heap.size w1 w' := fun w1 hB ho =>
    (wayInto_any (grOf n F).n w.heap.size 0 (grOf n F).n x (holdN (grOf n F) r y) hx (holdN_lt _ _ _) (lkRows (grOf n F)) (lkRows_right ok) w1 (ho.lies fun _ hj => listOf_get _ hj) (hT.below hB hT.size)).mono fun e w' ⟨h, hB⟩ => by
      rcases h with ⟨gb, cp2, D, W, he, hgb, hoW, hW0, h4, hD, hWS⟩ | ⟨he, hno⟩
      · exact ⟨_, he, .inl ⟨gb, cp2, D, W, rfl, hoW, hW0, h4, hD, hWS⟩, hB⟩
      · exact ⟨_, he, .inr ⟨rfl, fun ⟨k, hk⟩ => hno k hk⟩, hB⟩
  obtain ⟨g, hgg⟩ : ∃ g, grOf n F = g := ⟨_, rfl⟩
  rw [hgg] at hn tl th tw ⊢
  clear hgg h hg0 ok hG hT
  subst hn
  have hb : ((x : Int) == (y : Int)) = false := by simpa using (show (x : Int) ≠ y by omega)
  clear hxy hr
  go_enter Tryd.func28, Tryd.ntmps28
  go_wp2_with (first | (go_at_call 31; refine t1.mono ?_; clear t1; rintro e w' ⟨rfl, hw⟩; obtain rfl := hw.symm) | (go_at_call 47; (with_reducible refine (tx _).mono ?_); clear tx; rintro e w' ⟨rfl, hw⟩; obtain rfl := hw.symm) | (go_at_call 47; (with_reducible refine (ty _).mono ?_); clear ty; rintro e w' ⟨rfl, hw⟩; obtain rfl := hw.symm) | (go_at_call 48; refine (tr _).mono ?_; clear tr; rintro e w' ⟨rfl, hw⟩; obtain rfl := hw.symm) | (go_at_call 50; refine tl.mono ?_; clear tl; rintro e w1 ⟨rfl, ho1, hB1⟩; have th1 := th w1 hB1; have tw1 := tw w1 hB1 ho1; clear th tw) | (go_at_call 51; refine th1.mono ?_; clear th1; rintro e w' ⟨rfl, hw⟩; obtain rfl := hw.symm) | (go_at_call 49; refine tw1.mono ?_; clear tw1; rintro e w2 ⟨v, rfl, hch, hB2⟩; have HCh := Hid.mkI hch; clear hch))
  go_ret2
  exact ⟨⟨_, rfl, HCh.out⟩, hB1.trans (hB2.mono hB1.size)⟩
theorem neqNil (w : World) (a : Option Addr) (n c : Nat) : (binOp .neq 34 (.slice a n c) (.slice none 0 0)).run Tryd.prog w = .ok (.bool a.isSome) w := by
  rw [run_neq_slice_nil (w := w) 34 3 a n c Tryd.underlying34]
  cases a <;> rfl
theorem can_err (h : Grd w (.slice a n cap) n L F) (r x y : Int) (hc : askCode n L F r x y ≠ 0) :
    Calls Tryd.prog 10 #[.slice a n cap, .int .i64 r, .int .i64 x, .int .i64 y] w fun e w' => e = .returned (.tuple #[.bool false, errV (askCode n L F r x y)]) ∧ w' = w := by
  have t := findChain_err h r x y hc
  have q := neqNil
  obtain ⟨c, hcc⟩ : ∃ c, errV (askCode n L F r x y) = c := ⟨_, rfl⟩
  rw [hcc] at t ⊢
  clear hcc hc h
  go_enter Tryd.func10, Tryd.ntmps10
  go_wp2_with (go_at_call 28; refine t.mono ?_; clear t; rintro e w' ⟨rfl, hw⟩; obtain rfl := hw.symm)
  go_ret2
  exact ⟨rfl, rfl⟩
theorem can_ok (h : Grd w (.slice a n cap) n L F) (hT : Tab w) (hg0 : graphCode n L F = 0) (r x y : Nat) (hx : x < n) (hy : y < n) (hxy : x ≠ y) (hr : r = 1 ∨ r = 2 ∨ r = 4) :
    Calls Tryd.prog 10 #[.slice a n cap, .int .i64 r, .int .i64 x, .int .i64 y] w fun e w' => (∃ b, e = .returned (.tuple #[.bool b, .nilIface]) ∧ (b = true ↔ CanP (grOf n F) r x y)) ∧ Below w.heap.size w w' := by
  have t := findChain_ok h hT hg0 r x y hx hy hxy hr
  have q := neqNil
  clear h hT hg0
  go_enter Tryd.func10, Tryd.ntmps10
  go_wp2_with fail
  refine t.mono ?_
  clear t
  rintro e w1 ⟨⟨v, rfl, hv⟩, hB⟩
  rcases hv with ⟨gb, cp2, D, W, rfl, hoW, hW0, _, hD, hWS⟩ | ⟨rfl, hno⟩
  · go_wp2
    go_ret2
    exact ⟨⟨true, rfl, by simp; exact ⟨D, hD.1⟩⟩, hB⟩
  · go_wp2
    go_ret2
    exact ⟨⟨false, rfl, by simpa using hno⟩, hB⟩
end
end Go.Proofs.YtdmdoikkemfcaaaDoor
