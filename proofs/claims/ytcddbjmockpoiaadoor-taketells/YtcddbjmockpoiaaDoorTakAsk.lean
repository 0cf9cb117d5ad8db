/- What the document asks of a graph (Asked), whom it links (links), and which of two lists comes first (less3). -/
import Derived.WalkKit
import Derived.LoopTactic
import Derived.OwnWalk
import Derived.Maps.AppendAt
import Derived.Deep.QuietTactic
import Derived.BigQuiet
import Derived.Test.YtcddbjmockpoiaaDoorTakCan
import Derived.Test.YtcddbjmockpoiaaDoorRefLb
import Derived.Test.YtcddbjmockpoiaaDoorWith
namespace Go.Proofs.YtcddbjmockpoiaaDoor
open Go.RowKit
set_option maxRecDepth 100000

theorem inOf {x : Int} {n : Nat} (h : ¬ (0 ≤ x ∧ x < (n : Int))) (W : World) : Calls Tryd.prog 24 #[.int .i64 x, .int .i64 0, .int .i64 ((n : Int) - 1)] W fun e w' => e = .returned (.bool false) ∧ w' = W := by
  by_cases h0 : x < 0
  · exact in_low _ _ _ h0 W
  · exact in_high _ _ _ (by omega) (by omega) W
section
variable {a : Option Addr} {n cap : Nat} {L : Nat → Nat} {F : Nat → Nat → Int} {w : World}
set_option maxHeartbeats 1000000 in
theorem refAsked_any (h : Grd w (.slice a n cap) n L F) (r x y : Int) :
    Calls Tryd.prog 14 #[.slice a n cap, .int .i64 r, .int .i64 x, .int .i64 y] w fun e w' => e = .returned (.int .i64 (askCode n L F r x y)) ∧ w' = w := by
  have t1 := refGraph_any a n cap L F w h
  by_cases h1 : graphCode n L F = 0
  · have hn : n ≤ 20 := by have := (graphCode_ok h1).1.le; exact this
    have hcode : askCode n L F r x y = if x < 0 ∨ (n : Int) ≤ x ∨ y < 0 ∨ (n : Int) ≤ y ∨ (r ≠ 1 ∧ r ≠ 2 ∧ r ≠ 4) then 1 else if x = y then 3 else 0 := if_pos h1
    rw [h1] at t1
    clear h1 h
    by_cases q1 : 0 ≤ x ∧ x < (n : Int)
    · have tx := fun W => in_yes x 0 ((n : Int) - 1) q1.1 (by omega) W
      by_cases q2 : 0 ≤ y ∧ y < (n : Int)
      · have ty := fun W => in_yes y 0 ((n : Int) - 1) q2.1 (by omega) W
        have go : ∀ (b1 b2 b4 : Bool), (r != 1) = b1 → (r != 2) = b2 → (r != 4) = b4 → ∀ (be : Bool), (x == y) = be → ∀ c : Int, (if b1 = true ∧ b2 = true ∧ b4 = true then 1 else if be = true then 3 else 0) = c →
            Calls Tryd.prog 14 #[.slice a n cap, .int .i64 r, .int .i64 x, .int .i64 y] w fun e w' => e = .returned (.int .i64 c) ∧ w' = w := by
          clear hcode q1 q2
          intro b1 b2 b4 hb1 hb2 hb4 be hbe c hc
          cases b1 <;> cases b2 <;> cases b4 <;> cases be <;> simp only [Bool.false_eq_true, and_self, and_false, false_and, if_true, if_false] at hc <;> subst hc
          all_goals
            go_enter Tryd.func14, Tryd.ntmps14
            go_wp2_with (first | (go_at_call 10; refine t1.mono ?_; clear t1; rintro e w' ⟨rfl, hw⟩; obtain rfl := hw.symm) | (go_at_call 24; (with_reducible refine (tx _).mono ?_); clear tx; rintro e w' ⟨rfl, hw⟩; obtain rfl := hw.symm) | (go_at_call 24; (with_reducible refine (ty _).mono ?_); clear ty; rintro e w' ⟨rfl, hw⟩; obtain rfl := hw.symm))
            go_ret
            exact ⟨rfl, rfl⟩
        refine go _ _ _ rfl rfl rfl _ rfl _ ?_
        rw [hcode]
        by_cases e1 : r ≠ 1 ∧ r ≠ 2 ∧ r ≠ 4
        · rw [if_pos (show x < 0 ∨ (n : Int) ≤ x ∨ y < 0 ∨ (n : Int) ≤ y ∨ (r ≠ 1 ∧ r ≠ 2 ∧ r ≠ 4) by exact .inr (.inr (.inr (.inr e1)))), if_pos (by simpa using e1)]
        · rw [if_neg (show ¬ (x < 0 ∨ (n : Int) ≤ x ∨ y < 0 ∨ (n : Int) ≤ y ∨ (r ≠ 1 ∧ r ≠ 2 ∧ r ≠ 4)) by omega), if_neg (by simpa using e1)]
          by_cases e : x = y
          · rw [if_pos e, if_pos (by simpa using e)]
          · rw [if_neg e, if_neg (by simpa using e)]
      · have ty := fun W => inOf (x := y) (n := n) q2 W
        rw [if_pos (by omega)] at hcode
        have HC := Hid.mkI hcode
        clear hcode q1 q2
        go_enter Tryd.func14, Tryd.ntmps14
        go_wp2_with (first | (go_at_call 10; refine t1.mono ?_; clear t1; rintro e w' ⟨rfl, hw⟩; obtain rfl := hw.symm) | (go_at_call 24; (with_reducible refine (tx _).mono ?_); clear tx; rintro e w' ⟨rfl, hw⟩; obtain rfl := hw.symm) | (go_at_call 24; (with_reducible refine (ty _).mono ?_); clear ty; rintro e w' ⟨rfl, hw⟩; obtain rfl := hw.symm))
        go_ret
        exact ⟨by rw [HC.out]; rfl, rfl⟩
    · have tx := fun W => inOf (x := x) (n := n) q1 W
      rw [if_pos (by omega)] at hcode
      have HC := Hid.mkI hcode
      clear hcode q1
      go_enter Tryd.func14, Tryd.ntmps14
      go_wp2_with (first | (go_at_call 10; refine t1.mono ?_; clear t1; rintro e w' ⟨rfl, hw⟩; obtain rfl := hw.symm) | (go_at_call 24; (with_reducible refine (tx _).mono ?_); clear tx; rintro e w' ⟨rfl, hw⟩; obtain rfl := hw.symm))
      go_ret
      exact ⟨by rw [HC.out]; rfl, rfl⟩
  · have HC : Hid (askCode n L F r x y = graphCode n L F) := if_neg h1
    obtain ⟨c, hc⟩ : ∃ c, graphCode n L F = c := ⟨_, rfl⟩
    rw [hc] at t1 HC h1
    have hcb : (c == 0) = false := by simpa using h1
    clear h h1 hc
    go_enter Tryd.func14, Tryd.ntmps14
    go_wp2_with (go_at_call 10; refine t1.mono ?_; clear t1; rintro e w' ⟨rfl, hw⟩; obtain rfl := hw.symm)
    go_ret
    exact ⟨by rw [HC.out]; rfl, rfl⟩
end
theorem setOf_put {p : Nat → Bool} {k : Nat} (h : p k = true) : setOf p (k + 1) = setOf p k + 2 ^ k := by
  have e := Nat.two_pow_add_eq_or_of_lt (setOf_lt p k) 1
  rw [Nat.mul_one] at e
  rw [setOf, if_pos h, Nat.or_comm, ← e, Nat.add_comm]
theorem setOf_pass {p : Nat → Bool} {k : Nat} (h : p k = false) : setOf p (k + 1) = setOf p k := by
  rw [setOf, if_neg (by rw [h]; decide)]
theorem link_four {x : Nat} (hx : x < 8) : ((x : Int) % 4 != 0) = ((x &&& 3) != 0) := by
  have h : ∀ k, k < 8 → (((k : Nat) : Int) % 4 != 0) = ((k &&& 3) != 0) := by decide
  exact h x hx
theorem lkSet_lt (g : Gr) (ok : g.Ok) (i k : Nat) (hk : k ≤ g.n) : setOf (fun y => linkB g i y) k < 1048576 :=
  Nat.lt_of_lt_of_le (setOf_lt _ _) (Nat.le_trans (Nat.pow_le_pow_right (by decide) hk) (pow12 ok.le))
set_option maxHeartbeats 2000000 in
theorem refLinks_any {w : World} {g : Gr} {b off : Nat} {B O C : Nat → Nat} (hG0 : GrAt w b off B O C g) (ok : g.Ok) (h0 : 0 < g.n) (cp : Nat) :
    Calls Tryd.prog 29 #[.slice (some ⟨b, off, none⟩) g.n cp] w fun e w' => ∃ g' cp', e = .returned (.slice (some ⟨g', 0, none⟩) g.n cp') ∧ w.heap.size ≤ g' ∧ Own w' g' g.n (lkN g) ∧ Below w.heap.size w w' := by
  have hm := ok.le
  obtain ⟨i0, hi0, hz0, hz1, hz2⟩ := info_parts info3
  go_enter Tryd.func29, Tryd.ntmps29
  go_wp2
  go_loopw [3, 4] (fun o p wr => ∃ (i : Nat) (D : Nat → Nat), i ≤ g.n ∧ p = .int .i64 i ∧ Hid (∀ x, x < i → D x = lkN g x) ∧ wr.ownsRow w.heap.size 3 1 o i (row i D) ∧ Below w.heap.size w wr) (fun _ p _ => g.n - (intOf p).toNat)
  case atStart => exact ⟨0, fun _ => 0, by omega, rfl, fun x hx => absurd hx (by omega), World.ownsRow_nil _ _ _ _, Below.refl _ _⟩
  case round =>
    obtain ⟨i, D, hi, rfl, HD, ho, hB⟩ := hrel
    by_cases hlt : i < g.n
    · have hltI : (i : Int) < (g.n : Int) := by omega
      have hG := hG0.below hB
      have a1 := hG.top i hlt
      have HO := Hid.mkI ho
      clear ho
      go_wp2
      go_loop [5, 6] (fun s p => ∃ (k x : Nat), k ≤ g.n ∧ p = .int .i64 k ∧ s = .int .i64 x ∧ x < 1048576 ∧ Hid (x = setOf (fun y => linkB g i y) k)) (fun _ p => g.n - (intOf p).toNat)
      case atStart => exact ⟨0, 0, by omega, rfl, rfl, by decide, rfl⟩
      case round =>
        obtain ⟨k, x, hk, rfl, rfl, hx4, HX⟩ := hrel
        by_cases hkt : k < g.n
        · have hktI : (k : Int) < (g.n : Int) := by omega
          have a2 := hG.cell i k hlt hkt
          have a3 := hG.top k hkt
          have a4 := hG.cell k i hkt hlt
          have l1 := link_four (ok.lt i k)
          have l2 := link_four (ok.lt k i)
          have m1 := ok.lt i k
          have m2 := ok.lt k i
          have hL : linkB g i k = (link1 g.M i k || link1 g.M k i) := rfl
          have e1 : link1 g.M i k = ((g.M i k &&& 3) != 0) := rfl
          have e2 : link1 g.M k i = ((g.M k i &&& 3) != 0) := rfl
          rw [← e1] at l1
          rw [← e2] at l2
          have hp := fun W => pow2_any k (by omega) W
          have hadd : linkB g i k = true → x + 2 ^ k = setOf (fun y => linkB g i y) (k + 1) ∧ x + 2 ^ k < 1048576 := fun h => by
            have := setOf_put (p := fun y => linkB g i y) h
            have h4 := lkSet_lt g ok i (k + 1) hkt
            rw [HX.out, ← this]
            exact ⟨rfl, h4⟩
          have hno : linkB g i k = false → x = setOf (fun y => linkB g i y) (k + 1) := fun h => by
            rw [setOf_pass (p := fun y => linkB g i y) h]; exact HX.out
          have HA := Hid.mkI hadd
          have HN := Hid.mkI hno
          have HL := Hid.mkI hL
          obtain ⟨x1, hx1⟩ : ∃ z, g.M i k = z := ⟨_, rfl⟩
          obtain ⟨x2, hx2⟩ : ∃ z, g.M k i = z := ⟨_, rfl⟩
          rw [hx1] at a2 l1 m1
          rw [hx2] at a4 l2 m2
          have p4 := Nat.lt_of_le_of_lt (Nat.le_refl (2 ^ k)) (Nat.lt_of_lt_of_le (Nat.pow_lt_pow_right (a := 2) (by decide) hkt) (pow12 hm))
          obtain ⟨q, hq⟩ : ∃ q, 2 ^ k = q := ⟨_, rfl⟩
          have HQ := Hid.mkI hq
          rw [hq] at hp p4
          clear hx1 hx2 e1 e2 hadd hno hL hq
          cases b1 : link1 g.M i k with
          | true =>
            rw [b1] at l1
            have HT : Hid (linkB g i k = true) := by show _ = _; rw [HL.out, b1]; rfl
            clear b1 a3 a4 l2
            go_wp2_with (go_at_call 43; refine (hp _).mono ?_; clear hp; rintro e w' ⟨rfl, hw⟩; obtain rfl := hw.symm)
            go_round
            case rel => exact ⟨k + 1, x + q, by omega, by go_num, by go_num, by have := (HA.out HT.out).2; rw [HQ.out] at this; exact this, by have := (HA.out HT.out).1; rw [HQ.out] at this; exact this⟩
            case measure => simp [intOf]; omega
          | false =>
            rw [b1] at l1
            cases b2 : link1 g.M k i with
            | true =>
              rw [b2] at l2
              have HT : Hid (linkB g i k = true) := by show _ = _; rw [HL.out, b1, b2]; rfl
              clear b1 b2
              go_wp2_with (go_at_call 43; refine (hp _).mono ?_; clear hp; rintro e w' ⟨rfl, hw⟩; obtain rfl := hw.symm)
              go_round
              case rel => exact ⟨k + 1, x + q, by omega, by go_num, by go_num, by have := (HA.out HT.out).2; rw [HQ.out] at this; exact this, by have := (HA.out HT.out).1; rw [HQ.out] at this; exact this⟩
              case measure => simp [intOf]; omega
            | false =>
              rw [b2] at l2
              have HT : Hid (linkB g i k = false) := by show _ = _; rw [HL.out, b1, b2]; rfl
              clear b1 b2 hp
              go_wp2
              go_round
              case rel => exact ⟨k + 1, x, by omega, by go_num, rfl, hx4, HN.out HT.out⟩
              case measure => simp [intOf]; omega
        · obtain rfl : k = g.n := by omega
          have hc4 : i + 1 ≤ maxLen := by unfold maxLen; omega
          have hc5 : (i + 1) * 8 ≤ 140737488355328 := by omega
          have hone : ∀ u ∈ [Value.int .i64 (x : Int)], u.oneCell' = true := by intro u hu; rw [List.mem_singleton.1 hu]; rfl
          have hown := HO.out
          have hbase : w.heap.size ≤ (wr.alloc (.cells #[.int .i64 (x : Int)] 3)).heap.size := by have := hB.size; simp; omega
          have HN : Hid (∀ z, z < i + 1 → upd D i x z = lkN g z) := fun z hz => by
            by_cases e : z = i
            · subst e; rw [upd_same]; exact HX.out
            · rw [upd_other _ e]; exact HD.out z (by omega)
          clear a1
          go_wp2_with (at_builtin; refine wpList_append_own _ rfl _ _ 36 rfl w.heap.size 3 i0 (.int .i64 0) 1 8 Tryd.underlying36 hi0 hz0 hz1 hz2 rfl (by decide) _ i (row i D) rfl (hown.alloc _) ⟨_, 0, none⟩ 1 1 [.int .i64 (x : Int)] rfl rfl (cell_one_new _ _ _) hone hc4 hc5 hbase ?_; intro v' w3 hown' hgrow hnil; rw [row_snoc] at hown'; have hB3 : Below w.heap.size w w3 := (hB.alloc hB.size _).grown hgrow hbase (ownsRow_block hown))
          go_roundw
          case rel =>
            first
              | exact ⟨i + 1, upd D i x, by omega, by go_num, HN, hown', hB3⟩
              | ((repeat apply Exists.intro); exact ⟨⟨i + 1, upd D i x, by omega, by go_num, HN, hown', hB3⟩, rfl⟩)
          case measure => simp [intOf]; omega
    · obtain rfl : i = g.n := by omega
      obtain ⟨g', cap, hv, hg, hoG⟩ := own_of_row h0 ho
      have HE := Hid.mkI (hoG.like HD.out)
      subst hv
      clear ho hoG
      go_wp2
      go_ret
      exact ⟨g', cap, rfl, hg, HE.out, hB⟩

/-- Does a list come ahead of another one? -/
def lessAt (f h : Nat → Nat) : Nat → Nat → Bool
  | 0, _ => false
  | r + 1, i => if f i = h i then lessAt f h r (i + 1) else decide (f i < h i)
def lessL (n : Nat) (f : Nat → Nat) (m : Nat) (h : Nat → Nat) : Bool := if m = 0 ∨ n < m then true else if m < n then false else lessAt f h n 0
/-- A list of numbers, or none. -/
def Way0 (w : World) (v : Value) (n : Nat) (f : Nat → Nat) : Prop := ∃ a cp, v = .slice a n cp ∧ (n = 0 ∨ ∃ b, a = some ⟨b, 0, none⟩ ∧ Own w b n f)
theorem Way0.below {w w' : World} {v : Value} {n : Nat} {f : Nat → Nat} (h : Way0 w v n f) (k : Below w.heap.size w w') : Way0 w' v n f := by
  obtain ⟨a, cp, e, h | ⟨b, ea, h⟩⟩ := h
  · exact ⟨a, cp, e, .inl h⟩
  · exact ⟨a, cp, e, .inr ⟨b, ea, h.below k⟩⟩
set_option maxHeartbeats 1000000 in
theorem less3_any (v1 v2 : Value) (n m : Nat) (f h : Nat → Nat) (w : World) (hn : n ≤ 1048576) (hm : m ≤ 1048576) (h1 : Way0 w v1 n f) (h2 : Way0 w v2 m h) :
    Calls Tryd.prog 31 #[v1, v2] w fun e w' => e = .returned (.bool (lessL n f m h)) ∧ ∃ k, w' = w.drewN k := by
  obtain ⟨a1, c1, rfl, k1⟩ := h1
  obtain ⟨a2, c2, rfl, k2⟩ := h2
  by_cases q0 : m = 0
  · have HC : Hid (lessL n f m h = true) := by show _ = _; rw [lessL, if_pos (.inl q0)]
    subst q0
    clear k1 k2
    go_enter Tryd.func31, Tryd.ntmps31
    go_wp2
    go_ret
    exact ⟨by rw [HC.out]; rfl, 0, rfl⟩
  · have hmz : ((m : Int) == 0) = false := by simpa using q0
    by_cases q1 : n < m
    · have HC : Hid (lessL n f m h = true) := by show _ = _; rw [lessL, if_pos (.inr q1)]
      clear k1 k2
      go_enter Tryd.func31, Tryd.ntmps31
      go_wp2
      go_ret
      exact ⟨by rw [HC.out]; rfl, 0, rfl⟩
    · have hcode : lessL n f m h = if m < n then false else lessAt f h n 0 := by rw [lessL, if_neg (by omega)]
      by_cases q2 : m < n
      · have HC : Hid (lessL n f m h = false) := by show _ = _; rw [hcode, if_pos q2]
        clear k1 k2 hcode
        go_enter Tryd.func31, Tryd.ntmps31
        go_wp2
        go_ret
        exact ⟨by rw [HC.out]; rfl, 0, rfl⟩
      · rw [if_neg q2] at hcode
        obtain rfl : m = n := by omega
        have HC := Hid.mkI hcode
        clear hcode q1 q2
        obtain ⟨b1, rfl, o1⟩ : ∃ b, a1 = some ⟨b, 0, none⟩ ∧ Own w b m f := by
          rcases k1 with k | k
          · omega
          · exact k
        obtain ⟨b2, rfl, o2⟩ : ∃ b, a2 = some ⟨b, 0, none⟩ ∧ Own w b m h := by
          rcases k2 with k | k
          · omega
          · exact k
        clear k1 k2
        go_enter Tryd.func31, Tryd.ntmps31
        go_wp2
        go_loopw [5] (fun p wr => ∃ (k q : Nat), k ≤ m ∧ p = .int .i64 k ∧ w.drewN q = wr ∧ Hid (lessL m f m h = lessAt f h (m - k) k)) (fun p _ => m - (intOf p).toNat)
        case atStart => exact ⟨0, 0, by omega, rfl, rfl, HC⟩
        case round =>
          obtain ⟨k, q, hk, rfl, hwr, HK⟩ := hrel
          clear HC
          by_cases hlt : k < m
          · have hltI : (k : Int) < (m : Int) := by omega
            have e1 : wr.cell? ⟨b1, k, none⟩ = some (.int .i64 (f k : Nat)) := by rw [← hwr]; exact (o1.drawn q).cell k hlt
            have e2 : wr.cell? ⟨b2, k, none⟩ = some (.int .i64 (h k : Nat)) := by rw [← hwr]; exact (o2.drawn q).cell k hlt
            have HW := Hid.mkI hwr
            clear hwr
            have hst : lessL m f m h = if f k = h k then lessAt f h (m - (k + 1)) (k + 1) else decide (f k < h k) := by
              have := HK.out
              rw [show m - k = (m - (k + 1)) + 1 by omega] at this
              exact this
            by_cases e : f k = h k
            · rw [if_pos e] at hst
              have hb : ((f k : Int) != (h k : Int)) = false := by simp [e]
              have HN := Hid.mkI hst
              clear hst e HK
              obtain ⟨x, hx⟩ : ∃ x, f k = x := ⟨_, rfl⟩
              obtain ⟨y, hy⟩ : ∃ y, h k = y := ⟨_, rfl⟩
              rw [hx] at e1 hb
              rw [hy] at e2 hb
              clear hx hy
              go_wp2
              go_quiet (fail)
              go_wp2
              go_roundw
              case rel => exact ⟨k + 1, q + nq, by omega, by go_num, by rw [← HW.out, World.drewN_drewN], HN⟩
              case measure => simp [intOf]; omega
            · rw [if_neg e] at hst
              have hb : ((f k : Int) != (h k : Int)) = true := by simp; omega
              have HN := Hid.mkI hst
              clear hst e HK
              obtain ⟨x, hx⟩ : ∃ x, f k = x := ⟨_, rfl⟩
              obtain ⟨y, hy⟩ : ∃ y, h k = y := ⟨_, rfl⟩
              rw [hx] at e1 hb HN
              rw [hy] at e2 hb HN
              clear hx hy
              go_wp2
              go_quiet (fail)
              go_wp2
              go_quiet (fail)
              go_wp2
              go_ret
              exact ⟨by rw [HN.out]; rfl, _, by rw [← HW.out, World.drewN_drewN, World.drewN_drewN]⟩
          · obtain rfl : k = m := by omega
            have HW := Hid.mkI hwr
            clear hwr
            have HN : Hid (lessL k f k h = false) := by show _ = _; rw [HK.out, Nat.sub_self]; rfl
            go_wp2
            go_ret
            exact ⟨by rw [HN.out]; rfl, q, HW.out.symm⟩
end Go.Proofs.YtcddbjmockpoiaaDoor
