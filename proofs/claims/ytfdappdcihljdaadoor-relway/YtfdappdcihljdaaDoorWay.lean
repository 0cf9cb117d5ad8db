/- What the way is (Way). -/
import Derived.WalkKit
import Derived.LoopTactic
import Derived.OwnWalk
import Derived.Lib.SliceRun
import Derived.Test.YtfdappdcihljdaaDoorDist
import Derived.Test.YtfdappdcihljdaaDoorSWay
import Derived.Test.YtfdappdcihljdaaDoorReduces
namespace Go.Proofs.YtfdappdcihljdaaDoor
open Go.RowKit
set_option maxRecDepth 100000

/-- The way so far: each is a step nearer, and the least that is. -/
structure WayTo (m : Nat) (rows : List Nat) (b d s : Nat) (W : Nat → Nat) : Prop where
  lt : ∀ i, i ≤ s → W i < m
  far : ∀ i, i ≤ s → Dist rows (d - i) (W i) b
  on : ∀ i, i < s → (rows.getD (W i) 0).testBit (W (i + 1)) = true
  first : ∀ i, i < s → ∀ y, (rows.getD (W i) 0).testBit y = true → Dist rows (d - (i + 1)) y b → W (i + 1) ≤ y

theorem inS_one (rows : List Nat) (b : Nat) : ∀ n x, InS rows (2 ^ b) n x ↔ InSteps rows n x b
  | 0, x => by
    show (2 ^ b).testBit x = true ↔ x = b
    rw [Nat.testBit_two_pow, decide_eq_true_eq]
    exact eq_comm
  | n + 1, x => by
    show (∃ y, _ ∧ _) ↔ ∃ y, _ ∧ _
    constructor
    · rintro ⟨y, h1, h2⟩; exact ⟨y, h1, (inS_one rows b n y).1 h2⟩
    · rintro ⟨y, h1, h2⟩; exact ⟨y, h1, (inS_one rows b n y).2 h2⟩
theorem distS_one (rows : List Nat) (b n x : Nat) : DistS rows (2 ^ b) n x ↔ Dist rows n x b := by
  unfold DistS Dist
  constructor
  · rintro ⟨h1, h2⟩; exact ⟨(inS_one rows b n x).1 h1, fun s hs k => h2 s hs ((inS_one rows b s x).2 k)⟩
  · rintro ⟨h1, h2⟩; exact ⟨(inS_one rows b n x).2 h1, fun s hs k => h2 s hs ((inS_one rows b s x).1 k)⟩
theorem wayTo_of {m : Nat} {rows : List Nat} {b d s : Nat} {W : Nat → Nat} (h : WayS m rows (2 ^ b) d s W) : WayTo m rows b d s W :=
  ⟨h.lt, fun i hi => (distS_one _ _ _ _).1 (h.far i hi), h.on, fun i hi y hy hd => h.first i hi y hy ((distS_one _ _ _ _).2 hd)⟩
theorem Way_bad (a : Option Addr) (m cap : Nat) (x y c : Int) (w : World)
    (hc : Calls Tryd.prog 10 #[.slice a m cap] w fun e w' => e = .returned (.iface 45 (.int .i64 c)) ∧ w' = w) :
    Calls Tryd.prog 19 #[.slice a m cap, .int .i64 x, .int .i64 y] w fun e w' => e = .returned (.tuple #[.slice none 0 0, .iface 45 (.int .i64 c)]) ∧ w' = w := by
  go_enter Tryd.func19, Tryd.ntmps19
  go_wp2_with (go_at_call 10; refine hc.mono ?_; rintro e w' ⟨rfl, rfl⟩)
  go_ret2
  exact ⟨rfl, rfl⟩
theorem Way_range (a : Option Addr) (m cap : Nat) (hm : m ≤ 12) (x y : Int) (w : World) (hxy : (x < 0 ∨ (m : Int) ≤ x) ∨ (0 ≤ x ∧ x < m ∧ (y < 0 ∨ (m : Int) ≤ y)))
    (hc : Calls Tryd.prog 10 #[.slice a m cap] w fun e w' => e = .returned .nilIface ∧ w' = w) :
    Calls Tryd.prog 19 #[.slice a m cap, .int .i64 x, .int .i64 y] w fun e w' => e = .returned (.tuple #[.slice none 0 0, .iface 45 (.int .i64 1)]) ∧ w' = w := by
  rcases hxy with hx | ⟨h0, h1, hy⟩
  · have t1 := isThing_no a m cap x hx w
    clear hx
    go_enter Tryd.func19, Tryd.ntmps19
    go_wp2_with (first | (go_at_call 10; refine hc.mono ?_; rintro e w' ⟨rfl, rfl⟩) | (go_at_call 35; refine t1.mono ?_; rintro e w' ⟨rfl, rfl⟩))
    go_ret2
    exact ⟨rfl, rfl⟩
  · obtain ⟨i, rfl⟩ := Int.eq_ofNat_of_zero_le h0
    have t1 := isThing_yes a m cap i (by omega) hm w
    have t2 := isThing_no a m cap y hy w
    clear hy
    go_enter Tryd.func19, Tryd.ntmps19
    go_wp2_with (first | (go_at_call 10; refine hc.mono ?_; rintro e w' ⟨rfl, rfl⟩) | (go_at_call 35; refine t1.mono ?_; clear t1; rintro e w' ⟨rfl, rfl⟩) | (go_at_call 35; refine t2.mono ?_; rintro e w' ⟨rfl, rfl⟩))
    go_ret2
    exact ⟨rfl, rfl⟩
theorem eqlNilW (w : World) (a : Option Addr) (n c n' c' : Nat) : (binOp .eql 22 (.slice a n c) (.slice none n' c')).run Tryd.prog w = .ok (.bool a.isNone) w := Lib.run_eql_slice_nil w _ _ a n c n' c' Tryd.underlying22
set_option maxHeartbeats 1000000 in
theorem Way_into (a : Option Addr) (m cap i j : Nat) (hm : m ≤ 12) (hi : i < m) (hj : j < m) (w : World) (P : Nat → Nat → Nat → World → Prop) (N : World → Prop)
    (hc : Calls Tryd.prog 10 #[.slice a m cap] w fun e w' => e = .returned .nilIface ∧ w' = w)
    (hl : Calls Tryd.prog 36 #[.slice a m cap, .int .i64 i, .int .i64 (2 ^ j : Nat)] w fun e w' => (∃ g n cp, e = .returned (.slice (some ⟨g, 0, none⟩) n cp) ∧ P g n cp w') ∨ (e = .returned (.slice none 0 0) ∧ N w')) :
    Calls Tryd.prog 19 #[.slice a m cap, .int .i64 i, .int .i64 j] w fun e w' => (∃ g n cp, e = .returned (.tuple #[.slice (some ⟨g, 0, none⟩) n cp, .nilIface]) ∧ P g n cp w') ∨ (e = .returned (.tuple #[.slice none 0 0, .iface 45 (.int .i64 5)]) ∧ N w') := by
  have t1 := isThing_yes a m cap i hi hm w
  have t2 := isThing_yes a m cap j hj hm w
  have hp := pow_wrap (a := j) (by omega)
  have q := eqlNilW
  obtain ⟨p, hpe⟩ : ∃ p, 2 ^ j = p := ⟨_, rfl⟩
  rw [hpe] at hp hl
  clear hpe
  go_enter Tryd.func19, Tryd.ntmps19
  go_wp2_with fail
  refine hc.mono ?_
  rintro e w' ⟨rfl, hw⟩
  obtain rfl := hw.symm
  clear hw
  go_wp2_with fail
  refine t1.mono ?_
  clear t1
  rintro e w' ⟨rfl, hw⟩
  obtain rfl := hw.symm
  clear hw
  go_wp2_with fail
  refine t2.mono ?_
  clear t2
  rintro e w' ⟨rfl, hw⟩
  obtain rfl := hw.symm
  clear hw
  go_wp2_with fail
  refine hl.mono ?_
  clear hl
  rintro e w1 (⟨g, n, cp, rfl, hP⟩ | ⟨rfl, hN⟩)
  · go_wp2_with fail
    go_ret2
    exact .inl ⟨g, n, cp, rfl, hP⟩
  · go_wp2_with fail
    go_ret2
    exact .inr ⟨rfl, hN⟩
theorem Way_any (m b0 off cap i j : Nat) (rows : List Nat) (hr : Right m rows) (hi : i < m) (hj : j < m) (w : World) (hl : Lies w b0 off m rows) (hT : Tab w)
    (hc : Calls Tryd.prog 10 #[.slice (some ⟨b0, off, none⟩) m cap] w fun e w' => e = .returned .nilIface ∧ w' = w) :
    Calls Tryd.prog 19 #[.slice (some ⟨b0, off, none⟩) m cap, .int .i64 i, .int .i64 j] w fun e w' => (∃ g n cp, e = .returned (.tuple #[.slice (some ⟨g, 0, none⟩) n cp, .nilIface]) ∧ ∃ D W, n = D + 1 ∧ w.heap.size ≤ g ∧ Own w' g (D + 1) W ∧ W 0 = i ∧ D ≤ 4096 ∧ Dist rows D i j ∧ WayTo m rows j D D W ∧ Below w.heap.size w w') ∨ (e = .returned (.tuple #[.slice none 0 0, .iface 45 (.int .i64 5)]) ∧ (∀ n, ¬ InSteps rows n i j) ∧ Below w.heap.size w w') := by
  refine Way_into _ m cap i j hr.1 hi hj w (fun g n cp w' => ∃ D W, n = D + 1 ∧ w.heap.size ≤ g ∧ Own w' g (D + 1) W ∧ W 0 = i ∧ D ≤ 4096 ∧ Dist rows D i j ∧ WayTo m rows j D D W ∧ Below w.heap.size w w') (fun w' => (∀ n, ¬ InSteps rows n i j) ∧ Below w.heap.size w w') hc ?_
  refine (wayInto_any m b0 off cap i (2 ^ j) hi (Nat.pow_lt_pow_right (by decide) hj) rows hr w hl hT).mono fun e w' ⟨h, hB⟩ => ?_
  rcases h with ⟨g, cp, D, W, he, hg, ho, h0, h4, hd, hW⟩ | ⟨he, hn⟩
  · exact .inl ⟨g, _, cp, he, D, W, rfl, hg, ho, h0, h4, (distS_one _ _ _ _).1 hd, wayTo_of hW, hB⟩
  · exact .inr ⟨he, fun n k => hn n ((inS_one _ _ _ _).2 k), hB⟩
/-- What the way is, where there is one. -/
theorem Way_fine (a : Option Addr) (m cap i j D : Nat) (rows : List Nat) (hr : Right m rows) (hi : i < m) (hj : j < m) (hd : Dist rows D i j) (w : World) (hl : At w a m rows) (hT : Tab w)
    (hc : Calls Tryd.prog 10 #[.slice a m cap] w fun e w' => e = .returned .nilIface ∧ w' = w) :
    Calls Tryd.prog 19 #[.slice a m cap, .int .i64 i, .int .i64 j] w fun e w' => ∃ g cp W, e = .returned (.tuple #[.slice (some ⟨g, 0, none⟩) (D + 1 : Nat) cp, .nilIface]) ∧ w.heap.size ≤ g ∧ Own w' g (D + 1) W ∧ W 0 = i ∧ D ≤ 4096 ∧ WayTo m rows j D D W ∧ Below w.heap.size w w' := by
  rcases hl with h | ⟨b0, off, rfl, hl⟩
  · omega
  refine (Way_any m b0 off cap i j rows hr hi hj w hl hT hc).mono fun e w' h => ?_
  rcases h with ⟨g, n, cp, he, D', W, rfl, hg, ho, h0, h4, hd', hW, hB⟩ | ⟨_, hn, _⟩
  · obtain rfl := hd'.unique hd
    exact ⟨g, cp, W, he, hg, ho, h0, h4, hW, hB⟩
  · exact absurd hd.1 (hn D)
theorem Way_no (a : Option Addr) (m cap i j : Nat) (rows : List Nat) (hr : Right m rows) (hi : i < m) (hj : j < m) (hn : ¬ Reach rows i j) (w : World) (hl : At w a m rows) (hT : Tab w)
    (hc : Calls Tryd.prog 10 #[.slice a m cap] w fun e w' => e = .returned .nilIface ∧ w' = w) :
    Calls Tryd.prog 19 #[.slice a m cap, .int .i64 i, .int .i64 j] w fun e w' => e = .returned (.tuple #[.slice none 0 0, .iface 45 (.int .i64 5)]) ∧ Below w.heap.size w w' := by
  rcases hl with h | ⟨b0, off, rfl, hl⟩
  · omega
  refine (Way_any m b0 off cap i j rows hr hi hj w hl hT hc).mono fun e w' h => ?_
  rcases h with ⟨_, _, _, _, D', W, _, _, _, _, _, hd', _, _⟩ | ⟨he, _, hB⟩
  · exact absurd hd'.1.reach hn
  · exact ⟨he, hB⟩
end Go.Proofs.YtfdappdcihljdaaDoor
