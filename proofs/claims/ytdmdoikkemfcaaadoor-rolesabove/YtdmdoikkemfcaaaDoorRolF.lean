/- The fewest of a user's roles for some tasks (fewest). -/
import Derived.WalkKit
import Derived.LoopTactic
import Derived.Deep.RegionHeld3
import Derived.Deep.DrawnRows
import Derived.Deep.Cut
import Derived.Test.YtdmdoikkemfcaaaDoorRolE
namespace Go.Proofs.YtdmdoikkemfcaaaDoor
open Go.RowKit
set_option maxRecDepth 100000

/-- What the closure caught. -/
structure RCaught (W : World) (p q : Nat) (want : Nat) (g m cG : Nat) : Prop where
  c0 : W.cell? ⟨p, 0, none⟩ = some (.int .i64 (want : Int))
  c1 : W.cell? ⟨q, 0, none⟩ = some (.slice (some ⟨g, 0, none⟩) m cG)
theorem RCaught.below {W W' : World} {p q want g m cG : Nat} (h : RCaught W p q want g m cG) (b : Below W.heap.size W W') : RCaught W' p q want g m cG := ⟨keep_cell b h.c0, keep_cell b h.c1⟩

set_option maxHeartbeats 1000000 in
theorem enough_any (p q want g m cG set : Nat) (f : Nat → Nat) (hm : m ≤ 8) (hf : ∀ i, i < m → f i < 1024) (hw : want < 1024) (hs : set < 2 ^ m) (W : World) (hc : RCaught W p q want g m cG) (ho : Own W g m f) (hT : Tab W) :
    Calls Tryd.prog 63 #[.int .i64 (set : Int), .pointer (some ⟨p, 0, none⟩), .pointer (some ⟨q, 0, none⟩)] W fun e w' => e = .returned (.bool (subB want (stepN m (listOf m f) set))) ∧ Below W.heap.size W w' := by
  obtain ⟨c0, c1⟩ := hc
  have hl := listOf_lt (m := m) (f := f) (B := 1024) (by decide) hf
  have t1 := step_all m (by omega) (some ⟨g, 0, none⟩) cG set (listOf m f) (fun i => by have := hl i; omega) hs W.drew ((own_at ho).below (below_drawn (Below.refl _ W) 1)) (hT.below (below_drawn (Below.refl _ W) 1) hT.size)
  have hsl : stepN m (listOf m f) set < 1024 := stepN_ltk (k := 10) hl set
  have HZ : Hid ((less want (stepN m (listOf m f) set) == 0) = subB want (stepN m (listOf m f) set)) := less_zero _ _
  obtain ⟨y, hy⟩ : ∃ y, stepN m (listOf m f) set = y := ⟨_, rfl⟩
  rw [hy] at t1 hsl HZ ⊢
  have hnn := andNot_i64 want y (by omega) (by omega)
  obtain ⟨z, hz⟩ : ∃ z, less want y = z := ⟨_, rfl⟩
  rw [hz] at hnn HZ
  have HE : Hid (((z : Int) == 0) = subB want y) := by
    show _ = _
    rw [← HZ.out, Bool.eq_iff_iff, beq_iff_eq, beq_iff_eq]
    omega
  have d0 : W.drew.cell? ⟨p, 0, none⟩ = some (.int .i64 (want : Int)) := c0
  have d1 : W.drew.cell? ⟨q, 0, none⟩ = some (.slice (some ⟨g, 0, none⟩) m cG) := c1
  clear hy hz HZ hl hf ho hT
  go_enter Tryd.func63, Tryd.ntmps63
  go_wp2
  first | (go_region_held3 (fun w' => w'.cell? ⟨p, 0, none⟩ = some (.int .i64 (want : Int)) ∧ w'.cell? ⟨q, 0, none⟩ = some (.slice (some ⟨g, 0, none⟩) m cG)) ((go_split_ands; refine ⟨?_, ?_⟩ <;> (with_reducible assumption))) ((go_at_call 43; (with_reducible refine t1.mono ?_); rintro e w2 ⟨rfl, hBs⟩; have d0b := keep_cell hBs d0; have d1b := keep_cell hBs d1))) | fail
  all_goals
    go_wp2
    go_ret
    exact ⟨ret_bool HE.out, undrew2 hBs⟩

/-- Of a list of one's own that brings tasks: the fewest of some roles. -/
def enB (m : Nat) (f : Nat → Nat) (want s : Nat) : Bool := subB want (stepN m (listOf m f) s)
def fewB (m : Nat) (f : Nat → Nat) (all want s : Nat) : Bool := subB s all && enB m f want s

theorem fewest_pre (w : World) (g m cG want : Nat) :
    ∃ w1, ((w.alloc (.cells #[.slice (some ⟨g, 0, none⟩) m cG] 34)).alloc (.cells #[.int .i64 (want : Int)] 3)) = w1 ∧ Below w.heap.size w w1 ∧ RCaught w1 (w.heap.size + 1) w.heap.size want g m cG := by
  have h1 := (cell_new_l (w.alloc (.cells #[.slice (some ⟨g, 0, none⟩) m cG] 34)) (.int .i64 (want : Int)) 3).1
  rw [World.size_alloc] at h1
  exact ⟨_, rfl, ((Below.refl _ w).alloc (Nat.le_refl _) _).alloc (by simp) _, h1, cell_alloc_l _ (cell_new_l w (.slice (some ⟨g, 0, none⟩) m cG) 34).1⟩

set_option maxHeartbeats 4000000 in
theorem fewest_no (g m cG all want : Nat) (f : Nat → Nat) (hm : m ≤ 8) (hf : ∀ i, i < m → f i < 1024) (hw : want < 1024) (ha : all < 2 ^ m) (hn : enB m f want all = false) (w : World) (ho : Own w g m f) (hT : Tab w) :
    Calls Tryd.prog 45 #[.slice (some ⟨g, 0, none⟩) m cG, .int .i64 all, .int .i64 want] w fun e w' => e = .returned (.tuple #[.int .i64 0, .iface 54 (.int .i64 7)]) ∧ Below w.heap.size w w' := by
  obtain ⟨w1, hw1, hB0, hC⟩ := fewest_pre w g m cG want
  have t1 := enough_any (w.heap.size + 1) w.heap.size want g m cG all f hm hf hw ha w1 hC (ho.below hB0) (hT.below hB0 hT.size)
  unfold enB at hn
  rw [hn] at t1
  clear hn ho hT hC hf
  go_enter Tryd.func45, Tryd.ntmps45
  go_wp2_with (go_at_call 63; (with_reducible refine t1.mono ?_); rintro e w2 ⟨rfl, hB⟩)
  go_ret2
  exact ⟨rfl, hB0.trans (hB.mono hB0.size)⟩

set_option maxHeartbeats 4000000 in
theorem fewest_yes (g m cG all want : Nat) (f : Nat → Nat) (hm : m ≤ 8) (hf : ∀ i, i < m → f i < 1024) (hw : want < 1024) (ha : all < 2 ^ m) (hn : enB m f want all = true) (w : World) (ho : Own w g m f) (hT : Tab w) :
    Calls Tryd.prog 45 #[.slice (some ⟨g, 0, none⟩) m cG, .int .i64 all, .int .i64 want] w fun e w' => e = .returned (.tuple #[.int .i64 (fewN (fewB m f all want) all all : Nat), .nilIface]) ∧ Below w.heap.size w w' := by
  obtain ⟨w1, hw1, hB0, hC⟩ := fewest_pre w g m cG want
  have h8 := pow8 hm
  have tE := fun s (hs : s < 2 ^ m) W (hb : Below w1.heap.size w1 W) => enough_any (w.heap.size + 1) w.heap.size want g m cG s f hm hf hw hs W (hC.below hb) ((ho.below hB0).below hb) ((hT.below hB0 hT.size).below hb (hT.below hB0 hT.size).size)
  have t1 := tE all ha w1 (Below.refl _ _)
  have HN := Hid.mkI hn
  unfold enB at hn
  rw [hn] at t1
  have tC := fun x (hx : x < 256) W => count_any x hx W
  have HA : Hid (fewB m f all want all = true) := by show _ = _; unfold fewB; rw [sub_refl, HN.out]; rfl
  have HL : Hid (∀ k, fewN (fewB m f all want) all k < 2 ^ m) := fun k => by
    have := fewN_in (all := all) HA.out k
    unfold fewB at this
    rw [Bool.and_eq_true] at this
    exact Nat.lt_of_le_of_lt (sub_le this.1) ha
  clear hn ho hT hC hf
  go_enter Tryd.func45, Tryd.ntmps45
  go_wp2_with (go_at_call 63; (with_reducible refine t1.mono ?_); clear t1; rintro e w2 ⟨rfl, hB⟩)
  go_loopw [9, 19] (fun o p wr => ∃ (k b : Nat), k ≤ all ∧ p = .int .i64 k ∧ o = .int .i64 b ∧ Hid (fewN (fewB m f all want) all k = b) ∧ Below w1.heap.size w1 wr) (fun _ p _ => all - (intOf p).toNat)
  case atStart => exact ⟨0, all, by omega, rfl, rfl, rfl, hB⟩
  case round =>
    obtain ⟨k, b, hk, rfl, rfl, HF, hB2⟩ := hrel
    by_cases hlt : k < all
    · have hki : (k : Int) < (all : Int) := by omega
      have hbl : b < 256 := by have := HL.out k; rw [HF.out] at this; omega
      have hkl : k < 256 := by omega
      have hnn := andNot_i64 k all (by omega) (by omega)
      have HZ : Hid ((less k all == 0) = subB k all) := less_zero _ _
      have HS : Hid (fewN (fewB m f all want) all (k + 1) = if fewB m f all want k = true ∧ pop k < pop b then k else b) := by show _ = _; rw [fewN, HF.out]
      obtain ⟨z, hz⟩ : ∃ z, less k all = z := ⟨_, rfl⟩
      rw [hz] at hnn HZ
      cases hsb : subB k all with
      | false =>
        have hz0 : ((z : Int) == 0) = false := by
          have := HZ.out
          rw [hsb] at this
          simp at this ⊢; omega
        have HS2 : Hid (fewN (fewB m f all want) all (k + 1) = b) := by show _ = _; rw [HS.out, if_neg (by unfold fewB; rw [hsb]; simp)]
        clear hz hsb HS tE tC
        go_wp2
        go_roundw
        case rel => exact ⟨k + 1, b, by omega, by go_num, rfl, HS2, hB2⟩
        case measure => simp [intOf]; omega
      | true =>
        have hz0 : ((z : Int) == 0) = true := by
          have := HZ.out
          rw [hsb] at this
          simp at this ⊢; omega
        have t2 := fun W => tC k hkl W
        have t3 := fun W => tC b hbl W
        have HP := HS
        obtain ⟨x1, hx1⟩ : ∃ x, pop k = x := ⟨_, rfl⟩
        obtain ⟨x2, hx2⟩ : ∃ x, pop b = x := ⟨_, rfl⟩
        rw [hx1] at t2 HP
        rw [hx2] at t3 HP
        by_cases hlp : x1 < x2
        · have hli : (x1 : Int) < (x2 : Int) := by omega
          have t4 := tE k (by omega) wr hB2
          cases hen : enB m f want k with
          | false =>
            have HS2 : Hid (fewN (fewB m f all want) all (k + 1) = b) := by show _ = _; rw [HP.out, if_neg (by unfold fewB; rw [hen]; simp)]
            unfold enB at hen
            rw [hen] at t4
            clear hz hsb HS tE tC hx1 hx2 HP hen hlp
            go_wp2_with (first | (go_at_call 64; (with_reducible refine (t2 _).mono ?_); clear t2; rintro e w' ⟨rfl, rfl⟩) | (go_at_call 64; (with_reducible refine (t3 _).mono ?_); clear t3; rintro e w' ⟨rfl, rfl⟩) | (go_at_call 63; (with_reducible refine t4.mono ?_); rintro e w3 ⟨rfl, hB3⟩))
            go_roundw
            case rel => exact ⟨k + 1, b, by omega, by go_num, rfl, HS2, hB2.trans (hB3.mono hB2.size)⟩
            case measure => simp [intOf]; omega
          | true =>
            have HS2 : Hid (fewN (fewB m f all want) all (k + 1) = k) := by show _ = _; rw [HP.out, if_pos ⟨by unfold fewB; rw [hen, hsb]; rfl, hlp⟩]
            unfold enB at hen
            rw [hen] at t4
            clear hz hsb HS tE tC hx1 hx2 HP hen hlp
            go_wp2_with (first | (go_at_call 64; (with_reducible refine (t2 _).mono ?_); clear t2; rintro e w' ⟨rfl, rfl⟩) | (go_at_call 64; (with_reducible refine (t3 _).mono ?_); clear t3; rintro e w' ⟨rfl, rfl⟩) | (go_at_call 63; (with_reducible refine t4.mono ?_); rintro e w3 ⟨rfl, hB3⟩))
            go_roundw
            case rel => exact ⟨k + 1, k, by omega, by go_num, rfl, HS2, hB2.trans (hB3.mono hB2.size)⟩
            case measure => simp [intOf]; omega
        · have hli : (x2 : Int) ≤ (x1 : Int) := by omega
          have HS2 : Hid (fewN (fewB m f all want) all (k + 1) = b) := by show _ = _; rw [HP.out, if_neg (fun h => hlp h.2)]
          clear hz hsb HS tE tC hx1 hx2 HP hlp
          go_wp2_with (first | (go_at_call 64; (with_reducible refine (t2 _).mono ?_); clear t2; rintro e w' ⟨rfl, rfl⟩) | (go_at_call 64; (with_reducible refine (t3 _).mono ?_); clear t3; rintro e w' ⟨rfl, rfl⟩))
          go_roundw
          case rel => exact ⟨k + 1, b, by omega, by go_num, rfl, HS2, hB2⟩
          case measure => simp [intOf]; omega
    · have hge : (all : Int) ≤ (k : Int) := by omega
      have HE : Hid (b = fewN (fewB m f all want) all all) := by
        have e : k = all := by omega
        have := HF.out
        rw [e] at this
        exact this.symm
      clear tE tC HF HL HA HN
      go_wp2
      go_ret2
      exact ⟨by rw [← HE.out]; rfl, hB0.trans (hB2.mono hB0.size)⟩
end Go.Proofs.YtdmdoikkemfcaaaDoor
