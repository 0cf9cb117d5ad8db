/- Whether levels fit, and the least that do, as the program has them (Fits, Least). -/
import Derived.WalkKit
import Derived.LoopTactic
import Derived.Test.YtioimgeeamchaaaDoorFloN
namespace Go.Proofs.YtioimgeeamchaaaDoor
open Go.RowKit
set_option maxRecDepth 100000
set_option linter.unusedVariables false

theorem ffits_ok {l : List Nod} (a : Option Addr) (cp : Nat) (v : Value) (nv : Nat) (lv : Nat → Int) (hc : fitC l nv lv 0 = 0) (w : World) (hat : AtNods w a l.length (nthD l)) (hl : Lst w v nv lv) (hT : Tab w) :
    Calls Tryd.prog 16 #[.slice a l.length cp, v] w fun e w' => e = .returned (.tuple #[.bool (fitsB (cF l) lv), .nilIface]) ∧ Below w.heap.size w w' := by
  obtain ⟨hp, rfl, hlv⟩ := fitC_ok hc
  have hG := good_of hp
  have tN := needed_ok hp a cp v lv 0 hlv w hat hl hT
  have HL := Hid.mkI (fun w' (k : Below w.heap.size w w') => hl.below k)
  have HT := Hid.mkI ((fitsB_iff (cF l) lv).trans (nd_fits hG fun j hj => (hlv j hj).1).symm)
  obtain ⟨T, hTT⟩ : ∃ T, fitsB (cF l) lv = T := ⟨_, rfl⟩
  rw [hTT] at HT ⊢
  obtain ⟨nn, hnn⟩ : ∃ m, l.length = m := ⟨_, rfl⟩
  rw [hnn] at tN ⊢
  obtain ⟨av, cv, rfl, -⟩ := id hl
  clear hp hlv hG hc hat hl hT hTT hnn
  go_enter Tryd.func16, Tryd.ntmps16
  go_wp2_with (first | (go_at_call 32; (with_reducible refine tN.mono ?_); clear tN; rintro e w1 ⟨M, rfl, H1, hB1⟩; have tQ := fequal_any (.slice (some ⟨M, 0, none⟩) 6 6) (.slice av 6 cv) (ndF l lv) lv T HT.out w1 H1.out (HL.out w1 hB1)) | (go_at_call 33; (with_reducible refine tQ.mono ?_); clear tQ; rintro e w2 ⟨rfl, q, hw⟩; obtain rfl := hw.symm))
  go_ret2
  exact ⟨rfl, below_drawn hB1 q⟩
theorem ffits_no {l : List Nod} (a : Option Addr) (cp : Nat) (v : Value) (nv : Nat) (lv : Nat → Int) (hc : fitC l nv lv 0 ≠ 0) (w : World) (hat : AtNods w a l.length (nthD l)) (hl : Lst w v nv lv) (hT : Tab w) :
    Calls Tryd.prog 16 #[.slice a l.length cp, v] w fun e w' => e = .returned (.tuple #[.bool false, .iface 57 (.int .i64 (fitC l nv lv 0))]) ∧ Below w.heap.size w w' := by
  have tN := needed_no a cp v nv lv 0 hc w hat hl hT
  obtain ⟨c, hcc⟩ : ∃ c, fitC l nv lv 0 = c := ⟨_, rfl⟩
  rw [hcc] at tN ⊢
  obtain ⟨nn, hnn⟩ : ∃ m, l.length = m := ⟨_, rfl⟩
  rw [hnn] at tN ⊢
  obtain ⟨av, cv, rfl, -⟩ := id hl
  clear hc hat hl hT hcc hnn
  go_enter Tryd.func16, Tryd.ntmps16
  go_wp2_with (go_at_call 32; (with_reducible refine tN.mono ?_); clear tN; rintro e w1 ⟨rfl, hB1⟩)
  go_ret2
  exact ⟨rfl, hB1⟩
theorem fleast_no1 {l : List Nod} (a : Option Addr) (cp : Nat) (v : Value) (nv : Nat) (lv : Nat → Int) (hc : fitC l nv lv (-1) ≠ 0) (w : World) (hat : AtNods w a l.length (nthD l)) (hl : Lst w v nv lv) (hT : Tab w) :
    Calls Tryd.prog 17 #[.slice a l.length cp, v] w fun e w' => e = .returned (.tuple #[.slice none 0 0, .iface 57 (.int .i64 (fitC l nv lv (-1)))]) ∧ Below w.heap.size w w' := by
  have tN := needed_no a cp v nv lv (-1) hc w hat hl hT
  obtain ⟨c, hcc⟩ : ∃ c, fitC l nv lv (-1) = c := ⟨_, rfl⟩
  rw [hcc] at tN ⊢
  obtain ⟨nn, hnn⟩ : ∃ m, l.length = m := ⟨_, rfl⟩
  rw [hnn] at tN ⊢
  obtain ⟨av, cv, rfl, -⟩ := id hl
  clear hc hat hl hT hcc hnn
  go_enter Tryd.func17, Tryd.ntmps17
  go_wp2_with (go_at_call 32; (with_reducible refine tN.mono ?_); clear tN; rintro e w1 ⟨rfl, hB1⟩)
  go_ret2
  exact ⟨rfl, hB1⟩
/-- What Least answers where all that comes in is right. -/
def LstR (w : World) (T : Bool) (f : Nat → Int) (e : Ending) (w' : World) : Prop := Below w.heap.size w w' ∧ match T with
  | true => ∃ g, e = .returned (.tuple #[.slice (some ⟨g, 0, none⟩) 6 6, .nilIface]) ∧ Hid (Lst w' (.slice (some ⟨g, 0, none⟩) 6 6) 6 f)
  | false => e = .returned (.tuple #[.slice none 0 0, .iface 57 (.int .i64 6)])
set_option maxHeartbeats 4000000 in
theorem fleast_any {l : List Nod} (a : Option Addr) (cp : Nat) (v : Value) (nv : Nat) (lv : Nat → Int) (hc : fitC l nv lv (-1) = 0) (w : World) (hat : AtNods w a l.length (nthD l)) (hl : Lst w v nv lv) (hT : Tab w) :
    Calls Tryd.prog 17 #[.slice a l.length cp, v] w fun e w' => LstR w (toldB (cF l) lv) (leastI (cF l) lv) e w' := by
  obtain ⟨hp, rfl, hlv⟩ := fitC_ok hc
  have hG := good_of hp
  have tN := needed_ok hp a cp v lv (-1) hlv w hat hl hT
  have hlo : ∀ j, j < 6 → -1 ≤ lv j := fun j hj => (hlv j hj).1
  have HT := Hid.mkI ((toldB_iff (cF l) lv).trans (nd_told hG hlo).symm)
  have HLe := Hid.mkI (fun (h : toldB (cF l) lv = true) (i : Nat) (hi : i < 6) => nd_least hG hlo ((toldB_iff (cF l) lv).1 h) hi)
  obtain ⟨b, off, cv, rfl, hb, hcl⟩ := lst_six_lies hl (by decide)
  have HL := Hid.mkI (fun w' (k : Below w.heap.size w w') (i : Nat) (hi : i < 6) => keep_cell k (hcl i hi))
  obtain ⟨T, hTT⟩ : ∃ T, toldB (cF l) lv = T := ⟨_, rfl⟩
  rw [hTT] at HT HLe ⊢
  obtain ⟨nn, hnn⟩ : ∃ m, l.length = m := ⟨_, rfl⟩
  rw [hnn] at tN ⊢
  clear hp hlv hG hc hat hl hT hTT hnn hlo hcl hb
  go_enter Tryd.func17, Tryd.ntmps17
  go_wp2_with (go_at_call 32; (with_reducible refine tN.mono ?_); clear tN; rintro e w1 ⟨M, rfl, H1, hB1⟩)
  have HZ := Hid.mkI (fun (i : Nat) (hi : i < 6) => show w1.cell? ⟨M, i, none⟩ = some (.int .i64 (ndF l lv i)) by
    obtain ⟨b', off', cp', e, hb', hc'⟩ := lst_six_lies H1.out (by decide)
    cases e
    have := hc' i hi
    rw [Nat.zero_add] at this
    exact this)
  have HL1 := Hid.mkI (HL.out w1 hB1)
  clear HL
  go_loop [21] (fun p => ∃ i : Nat, i ≤ 6 ∧ p = .int .i64 (i : Int) ∧ Hid (∀ j, j < i → lv j = -1 ∨ lv j = ndF l lv j)) (fun p => 6 - (intOf p).toNat)
  case atStart => exact ⟨0, by omega, rfl, fun j hj => absurd hj (by omega)⟩
  case round =>
    obtain ⟨i, hi, rfl, HQ⟩ := hrel
    by_cases hlt : i < 6
    · have hiI : (i : Int) < 6 := by omega
      have z := HL1.out i hlt
      have zn := HZ.out i hlt
      by_cases h1 : lv i = -1
      · have HQ2 : Hid (∀ j, j < i + 1 → lv j = -1 ∨ lv j = ndF l lv j) := fun j hj => by
          by_cases e : j = i
          · rw [e]; exact .inl h1
          · exact HQ.out j (by omega)
        rw [h1] at z
        clear h1 HT HLe
        go_wp2
        go_round
        case rel => exact ⟨i + 1, by omega, by go_num, HQ2.out⟩
        case measure => simp [intOf]; omega
      · by_cases h2 : lv i = ndF l lv i
        · have HQ2 : Hid (∀ j, j < i + 1 → lv j = -1 ∨ lv j = ndF l lv j) := fun j hj => by
            by_cases e : j = i
            · rw [e]; exact .inr h2
            · exact HQ.out j (by omega)
          rw [← h2] at zn
          obtain ⟨y, hy⟩ : ∃ y, lv i = y := ⟨_, rfl⟩
          rw [hy] at z zn h1
          have g1 : (y != -1) = true := by simpa using h1
          have g2 : (y != y) = false := by simp
          clear h1 h2 hy HT HLe
          go_wp2
          go_round
          case rel => exact ⟨i + 1, by omega, by go_num, HQ2.out⟩
          case measure => simp [intOf]; omega
        · obtain rfl : T = false := by
            cases hT : T with
            | false => rfl
            | true => exact absurd (HT.out.1 hT i hlt) (not_or.2 ⟨h1, h2⟩)
          obtain ⟨y, hy⟩ : ∃ y, lv i = y := ⟨_, rfl⟩
          obtain ⟨x, hx⟩ : ∃ y, ndF l lv i = y := ⟨_, rfl⟩
          rw [hy] at z h1 h2
          rw [hx] at zn h2
          have g1 : (y != -1) = true := by simpa using h1
          have g2 : (y != x) = true := by simpa using h2
          clear h1 h2 hy hx HT HLe HQ
          go_wp2
          go_ret2
          exact ⟨hB1, rfl⟩
    · obtain rfl : i = 6 := by omega
      have hTt : T = true := HT.out.2 HQ.out
      have HF := Hid.mkI (H1.out.like fun i hi => HLe.out hTt i hi)
      obtain rfl := hTt.symm
      clear HT HLe HQ
      go_wp2
      go_ret2
      exact ⟨hB1, M, rfl, HF⟩
end Go.Proofs.YtioimgeeamchaaaDoor
