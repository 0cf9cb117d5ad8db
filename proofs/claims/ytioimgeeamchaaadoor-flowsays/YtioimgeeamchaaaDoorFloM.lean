/- What flows into what in so many steps, as the program has it (From); levels that are wrong (checkLevels); whether two lists are the same (slices.Equal). -/
import Derived.WalkKit
import Derived.LoopTactic
import Derived.OwnWalk
import Derived.Laws.MakeOwn
import Derived.Deep.QuietTactic
import Derived.BigQuiet
import Derived.Test.YtioimgeeamchaaaDoorFloK
import Derived.Test.YtioimgeeamchaaaDoorProY
import Derived.Test.YtioimgeeamchaaaDoorWith
import Derived.Test.YtioimgeeamchaaaDoorLst
namespace Go.Proofs.YtioimgeeamchaaaDoor
open Go.RowKit
set_option maxRecDepth 100000
set_option linter.unusedVariables false

theorem lst_six_lies {w : World} {v : Value} {n : Nat} {f : Nat → Int} (h : Lst w v n f) (h0 : 0 < n) : ∃ b off cp, v = .slice (some ⟨b, off, none⟩) n cp ∧ b < w.heap.size ∧ ∀ i, i < n → w.cell? ⟨b, off + i, none⟩ = some (.int .i64 (f i)) := by
  obtain ⟨a, cp, rfl, h⟩ := h
  obtain ⟨b, off, rfl, hb, hc⟩ := h.resolve_left (by omega)
  exact ⟨b, off, cp, rfl, hb, hc⟩
theorem Own.likeR {w : World} {B m : Nat} {f g : Nat → Nat} (h : Own w B m f) (e : ∀ j, j < m → g j = f j) : Own w B m g := ⟨h.lt, fun j hj => by rw [e j hj]; exact h.cell j hj, h.free⟩
/-- A program's own finder, new. -/
theorem fnd_new (w0 w : World) (hB : Below w0.heap.size w0 w) (pv : Value) (t : TypeId) (o : Obj) (ho : Own (w.alloc o) w.heap.size 6 (fun _ => 0)) :
    Fnd w0 (w.heap.size + 1) w.heap.size 6 pv (fun _ => 0) ((w.alloc o).alloc (.cells #[pv, .slice (some ⟨w.heap.size, 0, none⟩) 6 6] t)) := by
  have hs := hB.size
  have h1 := World.alloc_heap_new (w.alloc o) (.cells #[pv, .slice (some ⟨w.heap.size, 0, none⟩) 6 6] t)
  have e : (w.alloc o).heap.size = w.heap.size + 1 := by simp
  rw [e] at h1
  have hB2 : Below (w.alloc o).heap.size (w.alloc o) ((w.alloc o).alloc (.cells #[pv, .slice (some ⟨w.heap.size, 0, none⟩) 6 6] t)) := (Below.refl _ _).alloc (Nat.le_refl _) _
  refine ⟨by omega, ?_, ?_, hs, ho.below hB2, by omega, (hB.alloc hs _).alloc (by rw [e]; omega) _⟩
  · simp only [World.cell?]; rw [h1]; rfl
  · simp only [World.cell?]; rw [h1]; rfl
set_option maxHeartbeats 4000000 in
theorem ffrom_ok {l : List Nod} (hp : proC l = 0) (a : Option Addr) (cp : Nat) (w : World) (hat : AtNods w a l.length (nthD l)) (hT : Tab w) :
    Calls Tryd.prog 13 #[.slice a l.length cp] w fun e w' => ∃ g, e = .returned (.tuple #[.slice (some ⟨g, 0, none⟩) 6 6, .nilIface]) ∧ w.heap.size ≤ g ∧ Hid (Own w' g 6 (comF l)) ∧ Below w.heap.size w w' := by
  have hG := good_of hp
  have h80 := hG.r.few
  have h1 := hG.r.some
  have tK := wcheck_any l a cp w hat
  rw [hp, errV_zero] at tK
  have HD := Hid.mkI (fun (X M : Nat) (w' : World) (h : Fnd w X M 6 (.slice a l.length cp) (fun _ => 0) w') => show Calls Tryd.prog 30 #[fdP X, .int .i64 ((l.length - 1 : Nat) : Int), .int .i64 0] w' fun e w'' => e = .returned (.tuple #[]) ∧ Fnd w X M 6 (.slice a l.length cp) (fun v => 0 ||| flD l (l.length - 1) 0 v) w'' ∧ Apart M M w' w'' from fdeed_any (cM := 6) (cp := cp) hG hat l.length (l.length - 1) (by omega) (by omega) hG.r.deed 0 (fun _ => 0) w' (by decide) (fun _ => by decide) h)
  have HRow := Hid.mkI (fun v => show (0 ||| flD l (l.length - 1) 0 v) = rowF l v by
    rw [Nat.zero_or, flD, rowF, show l.length - 1 + 1 = l.length by omega])
  have HC := Hid.mkI (fun (M : Nat) (w' : World) (hB : Below w.heap.size w w') (h : Own w' M 6 (fun v => rowF l v)) => Closure_own 6 M 6 (fun v => rowF l v) (by decide) (fun v _ => rowF_small hG v) w' h (hT.below hB hT.size))
  obtain ⟨n, hn⟩ : ∃ n, l.length = n := ⟨_, rfl⟩
  have HM : Hid ((n : Int) - 1 = ((n - 1 : Nat) : Int)) := by show _ = _; omega
  rw [hn] at tK HD HRow h80 h1 ⊢
  obtain ⟨m, hm⟩ : ∃ m, n - 1 = m := ⟨_, rfl⟩
  rw [hm] at HD HRow HM
  have hmI : (n : Int) = (m : Int) + 1 := by omega
  have e1 : wrap64 ((n : Int) - 1) = (m : Int) := by
    rw [HM.out]; exact IntWalk.wrap64_in _ ⟨by omega, by omega⟩
  have e2 : IntKind.i64.wrap ((n : Int) - 1) = (m : Int) := by rw [HM.out]; exact wraps62 _ (by omega) (by omega)
  have HLen := Hid.mkI hn
  have HSz := Hid.mkI hT.size
  clear hG hp hat hn hT hm
  go_enter Tryd.func13, Tryd.ntmps13
  go_wp2_with (first | (go_at_call 29; (with_reducible refine tK.mono ?_); clear tK; rintro e w1 ⟨rfl, hB1⟩; have hmk : (Instr.makeSlice 23 (.int .i64 6) (.int .i64 6)).run Tryd.prog w1 = .ok (.slice (some ⟨w1.heap.size, 0, none⟩) 6 6) (w1.alloc (.cells (madeCells #[.int .i64 0] 6) 3)) := make_any w1 6 (by decide); have H0 := Hid.mkI (fnd_new w w1 hB1 (.slice a n cp) 55 (.cells (madeCells #[.int .i64 0] 6) 3) (Own.made w1 6)); have hs1 := hB1.size; have tD := HD.out (w1.heap.size + 1) w1.heap.size _ H0.out) | (go_at_call 30; (with_reducible refine tD.mono ?_); clear tD; rintro e w2 ⟨rfl, H2, A2⟩; have hB2 := H2.bel; have x1 := H2.c1; have hO2 := Hid.mkI (H2.own.likeR fun v _ => (HRow.out v).symm); have tC := HC.out w1.heap.size w2 hB2 hO2.out) | (go_at_call 21; (with_reducible refine tC.mono ?_); clear tC; rintro e w3 ⟨rfl, hO3, hB3⟩; have hB4 := hB2.trans (hB3.mono hB2.size)))
  go_ret2
  exact ⟨w2.heap.size, rfl, hB2.size, hO3, hB4⟩
theorem ffrom_no {l : List Nod} (hp : proC l ≠ 0) (a : Option Addr) (cp : Nat) (w : World) (hat : AtNods w a l.length (nthD l)) :
    Calls Tryd.prog 13 #[.slice a l.length cp] w fun e w' => e = .returned (.tuple #[.slice none 0 0, .iface 57 (.int .i64 (proC l))]) ∧ Below w.heap.size w w' := by
  have tK := wcheck_any l a cp w hat
  obtain ⟨c, hc⟩ : ∃ c, proC l = c := ⟨_, rfl⟩
  rw [hc] at hp tK ⊢
  have he : errV c = .iface 57 (.int .i64 c) := if_neg hp
  rw [he] at tK
  obtain ⟨n, hn⟩ : ∃ n, l.length = n := ⟨_, rfl⟩
  rw [hn] at tK ⊢
  clear he hc hp hat hn
  go_enter Tryd.func13, Tryd.ntmps13
  go_wp2_with (go_at_call 29; (with_reducible refine tK.mono ?_); clear tK; rintro e w1 ⟨rfl, hB1⟩)
  go_ret2
  exact ⟨rfl, hB1⟩
theorem fcheck_any (v : Value) (n : Nat) (lv : Nat → Int) (low : Int) (w : World) (hl : Lst w v n lv) :
    Calls Tryd.prog 48 #[v, .int .i64 low] w fun e w' => e = .returned (errV (levC n lv low)) ∧ w' = w := by
  by_cases hn : n = 6
  · subst hn
    obtain ⟨b, off, cp, rfl, hb, hc⟩ := lst_six_lies hl (by decide)
    have HBad := Hid.mkI (fun (j : Nat) (hj : j < 6) (h : lv j < low ∨ 7 < lv j) => levC_bad hj h)
    have HFine := Hid.mkI (fun (h : ∀ j, j < 6 → low ≤ lv j ∧ lv j ≤ 7) => levC_fine h)
    obtain ⟨c, hcc⟩ : ∃ c, levC 6 lv low = c := ⟨_, rfl⟩
    rw [hcc] at HBad HFine ⊢
    have HC := Hid.mkI hc
    clear hcc hl hc
    go_enter Tryd.func48, Tryd.ntmps48
    go_wp2
    go_loop [13] (fun p => ∃ i : Nat, i ≤ 6 ∧ p = .int .i64 (i : Int) ∧ Hid (∀ j, j < i → low ≤ lv j ∧ lv j ≤ 7)) (fun p => 6 - (intOf p).toNat)
    case atStart => exact ⟨0, by omega, rfl, fun j hj => absurd hj (by omega)⟩
    case round =>
      obtain ⟨i, hi, rfl, HQ⟩ := hrel
      by_cases hlt : i < 6
      · have hiI : (i : Int) < 6 := by omega
        have z := HC.out i hlt
        have HB := Hid.mkI (HBad.out i hlt)
        obtain ⟨y, hy⟩ : ∃ y, lv i = y := ⟨_, rfl⟩
        rw [hy] at z HB
        by_cases h1 : y < low
        · obtain rfl := (HB.out (.inl h1)).symm
          clear HB HBad HFine hy
          go_wp2
          go_ret
          exact ⟨rfl, rfl⟩
        · by_cases h2 : 7 < y
          · obtain rfl := (HB.out (.inr h2)).symm
            clear HB HBad HFine hy
            go_wp2
            go_ret
            exact ⟨rfl, rfl⟩
          · have HQ2 : Hid (∀ j, j < i + 1 → low ≤ lv j ∧ lv j ≤ 7) := fun j hj => by
              by_cases e : j = i
              · rw [e, hy]; omega
              · exact HQ.out j (by omega)
            clear HB hy
            go_wp2
            go_round
            case rel => exact ⟨i + 1, by omega, by go_num, HQ2.out⟩
            case measure => simp [intOf]; omega
      · obtain rfl : i = 6 := by omega
        obtain rfl := (HFine.out HQ.out).symm
        clear HBad HFine
        go_wp2
        go_ret
        exact ⟨rfl, rfl⟩
  · have e : levC n lv low = 3 := by unfold levC; rw [if_pos hn]
    rw [e]
    obtain ⟨a, cp, rfl, -⟩ := hl
    have hnI : ((n : Int) != 6) = true := by simp; omega
    clear e hn
    go_enter Tryd.func48, Tryd.ntmps48
    go_wp2
    go_ret
    exact ⟨rfl, rfl⟩
theorem fequal_any (v1 v2 : Value) (f g : Nat → Int) (T : Bool) (hT : T = true ↔ ∀ i, i < 6 → f i = g i) (w : World) (h1 : Lst w v1 6 f) (h2 : Lst w v2 6 g) :
    Calls Tryd.prog 33 #[v1, v2] w fun e w' => e = .returned (.bool T) ∧ ∃ k, w' = w.drewN k := by
  obtain ⟨b1, o1, c1, rfl, -, h1⟩ := lst_six_lies h1 (by decide)
  obtain ⟨b2, o2, c2, rfl, -, h2⟩ := lst_six_lies h2 (by decide)
  have H1 := Hid.mkI h1
  have H2 := Hid.mkI h2
  have HT := Hid.mkI hT
  clear h1 h2 hT
  go_enter Tryd.func33, Tryd.ntmps33
  go_wp2
  go_loopw [13] (fun p wr => ∃ (k q : Nat), k ≤ 6 ∧ p = .int .i64 k ∧ Hid (w.drewN q = wr) ∧ Hid (∀ i, i < k → f i = g i)) (fun p _ => 6 - (intOf p).toNat)
  case atStart => exact ⟨0, 0, by omega, rfl, rfl, fun j hj => absurd hj (by omega)⟩
  case round =>
    obtain ⟨k, q, hk, rfl, HW, HQ⟩ := hrel
    by_cases hlt : k < 6
    · have hkI : (k : Int) < 6 := by omega
      have e1 : wr.cell? ⟨b1, o1 + k, none⟩ = some (.int .i64 (f k)) := by rw [← HW.out]; exact H1.out k hlt
      have e2 : wr.cell? ⟨b2, o2 + k, none⟩ = some (.int .i64 (g k)) := by rw [← HW.out]; exact H2.out k hlt
      by_cases hfg : f k = g k
      · have HQ2 : Hid (∀ i, i < k + 1 → f i = g i) := fun i hi => by
          by_cases e : i = k
          · rw [e]; exact hfg
          · exact HQ.out i (by omega)
        rw [hfg] at e1
        obtain ⟨y, hy⟩ : ∃ y, g k = y := ⟨_, rfl⟩
        rw [hy] at e1 e2
        have hyy : (y != y) = false := by simp
        clear hfg hy HT H1 H2
        go_wp2
        go_quiet (fail)
        go_wp2
        go_roundw
        case rel => exact ⟨k + 1, q + nq, by omega, by go_num, by show _ = _; rw [← HW.out, World.drewN_drewN], HQ2⟩
        case measure => simp [intOf]; omega
      · obtain rfl : T = false := by
          cases hT : T with
          | false => rfl
          | true => exact absurd (HT.out.1 hT k hlt) hfg
        obtain ⟨y, hy⟩ : ∃ y, g k = y := ⟨_, rfl⟩
        obtain ⟨x, hx⟩ : ∃ y, f k = y := ⟨_, rfl⟩
        rw [hy] at e2 hfg
        rw [hx] at e1 hfg
        have hyy : (x != y) = true := by simpa using hfg
        clear hfg hy hx HT H1 H2
        go_wp2
        go_quiet (fail)
        go_wp2
        go_ret
        exact ⟨rfl, q + nq, by rw [← HW.out, World.drewN_drewN]⟩
    · obtain rfl : k = 6 := by omega
      obtain rfl := (HT.out.2 HQ.out).symm
      clear HT
      go_wp2
      go_ret
      exact ⟨rfl, q, HW.out.symm⟩
end Go.Proofs.YtioimgeeamchaaaDoor
