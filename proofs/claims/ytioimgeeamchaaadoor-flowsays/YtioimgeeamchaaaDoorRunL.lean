/- The program's Check and Run. -/
import Derived.WalkKit
import Derived.LoopTactic
import Derived.OwnWalk
import Derived.Deep.LoopGhost
import Derived.Deep.RegionHeld3
import Derived.Deep.QuietTactic
import Derived.Maps.AppendAt
import Derived.Lib.SliceRun
import Derived.Test.YtioimgeeamchaaaDoorRunI
import Derived.Test.YtioimgeeamchaaaDoorRunK
import Derived.Test.YtioimgeeamchaaaDoorProY
namespace Go.Proofs.YtioimgeeamchaaaDoor
open Go.RowKit
set_option maxRecDepth 100000
set_option linter.unusedVariables false

theorem own_lowR {w : World} {B B' e k n : Nat} {v : Value} {xs : List Value} (h : w.ownsRow B e k v n xs) (hb : B' ≤ B) : w.ownsRow B' e k v n xs := by
  obtain ⟨h1, h2 | ⟨g, cap, cur, hv, hg, r⟩⟩ := h
  · exact ⟨h1, .inl h2⟩
  · exact ⟨h1, .inr ⟨g, cap, cur, hv, Nat.le_trans hb hg, r⟩⟩
theorem clone_six (b off n c : Nat) (h0 : 0 < n) (hn : n ≤ 4096) (f : Nat → Int) (w : World) (hc : ∀ j, j < n → w.cell? ⟨b, off + j, none⟩ = some (.int .i64 (f j))) :
    Calls Tryd.prog 36 #[.slice (some ⟨b, off, none⟩) n c] w fun e w' => ∃ g cp, e = .returned (.slice (some ⟨g, 0, none⟩) n cp) ∧ w'.ownsRow w.heap.size 3 1 (.slice (some ⟨g, 0, none⟩) n cp) n (rowI n f) ∧ Below w.heap.size w w' := by
  obtain ⟨i0, hi0, hz0, hz1, hz2⟩ := info_parts info3i
  have ho := World.ownsRow_lit (base := w.heap.size) (e := 3) (size := 1) w #[] 0 (Nat.le_refl _) (by decide) (by simp)
  have hBa : Below w.heap.size w (w.alloc (.cells #[] 3)) := (Below.refl _ w).alloc (Nat.le_refl _) _
  have hnews : ∀ j u, (rowI n f)[j]? = some u → (w.alloc (.cells #[] 3)).cell? ((⟨b, off, none⟩ : Addr).add j) = some u := by
    intro j u hu
    have hj : j < n := by
      by_cases h : j < n
      · exact h
      · simp [rowI, h] at hu
    rw [rowI_get f hj] at hu
    rw [Go.WideShapes.add_plain, ← hu]
    exact keep_cell hBa (hc j hj)
  have hone : ∀ u ∈ rowI n f, u.oneCell' = true := by
    intro u hu
    simp only [rowI, List.mem_map] at hu
    obtain ⟨j, _, rfl⟩ := hu
    rfl
  have hl : (rowI n f).length = n * 1 := by simp [rowI]
  have h4 : 0 + n ≤ maxLen := by unfold maxLen; omega
  have h5 : (0 + n) * 8 ≤ 140737488355328 := by omega
  have hb : w.heap.size ≤ (w.alloc (.cells #[] 3)).heap.size := hBa.size
  have HFix : Hid (∀ v' w', w'.ownsRow w.heap.size 3 1 v' (0 + n) ([] ++ rowI n f) → (w.alloc (.cells #[] 3)).grownBy w' (some w.heap.size) → ∃ g cp, v' = .slice (some ⟨g, 0, none⟩) n cp ∧ w'.ownsRow w.heap.size 3 1 (.slice (some ⟨g, 0, none⟩) n cp) n (rowI n f) ∧ Below w.heap.size w w') := by
    intro v' w' hown hg
    rw [Nat.zero_add, List.nil_append] at hown
    obtain ⟨g, cp, rfl⟩ := drow_someK hown h0
    exact ⟨g, cp, rfl, hown, hBa.grown hg hb (fun q hq => by cases hq; exact Nat.le_refl _)⟩
  clear hc
  have q22 : ∀ (w : World) (a : Option Addr) (n c n' c' : Nat), (binOp .eql 23 (.slice a n c) (.slice none n' c')).run Tryd.prog w = .ok (.bool a.isNone) w := fun w a n c n' c' => Lib.run_eql_slice_nil w _ _ a n c n' c' Tryd.underlying23
  go_enter Tryd.func36, Tryd.ntmps36
  go_wp2_with (at_builtin; refine wpList_append_own_at _ rfl _ _ 23 rfl w.heap.size 3 i0 (.int .i64 0) 1 8 Tryd.underlying23 hi0 hz0 hz1 hz2 rfl (by decide) _ 0 [] rfl ho ⟨b, off, none⟩ n c (rowI n f) rfl hl hnews hone h4 h5 hb ?_; intro v' w3 hown' hgrow hnil hat; obtain ⟨g, cp, rfl, hown, hB⟩ := HFix.out v' w3 hown' hgrow)
  go_ret
  exact ⟨g, cp, rfl, hown, hB⟩
set_option maxHeartbeats 4000000 in
theorem runCheck_any (l : List Nod) (a : Option Addr) (cp : Nat) (v : Value) (nv : Nat) (s : Nat → Int) (F : Int) (w : World) (hat : AtNods w a l.length (nthD l)) (hl : Lst w v nv s) :
    Calls Tryd.prog 35 #[.slice a l.length cp, v, .int .i64 F] w fun e w' => e = .returned (errV (runC l nv s F)) ∧ Below w.heap.size w w' := by
  have tP := wcheck_any l a cp w hat
  obtain ⟨av, cv, rfl, hlv⟩ := hl
  unfold runC
  by_cases hc : proC l = 0
  · rw [hc, errV_zero] at tP
    rw [if_neg (by simpa using hc)]
    by_cases h6 : nv = 6
    · subst h6
      rw [if_neg (by simp)]
      obtain ⟨bv, ov, rfl, hbv, hcv⟩ := hlv.resolve_left (by omega)
      obtain ⟨R, hR⟩ : ∃ R : Int, (if (List.range 6).any (fun j => decide (s j < 0 ∨ 999999 < s j)) = true then 1 else if F < 0 ∨ 5000 < F then 1 else 0) = R := ⟨_, rfl⟩
      rw [hR]
      have HR := Hid.mkI hR
      have Hcv := Hid.mkI hcv
      clear hR hcv hlv hat hc
      obtain ⟨n, hn⟩ : ∃ n, l.length = n := ⟨_, rfl⟩
      rw [hn] at tP ⊢
      clear hn
      go_enter Tryd.func35, Tryd.ntmps35
      go_wp2_with (go_at_call 29; (with_reducible refine tP.mono ?_); clear tP; rintro e w1 ⟨rfl, hB1⟩)
      go_loopw [21] (fun p wr => ∃ k : Nat, k ≤ 6 ∧ p = .int .i64 (k : Int) ∧ Below w.heap.size w wr ∧ Hid (∀ j, j < k → 0 ≤ s j ∧ s j ≤ 999999)) (fun p _ => 7 - (intOf p).toNat)
      case atStart => exact ⟨0, by omega, rfl, hB1, fun j hj => absurd hj (by omega)⟩
      case round =>
        clear hB1
        obtain ⟨k, hk, rfl, hB1, H⟩ := hrel
        by_cases hlt : k < 6
        · have hkI : (k : Int) < 6 := by omega
          have c1 := keep_cell hB1 (Hcv.out k hlt)
          by_cases hs : 0 ≤ s k ∧ s k ≤ 999999
          · have H2 : Hid (∀ j, j < k + 1 → 0 ≤ s j ∧ s j ≤ 999999) := fun j hj => by
              by_cases e : j = k
              · rw [e]; exact hs
              · exact H.out j (by omega)
            obtain ⟨y, hy⟩ : ∃ y, s k = y := ⟨_, rfl⟩
            rw [hy] at c1 hs
            obtain ⟨hs1, hs2⟩ := hs
            clear hy
            go_wp2
            go_roundw
            case measure => simp [intOf]; omega
            case rel => exact ⟨k + 1, by omega, by go_num, hB1, H2⟩
          · have H2 : Hid (R = 1) := by
              show R = 1
              rw [← HR.out, if_pos (bad_any hlt (by omega))]
            obtain rfl := H2.out
            have hE : Ending.returned (.iface 57 (.int .i64 1)) = Ending.returned (errV 1) := rfl
            obtain ⟨y, hy⟩ : ∃ y, s k = y := ⟨_, rfl⟩
            rw [hy] at c1 hs
            clear hy H2 HR
            rcases (show y < 0 ∨ (0 ≤ y ∧ 999999 < y) by omega) with h0 | ⟨h0, h1⟩
            · clear hs
              go_wp2
              go_ret
              exact ⟨rfl, hB1⟩
            · clear hs
              go_wp2
              go_ret
              exact ⟨rfl, hB1⟩
        · obtain rfl : k = 6 := by omega
          have hE : R = if F < 0 ∨ 5000 < F then 1 else 0 := by rw [← HR.out, if_neg (by rw [bnd_any H.out]; decide)]
          clear HR
          rcases (show F < 0 ∨ (0 ≤ F ∧ 5000 < F) ∨ (0 ≤ F ∧ F ≤ 5000) by omega) with h0 | ⟨h0, h1⟩ | ⟨h0, h1⟩
          · rw [if_pos (by omega)] at hE
            subst hE
            go_wp2
            go_ret
            exact ⟨rfl, hB1⟩
          · rw [if_pos (by omega)] at hE
            subst hE
            go_wp2
            go_ret
            exact ⟨rfl, hB1⟩
          · rw [if_neg (by omega)] at hE
            subst hE
            go_wp2
            go_ret
            exact ⟨rfl, hB1⟩
    · rw [if_pos h6]
      have h6I : ((nv : Int) != 6) = true := by simpa using (show (nv : Int) ≠ 6 by omega)
      clear hlv hat hc
      obtain ⟨n, hn⟩ : ∃ n, l.length = n := ⟨_, rfl⟩
      rw [hn] at tP ⊢
      clear hn
      go_enter Tryd.func35, Tryd.ntmps35
      go_wp2_with (go_at_call 29; (with_reducible refine tP.mono ?_); clear tP; rintro e w1 ⟨rfl, hB1⟩)
      go_ret
      exact ⟨rfl, hB1⟩
  · rw [if_pos hc]
    obtain ⟨c, hc2⟩ : ∃ c, proC l = c := ⟨_, rfl⟩
    rw [hc2] at tP hc ⊢
    have he : errV c = .iface 57 (.int .i64 c) := if_neg hc
    rw [he] at tP ⊢
    clear hlv hat hc2 hc he
    obtain ⟨n, hn⟩ : ∃ n, l.length = n := ⟨_, rfl⟩
    rw [hn] at tP ⊢
    clear hn
    go_enter Tryd.func35, Tryd.ntmps35
    go_wp2_with (go_at_call 29; (with_reducible refine tP.mono ?_); clear tP; rintro e w1 ⟨rfl, hB1⟩)
    go_ret
    exact ⟨rfl, hB1⟩
/-- What Run answers. -/
def RunO (w : World) (R : Except Int ((Nat → Int) × Nat)) (e : Ending) (w' : World) : Prop :=
  Below w.heap.size w w' ∧ match R with
  | .error c => e = .returned (.tuple #[.slice none 0 0, .int .i64 0, .iface 57 (.int .i64 c)])
  | .ok b => ∃ g cp, e = .returned (.tuple #[.slice (some ⟨g, 0, none⟩) 6 cp, .int .i64 (b.2 : Int), .nilIface]) ∧ Lst w' (.slice (some ⟨g, 0, none⟩) 6 cp) 6 b.1
theorem runO_ok {w : World} {b : (Nat → Int) × Nat} {e : Ending} {w' : World} (h : RunO w (.ok b) e w') : Below w.heap.size w w' ∧ ∃ g cp, e = .returned (.tuple #[.slice (some ⟨g, 0, none⟩) 6 cp, .int .i64 (b.2 : Int), .nilIface]) ∧ Lst w' (.slice (some ⟨g, 0, none⟩) 6 cp) 6 b.1 := h
theorem runO_error {w : World} {c : Int} {e : Ending} {w' : World} (h : RunO w (.error c) e w') : e = .returned (.tuple #[.slice none 0 0, .int .i64 0, .iface 57 (.int .i64 c)]) ∧ Below w.heap.size w w' := ⟨h.2, h.1⟩
set_option maxHeartbeats 4000000 in
theorem run_any (l : List Nod) (a : Option Addr) (cp : Nat) (v : Value) (nv : Nat) (s : Nat → Int) (F : Int) (w : World) (hat : AtNods w a l.length (nthD l)) (hl : Lst w v nv s) :
    Calls Tryd.prog 19 #[.slice a l.length cp, v, .int .i64 F] w fun e w' => RunO w (runIs l nv s F) e w' := by
  have tC := runCheck_any l a cp v nv s F w hat hl
  obtain ⟨av, cv, rfl, hlv⟩ := hl
  unfold runIs
  by_cases hc : runC l nv s F = 0
  · rw [if_neg (by simpa using hc)]
    rw [hc, errV_zero] at tC
    obtain ⟨hp, rfl, hs, hF0, hF1⟩ := runC_ok hc
    have hG := good_of hp
    obtain ⟨bv, ov, rfl, hbv, hcv⟩ := hlv.resolve_left (by omega)
    obtain ⟨f, rfl⟩ : ∃ f : Nat, F = (f : Int) := ⟨F.toNat, by omega⟩
    rw [Int.toNat_natCast]
    have hsome := hG.r.some
    have h80 := hG.r.few
    have hdeed := hG.r.deed
    obtain ⟨m, hm⟩ : ∃ m, l.length = m + 1 := ⟨l.length - 1, by omega⟩
    have hmI : (l.length : Int) - 1 = (m : Int) := by omega
    have hnI : (l.length : Int) ≤ 80 := by omega
    rw [show l.length - 1 = m by omega] at hdeed
    have tK := fun w' (k : Below w.heap.size w w') => clone_six bv ov 6 cv (by decide) (by decide) s w' (fun j hj => keep_cell k (hcv j hj))
    have tD := fun X V cV => rdeed_any (w0 := w) (X := X) (V := V) (cV := cV) (cp := cp) hG hat (m + 1) m (by omega) (by omega) hdeed s f
    rw [show runP l s f = ex l m s f by rw [runP, show l.length - 1 = m by omega]]
    obtain ⟨R, hR⟩ : ∃ R, ex l m s f = R := ⟨_, rfl⟩
    rw [hR] at tD ⊢
    have hle : ∀ r, R = some r → r.2 ≤ f := fun r h => ex_le (hR.trans h)
    obtain ⟨n, hn⟩ : ∃ n, l.length = n := ⟨_, rfl⟩
    rw [hn] at tC tD hmI hnI ⊢
    have hfI : (f : Int) ≤ 5000 := hF1
    have HN : Hid (∀ (w2 w1 : World) (V cV : Nat), Below w.heap.size w w1 → w2.ownsRow w1.heap.size 3 1 (.slice (some ⟨V, 0, none⟩) 6 cV) 6 (rowI 6 s) → Below w1.heap.size w1 w2 → Rnr w w2.heap.size V cV (.slice a n cp) s f (w2.alloc (.cells #[.slice a n cp, .slice (some ⟨V, 0, none⟩) 6 cV, .int .i64 (f : Int)] 64))) := fun w2 w1 V cV k1 ho k2 => by
      have h1 := World.alloc_heap_new w2 (.cells #[.slice a n cp, .slice (some ⟨V, 0, none⟩) 6 cV, .int .i64 (f : Int)] 64)
      have hV := ho.lt V rfl
      refine ⟨Nat.le_trans k1.size k2.size, ?_, ?_, ?_, ?_, own_lowR (ho.alloc _) k1.size, by omega, (k1.trans (k2.mono k1.size)).alloc (Nat.le_trans k1.size k2.size) _⟩
      all_goals (simp only [World.cell?, World.frozen?]; rw [h1]; simp)
    have HT : Hid (∀ (w2 w1 : World) (V cV : Nat), Rnr w w2.heap.size V cV (.slice a n cp) s f w1 → Calls Tryd.prog 37 #[rnP w2.heap.size, .int .i64 (m : Int)] w1 fun e w' => DeedV w w2.heap.size V cV (.slice a n cp) w1 R e w') := fun w2 w1 V cV h => tD w2.heap.size V cV w1 hs (by omega) h
    clear tD hR hn hm hdeed hsome h80 hG hp hc hat hcv hlv hs hF0 hF1 hbv
    cases R with
    | none =>
      go_enter Tryd.func19, Tryd.ntmps19
      go_wp2_with (first | (go_at_call 35; (with_reducible refine tC.mono ?_); clear tC; rintro e w1 ⟨rfl, hB1⟩) | (go_at_call 36; (with_reducible refine (tK _ hB1).mono ?_); clear tK; rintro e w2 ⟨V, cV, rfl, ho, hB2⟩; have tD := HT.out w2 _ V cV (HN.out w2 w1 V cV hB1 ho hB2); have hB3 : Hid (Below w.heap.size w (w2.alloc (.cells #[.slice a n cp, .slice (some ⟨V, 0, none⟩) 6 cV, .int .i64 (f : Int)] 64))) := (hB1.trans (hB2.mono hB1.size)).alloc (hB1.trans (hB2.mono hB1.size)).size _; have hVs := Hid.mkI (And.intro (Nat.le_trans hB1.size (ho.lt V rfl).1) (hB1.trans (hB2.mono hB1.size)).size); clear ho) | (go_at_call 37; (with_reducible refine tD.mono ?_); clear tD; rintro e w3 ⟨rfl, T3⟩; have T3 := Hid.mkI T3))
      go_ret3
      exact ⟨hB3.out.trans (T3.out.ap.below hB3.out.size hVs.out.2 hVs.out.1), rfl⟩
    | some r =>
      have hl := hle r rfl
      have hlI : (r.2 : Int) ≤ (f : Int) := by omega
      go_enter Tryd.func19, Tryd.ntmps19
      go_wp2_with (first | (go_at_call 35; (with_reducible refine tC.mono ?_); clear tC; rintro e w1 ⟨rfl, hB1⟩) | (go_at_call 36; (with_reducible refine (tK _ hB1).mono ?_); clear tK; rintro e w2 ⟨V, cV, rfl, ho, hB2⟩; have tD := HT.out w2 _ V cV (HN.out w2 w1 V cV hB1 ho hB2); have hB3 : Hid (Below w.heap.size w (w2.alloc (.cells #[.slice a n cp, .slice (some ⟨V, 0, none⟩) 6 cV, .int .i64 (f : Int)] 64))) := (hB1.trans (hB2.mono hB1.size)).alloc (hB1.trans (hB2.mono hB1.size)).size _; have hVs := Hid.mkI (And.intro (Nat.le_trans hB1.size (ho.lt V rfl).1) (hB1.trans (hB2.mono hB1.size)).size); clear ho) | (go_at_call 37; (with_reducible refine tD.mono ?_); clear tD; rintro e w3 ⟨rfl, T3⟩; have H3 := Hid.mkI (T3.st r rfl); have T3 := Hid.mkI T3; have n1 := H3.out.c1; have n2 := H3.out.c2))
      go_quiet (fail)
      go_wp2
      go_ret3
      exact ⟨below_drawn (hB3.out.trans (T3.out.ap.below hB3.out.size hVs.out.2 hVs.out.1)) _, V, cV, by rw [show ((f - r.2 : Nat) : Int) = (f : Int) - (r.2 : Int) by omega]; rfl, (lst_of_row H3.out.own).drawn _⟩
  · rw [if_pos hc]
    obtain ⟨c, hc2⟩ : ∃ c, runC l nv s F = c := ⟨_, rfl⟩
    rw [hc2] at tC hc ⊢
    have he : errV c = .iface 57 (.int .i64 c) := if_neg hc
    rw [he] at tC
    clear hlv hat hc2 hc he
    obtain ⟨n, hn⟩ : ∃ n, l.length = n := ⟨_, rfl⟩
    rw [hn] at tC ⊢
    clear hn
    go_enter Tryd.func19, Tryd.ntmps19
    go_wp2_with (go_at_call 35; (with_reducible refine tC.mono ?_); clear tC; rintro e w1 ⟨rfl, hB1⟩)
    go_ret3
    exact ⟨hB1, rfl⟩
end Go.Proofs.YtioimgeeamchaaaDoor
