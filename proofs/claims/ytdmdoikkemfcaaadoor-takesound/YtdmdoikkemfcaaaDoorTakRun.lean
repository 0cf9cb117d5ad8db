/- What steps come to (Play). -/
import Derived.WalkKit
import Derived.LoopTactic
import Derived.OwnWalk
import Derived.Test.YtdmdoikkemfcaaaDoorTakPlay
import Derived.Test.YtdmdoikkemfcaaaDoorTakCopy
import Derived.Test.YtdmdoikkemfcaaaDoorTakChk
import Derived.Test.YtdmdoikkemfcaaaDoorTakOpen
namespace Go.Proofs.YtdmdoikkemfcaaaDoor
open Go.RowKit
set_option maxRecDepth 100000

/-- Where the first of so many codes stands that is not 0. -/
def firstAt (c : Nat → Int) : Nat → Nat
  | 0 => 0
  | n + 1 => if firstNZ c n = 0 then (if c n = 0 then 0 else n) else firstAt c n
theorem firstAt_none {c : Nat → Int} {n : Nat} (h : ∀ j, j < n → c j = 0) : firstAt c n = 0 := by
  induction n with
  | zero => rfl
  | succ n ih => rw [firstAt, if_pos (firstNZ_none fun j hj => h j (by omega)), if_pos (h n (by omega))]
theorem firstAt_hit {c : Nat → Int} {n k : Nat} (h : ∀ j, j < k → c j = 0) (hk : k < n) (hc : c k ≠ 0) : firstAt c n = k := by
  induction n with
  | zero => omega
  | succ n ih =>
    by_cases e : k = n
    · subst e; rw [firstAt, if_pos (firstNZ_none h), if_neg hc]
    · rw [firstAt, if_neg (by rw [firstNZ_hit h (show k < n by omega) hc]; exact hc)]; exact ih (by omega)
/-- The codes of steps. -/
def codes (g : Gr) (S : Nat → Stp) (i : Nat) : Int := stepCode (runG g S i) (S i)
/-- What steps tell: what is wrong, and at which. -/
def playE (n : Nat) (L : Nat → Nat) (F : Nat → Nat → Int) (S : Nat → Stp) (m : Nat) : Int := if graphCode n L F = 0 then (if 60 < m then 4 else firstNZ (codes (grOf n F) S) m) else graphCode n L F
def playAt (n : Nat) (L : Nat → Nat) (F : Nat → Nat → Int) (S : Nat → Stp) (m : Nat) : Nat := if graphCode n L F = 0 then (if 60 < m then 0 else firstAt (codes (grOf n F) S) m) else 0
/-- The graph that they tell. -/
def PlayV (w : World) (v : Value) (n : Nat) (L : Nat → Nat) (F : Nat → Nat → Int) (S : Nat → Stp) (m : Nat) : Prop :=
  (playE n L F S m ≠ 0 ∧ v = .slice none 0 0) ∨ (playE n L F S m = 0 ∧ GrV w v (runG (grOf n F) S m) ∧ (runG (grOf n F) S m).Ok)
theorem playE_ok {n : Nat} {L : Nat → Nat} {F : Nat → Nat → Int} {S : Nat → Stp} {m : Nat} (h : playE n L F S m = 0) : graphCode n L F = 0 ∧ m ≤ 60 ∧ ∀ i, i < m → codes (grOf n F) S i = 0 := by
  unfold playE at h
  split at h
  · rename_i h1
    split at h
    · omega
    · exact ⟨h1, by omega, firstNZ_zero h⟩
  · rename_i h1; exact absurd h h1

set_option maxHeartbeats 1000000 in
theorem tplay_any (a sa : Option Addr) (n cap m scap : Nat) (L : Nat → Nat) (F : Nat → Nat → Int) (S : Nat → Stp) (w : World) (h : Grd w (.slice a n cap) n L F) (hS : AtStps w sa m S) :
    Calls Tryd.prog 13 #[.slice a n cap, .slice sa m scap] w fun e w' => ∃ v, e = .returned (.tuple #[v, .int .i64 (playAt n L F S m : Nat), errV (playE n L F S m)]) ∧ PlayV w' v n L F S m ∧ Below w.heap.size w w' := by
  have t1 := tcheck_any a n cap L F w h
  by_cases h1 : graphCode n L F = 0
  · rw [h1, errV_zero] at t1
    by_cases h2 : 60 < m
    · have HE : Hid (playE n L F S m = 4) := by show _ = _; rw [playE, if_pos h1, if_pos h2]
      have HA : Hid (playAt n L F S m = 0) := by show _ = _; rw [playAt, if_pos h1, if_pos h2]
      clear h hS h1
      go_enter Tryd.func13, Tryd.ntmps13
      go_wp2_with (go_at_call 31; refine t1.mono ?_; clear t1; rintro e w' ⟨rfl, hw⟩; obtain rfl := hw.symm)
      go_ret3
      exact ⟨_, by rw [HE.out, HA.out]; rfl, .inl ⟨by rw [HE.out]; decide, rfl⟩, Below.refl _ _⟩
    · have hV := grV_of h h1
      have ok := (graphCode_ok h1).1
      have hn : (grOf n F).n = n := rfl
      have t2 := copied_any _ (grOf n F) ok w hV
      have HE : Hid (playE n L F S m = firstNZ (codes (grOf n F) S) m) := by show _ = _; rw [playE, if_pos h1, if_neg h2]
      have HA : Hid (playAt n L F S m = firstAt (codes (grOf n F) S) m) := by show _ = _; rw [playAt, if_pos h1, if_neg h2]
      have HOk := Hid.mkI ok
      clear h h1 hV ok
      obtain ⟨g, hg⟩ : ∃ g, grOf n F = g := ⟨_, rfl⟩
      rw [hg] at t2 hn
      have HG := Hid.mkI hg
      have HS := Hid.mkI hS
      clear hg hn hS
      go_enter Tryd.func13, Tryd.ntmps13
      go_wp2_with (first | (go_at_call 31; refine t1.mono ?_; clear t1; rintro e w' ⟨rfl, hw⟩; obtain rfl := hw.symm) | (go_at_call 32; refine t2.mono ?_; clear t2; rintro e w2 ⟨b, C, K, rfl, hO, hB⟩))
      go_loopw [8, 26] (fun o p wr => ∃ (k b cap : Nat) (C K : Nat → Nat), k ≤ m ∧ p = .int .i64 k ∧ o = .slice (some ⟨b, 0, none⟩) (runG g S k).n cap ∧ Hid (∀ j, j < k → codes g S j = 0) ∧ OwnGr w.heap.size wr b cap C K (runG g S k) ∧ Below w.heap.size w wr) (fun _ p _ => m - (intOf p).toNat)
      case atStart => exact ⟨0, b, _, C, K, by omega, rfl, rfl, fun j hj => absurd hj (by omega), hO, hB⟩
      case round =>
        obtain ⟨k, b, cap, C, K, hk, rfl, rfl, HK, hO, hBr⟩ := hrel
        have hbw := hBr.size
        by_cases hlt : k < m
        · obtain ⟨sb, soff, rfl, hs⟩ : ∃ b off, sa = some ⟨b, off, none⟩ ∧ Stps wr b off m S := by
            rcases HS.out with h0 | ⟨b, off, e, h⟩
            · omega
            · exact ⟨b, off, e, h.below hBr⟩
          have c0 := hs.c0 k hlt
          have c1 := hs.c1 k hlt
          have c2 := hs.c2 k hlt
          have c3 := hs.c3 k hlt
          have c4 := hs.c4 k hlt
          have hBa : Below wr.heap.size wr (wr.alloc (.cells #[.int .i64 (S k).k, .int .i64 (S k).who, .int .i64 (S k).of, .int .i64 (S k).to, .int .i64 (S k).r] 63)) := (Below.refl _ wr).alloc (Nat.le_refl _) _
          have hBw := hBr.trans (hBa.mono hbw)
          have hok : (runG g S k).Ok := runG_ok (by rw [← HG.out]; exact HOk.out) HK.out
          have t := play_any (hO.below hBa) hBw.size hok (S k)
          have HC : Hid (codes g S k = stepCode (runG g S k) (S k)) := rfl
          have HN : Hid (runG g S (k + 1) = stepNext (runG g S k) (S k)) := rfl
          clear hO hs hok hBa
          obtain ⟨gk, hgk⟩ : ∃ x, runG g S k = x := ⟨_, rfl⟩
          rw [hgk] at t HC HN ⊢
          clear hgk
          obtain ⟨s, hsk⟩ : ∃ x, S k = x := ⟨_, rfl⟩
          rw [hsk] at t HC HN c0 c1 c2 c3 c4 hBw
          clear hsk
          go_wp2_with fail
          refine t.mono ?_
          clear t c0 c1 c2 c3 c4
          rintro e w3 ⟨⟨hc, v, rfl⟩ | ⟨hc, b', cap', C', K', rfl, hO3⟩, hB3⟩
          · rw [errV_ne hc]
            have hc2 : codes g S k ≠ 0 := by rw [HC.out]; exact hc
            have HC2 := Hid.mkI hc2
            clear hc2
            go_wp2
            go_ret3
            have e1 : playE n L F S m = stepCode gk s := by rw [HE.out, HG.out, firstNZ_hit HK.out hlt HC2.out, HC.out]
            have e2 : playAt n L F S m = k := by rw [HA.out, HG.out, firstAt_hit HK.out hlt HC2.out]
            exact ⟨_, by rw [e1, e2, errV_ne hc]; rfl, .inl ⟨by rw [e1]; exact hc, rfl⟩, hBw.trans hB3⟩
          · have HCz := Hid.mkI hc
            have HO3 := Hid.mkI hO3
            clear hc hO3
            go_wp2
            go_roundw
            case rel => exact ⟨k + 1, b', cap', C', K', by omega, by go_num, by rw [HN.out], fun j hj => by
              by_cases e : j = k
              · subst e; rw [HC.out]; exact HCz.out
              · exact HK.out j (by omega), by rw [HN.out]; exact HO3.out, hBw.trans hB3⟩
            case measure => simp [intOf]; omega
        · obtain rfl : k = m := by omega
          have hok : (runG g S k).Ok := runG_ok (by rw [← HG.out]; exact HOk.out) HK.out
          have hV := OwnGr.grAt hO
          have hV2 := hV.grV cap
          have HV := Hid.mkI hV2
          have HK2 := Hid.mkI hok
          clear hok hV hV2 hO
          go_wp2
          go_ret3
          have e1 : playE n L F S k = 0 := by rw [HE.out, HG.out]; exact firstNZ_none HK.out
          have e2 : playAt n L F S k = 0 := by rw [HA.out, HG.out]; exact firstAt_none HK.out
          exact ⟨_, by rw [e1, e2]; rfl, .inr ⟨e1, by rw [HG.out]; exact HV.out, by rw [HG.out]; exact HK2.out⟩, hBr⟩
  · rw [errV_ne h1] at t1
    have HE : Hid (playE n L F S m = graphCode n L F) := by show _ = _; rw [playE, if_neg h1]
    have HA : Hid (playAt n L F S m = 0) := by show _ = _; rw [playAt, if_neg h1]
    clear h hS
    go_enter Tryd.func13, Tryd.ntmps13
    go_wp2_with (go_at_call 31; refine t1.mono ?_; clear t1; rintro e w' ⟨rfl, hw⟩; obtain rfl := hw.symm)
    go_ret3
    exact ⟨_, by rw [HE.out, HA.out, errV_ne h1]; rfl, .inl ⟨by rw [HE.out]; exact h1, rfl⟩, Below.refl _ _⟩
end Go.Proofs.YtdmdoikkemfcaaaDoor
