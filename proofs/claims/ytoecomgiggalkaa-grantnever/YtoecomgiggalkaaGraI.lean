/- Who has the right by grants (Holds), and what is wrong with them (Check). -/
import Derived.WalkKit
import Derived.LoopTactic
import Derived.Test.YtoecomgiggalkaaGraH
namespace Go.Proofs.Ytoecomgiggalkaa
open Go.RowKit
set_option maxRecDepth 100000

theorem gpow_wrap {a : Nat} (h : a ≤ 12) : wrap64 ((2 : Int) ^ a) = ((2 ^ a : Nat) : Int) := by
  have h1 : 2 ^ a ≤ 4096 := pow12 h
  have h2 : (2 : Int) ^ a = ((2 ^ a : Nat) : Int) := by simp
  rw [h2]
  obtain ⟨p, hp⟩ : ∃ p, 2 ^ a = p := ⟨_, rfl⟩
  rw [hp] at h1 ⊢
  exact IntWalk.wrap64_in _ ⟨by omega, by omega⟩
theorem gerrV_ne {c : Int} (h : c ≠ 0) : errV c = .iface 37 (.int .i64 c) := by rw [errV, if_neg h]
/-- A grant more: its number as a natural one, and what the walk wants of the sets. -/
theorem or_next {users : Int} {l : List Giv} {g : Giv} {s : Nat} (hu : users ≤ 8) (hn : GNext users g s (lastL l)) (hs : s < 256) : ∃ (t p x : Nat), g.to = (t : Int) ∧ 2 ^ t = p ∧ s ||| p = x ∧ x < 256 ∧ wrap64 ((2 : Int) ^ t) = (p : Int) ∧ bits BinOp.or IntKind.i64 (s : Int) (p : Int) = (x : Int) ∧ t < 8 ∧ s ||| 2 ^ g.to.toNat = x := by
  have h0 := hn.t0
  have h1 := hn.t1
  have ht : g.to.toNat < 8 := by omega
  have hp : 2 ^ g.to.toNat < 2 ^ 8 := Nat.pow_lt_pow_right (by decide) ht
  have hx : s ||| 2 ^ g.to.toNat < 2 ^ 8 := Nat.or_lt_two_pow hs hp
  exact ⟨g.to.toNat, _, _, by omega, rfl, rfl, hx, gpow_wrap (by omega), or_i64 _ _ (by omega) (by omega), ht, rfl⟩
/-- What Holds tells. -/
def hasV (users : Int) (l : List Giv) : Nat := if givC users l = 0 then setL l else 0
set_option maxHeartbeats 2000000 in
theorem holds_any (users : Int) (a : Option Addr) (cap : Nat) (l : List Giv) (w : World) (h : AtGivs w a l.length (nthV l)) :
    Calls Try.prog 6 #[.int .i64 users, .slice a l.length cap] w fun e w' => e = .returned (.tuple #[.int .i64 (hasV users l : Nat), errV (givC users l)]) ∧ Below w.heap.size w w' := by
  by_cases h1 : users < 1
  · have HC : Hid (givC users l = 1) := by show _ = _; rw [givC, if_pos (by omega)]
    have HV : Hid (hasV users l = 0) := by show _ = _; rw [hasV, HC.out]; rfl
    clear h
    go_enter Try.func6, Try.ntmps6
    go_wp2
    go_ret2
    exact ⟨by rw [HC.out, HV.out]; rfl, Below.refl _ _⟩
  · by_cases h2 : 8 < users
    · have HC : Hid (givC users l = 1) := by show _ = _; rw [givC, if_pos (by omega)]
      have HV : Hid (hasV users l = 0) := by show _ = _; rw [hasV, HC.out]; rfl
      clear h
      go_enter Try.func6, Try.ntmps6
      go_wp2
      go_ret2
      exact ⟨by rw [HC.out, HV.out]; rfl, Below.refl _ _⟩
    · by_cases h3 : 40 < l.length
      · have HC : Hid (givC users l = 4) := by show _ = _; rw [givC, if_neg (by omega), if_pos (by omega)]
        have HV : Hid (hasV users l = 0) := by show _ = _; rw [hasV, HC.out]; rfl
        have h3' : (40 : Int) < (l.length : Int) := by omega
        clear h
        go_enter Try.func6, Try.ntmps6
        go_wp2
        go_ret2
        exact ⟨by rw [HC.out, HV.out]; rfl, Below.refl _ _⟩
      · have HC : Hid (givC users l = fst0 (atC users l) l.length) := by show _ = _; rw [givC, if_neg (by omega), if_neg (by omega)]
        have HV : Hid (hasV users l = if givC users l = 0 then setL l else 0) := rfl
        have hu8 : users ≤ 8 := by omega
        have hl40 : (l.length : Int) ≤ 40 := by omega
        have HA := Hid.mkI h
        obtain ⟨n, hn⟩ : ∃ n, l.length = n := ⟨_, rfl⟩
        have HN := Hid.mkI hn
        rw [hn] at hl40 h3 ⊢
        clear h hn
        go_enter Try.func6, Try.ntmps6
        go_wp2
        go_loopw [6, 7, 24] (fun s la p wr => ∃ (k : Nat) (x : Nat) (y : Int), k ≤ n ∧ p = .int .i64 k ∧ s = .int .i64 x ∧ la = .int .i64 y ∧ x < 256 ∧ Hid (setL (l.take k) = x ∧ lastL (l.take k) = y ∧ ∀ j, j < k → atC users l j = 0) ∧ Below w.heap.size w wr) (fun _ _ p _ => n - (intOf p).toNat)
        case atStart => exact ⟨0, 1, -1, by omega, rfl, rfl, rfl, by omega, ⟨rfl, rfl, fun j hj => absurd hj (by omega)⟩, Below.refl _ _⟩
        case round =>
          obtain ⟨k, x, y, hk, rfl, rfl, rfl, hx, HK, hB⟩ := hrel
          by_cases hlt : k < n
          · obtain ⟨b, off, rfl, hs⟩ : ∃ b off, a = some ⟨b, off, none⟩ ∧ Givs wr b off n (nthV l) := by
              rcases HA.out with h0 | ⟨b, off, e, h⟩
              · have := HN.out; omega
              · rw [HN.out] at h; exact ⟨b, off, e, h.below hB⟩
            have c0 := hs.c0 k hlt
            have c1 := hs.c1 k hlt
            have c2 := hs.c2 k hlt
            have hltI : (k : Int) < (n : Int) := by omega
            have HD : Hid (atC users l k = gNextC users (nthV l k) x y) := by show _ = _; rw [atC, HK.out.1, HK.out.2.1]
            have HT : Hid (l.take (k + 1) = l.take k ++ [nthV l k]) := gtake_snoc l (by rw [HN.out]; exact hlt)
            clear hs
            obtain ⟨g, hg⟩ : ∃ g, nthV l k = g := ⟨_, rfl⟩
            rw [hg] at c0 c1 c2 HD HT
            clear hg
            have hBa : Below w.heap.size w (wr.alloc (.cells #[.int .i64 g.fr, .int .i64 g.to, .int .i64 g.tm] 29)) := hB.alloc hB.size _
            have t := fun W => checkNext_any users hu8 g x hx y W
            by_cases hc : gNextC users g x y = 0
            · have hn := (gNextC_iff _ _ _ _).1 hc
              obtain ⟨tn, p, z, e1, e2, e3, hz, e4, e5, ht8, e6⟩ := or_next (l := l.take k) hu8 (by rw [HK.out.2.1]; exact hn) hx
              rw [hc, errV_zero] at t
              obtain ⟨fr, to, tm⟩ := g
              simp only at e1 e6
              subst e1
              have HK2 : Hid (setL (l.take (k + 1)) = z ∧ lastL (l.take (k + 1)) = tm ∧ ∀ j, j < k + 1 → atC users l j = 0) := by
                refine ⟨by rw [HT.out, setL_snoc, HK.out.1]; exact e6, by rw [HT.out, lastL_snoc], fun j hj => ?_⟩
                by_cases e : j = k
                · subst e; rw [HD.out]; exact hc
                · exact HK.out.2.2 j (by omega)
              clear hc hn e2 e3 e6 HD HT HK
              go_wp2_with fail
              refine (t _).mono ?_
              clear t
              rintro e w3 ⟨rfl, hB3⟩
              have hB4 := hBa.trans (hB3.mono hBa.size)
              have d1 := keep_cell (a := ⟨wr.heap.size, 1, none⟩) hB3 (v := .int .i64 (tn : Int)) (by simp [go_sem])
              have d2 := keep_cell (a := ⟨wr.heap.size, 2, none⟩) hB3 (v := .int .i64 tm) (by simp [go_sem])
              clear hB3 hBa hB c0 c1 c2
              go_wp2
              go_roundw
              case rel => exact ⟨k + 1, z, tm, by omega, by go_num, rfl, rfl, hz, HK2, hB4⟩
              case measure => simp [intOf]; omega
            · have HR : Hid (givC users l = gNextC users g x y) := by
                show _ = _
                rw [HC.out, HN.out, fst0_hit HK.out.2.2 hlt (by rw [HD.out]; exact hc), HD.out]
              have HR2 : Hid (hasV users l = 0) := by show _ = _; rw [HV.out, HR.out, if_neg hc]
              obtain ⟨c, hcc⟩ : ∃ c, gNextC users g x y = c := ⟨_, rfl⟩
              rw [hcc] at t hc HR
              rw [gerrV_ne hc] at t
              have HCc := Hid.mkI hc
              clear hc hcc HD HT HK
              go_wp2_with fail
              refine (t _).mono ?_
              clear t
              rintro e w3 ⟨rfl, hB3⟩
              have hB4 := hBa.trans (hB3.mono hBa.size)
              clear hB3 hBa hB c0 c1 c2
              go_wp2
              go_ret2
              exact ⟨by rw [HR.out, HR2.out, gerrV_ne HCc.out]; rfl, hB4⟩
          · obtain rfl : k = n := by omega
            have HR : Hid (givC users l = 0) := by show _ = _; rw [HC.out, HN.out]; exact fst0_none HK.out.2.2
            have HR2 : Hid (hasV users l = x) := by
              show _ = _
              rw [HV.out, if_pos HR.out, ← HK.out.1, ← HN.out, List.take_length]
            clear HK
            go_wp2
            go_ret2
            exact ⟨by rw [HR.out, HR2.out]; rfl, hB⟩
theorem gcheck_any (users : Int) (a : Option Addr) (cap : Nat) (l : List Giv) (w : World) (h : AtGivs w a l.length (nthV l)) :
    Calls Try.prog 10 #[.int .i64 users, .slice a l.length cap] w fun e w' => e = .returned (errV (givC users l)) ∧ Below w.heap.size w w' := by
  have t := holds_any users a cap l w h
  obtain ⟨v, hv⟩ : ∃ v, errV (givC users l) = v := ⟨_, rfl⟩
  obtain ⟨x, hx⟩ : ∃ x, hasV users l = x := ⟨_, rfl⟩
  rw [hv, hx] at t
  rw [hv]
  clear hv hx h
  go_enter Try.func10, Try.ntmps10
  go_wp2_with (go_at_call 6; refine t.mono ?_; clear t; rintro e w3 ⟨rfl, hB3⟩)
  go_ret
  exact ⟨rfl, hB3⟩
end Go.Proofs.Ytoecomgiggalkaa
