/- The walk of the law BibaSinks. -/
import Derived.WalkKit
import Derived.LoopTactic
import Derived.Deep.LoopGhost
import Derived.Deep.Cut
import Derived.Deep.QuietTactic
import Derived.BigQuiet
import Derived.Test.YteheaeihoameeaaDoorBibPur
namespace Go.Proofs.YteheaeihoameeaaDoor
open Go.RowKit
set_option maxRecDepth 100000

/-- A user's level as it is told: of who is none -1. -/
def levI (s : BibSt) (u : Int) : Int := if inB u s.nu then (s.ul u.toNat : Int) else -1
theorem level_any {n0 n1 B gu gf cu cf : Nat} {au af : Option Addr} {W : World} {s : BibSt} (h : BMon n0 n1 B au af gu gf cu cf W s) (u : Int) :
    Calls Tryd.prog 19 #[.pointer (some ⟨B, 0, none⟩), .int .i64 u] W fun e w' => e = .returned (.int .i64 (levI s u)) ∧ w' = W := by
  unfold levI
  cases hin : inB u s.nu with
  | true =>
    obtain ⟨u0, u1⟩ := (inB_iff _ _).1 hin
    obtain ⟨u, rfl⟩ := Int.eq_ofNat_of_zero_le u0
    rw [if_pos rfl, Int.toNat_natCast]
    exact level_in h u (by omega)
  | false =>
    rw [if_neg (by decide)]
    refine level_out h u ?_
    have := of_decide_eq_false hin
    omega
/-- What an ask does to a user's level. -/
structure SinkTo (s : BibSt) (k u f c : Int) (s' : BibSt) : Prop where
  le : levI s' u ≤ levI s u
  code : c ≠ 0 → levI s' u = levI s u
  done : c = 0 → (0 ≤ f ∧ f < (s.nf : Int)) ∧ ((k = 0 ∧ levI s' u ≤ (s.fl f.toNat : Int)) ∨ (k = 1 ∧ (s.fl f.toNat : Int) ≤ levI s' u))
theorem sinkTo_same (s : BibSt) (k u f : Int) {c : Int} (h : c ≠ 0) : SinkTo s k u f c s := ⟨Int.le_refl _, fun _ => rfl, fun e => absurd e h⟩
theorem sinkTo (s : BibSt) (k u f : Int) : SinkTo s k u f (askBib s k u f).1 (askBib s k u f).2 := by
  unfold askBib
  split
  · rename_i hin
    rw [Bool.and_eq_true, inB_iff, inB_iff] at hin
    have hu := (inB_iff u s.nu).2 hin.1
    split
    · rename_i hk
      have e : levI { s with ul := upd s.ul u.toNat (min (s.ul u.toNat) (s.fl f.toNat)), uh := upd s.uh u.toNat (min (s.uh u.toNat) (s.fw f.toNat)) } u = ((min (s.ul u.toNat) (s.fl f.toNat) : Nat) : Int) := by
        rw [levI, if_pos (show inB u s.nu = true from hu)]
        show ((upd s.ul u.toNat (min (s.ul u.toNat) (s.fl f.toNat)) u.toNat : Nat) : Int) = _
        rw [upd_same]
      have e' : levI s u = (s.ul u.toNat : Int) := if_pos hu
      refine ⟨?_, fun h => absurd rfl h, fun _ => ⟨hin.2, .inl ⟨hk, ?_⟩⟩⟩
      · rw [e, e']; omega
      · rw [e]; omega
    · split
      · rename_i hk
        split
        · exact sinkTo_same _ _ _ _ (show (7 : Int) ≠ 0 by decide)
        · rename_i hd
          have e' : levI s u = (s.ul u.toNat : Int) := if_pos hu
          refine ⟨Int.le_refl _, fun _ => rfl, fun _ => ⟨hin.2, .inr ⟨hk, ?_⟩⟩⟩
          show _ ≤ levI s u
          rw [e']
          omega
      · exact sinkTo_same _ _ _ _ (show (1 : Int) ≠ 0 by decide)
  · exact sinkTo_same _ _ _ _ (show (1 : Int) ≠ 0 by decide)
set_option maxHeartbeats 1000000 in
theorem bibSin_err (a1 a2 a3 : Option Addr) (n c1 m c2 q c3 : Nat) (c : Int) (w : World) (hF : BFactIs w)
    (hN : ∀ W, Below w.heap.size w W → Calls Tryd.prog 16 #[.slice a1 n c1, .slice a2 m c2] W fun e w' => e = .returned (.tuple #[.pointer none, .iface 63 (.int .i64 c)]) ∧ w' = W) :
    Calls Tryd.prog 5 #[.slice a1 n c1, .slice a2 m c2, .slice a3 q c3] w fun e w' => e = .returned (.bool true) ∧ Below w.heap.size w w' := by
  have tF := hF w (Below.refl _ _)
  clear hF
  go_enter Tryd.func5, Tryd.ntmps5
  go_wp2_with (first | (go_at_call 15; refine tF.mono ?_; clear tF; rintro e w1 ⟨rfl, hB1⟩; have tN := hN w1 hB1; clear hN) | (go_at_call 16; refine tN.mono ?_; clear tN; rintro e w2 ⟨rfl, rfl⟩))
  go_ret
  exact ⟨rfl, hB1⟩
set_option maxHeartbeats 80000000 in
theorem bibSin_in (a1 a2 a3 : Option Addr) (n c1 m c2 q c3 : Nat) (zs ys : List Int) (k0 k1 k2 k3 : Nat → Int) (w : World) (hF : BFactIs w)
    (h2 : AtNums w a2 m ys) (h3 : AtAsks w a3 q k0 k1 k2 k3) (hm8 : m ≤ 8) (hy : AllLev m ys)
    (hN : ∀ W, Below w.heap.size w W → Calls Tryd.prog 16 #[.slice a1 n c1, .slice a2 m c2] W fun e w' => ∃ B au af gu gf cu cf, e = .returned (.tuple #[.pointer (some ⟨B, 0, none⟩), .nilIface]) ∧ BMon W.heap.size w'.heap.size B au af gu gf cu cf w' (newBib n m zs ys) ∧ Below W.heap.size W w')
    (Z : Nat) (hZ : (Z = q ∧ q ≤ 100) ∨ (Z = 100 ∧ 100 < q)) :
    Calls Tryd.prog 5 #[.slice a1 n c1, .slice a2 m c2, .slice a3 q c3] w fun e w' => e = .returned (.bool true) ∧ Below w.heap.size w w' := by
  have tF := hF w (Below.refl _ _)
  have hm8' : (m : Int) ≤ 8 := by omega
  clear hF
  go_enter Tryd.func5, Tryd.ntmps5
  go_wp2_with (first | (go_at_call 15; refine tF.mono ?_; clear tF; rintro e w1 ⟨rfl, hB1⟩; have tN := hN w1 hB1; clear hN) | (go_at_call 16; refine tN.mono ?_; clear tN; rintro e w2 ⟨B, au, af, gu, gf, cu, cf, rfl, hM, hB2⟩))
  have hn0 := hB1.size
  have hB : Below w.heap.size w w2 := hB1.trans (hB2.mono hB1.size)
  have hn2 : w1.heap.size ≤ w2.heap.size := hB2.size
  have hr2 : w2.heap.size ≤ w2.heap.size := Nat.le_refl _
  clear hB1 hB2
  go_loopg [10] 100 (fun g i wr => ∃ (k : Nat) (s : BibSt), k ≤ Z ∧ g = 100 - k ∧ i = .int .i64 k ∧ BMon w1.heap.size w2.heap.size B au af gu gf cu cf wr s ∧ Hid (BAlike (newBib n m zs ys) s) ∧ w2.heap.size ≤ wr.heap.size ∧ Below w.heap.size w wr)
  case atStart => exact ⟨0, _, by omega, rfl, rfl, hM, BAlike.refl _, hr2, hB⟩
  case round =>
    clear hM hB hr2
    obtain ⟨k, s, hk, rfl, rfl, hM, HA, hsz, hB⟩ := hrel
    by_cases hlt : k < Z
    · have hq1 : (k : Int) < (q : Int) := by omega
      have hq2 : (k : Int) < 100 := by omega
      rcases h3 with h3 | ⟨b, off, rfl, hl⟩
      · omega
      have e0 := (hB.cell (p := ⟨b, off + k * 4, none⟩) hl.old).trans (hl.c0 k (by omega))
      have e1 := (hB.cell (p := ⟨b, off + k * 4 + 1, none⟩) hl.old).trans (hl.c1 k (by omega))
      have e2 := (hB.cell (p := ⟨b, off + k * 4 + 2, none⟩) hl.old).trans (hl.c2 k (by omega))
      have e3 := (hB.cell (p := ⟨b, off + k * 4 + 3, none⟩) hl.old).trans (hl.c3 k (by omega))
      have lb : b < wr.heap.size := Nat.lt_of_lt_of_le hl.old hB.size
      have HS : Hid (SinkTo s (k0 k) (k1 k) (k2 k) (askBib s (k0 k) (k1 k) (k2 k)).1 (askBib s (k0 k) (k1 k) (k2 k)).2) := sinkTo _ _ _ _
      have hfl : s.fl = fun i => (ys[i]?.getD 0).toNat := HA.out.fl
      have hnf : s.nf = m := HA.out.nf
      have HA2 : Hid (BAlike (newBib n m zs ys) (askBib s (k0 k) (k1 k) (k2 k)).2) := HA.out.trans (askBib_alike _ _ _ _)
      obtain ⟨x0, hx0⟩ : ∃ x, k0 k = x := ⟨_, rfl⟩
      obtain ⟨x1, hx1⟩ : ∃ x, k1 k = x := ⟨_, rfl⟩
      obtain ⟨x2, hx2⟩ : ∃ x, k2 k = x := ⟨_, rfl⟩
      obtain ⟨x3, hx3⟩ : ∃ x, k3 k = x := ⟨_, rfl⟩
      rw [hx0] at e0 HS HA2
      rw [hx1] at e1 HS HA2
      rw [hx2] at e2 HS HA2
      rw [hx3] at e3
      clear hx0 hx1 hx2 hx3 HA
      have hB0 : Below wr.heap.size wr (wr.alloc (.cells #[.int .i64 x0, .int .i64 x1, .int .i64 x2, .int .i64 x3] 37)) := (Below.refl _ _).alloc (Nat.le_refl _) _
      obtain ⟨d0, d1, d2, d3, _⟩ : Box4 wr (wr.alloc (.cells #[.int .i64 x0, .int .i64 x1, .int .i64 x2, .int .i64 x3] 37)) x0 x1 x2 x3 := box4_of (Below.refl _ _)
      obtain ⟨W0, hW0⟩ : ∃ x, wr.alloc (.cells #[.int .i64 x0, .int .i64 x1, .int .i64 x2, .int .i64 x3] 37) = x := ⟨_, rfl⟩
      rw [hW0] at hB0 d0 d1 d2 d3
      have hM0 := hM.below hB0
      have hBw : Below w.heap.size w W0 := hB.trans (hB0.mono hB.size)
      have lw : wr.heap.size < W0.heap.size := old_of_cell d0
      have lB := hM0.ltB
      have lo := hM0.low
      have tL := level_any hM0 x1
      have tA := biAsk_any hM0 x0 x1 x2 x3
      have hle := HS.out.le
      have hco := HS.out.code
      have hdo := HS.out.done
      rw [hfl, hnf] at hdo
      obtain ⟨c, hc⟩ : ∃ c, (askBib s x0 x1 x2).1 = c := ⟨_, rfl⟩
      obtain ⟨s', hs'⟩ : ∃ x, (askBib s x0 x1 x2).2 = x := ⟨_, rfl⟩
      rw [hc, hs'] at tA
      rw [hc, hs'] at hdo hco
      rw [hs'] at HA2 hle
      have tL2 := fun W (h : BMon w1.heap.size w2.heap.size B au af gu gf cu cf W s') => level_any h x1
      obtain ⟨r, hr⟩ : ∃ x, levI s' x1 = x := ⟨_, rfl⟩
      obtain ⟨p, hp⟩ : ∃ x, levI s x1 = x := ⟨_, rfl⟩
      rw [hr] at hle hco hdo tL2
      rw [hp] at hle hco tL
      clear hr hp hc hs' HS hfl hnf hM hB
      by_cases hc0 : c = 0
      · obtain ⟨⟨f0, f1⟩, hdn⟩ := hdo hc0
        clear hdo
        subst hc0
        obtain ⟨f, rfl⟩ := Int.eq_ofNat_of_zero_le f0
        obtain ⟨b2, o2, rfl, hcl⟩ := levs_nat h2 hy (by omega)
        have hcf := Hid.mkI (fun W hW => hcl W hW f (by omega))
        rw [errV_zero] at tA
        simp only [Int.toNat_natCast] at hdn
        obtain ⟨y, hy'⟩ : ∃ y, (ys[f]?.getD 0).toNat = y := ⟨_, rfl⟩
        rw [hy'] at hcf hdn
        clear hy' hcl hco h2 hy
        rcases hdn with ⟨rfl, hry⟩ | ⟨rfl, hry⟩
        · as_aux_lemma =>
          go_wp2_with (first | (go_at_call 19; refine tL.mono ?_; clear tL; rintro e w' ⟨rfl, hw⟩; obtain rfl := hw.symm) | (go_at_call 17; refine tA.mono ?_; clear tA; rintro e w3 ⟨rfl, hM3, hBt⟩; have d30 := (hBt.cell (p := ⟨wr.heap.size, 0, none⟩) lw (.inr hsz)).trans d0; have d31 := (hBt.cell (p := ⟨wr.heap.size, 1, none⟩) lw (.inr hsz)).trans d1; have d32 := (hBt.cell (p := ⟨wr.heap.size, 2, none⟩) lw (.inr hsz)).trans d2; have hB3 : Below w.heap.size w w3 := hBw.trans ((hBt.below (by omega)).mono hn0); have e4 := hcf.out w3 hB3; replace tL2 := tL2 w3 hM3) | (go_at_call 19; refine tL2.mono ?_; clear tL2; rintro e w' ⟨rfl, hw⟩; obtain rfl := hw.symm))
          go_roundg (100 - (k + 1))
          case measure => omega
          case rel => exact ⟨k + 1, s', by omega, rfl, by go_num, hM3, HA2, by have := hBt.size; omega, hB3⟩
        · as_aux_lemma =>
          go_wp2_with (first | (go_at_call 19; refine tL.mono ?_; clear tL; rintro e w' ⟨rfl, hw⟩; obtain rfl := hw.symm) | (go_at_call 17; refine tA.mono ?_; clear tA; rintro e w3 ⟨rfl, hM3, hBt⟩; have d30 := (hBt.cell (p := ⟨wr.heap.size, 0, none⟩) lw (.inr hsz)).trans d0; have d31 := (hBt.cell (p := ⟨wr.heap.size, 1, none⟩) lw (.inr hsz)).trans d1; have d32 := (hBt.cell (p := ⟨wr.heap.size, 2, none⟩) lw (.inr hsz)).trans d2; have hB3 : Below w.heap.size w w3 := hBw.trans ((hBt.below (by omega)).mono hn0); have e4 := hcf.out w3 hB3; replace tL2 := tL2 w3 hM3) | (go_at_call 19; refine tL2.mono ?_; clear tL2; rintro e w' ⟨rfl, hw⟩; obtain rfl := hw.symm))
          go_roundg (100 - (k + 1))
          case measure => omega
          case rel => exact ⟨k + 1, s', by omega, rfl, by go_num, hM3, HA2, by have := hBt.size; omega, hB3⟩
      · obtain rfl := hco hc0
        have hv : errV c = .iface 63 (.int .i64 c) := if_neg hc0
        rw [hv] at tA
        clear hco hdo hv hc0
        as_aux_lemma =>
        go_wp2_with (first | (go_at_call 19; refine tL.mono ?_; clear tL; rintro e w' ⟨rfl, hw⟩; obtain rfl := hw.symm) | (go_at_call 17; refine tA.mono ?_; clear tA; rintro e w3 ⟨rfl, hM3, hBt⟩; have d31 := (hBt.cell (p := ⟨wr.heap.size, 1, none⟩) lw (.inr hsz)).trans d1; have hB3 : Below w.heap.size w w3 := hBw.trans ((hBt.below (by omega)).mono hn0); replace tL2 := tL2 w3 hM3) | (go_at_call 19; refine tL2.mono ?_; clear tL2; rintro e w' ⟨rfl, hw⟩; obtain rfl := hw.symm))
        go_roundg (100 - (k + 1))
        case measure => omega
        case rel => exact ⟨k + 1, s', by omega, rfl, by go_num, hM3, HA2, by have := hBt.size; omega, hB3⟩
    · have hex : (q : Int) ≤ (k : Int) ∨ ((k : Int) < (q : Int) ∧ 100 ≤ (k : Int)) := by omega
      clear hlt hZ hk h3
      rcases hex with hx | ⟨hx, hx2⟩
      all_goals as_aux_lemma =>
        go_wp2
        go_ret
        exact ⟨rfl, hB⟩
theorem bibSin_any (a1 a2 a3 : Option Addr) (n c1 m c2 q c3 : Nat) (zs ys : List Int) (k0 k1 k2 k3 : Nat → Int) (w : World) (h1 : AtNums w a1 n zs) (h2 : AtNums w a2 m ys) (h3 : AtAsks w a3 q k0 k1 k2 k3) (hE : ErrT w) :
    Calls Tryd.prog 5 #[.slice a1 n c1, .slice a2 m c2, .slice a3 q c3] w fun e w' => e = .returned (.bool true) ∧ Below w.heap.size w w' := by
  have hF := bibaFact_is w hE
  rcases biNew_is a1 a2 n c1 m c2 zs ys w h1 h2 with ⟨c, _, _, hN⟩ | ⟨hn, hm, hz, hy, hN⟩
  · exact bibSin_err a1 a2 a3 n c1 m c2 q c3 c w hF hN
  · obtain ⟨Z, hZ⟩ := upto100 q
    exact bibSin_in a1 a2 a3 n c1 m c2 q c3 zs ys k0 k1 k2 k3 w hF h2 h3 hm hy hN Z hZ
end Go.Proofs.YteheaeihoameeaaDoor
