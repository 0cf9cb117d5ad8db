/- The walk of the law WallMany. -/
import Derived.WalkKit
import Derived.LoopTactic
import Derived.Deep.LoopGhost
import Derived.Test.YtkkhcgapfklmjaaDoorWalPure
import Derived.Test.YtkkhcgapfklmjaaDoorAsksOpen
import Derived.Test.YtkkhcgapfklmjaaDoorSets
namespace Go.Proofs.YtkkhcgapfklmjaaDoor
open Go.RowKit
set_option maxRecDepth 100000

set_option maxHeartbeats 1000000 in
theorem waMan_err (a2 a3 : Option Addr) (u : Int) (m c2 q c3 : Nat) (t : Int) (c : Int) (w : World) (hF : WFactIs w)
    (hN : ∀ W, Below w.heap.size w W → Calls Tryd.prog 8 #[.int .i64 u, .slice a2 m c2] W fun e w' => e = .returned (.tuple #[.pointer none, .iface 50 (.int .i64 c)]) ∧ w' = W) :
    Calls Tryd.prog 5 #[.int .i64 u, .slice a2 m c2, .slice a3 q c3, .int .i64 t] w fun e w' => e = .returned (.bool true) ∧ Below w.heap.size w w' := by
  have tF := hF w (Below.refl _ _)
  clear hF
  go_enter Tryd.func5, Tryd.ntmps5
  go_wp2_with (first | (go_at_call 7; refine tF.mono ?_; clear tF; rintro e w1 ⟨rfl, hB1⟩; have tN := hN w1 hB1; clear hN) | (go_at_call 8; refine tN.mono ?_; clear tN; rintro e w2 ⟨rfl, rfl⟩))
  go_ret
  exact ⟨rfl, hB1⟩
set_option maxHeartbeats 1000000 in
theorem waMan_zero (a2 a3 : Option Addr) (n m c2 q c3 : Nat) (ys : List Int) (w : World) (hF : WFactIs w)
    (hN : ∀ W, Below w.heap.size w W → Calls Tryd.prog 8 #[.int .i64 (n : Int), .slice a2 m c2] W fun e w' => ∃ B au af gu gf cu cf, e = .returned (.tuple #[.pointer (some ⟨B, 0, none⟩), .nilIface]) ∧ WMon W.heap.size w'.heap.size B au af gu gf cu cf w' (newWall n m ys) ∧ Below W.heap.size W w') :
    Calls Tryd.prog 5 #[.int .i64 (n : Int), .slice a2 m c2, .slice a3 q c3, .int .i64 0] w fun e w' => e = .returned (.bool true) ∧ Below w.heap.size w w' := by
  have tF := hF w (Below.refl _ _)
  clear hF
  go_enter Tryd.func5, Tryd.ntmps5
  go_wp2_with (first | (go_at_call 7; refine tF.mono ?_; clear tF; rintro e w1 ⟨rfl, hB1⟩; have tN := hN w1 hB1; clear hN) | (go_at_call 8; refine tN.mono ?_; clear tN; rintro e w2 ⟨B, au, af, gu, gf, cu, cf, rfl, hM, hB2⟩))
  go_ret
  exact ⟨rfl, hB1.trans (hB2.mono hB1.size)⟩
/-- Is a firm of a trade one that somebody saw? -/
def seenB (s : WallSt) (n : Nat) (t : Int) (f : Nat) : Bool := anyU s.saw f n && ((s.tr f : Int) == t)
theorem seen_le {s : WallSt} (h : Rivs s) (n : Nat) (hn : n ≤ s.nu) (t : Int) (ht : t ≠ 0) : cnt (seenB s n t) s.nf ≤ n := by
  by_cases h0 : 0 ≤ t
  · obtain ⟨t, rfl⟩ := Int.eq_ofNat_of_zero_le h0
    have hm := many_le h t (by omega) n hn
    have e : seenB s n (t : Int) = fun f => anyU s.saw f n && (s.tr f == t) := by
      funext f
      unfold seenB
      congr 1
      rw [Bool.eq_iff_iff, beq_iff_eq, beq_iff_eq]
      omega
    rw [e]
    exact hm
  · have : ∀ k, cnt (seenB s n t) k = 0 := by
      intro k
      induction k with
      | zero => rfl
      | succ k ih =>
        have hf : seenB s n t k = false := by
          unfold seenB
          have : ((s.tr k : Int) == t) = false := by
            rw [beq_eq_false_iff_ne]
            omega
          rw [this, Bool.and_false]
        unfold cnt
        rw [ih, hf]
        rfl
    rw [this]
    exact Nat.zero_le _
set_option maxHeartbeats 8000000 in
theorem waMan_in (a2 a3 : Option Addr) (n m c2 q c3 : Nat) (ys : List Int) (k0 k1 k2 k3 : Nat → Int) (t : Int) (ht : t ≠ 0) (w : World) (hT : Tab w) (hF : WFactIs w)
    (h2 : AtNums w a2 m ys) (h3 : AtAsks w a3 q k0 k1 k2 k3) (hn8 : n ≤ 8) (hm8 : m ≤ 8) (hy : AllLev m ys)
    (hN : ∀ W, Below w.heap.size w W → Calls Tryd.prog 8 #[.int .i64 (n : Int), .slice a2 m c2] W fun e w' => ∃ B au af gu gf cu cf, e = .returned (.tuple #[.pointer (some ⟨B, 0, none⟩), .nilIface]) ∧ WMon W.heap.size w'.heap.size B au af gu gf cu cf w' (newWall n m ys) ∧ Below W.heap.size W w')
    (Z : Nat) (hZ : (Z = q ∧ q ≤ 100) ∨ (Z = 100 ∧ 100 < q)) :
    Calls Tryd.prog 5 #[.int .i64 (n : Int), .slice a2 m c2, .slice a3 q c3, .int .i64 t] w fun e w' => e = .returned (.bool true) ∧ Below w.heap.size w w' := by
  have tF := hF w (Below.refl _ _)
  have hm8' : (m : Int) ≤ 8 := by omega
  have hn8' : (n : Int) ≤ 8 := by omega
  have ht0 : (t == 0) = false := by simp [ht]
  clear hF
  go_enter Tryd.func5, Tryd.ntmps5
  go_wp2_with (first | (go_at_call 7; refine tF.mono ?_; clear tF; rintro e w1 ⟨rfl, hB1⟩; have tN := hN w1 hB1; clear hN) | (go_at_call 8; refine tN.mono ?_; clear tN; rintro e w2 ⟨B, au, af, gu, gf, cu, cf, rfl, hM, hB2⟩))
  have hn0 := hB1.size
  have hB : Below w.heap.size w w2 := hB1.trans (hB2.mono hB1.size)
  have HTT := Hid.mkI ht
  clear hB1 hB2 ht ht0
  go_loopg [12] 100 (fun g i wr => ∃ (k : Nat) (s : WallSt), k ≤ Z ∧ g = 100 - k ∧ i = .int .i64 k ∧ WMon w1.heap.size w2.heap.size B au af gu gf cu cf wr s ∧ Hid (WallOk s) ∧ Hid (WAlike (newWall n m ys) s) ∧ Hid (Rivs s) ∧ Below w.heap.size w wr)
  case atStart => exact ⟨0, _, by omega, rfl, rfl, hM, newWall_ok hn8 hm8 hy, WAlike.refl _, rivs_new _ _ _, hB⟩
  case round =>
    clear hM hB
    obtain ⟨k, s, hk, rfl, rfl, hM, HO, HA, HP, hB⟩ := hrel
    by_cases hlt : k < Z
    · have hq1 : (k : Int) < (q : Int) := by omega
      have hq2 : (k : Int) < 100 := by omega
      rcases h3 with h3 | ⟨b, off, rfl, hl⟩
      · omega
      have e0 := (hB.cell (p := ⟨b, off + k * 4, none⟩) hl.old).trans (hl.c0 k (by omega))
      have e1 := (hB.cell (p := ⟨b, off + k * 4 + 1, none⟩) hl.old).trans (hl.c1 k (by omega))
      have e2 := (hB.cell (p := ⟨b, off + k * 4 + 2, none⟩) hl.old).trans (hl.c2 k (by omega))
      have e3 := (hB.cell (p := ⟨b, off + k * 4 + 3, none⟩) hl.old).trans (hl.c3 k (by omega))
      have tA := waAskIs hT hn0 HO.out (k0 k) (k1 k) (k2 k) (k3 k) hB hM
      have HO2 : Hid (WallOk (askWall s (k0 k) (k1 k) (k2 k)).2) := askWall_ok HO.out _ _ _
      have HA2 : Hid (WAlike (newWall n m ys) (askWall s (k0 k) (k1 k) (k2 k)).2) := HA.out.trans (askWall_alike _ _ _ _)
      have HP2 : Hid (Rivs (askWall s (k0 k) (k1 k) (k2 k)).2) := rivs_ask HP.out _ _ _
      obtain ⟨v, hv⟩ : ∃ v, errV (askWall s (k0 k) (k1 k) (k2 k)).1 = v := ⟨_, rfl⟩
      obtain ⟨s', hs'⟩ : ∃ x, (askWall s (k0 k) (k1 k) (k2 k)).2 = x := ⟨_, rfl⟩
      rw [hv, hs'] at tA
      rw [hs'] at HO2 HA2 HP2
      clear hv hs' HO HA HP hM hB
      as_aux_lemma =>
      go_wp2_with (go_at_call 9; refine tA.mono ?_; clear tA; rintro e w3 ⟨rfl, hM3, hB3⟩)
      go_roundg (100 - (k + 1))
      case measure => omega
      case rel => exact ⟨k + 1, s', by omega, rfl, by go_num, hM3, HO2, HA2, HP2, hB3⟩
    · have hex : (q : Int) ≤ (k : Int) ∨ ((k : Int) < (q : Int) ∧ 100 ≤ (k : Int)) := by omega
      have hnf : s.nf = m := HA.out.nf
      have hnu : s.nu = n := HA.out.nu
      have htr : Hid (∀ i, s.tr i = (ys[i]?.getD 0).toNat) := fun i => by rw [HA.out.tr]; rfl
      have HL : Hid (cnt (seenB s n t) m ≤ n) := by
        have h := seen_le HP.out n (by omega) t HTT.out
        rw [hnf] at h
        exact h
      clear hlt hZ hk h3 HA HP HTT
      rcases hex with hx | ⟨hx, hx2⟩
      all_goals
        go_wp2
        go_loopg [13, 14] m (fun g c i wi => ∃ f : Nat, f ≤ m ∧ g = m - f ∧ c = .int .i64 (cnt (seenB s n t) f : Nat) ∧ i = .int .i64 f ∧ WMon w1.heap.size w2.heap.size B au af gu gf cu cf wi s ∧ Below w.heap.size w wi)
        case atStart => exact ⟨0, by omega, rfl, rfl, rfl, hM, hB⟩
        case round =>
          clear hM hB
          obtain ⟨f, hf, rfl, rfl, rfl, hM, hB⟩ := hrel
          have hcl := cnt_le (seenB s n t) f
          by_cases hft : f < m
          · have hf' : (f : Int) < (m : Int) := by omega
            obtain ⟨b2, o2, rfl, hcells⟩ := wlevs_nat h2 hy (by omega)
            have HC := Hid.mkI hcells
            have HNX : Hid (cnt (seenB s n t) (f + 1) = cnt (seenB s n t) f + (if (anyU s.saw f n && ((s.tr f : Int) == t)) = true then 1 else 0)) := rfl
            have HG : Hid (∀ u, u < n → s.saw u < 4096) := fun u hu => by
              have h := HO.out.saw u (by omega)
              have h12 : 2 ^ s.nf ≤ 4096 := pow12 (by omega)
              omega
            obtain ⟨cc, hcc⟩ : ∃ x, cnt (seenB s n t) f = x := ⟨_, rfl⟩
            rw [hcc] at hcl HNX ⊢
            clear hcells hcc
            go_wp2
            go_loopg [15, 16] n (fun d a i wi => ∃ u : Nat, u ≤ n ∧ d = n - u ∧ a = .bool (anyU s.saw f u) ∧ i = .int .i64 u ∧ WMon w1.heap.size w2.heap.size B au af gu gf cu cf wi s ∧ Below w.heap.size w wi)
            case atStart => exact ⟨0, by omega, rfl, rfl, rfl, hM, hB⟩
            case round =>
              clear hM hB
              obtain ⟨u, hu, rfl, rfl, rfl, hM, hB⟩ := hrel
              by_cases hut : u < n
              · have hu' : (u : Int) < (n : Int) := by omega
                have hu8 : (u : Int) < 8 := by omega
                have tS := saw_in hM u (by omega)
                have tB := fun W => bit_any (s.saw u) f (HG.out u hut) (by omega) W
                have HU : Hid (anyU s.saw f (u + 1) = (anyU s.saw f u || (s.saw u).testBit f)) := rfl
                obtain ⟨x, hxe⟩ : ∃ x, s.saw u = x := ⟨_, rfl⟩
                rw [hxe] at tS tB HU
                obtain ⟨p, hp⟩ : ∃ x, x = anyU s.saw f u := ⟨_, rfl⟩
                rw [← hp] at HU ⊢
                obtain ⟨p2, hp2⟩ : ∃ y, x.testBit f = y := ⟨_, rfl⟩
                rw [hp2] at HU tB
                have hx0 : (0 : Int) ≤ (x : Int) := by omega
                clear hxe hp hp2 HG HNX HC
                cases p with
                | true =>
                  as_aux_lemma =>
                  go_wp2_with (go_at_call 10; refine tS.mono ?_; clear tS; rintro e w' ⟨rfl, rfl⟩)
                  go_roundg (n - (u + 1))
                  case measure => omega
                  case rel => exact ⟨u + 1, by omega, rfl, by rw [HU.out]; rfl, by go_num, hM, hB⟩
                | false =>
                  as_aux_lemma =>
                  go_wp2_with (first | (go_at_call 10; refine tS.mono ?_; clear tS; rintro e w' ⟨rfl, rfl⟩) | (go_at_call 11; refine (tB _).mono ?_; clear tB; rintro e w' ⟨rfl, rfl⟩))
                  go_roundg (n - (u + 1))
                  case measure => omega
                  case rel => exact ⟨u + 1, by omega, rfl, by rw [HU.out]; rfl, by go_num, hM, hB⟩
              · have hge : (n : Int) ≤ (u : Int) := by omega
                obtain rfl : u = n := by omega
                have j1 := HC.out wr hB f hft
                rw [← htr.out f] at j1
                obtain ⟨p, hp⟩ : ∃ x, anyU s.saw f u = x := ⟨_, rfl⟩
                rw [hp] at HNX ⊢
                obtain ⟨y, hy'⟩ : ∃ y, s.tr f = y := ⟨_, rfl⟩
                rw [hy'] at j1 HNX
                clear hp hy' HG HC
                cases p with
                | false =>
                  as_aux_lemma =>
                  go_wp2
                  go_roundg (m - (f + 1))
                  case measure => omega
                  case rel => exact ⟨f + 1, by omega, rfl, by rw [HNX.out]; simp, by go_num, hM, hB⟩
                | true =>
                  by_cases he : (y : Int) = t
                  · have he1 : ((y : Int) == t) = true := by simp [he]
                    rw [he1] at HNX
                    subst he
                    as_aux_lemma =>
                    go_wp2
                    go_roundg (m - (f + 1))
                    case measure => omega
                    case rel => exact ⟨f + 1, by omega, rfl, by rw [HNX.out]; simp, by go_num, hM, hB⟩
                  · have he1 : ((y : Int) == t) = false := by simp [he]
                    rw [he1] at HNX
                    as_aux_lemma =>
                    go_wp2
                    go_roundg (m - (f + 1))
                    case measure => omega
                    case rel => exact ⟨f + 1, by omega, rfl, by rw [HNX.out]; simp, by go_num, hM, hB⟩
          · have hge : (m : Int) ≤ (f : Int) := by omega
            obtain rfl : f = m := by omega
            have hle : (cnt (seenB s n t) f : Int) ≤ (n : Int) := by have := HL.out; omega
            obtain ⟨cc, hcc⟩ : ∃ x, cnt (seenB s n t) f = x := ⟨_, rfl⟩
            rw [hcc] at hle ⊢
            clear HL hcc hcl
            go_wp2
            go_ret
            exact ⟨rfl, hB⟩
theorem waMan_any (u : Int) (a2 a3 : Option Addr) (m c2 q c3 : Nat) (ys : List Int) (k0 k1 k2 k3 : Nat → Int) (t : Int) (w : World) (h2 : AtNums w a2 m ys) (h3 : AtAsks w a3 q k0 k1 k2 k3) (hT : Tab w) (hE : ErrT w) :
    Calls Tryd.prog 5 #[.int .i64 u, .slice a2 m c2, .slice a3 q c3, .int .i64 t] w fun e w' => e = .returned (.bool true) ∧ Below w.heap.size w w' := by
  have hF := wallFact_is w hT hE
  rcases waNew_is a2 u m c2 ys w h2 with ⟨c, _, _, hN⟩ | ⟨n, rfl, hn, hm, hy, hN⟩
  · exact waMan_err a2 a3 u m c2 q c3 t c w hF hN
  · by_cases ht : t = 0
    · subst ht
      exact waMan_zero a2 a3 n m c2 q c3 ys w hF hN
    · obtain ⟨Z, hZ⟩ := upto100w q
      exact waMan_in a2 a3 n m c2 q c3 ys k0 k1 k2 k3 t ht w hT hF h2 h3 hn hm hy hN Z hZ
end Go.Proofs.YtkkhcgapfklmjaaDoor
