/- What flows into what in one step, as the program has it: its finder (value, deed). -/
import Derived.WalkKit
import Derived.LoopTactic
import Derived.OwnWalk
import Derived.Deep.RegionHeld3
import Derived.Deep.QuietTactic
import Derived.Test.YtioimgeeamchaaaDoorFloA
import Derived.Test.YtioimgeeamchaaaDoorRunK
import Derived.Test.YtioimgeeamchaaaDoorClosure
import Derived.Test.YtioimgeeamchaaaDoorProX
namespace Go.Proofs.YtioimgeeamchaaaDoor
open Go.RowKit
set_option maxRecDepth 100000
set_option linter.unusedVariables false

/-- What flows into a variable in a deed, in the midst of c. -/
def flD (l : List Nod) (i c v : Nat) : Nat := flE (i + 1) l i c v
theorem flD_skip {l : List Nod} {i : Nat} (h : (nthD l i).kd = 5) (c v : Nat) : flD l i c v = 0 := by
  rw [flD, flE, if_neg (by omega), if_neg (by omega), if_neg (by omega), if_neg (by omega)]
theorem flD_set {l : List Nod} {i A k : Nat} (h : (nthD l i).kd = 6) (hA : (nthD l i).pa = (A : Int)) (hk : (nthD l i).num = (k : Int)) (c v : Nat) : flD l i c v = if v = k then nm l A ||| c else 0 := by
  rw [flD, flE, if_pos h, hA, hk, Int.toNat_natCast, Int.toNat_natCast]
  by_cases e : v = k
  · rw [if_pos e, if_pos e.symm]
  · rw [if_neg e, if_neg (fun q => e q.symm)]
theorem flD_both {l : List Nod} (hG : Good l) {i A B : Nat} (hi : i < l.length) (h : (nthD l i).kd = 7) (hA : (nthD l i).pa = (A : Int)) (hB : (nthD l i).pb = (B : Int)) (lA : A < i) (lB : B < i) (kA : 5 ≤ (nthD l A).kd) (kB : 5 ≤ (nthD l B).kd) (c v : Nat) : flD l i c v = flD l A c v ||| flD l B c v := by
  rw [flD, flE, if_neg (by omega), if_pos h, hA, hB, Int.toNat_natCast, Int.toNat_natCast]
  rw [flE_fuel hG (A + 1) A (by omega) (by omega) kA i (A + 1) c v (by omega) (by omega), flE_fuel hG (B + 1) B (by omega) (by omega) kB i (B + 1) c v (by omega) (by omega)]
  rfl
theorem flD_if {l : List Nod} (hG : Good l) {i A B D : Nat} (hi : i < l.length) (h : (nthD l i).kd = 8) (hA : (nthD l i).pa = (A : Int)) (hB : (nthD l i).pb = (B : Int)) (hD : (nthD l i).pc = (D : Int)) (lB : B < i) (lD : D < i) (kB : 5 ≤ (nthD l B).kd) (kD : 5 ≤ (nthD l D).kd) (c v : Nat) : flD l i c v = flD l B (c ||| nm l A) v ||| flD l D (c ||| nm l A) v := by
  rw [flD, flE, if_neg (by omega), if_neg (by omega), if_pos h, hA, hB, hD, Int.toNat_natCast, Int.toNat_natCast, Int.toNat_natCast]
  rw [flE_fuel hG (B + 1) B (by omega) (by omega) kB i (B + 1) _ v (by omega) (by omega), flE_fuel hG (D + 1) D (by omega) (by omega) kD i (D + 1) _ v (by omega) (by omega)]
  rfl
theorem flD_whl {l : List Nod} (hG : Good l) {i A B : Nat} (hi : i < l.length) (h : (nthD l i).kd = 9) (hA : (nthD l i).pa = (A : Int)) (hB : (nthD l i).pb = (B : Int)) (lB : B < i) (kB : 5 ≤ (nthD l B).kd) (c v : Nat) : flD l i c v = flD l B (c ||| nm l A) v := by
  rw [flD, flE, if_neg (by omega), if_neg (by omega), if_neg (by omega), if_pos h, hA, hB, Int.toNat_natCast, Int.toNat_natCast]
  rw [flE_fuel hG (B + 1) B (by omega) (by omega) kB i (B + 1) _ v (by omega) (by omega)]
  rfl
theorem flD_small {l : List Nod} (hG : Good l) {i : Nat} (hi : i < l.length) (h5 : 5 ≤ (nthD l i).kd) {c : Nat} (hc : c < 2 ^ 6) (v : Nat) : flD l i c v < 2 ^ 6 :=
  lt_of_bits fun j hj => flE_lt hG (i + 1) i hi h5 c v j (fun w hw => bit_lt hc hw) hj

/-- The finder: the program, and what flows into each variable. -/
structure Fnd (w0 : World) (X M cM : Nat) (pv : Value) (F : Nat → Nat) (W : World) : Prop where
  lo : w0.heap.size ≤ X
  c0 : W.cell? ⟨X, 0, none⟩ = some pv
  c1 : W.cell? ⟨X, 1, none⟩ = some (.slice (some ⟨M, 0, none⟩) 6 cM)
  mlo : w0.heap.size ≤ M
  own : Own W M 6 F
  ne : M ≠ X
  bel : Below w0.heap.size w0 W
section
variable {w0 : World} {X M cM : Nat} {pv : Value} {F : Nat → Nat} {W : World}
theorem Fnd.hi (h : Fnd w0 X M cM pv F W) : X < W.heap.size := old_of_cell h.c0
theorem Fnd.below {W' : World} (h : Fnd w0 X M cM pv F W) (k : Below W.heap.size W W') : Fnd w0 X M cM pv F W' :=
  ⟨h.lo, keep_cell k h.c0, keep_cell k h.c1, h.mlo, h.own.below k, h.ne, h.bel.trans (k.mono h.bel.size)⟩
theorem Fnd.put (h : Fnd w0 X M cM pv F W) {k v : Nat} {G : Nat → Nat} (hk : k < 6) (hv : G k = v) (ho : ∀ j, j < 6 → j ≠ k → G j = F j) : Fnd w0 X M cM pv G (W.setCell ⟨M, k, none⟩ (.int .i64 (v : Int))) :=
  ⟨h.lo, (cell_far (fun q => h.ne q.1.symm)).trans h.c0, (cell_far (fun q => h.ne q.1.symm)).trans h.c1, h.mlo, h.own.put hk hv ho, h.ne, h.bel.setCell (p := ⟨M, k, none⟩) h.mlo _⟩
theorem Fnd.like (h : Fnd w0 X M cM pv F W) {G : Nat → Nat} (e : ∀ v, G v = F v) : Fnd w0 X M cM pv G W := by
  have : G = F := funext e
  rw [this]; exact h
end
abbrev fdP (X : Nat) : Value := .pointer (some ⟨X, 0, none⟩)
set_option maxHeartbeats 4000000 in
theorem fvalue_any {l : List Nod} (hG : Good l) {w0 : World} {X M cM cp : Nat} {a : Option Addr} (hat : AtNods w0 a l.length (nthD l)) : ∀ (m i : Nat), i < m → i < l.length → (nthD l i).kd < 5 → ∀ (F : Nat → Nat) (w : World), Fnd w0 X M cM (.slice a l.length cp) F w →
    Calls Tryd.prog 46 #[fdP X, .int .i64 (i : Int)] w fun e w' => e = .returned (.int .i64 (nm l i : Nat)) ∧ Below w.heap.size w w'
  | 0, _, h, _, _, _, _, _ => absurd h (by omega)
  | m + 1, i, him, hi, h5, F, w, hf => by
    have hkd := hG.kd hi
    have h80 := hG.r.few
    obtain ⟨x, hx⟩ : ∃ x, nthD l i = x := ⟨_, rfl⟩
    obtain ⟨b, off, rfl, hb, z0, z1, z2, z3, z4⟩ := nods_cells (hat.below hf.bel) hi hx
    have N := nod5_new w x.kd x.num x.pa x.pb x.pc
    have hB : Below w.heap.size w (w.alloc (.cells #[.int .i64 x.kd, .int .i64 x.num, .int .i64 x.pa, .int .i64 x.pb, .int .i64 x.pc] 47)) := (Below.refl _ w).alloc (Nat.le_refl _) _
    have p0 := hf.c0
    have hnI : (l.length : Int) ≤ 80 := by omega
    have hiI : (i : Int) < (l.length : Int) := by omega
    obtain ⟨d0, d1, d2, d3, d4⟩ := id N
    by_cases h1 : x.kd = 1
    · obtain ⟨k, ek, hk6⟩ := hG.var hi (.inl (by rw [hx]; exact h1))
      rw [nm_var (by rw [hx]; exact h1), ek, Int.toNat_natCast]
      rw [hx] at ek
      have hpw := pow_wrap (a := k) (by omega)
      have hkI : (k : Int) < 6 := by omega
      obtain ⟨y, hy⟩ : ∃ y, 2 ^ k = y := ⟨_, rfl⟩
      rw [hy] at hpw ⊢
      obtain ⟨kd, num, pa, pb, pc⟩ := x
      simp only at d0 d1 d2 d3 d4 z0 z1 z2 z3 z4 hB h1 ek
      subst h1; subst ek
      obtain ⟨n, hn⟩ : ∃ n, l.length = n := ⟨_, rfl⟩
      rw [hn] at hiI hnI p0
      clear hG hat hf hx hn N hy
      go_enter Tryd.func46, Tryd.ntmps46
      go_wp2
      go_ret
      exact ⟨by rw [hpw]; rfl, hB⟩
    · have HV := Hid.mkI (fun (k : Nat) (p : Int) (h : (prtL (nthD l i))[k]? = some p) => parts_val hG hi h5 h)
      have HNm := Hid.mkI (nm_orP hG hi h5 (by rw [hx]; exact h1))
      have HR := Hid.mkI (fun (q : Nat) (hq : q < i) (hk : (nthD l q).kd < 5) (w' : World) (k : Below w.heap.size w w') => fvalue_any hG (cp := cp) hat m q (by omega) (by omega) hk F w' (hf.below k))
      have HS := Hid.mkI (orP_small (l := l) (ps := prtL (nthD l i)) fun j p h => by
        obtain ⟨q, rfl, hq, hk⟩ := HV.out j p h
        rw [Int.toNat_natCast]; exact nm_small hG (by omega) hk)
      rw [hx] at HV HNm HS
      have tP := wparts_any x (w.alloc (.cells #[.int .i64 x.kd, .int .i64 x.num, .int .i64 x.pa, .int .i64 x.pb, .int .i64 x.pc] 47))
      obtain ⟨pl, hpl⟩ : ∃ pl, prtL x = pl := ⟨_, rfl⟩
      have hp3 : (pl.length : Int) ≤ 3 := by have := prtL_len x; rw [hpl] at this; omega
      rw [hpl] at tP HV HNm HS
      rw [HNm.out]
      have hcI : (x.kd == 1) = false := by simpa using h1
      obtain ⟨kd, num, pa, pb, pc⟩ := x
      simp only at d0 d1 d2 d3 d4 z0 z1 z2 z3 z4 hB tP hcI
      obtain ⟨n, hn⟩ : ∃ n, l.length = n := ⟨_, rfl⟩
      rw [hn] at hiI hnI p0
      clear hG hat hf hx hpl hn HNm h1 h5 hkd him hi hb N
      go_enter Tryd.func46, Tryd.ntmps46
      go_wp2_with (go_at_call 58; (with_reducible refine tP.mono ?_); clear tP; rintro e w1 ⟨a2, c2, rfl, hN, hB1⟩)
      have HN1 := Hid.mkI hN
      have HB1 := Hid.mkI (hB.trans (hB1.mono hB.size))
      clear hN hB1 hB d0 d1 d2 d3 d4 z0 z1 z2 z3 z4 p0
      go_loopw [6, 25] (fun s p wr => ∃ k : Nat, k ≤ pl.length ∧ s = .int .i64 (orP l pl k : Nat) ∧ p = .int .i64 (k : Int) ∧ Hid (Below w.heap.size w wr) ∧ Hid (NewP wr (w.heap.size + 1) a2 pl)) (fun _ p _ => pl.length - (intOf p).toNat)
      case atStart => exact ⟨0, by omega, rfl, rfl, HB1, show NewP _ _ _ _ by simpa using HN1.out⟩
      case round =>
        clear HB1 HN1
        obtain ⟨k, hk, rfl, rfl, HB, HN⟩ := hrel
        by_cases hkt : k < pl.length
        · have hkI : (k : Int) < (pl.length : Int) := by omega
          obtain ⟨P, hPk⟩ : ∃ P, pl[k]? = some P := ⟨_, List.getElem?_eq_getElem hkt⟩
          obtain ⟨b2, rfl, cP⟩ : ∃ b, a2 = some ⟨b, 0, none⟩ ∧ wr.cell? ⟨b, k, none⟩ = some (.int .i64 P) := by
            rcases HN.out with h | ⟨b, e, _, hc⟩
            · rw [h] at hPk; simp at hPk
            · exact ⟨b, e, hc k P hPk⟩
          obtain ⟨q, rfl, hq, hk5⟩ := HV.out k P hPk
          have tN := HR.out q hq hk5 wr HB.out
          have hs1 : nm l q < 2 ^ 6 := by have := HS.out (k + 1) (by omega); rw [orP, List.getD_eq_getElem?_getD, hPk] at this; exact Nat.lt_of_le_of_lt (Nat.right_le_or) this
          have hor := or_i64 (orP l pl k) (nm l q) (Nat.lt_trans (HS.out k hk) (by decide)) (Nat.lt_trans hs1 (by decide))
          have HE : Hid (orP l pl k ||| nm l q = orP l pl (k + 1)) := by show _ = _; rw [orP, List.getD_eq_getElem?_getD, hPk]; rfl
          rw [HE.out] at hor
          obtain ⟨y0, hy0⟩ : ∃ y, orP l pl k = y := ⟨_, rfl⟩
          obtain ⟨y1, hy1⟩ : ∃ y, nm l q = y := ⟨_, rfl⟩
          obtain ⟨y2, hy2⟩ : ∃ y, orP l pl (k + 1) = y := ⟨_, rfl⟩
          rw [hy0, hy1, hy2] at hor
          rw [hy1] at tN
          rw [hy0]
          have HY := Hid.mkI hy2
          clear hy0 hy1 hy2 HE hPk hs1
          go_wp2_with (go_at_call 46; (with_reducible refine tN.mono ?_); clear tN; rintro e w2 ⟨rfl, hB2⟩; have HB2 := Hid.mkI (HB.out.trans (hB2.mono HB.out.size)); have HN2 := Hid.mkI (show NewP w2 (w.heap.size + 1) (some ⟨b2, 0, none⟩) pl from HN.out.imp id fun ⟨b, e, hb, hc⟩ => ⟨b, e, hb, fun j v hj => keep_cell hB2 (hc j v hj)⟩))
          go_roundw
          case rel => exact ⟨k + 1, by omega, by rw [HY.out], by go_num, HB2, HN2⟩
          case measure => simp [intOf]; omega
        · obtain rfl : k = pl.length := by omega
          go_wp2
          go_ret
          exact ⟨rfl, HB.out⟩
/-- What a deed does. -/
abbrev FDeed (w0 : World) (X M cM : Nat) (pv : Value) (l : List Nod) (i : Nat) : Prop := ∀ (c : Nat) (F : Nat → Nat) (w : World), c < 2 ^ 6 → (∀ v, F v < 2 ^ 6) → Fnd w0 X M cM pv F w →
  Calls Tryd.prog 30 #[fdP X, .int .i64 (i : Int), .int .i64 (c : Int)] w fun e w' => e = .returned (.tuple #[]) ∧ Fnd w0 X M cM pv (fun v => F v ||| flD l i c v) w' ∧ Apart M M w w'
abbrev FVal (w0 : World) (X M cM : Nat) (pv : Value) (l : List Nod) (i : Nat) : Prop := ∀ (F : Nat → Nat) (w : World), Fnd w0 X M cM pv F w →
  Calls Tryd.prog 46 #[fdP X, .int .i64 (i : Int)] w fun e w' => e = .returned (.int .i64 (nm l i : Nat)) ∧ Below w.heap.size w w'
theorem fdeed_start {w0 w : World} {X M cM n cp i : Nat} {a : Option Addr} {F : Nat → Nat} {S : Nat → Nod} (hat : AtNods w0 a n S) (h : Fnd w0 X M cM (.slice a n cp) F w) (hi : i < n) {kd num pa pb pc : Int} (hx : S i = ⟨kd, num, pa, pb, pc⟩) :
    ∃ b off wx, a = some ⟨b, off, none⟩ ∧ b < w.heap.size ∧ w.cell? ⟨b, off + i * 5, none⟩ = some (.int .i64 kd) ∧ w.cell? ⟨b, off + i * 5 + 1, none⟩ = some (.int .i64 num) ∧ w.cell? ⟨b, off + i * 5 + 2, none⟩ = some (.int .i64 pa) ∧ w.cell? ⟨b, off + i * 5 + 3, none⟩ = some (.int .i64 pb) ∧ w.cell? ⟨b, off + i * 5 + 4, none⟩ = some (.int .i64 pc) ∧ w.cell? ⟨X, 0, none⟩ = some (.slice (some ⟨b, off, none⟩) n cp) ∧
      w.alloc (.cells #[.int .i64 kd, .int .i64 num, .int .i64 pa, .int .i64 pb, .int .i64 pc] 47) = wx ∧ Nod5 wx w.heap.size kd num pa pb pc ∧ Fnd w0 X M cM (.slice (some ⟨b, off, none⟩) n cp) F wx ∧ Apart M M w wx ∧ w.heap.size ≠ M := by
  obtain ⟨b, off, rfl, hb, z0, z1, z2, z3, z4⟩ := nods_cells (hat.below h.bel) hi hx
  have hB : Below w.heap.size w (w.alloc (.cells #[.int .i64 kd, .int .i64 num, .int .i64 pa, .int .i64 pb, .int .i64 pc] 47)) := (Below.refl _ w).alloc (Nat.le_refl _) _
  have := h.own.lt
  exact ⟨b, off, _, rfl, hb, z0, z1, z2, z3, z4, h.c0, rfl, nod5_new w kd num pa pb pc, h.below hB, Apart.ofBelow hB, by omega⟩

section
variable {l : List Nod} {w0 : World} {X M cM cp i : Nat} {a : Option Addr}
set_option maxHeartbeats 2000000 in
theorem fdeed_set (hG : Good l) (hat : AtNods w0 a l.length (nthD l)) (hi : i < l.length) (hk : (nthD l i).kd = 6) (tV : ∀ j, j < i → (nthD l j).kd < 5 → FVal w0 X M cM (.slice a l.length cp) l j) : FDeed w0 X M cM (.slice a l.length cp) l i := by
  intro c F w hc hF h
  obtain ⟨A, k, eA, ek, hA, hk6, kA⟩ := hG.setN hi hk
  have h80 := hG.r.few
  have HSt := Hid.mkI (fun v => flD_set hk eA ek c v)
  have hnA := nm_small hG (i := A) (by omega) kA
  have tV := tV A hA kA F
  obtain ⟨x, hx⟩ : ∃ x, nthD l i = x := ⟨_, rfl⟩
  rw [hx] at hk ek eA
  obtain ⟨kd, num, pa, pb, pc⟩ := x
  simp only at hk ek eA
  subst hk ek eA
  obtain ⟨b, off, wx, rfl, hb, z0, z1, z2, z3, z4, p0, hwx, N, H, Ap, yM⟩ := fdeed_start hat h hi hx
  have hnI : (l.length : Int) ≤ 80 := by omega
  have hiI : (i : Int) < (l.length : Int) := by omega
  have hkI : (k : Int) < 6 := by omega
  have hor1 := or_i64 c (nm l A) (Nat.lt_trans hc (by decide)) (Nat.lt_trans hnA (by decide))
  have hor2 := or_i64 (F k) (c ||| nm l A) (Nat.lt_trans (hF k) (by decide)) (Nat.lt_trans (or_small hc hnA) (by decide))
  have HG : Hid (F k ||| (c ||| nm l A) = F k ||| flD l i c k) := by show _ = _; rw [HSt.out, if_pos rfl, Nat.or_comm c]
  rw [HG.out] at hor2
  have HO : Hid (∀ j, j < 6 → j ≠ k → F j ||| flD l i c j = F j) := fun j _ hj => by rw [HSt.out, if_neg hj, Nat.or_zero]
  obtain ⟨y, hy⟩ : ∃ y, nm l A = y := ⟨_, rfl⟩
  rw [hy] at tV hor1 hor2
  obtain ⟨y1, hy1⟩ : ∃ z, c ||| y = z := ⟨_, rfl⟩
  rw [hy1] at hor1 hor2
  obtain ⟨y2, hy2⟩ : ∃ z, F k ||| flD l i c k = z := ⟨_, rfl⟩
  rw [hy2] at hor2
  obtain ⟨v0, hv0⟩ : ∃ z, F k = z := ⟨_, rfl⟩
  rw [hv0] at hor2
  have HV0 := Hid.mkI hv0
  have HY2 := Hid.mkI hy2
  obtain ⟨n, hn⟩ : ∃ n, l.length = n := ⟨_, rfl⟩
  rw [hn] at hnI hiI p0 tV H
  rw [hn]
  have H := Hid.mkI H
  have Ap := Hid.mkI Ap
  have d0 := N.c0
  have d1 := N.c1
  have d2 := N.c2
  have x1 := H.out.c1
  have hMX := H.out.ne
  clear h hat hi h80 hx hn hG hy hy1 hy2 hv0 HG HSt hF N hc hnA
  go_enter Tryd.func30, Tryd.ntmps30
  go_wp2
  have H0 := Hid.mkI (H.out.below ((Below.refl _ wx).drew))
  have tV := tV wx.drew H0.out
  have cM0 : wx.drew.cell? ⟨M, k, none⟩ = some (.int .i64 (v0 : Int)) := by rw [← HV0.out]; exact H0.out.own.cell k hk6
  have x1 : wx.drew.cell? ⟨X, 1, none⟩ = some (.slice (some ⟨M, 0, none⟩) 6 cM) := x1
  have d1 : wx.drew.cell? ⟨w.heap.size, 1, none⟩ = some (.int .i64 (k : Int)) := d1
  have d2 : wx.drew.cell? ⟨w.heap.size, 2, none⟩ = some (.int .i64 (A : Int)) := d2
  have tV2 : Calls Tryd.prog 46 #[fdP X, .int .i64 (A : Int)] wx.drew fun e w2 => e = .returned (.int .i64 (y : Int)) ∧ Hid (Fnd w0 X M cM (.slice (some ⟨b, off, none⟩) n cp) F w2) ∧ Hid (Apart M M w w2) ∧ w2.frozen? ⟨M, k, none⟩ = false ∧ w2.cell? ⟨M, k, none⟩ = some (.int .i64 (v0 : Int)) ∧ w2.cell? ⟨X, 1, none⟩ = some (.slice (some ⟨M, 0, none⟩) 6 cM) ∧ w2.cell? ⟨w.heap.size, 1, none⟩ = some (.int .i64 (k : Int)) ∧ w2.cell? ⟨w.heap.size, 2, none⟩ = some (.int .i64 (A : Int)) := tV.mono fun e w2 ⟨he, hB2⟩ => by
    have H2 := H0.out.below hB2
    exact ⟨he, H2, Ap.out.trans (Apart.ofBelow ((Below.refl _ wx).drew.trans hB2)), H2.own.free k hk6, by rw [← HV0.out]; exact H2.own.cell k hk6, keep_cell hB2 x1, keep_cell hB2 d1, keep_cell hB2 d2⟩
  clear tV
  go_region_with (go_at_call 46; (with_reducible refine tV2.mono ?_); rintro e w2 ⟨rfl, H2, A2, fM, cM2, x1, d1, d2⟩)
  all_goals go_wp2
  all_goals go_end0
  all_goals exact ⟨rfl, H2.out.put hk6 HY2.out HO.out, A2.out.trans (Apart.setX w2 k _)⟩
end

section
variable {l : List Nod} {w0 : World} {X M cM cp i : Nat} {a : Option Addr}
theorem fdeed_skip (hat : AtNods w0 a l.length (nthD l)) (hi : i < l.length) (h80 : l.length ≤ 80) (hk : (nthD l i).kd = 5) : FDeed w0 X M cM (.slice a l.length cp) l i := by
  intro c F w hc hF h
  have HS := Hid.mkI (fun v => show F v ||| flD l i c v = F v by rw [flD_skip hk, Nat.or_zero])
  obtain ⟨x, hx⟩ : ∃ x, nthD l i = x := ⟨_, rfl⟩
  rw [hx] at hk
  obtain ⟨kd, num, pa, pb, pc⟩ := x
  simp only at hk
  subst hk
  obtain ⟨b, off, wx, rfl, hb, z0, z1, z2, z3, z4, p0, hwx, N, H, A, -⟩ := fdeed_start hat h hi hx
  have hE := Hid.mkI (And.intro H A)
  have hnI : (l.length : Int) ≤ 80 := by omega
  have hiI : (i : Int) < (l.length : Int) := by omega
  have d0 := N.c0
  obtain ⟨n, hn⟩ : ∃ n, l.length = n := ⟨_, rfl⟩
  rw [hn] at hnI hiI p0 hE
  rw [hn]
  clear N H A h hat hi h80 hx hn hF
  go_enter Tryd.func30, Tryd.ntmps30
  go_wp2
  go_end0
  exact ⟨rfl, hE.out.1.like HS.out, hE.out.2⟩
set_option maxHeartbeats 2000000 in
theorem fdeed_both (hG : Good l) (hat : AtNods w0 a l.length (nthD l)) (hi : i < l.length) (hk : (nthD l i).kd = 7) (tD : ∀ j, j < i → 5 ≤ (nthD l j).kd → FDeed w0 X M cM (.slice a l.length cp) l j) : FDeed w0 X M cM (.slice a l.length cp) l i := by
  intro c F w hc hF h
  obtain ⟨A, D, eA, eD, hA, hD, kA, kD⟩ := hG.bothN hi hk
  have h80 := hG.r.few
  have HB := Hid.mkI (fun v => show F v ||| flD l i c v = (F v ||| flD l A c v) ||| flD l D c v by rw [flD_both hG hi hk eA eD hA hD kA kD, Nat.or_assoc])
  have hF2 : ∀ v, F v ||| flD l A c v < 2 ^ 6 := fun v => or_small (hF v) (flD_small hG (by omega) kA hc v)
  have tA := tD A hA kA c F
  have tC := fun w' h => tD D hD kD c (fun v => F v ||| flD l A c v) w' hc hF2 h
  have tA := fun w' h => tA w' hc hF h
  obtain ⟨x, hx⟩ : ∃ x, nthD l i = x := ⟨_, rfl⟩
  rw [hx] at hk eA eD
  obtain ⟨kd, num, pa, pb, pc⟩ := x
  simp only at hk eA eD
  subst hk eA eD
  obtain ⟨b, off, wx, rfl, hb, z0, z1, z2, z3, z4, p0, hwx, N, H, Ap, yM⟩ := fdeed_start hat h hi hx
  have hnI : (l.length : Int) ≤ 80 := by omega
  have hiI : (i : Int) < (l.length : Int) := by omega
  obtain ⟨n, hn⟩ : ∃ n, l.length = n := ⟨_, rfl⟩
  rw [hn] at hnI hiI p0 tA tC H
  rw [hn]
  have H := Hid.mkI H
  have Ap := Hid.mkI Ap
  have d0 := N.c0
  have d2 := N.c2
  have d3 := N.c3
  clear h hat hi h80 hx hn hG hF hF2 tD N
  go_enter Tryd.func30, Tryd.ntmps30
  go_wp2_with (first | (go_at_call 30; (with_reducible refine (tA _ H.out).mono ?_); clear tA; rintro e w1 ⟨rfl, H1, A1⟩; have H1 := Hid.mkI H1; have d3 := A1.cell d3 yM yM; have A1 := Hid.mkI (Ap.out.trans A1)) | (go_at_call 30; (with_reducible refine (tC _ H1.out).mono ?_); clear tC; rintro e w2 ⟨rfl, H2, A2⟩; have H2 := Hid.mkI H2; have A2 := Hid.mkI (A1.out.trans A2)))
  go_end0
  exact ⟨rfl, H2.out.like HB.out, A2.out⟩
set_option maxHeartbeats 2000000 in
theorem fdeed_if (hG : Good l) (hat : AtNods w0 a l.length (nthD l)) (hi : i < l.length) (hk : (nthD l i).kd = 8) (tV : ∀ j, j < i → (nthD l j).kd < 5 → FVal w0 X M cM (.slice a l.length cp) l j) (tD : ∀ j, j < i → 5 ≤ (nthD l j).kd → FDeed w0 X M cM (.slice a l.length cp) l j) : FDeed w0 X M cM (.slice a l.length cp) l i := by
  intro c F w hc hF h
  obtain ⟨A, D, E, eA, eD, eE, hA, hD, hE, kA, kD, kE⟩ := hG.ifN hi hk
  have h80 := hG.r.few
  have hnA := nm_small hG (i := A) (by omega) kA
  have hc2 := or_small hc hnA
  have HB := Hid.mkI (fun v => show F v ||| flD l i c v = (F v ||| flD l D (c ||| nm l A) v) ||| flD l E (c ||| nm l A) v by rw [flD_if hG hi hk eA eD eE hD hE kD kE, Nat.or_assoc])
  have hF2 : ∀ v, F v ||| flD l D (c ||| nm l A) v < 2 ^ 6 := fun v => or_small (hF v) (flD_small hG (by omega) kD hc2 v)
  have tV := tV A hA kA F
  have t1 := fun w' h => tD D hD kD (c ||| nm l A) F w' hc2 hF h
  have t2 := fun w' h => tD E hE kE (c ||| nm l A) (fun v => F v ||| flD l D (c ||| nm l A) v) w' hc2 hF2 h
  have hor := or_i64 c (nm l A) (Nat.lt_trans hc (by decide)) (Nat.lt_trans hnA (by decide))
  obtain ⟨y, hy⟩ : ∃ y, nm l A = y := ⟨_, rfl⟩
  rw [hy] at tV hor t1 t2 HB
  obtain ⟨c2, hc2'⟩ : ∃ y', c ||| y = y' := ⟨_, rfl⟩
  rw [hc2'] at hor t1 t2 HB
  obtain ⟨x, hx⟩ : ∃ x, nthD l i = x := ⟨_, rfl⟩
  rw [hx] at hk eA eD eE
  obtain ⟨kd, num, pa, pb, pc⟩ := x
  simp only at hk eA eD eE
  subst hk eA eD eE
  obtain ⟨b, off, wx, rfl, hb, z0, z1, z2, z3, z4, p0, hwx, N, H, Ap, yM⟩ := fdeed_start hat h hi hx
  have hnI : (l.length : Int) ≤ 80 := by omega
  have hiI : (i : Int) < (l.length : Int) := by omega
  obtain ⟨n, hn⟩ : ∃ n, l.length = n := ⟨_, rfl⟩
  rw [hn] at hnI hiI p0 t1 t2 tV H
  rw [hn]
  have H := Hid.mkI H
  have Ap := Hid.mkI Ap
  have d0 := N.c0
  have d2 := N.c2
  have d3 := N.c3
  have d4 := N.c4
  clear h hat hi h80 hx hn hG hF hF2 tD N hc hc2 hc2' hy hnA
  go_enter Tryd.func30, Tryd.ntmps30
  go_wp2_with (first | (go_at_call 46; (with_reducible refine (tV _ H.out).mono ?_); clear tV; rintro e w1 ⟨rfl, hB1⟩; have H1 := Hid.mkI (H.out.below hB1); have d3 := keep_cell hB1 d3; have d4 := keep_cell hB1 d4; have A1 := Hid.mkI (Ap.out.trans (Apart.ofBelow hB1))) | (go_at_call 30; (with_reducible refine (t1 _ H1.out).mono ?_); clear t1; rintro e w2 ⟨rfl, H2, A2⟩; have H2 := Hid.mkI H2; have d4 := A2.cell d4 yM yM; have A2 := Hid.mkI (A1.out.trans A2)) | (go_at_call 30; (with_reducible refine (t2 _ H2.out).mono ?_); clear t2; rintro e w3 ⟨rfl, H3, A3⟩; have H3 := Hid.mkI H3; have A3 := Hid.mkI (A2.out.trans A3)))
  go_end0
  exact ⟨rfl, H3.out.like HB.out, A3.out⟩
set_option maxHeartbeats 2000000 in
theorem fdeed_while (hG : Good l) (hat : AtNods w0 a l.length (nthD l)) (hi : i < l.length) (hk : (nthD l i).kd = 9) (tV : ∀ j, j < i → (nthD l j).kd < 5 → FVal w0 X M cM (.slice a l.length cp) l j) (tD : ∀ j, j < i → 5 ≤ (nthD l j).kd → FDeed w0 X M cM (.slice a l.length cp) l j) : FDeed w0 X M cM (.slice a l.length cp) l i := by
  intro c F w hc hF h
  obtain ⟨A, D, eA, eD, hA, hD, kA, kD⟩ := hG.whlN hi hk
  have h80 := hG.r.few
  have hnA := nm_small hG (i := A) (by omega) kA
  have hc2 := or_small hc hnA
  have HB := Hid.mkI (fun v => show F v ||| flD l i c v = F v ||| flD l D (c ||| nm l A) v by rw [flD_whl hG hi hk eA eD hD kD])
  have tV := tV A hA kA F
  have t1 := fun w' h => tD D hD kD (c ||| nm l A) F w' hc2 hF h
  have hor := or_i64 c (nm l A) (Nat.lt_trans hc (by decide)) (Nat.lt_trans hnA (by decide))
  obtain ⟨y, hy⟩ : ∃ y, nm l A = y := ⟨_, rfl⟩
  rw [hy] at tV hor t1 HB
  obtain ⟨c2, hc2'⟩ : ∃ y', c ||| y = y' := ⟨_, rfl⟩
  rw [hc2'] at hor t1 HB
  obtain ⟨x, hx⟩ : ∃ x, nthD l i = x := ⟨_, rfl⟩
  rw [hx] at hk eA eD
  obtain ⟨kd, num, pa, pb, pc⟩ := x
  simp only at hk eA eD
  subst hk eA eD
  obtain ⟨b, off, wx, rfl, hb, z0, z1, z2, z3, z4, p0, hwx, N, H, Ap, yM⟩ := fdeed_start hat h hi hx
  have hnI : (l.length : Int) ≤ 80 := by omega
  have hiI : (i : Int) < (l.length : Int) := by omega
  obtain ⟨n, hn⟩ : ∃ n, l.length = n := ⟨_, rfl⟩
  rw [hn] at hnI hiI p0 t1 tV H
  rw [hn]
  have H0 := Hid.mkI (H.below ((Below.refl _ wx).drew))
  have Ap := Hid.mkI (Ap.trans (Apart.ofBelow ((Below.refl _ wx).drew)))
  have d0 := N.c0
  have d2 : wx.drew.cell? ⟨w.heap.size, 2, none⟩ = some (.int .i64 (A : Int)) := N.c2
  have d3 : wx.drew.cell? ⟨w.heap.size, 3, none⟩ = some (.int .i64 (D : Int)) := N.c3
  clear h hat hi h80 hx hn hG hF tD N hc hc2 hc2' hy hnA H
  go_enter Tryd.func30, Tryd.ntmps30
  go_wp2
  first | (go_region_held3 (fun w' => w'.cell? ⟨w.heap.size, 2, none⟩ = some (.int .i64 (A : Int)) ∧ w'.cell? ⟨w.heap.size, 3, none⟩ = some (.int .i64 (D : Int))) ((go_split_ands; refine ⟨?_, ?_⟩ <;> (with_reducible assumption))) (first | (go_at_call 46; (with_reducible refine (tV _ H0.out).mono ?_); clear tV; rintro e w1 ⟨rfl, hB1⟩; have H1 := Hid.mkI (H0.out.below hB1); have d2 := keep_cell hB1 d2; have d3 := keep_cell hB1 d3; have A1 := Hid.mkI (Ap.out.trans (Apart.ofBelow hB1))) | (go_at_call 30; (with_reducible refine (t1 _ H1.out).mono ?_); clear t1; rintro e w2 ⟨rfl, H2, A2⟩; have H2 := Hid.mkI H2; have d2 := A2.cell d2 yM yM; have d3 := A2.cell d3 yM yM; have A2 := Hid.mkI (A1.out.trans A2)))) | fail
  all_goals go_wp2
  all_goals go_end0
  all_goals exact ⟨rfl, H2.out.like HB.out, A2.out⟩
theorem fdeed_any (hG : Good l) (hat : AtNods w0 a l.length (nthD l)) : ∀ (m i : Nat), i < m → i < l.length → 5 ≤ (nthD l i).kd → FDeed w0 X M cM (.slice a l.length cp) l i
  | 0, _, h, _, _ => absurd h (by omega)
  | m + 1, i, him, hi, h5 => by
    have hkd := hG.kd hi
    have h80 := hG.r.few
    have tD : ∀ j, j < i → 5 ≤ (nthD l j).kd → FDeed w0 X M cM (.slice a l.length cp) l j := fun j hj h => fdeed_any hG hat m j (by omega) (by omega) h
    have tV : ∀ j, j < i → (nthD l j).kd < 5 → FVal w0 X M cM (.slice a l.length cp) l j := fun j hj h F w hf => fvalue_any hG hat (j + 1) j (by omega) (by omega) h F w hf
    obtain hk | hk | hk | hk | hk : (nthD l i).kd = 5 ∨ (nthD l i).kd = 6 ∨ (nthD l i).kd = 7 ∨ (nthD l i).kd = 8 ∨ (nthD l i).kd = 9 := by omega
    · exact fdeed_skip hat hi h80 hk
    · exact fdeed_set hG hat hi hk tV
    · exact fdeed_both hG hat hi hk tD
    · exact fdeed_if hG hat hi hk tV tD
    · exact fdeed_while hG hat hi hk tV tD
end
end Go.Proofs.YtioimgeeamchaaaDoor
