/- What is wrong with a program, as the program has it: the parts of a node; whether all are parts. -/
import Derived.WalkKit
import Derived.LoopTactic
import Derived.OwnWalk
import Derived.Laws.MakeOwn
import Derived.Deep.QuietTactic
import Derived.BigQuiet
import Derived.Deep.RegionHeld3
import Derived.Test.YtioimgeeamchaaaDoorProW
import Derived.Test.YtioimgeeamchaaaDoorProR
namespace Go.Proofs.YtioimgeeamchaaaDoor
open Go.RowKit
set_option maxRecDepth 100000
set_option linter.unusedVariables false

theorem info4b : (Tryd.prog.info? 4).map (fun i => (i.zero, i.size, i.bytes)) = some (some (.bool false), 1, 1) := by kernel_rfl
theorem makeM_any (w : World) (m : Nat) (hm : m ≤ 80) : (Instr.makeSlice 68 (.int .i64 m) (.int .i64 m)).run Tryd.prog w = .ok (.slice (some ⟨w.heap.size, 0, none⟩) m m) (w.alloc (.cells (madeCells #[.bool false] m) 4)) := by
  obtain ⟨i0, hi, hz0, hz1, hz2⟩ := info_parts info4b
  have := run_make (P := Tryd.prog) w 68 4 i0 (.bool false) Tryd.underlying68 hi hz0 .i64 .i64 m m (by omega) (by omega) (by rw [hz2]; omega) (by omega)
  simpa [hz1, Value.cells] using this
/-- Marks of the call's own. -/
structure OwnM (w : World) (B m : Nat) (f : Nat → Nat) : Prop where
  lt : B < w.heap.size
  cell : ∀ j, j < m → w.cell? ⟨B, j, none⟩ = some (.bool (decide (f j ≠ 0)))
  free : ∀ j, j < m → w.frozen? ⟨B, j, none⟩ = false
theorem OwnM.made (w : World) (m : Nat) : OwnM (w.alloc (.cells (madeCells #[.bool false] m) 4)) w.heap.size m (fun _ => 0) := by
  have h := World.alloc_heap_new w (.cells (madeCells #[.bool false] m) 4)
  refine ⟨by simp, fun j hj => ?_, fun j hj => ?_⟩
  · simp only [World.cell?]
    rw [h]
    simp [madeCells, hj, Nat.mod_one]
  · simp only [World.frozen?]
    rw [h]
    simp
theorem OwnM.below {w w' : World} {B m : Nat} {f : Nat → Nat} (h : OwnM w B m f) (hb : Below w.heap.size w w') : OwnM w' B m f :=
  ⟨Nat.lt_of_lt_of_le h.lt hb.size, fun j hj => (hb.cell (p := ⟨B, j, none⟩) h.lt).trans (h.cell j hj), fun j hj => (hb.frozen (p := ⟨B, j, none⟩) h.lt).trans (h.free j hj)⟩
theorem OwnM.put {w : World} {B m k : Nat} {f : Nat → Nat} (h : OwnM w B m f) (hk : k < m) : OwnM (w.setCell ⟨B, k, none⟩ (.bool true)) B m (upd f k 1) := by
  refine ⟨by have := h.lt; simp [World.setCell]; exact this, fun j hj => ?_, fun j hj => (World.frozen?_setCell _ _ _ _).trans (h.free j hj)⟩
  by_cases e : j = k
  · subst e
    rw [World.cell?_setCell_same' _ _ _ (by simp [h.cell j hj]), upd_same]
    rfl
  · rw [World.cell?_setCell_other _ _ _ _ (fun e' => e (by cases e'; rfl)), h.cell j hj, upd_other _ e]
/-- The marks, and all that was. -/
structure ChkSt (wr w : World) (n : Nat) (u : Nat → Nat) : Prop where
  own : OwnM wr w.heap.size n u
  bel : Below w.heap.size w wr
theorem ChkSt.below {wr w w' : World} {n : Nat} {u : Nat → Nat} (h : ChkSt wr w n u) (k : Below wr.heap.size wr w') : ChkSt w' w n u := ⟨h.own.below k, h.bel.trans (k.mono h.bel.size)⟩
theorem ChkSt.put {wr w : World} {n k : Nat} {u : Nat → Nat} (h : ChkSt wr w n u) (hk : k < n) : ChkSt (wr.setCell ⟨w.heap.size, k, none⟩ (.bool true)) w n (upd u k 1) := ⟨h.own.put hk, h.bel.setCell (by simp) _⟩
/-- The row of a node's parts. -/
def PtsAt (wr w : World) (a : Option Addr) (pl : List Int) : Prop := NewP wr (w.heap.size + 1) a pl
theorem PtsAt.below {wr w w' : World} {a : Option Addr} {pl : List Int} (h : PtsAt wr w a pl) (k : Below wr.heap.size wr w') : PtsAt w' w a pl :=
  h.imp id fun ⟨b, e, hb, hc⟩ => ⟨b, e, hb, fun j v hj => keep_cell k (hc j v hj)⟩
theorem PtsAt.put {wr w : World} {a : Option Addr} {pl : List Int} (h : PtsAt wr w a pl) (k : Nat) (v : Value) : PtsAt (wr.setCell ⟨w.heap.size, k, none⟩ v) w a pl :=
  h.imp id fun ⟨b, e, hb, hc⟩ => ⟨b, e, hb, fun j v hj => (cell_far (by omega)).trans (hc j v hj)⟩
/-- What the parts of a node come to. -/
def PrtV (w : World) (n : Nat) (res : Int × (Nat → Nat)) (e : Ending) (w' : World) : Prop :=
  e = .returned (errV res.1) ∧ Below w.heap.size w w' ∧ (res.1 = 0 → ChkSt w' w n res.2 ∧ ∀ j, res.2 j ≤ 1)
theorem five_cells {w : World} {b off n i : Nat} {S : Nat → Nod} (h : Nods w b off n S) (hi : i < n) {x : Nod} (e : S i = x) : w.cell? ⟨b, off + i * 5, none⟩ = some (.int .i64 x.kd) ∧ w.cell? ⟨b, off + i * 5 + 1, none⟩ = some (.int .i64 x.num) ∧ w.cell? ⟨b, off + i * 5 + 2, none⟩ = some (.int .i64 x.pa) ∧ w.cell? ⟨b, off + i * 5 + 3, none⟩ = some (.int .i64 x.pb) ∧ w.cell? ⟨b, off + i * 5 + 4, none⟩ = some (.int .i64 x.pc) := by
  subst e
  exact ⟨h.c0 i hi, h.c1 i hi, h.c2 i hi, h.c3 i hi, h.c4 i hi⟩
set_option maxHeartbeats 8000000 in
theorem wprts_any (l : List Nod) (a : Option Addr) (cp : Nat) (w : World) (hat : AtNods w a l.length (nthD l)) (h80 : l.length ≤ 80) (i : Nat) (hi : i < l.length) (u : Nat → Nat) (hu : ∀ j, u j ≤ 1) (hpre : ∀ j, j ≤ i → 0 ≤ (nthD l j).kd) (wr : World) (h : ChkSt wr w l.length u) :
    Calls Tryd.prog 43 #[.slice a l.length cp, .int .i64 (i : Int), .slice (some ⟨w.heap.size, 0, none⟩) l.length l.length] wr fun e w' => PrtV w l.length (prtC l i (nthD l i).kd 0 (prtL (nthD l i)) u) e w' := by
  obtain ⟨b, off, rfl, hs⟩ : ∃ b off, a = some ⟨b, off, none⟩ ∧ Nods w b off l.length (nthD l) := by
    rcases hat with h0 | h
    · omega
    · exact h
  obtain ⟨S, hS⟩ : ∃ S, nthD l = S := ⟨_, rfl⟩
  obtain ⟨n, hn⟩ : ∃ n, l.length = n := ⟨_, rfl⟩
  obtain ⟨xi, hxi⟩ : ∃ x, S i = x := ⟨_, rfl⟩
  have HB1 := Hid.mkI (fun (k : Nat) (p : Int) (ps : List Int) (v : Nat → Nat) (h : p < 0 ∨ (i : Int) ≤ p) => show prtC l i xi.kd k (p :: ps) v = (1, v) from prtC_bad h)
  have HT := Hid.mkI (fun (k p : Nat) (ps : List Int) (v : Nat → Nat) (h : p < i) (hv : v p = 1) => show prtC l i xi.kd k ((p : Int) :: ps) v = (3, upd v p 2) from prtC_two h hv)
  have HO := Hid.mkI (fun (k p : Nat) (ps : List Int) (v : Nat → Nat) (h : p < i) (hv : v p = 0) (hd : decide ((S p).kd < 5) ≠ valB xi.kd k) => show prtC l i xi.kd k ((p : Int) :: ps) v = (3, upd v p 1) from prtC_odd h hv (by rw [hS]; exact hd))
  have HN := Hid.mkI (fun (k p : Nat) (ps : List Int) (v : Nat → Nat) (h : p < i) (hv : v p = 0) (hd : decide ((S p).kd < 5) = valB xi.kd k) => show prtC l i xi.kd k ((p : Int) :: ps) v = prtC l i xi.kd (k + 1) ps (upd v p 1) from prtC_on h hv (by rw [hS]; exact hd))
  have HZ := Hid.mkI (fun (k : Nat) (v : Nat → Nat) => show prtC l i xi.kd k [] v = (0, v) from rfl)
  rw [hS, hn] at hs
  rw [hS] at hpre ⊢
  rw [hn] at h hi h80 ⊢
  rw [hxi]
  have tP := wparts_any xi wr
  obtain ⟨pl, hpl⟩ : ∃ pl, prtL xi = pl := ⟨_, rfl⟩
  have hp3 : (pl.length : Int) ≤ 3 := by have := prtL_len xi; rw [hpl] at this; omega
  rw [hpl] at tP ⊢
  obtain ⟨R, hR⟩ : ∃ R, prtC l i xi.kd 0 pl u = R := ⟨_, rfl⟩
  rw [hR]
  have HR := Hid.mkI hR
  have hk0 : 0 ≤ xi.kd := by rw [← hxi]; exact hpre i (Nat.le_refl _)
  have hwant : ∀ k, wantB xi.kd k = valB xi.kd k := fun k => by unfold wantB valB; exact decide_eq_decide.2 (by omega)
  have tW := fun k hk w => wwants_any xi k hk w
  simp only [hwant] at tW
  have hiI : (i : Int) < (n : Int) := by omega
  have h80I : (n : Int) ≤ 80 := by omega
  have hM := h.bel.size
  have hMl := h.own.lt
  obtain ⟨z0, z1, z2, z3, z4⟩ := five_cells (hs.below h.bel) hi hxi
  have HU := Hid.mkI hu
  have Hpre := Hid.mkI hpre
  have Hs := Hid.mkI hs
  have Hxi := Hid.mkI hxi
  clear hS hn hR hpl hwant hu hpre hs hat hxi
  obtain ⟨ki, ni, ai, bi, ci⟩ := xi
  simp only at z0 z1 z2 z3 z4 hk0
  go_enter Tryd.func43, Tryd.ntmps43
  go_wp2_with (go_at_call 58; (with_reducible refine tP.mono ?_); clear tP; rintro e w2 ⟨a2, c2, rfl, hN, hB2⟩; have hC := h.below hB2; have hP : PtsAt w2 w a2 pl := hN.imp id fun ⟨b2, e, q, c⟩ => ⟨b2, e, by omega, c⟩; clear h hN hB2 z0 z1 z2 z3 z4)
  go_loopw [15] (fun p wr => ∃ (k : Nat) (v : Nat → Nat), k ≤ pl.length ∧ p = .int .i64 k ∧ Hid (R = prtC l i ki k (pl.drop k) v) ∧ Hid (∀ j, v j ≤ 1) ∧ ChkSt wr w n v ∧ PtsAt wr w a2 pl) (fun p _ => pl.length - (intOf p).toNat)
  case atStart => exact ⟨0, u, by omega, rfl, HR.out.symm, HU, hC, hP⟩
  case round =>
    clear hC hP HR HU
    obtain ⟨k, v, hk, rfl, HE, H1, hC, hP⟩ := hrel
    by_cases hkt : k < pl.length
    · have hkI : (k : Int) < (pl.length : Int) := by omega
      obtain ⟨P, hPk⟩ : ∃ P, pl[k]? = some P := ⟨_, List.getElem?_eq_getElem hkt⟩
      have HE : Hid (R = prtC l i ki k (P :: pl.drop (k + 1)) v) := by show _ = _; rw [HE.out, drop_at hPk]
      obtain ⟨b2, rfl, hb2, hc2⟩ : ∃ b2, a2 = some ⟨b2, 0, none⟩ ∧ w.heap.size + 1 ≤ b2 ∧ ∀ (j : Nat) (v : Int), pl[j]? = some v → wr.cell? ⟨b2, j, none⟩ = some (.int .i64 v) := by
        rcases hP with h | h
        · rw [h] at hkt; exact absurd hkt (by simp)
        · exact h
      have cP := hc2 k P hPk
      clear hc2 hPk
      have hBel := hC.bel
      by_cases hlo : P < 0
      · obtain rfl : R = (1, v) := HE.out.trans (HB1.out k P _ v (.inl hlo))
        have hloI : ¬ 0 ≤ P := by omega
        clear HB1 HT HO HN HZ HE H1 hC hP Hpre Hs Hxi tW
        go_wp2
        go_ret
        exact ⟨rfl, hBel, fun q => absurd (show (1 : Int) = 0 from q) (by decide)⟩
      · by_cases hhi : (i : Int) ≤ P
        · obtain rfl : R = (1, v) := HE.out.trans (HB1.out k P _ v (.inr hhi))
          clear HB1 HT HO HN HZ HE H1 hC hP Hpre Hs Hxi tW
          go_wp2
          go_ret
          exact ⟨rfl, hBel, fun q => absurd (show (1 : Int) = 0 from q) (by decide)⟩
        · obtain ⟨p, rfl⟩ := Int.eq_ofNat_of_zero_le (show 0 ≤ P by omega)
          have hpi : p < i := by omega
          have hpn : p < n := by omega
          have hpI : (p : Int) < (n : Int) := by omega
          have hpiI : ¬ (i : Int) ≤ (p : Int) := by omega
          have cu := hC.own.cell p hpn
          have fu := hC.own.free p hpn
          have hv := H1.out p
          have hv2 : v p = 0 ∨ v p = 1 := by omega
          rcases hv2 with hv0 | hv1
          · have HOx := Hid.mkI (HO.out k p (pl.drop (k + 1)) v hpi hv0)
            have HNx := Hid.mkI (HN.out k p (pl.drop (k + 1)) v hpi hv0)
            have cu : wr.cell? ⟨w.heap.size, p, none⟩ = some (.bool false) := by rw [cu, hv0]; rfl
            obtain ⟨xp, hxp⟩ : ∃ x, S p = x := ⟨_, rfl⟩
            have hp0 : 0 ≤ xp.kd := by rw [← hxp]; exact Hpre.out p (by omega)
            have e1 : decide (0 ≤ xp.kd ∧ xp.kd ≤ 4) = decide (xp.kd < 5) := decide_eq_decide.2 (by omega)
            have tV := fun w => wisValue_any xp w
            rw [e1] at tV
            have tW := fun w => tW k (by omega) w
            rw [hxp] at HOx HNx
            obtain ⟨x0, x1, x2, x3, x4⟩ := five_cells (Hs.out.below hC.bel) hpn hxp
            obtain ⟨z0, z1, z2, z3, z4⟩ := five_cells (Hs.out.below hC.bel) hi Hxi.out
            obtain ⟨kp, np, ap, bp, cp'⟩ := xp
            simp only at x0 x1 x2 x3 x4 z0 z1 z2 z3 z4 HOx HNx tV tW
            obtain ⟨A, hA⟩ : ∃ A, decide (kp < 5) = A := ⟨_, rfl⟩
            obtain ⟨C, hC2⟩ : ∃ C, valB ki k = C := ⟨_, rfl⟩
            rw [hA] at tV HOx HNx
            rw [hC2] at tW HOx HNx
            have HC := Hid.mkI hC
            have HP := Hid.mkI hP
            have HH := Hid.mkI (upd_le H1.out p)
            clear hA hC2 e1 hp0 hxp hv0 hv HB1 HT HO HN H1 hC hP hBel
            have cud : wr.drew.cell? ⟨w.heap.size, p, none⟩ = some (.bool false) := cu
            have x0d : wr.drew.cell? ⟨b, off + p * 5, none⟩ = some (.int .i64 kp) := x0
            have x1d : wr.drew.cell? ⟨b, off + p * 5 + 1, none⟩ = some (.int .i64 np) := x1
            have x2d : wr.drew.cell? ⟨b, off + p * 5 + 2, none⟩ = some (.int .i64 ap) := x2
            have x3d : wr.drew.cell? ⟨b, off + p * 5 + 3, none⟩ = some (.int .i64 bp) := x3
            have x4d : wr.drew.cell? ⟨b, off + p * 5 + 4, none⟩ = some (.int .i64 cp') := x4
            have z0d : wr.drew.cell? ⟨b, off + i * 5, none⟩ = some (.int .i64 ki) := z0
            have z1d : wr.drew.cell? ⟨b, off + i * 5 + 1, none⟩ = some (.int .i64 ni) := z1
            have z2d : wr.drew.cell? ⟨b, off + i * 5 + 2, none⟩ = some (.int .i64 ai) := z2
            have z3d : wr.drew.cell? ⟨b, off + i * 5 + 3, none⟩ = some (.int .i64 bi) := z3
            have z4d : wr.drew.cell? ⟨b, off + i * 5 + 4, none⟩ = some (.int .i64 ci) := z4
            have HC : Hid (ChkSt wr.drew w n v) := Hid.mkI (HC.out.below ((Below.refl _ wr).drew))
            have HP : Hid (PtsAt wr.drew w (some ⟨b2, 0, none⟩) pl) := Hid.mkI (HP.out.below ((Below.refl _ wr).drew))
            cases A <;> cases C
            case' false.true | true.false =>
              obtain rfl : R = (3, upd v p 1) := HE.out.trans (HOx.out (by decide))
              clear HOx HNx HE HZ
              go_wp2
              (go_region_held3 (fun w' => w'.cell? ⟨w.heap.size, p, none⟩ = some (.bool false) ∧ w'.cell? ⟨b, off + p * 5, none⟩ = some (.int .i64 kp) ∧ w'.cell? ⟨b, off + p * 5 + 1, none⟩ = some (.int .i64 np) ∧ w'.cell? ⟨b, off + p * 5 + 2, none⟩ = some (.int .i64 ap) ∧ w'.cell? ⟨b, off + p * 5 + 3, none⟩ = some (.int .i64 bp) ∧ w'.cell? ⟨b, off + p * 5 + 4, none⟩ = some (.int .i64 cp') ∧ w'.cell? ⟨b, off + i * 5, none⟩ = some (.int .i64 ki) ∧ w'.cell? ⟨b, off + i * 5 + 1, none⟩ = some (.int .i64 ni) ∧ w'.cell? ⟨b, off + i * 5 + 2, none⟩ = some (.int .i64 ai) ∧ w'.cell? ⟨b, off + i * 5 + 3, none⟩ = some (.int .i64 bi) ∧ w'.cell? ⟨b, off + i * 5 + 4, none⟩ = some (.int .i64 ci)) ((go_split_ands; refine ⟨?_, ?_, ?_, ?_, ?_, ?_, ?_, ?_, ?_, ?_, ?_⟩ <;> (with_reducible assumption))) (first | (go_at_call 45; (with_reducible refine (tV _).mono ?_); clear tV; rintro e w3 ⟨rfl, hB3⟩; have cud := keep_cell hB3 cud; have x0d := keep_cell hB3 x0d; have x1d := keep_cell hB3 x1d; have x2d := keep_cell hB3 x2d; have x3d := keep_cell hB3 x3d; have x4d := keep_cell hB3 x4d; have z0d := keep_cell hB3 z0d; have z1d := keep_cell hB3 z1d; have z2d := keep_cell hB3 z2d; have z3d := keep_cell hB3 z3d; have z4d := keep_cell hB3 z4d; have HC := Hid.mkI (HC.out.below hB3); have HP := Hid.mkI (HP.out.below hB3)) | (go_at_call 59; (with_reducible refine (tW _).mono ?_); clear tW; rintro e w3 ⟨rfl, hB3⟩; have cud := keep_cell hB3 cud; have x0d := keep_cell hB3 x0d; have x1d := keep_cell hB3 x1d; have x2d := keep_cell hB3 x2d; have x3d := keep_cell hB3 x3d; have x4d := keep_cell hB3 x4d; have z0d := keep_cell hB3 z0d; have z1d := keep_cell hB3 z1d; have z2d := keep_cell hB3 z2d; have z3d := keep_cell hB3 z3d; have z4d := keep_cell hB3 z4d; have HC := Hid.mkI (HC.out.below hB3); have HP := Hid.mkI (HP.out.below hB3))))
              all_goals
                go_wp2
                go_ret
                exact ⟨rfl, HC.out.bel, fun q => absurd (show (3 : Int) = 0 from q) (by decide)⟩
            all_goals
              have HE2 := Hid.mkI (HE.out.trans (HNx.out rfl))
              clear HOx HNx HE
              go_wp2
              (go_region_held3 (fun w' => w'.cell? ⟨w.heap.size, p, none⟩ = some (.bool false) ∧ w'.cell? ⟨b, off + p * 5, none⟩ = some (.int .i64 kp) ∧ w'.cell? ⟨b, off + p * 5 + 1, none⟩ = some (.int .i64 np) ∧ w'.cell? ⟨b, off + p * 5 + 2, none⟩ = some (.int .i64 ap) ∧ w'.cell? ⟨b, off + p * 5 + 3, none⟩ = some (.int .i64 bp) ∧ w'.cell? ⟨b, off + p * 5 + 4, none⟩ = some (.int .i64 cp') ∧ w'.cell? ⟨b, off + i * 5, none⟩ = some (.int .i64 ki) ∧ w'.cell? ⟨b, off + i * 5 + 1, none⟩ = some (.int .i64 ni) ∧ w'.cell? ⟨b, off + i * 5 + 2, none⟩ = some (.int .i64 ai) ∧ w'.cell? ⟨b, off + i * 5 + 3, none⟩ = some (.int .i64 bi) ∧ w'.cell? ⟨b, off + i * 5 + 4, none⟩ = some (.int .i64 ci)) ((go_split_ands; refine ⟨?_, ?_, ?_, ?_, ?_, ?_, ?_, ?_, ?_, ?_, ?_⟩ <;> (with_reducible assumption))) (first | (go_at_call 45; (with_reducible refine (tV _).mono ?_); clear tV; rintro e w3 ⟨rfl, hB3⟩; have cud := keep_cell hB3 cud; have x0d := keep_cell hB3 x0d; have x1d := keep_cell hB3 x1d; have x2d := keep_cell hB3 x2d; have x3d := keep_cell hB3 x3d; have x4d := keep_cell hB3 x4d; have z0d := keep_cell hB3 z0d; have z1d := keep_cell hB3 z1d; have z2d := keep_cell hB3 z2d; have z3d := keep_cell hB3 z3d; have z4d := keep_cell hB3 z4d; have HC := Hid.mkI (HC.out.below hB3); have HP := Hid.mkI (HP.out.below hB3)) | (go_at_call 59; (with_reducible refine (tW _).mono ?_); clear tW; rintro e w3 ⟨rfl, hB3⟩; have cud := keep_cell hB3 cud; have x0d := keep_cell hB3 x0d; have x1d := keep_cell hB3 x1d; have x2d := keep_cell hB3 x2d; have x3d := keep_cell hB3 x3d; have x4d := keep_cell hB3 x4d; have z0d := keep_cell hB3 z0d; have z1d := keep_cell hB3 z1d; have z2d := keep_cell hB3 z2d; have z3d := keep_cell hB3 z3d; have z4d := keep_cell hB3 z4d; have HC := Hid.mkI (HC.out.below hB3); have HP := Hid.mkI (HP.out.below hB3))))
              all_goals
                have cu2 := HC.out.own.free p hpn
                go_wp2
                go_roundw
                case measure => simp [intOf]; omega
                case rel => exact ⟨k + 1, upd v p 1, by omega, by go_num, HE2, HH, HC.out.put hpn, HP.out.put p _⟩
          · obtain rfl : R = (3, upd v p 2) := HE.out.trans (HT.out k p _ v hpi hv1)
            have cu : wr.cell? ⟨w.heap.size, p, none⟩ = some (.bool true) := by rw [cu, hv1]; rfl
            clear HB1 HT HO HN HZ HE H1 hC hP Hpre Hs Hxi tW fu
            go_wp2
            go_quiet (fail)
            go_wp2
            go_ret
            exact ⟨rfl, below_drawn hBel nq, fun q => absurd (show (3 : Int) = 0 from q) (by decide)⟩
    · obtain rfl : k = pl.length := by omega
      have e : pl.drop pl.length = [] := List.drop_length
      obtain rfl : R = (0, v) := HE.out.trans (by rw [e]; exact HZ.out _ v)
      clear HB1 HT HO HN HZ HE Hpre Hs Hxi tW
      go_wp2
      go_ret
      exact ⟨rfl, hC.bel, fun _ => ⟨hC, H1.out⟩⟩
end Go.Proofs.YtioimgeeamchaaaDoor
