/- Running, as the document has it (Run): with a pile. -/
import Derived.WalkKit
import Derived.LoopTactic
import Derived.OwnWalk
import Derived.Deep.LoopGhost
import Derived.Deep.Cut
import Derived.Deep.AppendLies
import Derived.Test.YtahdbhehaoeemaaDoorRunB
import Derived.Test.YtahdbhehaoeemaaDoorRunC
namespace Go.Proofs.YtahdbhehaoeemaaDoor
open Go.RowKit
set_option maxRecDepth 100000
set_option linter.unusedVariables false

/-- What Run answers. -/
def RunV (w : World) (R : Rn) (F : Nat) (e : Ending) (w' : World) : Prop :=
  Below w.heap.size w w' ∧ ((∃ s f p cp, R = some (s, f) ∧ e = .returned (.tuple #[.slice p 6 cp, .int .i64 ((F - f : Nat) : Int), .bool true]) ∧ w'.ownsRow w.heap.size 3 1 (.slice p 6 cp) 6 (rowI 6 s)) ∨ (R = none ∧ e = .returned (.tuple #[.slice none 0 0, .int .i64 0, .bool false])))
theorem own_at {g' g q c H : Nat} (h : (Value.slice (some ⟨g', 0, none⟩) q c).ownBlock = some g ∨ g = H) : g = g' ∨ g = H := h.imp (fun e => by simpa [Value.ownBlock] using e.symm) id
theorem own_no {g Y q c : Nat} (h : g ≠ Y) : (Value.slice (some ⟨g, 0, none⟩) q c).ownBlock ≠ some Y := fun e => h (by simpa [Value.ownBlock] using e)
theorem bnd80 {n : Nat} (h : n ≤ 80) : n + 1 ≤ maxLen ∧ (n + 1) * 8 ≤ 140737488355328 := by unfold maxLen; omega
theorem cell_one_at (w : World) (u : Value) (t : TypeId) : ∀ j v, [u][j]? = some v → (w.alloc (.cells #[u] t)).cell? ((⟨w.heap.size, 0, none⟩ : Addr).add j) = some v := fun j v hj => World.news_of_block (World.alloc_heap_new w _) j v hj
set_option maxHeartbeats 8000000 in
theorem refRun_any {l : List Nod} (hG : Good l) (a : Option Addr) (cp : Nat) (v : Value) (s0 : Nat → Int) (hs0 : Bnd6 s0) (F : Nat) (hF : F ≤ 5000) (w : World) (hat : AtNods w a l.length (nthD l)) (hl : Lst w v 6 s0) :
    Calls Tryd.prog 8 #[.slice a l.length cp, v, .int .i64 (F : Int)] w fun e w' => RunV w (runP l s0 F) F e w' := by
  obtain ⟨i0, hi0, hz0, hz1, hz2⟩ := info_parts info3i
  have h80 := hG.r.few
  have hsome := hG.r.some
  obtain ⟨bn, on, rfl, hsn⟩ : ∃ b off, a = some ⟨b, off, none⟩ ∧ Nods w b off l.length (nthD l) := by
    rcases hat with h | h
    · omega
    · exact h
  obtain ⟨m, hm⟩ : ∃ m, l.length = m + 1 := ⟨l.length - 1, by omega⟩
  have hR0 : runP l s0 F = exP l [m] s0 F := by rw [exP_one, runP]; congr 1; omega
  have hd0 : 5 ≤ (nthD l m).kd := by have := hG.r.deed; rwa [show l.length - 1 = m by omega] at this
  have tV := fun i (hi : i < l.length) (h5 : (nthD l i).kd < 5) (w' : World) (v : Value) (s : Nat → Int) (hs : Bnd6 s) (k : Below w.heap.size w w') (hl : Lst w' v 6 s) => refValue_any hG (a := some ⟨bn, on, none⟩) (cp := cp) hs (i + 1) i (by omega) hi h5 w' (hat.below k) hl
  obtain ⟨R, hR⟩ : ∃ R, runP l s0 F = R := ⟨_, rfl⟩
  rw [hR] at hR0 ⊢
  obtain ⟨av, cv, rfl, hlv⟩ := hl
  obtain ⟨bv, ov, rfl, hbv, hcv⟩ := hlv.resolve_left (by omega)
  obtain ⟨n, hn⟩ : ∃ n, l.length = n := ⟨_, rfl⟩
  have HG := Hid.mkI hG
  have Hsn := Hid.mkI hsn
  have HTV := Hid.mkI tV
  have HR0 := Hid.mkI hR0
  have Hn := Hid.mkI hn
  have Hnm : Hid (n = m + 1) := by show n = m + 1; omega
  rw [hn] at h80 ⊢
  have hnI : (n : Int) - 1 = (m : Int) := by have := Hnm.out; omega
  have hn80 : (n : Int) ≤ 80 := by omega
  have hFI : (F : Int) ≤ 5000 := by omega
  have hnews : ∀ j u, (rowI 6 s0)[j]? = some u → w.cell? ((⟨bv, ov, none⟩ : Addr).add j) = some u := fun j u hj => by
    have hj6 : j < 6 := by
      rcases Nat.lt_or_ge j 6 with q | q
      · exact q
      · rw [List.getElem?_eq_none (by simp [rowI]; omega)] at hj; cases hj
    rw [rowI_get _ hj6] at hj
    cases hj
    rw [Go.WideShapes.add_plain]
    exact hcv j hj6
  have hone : ∀ u ∈ rowI 6 s0, u.oneCell' = true := fun u hu => by
    unfold rowI at hu
    obtain ⟨j, _, rfl⟩ := List.mem_map.1 hu
    rfl
  clear hat hsn hcv hR hG tV hR0 hn hlv hsome
  go_enter Tryd.func8, Tryd.ntmps8
  go_wp2_with (at_builtin; refine wpList_append_lies _ rfl _ _ 23 rfl w.heap.size 3 i0 (.int .i64 0) 1 8 Tryd.underlying23 hi0 hz0 hz1 hz2 rfl (by decide) (.slice none 0 0) 0 [] rfl (World.ownsRow_nil _ _ _ _) ⟨bv, ov, none⟩ 6 cv (rowI 6 s0) rfl rfl hnews hone (by decide) (by decide) (by decide) (Nat.le_refl _) w.heap.size rfl ?_; intro gV cV w5 hown5 hg5 hat5 hlt5)
  have hB5 : Below w.heap.size w w5 := (Below.refl _ w).grown hg5 (Nat.le_refl _) (fun k q => by cases q)
  have hgV := hown5.lt gV rfl
  have hown5 : w5.ownsRow w.heap.size 3 1 (.slice (some ⟨gV, 0, none⟩) 6 cV) 6 (rowI 6 s0) := hown5
  have hS0 : RunSt (w5.alloc (.cells #[.int .i64 (m : Int)] 3)) w gV cV (.slice (some ⟨w5.heap.size, 0, none⟩) 1 1) [m] s0 := by
    refine ⟨hown5.alloc _, ?_, ?_, hB5.alloc hB5.size _⟩
    · obtain ⟨h1, h2 | ⟨g, c, cur, q1, q2, q3⟩⟩ := own_built w5 (.int .i64 (m : Int)) rfl 3
      · exact absurd h2.2 (by decide)
      · exact ⟨h1, .inr ⟨g, c, cur, q1, Nat.le_trans hB5.size q2, q3⟩⟩
    · intro q
      have : w5.heap.size = gV := by simpa [Value.ownBlock] using q
      omega
  clear hown5 hg5 hat5 hlt5 hnews hone
  go_wp2
  go_loopg [10, 11] (mu [m] F) (fun g T bt wr => ∃ (st : List Nat) (s : Nat → Int) (b : Nat), g = mu st (F - b) ∧ bt = .int .i64 (b : Int) ∧ b ≤ F ∧ Hid (∀ j ∈ st, j < n ∧ 5 ≤ (nthD l j).kd) ∧ Hid (Chn n 0 st) ∧ Hid (Bnd6 s) ∧ Hid (R = exP l st s (F - b)) ∧ RunSt wr w gV cV T st s)
  case atStart => exact ⟨[m], s0, 0, rfl, rfl, Nat.zero_le _, fun j hj => by obtain rfl := List.mem_singleton.1 hj; exact ⟨by have := Hnm.out; omega, hd0⟩, ⟨m + 1, by omega, by omega, by show m + 1 ≤ n; have := Hnm.out; omega⟩, hs0, HR0.out, hS0⟩
  case round =>
    clear hS0 HR0
    obtain ⟨st, s, b, rfl, rfl, hb, HM, HC, HS, HR, hSt⟩ := hrel
    have hbI : (b : Int) ≤ (F : Int) := by omega
    cases st with
    | nil =>
      obtain ⟨aT, gT, cT, rfl, -⟩ := row_form hSt.ownT
      have hE : RunV w R F (.returned (.tuple #[.slice (some ⟨gV, 0, none⟩) 6 cV, .int .i64 (b : Int), .bool true])) wr :=
        ⟨hSt.bel, .inl ⟨s, F - b, _, _, HR.out, by rw [show F - (F - b) = b by omega], hSt.ownV⟩⟩
      clear hSt HM HC HS HR HTV Hsn HG
      go_wp2
      go_ret3
      exact hE
    | cons i r =>
      obtain ⟨gT, cT, rfl, cTop, hP⟩ := hSt.form
      obtain ⟨hin, hi5⟩ := HM.out i (by simp)
      have hlen := chn_len HC.out
      obtain ⟨q, hq⟩ : ∃ q, r.length = q := ⟨_, rfl⟩
      have hqc : q ≤ cT := by
        obtain ⟨_, h2 | ⟨g', c', cur, e, _, _, hnc, _⟩⟩ := hP.ownT
        · cases h2.1
        · cases e; omega
      rw [List.length_cons] at hlen
      rw [hq] at hlen
      have hq80 : (q : Int) < 80 := by omega
      have hqI : (q : Int) ≤ (cT : Int) := by omega
      have hb1 := bnd80 (n := r.length) (by omega)
      have hb2 := bnd80 (n := r.length + 1) (by omega)
      rw [hq] at hP cTop ⊢
      clear hq
      obtain ⟨x, hx⟩ : ∃ x, nthD l i = x := ⟨_, rfl⟩
      rw [hx] at hi5
      have hln := Hn.out
      have hkd := HG.out.kd (i := i) (by omega)
      rw [hx] at hkd
      obtain ⟨z0, z1, z2, z3, z4⟩ := nods_five (Hsn.out.below hP.bel) (i := i) (by omega) hx
      have hL : Below wr.heap.size wr (wr.alloc (.cells #[.int .i64 x.kd, .int .i64 x.num, .int .i64 x.pa, .int .i64 x.pb, .int .i64 x.pc] 37)) := (Below.refl _ wr).alloc (Nat.le_refl _) _
      have hc := fun j u h => by
        have := cell_five_new wr x 37 j u h
        rw [Go.WideShapes.add_plain, Nat.zero_add] at this
        exact this
      have d0 := hc 0 _ rfl
      have d1 := hc 1 _ rfl
      have d2 := hc 2 _ rfl
      have d3 := hc 3 _ rfl
      have d4 := hc 4 _ rfl
      have hY : gT < wr.heap.size := (hP.ownT.lt gT rfl).2
      have hP1 := hP.below hL
      have one1 : ∀ (z : Int), ∀ u ∈ [Value.int .i64 z], u.oneCell' = true := fun z u hu => by
        obtain rfl := List.mem_singleton.1 hu; rfl
      have hMr : Hid (∀ j ∈ r, j < n ∧ 5 ≤ (nthD l j).kd) := fun j hj => HM.out j (by simp [hj])
      have hCr : Hid (Chn n 0 r) := chn_pop HC.out
      have hiI : (i : Int) < (n : Int) := by omega
      have hSt0 := hSt
      clear hc hSt
      by_cases h5 : x.kd = 5
      · have HR2 : Hid (R = exP l r s (F - b)) := HR.out.trans (exP_skip (by rw [hx]; exact h5))
        obtain ⟨kd, num, pa, pb, pc⟩ := x
        simp only at h5
        subst h5
        clear HTV Hsn HG HR HM HC hx
        go_wp2
        go_roundg (mu r (F - b))
        case measure => exact mu_skip _ _ _
        case rel => exact ⟨r, s, b, rfl, rfl, hb, hMr, hCr, HS, HR2, hP1⟩
      by_cases h7 : x.kd = 7
      · obtain ⟨A, C, eA, eC, hA, hC, kA, kC⟩ := HG.out.bothN (i := i) (by omega) (by rw [hx]; exact h7)
        rw [hx] at eA eC
        have HR2 : Hid (R = exP l (A :: C :: r) s (F - b)) := by
          have e := exP_both (r := r) (s := s) (f := F - b) HG.out (i := i) (by omega) (by rw [hx]; exact h7)
          rw [hx, eA, eC] at e
          exact HR.out.trans e
        have hM2 : Hid (∀ j ∈ A :: C :: r, j < n ∧ 5 ≤ (nthD l j).kd) := fun j hj => by
          rcases List.mem_cons.1 hj with rfl | hj
          · exact ⟨by omega, kA⟩
          rcases List.mem_cons.1 hj with rfl | hj
          · exact ⟨by omega, kC⟩
          · exact hMr.out j hj
        have hC2 : Hid (Chn n 0 (A :: C :: r)) := chn_both HC.out hA (by omega)
        have hmu : Hid (mu (A :: C :: r) (F - b) < mu (i :: r) (F - b)) := mu_both _ _ hA hC
        obtain ⟨kd, num, pa, pb, pc⟩ := x
        simp only at h7 eA eC hL hP1 d0 d1 d2 d3 d4 z0 z1 z2 z3 z4
        subst h7; subst eA; subst eC
        obtain ⟨W1, hW1⟩ : ∃ W1, wr.alloc (.cells #[.int .i64 7, .int .i64 num, .int .i64 (A : Int), .int .i64 (C : Int), .int .i64 pc] 37) = W1 := ⟨_, rfl⟩
        rw [hW1] at hP1 hL d0 d1 d2 d3 d4
        have hP2 := Hid.mkI hP1
        have hL1 := hL.size
        clear HTV Hsn HG HR HM HC hx hMr hCr kA kC hP hP1
        go_wp2_with (first | (at_builtin; refine wpList_append_lies _ rfl _ _ 23 rfl w.heap.size 3 i0 (.int .i64 0) 1 8 Tryd.underlying23 hi0 hz0 hz1 hz2 rfl (by decide) _ _ _ rfl (hP2.out.ownT.alloc _) ⟨W1.heap.size, 0, none⟩ 1 1 [.int .i64 (C : Int)] rfl rfl (cell_one_at W1 _ 3) (one1 _) (by decide) hb1.1 hb1.2 (Nat.le_trans hP2.out.bel.size (by simp)) (W1.heap.size + 1) (by simp) ?_; intro g6 c6 w6 hown6 hg6 hat6 hlt6; have hS6 := Hid.mkI (hP2.out.push hown6 hg6 hat6); have e0 := box_grown d0 hg6 (own_no (by omega)); have e2 := box_grown d2 hg6 (own_no (by omega)); have hne6 : g6 ≠ wr.heap.size := (own_at hat6).elim (fun z => by omega) (fun z => by omega); clear hown6 hg6 hat6 hP2 d0 d1 d2 d3 d4) | (at_builtin; refine wpList_append_lies _ rfl _ _ 23 rfl w.heap.size 3 i0 (.int .i64 0) 1 8 Tryd.underlying23 hi0 hz0 hz1 hz2 rfl (by decide) _ _ _ rfl (hS6.out.ownT.alloc _) ⟨w6.heap.size, 0, none⟩ 1 1 [.int .i64 (A : Int)] rfl rfl (cell_one_at w6 _ 3) (one1 _) (by decide) hb2.1 hb2.2 (Nat.le_trans hS6.out.bel.size (by simp)) (w6.heap.size + 1) (by simp) ?_; intro g7 c7 w7 hown7 hg7 hat7 hlt7; have hS7 := Hid.mkI (hS6.out.push hown7 hg7 hat7); have f0 := box_grown e0 hg7 (own_no hne6); clear hown7 hg7 hat7 hS6))
        go_roundg (mu (A :: C :: r) (F - b))
        case measure => exact hmu.out
        case rel => exact ⟨A :: C :: r, s, b, rfl, rfl, hb, hM2, hC2, HS, HR2, hS7.out⟩
      by_cases hbF : b = F
      · have HR2 : R = none := by rw [HR.out, hbF, Nat.sub_self]; exact exP_out (by rw [hx]; exact h5) (by rw [hx]; exact h7)
        have hE : ∀ W, Below w.heap.size w W → RunV w R F (.returned (.tuple #[.slice none 0 0, .int .i64 0, .bool false])) W := fun W k => ⟨k, .inr ⟨HR2, rfl⟩⟩
        have HE := Hid.mkI (hE _ hP1.bel)
        subst hbF
        obtain ⟨kd, num, pa, pb, pc⟩ := x
        simp only at h5 h7
        have g5 : (kd == 5) = false := by simpa using h5
        have g7 : (kd == 7) = false := by simpa using h7
        clear HTV Hsn HG HR HM HC hx hP hP1 HR2 hE h5 h7 hSt0
        go_wp2
        go_ret3
        exact HE.out
      have hf : F - b = (F - (b + 1)) + 1 := by omega
      have gbF : ((b : Int) == (F : Int)) = false := by simpa using (show (b : Int) ≠ F by omega)
      have hbF2 : b + 1 ≤ F := by omega
      have hmnI : (0 : Nat) = 0 := rfl
      by_cases h6 : x.kd = 6
      · obtain ⟨A, k, eA, ek, hA, hk, kA⟩ := HG.out.setN (i := i) (by omega) (by rw [hx]; exact h6)
        have HR1 : R = exP l r (upv s k (vl l A s)) (F - (b + 1)) := by
          have e := exP_set (l := l) (i := i) (r := r) (s := s) (f := F - (b + 1)) (by rw [hx]; exact h6)
          rw [eA, ek, Int.toNat_natCast, Int.toNat_natCast, ← hf] at e
          exact HR.out.trans e
        rw [hx] at eA ek
        have hmu : Hid (mu r (F - (b + 1)) < mu (i :: r) (F - b)) := by show _ < _; rw [hf]; exact mu_burn0 _ _ _
        obtain ⟨kd, num, pa, pb, pc⟩ := x
        simp only at h6 eA ek hL hP1 d0 d1 d2 d3 d4 z0 z1 z2 z3 z4
        subst h6; subst eA; subst ek
        obtain ⟨W1, hW1⟩ : ∃ W1, wr.alloc (.cells #[.int .i64 6, .int .i64 (k : Int), .int .i64 (A : Int), .int .i64 pb, .int .i64 pc] 37) = W1 := ⟨_, rfl⟩
        rw [hW1] at hP1 hL d0 d1 d2 d3 d4
        have tV2 := HTV.out A (by omega) kA W1 _ s HS.out hP1.bel (lst_of_row hP1.ownV)
        rw [hln] at tV2
        have hyb := vlE_bnd HG.out.r HS.out (A + 1) A (by omega)
        change 0 ≤ vl l A s ∧ vl l A s ≤ 999999 at hyb
        obtain ⟨y, hy⟩ : ∃ y, vl l A s = y := ⟨_, rfl⟩
        rw [hy] at tV2 hyb
        have hP2 := Hid.mkI hP1
        have hL1 := hL.size
        obtain ⟨yb1, yb2⟩ := hyb
        rw [hy] at HR1
        have HR2 := Hid.mkI HR1
        have HS2 : Hid (Bnd6 (upv s k y)) := upv_bnd HS.out ⟨yb1, yb2⟩
        have hgV := (hP1.ownV.lt gV rfl).2
        have hgne : gV ≠ wr.heap.size := fun z => by have := (hSt0.ownV.lt gV rfl).2; omega
        have hkI : (k : Int) < 6 := by omega
        clear HTV Hsn HG HR HM HC hx hP hP1 hL hy hmnI HR1 hSt0
        go_wp2_with (go_at_call 16; (with_reducible refine tV2.mono ?_); clear tV2; rintro e w6 ⟨rfl, hB6⟩; have hP6 := Hid.mkI (hP2.out.below hB6); have d0 := keep_cell hB6 d0; have d1 := keep_cell hB6 d1; have d2 := keep_cell hB6 d2; have d3 := keep_cell hB6 d3; have d4 := keep_cell hB6 d4; have hL6 := hB6.size; clear hB6 hP2; obtain ⟨cv1, fv1⟩ := hP6.out.var hk; have d0s : (w6.setCell ⟨gV, k, none⟩ (.int .i64 y)).cell? ⟨wr.heap.size, 0, none⟩ = some (.int .i64 6) := (cell_far (by omega)).trans d0)
        go_roundg (mu r (F - (b + 1)))
        case measure => exact hmu.out
        case rel => exact ⟨r, upv s k y, b + 1, rfl, by go_num, hbF2, hMr, hCr, HS2, HR2, hP6.out.set hk y⟩
      by_cases h8 : x.kd = 8
      · have hx0 := hx
        obtain ⟨A, D, C, eA, eD, eC, hA, hD, hCc, kA, kD, kC⟩ := HG.out.ifN (i := i) (by omega) (by rw [hx]; exact h8)
        rw [hx] at eA eD eC
        by_cases hy0 : vl l A s = 0
        · skip
          have HR1 : R = exP l (C :: r) s (F - (b + 1)) := by
            have e := exP_else (r := r) (f := F - (b + 1)) HG.out (i := i) (s := s) (by omega) (by rw [hx0]; exact h8) (by rw [hx0, eA, Int.toNat_natCast]; exact hy0)
            rw [hx0, eC, Int.toNat_natCast, ← hf] at e
            exact HR.out.trans e
          have hM2 : Hid (∀ j ∈ C :: r, j < n ∧ 5 ≤ (nthD l j).kd) := fun j hj => by
            rcases List.mem_cons.1 hj with rfl | hj
            · exact ⟨by omega, kC⟩
            · exact hMr.out j hj
          have hC2 : Hid (Chn n 0 (C :: r)) := chn_one HC.out hCc
          have hmu : Hid (mu (C :: r) (F - (b + 1)) < mu (i :: r) (F - b)) := by show _ < _; rw [hf]; exact mu_burn1 _ _ hCc
          have HR2 := Hid.mkI HR1
          obtain ⟨kd, num, pa, pb, pc⟩ := x
          simp only at h8 eA eD eC hL hP1 d0 d1 d2 d3 d4 z0 z1 z2 z3 z4
          subst h8; subst eA; subst eD; subst eC
          obtain ⟨W1, hW1⟩ : ∃ W1, wr.alloc (.cells #[.int .i64 8, .int .i64 num, .int .i64 (A : Int), .int .i64 (D : Int), .int .i64 (C : Int)] 37) = W1 := ⟨_, rfl⟩
          rw [hW1] at hP1 hL d0 d1 d2 d3 d4
          have tV2 := HTV.out A (by omega) kA W1 _ s HS.out hP1.bel (lst_of_row hP1.ownV)
          rw [hln] at tV2
          have hyb := vlE_bnd HG.out.r HS.out (A + 1) A (by omega)
          change 0 ≤ vl l A s ∧ vl l A s ≤ 999999 at hyb
          obtain ⟨y, hy⟩ : ∃ y, vl l A s = y := ⟨_, rfl⟩
          rw [hy] at tV2 hyb
          have hP2 := Hid.mkI hP1
          have hL1 := hL.size
          obtain ⟨yb1, yb2⟩ := hyb
          rw [hy] at hy0
          subst hy0
          skip
          clear HTV Hsn HG HR HM HC hx hx0 hP hP1 hL hy hmnI HR1 kA kD kC
          go_wp2_with (first | (go_at_call 16; (with_reducible refine tV2.mono ?_); clear tV2; rintro e w6 ⟨rfl, hB6⟩; have hP6 := Hid.mkI (hP2.out.below hB6); have d0 := keep_cell hB6 d0; have d1 := keep_cell hB6 d1; have d2 := keep_cell hB6 d2; have d3 := keep_cell hB6 d3; have d4 := keep_cell hB6 d4; have hL6 := hB6.size; clear hB6 hP2) | (at_builtin; refine wpList_append_lies _ rfl _ _ 23 rfl w.heap.size 3 i0 (.int .i64 0) 1 8 Tryd.underlying23 hi0 hz0 hz1 hz2 rfl (by decide) _ _ _ rfl (hP6.out.ownT.alloc _) ⟨w6.heap.size, 0, none⟩ 1 1 [.int .i64 (C : Int)] rfl rfl (cell_one_at w6 _ 3) (one1 _) (by decide) hb1.1 hb1.2 (Nat.le_trans hP6.out.bel.size (by simp)) (w6.heap.size + 1) (by simp) ?_; intro g7 c7 w7 hown7 hg7 hat7 hlt7; have hS7 := Hid.mkI (hP6.out.push hown7 hg7 hat7); have e0 := box_grown d0 hg7 (own_no (by omega)); clear hown7 hg7 hat7 hP6 d0 d1 d2 d3 d4))
          go_roundg (mu (C :: r) (F - (b + 1)))
          case measure => exact hmu.out
          case rel => exact ⟨C :: r, s, b + 1, rfl, by go_num, hbF2, hM2, hC2, HS, HR2, hS7.out⟩
        · skip
          have HR1 : R = exP l (D :: r) s (F - (b + 1)) := by
            have e := exP_then (r := r) (f := F - (b + 1)) HG.out (i := i) (s := s) (by omega) (by rw [hx0]; exact h8) (by rw [hx0, eA, Int.toNat_natCast]; exact hy0)
            rw [hx0, eD, Int.toNat_natCast, ← hf] at e
            exact HR.out.trans e
          have hM2 : Hid (∀ j ∈ D :: r, j < n ∧ 5 ≤ (nthD l j).kd) := fun j hj => by
            rcases List.mem_cons.1 hj with rfl | hj
            · exact ⟨by omega, kD⟩
            · exact hMr.out j hj
          have hC2 : Hid (Chn n 0 (D :: r)) := chn_one HC.out hD
          have hmu : Hid (mu (D :: r) (F - (b + 1)) < mu (i :: r) (F - b)) := by show _ < _; rw [hf]; exact mu_burn1 _ _ hD
          have HR2 := Hid.mkI HR1
          obtain ⟨kd, num, pa, pb, pc⟩ := x
          simp only at h8 eA eD eC hL hP1 d0 d1 d2 d3 d4 z0 z1 z2 z3 z4
          subst h8; subst eA; subst eD; subst eC
          obtain ⟨W1, hW1⟩ : ∃ W1, wr.alloc (.cells #[.int .i64 8, .int .i64 num, .int .i64 (A : Int), .int .i64 (D : Int), .int .i64 (C : Int)] 37) = W1 := ⟨_, rfl⟩
          rw [hW1] at hP1 hL d0 d1 d2 d3 d4
          have tV2 := HTV.out A (by omega) kA W1 _ s HS.out hP1.bel (lst_of_row hP1.ownV)
          rw [hln] at tV2
          have hyb := vlE_bnd HG.out.r HS.out (A + 1) A (by omega)
          change 0 ≤ vl l A s ∧ vl l A s ≤ 999999 at hyb
          obtain ⟨y, hy⟩ : ∃ y, vl l A s = y := ⟨_, rfl⟩
          rw [hy] at tV2 hyb
          have hP2 := Hid.mkI hP1
          have hL1 := hL.size
          obtain ⟨yb1, yb2⟩ := hyb
          rw [hy] at hy0
          have hy1 : (y != 0) = true := by simpa using hy0
          have hy2 : (y == 0) = false := by simpa using hy0
          clear HTV Hsn HG HR HM HC hx hx0 hP hP1 hL hy hmnI HR1 kA kD kC hy0
          go_wp2_with (first | (go_at_call 16; (with_reducible refine tV2.mono ?_); clear tV2; rintro e w6 ⟨rfl, hB6⟩; have hP6 := Hid.mkI (hP2.out.below hB6); have d0 := keep_cell hB6 d0; have d1 := keep_cell hB6 d1; have d2 := keep_cell hB6 d2; have d3 := keep_cell hB6 d3; have d4 := keep_cell hB6 d4; have hL6 := hB6.size; clear hB6 hP2) | (at_builtin; refine wpList_append_lies _ rfl _ _ 23 rfl w.heap.size 3 i0 (.int .i64 0) 1 8 Tryd.underlying23 hi0 hz0 hz1 hz2 rfl (by decide) _ _ _ rfl (hP6.out.ownT.alloc _) ⟨w6.heap.size, 0, none⟩ 1 1 [.int .i64 (D : Int)] rfl rfl (cell_one_at w6 _ 3) (one1 _) (by decide) hb1.1 hb1.2 (Nat.le_trans hP6.out.bel.size (by simp)) (w6.heap.size + 1) (by simp) ?_; intro g7 c7 w7 hown7 hg7 hat7 hlt7; have hS7 := Hid.mkI (hP6.out.push hown7 hg7 hat7); have e0 := box_grown d0 hg7 (own_no (by omega)); clear hown7 hg7 hat7 hP6 d0 d1 d2 d3 d4))
          go_roundg (mu (D :: r) (F - (b + 1)))
          case measure => exact hmu.out
          case rel => exact ⟨D :: r, s, b + 1, rfl, by go_num, hbF2, hM2, hC2, HS, HR2, hS7.out⟩
      have h9 : x.kd = 9 := by omega
      have hx0 := hx
      obtain ⟨A, D, eA, eD, hA, hD, kA, kD⟩ := HG.out.whlN (i := i) (by omega) (by rw [hx]; exact h9)
      rw [hx] at eA eD
      by_cases hy0 : vl l A s = 0
      · have HR1 : R = exP l r s (F - (b + 1)) := by
          have e := exP_stop (r := r) (l := l) (f := F - (b + 1)) (i := i) (s := s) (by rw [hx0]; exact h9) (by rw [hx0, eA, Int.toNat_natCast]; exact hy0)
          rw [← hf] at e
          exact HR.out.trans e
        have hmu : Hid (mu r (F - (b + 1)) < mu (i :: r) (F - b)) := by show _ < _; rw [hf]; exact mu_burn0 _ _ _
        have HR2 := Hid.mkI HR1
        obtain ⟨kd, num, pa, pb, pc⟩ := x
        simp only at h9 eA eD hL hP1 d0 d1 d2 d3 d4 z0 z1 z2 z3 z4
        subst h9; subst eA; subst eD
        obtain ⟨W1, hW1⟩ : ∃ W1, wr.alloc (.cells #[.int .i64 9, .int .i64 num, .int .i64 (A : Int), .int .i64 (D : Int), .int .i64 pc] 37) = W1 := ⟨_, rfl⟩
        rw [hW1] at hP1 hL d0 d1 d2 d3 d4
        have tV2 := HTV.out A (by omega) kA W1 _ s HS.out hP1.bel (lst_of_row hP1.ownV)
        rw [hln] at tV2
        have hyb := vlE_bnd HG.out.r HS.out (A + 1) A (by omega)
        change 0 ≤ vl l A s ∧ vl l A s ≤ 999999 at hyb
        obtain ⟨y, hy⟩ : ∃ y, vl l A s = y := ⟨_, rfl⟩
        rw [hy] at tV2 hyb
        have hP2 := Hid.mkI hP1
        have hL1 := hL.size
        obtain ⟨yb1, yb2⟩ := hyb
        rw [hy] at hy0
        subst hy0
        clear HTV Hsn HG HR HM HC hx hx0 hP hP1 hL hy hmnI HR1 kA kD
        go_wp2_with (go_at_call 16; (with_reducible refine tV2.mono ?_); clear tV2; rintro e w6 ⟨rfl, hB6⟩; have hP6 := Hid.mkI (hP2.out.below hB6); have d0 := keep_cell hB6 d0; have d1 := keep_cell hB6 d1; have d2 := keep_cell hB6 d2; have d3 := keep_cell hB6 d3; have d4 := keep_cell hB6 d4; have hL6 := hB6.size; clear hB6 hP2)
        go_roundg (mu r (F - (b + 1)))
        case measure => exact hmu.out
        case rel => exact ⟨r, s, b + 1, rfl, by go_num, hbF2, hMr, hCr, HS, HR2, hP6.out⟩
      · have HR1 : R = exP l (D :: i :: r) s (F - (b + 1)) := by
          have e := exP_round (r := r) (f := F - (b + 1)) HG.out (i := i) (s := s) (by omega) (by rw [hx0]; exact h9) (by rw [hx0, eA, Int.toNat_natCast]; exact hy0)
          rw [hx0, eD, Int.toNat_natCast, ← hf] at e
          exact HR.out.trans e
        have hM2 : Hid (∀ j ∈ D :: i :: r, j < n ∧ 5 ≤ (nthD l j).kd) := fun j hj => by
          rcases List.mem_cons.1 hj with rfl | hj
          · exact ⟨by omega, kD⟩
          · exact HM.out j hj
        have hC2 : Hid (Chn n 0 (D :: i :: r)) := chn_both HC.out hD (Nat.le_refl _)
        have hmu : Hid (mu (D :: i :: r) (F - (b + 1)) < mu (i :: r) (F - b)) := by show _ < _; rw [hf]; exact mu_burn2 _ _ (by omega)
        have HR2 := Hid.mkI HR1
        obtain ⟨kd, num, pa, pb, pc⟩ := x
        simp only at h9 eA eD hL hP1 d0 d1 d2 d3 d4 z0 z1 z2 z3 z4
        subst h9; subst eA; subst eD
        obtain ⟨W1, hW1⟩ : ∃ W1, wr.alloc (.cells #[.int .i64 9, .int .i64 num, .int .i64 (A : Int), .int .i64 (D : Int), .int .i64 pc] 37) = W1 := ⟨_, rfl⟩
        rw [hW1] at hP1 hL d0 d1 d2 d3 d4
        have tV2 := HTV.out A (by omega) kA W1 _ s HS.out hP1.bel (lst_of_row hP1.ownV)
        rw [hln] at tV2
        have hyb := vlE_bnd HG.out.r HS.out (A + 1) A (by omega)
        change 0 ≤ vl l A s ∧ vl l A s ≤ 999999 at hyb
        obtain ⟨y, hy⟩ : ∃ y, vl l A s = y := ⟨_, rfl⟩
        rw [hy] at tV2 hyb
        have hP2 := Hid.mkI hP1
        have hL1 := hL.size
        obtain ⟨yb1, yb2⟩ := hyb
        rw [hy] at hy0
        have hy1 : (y != 0) = true := by simpa using hy0
        have hy2 : (y == 0) = false := by simpa using hy0
        clear HTV Hsn HG HR HM HC hx hx0 hP hP1 hL hy hmnI HR1 kA kD hy0
        go_wp2_with (first | (go_at_call 16; (with_reducible refine tV2.mono ?_); clear tV2; rintro e w6 ⟨rfl, hB6⟩; have hP6 := Hid.mkI (hP2.out.below hB6); have d0 := keep_cell hB6 d0; have d1 := keep_cell hB6 d1; have d2 := keep_cell hB6 d2; have d3 := keep_cell hB6 d3; have d4 := keep_cell hB6 d4; have hL6 := hB6.size; clear hB6 hP2) | (at_builtin; refine wpList_append_lies _ rfl _ _ 23 rfl w.heap.size 3 i0 (.int .i64 0) 1 8 Tryd.underlying23 hi0 hz0 hz1 hz2 rfl (by decide) _ _ _ rfl (hP6.out.ownT.alloc _) ⟨w6.heap.size, 0, none⟩ 1 1 [.int .i64 (i : Int)] rfl rfl (cell_one_at w6 _ 3) (one1 _) (by decide) hb1.1 hb1.2 (Nat.le_trans hP6.out.bel.size (by simp)) (w6.heap.size + 1) (by simp) ?_; intro g7 c7 w7 hown7 hg7 hat7 hlt7; have hS7 := Hid.mkI (hP6.out.push hown7 hg7 hat7); have e0 := box_grown d0 hg7 (own_no (by omega)); have e3 := box_grown d3 hg7 (own_no (by omega)); have hne7 : g7 ≠ wr.heap.size := (own_at hat7).elim (fun z => by omega) (fun z => by omega); clear hown7 hg7 hat7 hP6 d0 d1 d2 d3 d4) | (at_builtin; refine wpList_append_lies _ rfl _ _ 23 rfl w.heap.size 3 i0 (.int .i64 0) 1 8 Tryd.underlying23 hi0 hz0 hz1 hz2 rfl (by decide) _ _ _ rfl (hS7.out.ownT.alloc _) ⟨w7.heap.size, 0, none⟩ 1 1 [.int .i64 (D : Int)] rfl rfl (cell_one_at w7 _ 3) (one1 _) (by decide) hb2.1 hb2.2 (Nat.le_trans hS7.out.bel.size (by simp)) (w7.heap.size + 1) (by simp) ?_; intro g8 c8 w8 hown8 hg8 hat8 hlt8; have hS8 := Hid.mkI (hS7.out.push hown8 hg8 hat8); clear hown8 hg8 hat8 hS7))
        go_roundg (mu (D :: i :: r) (F - (b + 1)))
        case measure => exact hmu.out
        case rel => exact ⟨D :: i :: r, s, b + 1, rfl, by go_num, hbF2, hM2, hC2, HS, HR2, hS8.out⟩
end Go.Proofs.YtahdbhehaoeemaaDoor
