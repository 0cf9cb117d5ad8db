/- The closed fact on running; the walk of the law RunKeeps. -/
import Derived.WalkKit
import Derived.LoopTactic
import Derived.Deep.QuietTactic
import Derived.BigQuiet
import Derived.KernelRfl
import Derived.Test.YtahdbhehaoeemaaDoorRunO
import Derived.Test.YtahdbhehaoeemaaDoorPrgA
namespace Go.Proofs.YtahdbhehaoeemaaDoor
open Go.RowKit
set_option maxRecDepth 100000
set_option linter.unusedVariables false

/-- The closed fact's program, its variables ahead of it, and behind it. -/
def factL : List Nod := [⟨1, 1, 0, 0, 0⟩, ⟨0, 2, 0, 0, 0⟩, ⟨2, 0, 0, 1, 0⟩, ⟨6, 0, 2, 0, 0⟩]
def factS : Nat → Int := fun i => ([0, 5, 0, 0, 0, 0] : List Int).getD i 0
def factZ : Nat → Int := fun i => ([7, 5, 0, 0, 0, 0] : List Int).getD i 0
theorem fact_run : (match runIs factL 6 factS 9 with | .ok b => (List.range 6).map b.1 == (List.range 6).map factZ && b.2 == 1 | .error _ => false) = true := by kernel_rfl
theorem fact_ok : ∃ b, runIs factL 6 factS 9 = .ok b ∧ b.2 = 1 ∧ ∀ j, j < 6 → b.1 j = factZ j := by
  have h := fact_run
  cases e : runIs factL 6 factS 9 with
  | error c => rw [e] at h; cases h
  | ok b =>
    rw [e] at h
    simp only [Bool.and_eq_true, beq_iff_eq] at h
    refine ⟨b, rfl, h.2, fun j hj => ?_⟩
    have := congrArg (fun l => l[j]?) h.1
    simpa [hj] using this
theorem lst_six (w : World) (x0 x1 x2 x3 x4 x5 : Int) (t : TypeId) : Lst (w.alloc (.cells #[.int .i64 x0, .int .i64 x1, .int .i64 x2, .int .i64 x3, .int .i64 x4, .int .i64 x5] t)) (.slice (some ⟨w.heap.size, 0, none⟩) 6 6) 6 (fun i => ([x0, x1, x2, x3, x4, x5] : List Int).getD i 0) := by
  have h1 := World.alloc_heap_new w (.cells #[.int .i64 x0, .int .i64 x1, .int .i64 x2, .int .i64 x3, .int .i64 x4, .int .i64 x5] t)
  refine ⟨_, 6, rfl, .inr ⟨w.heap.size, 0, rfl, by simp, fun i hi => ?_⟩⟩
  simp only [World.cell?]
  rw [h1]
  match i, hi with
  | 0, _ => rfl
  | 1, _ => rfl
  | 2, _ => rfl
  | 3, _ => rfl
  | 4, _ => rfl
  | 5, _ => rfl
theorem runFact_any (w : World) (hL : LibT w.heap.size w) :
    Calls Tryd.prog 11 #[] w fun e w' => e = .returned (.bool true) ∧ Below w.heap.size w w' := by
  have t := read_any ⟨#[97, 61, 43, 98, 35, 50, 59]⟩ w hL
  rw [show numsB ⟨#[97, 61, 43, 98, 35, 50, 59]⟩ = [97, 61, 43, 98, 35, 50, 59] from rfl, fact_red] at t
  have t : Calls Tryd.prog 19 #[.string ⟨#[97, 61, 43, 98, 35, 50, 59]⟩] w fun E w' => Below w.heap.size w w' ∧ ∃ p cp, E = .returned (.tuple #[.slice p 4 cp, .nilIface]) ∧ Hid (AtNods w' p 4 (nthD factL)) := t.mono fun E w' ⟨b, p, cp, e, ho⟩ => by
    obtain ⟨a, c, e2, hat⟩ := nods_of (l := factL) ho
    obtain ⟨rfl, rfl⟩ : p = a ∧ cp = c := by injection e2; exact ⟨by assumption, by assumption⟩
    exact ⟨b, p, cp, e, hat⟩
  obtain ⟨b, hb, hb2, hb1⟩ := fact_ok
  have tR := fun (w1 : World) p cp (h : AtNods w1 p 4 (nthD factL)) => run_any factL p cp (.slice (some ⟨w1.heap.size, 0, none⟩) 6 6) 6 factS 9 (w1.alloc (.cells #[.int .i64 0, .int .i64 5, .int .i64 0, .int .i64 0, .int .i64 0, .int .i64 0] 3)) (AtNods.below h ((Below.refl _ w1).alloc (Nat.le_refl _) _)) (lst_six w1 0 5 0 0 0 0 3)
  rw [hb] at tR
  have tR : ∀ (w1 : World) p cp (h : AtNods w1 p 4 (nthD factL)), Calls Tryd.prog 9 #[.slice p 4 cp, .slice (some ⟨w1.heap.size, 0, none⟩) 6 6, .int .i64 9] (w1.alloc (.cells #[.int .i64 0, .int .i64 5, .int .i64 0, .int .i64 0, .int .i64 0, .int .i64 0] 3)) fun e w' => ∃ g cp, e = .returned (.tuple #[.slice (some ⟨g, 0, none⟩) 6 cp, .int .i64 1, .nilIface]) ∧ Hid (Lst w' (.slice (some ⟨g, 0, none⟩) 6 cp) 6 factZ) ∧ Below w1.heap.size w1 w' := fun w1 p cp h => (tR w1 p cp h).mono fun e w' ⟨k, g, cg, e1, e2⟩ => ⟨g, cg, by rw [e1, hb2]; rfl, e2.like hb1, ((Below.refl _ w1).alloc (Nat.le_refl _) _).trans (k.mono (by simp))⟩
  have tI := fun (w2 : World) g cg (h : Lst w2 (.slice (some ⟨g, 0, none⟩) 6 cg) 6 factZ) => rints_same (.slice (some ⟨g, 0, none⟩) 6 cg) (.slice (some ⟨w2.heap.size, 0, none⟩) 6 6) 6 (by decide) factZ (w2.alloc (.cells #[.int .i64 7, .int .i64 5, .int .i64 0, .int .i64 0, .int .i64 0, .int .i64 0] 3)) (h.below ((Below.refl _ w2).alloc (Nat.le_refl _) _)) (lst_six w2 7 5 0 0 0 0 3)
  have HTR := Hid.mkI tR
  have HTI := Hid.mkI tI
  clear tR tI hb hb1 hb2 hL
  go_enter Tryd.func11, Tryd.ntmps11
  go_wp2_with fail
  refine t.mono ?_
  clear t
  rintro e w1 ⟨hB1, p, cp, rfl, hN⟩
  have tR := HTR.out w1 p cp hN.out
  go_wp2_with fail
  refine tR.mono ?_
  clear tR
  rintro e w2 ⟨g, cg, rfl, hL2, hx2⟩
  have hB2 := hB1.trans (hx2.mono hB1.size)
  have tI := HTI.out w2 g cg hL2.out
  go_wp2_with fail
  refine tI.mono ?_
  clear tI
  rintro e w3 ⟨rfl, k, rfl⟩
  go_wp2_with fail
  go_ret
  exact ⟨rfl, below_drawn (hB2.alloc hB2.size _) k⟩
/-- Does one of the first j nodes put variable k? -/
def anyP (l : List Nod) (j k : Nat) : Bool := (l.take j).any fun x => decide (x.kd = 6 ∧ x.num = (k : Int))
theorem anyP_zero (l : List Nod) (k : Nat) : anyP l 0 k = false := by simp [anyP]
theorem anyP_succ {l : List Nod} {j : Nat} (hj : j < l.length) (k : Nat) : anyP l (j + 1) k = (anyP l j k || decide ((nthD l j).kd = 6 ∧ (nthD l j).num = (k : Int))) := by
  unfold anyP
  rw [List.take_succ_eq_append_getElem hj, List.any_append]
  have : nthD l j = l[j] := by simp [nthD, hj]
  rw [this]
  simp
theorem anyP_all {l : List Nod} {k : Nat} : anyP l l.length k = l.any fun x => decide (x.kd = 6 ∧ x.num = (k : Int)) := by rw [anyP, List.take_length]
set_option maxHeartbeats 8000000 in
theorem runKeeps_any (a : Option Addr) (cap : Nat) (l : List Nod) (v : Value) (nv : Nat) (s : Nat → Int) (F : Int) (w : World) (h : AtNods w a l.length (nthD l)) (hl : Lst w v nv s) (hL : LibT w.heap.size w) :
    Calls Tryd.prog 4 #[.slice a l.length cap, v, .int .i64 F] w fun e w' => e = .returned (.bool true) ∧ Below w.heap.size w w' := by
  have tF := runFact_any w hL
  have tR := fun w1 (hB : Below w.heap.size w w1) => run_any l a cap v nv s F w1 (h.below hB) (hl.below hB)
  obtain ⟨av, cv, rfl, hlv⟩ := id hl
  cases hX : runIs l nv s F with
  | error c =>
    rw [hX] at tR
    have tR : ∀ w1, Below w.heap.size w w1 → Calls Tryd.prog 9 #[.slice a l.length cap, .slice av nv cv, .int .i64 F] w1 fun e w' => e = .returned (.tuple #[.slice none 0 0, .int .i64 0, .iface 40 (.int .i64 c)]) ∧ Below w1.heap.size w1 w' := fun w1 hB => (tR w1 hB).mono fun e w' h => runO_error h
    obtain ⟨n, hn⟩ : ∃ n, l.length = n := ⟨_, rfl⟩
    rw [hn] at tR ⊢
    clear hX hlv hl h hL hn
    go_enter Tryd.func4, Tryd.ntmps4
    go_wp2_with fail
    refine tF.mono ?_
    rintro e w1 ⟨rfl, hB1⟩
    go_wp2_with fail
    refine (tR w1 hB1).mono ?_
    rintro e w2 ⟨rfl, hx2⟩
    have hB2 := hB1.trans (hx2.mono hB1.size)
    go_wp2_with fail
    go_ret
    exact ⟨rfl, hB2⟩
  | ok b =>
    obtain ⟨rfl, hbd⟩ := run_six hX
    have HS : Hid (∀ k, anyP l l.length k = false → b.1 k = s k) := fun k hk => run_stay hX (by rw [← anyP_all]; exact hk)
    have h80 := (good_of (runIs_pro hX)).r.few
    have h0 := (good_of (runIs_pro hX)).r.some
    rw [hX] at tR
    have tR : ∀ w1, Below w.heap.size w w1 → Calls Tryd.prog 9 #[.slice a l.length cap, .slice av 6 cv, .int .i64 F] w1 fun e w' => ∃ g cp, e = .returned (.tuple #[.slice (some ⟨g, 0, none⟩) 6 cp, .int .i64 (b.2 : Int), .nilIface]) ∧ Hid (Lst w' (.slice (some ⟨g, 0, none⟩) 6 cp) 6 b.1) ∧ Below w1.heap.size w1 w' := fun w1 hB => (tR w1 hB).mono fun e w' ⟨hb', g, cp, h1, h2⟩ => ⟨g, cp, h1, h2, hb'⟩
    obtain ⟨bv, ov, rfl, hbv, hcv⟩ := hlv.resolve_left (by omega)
    obtain ⟨bn, on, rfl, hsn⟩ : ∃ b off, a = some ⟨b, off, none⟩ ∧ Nods w b off l.length (nthD l) := by
      rcases h with h | h
      · omega
      · exact h
    have HV := Hid.mkI hcv
    have HN := Hid.mkI hsn
    have HP : Hid (∀ j k, j < l.length → anyP l (j + 1) k = (anyP l j k || decide ((nthD l j).kd = 6 ∧ (nthD l j).num = (k : Int)))) := fun j k hj => anyP_succ hj k
    have HB := Hid.mkI hbd
    obtain ⟨n, hn⟩ : ∃ n, l.length = n := ⟨_, rfl⟩
    rw [hn] at tR HS HP HN h80 ⊢
    have hnI : (n : Int) ≤ 80 := by omega
    clear hX hlv hl h hL hn hcv hsn hbd h0 hbv
    go_enter Tryd.func4, Tryd.ntmps4
    go_wp2_with fail
    refine tF.mono ?_
    clear tF
    rintro e w1 ⟨rfl, hB1⟩
    have tR := tR w1 hB1
    go_wp2_with fail
    refine tR.mono ?_
    clear tR
    rintro e w2 ⟨g, cg, rfl, hL2, hx2⟩
    have hB2 := Hid.mkI (hB1.trans (hx2.mono hB1.size))
    obtain ⟨ag, cg', eg, hq⟩ := hL2.out
    obtain ⟨rfl, rfl⟩ : some ⟨g, 0, none⟩ = ag ∧ cg = cg' := by injection eg; exact ⟨by assumption, by assumption⟩
    obtain ⟨bg, og, e2, hbg, hcg⟩ := hq.resolve_left (by omega)
    obtain ⟨rfl, rfl⟩ : g = bg ∧ 0 = og := by injection e2 with e2; injection e2 with e3 e4; exact ⟨e3, e4⟩
    have HG := Hid.mkI hcg
    clear hcg hq e2 eg hL2 hB1 hx2
    go_wp2
    go_loopw [11] (fun p wr => ∃ (k q : Nat), k ≤ 6 ∧ p = .int .i64 (k : Int) ∧ Hid (w2.drewN q = wr)) (fun p _ => 7 - (intOf p).toNat)
    case atStart => exact ⟨0, 0, by omega, rfl, rfl⟩
    case round =>
      obtain ⟨k, q, hk, rfl, HW⟩ := hrel
      by_cases hlt : k < 6
      · have hkI : (k : Int) < 6 := by omega
        have hBr : Hid (Below w.heap.size w wr) := by rw [← HW.out]; exact below_drawn hB2.out q
        have cx : wr.cell? ⟨g, 0 + k, none⟩ = some (.int .i64 (b.1 k)) := by rw [← HW.out]; exact HG.out k hlt
        have cv1 : wr.cell? ⟨bv, ov + k, none⟩ = some (.int .i64 (s k)) := keep_cell hBr.out (HV.out k hlt)
        obtain ⟨hx0, hx1⟩ := HB.out k hlt
        obtain ⟨x, hx⟩ : ∃ x, b.1 k = x := ⟨_, rfl⟩
        obtain ⟨y, hy⟩ : ∃ y, s k = y := ⟨_, rfl⟩
        rw [hx] at cx hx0 hx1
        rw [hy] at cv1
        have HE : Hid (anyP l n k = false → x = y) := fun hz => by rw [← hx, ← hy]; exact HS.out k hz
        rw [Nat.zero_add] at cx
        clear hx hy
        go_wp2
        go_loopw [12, 13] (fun nm p wz => ∃ j : Nat, j ≤ n ∧ nm = .bool (anyP l j k) ∧ p = .int .i64 (j : Int) ∧ Hid (wr = wz)) (fun nm p _ => n + 1 - (intOf p).toNat)
        case atStart => exact ⟨0, by omega, by rw [anyP_zero], rfl, rfl⟩
        case round =>
          obtain ⟨j, hj, rfl, rfl, HZ⟩ := hrel
          obtain rfl := HZ.out
          by_cases hjn : j < n
          · have hjI : (j : Int) < (n : Int) := by omega
            obtain ⟨z0, z1, -, -, -⟩ := nods_five (HN.out.below hBr.out) (i := j) hjn rfl
            have hP := HP.out j k hjn
            obtain ⟨kd, hkd⟩ : ∃ c, (nthD l j).kd = c := ⟨_, rfl⟩
            obtain ⟨num, hnum⟩ : ∃ c, (nthD l j).num = c := ⟨_, rfl⟩
            rw [hkd] at z0 hP
            rw [hnum] at z1 hP
            clear hkd hnum
            cases hA : anyP l j k with
            | true =>
              rw [hA, Bool.true_or] at hP
              have HP2 := Hid.mkI hP
              clear hA hP
              go_wp2
              go_roundw
              case rel => exact ⟨j + 1, by omega, by rw [HP2.out], by go_num, by first | rfl | trivial⟩
              case measure => simp [intOf]; omega
            | false =>
              rw [hA, Bool.false_or] at hP
              by_cases h6 : kd = 6
              · subst h6
                by_cases hk2 : num = (k : Int)
                · rw [decide_eq_true ⟨rfl, hk2⟩] at hP
                  subst hk2
                  have HP2 := Hid.mkI hP
                  clear hA hP
                  go_wp2
                  go_roundw
                  case rel => exact ⟨j + 1, by omega, by rw [HP2.out], by go_num, by first | rfl | trivial⟩
                  case measure => simp [intOf]; omega
                · rw [decide_eq_false (fun q => hk2 q.2)] at hP
                  have HP2 := Hid.mkI hP
                  have hk3 : (num == (k : Int)) = false := by simpa using hk2
                  clear hA hP hk2
                  go_wp2
                  go_roundw
                  case rel => exact ⟨j + 1, by omega, by rw [HP2.out], by go_num, by first | rfl | trivial⟩
                  case measure => simp [intOf]; omega
              · rw [decide_eq_false (fun q => h6 q.1)] at hP
                have HP2 := Hid.mkI hP
                have hk3 : (kd == 6) = false := by simpa using h6
                clear hA hP h6
                go_wp2
                go_roundw
                case rel => exact ⟨j + 1, by omega, by rw [HP2.out], by go_num, by first | rfl | trivial⟩
                case measure => simp [intOf]; omega
          · obtain rfl : j = n := by omega
            cases hA : anyP l j k with
            | true =>
              clear hA HE
              have hd1 : decide (x < 0) = false := by simpa using hx0
              have hd2 : decide (999999 < x) = false := by simpa using hx1
              have hd3 : decide (x > 999999) = false := by simpa using hx1
              go_wp2
              go_quiet (fail)
              go_wp2
              go_roundw
              case rel => exact ⟨k + 1, q + nq, by omega, by go_num, by show _ = _; rw [← HW.out, World.drewN_drewN]⟩
              case measure => simp [intOf]; omega
            | false =>
              obtain rfl := HE.out hA
              have hxx : (x != x) = false := by simp
              clear hA HE
              go_wp2
              go_quiet (fail)
              go_wp2
              go_roundw
              case rel => exact ⟨k + 1, q + nq, by omega, by go_num, by show _ = _; rw [← HW.out, World.drewN_drewN]⟩
              case measure => simp [intOf]; omega
      · obtain rfl : k = 6 := by omega
        go_wp2
        go_ret
        exact ⟨rfl, by rw [← HW.out]; exact below_drawn hB2.out q⟩
end Go.Proofs.YtahdbhehaoeemaaDoor
