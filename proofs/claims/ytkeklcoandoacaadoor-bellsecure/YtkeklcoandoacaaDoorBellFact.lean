/- The closed fact of the laws on monitors (bellFact). -/
import Derived.WalkKit
import Derived.LoopTactic
import Derived.Test.YtkeklcoandoacaaDoorBellDrop
import Derived.Test.YtkeklcoandoacaaDoorAs
namespace Go.Proofs.YtkeklcoandoacaaDoor
open Go.RowKit
set_option maxRecDepth 100000

theorem two_any (w : World) : Calls Tryd.prog 18 #[] w fun e w' => e = .returned (.slice (some ⟨w.heap.size, 0, none⟩) 2 2) ∧ w' = w.alloc (.cells #[.int .i64 1, .int .i64 0, .int .i64 4, .int .i64 0] 37) := by
  go_enter Tryd.func18, Tryd.ntmps18
  go_wp2
  go_ret
  exact ⟨rfl, rfl⟩
def zFact (_ : Nat) : Int × Int := (5, 0)
def yFact (i : Nat) : Int × Int := if i = 0 then (1, 0) else (4, 0)
theorem zFact_lab : AllLab 1 zFact := fun i _ => by unfold zFact IsLab; omega
theorem yFact_lab : AllLab 2 yFact := fun i _ => by unfold yFact IsLab; split <;> simp
theorem fact_labs (w : World) (t : TypeId) : Labs ((w.alloc (.cells #[.int .i64 5, .int .i64 0] t)).alloc (.cells #[.int .i64 1, .int .i64 0, .int .i64 4, .int .i64 0] t)) w.heap.size 0 1 zFact ∧ Labs ((w.alloc (.cells #[.int .i64 5, .int .i64 0] t)).alloc (.cells #[.int .i64 1, .int .i64 0, .int .i64 4, .int .i64 0] t)) (w.heap.size + 1) 0 2 yFact := by
  have h1 := World.alloc_heap_new w (.cells #[.int .i64 5, .int .i64 0] t)
  have h2 := World.alloc_heap_new (w.alloc (.cells #[.int .i64 5, .int .i64 0] t)) (.cells #[.int .i64 1, .int .i64 0, .int .i64 4, .int .i64 0] t)
  rw [World.size_alloc] at h2
  have ho : ((w.alloc (.cells #[.int .i64 5, .int .i64 0] t)).alloc (.cells #[.int .i64 1, .int .i64 0, .int .i64 4, .int .i64 0] t)).heap[w.heap.size]? = some (.cells #[.int .i64 5, .int .i64 0] t) := by
    rw [← h1]
    exact (((Below.refl (w.heap.size + 1) (w.alloc (.cells #[.int .i64 5, .int .i64 0] t))).alloc (by simp) _).block _ (by simp))
  refine ⟨⟨by simp; omega, fun i hi => ?_, fun i hi => ?_⟩, ⟨by simp, fun i hi => ?_, fun i hi => ?_⟩⟩
  · obtain rfl : i = 0 := by omega
    simp only [World.cell?]; rw [ho]; simp [zFact]
  · obtain rfl : i = 0 := by omega
    simp only [World.cell?]; rw [ho]; simp [zFact]
  · rcases (show i = 0 ∨ i = 1 by omega) with rfl | rfl
    all_goals simp only [World.cell?]; rw [h2]; simp [yFact]
  · rcases (show i = 0 ∨ i = 1 by omega) with rfl | rfl
    all_goals simp only [World.cell?]; rw [h2]; simp [yFact]
abbrev sF0 : BellSt := newSt 1 2 zFact yFact
abbrev sF1 : BellSt := readSt sF0 0 1
theorem fact_e1 : askB sF0 0 0 1 0 = (0, sF1) := by rfl
theorem fact_e2 : askB sF1 1 0 0 0 = (7, sF1) := by rfl
set_option maxHeartbeats 1000000 in
theorem bellFact_walk (w : World) (hT : Tab w) (hE : ErrT w)
    (hN : ∀ W, Labs W w.heap.size 0 1 zFact → Labs W (w.heap.size + 1) 0 2 yFact → Calls Tryd.prog 8 #[.slice (some ⟨w.heap.size, 0, none⟩) 1 1, .slice (some ⟨w.heap.size + 1, 0, none⟩) 2 2] W fun e w' => ∃ B au af gu gf cu cf, e = .returned (.tuple #[.pointer (some ⟨B, 0, none⟩), .nilIface]) ∧ Mon W.heap.size B au af gu gf cu cf w' sF0 ∧ Below W.heap.size W w') :
    Calls Tryd.prog 7 #[] w fun e w' => e = .returned (.bool true) ∧ Below w.heap.size w w' := by
  have ok0 : BellOk sF0 := newSt_ok (by omega) (by omega) zFact_lab yFact_lab
  have ok1 : BellOk sF1 := by have := askB_ok ok0 0 0 1 0; rw [fact_e1] at this; exact this
  have hb0 : ∀ o o', Below w.heap.size w ((w.alloc o).alloc o') := fun o o' => ((Below.refl _ w).alloc (Nat.le_refl _) _).alloc (by simp) _
  have t2 := two_any (w.alloc (.cells #[.int .i64 5, .int .i64 0] 37))
  simp only [World.size_alloc] at t2
  have hb := hb0 (.cells #[.int .i64 5, .int .i64 0] 37) (.cells #[.int .i64 1, .int .i64 0, .int .i64 4, .int .i64 0] 37)
  have tN := hN _ (fact_labs w 37).1 (fact_labs w 37).2
  have HS : Hid (sF1.ur 0 = 2) := rfl
  have HU : Hid (0 < sF1.nu) := Nat.lt_succ_self 0
  obtain ⟨w2, hw2⟩ : ∃ x, (w.alloc (.cells #[.int .i64 5, .int .i64 0] 37)).alloc (.cells #[.int .i64 1, .int .i64 0, .int .i64 4, .int .i64 0] 37) = x := ⟨_, rfl⟩
  rw [hw2] at t2 tN hb
  have A1 := fun B gu gf cu cf au af => askIs_of (B := B) (gu := gu) (gf := gf) (cu := cu) (cf := cf) (au := au) (af := af) (hT.below hb hT.size) (Nat.le_refl _) ok0 0 0 1 0
  have A2 := fun B gu gf cu cf au af => askIs_of (B := B) (gu := gu) (gf := gf) (cu := cu) (cf := cf) (au := au) (af := af) (hT.below hb hT.size) (Nat.le_refl _) ok1 1 0 0 0
  rw [fact_e1] at A1
  rw [fact_e2] at A2
  simp only [errV_zero] at A1
  rw [show errV 7 = .iface 58 (.int .i64 7) from rfl] at A2
  have hE2 : ErrT w2 := hE.below hb (by have := hT.size; omega)
  clear hN hb0 ok0 ok1 hw2
  obtain ⟨s1, hs1⟩ : ∃ x, sF1 = x := ⟨_, rfl⟩
  obtain ⟨s0, hs0⟩ : ∃ x, sF0 = x := ⟨_, rfl⟩
  rw [hs1] at A1 A2 HS HU
  rw [hs0] at A1 tN
  clear hs1 hs0
  go_enter Tryd.func7, Tryd.ntmps7
  go_wp2_with (first | (go_at_call 18; refine t2.mono ?_; clear t2; rintro e w' ⟨rfl, rfl⟩) | (go_at_call 8; refine tN.mono ?_; clear tN; rintro e w3 ⟨B, au, af, gu, gf, cu, cf, rfl, hM, hB3⟩; replace A1 := A1 B gu gf cu cf au af w3 hB3 hM; replace A2 := A2 B gu gf cu cf au af) | (go_at_call 9; refine A1.mono ?_; clear A1; rintro e w4 ⟨rfl, hM4, hB4⟩; replace A2 := A2 w4 hB4 hM4) | (go_at_call 9; refine A2.mono ?_; clear A2; rintro e w5 ⟨rfl, hM5, hB5⟩; have tE := error_err 7 7 w5 (hE2.below hB5 (by have := hT.size; have := hb.size; omega))) | (go_at_call 16; refine tE.mono ?_; clear tE; rintro e w6 ⟨rfl, hB6⟩; have tR := reads_in (hM5.below hB6) 0 HU.out; rw [HS.out] at tR) | (go_at_call 13; refine tR.mono ?_; clear tR; rintro e w' ⟨rfl, rfl⟩))
  go_ret
  have hB := hB5.trans (hB6.mono hB5.size)
  exact ⟨by simp, hb.trans (hB.mono hb.size)⟩
end Go.Proofs.YtkeklcoandoacaaDoor
