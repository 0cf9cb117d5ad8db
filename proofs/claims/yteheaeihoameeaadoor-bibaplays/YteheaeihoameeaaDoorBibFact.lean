/- The closed fact of the laws on monitors of package biba (bibaFact). -/
import Derived.WalkKit
import Derived.LoopTactic
import Derived.Test.YteheaeihoameeaaDoorBibStep
import Derived.Test.YteheaeihoameeaaDoorBibNew
import Derived.Test.YteheaeihoameeaaDoorAs
namespace Go.Proofs.YteheaeihoameeaaDoor
open Go.RowKit
set_option maxRecDepth 100000

theorem ErrT.size {w : World} (h : ErrT w) : 0 < w.heap.size := World.block_lt_of_cell? w ⟨0, 0, none⟩ h
theorem ErrT.betw {w w' : World} (h : ErrT w) (hb : Below w.heap.size w w') : ErrT w' := h.below hb h.size
theorem bifact_nums (w : World) : Nums ((w.alloc (.cells #[.int .i64 5] 3)).alloc (.cells #[.int .i64 2, .int .i64 4] 3)) w.heap.size 0 1 [5] ∧ Nums ((w.alloc (.cells #[.int .i64 5] 3)).alloc (.cells #[.int .i64 2, .int .i64 4] 3)) (w.heap.size + 1) 0 2 [2, 4] := by
  have h1 := World.alloc_heap_new w (.cells #[.int .i64 5] 3)
  have h2 := World.alloc_heap_new (w.alloc (.cells #[.int .i64 5] 3)) (.cells #[.int .i64 2, .int .i64 4] 3)
  rw [World.size_alloc] at h2
  have ho : ((w.alloc (.cells #[.int .i64 5] 3)).alloc (.cells #[.int .i64 2, .int .i64 4] 3)).heap[w.heap.size]? = some (.cells #[.int .i64 5] 3) := by
    rw [← h1]
    exact (((Below.refl (w.heap.size + 1) (w.alloc (.cells #[.int .i64 5] 3))).alloc (by simp) _).block _ (by simp))
  refine ⟨⟨by simp; omega, fun i hi => ?_⟩, ⟨by simp, fun i hi => ?_⟩⟩
  · obtain rfl : i = 0 := by omega
    simp only [World.cell?]; rw [ho]; simp
  · rcases (show i = 0 ∨ i = 1 by omega) with rfl | rfl
    all_goals simp only [World.cell?]; rw [h2]; simp
abbrev sB0 : BibSt := newBib 1 2 [5] [2, 4]
abbrev sB1 : BibSt := (askBib sB0 0 0 0).2
abbrev sB2 : BibSt := (askBib sB1 1 0 1).2
theorem bifact_e1 : (askBib sB0 0 0 0).1 = 0 := by rfl
theorem bifact_e2 : (askBib sB1 1 0 1).1 = 7 := by rfl
set_option maxHeartbeats 1000000 in
theorem bibaFact_walk (w : World) (hE : ErrT w) :
    Calls Tryd.prog 15 #[] w fun e w' => e = .returned (.bool true) ∧ Below w.heap.size w w' := by
  have hb : Below w.heap.size w ((w.alloc (.cells #[.int .i64 5] 3)).alloc (.cells #[.int .i64 2, .int .i64 4] 3)) := ((Below.refl _ w).alloc (Nat.le_refl _) _).alloc (by simp) _
  have tN := biNew_walk (some ⟨w.heap.size, 0, none⟩) (some ⟨w.heap.size + 1, 0, none⟩) 1 1 2 2 [5] [2, 4] (by omega) (by omega) _ (.inr ⟨_, _, rfl, (bifact_nums w).1⟩) (.inr ⟨_, _, rfl, (bifact_nums w).2⟩)
    (fun i hi => by obtain rfl : i = 0 := by omega
                    exact ⟨by simp, by simp⟩) (fun i hi => by rcases (show i = 0 ∨ i = 1 by omega) with rfl | rfl <;> exact ⟨by simp, by simp⟩)
  have HS : Hid (sB2.ul 0 = 2) := by rfl
  have HU : Hid (0 < sB2.nu) := Nat.lt_succ_self 0
  have hE2 := hE.betw hb
  obtain ⟨w2, hw2⟩ : ∃ x, (w.alloc (.cells #[.int .i64 5] 3)).alloc (.cells #[.int .i64 2, .int .i64 4] 3) = x := ⟨_, rfl⟩
  rw [hw2] at tN hb hE2
  have A1 := fun n1 B gu gf cu cf au af W (h : BMon w2.heap.size n1 B au af gu gf cu cf W sB0) => biAsk_any h 0 0 0 0
  have A2 := fun n1 B gu gf cu cf au af W (h : BMon w2.heap.size n1 B au af gu gf cu cf W sB1) => biAsk_any h 1 0 1 0
  rw [bifact_e1] at A1
  rw [bifact_e2] at A2
  simp only [errV_zero] at A1
  rw [show errV 7 = .iface 63 (.int .i64 7) from rfl] at A2
  have hs2 : (askBib sB1 1 0 1).2 = sB2 := rfl
  have hs1 : (askBib sB0 0 0 0).2 = sB1 := rfl
  obtain ⟨s2, hs2'⟩ : ∃ x, sB2 = x := ⟨_, rfl⟩
  rw [hs2] at A2
  rw [hs2'] at A2 HS HU
  clear hs2 hs2'
  rw [hs1] at A1
  clear hs1
  obtain ⟨s1, hs1⟩ : ∃ x, sB1 = x := ⟨_, rfl⟩
  rw [hs1] at A1 A2
  clear hs1
  obtain ⟨s0, hs0⟩ : ∃ x, sB0 = x := ⟨_, rfl⟩
  rw [hs0] at A1
  have hs0' : newBib 1 2 [5] [2, 4] = s0 := hs0
  rw [hs0'] at tN
  clear hs0 hs0'
  go_enter Tryd.func15, Tryd.ntmps15
  go_wp2_with (first | (go_at_call 16; refine tN.mono ?_; clear tN; rintro e w3 ⟨B, au, af, gu, gf, cu, cf, rfl, hM, hB3⟩; replace A1 := A1 _ B gu gf cu cf au af w3 hM; replace A2 := A2 w3.heap.size B gu gf cu cf au af) | (go_at_call 17; refine A1.mono ?_; clear A1; rintro e w4 ⟨rfl, hM4, hB4⟩; replace A2 := A2 w4 hM4) | (go_at_call 17; refine A2.mono ?_; clear A2; rintro e w5 ⟨rfl, hM5, hB5⟩; have hBB := hB3.trans (((hB4.below hB3.size).trans ((hB5.below (Nat.le_trans hB3.size hB4.size))))); have tE := error_err 7 7 w5 (hE2.betw hBB)) | (go_at_call 9; refine tE.mono ?_; clear tE; rintro e w6 ⟨rfl, hB6⟩; have tR := level_in (hM5.below hB6) 0 HU.out; rw [HS.out] at tR) | (go_at_call 19; refine tR.mono ?_; clear tR; rintro e w' ⟨rfl, rfl⟩))
  go_ret
  have hB := hBB.trans (hB6.mono hBB.size)
  exact ⟨by simp, hb.trans (hB.mono hb.size)⟩
def BFactIs (w : World) : Prop := ∀ W, Below w.heap.size w W → Calls Tryd.prog 15 #[] W fun e w' => e = .returned (.bool true) ∧ Below W.heap.size W w'
theorem bibaFact_is (w : World) (hE : ErrT w) : BFactIs w := fun W b => bibaFact_walk W (hE.betw b)
end Go.Proofs.YteheaeihoameeaaDoor
