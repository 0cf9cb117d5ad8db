/- The closed fact of the laws on walls (wallFact). -/
import Derived.WalkKit
import Derived.LoopTactic
import Derived.Test.YtkkhcgapfklmjaaDoorWalStep
import Derived.Test.YtkkhcgapfklmjaaDoorWalNew
import Derived.Test.YtkkhcgapfklmjaaDoorAs
namespace Go.Proofs.YtkkhcgapfklmjaaDoor
open Go.RowKit
set_option maxRecDepth 100000

theorem wErrT.size {w : World} (h : ErrT w) : 0 < w.heap.size := World.block_lt_of_cell? w ⟨0, 0, none⟩ h
theorem wErrT.betw {w w' : World} (h : ErrT w) (hb : Below w.heap.size w w') : ErrT w' := h.below hb (wErrT.size h)
theorem wTab.betw {w w' : World} (h : Tab w) (hb : Below w.heap.size w w') : Tab w' := h.below hb h.size
theorem wafact_nums (w : World) : Nums (w.alloc (.cells #[.int .i64 3, .int .i64 3] 3)) w.heap.size 0 2 [3, 3] := by
  have h1 := World.alloc_heap_new w (.cells #[.int .i64 3, .int .i64 3] 3)
  refine ⟨by simp, fun i hi => ?_⟩
  rcases (show i = 0 ∨ i = 1 by omega) with rfl | rfl
  all_goals simp only [World.cell?]; rw [h1]; simp
theorem wafact_lev : AllLev 2 [3, 3] := fun i hi => by rcases (show i = 0 ∨ i = 1 by omega) with rfl | rfl <;> exact ⟨by simp, by simp⟩
abbrev sW0 : WallSt := newWall 1 2 [3, 3]
abbrev sW1 : WallSt := (askWall sW0 0 0 0).2
abbrev sW2 : WallSt := (askWall sW1 0 0 1).2
theorem wafact_e1 : (askWall sW0 0 0 0).1 = 0 := by rfl
theorem wafact_e2 : (askWall sW1 0 0 1).1 = 7 := by rfl
theorem wafact_new (w : World) : Calls Tryd.prog 8 #[.int .i64 1, .slice (some ⟨w.heap.size, 0, none⟩) 2 2] (w.alloc (.cells #[.int .i64 3, .int .i64 3] 3)) fun e w' => ∃ B au af gu gf cu cf, e = .returned (.tuple #[.pointer (some ⟨B, 0, none⟩), .nilIface]) ∧ WMon (w.alloc (.cells #[.int .i64 3, .int .i64 3] 3)).heap.size w'.heap.size B au af gu gf cu cf w' sW0 ∧ Below (w.alloc (.cells #[.int .i64 3, .int .i64 3] 3)).heap.size (w.alloc (.cells #[.int .i64 3, .int .i64 3] 3)) w' := by
  have hA : AtNums (w.alloc (.cells #[.int .i64 3, .int .i64 3] 3)) (some ⟨w.heap.size, 0, none⟩) 2 [3, 3] := .inr ⟨_, _, rfl, wafact_nums w⟩
  rcases waCheck_told (some ⟨w.heap.size, 0, none⟩) 2 2 1 [3, 3] _ hA with ⟨_, _, _, _, t⟩ | ⟨x, hx, hc, _⟩
  · exact waNew_walk _ 1 2 2 [3, 3] (by omega) (by omega) _ hA wafact_lev (t _ (Below.refl _ _))
  · rcases hc with ⟨_, h⟩ | ⟨_, _, ⟨_, h⟩ | ⟨h, _⟩ | ⟨_, _, i, hi, h⟩⟩
    · omega
    · omega
    · exact absurd h hx
    · exact absurd (wafact_lev i hi) h
set_option maxHeartbeats 1000000 in
theorem wallFact_walk (w : World) (hT : Tab w) (hE : ErrT w) :
    Calls Tryd.prog 7 #[] w fun e w' => e = .returned (.bool true) ∧ Below w.heap.size w w' := by
  have hb : Below w.heap.size w (w.alloc (.cells #[.int .i64 3, .int .i64 3] 3)) := (Below.refl _ w).alloc (Nat.le_refl _) _
  have tN := wafact_new w
  have HS : Hid (sW2.saw 0 = 1) := by rfl
  have HU : Hid (0 < sW2.nu) := Nat.lt_succ_self 0
  have hE2 := wErrT.betw hE hb
  have hT2 := wTab.betw hT hb
  have OK0 : Hid (WallOk sW0) := newWall_ok (by omega) (by omega) wafact_lev
  have OK1 : Hid (WallOk sW1) := askWall_ok OK0.out 0 0 0
  obtain ⟨w2, hw2⟩ : ∃ x, w.alloc (.cells #[.int .i64 3, .int .i64 3] 3) = x := ⟨_, rfl⟩
  rw [hw2] at tN hb hE2 hT2
  have hsz := hT2.size
  have A1 := fun n1 B gu gf cu cf au af W (hW : Below w2.heap.size w2 W) (h : WMon w2.heap.size n1 B au af gu gf cu cf W sW0) => waAsk_any h OK0.out (wTab.betw hT2 hW) hsz 0 0 0 0
  have A2 := fun n1 B gu gf cu cf au af W (hW : Below w2.heap.size w2 W) (h : WMon w2.heap.size n1 B au af gu gf cu cf W sW1) => waAsk_any h OK1.out (wTab.betw hT2 hW) hsz 0 0 1 0
  rw [wafact_e1] at A1
  rw [wafact_e2] at A2
  simp only [errV_zero] at A1
  rw [show errV 7 = .iface 50 (.int .i64 7) from rfl] at A2
  have hs2 : (askWall sW1 0 0 1).2 = sW2 := rfl
  have hs1 : (askWall sW0 0 0 0).2 = sW1 := rfl
  obtain ⟨s2, hs2'⟩ : ∃ x, sW2 = x := ⟨_, rfl⟩
  rw [hs2] at A2
  rw [hs2'] at A2 HS HU
  clear hs2 hs2' OK0 OK1
  rw [hs1] at A1
  clear hs1
  obtain ⟨s1, hs1⟩ : ∃ x, sW1 = x := ⟨_, rfl⟩
  rw [hs1] at A1 A2
  clear hs1
  obtain ⟨s0, hs0⟩ : ∃ x, sW0 = x := ⟨_, rfl⟩
  rw [hs0] at A1 tN
  clear hs0
  go_enter Tryd.func7, Tryd.ntmps7
  go_wp2_with (first | (go_at_call 8; refine tN.mono ?_; clear tN; rintro e w3 ⟨B, au, af, gu, gf, cu, cf, rfl, hM, hB3⟩; replace A1 := A1 _ B gu gf cu cf au af w3 hB3 hM; replace A2 := A2 w3.heap.size B gu gf cu cf au af) | (go_at_call 9; refine A1.mono ?_; clear A1; rintro e w4 ⟨rfl, hM4, hB4⟩; replace A2 := A2 w4 (hB3.trans (hB4.below hB3.size)) hM4) | (go_at_call 9; refine A2.mono ?_; clear A2; rintro e w5 ⟨rfl, hM5, hB5⟩; have hBB := hB3.trans (((hB4.below hB3.size).trans ((hB5.below (Nat.le_trans hB3.size hB4.size))))); have tE := error_err 7 7 w5 (wErrT.betw hE2 hBB)) | (go_at_call 14; refine tE.mono ?_; clear tE; rintro e w6 ⟨rfl, hB6⟩; have tR := saw_in (hM5.below hB6) 0 HU.out; rw [HS.out] at tR) | (go_at_call 10; refine tR.mono ?_; clear tR; rintro e w' ⟨rfl, rfl⟩))
  go_ret
  have hB := hBB.trans (hB6.mono hBB.size)
  exact ⟨by simp, hb.trans (hB.mono hb.size)⟩
def WFactIs (w : World) : Prop := ∀ W, Below w.heap.size w W → Calls Tryd.prog 7 #[] W fun e w' => e = .returned (.bool true) ∧ Below W.heap.size W w'
theorem wallFact_is (w : World) (hT : Tab w) (hE : ErrT w) : WFactIs w := fun W b => wallFact_walk W (wTab.betw hT b) (wErrT.betw hE b)
end Go.Proofs.YtkkhcgapfklmjaaDoor
