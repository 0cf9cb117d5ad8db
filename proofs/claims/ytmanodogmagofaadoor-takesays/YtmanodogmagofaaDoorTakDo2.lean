/- The document's step that takes or grants, where it is denied. -/
import Derived.WalkKit
import Derived.LoopTactic
import Derived.OwnWalk
import Derived.Deep.QuietTactic
import Derived.BigQuiet
import Derived.Maps.AppendAt
import Derived.Test.YtmanodogmagofaaDoorTakDo
namespace Go.Proofs.YtmanodogmagofaaDoor
open Go.RowKit
set_option maxRecDepth 100000

/-- Where the document's step stands. -/
structure DoAt (w W : World) (s : Stp) (b off : Nat) (B O C : Nat → Nat) (g : Gr) : Prop where
  box : Box5 w W s
  gr : GrAt W b off B O C g
theorem DoAt.drawn {w W : World} {s : Stp} {b off : Nat} {B O C : Nat → Nat} {g : Gr} (h : DoAt w W s b off B O C g) (k : Nat) : DoAt w (W.drewN k) s b off B O C g := ⟨h.box.drawn k, h.gr.drawn k⟩
theorem DoAt.below {w W W' : World} {s : Stp} {b off : Nat} {B O C : Nat → Nat} {g : Gr} (h : DoAt w W s b off B O C g) (k : Below W.heap.size W W') : DoAt w W' s b off B O C g :=
  ⟨⟨keep_cell k h.box.c0, keep_cell k h.box.c1, keep_cell k h.box.c2, keep_cell k h.box.c3, keep_cell k h.box.c4, h.box.bel.trans (k.mono h.box.bel.size)⟩, h.gr.below k⟩
set_option maxHeartbeats 1000000 in
theorem do_self0 {w : World} {g : Gr} {b off : Nat} {B O C : Nat → Nat} (hG0 : GrAt w b off B O C g) (ok : g.Ok) (cp who of to r : Nat) (hq : who < g.n) (ho : of < g.n) (ht : to < g.n) (h1 : 1 ≤ r) (h7 : r ≤ 7) (hs : who = to) :
    Calls Tryd.prog 25 #[.slice (some ⟨b, off, none⟩) g.n cp, stpV ⟨0, who, of, to, r⟩] w (DoIs w g ⟨0, who, of, to, r⟩) := by
  have hc := stepCode_take (g := g) (s := ⟨0, who, of, to, r⟩) (by simp) (by simp; omega) rfl (by simp; omega)
  simp only [Int.toNat_natCast] at hc
  rw [if_pos (.inl (by omega))] at hc
  have HC := Hid.mkI hc
  clear hc
  have hb : ((who : Int) == (to : Int)) = true := by simpa using (show (who : Int) = to by omega)
  have HS := Hid.mkI hs
  clear hs
  have hB := box5_new w ⟨0, who, of, to, r⟩ 56
  obtain ⟨W, hW⟩ : ∃ W, w.alloc (.cells #[.int .i64 0, .int .i64 who, .int .i64 of, .int .i64 to, .int .i64 r] 56) = W := ⟨_, rfl⟩
  rw [hW] at hB
  have hD : DoAt w W ⟨0, who, of, to, r⟩ b off B O C g := ⟨hB, hG0.below hB.bel⟩
  clear hB
  have hn := ok.le
  have tK := fun W => in_yes 0 0 2 (by decide) (by decide) W
  have tU := fun W => in_yes who 0 ((g.n : Int) - 1) (by omega) (by omega) W
  have tO := fun W => in_yes of 0 ((g.n : Int) - 1) (by omega) (by omega) W
  have tT := fun W => in_yes to 0 ((g.n : Int) - 1) (by omega) (by omega) W
  have tR := fun W => in_yes r 1 7 (by omega) (by omega) W
  obtain ⟨⟨c0, c1, c2, c3, c4, hbel⟩, hG⟩ := id hD
  have a1 := hG.top of ho
  have a2 := hG.cell of to ho ht
  have a3 := hG.top who hq
  have a5 := hG.cell who of hq ho
  simp only at c0 c1 c2 c3 c4
  go_enter Tryd.func25, Tryd.ntmps25
  go_wp2_with (first | (go_at_call 24; (with_reducible refine (tK _).mono ?_); clear tK; rintro e w' ⟨rfl, hw⟩; obtain rfl := hw.symm) | (go_at_call 24; (with_reducible refine (tU _).mono ?_); clear tU; rintro e w' ⟨rfl, hw⟩; obtain rfl := hw.symm) | (go_at_call 24; (with_reducible refine (tO _).mono ?_); clear tO; rintro e w' ⟨rfl, hw⟩; obtain rfl := hw.symm) | (go_at_call 24; (with_reducible refine (tT _).mono ?_); clear tT; rintro e w' ⟨rfl, hw⟩; obtain rfl := hw.symm) | (go_at_call 24; (with_reducible refine (tR _).mono ?_); clear tR; rintro e w' ⟨rfl, hw⟩; obtain rfl := hw.symm))
  clear hW
  go_quiet (fail)
  obtain ⟨n1, hn1⟩ : ∃ x : Nat, nq = x := ⟨_, rfl⟩
  rw [hn1]
  clear hn1 nq
  have hD1 := hD.drawn n1
  obtain ⟨W1, hW1⟩ : ∃ x, W.drewN n1 = x := ⟨_, rfl⟩
  rw [hW1] at hD1 ⊢
  clear hW1 hD c0 c1 c2 c3 c4 a1 a2 a3 a5 hG hbel
  obtain ⟨⟨c0, c1, c2, c3, c4, hbel⟩, hG⟩ := id hD1
  have a1 := hG.top of ho
  have a2 := hG.cell of to ho ht
  have a3 := hG.top who hq
  have a5 := hG.cell who of hq ho
  simp only at c0 c1 c2 c3 c4
  go_wp2
  go_quiet (fail)
  go_wp2
  go_ret2
  exact doIs_err _ HC.out (by decide) rfl (below_drawn hbel _)
set_option maxHeartbeats 1000000 in
theorem do_no01 {w : World} {g : Gr} {b off : Nat} {B O C : Nat → Nat} (hG0 : GrAt w b off B O C g) (ok : g.Ok) (cp who of to r : Nat) (hq : who < g.n) (ho : of < g.n) (ht : to < g.n) (h1 : 1 ≤ r) (h7 : r ≤ 7) (hs : who ≠ to) (q1 : hasB (g.M who of) 1 = false) :
    Calls Tryd.prog 25 #[.slice (some ⟨b, off, none⟩) g.n cp, stpV ⟨0, who, of, to, r⟩] w (DoIs w g ⟨0, who, of, to, r⟩) := by
  have hc := stepCode_take (g := g) (s := ⟨0, who, of, to, r⟩) (by simp) (by simp; omega) rfl (by simp; omega)
  simp only [Int.toNat_natCast] at hc
  rw [if_pos (.inr (.inl q1))] at hc
  have HC := Hid.mkI hc
  clear hc
  have hb : ((who : Int) == (to : Int)) = false := by simpa using (show (who : Int) ≠ to by omega)
  have tB := fun W => bit_any (g.M who of) 0 (by have := ok.lt who of; omega) (by decide) W
  rw [hasB_one (ok.lt who of), q1] at tB
  clear q1 hs
  have hB := box5_new w ⟨0, who, of, to, r⟩ 56
  obtain ⟨W, hW⟩ : ∃ W, w.alloc (.cells #[.int .i64 0, .int .i64 who, .int .i64 of, .int .i64 to, .int .i64 r] 56) = W := ⟨_, rfl⟩
  rw [hW] at hB
  have hD : DoAt w W ⟨0, who, of, to, r⟩ b off B O C g := ⟨hB, hG0.below hB.bel⟩
  clear hB
  have hn := ok.le
  have tK := fun W => in_yes 0 0 2 (by decide) (by decide) W
  have tU := fun W => in_yes who 0 ((g.n : Int) - 1) (by omega) (by omega) W
  have tO := fun W => in_yes of 0 ((g.n : Int) - 1) (by omega) (by omega) W
  have tT := fun W => in_yes to 0 ((g.n : Int) - 1) (by omega) (by omega) W
  have tR := fun W => in_yes r 1 7 (by omega) (by omega) W
  obtain ⟨⟨c0, c1, c2, c3, c4, hbel⟩, hG⟩ := id hD
  have a1 := hG.top of ho
  have a2 := hG.cell of to ho ht
  have a3 := hG.top who hq
  have a5 := hG.cell who of hq ho
  simp only at c0 c1 c2 c3 c4
  go_enter Tryd.func25, Tryd.ntmps25
  go_wp2_with (first | (go_at_call 24; (with_reducible refine (tK _).mono ?_); clear tK; rintro e w' ⟨rfl, hw⟩; obtain rfl := hw.symm) | (go_at_call 24; (with_reducible refine (tU _).mono ?_); clear tU; rintro e w' ⟨rfl, hw⟩; obtain rfl := hw.symm) | (go_at_call 24; (with_reducible refine (tO _).mono ?_); clear tO; rintro e w' ⟨rfl, hw⟩; obtain rfl := hw.symm) | (go_at_call 24; (with_reducible refine (tT _).mono ?_); clear tT; rintro e w' ⟨rfl, hw⟩; obtain rfl := hw.symm) | (go_at_call 24; (with_reducible refine (tR _).mono ?_); clear tR; rintro e w' ⟨rfl, hw⟩; obtain rfl := hw.symm))
  clear hW
  go_quiet (fail)
  obtain ⟨n1, hn1⟩ : ∃ x : Nat, nq = x := ⟨_, rfl⟩
  rw [hn1]
  clear hn1 nq
  have hD1 := hD.drawn n1
  obtain ⟨W1, hW1⟩ : ∃ x, W.drewN n1 = x := ⟨_, rfl⟩
  rw [hW1] at hD1 ⊢
  clear hW1 hD c0 c1 c2 c3 c4 a1 a2 a3 a5 hG hbel
  obtain ⟨⟨c0, c1, c2, c3, c4, hbel⟩, hG⟩ := id hD1
  have a1 := hG.top of ho
  have a2 := hG.cell of to ho ht
  have a3 := hG.top who hq
  have a5 := hG.cell who of hq ho
  simp only at c0 c1 c2 c3 c4
  go_wp2
  go_quiet ((go_at_call 37; exact Calls.quiet_of_same (tB _)))
  go_wp2
  go_ret2
  exact doIs_err _ HC.out (by decide) rfl (below_drawn hbel _)
set_option maxHeartbeats 1000000 in
theorem do_no02 {w : World} {g : Gr} {b off : Nat} {B O C : Nat → Nat} (hG0 : GrAt w b off B O C g) (ok : g.Ok) (cp who of to r : Nat) (hq : who < g.n) (ho : of < g.n) (ht : to < g.n) (h1 : 1 ≤ r) (h7 : r ≤ 7) (hs : who ≠ to) (q1 : hasB (g.M who of) 1 = true) (q2 : hasB (g.M of to) r = false) :
    Calls Tryd.prog 25 #[.slice (some ⟨b, off, none⟩) g.n cp, stpV ⟨0, who, of, to, r⟩] w (DoIs w g ⟨0, who, of, to, r⟩) := by
  have hc := stepCode_take (g := g) (s := ⟨0, who, of, to, r⟩) (by simp) (by simp; omega) rfl (by simp; omega)
  simp only [Int.toNat_natCast] at hc
  rw [if_pos (.inr (.inr q2))] at hc
  have HC := Hid.mkI hc
  clear hc
  have hb : ((who : Int) == (to : Int)) = false := by simpa using (show (who : Int) ≠ to by omega)
  have tB := fun W => bit_any (g.M who of) 0 (by have := ok.lt who of; omega) (by decide) W
  rw [hasB_one (ok.lt who of), q1] at tB
  have tW := fun W => within_any r (g.M of to) (by omega) (by have := ok.lt of to; omega) W
  rw [hasB_sub, q2] at tW
  clear q1 hs q2
  have hB := box5_new w ⟨0, who, of, to, r⟩ 56
  obtain ⟨W, hW⟩ : ∃ W, w.alloc (.cells #[.int .i64 0, .int .i64 who, .int .i64 of, .int .i64 to, .int .i64 r] 56) = W := ⟨_, rfl⟩
  rw [hW] at hB
  have hD : DoAt w W ⟨0, who, of, to, r⟩ b off B O C g := ⟨hB, hG0.below hB.bel⟩
  clear hB
  have hn := ok.le
  have tK := fun W => in_yes 0 0 2 (by decide) (by decide) W
  have tU := fun W => in_yes who 0 ((g.n : Int) - 1) (by omega) (by omega) W
  have tO := fun W => in_yes of 0 ((g.n : Int) - 1) (by omega) (by omega) W
  have tT := fun W => in_yes to 0 ((g.n : Int) - 1) (by omega) (by omega) W
  have tR := fun W => in_yes r 1 7 (by omega) (by omega) W
  obtain ⟨⟨c0, c1, c2, c3, c4, hbel⟩, hG⟩ := id hD
  have a1 := hG.top of ho
  have a2 := hG.cell of to ho ht
  have a3 := hG.top who hq
  have a5 := hG.cell who of hq ho
  simp only at c0 c1 c2 c3 c4
  go_enter Tryd.func25, Tryd.ntmps25
  go_wp2_with (first | (go_at_call 24; (with_reducible refine (tK _).mono ?_); clear tK; rintro e w' ⟨rfl, hw⟩; obtain rfl := hw.symm) | (go_at_call 24; (with_reducible refine (tU _).mono ?_); clear tU; rintro e w' ⟨rfl, hw⟩; obtain rfl := hw.symm) | (go_at_call 24; (with_reducible refine (tO _).mono ?_); clear tO; rintro e w' ⟨rfl, hw⟩; obtain rfl := hw.symm) | (go_at_call 24; (with_reducible refine (tT _).mono ?_); clear tT; rintro e w' ⟨rfl, hw⟩; obtain rfl := hw.symm) | (go_at_call 24; (with_reducible refine (tR _).mono ?_); clear tR; rintro e w' ⟨rfl, hw⟩; obtain rfl := hw.symm))
  clear hW
  go_quiet (fail)
  obtain ⟨n1, hn1⟩ : ∃ x : Nat, nq = x := ⟨_, rfl⟩
  rw [hn1]
  clear hn1 nq
  have hD1 := hD.drawn n1
  obtain ⟨W1, hW1⟩ : ∃ x, W.drewN n1 = x := ⟨_, rfl⟩
  rw [hW1] at hD1 ⊢
  clear hW1 hD c0 c1 c2 c3 c4 a1 a2 a3 a5 hG hbel
  obtain ⟨⟨c0, c1, c2, c3, c4, hbel⟩, hG⟩ := id hD1
  have a1 := hG.top of ho
  have a2 := hG.cell of to ho ht
  have a3 := hG.top who hq
  have a5 := hG.cell who of hq ho
  simp only at c0 c1 c2 c3 c4
  go_wp2
  go_quiet ((first | (go_at_call 37; exact Calls.quiet_of_same (tB _)) | (go_at_call 21; exact Calls.quiet_of_same (tW _))))
  go_wp2
  go_ret2
  exact doIs_err _ HC.out (by decide) rfl (below_drawn hbel _)
set_option maxHeartbeats 1000000 in
theorem do_self1 {w : World} {g : Gr} {b off : Nat} {B O C : Nat → Nat} (hG0 : GrAt w b off B O C g) (ok : g.Ok) (cp who of to r : Nat) (hq : who < g.n) (ho : of < g.n) (ht : to < g.n) (h1 : 1 ≤ r) (h7 : r ≤ 7) (hs : of = to) :
    Calls Tryd.prog 25 #[.slice (some ⟨b, off, none⟩) g.n cp, stpV ⟨1, who, of, to, r⟩] w (DoIs w g ⟨1, who, of, to, r⟩) := by
  have hc := stepCode_grant (g := g) (s := ⟨1, who, of, to, r⟩) (by simp) (by simp; omega) rfl (by simp; omega)
  simp only [Int.toNat_natCast] at hc
  rw [if_pos (.inl (by omega))] at hc
  have HC := Hid.mkI hc
  clear hc
  have hb : ((of : Int) == (to : Int)) = true := by simpa using (show (of : Int) = to by omega)
  have HS := Hid.mkI hs
  clear hs
  have hB := box5_new w ⟨1, who, of, to, r⟩ 56
  obtain ⟨W, hW⟩ : ∃ W, w.alloc (.cells #[.int .i64 1, .int .i64 who, .int .i64 of, .int .i64 to, .int .i64 r] 56) = W := ⟨_, rfl⟩
  rw [hW] at hB
  have hD : DoAt w W ⟨1, who, of, to, r⟩ b off B O C g := ⟨hB, hG0.below hB.bel⟩
  clear hB
  have hn := ok.le
  have tK := fun W => in_yes 1 0 2 (by decide) (by decide) W
  have tU := fun W => in_yes who 0 ((g.n : Int) - 1) (by omega) (by omega) W
  have tO := fun W => in_yes of 0 ((g.n : Int) - 1) (by omega) (by omega) W
  have tT := fun W => in_yes to 0 ((g.n : Int) - 1) (by omega) (by omega) W
  have tR := fun W => in_yes r 1 7 (by omega) (by omega) W
  obtain ⟨⟨c0, c1, c2, c3, c4, hbel⟩, hG⟩ := id hD
  have a1 := hG.top of ho
  have a2 := hG.cell of to ho ht
  have a3 := hG.top who hq
  have a5 := hG.cell who of hq ho
  have a4 := hG.cell who to hq ht
  simp only at c0 c1 c2 c3 c4
  go_enter Tryd.func25, Tryd.ntmps25
  go_wp2_with (first | (go_at_call 24; (with_reducible refine (tK _).mono ?_); clear tK; rintro e w' ⟨rfl, hw⟩; obtain rfl := hw.symm) | (go_at_call 24; (with_reducible refine (tU _).mono ?_); clear tU; rintro e w' ⟨rfl, hw⟩; obtain rfl := hw.symm) | (go_at_call 24; (with_reducible refine (tO _).mono ?_); clear tO; rintro e w' ⟨rfl, hw⟩; obtain rfl := hw.symm) | (go_at_call 24; (with_reducible refine (tT _).mono ?_); clear tT; rintro e w' ⟨rfl, hw⟩; obtain rfl := hw.symm) | (go_at_call 24; (with_reducible refine (tR _).mono ?_); clear tR; rintro e w' ⟨rfl, hw⟩; obtain rfl := hw.symm))
  clear hW
  go_quiet (fail)
  obtain ⟨n1, hn1⟩ : ∃ x : Nat, nq = x := ⟨_, rfl⟩
  rw [hn1]
  clear hn1 nq
  have hD1 := hD.drawn n1
  obtain ⟨W1, hW1⟩ : ∃ x, W.drewN n1 = x := ⟨_, rfl⟩
  rw [hW1] at hD1 ⊢
  clear hW1 hD c0 c1 c2 c3 c4 a1 a2 a3 a5 hG hbel a4
  obtain ⟨⟨c0, c1, c2, c3, c4, hbel⟩, hG⟩ := id hD1
  have a1 := hG.top of ho
  have a2 := hG.cell of to ho ht
  have a3 := hG.top who hq
  have a5 := hG.cell who of hq ho
  have a4 := hG.cell who to hq ht
  simp only at c0 c1 c2 c3 c4
  go_wp2
  go_quiet (fail)
  obtain ⟨n2, hn2⟩ : ∃ x : Nat, nq = x := ⟨_, rfl⟩
  rw [hn2]
  clear hn2 nq
  have hD2 := hD1.drawn n2
  obtain ⟨W2, hW2⟩ : ∃ x, W1.drewN n2 = x := ⟨_, rfl⟩
  rw [hW2] at hD2 ⊢
  clear hW2 hD1 c0 c1 c2 c3 c4 a1 a2 a3 a5 hG hbel a4
  obtain ⟨⟨c0, c1, c2, c3, c4, hbel⟩, hG⟩ := id hD2
  have a1 := hG.top of ho
  have a2 := hG.cell of to ho ht
  have a3 := hG.top who hq
  have a5 := hG.cell who of hq ho
  have a4 := hG.cell who to hq ht
  simp only at c0 c1 c2 c3 c4
  go_wp2
  go_quiet (fail)
  go_wp2
  go_ret2
  exact doIs_err _ HC.out (by decide) rfl (below_drawn hbel _)
set_option maxHeartbeats 1000000 in
theorem do_no11 {w : World} {g : Gr} {b off : Nat} {B O C : Nat → Nat} (hG0 : GrAt w b off B O C g) (ok : g.Ok) (cp who of to r : Nat) (hq : who < g.n) (ho : of < g.n) (ht : to < g.n) (h1 : 1 ≤ r) (h7 : r ≤ 7) (hs : of ≠ to) (q1 : hasB (g.M who of) 2 = false) :
    Calls Tryd.prog 25 #[.slice (some ⟨b, off, none⟩) g.n cp, stpV ⟨1, who, of, to, r⟩] w (DoIs w g ⟨1, who, of, to, r⟩) := by
  have hc := stepCode_grant (g := g) (s := ⟨1, who, of, to, r⟩) (by simp) (by simp; omega) rfl (by simp; omega)
  simp only [Int.toNat_natCast] at hc
  rw [if_pos (.inr (.inl q1))] at hc
  have HC := Hid.mkI hc
  clear hc
  have hb : ((of : Int) == (to : Int)) = false := by simpa using (show (of : Int) ≠ to by omega)
  have tB := fun W => bit_any (g.M who of) 1 (by have := ok.lt who of; omega) (by decide) W
  rw [hasB_two (ok.lt who of), q1] at tB
  clear q1 hs
  have hB := box5_new w ⟨1, who, of, to, r⟩ 56
  obtain ⟨W, hW⟩ : ∃ W, w.alloc (.cells #[.int .i64 1, .int .i64 who, .int .i64 of, .int .i64 to, .int .i64 r] 56) = W := ⟨_, rfl⟩
  rw [hW] at hB
  have hD : DoAt w W ⟨1, who, of, to, r⟩ b off B O C g := ⟨hB, hG0.below hB.bel⟩
  clear hB
  have hn := ok.le
  have tK := fun W => in_yes 1 0 2 (by decide) (by decide) W
  have tU := fun W => in_yes who 0 ((g.n : Int) - 1) (by omega) (by omega) W
  have tO := fun W => in_yes of 0 ((g.n : Int) - 1) (by omega) (by omega) W
  have tT := fun W => in_yes to 0 ((g.n : Int) - 1) (by omega) (by omega) W
  have tR := fun W => in_yes r 1 7 (by omega) (by omega) W
  obtain ⟨⟨c0, c1, c2, c3, c4, hbel⟩, hG⟩ := id hD
  have a1 := hG.top of ho
  have a2 := hG.cell of to ho ht
  have a3 := hG.top who hq
  have a5 := hG.cell who of hq ho
  have a4 := hG.cell who to hq ht
  simp only at c0 c1 c2 c3 c4
  go_enter Tryd.func25, Tryd.ntmps25
  go_wp2_with (first | (go_at_call 24; (with_reducible refine (tK _).mono ?_); clear tK; rintro e w' ⟨rfl, hw⟩; obtain rfl := hw.symm) | (go_at_call 24; (with_reducible refine (tU _).mono ?_); clear tU; rintro e w' ⟨rfl, hw⟩; obtain rfl := hw.symm) | (go_at_call 24; (with_reducible refine (tO _).mono ?_); clear tO; rintro e w' ⟨rfl, hw⟩; obtain rfl := hw.symm) | (go_at_call 24; (with_reducible refine (tT _).mono ?_); clear tT; rintro e w' ⟨rfl, hw⟩; obtain rfl := hw.symm) | (go_at_call 24; (with_reducible refine (tR _).mono ?_); clear tR; rintro e w' ⟨rfl, hw⟩; obtain rfl := hw.symm))
  clear hW
  go_quiet (fail)
  obtain ⟨n1, hn1⟩ : ∃ x : Nat, nq = x := ⟨_, rfl⟩
  rw [hn1]
  clear hn1 nq
  have hD1 := hD.drawn n1
  obtain ⟨W1, hW1⟩ : ∃ x, W.drewN n1 = x := ⟨_, rfl⟩
  rw [hW1] at hD1 ⊢
  clear hW1 hD c0 c1 c2 c3 c4 a1 a2 a3 a5 hG hbel a4
  obtain ⟨⟨c0, c1, c2, c3, c4, hbel⟩, hG⟩ := id hD1
  have a1 := hG.top of ho
  have a2 := hG.cell of to ho ht
  have a3 := hG.top who hq
  have a5 := hG.cell who of hq ho
  have a4 := hG.cell who to hq ht
  simp only at c0 c1 c2 c3 c4
  go_wp2
  go_quiet (fail)
  obtain ⟨n2, hn2⟩ : ∃ x : Nat, nq = x := ⟨_, rfl⟩
  rw [hn2]
  clear hn2 nq
  have hD2 := hD1.drawn n2
  obtain ⟨W2, hW2⟩ : ∃ x, W1.drewN n2 = x := ⟨_, rfl⟩
  rw [hW2] at hD2 ⊢
  clear hW2 hD1 c0 c1 c2 c3 c4 a1 a2 a3 a5 hG hbel a4
  obtain ⟨⟨c0, c1, c2, c3, c4, hbel⟩, hG⟩ := id hD2
  have a1 := hG.top of ho
  have a2 := hG.cell of to ho ht
  have a3 := hG.top who hq
  have a5 := hG.cell who of hq ho
  have a4 := hG.cell who to hq ht
  simp only at c0 c1 c2 c3 c4
  go_wp2
  go_quiet ((go_at_call 37; exact Calls.quiet_of_same (tB _)))
  go_wp2
  go_ret2
  exact doIs_err _ HC.out (by decide) rfl (below_drawn hbel _)
set_option maxHeartbeats 1000000 in
theorem do_no12 {w : World} {g : Gr} {b off : Nat} {B O C : Nat → Nat} (hG0 : GrAt w b off B O C g) (ok : g.Ok) (cp who of to r : Nat) (hq : who < g.n) (ho : of < g.n) (ht : to < g.n) (h1 : 1 ≤ r) (h7 : r ≤ 7) (hs : of ≠ to) (q1 : hasB (g.M who of) 2 = true) (q2 : hasB (g.M who to) r = false) :
    Calls Tryd.prog 25 #[.slice (some ⟨b, off, none⟩) g.n cp, stpV ⟨1, who, of, to, r⟩] w (DoIs w g ⟨1, who, of, to, r⟩) := by
  have hc := stepCode_grant (g := g) (s := ⟨1, who, of, to, r⟩) (by simp) (by simp; omega) rfl (by simp; omega)
  simp only [Int.toNat_natCast] at hc
  rw [if_pos (.inr (.inr q2))] at hc
  have HC := Hid.mkI hc
  clear hc
  have hb : ((of : Int) == (to : Int)) = false := by simpa using (show (of : Int) ≠ to by omega)
  have tB := fun W => bit_any (g.M who of) 1 (by have := ok.lt who of; omega) (by decide) W
  rw [hasB_two (ok.lt who of), q1] at tB
  have tW := fun W => within_any r (g.M who to) (by omega) (by have := ok.lt who to; omega) W
  rw [hasB_sub, q2] at tW
  clear q1 hs q2
  have hB := box5_new w ⟨1, who, of, to, r⟩ 56
  obtain ⟨W, hW⟩ : ∃ W, w.alloc (.cells #[.int .i64 1, .int .i64 who, .int .i64 of, .int .i64 to, .int .i64 r] 56) = W := ⟨_, rfl⟩
  rw [hW] at hB
  have hD : DoAt w W ⟨1, who, of, to, r⟩ b off B O C g := ⟨hB, hG0.below hB.bel⟩
  clear hB
  have hn := ok.le
  have tK := fun W => in_yes 1 0 2 (by decide) (by decide) W
  have tU := fun W => in_yes who 0 ((g.n : Int) - 1) (by omega) (by omega) W
  have tO := fun W => in_yes of 0 ((g.n : Int) - 1) (by omega) (by omega) W
  have tT := fun W => in_yes to 0 ((g.n : Int) - 1) (by omega) (by omega) W
  have tR := fun W => in_yes r 1 7 (by omega) (by omega) W
  obtain ⟨⟨c0, c1, c2, c3, c4, hbel⟩, hG⟩ := id hD
  have a1 := hG.top of ho
  have a2 := hG.cell of to ho ht
  have a3 := hG.top who hq
  have a5 := hG.cell who of hq ho
  have a4 := hG.cell who to hq ht
  simp only at c0 c1 c2 c3 c4
  go_enter Tryd.func25, Tryd.ntmps25
  go_wp2_with (first | (go_at_call 24; (with_reducible refine (tK _).mono ?_); clear tK; rintro e w' ⟨rfl, hw⟩; obtain rfl := hw.symm) | (go_at_call 24; (with_reducible refine (tU _).mono ?_); clear tU; rintro e w' ⟨rfl, hw⟩; obtain rfl := hw.symm) | (go_at_call 24; (with_reducible refine (tO _).mono ?_); clear tO; rintro e w' ⟨rfl, hw⟩; obtain rfl := hw.symm) | (go_at_call 24; (with_reducible refine (tT _).mono ?_); clear tT; rintro e w' ⟨rfl, hw⟩; obtain rfl := hw.symm) | (go_at_call 24; (with_reducible refine (tR _).mono ?_); clear tR; rintro e w' ⟨rfl, hw⟩; obtain rfl := hw.symm))
  clear hW
  go_quiet (fail)
  obtain ⟨n1, hn1⟩ : ∃ x : Nat, nq = x := ⟨_, rfl⟩
  rw [hn1]
  clear hn1 nq
  have hD1 := hD.drawn n1
  obtain ⟨W1, hW1⟩ : ∃ x, W.drewN n1 = x := ⟨_, rfl⟩
  rw [hW1] at hD1 ⊢
  clear hW1 hD c0 c1 c2 c3 c4 a1 a2 a3 a5 hG hbel a4
  obtain ⟨⟨c0, c1, c2, c3, c4, hbel⟩, hG⟩ := id hD1
  have a1 := hG.top of ho
  have a2 := hG.cell of to ho ht
  have a3 := hG.top who hq
  have a5 := hG.cell who of hq ho
  have a4 := hG.cell who to hq ht
  simp only at c0 c1 c2 c3 c4
  go_wp2
  go_quiet (fail)
  obtain ⟨n2, hn2⟩ : ∃ x : Nat, nq = x := ⟨_, rfl⟩
  rw [hn2]
  clear hn2 nq
  have hD2 := hD1.drawn n2
  obtain ⟨W2, hW2⟩ : ∃ x, W1.drewN n2 = x := ⟨_, rfl⟩
  rw [hW2] at hD2 ⊢
  clear hW2 hD1 c0 c1 c2 c3 c4 a1 a2 a3 a5 hG hbel a4
  obtain ⟨⟨c0, c1, c2, c3, c4, hbel⟩, hG⟩ := id hD2
  have a1 := hG.top of ho
  have a2 := hG.cell of to ho ht
  have a3 := hG.top who hq
  have a5 := hG.cell who of hq ho
  have a4 := hG.cell who to hq ht
  simp only at c0 c1 c2 c3 c4
  go_wp2
  go_quiet ((first | (go_at_call 37; exact Calls.quiet_of_same (tB _)) | (go_at_call 21; exact Calls.quiet_of_same (tW _))))
  go_wp2
  go_ret2
  exact doIs_err _ HC.out (by decide) rfl (below_drawn hbel _)
end Go.Proofs.YtmanodogmagofaaDoor
