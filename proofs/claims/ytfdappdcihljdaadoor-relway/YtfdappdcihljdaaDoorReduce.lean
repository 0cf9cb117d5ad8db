/- What is told of an order's steps (Reduce). -/
import Derived.WalkKit
import Derived.LoopTactic
import Derived.Test.YtfdappdcihljdaaDoorSteps
namespace Go.Proofs.YtfdappdcihljdaaDoor
open Go.RowKit

theorem Reduce_bad (a : Option Addr) (m cap : Nat) (c : Int) (w : World)
    (hc : Calls Tryd.prog 32 #[.slice a m cap] w fun e w' => e = .returned (.tuple #[.slice none 0 0, .iface 45 (.int .i64 c)]) ∧ w' = w) :
    Calls Tryd.prog 18 #[.slice a m cap] w fun e w' => e = .returned (.tuple #[.slice none 0 0, .iface 45 (.int .i64 c)]) ∧ w' = w := by
  go_enter Tryd.func18, Tryd.ntmps18
  go_wp2_with (go_at_call 32; refine hc.mono ?_; rintro e w' ⟨rfl, rfl⟩)
  go_ret2
  exact ⟨rfl, rfl⟩

theorem Reduce_ring (a : Option Addr) (m cap : Nat) (w : World)
    (hc : Calls Tryd.prog 32 #[.slice a m cap] w fun e w' => e = .returned (.tuple #[.slice none 0 0, .iface 45 (.int .i64 6)]) ∧ Below w.heap.size w w') :
    Calls Tryd.prog 18 #[.slice a m cap] w fun e w' => e = .returned (.tuple #[.slice none 0 0, .iface 45 (.int .i64 6)]) ∧ Below w.heap.size w w' := by
  go_enter Tryd.func18, Tryd.ntmps18
  go_wp2_with (go_at_call 32; refine hc.mono ?_; rintro e w' ⟨rfl, hB⟩)
  go_ret2
  exact ⟨rfl, hB⟩

set_option maxRecDepth 100000 in
set_option maxHeartbeats 1000000 in
theorem Reduce_good (a : Option Addr) (m cap : Nat) (C : Nat → Nat) (hm : m ≤ 12) (hO : Ord m C) (w : World) (hT : Tab w)
    (hc : Calls Tryd.prog 32 #[.slice a m cap] w fun e w' => e = .returned (.tuple #[.slice (some ⟨w.heap.size, 0, none⟩) m m, .nilIface]) ∧ Own w' w.heap.size m C ∧ Below w.heap.size w w') :
    Calls Tryd.prog 18 #[.slice a m cap] w fun e w' => ∃ B, e = .returned (.tuple #[.slice (some ⟨B, 0, none⟩) m m, .nilIface]) ∧ w.heap.size ≤ B ∧ Own w' B m (steps m C) ∧ Below w.heap.size w w' := by
  have h12 := pow12 hm
  have hmk := fun w => make_any w m hm
  have hC12 : ∀ i, i < m → C i < 4096 := fun i hi => Nat.lt_of_lt_of_le (hO.lt i hi) h12
  have hws := fun w1 (ho : Own w1 w.heap.size m C) => withoutSelf_any m w.heap.size m C hm hC12 w1 ho
  clear hC12
  have hsz := hT.size
  go_enter Tryd.func18, Tryd.ntmps18
  go_wp2_with (first | (go_at_call 32; refine hc.mono ?_; rintro e w2 ⟨rfl, ho, hB⟩; have hws1 := hws w2 ho; clear hws) | (go_at_call 33; refine hws1.mono ?_; rintro e w3 ⟨rfl, ho3, hB3⟩))
  have hBb : Below w.heap.size w w3 := hB.trans (hB3.mono hB.size)
  have hmd := Own.made w3 m
  have hBm : Below w3.heap.size w3 (w3.alloc (.cells (madeCells #[.int .i64 0] m) 3)) := (Below.refl _ _).alloc (Nat.le_refl _) _
  have ho4 := ho3.below hBm
  have hBc := hBb.trans (hBm.mono hBb.size)
  have N : Hid (w2.heap.size ≠ w3.heap.size ∧ w.heap.size ≤ w3.heap.size) := ⟨by have := ho3.lt; omega, hBb.size⟩
  clear hB hB3 hBb hBm ho ho3 hws1 hc hmk
  go_loopw [25] (fun i wr => ∃ k : Nat, k ≤ m ∧ i = .int .i64 k ∧ Own wr w2.heap.size m (oth C) ∧ Own wr w3.heap.size m (fun j => if j < k then steps m C j else 0) ∧ Below w.heap.size w wr) (fun i _ => m - (intOf i).toNat)
  case atStart => exact ⟨0, by omega, rfl, ho4, by simpa using hmd, hBc⟩
  case round =>
    obtain ⟨k, hk, rfl, hoo, hod, hB⟩ := hrel
    clear hmd ho4 hBc
    by_cases hlt : k < m
    · have e1 := hoo.cell k hlt
      have lo := hO.olt k hlt
      have hst := step_any m w2.heap.size 0 m (oth C k) (listOf m (oth C)) (listOf_right hm hO.olt) lo wr (hoo.lies fun _ hj => listOf_get _ hj) (hT.below hB hsz)
      have ls := stepN_lt (listOf_right hm hO.olt) (oth C k)
      have hnn := andNot_i64 (oth C k) (stepN m (listOf m (oth C)) (oth C k)) (by omega) (by omega)
      obtain ⟨S, hS⟩ : ∃ S, stepN m (listOf m (oth C)) (oth C k) = S := ⟨_, rfl⟩
      have HS : Hid (less (oth C k) S = steps m C k) := by rw [← hS]; rfl
      rw [hS] at hst hnn
      clear hS ls
      go_wp2_with (go_at_call 34; refine hst.mono ?_; rintro e wn ⟨rfl, hBn⟩; have hod' := hod.below hBn; have hck := hod'.cell k hlt; have hfk := hod'.free k hlt)
      go_roundw
      case rel =>
        refine ⟨k + 1, by omega, by go_num, (hoo.below hBn).other N.out.1, hod'.put hlt (by rw [if_pos (by omega), HS.out]) (fun j hj hne => ?_), (hB.trans (hBn.mono hB.size)).setCell (p := ⟨w3.heap.size, k, none⟩) N.out.2 _⟩
        have e : (j < k + 1) ↔ (j < k) := by omega
        simp only [e]
      case measure => simp [intOf]; omega
    · have ho2 : Own wr w3.heap.size m (steps m C) := ⟨hod.lt, fun j hj => by rw [hod.cell j hj, if_pos (by omega)], hod.free⟩
      clear hod hoo
      go_wp2
      go_ret2
      exact ⟨_, rfl, N.out.2, ho2, hB⟩
end Go.Proofs.YtfdappdcihljdaaDoor
