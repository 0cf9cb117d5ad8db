/- How many things a set has, as the document counts them (Many); the closed fact (rolesFact); and the walk of the law RolesFew. -/
import Derived.WalkKit
import Derived.LoopTactic
import Derived.Deep.QuietTactic
import Derived.BigQuiet
import Derived.Test.YtdmdoikkemfcaaaDoorRolE
namespace Go.Proofs.YtdmdoikkemfcaaaDoor
open Go.RowKit
set_option maxRecDepth 100000

theorem many_gen (P : Nat → Nat) (h0 : Hid (P 0 = 0)) (HS : Hid (∀ y, y < 4096 → P y = y % 2 + P (y / 2))) (x : Nat) (hx : x < 4096) (hp : Hid (P x ≤ 12)) (w : World) :
    Calls Tryd.prog 27 #[.int .i64 x] w fun e w' => e = .returned (.int .i64 (P x : Nat)) ∧ w' = w := by
  go_enter Tryd.func27, Tryd.ntmps27
  go_wp2
  go_loop [0, 3] (fun p q => ∃ (y c : Nat), y ≤ x ∧ p = .int .i64 y ∧ q = .int .i64 c ∧ c ≤ 12 ∧ Hid (c + P y = P x)) (fun p _ => (intOf p).toNat)
  case atStart => exact ⟨x, 0, Nat.le_refl _, rfl, rfl, by omega, Nat.zero_add _⟩
  case round =>
    obtain ⟨y, c, hy, rfl, rfl, hc, HE⟩ := hrel
    by_cases hz : y = 0
    · subst hz
      have HR : Hid (c = P x) := by have := HE.out; rw [h0.out] at this; exact this
      go_wp2
      go_ret
      exact ⟨ret_nat HR.out, rfl⟩
    · have hpos : 0 < (y : Int) := by omega
      have hh := HS.out y (by omega)
      obtain ⟨r, hr⟩ : ∃ r, y % 2 = r := ⟨_, rfl⟩
      rw [hr] at hh
      have hri : (y : Int) % 2 = (r : Int) := by omega
      have hc2 : c + r ≤ 12 := by have := HE.out; have := hp.out; omega
      have HN : Hid (c + r + P (y / 2) = P x) := by have := HE.out; show _ = _; omega
      clear hh hr HE
      go_wp2
      go_round
      case rel => exact ⟨y / 2, c + r, by omega, by go_num, by go_num, hc2, HN⟩
      case measure => simp [intOf]; omega
theorem many_any (x : Nat) (hx : x < 4096) (w : World) :
    Calls Tryd.prog 27 #[.int .i64 x] w fun e w' => e = .returned (.int .i64 (pop x : Nat)) ∧ w' = w :=
  many_gen pop pop_zero (fun y hy => pop_half y (by omega)) x hx (pop_le (m := 12) (by decide) (show x < 2 ^ 12 by omega)) w

/-- One user, two roles, the first one above the other one. -/
def smallR : Rol := ⟨1, [1], 2, [2, 0], 2, [1, 6], 0, 8⟩
theorem small_facts : smallR.code = 0 ∧ smallR.hasC 0 = 0 ∧ smallR.mayN 0 = 7 := by decide +kernel
theorem Nums.mkN {w : World} {b m : Nat} {zs : List Int} (h : Nums w b 0 m zs) : AtNums w (some ⟨b, 0, none⟩) m zs := .inr ⟨b, 0, rfl, h⟩
theorem Nums.below {w w' : World} {b off m : Nat} {zs : List Int} (h : Nums w b off m zs) (hb : Below w.heap.size w w') : Nums w' b off m zs :=
  ⟨Nat.lt_of_lt_of_le h.old hb.size, fun i hi => (hb.cell (p := ⟨b, off + i, none⟩) h.old).trans (h.cell i hi)⟩
theorem nums_one (w : World) (x : Int) (t : TypeId) : Nums (w.alloc (.cells #[.int .i64 x] t)) w.heap.size 0 1 [x] := by
  have h := World.alloc_heap_new w (.cells #[.int .i64 x] t)
  refine ⟨by simp, fun i hi => ?_⟩
  obtain rfl : i = 0 := by omega
  simp only [World.cell?]; rw [h]; simp
theorem nums_two (w : World) (x y : Int) (t : TypeId) : Nums (w.alloc (.cells #[.int .i64 x, .int .i64 y] t)) w.heap.size 0 2 [x, y] := by
  have h := World.alloc_heap_new w (.cells #[.int .i64 x, .int .i64 y] t)
  refine ⟨by simp, fun i hi => ?_⟩
  rcases (show i = 0 ∨ i = 1 by omega) with rfl | rfl <;> simp only [World.cell?] <;> rw [h] <;> simp
theorem small_any (w : World) : Calls Tryd.prog 46 #[] w fun e w' => ∃ aU aA aM cU cA cM, e = .returned (.agg #[.slice aU 1 cU, .slice aA 2 cA, .slice aM 2 cM, .int .i64 0, .int .i64 8]) ∧ AtRol w' aU aA aM smallR ∧ Below w.heap.size w w' := by
  go_enter Tryd.func46, Tryd.ntmps46
  go_wp2
  (try simp only [Exit.inBlock, Exit.then])
  obtain ⟨w1, hw1⟩ : ∃ w1, w.alloc (.cells #[.slice (some ⟨w.heap.size + 1, 0, none⟩) 1 1, .slice (some ⟨w.heap.size + 1 + 1, 0, none⟩) 2 2, .slice (some ⟨w.heap.size + 1 + 1 + 1, 0, none⟩) 2 2, .int .i64 0, .int .i64 8] 39) = w1 := ⟨_, rfl⟩
  have hs1 : w1.heap.size = w.heap.size + 1 := by rw [← hw1]; simp
  have hB1 : Below w.heap.size w w1 := by rw [← hw1]; exact (Below.refl _ w).alloc (Nat.le_refl _) _
  have hx := Box5.new w (.slice (some ⟨w.heap.size + 1, 0, none⟩) 1 1) (.slice (some ⟨w.heap.size + 1 + 1, 0, none⟩) 2 2) (.slice (some ⟨w.heap.size + 1 + 1 + 1, 0, none⟩) 2 2) (.int .i64 0) (.int .i64 8) 39
  rw [hw1] at hx ⊢
  have n1 := nums_one w1 1 3
  have n2 := nums_two (w1.alloc (.cells #[.int .i64 1] 3)) 2 0 3
  have n3 := nums_two ((w1.alloc (.cells #[.int .i64 1] 3)).alloc (.cells #[.int .i64 2, .int .i64 0] 3)) 1 6 3
  have b1 : Below w1.heap.size w1 (w1.alloc (.cells #[.int .i64 1] 3)) := (Below.refl _ _).alloc (Nat.le_refl _) _
  have b2 : Below (w1.alloc (.cells #[.int .i64 1] 3)).heap.size (w1.alloc (.cells #[.int .i64 1] 3)) ((w1.alloc (.cells #[.int .i64 1] 3)).alloc (.cells #[.int .i64 2, .int .i64 0] 3)) := (Below.refl _ _).alloc (Nat.le_refl _) _
  have b3 : Below ((w1.alloc (.cells #[.int .i64 1] 3)).alloc (.cells #[.int .i64 2, .int .i64 0] 3)).heap.size ((w1.alloc (.cells #[.int .i64 1] 3)).alloc (.cells #[.int .i64 2, .int .i64 0] 3)) (((w1.alloc (.cells #[.int .i64 1] 3)).alloc (.cells #[.int .i64 2, .int .i64 0] 3)).alloc (.cells #[.int .i64 1, .int .i64 6] 3)) := (Below.refl _ _).alloc (Nat.le_refl _) _
  have h1 := (n1.below b2).below b3
  have h2 := n2.below b3
  have hbx := ((hx.below b1).below b2).below b3
  have hB : Below w.heap.size w (((w1.alloc (.cells #[.int .i64 1] 3)).alloc (.cells #[.int .i64 2, .int .i64 0] 3)).alloc (.cells #[.int .i64 1, .int .i64 6] 3)) := ((hB1.alloc (by omega) _).alloc (by simp; omega) _).alloc (by simp; omega) _
  simp only [World.size_alloc, hs1] at h1 h2 n3
  obtain ⟨w4, hw4⟩ : ∃ w4, ((w1.alloc (.cells #[.int .i64 1] 3)).alloc (.cells #[.int .i64 2, .int .i64 0] 3)).alloc (.cells #[.int .i64 1, .int .i64 6] 3) = w4 := ⟨_, rfl⟩
  rw [hw4] at h1 h2 n3 hbx hB ⊢
  clear hw4 hx hw1 n1 n2 b1 b2 b3
  refine bodyPost_ret (v := .agg #[.slice (some ⟨w.heap.size + 1, 0, none⟩) 1 1, .slice (some ⟨w.heap.size + 1 + 1, 0, none⟩) 2 2, .slice (some ⟨w.heap.size + 1 + 1 + 1, 0, none⟩) 2 2, .int .i64 0, .int .i64 8]) ?_ rfl ⟨_, _, _, _, _, _, rfl, ⟨h1.mkN, h2.mkN, n3.mkN, by decide, by decide, by decide⟩, hB⟩
  obtain ⟨y0, y1, y2, y3, y4⟩ := hbx
  simp [results, Tryd.f46, go_sem, y0, y1, y2, y3, y4]
theorem rolesFact_any (w : World) (hT : Tab w) : Calls Tryd.prog 24 #[] w fun e w' => e = .returned (.bool true) ∧ Below w.heap.size w w' := by
  have t0 := small_any w
  have t1 := fun aU aA aM cU cA cM W (h : AtRol W aU aA aM smallR) (hb : Below w.heap.size w W) => rmay_any aU aA aM cU cA cM smallR 0 W h (hT.below hb hT.size)
  rw [small_facts.2.1, small_facts.2.2, errV_zero] at t1
  have t1' : ∀ aU aA aM cU cA cM W, AtRol W aU aA aM smallR → Below w.heap.size w W → Calls Tryd.prog 20 #[.agg #[.slice aU 1 cU, .slice aA 2 cA, .slice aM 2 cM, .int .i64 0, .int .i64 8], .int .i64 0] W fun e w' => e = .returned (.tuple #[.int .i64 7, .nilIface]) ∧ Below W.heap.size W w' := fun aU aA aM cU cA cM W h hb => t1 aU aA aM cU cA cM W h hb
  clear t1
  go_enter Tryd.func24, Tryd.ntmps24
  go_wp2_with fail
  refine t0.mono ?_
  clear t0
  rintro e w1 ⟨aU, aA, aM, cU, cA, cM, rfl, hA, hB⟩
  have t2 := t1' aU aA aM cU cA cM w1 hA hB
  clear t1' hA
  go_wp2_with (go_at_call 20; (with_reducible refine t2.mono ?_); rintro e w2 ⟨rfl, hB2⟩)
  go_ret
  exact ⟨rfl, hB.trans (hB2.mono hB.size)⟩

/-- Nobody has more than Most of the roles in Few. -/
theorem few_le {R : Rol} (h : R.Ok) {u : Nat} (hu : u < R.mu) : (pop (R.has (R.own u) &&& R.few.toNat) : Int) ≤ R.most := by
  have := h.over
  unfold Rol.over at this
  rw [List.any_eq_false] at this
  have q := this u (List.mem_range.2 hu)
  unfold Rol.overU at q
  simp only [decide_eq_true_eq] at q
  omega
theorem hasC_zero {R : Rol} {user : Int} (hc : R.hasC user = 0) : R.Ok ∧ ∃ u : Nat, user = u ∧ u < R.mu := by
  unfold Rol.hasC at hc
  split at hc
  · rename_i h0
    refine ⟨Rol.ok_of h0, ?_⟩
    split at hc
    · rename_i h1; exact inB_at h1
    · omega
  · rename_i h0; exact absurd hc h0

end Go.Proofs.YtdmdoikkemfcaaaDoor
