/- How many things a set has, as the document counts them (Many); the closed fact (rolesFact); and the walk of the law RolesFew. -/
import Derived.WalkKit
import Derived.LoopTactic
import Derived.Deep.QuietTactic
import Derived.BigQuiet
import Derived.Test.YtolpkjemgdapgaaDoorRolE
namespace Go.Proofs.YtolpkjemgdapgaaDoor
open Go.RowKit
set_option maxRecDepth 100000

theorem many_gen (P : Nat → Nat) (h0 : Hid (P 0 = 0)) (HS : Hid (∀ y, y < 4096 → P y = y % 2 + P (y / 2))) (x : Nat) (hx : x < 4096) (hp : Hid (P x ≤ 12)) (w : World) :
    Calls Tryd.prog 6 #[.int .i64 x] w fun e w' => e = .returned (.int .i64 (P x : Nat)) ∧ w' = w := by
  go_enter Tryd.func6, Tryd.ntmps6
  go_wp2
  go_loop [0, 3] (fun p q => ∃ (y c : Nat), y ≤ x ∧ p = .int .i64 y ∧ q = .int .i64 c ∧ c ≤ 12 ∧ Hid (c + P y = P x)) (fun p _ => (intOf p).toNat)
  case atStart => exact ⟨x, 0, Nat.le_refl _, rfl, rfl, by omega, Nat.zero_add _⟩
  case round =>
    obtain ⟨y, c, hy, rfl, rfl, hc, HE⟩ := hrel
    by_cases hz : y = 0
    · subst hz
      have HR : Hid (c = P x) := by have := HE.out; rw [h0.out] at this; exact this
      go_wp2
      go_ret
      exact ⟨ret_nat HR.out, rfl⟩
    · have hpos : 0 < (y : Int) := by omega
      have hh := HS.out y (by omega)
      obtain ⟨r, hr⟩ : ∃ r, y % 2 = r := ⟨_, rfl⟩
      rw [hr] at hh
      have hri : (y : Int) % 2 = (r : Int) := by omega
      have hc2 : c + r ≤ 12 := by have := HE.out; have := hp.out; omega
      have HN : Hid (c + r + P (y / 2) = P x) := by have := HE.out; show _ = _; omega
      clear hh hr HE
      go_wp2
      go_round
      case rel => exact ⟨y / 2, c + r, by omega, by go_num, by go_num, hc2, HN⟩
      case measure => simp [intOf]; omega
theorem many_any (x : Nat) (hx : x < 4096) (w : World) :
    Calls Tryd.prog 6 #[.int .i64 x] w fun e w' => e = .returned (.int .i64 (pop x : Nat)) ∧ w' = w :=
  many_gen pop pop_zero (fun y hy => pop_half y (by omega)) x hx (pop_le (m := 12) (by decide) (show x < 2 ^ 12 by omega)) w

/-- One user, two roles, the first one above the other one. -/
def smallR : Rol := ⟨1, [1], 2, [2, 0], 2, [1, 6], 0, 8⟩
theorem small_facts : smallR.code = 0 ∧ smallR.hasC 0 = 0 ∧ smallR.mayN 0 = 7 := by decide +kernel
theorem Nums.mkN {w : World} {b m : Nat} {zs : List Int} (h : Nums w b 0 m zs) : AtNums w (some ⟨b, 0, none⟩) m zs := .inr ⟨b, 0, rfl, h⟩
theorem Nums.below {w w' : World} {b off m : Nat} {zs : List Int} (h : Nums w b off m zs) (hb : Below w.heap.size w w') : Nums w' b off m zs :=
  ⟨Nat.lt_of_lt_of_le h.old hb.size, fun i hi => (hb.cell (p := ⟨b, off + i, none⟩) h.old).trans (h.cell i hi)⟩
theorem nums_one (w : World) (x : Int) (t : TypeId) : Nums (w.alloc (.cells #[.int .i64 x] t)) w.heap.size 0 1 [x] := by
  have h := World.alloc_heap_new w (.cells #[.int .i64 x] t)
  refine ⟨by simp, fun i hi => ?_⟩
  obtain rfl : i = 0 := by omega
  simp only [World.cell?]; rw [h]; simp
theorem nums_two (w : World) (x y : Int) (t : TypeId) : Nums (w.alloc (.cells #[.int .i64 x, .int .i64 y] t)) w.heap.size 0 2 [x, y] := by
  have h := World.alloc_heap_new w (.cells #[.int .i64 x, .int .i64 y] t)
  refine ⟨by simp, fun i hi => ?_⟩
  rcases (show i = 0 ∨ i = 1 by omega) with rfl | rfl <;> simp only [World.cell?] <;> rw [h] <;> simp
theorem small_any (w : World) : Calls Tryd.prog 9 #[] w fun e w' => ∃ aU aA aM cU cA cM, e = .returned (.agg #[.slice aU 1 cU, .slice aA 2 cA, .slice aM 2 cM, .int .i64 0, .int .i64 8]) ∧ AtRol w' aU aA aM smallR ∧ Below w.heap.size w w' := by
  go_enter Tryd.func9, Tryd.ntmps9
  go_wp2
  (try simp only [Exit.inBlock, Exit.then])
  obtain ⟨w1, hw1⟩ : ∃ w1, w.alloc (.cells #[.slice (some ⟨w.heap.size + 1, 0, none⟩) 1 1, .slice (some ⟨w.heap.size + 1 + 1, 0, none⟩) 2 2, .slice (some ⟨w.heap.size + 1 + 1 + 1, 0, none⟩) 2 2, .int .i64 0, .int .i64 8] 24) = w1 := ⟨_, rfl⟩
  have hs1 : w1.heap.size = w.heap.size + 1 := by rw [← hw1]; simp
  have hB1 : Below w.heap.size w w1 := by rw [← hw1]; exact (Below.refl _ w).alloc (Nat.le_refl _) _
  have hx := Box5.new w (.slice (some ⟨w.heap.size + 1, 0, none⟩) 1 1) (.slice (some ⟨w.heap.size + 1 + 1, 0, none⟩) 2 2) (.slice (some ⟨w.heap.size + 1 + 1 + 1, 0, none⟩) 2 2) (.int .i64 0) (.int .i64 8) 24
  rw [hw1] at hx ⊢
  have n1 := nums_one w1 1 3
  have n2 := nums_two (w1.alloc (.cells #[.int .i64 1] 3)) 2 0 3
  have n3 := nums_two ((w1.alloc (.cells #[.int .i64 1] 3)).alloc (.cells #[.int .i64 2, .int .i64 0] 3)) 1 6 3
  have b1 : Below w1.heap.size w1 (w1.alloc (.cells #[.int .i64 1] 3)) := (Below.refl _ _).alloc (Nat.le_refl _) _
  have b2 : Below (w1.alloc (.cells #[.int .i64 1] 3)).heap.size (w1.alloc (.cells #[.int .i64 1] 3)) ((w1.alloc (.cells #[.int .i64 1] 3)).alloc (.cells #[.int .i64 2, .int .i64 0] 3)) := (Below.refl _ _).alloc (Nat.le_refl _) _
  have b3 : Below ((w1.alloc (.cells #[.int .i64 1] 3)).alloc (.cells #[.int .i64 2, .int .i64 0] 3)).heap.size ((w1.alloc (.cells #[.int .i64 1] 3)).alloc (.cells #[.int .i64 2, .int .i64 0] 3)) (((w1.alloc (.cells #[.int .i64 1] 3)).alloc (.cells #[.int .i64 2, .int .i64 0] 3)).alloc (.cells #[.int .i64 1, .int .i64 6] 3)) := (Below.refl _ _).alloc (Nat.le_refl _) _
  have h1 := (n1.below b2).below b3
  have h2 := n2.below b3
  have hbx := ((hx.below b1).below b2).below b3
  have hB : Below w.heap.size w (((w1.alloc (.cells #[.int .i64 1] 3)).alloc (.cells #[.int .i64 2, .int .i64 0] 3)).alloc (.cells #[.int .i64 1, .int .i64 6] 3)) := ((hB1.alloc (by omega) _).alloc (by simp; omega) _).alloc (by simp; omega) _
  simp only [World.size_alloc, hs1] at h1 h2 n3
  obtain ⟨w4, hw4⟩ : ∃ w4, ((w1.alloc (.cells #[.int .i64 1] 3)).alloc (.cells #[.int .i64 2, .int .i64 0] 3)).alloc (.cells #[.int .i64 1, .int .i64 6] 3) = w4 := ⟨_, rfl⟩
  rw [hw4] at h1 h2 n3 hbx hB ⊢
  clear hw4 hx hw1 n1 n2 b1 b2 b3
  refine bodyPost_ret (v := .agg #[.slice (some ⟨w.heap.size + 1, 0, none⟩) 1 1, .slice (some ⟨w.heap.size + 1 + 1, 0, none⟩) 2 2, .slice (some ⟨w.heap.size + 1 + 1 + 1, 0, none⟩) 2 2, .int .i64 0, .int .i64 8]) ?_ rfl ⟨_, _, _, _, _, _, rfl, ⟨h1.mkN, h2.mkN, n3.mkN, by decide, by decide, by decide⟩, hB⟩
  obtain ⟨y0, y1, y2, y3, y4⟩ := hbx
  simp [results, Tryd.f9, go_sem, y0, y1, y2, y3, y4]
theorem rolesFact_any (w : World) (hT : Tab w) : Calls Tryd.prog 4 #[] w fun e w' => e = .returned (.bool true) ∧ Below w.heap.size w w' := by
  have t0 := small_any w
  have t1 := fun aU aA aM cU cA cM W (h : AtRol W aU aA aM smallR) (hb : Below w.heap.size w W) => rmay_any aU aA aM cU cA cM smallR 0 W h (hT.below hb hT.size)
  rw [small_facts.2.1, small_facts.2.2, errV_zero] at t1
  have t1' : ∀ aU aA aM cU cA cM W, AtRol W aU aA aM smallR → Below w.heap.size w W → Calls Tryd.prog 8 #[.agg #[.slice aU 1 cU, .slice aA 2 cA, .slice aM 2 cM, .int .i64 0, .int .i64 8], .int .i64 0] W fun e w' => e = .returned (.tuple #[.int .i64 7, .nilIface]) ∧ Below W.heap.size W w' := fun aU aA aM cU cA cM W h hb => t1 aU aA aM cU cA cM W h hb
  clear t1
  go_enter Tryd.func4, Tryd.ntmps4
  go_wp2_with fail
  refine t0.mono ?_
  clear t0
  rintro e w1 ⟨aU, aA, aM, cU, cA, cM, rfl, hA, hB⟩
  have t2 := t1' aU aA aM cU cA cM w1 hA hB
  clear t1' hA
  go_wp2_with (go_at_call 8; (with_reducible refine t2.mono ?_); rintro e w2 ⟨rfl, hB2⟩)
  go_ret
  exact ⟨rfl, hB.trans (hB2.mono hB.size)⟩

/-- Nobody has more than Most of the roles in Few. -/
theorem few_le {R : Rol} (h : R.Ok) {u : Nat} (hu : u < R.mu) : (pop (R.has (R.own u) &&& R.few.toNat) : Int) ≤ R.most := by
  have := h.over
  unfold Rol.over at this
  rw [List.any_eq_false] at this
  have q := this u (List.mem_range.2 hu)
  unfold Rol.overU at q
  simp only [decide_eq_true_eq] at q
  omega
theorem hasC_zero {R : Rol} {user : Int} (hc : R.hasC user = 0) : R.Ok ∧ ∃ u : Nat, user = u ∧ u < R.mu := by
  unfold Rol.hasC at hc
  split at hc
  · rename_i h0
    refine ⟨Rol.ok_of h0, ?_⟩
    split at hc
    · rename_i h1; exact inB_at h1
    · omega
  · rename_i h0; exact absurd hc h0

set_option maxHeartbeats 4000000 in
theorem rolesFew_any (aU aA aM : Option Addr) (cU cA cM : Nat) (R : Rol) (user : Int) (w : World) (hA : AtRol w aU aA aM R) (hT : Tab w) :
    Calls Tryd.prog 3 #[rolV aU aA aM cU cA cM R, .int .i64 user] w fun e w' => e = .returned (.bool true) ∧ Below w.heap.size w w' := by
  obtain ⟨w1, hw1⟩ : ∃ w1, w.alloc (.cells #[.slice aU R.mu cU, .slice aA R.m cA, .slice aM R.mm cM, .int .i64 R.few, .int .i64 R.most] 24) = w1 := ⟨_, rfl⟩
  have hB0 : Below w.heap.size w w1 := by rw [← hw1]; exact (Below.refl _ w).alloc (Nat.le_refl _) _
  have hx : Box5 w1 w.heap.size (.slice aU R.mu cU) (.slice aA R.m cA) (.slice aM R.mm cM) (.int .i64 R.few) (.int .i64 R.most) := by rw [← hw1]; exact Box5.new _ _ _ _ _ _ _
  have hA1 := hA.below hB0
  have hT1 := hT.below hB0 hT.size
  have HX := Hid.mkI hx
  have t0 := rolesFact_any w1 hT1
  have t1 := fun W (hb : Below w1.heap.size w1 W) => rhas_any aU aA aM cU cA cM R user W (hA1.below hb) (hT1.below hb hT1.size)
  by_cases hc : R.hasC user = 0
  · obtain ⟨hk, u, rfl, hu⟩ := hasC_zero hc
    rw [Rol.hasN_in hk hu, hc, errV_zero] at t1
    have hl := hk.has_lt hA1.la (R.own u)
    have h8 := pow8 hk.m8
    obtain ⟨few, hfew⟩ : ∃ f : Nat, R.few = (f : Int) := ⟨R.few.toNat, by have := hk.few.1; omega⟩
    have hfl : few < 256 := by have := hk.few.2; omega
    have hle := few_le hk hu
    rw [hfew, Int.toNat_natCast] at hle
    obtain ⟨x, hxe⟩ : ∃ x, R.has (R.own u) = x := ⟨_, rfl⟩
    rw [hxe] at t1 hl hle
    have t2 := fun W => both_any x few (by omega) (by omega) W
    have hz : x &&& few < 4096 := Nat.lt_of_le_of_lt Nat.and_le_left (by omega)
    have t3 := fun W => many_any (x &&& few) hz W
    obtain ⟨z, hze⟩ : ∃ z, x &&& few = z := ⟨_, rfl⟩
    rw [hze] at t2 t3 hle
    obtain ⟨c, hce⟩ : ∃ c, pop z = c := ⟨_, rfl⟩
    rw [hce] at t3 hle
    have hx0 : (0 : Int) ≤ (x : Int) := by omega
    have hx1 : (x : Int) ≤ 255 := by omega
    obtain ⟨most, hmo⟩ : ∃ m, R.most = m := ⟨_, rfl⟩
    unfold rolV at t1
    rw [hfew, hmo] at hx hw1 t1
    rw [hmo] at hle
    show Calls _ _ #[.agg #[.slice aU R.mu cU, .slice aA R.m cA, .slice aM R.mm cM, .int .i64 R.few, .int .i64 R.most], _] _ _
    rw [hfew, hmo]
    obtain ⟨x0, x1, x2, x3, x4⟩ := id hx
    have HX := Hid.mkI hx
    have HO := Hid.mkI hB0
    clear hA hT hA1 hT1 hc hk hxe hze hce hz hl h8 hfew hfl hmo hx hB0
    go_enter Tryd.func3, Tryd.ntmps3
    go_wp2_with (first | (go_at_call 4; (with_reducible refine t0.mono ?_); clear t0; rintro e w2 ⟨rfl, hB2⟩; obtain ⟨y0, y1, y2, y3, y4⟩ := HX.out.below hB2; have t1 := t1 _ hB2) | (go_at_call 5; (with_reducible refine t1.mono ?_); clear t1; rintro e w3 ⟨rfl, hB3⟩; have hB4 := hB2.trans (hB3.mono hB2.size); obtain ⟨z0, z1, z2, z3, z4⟩ := HX.out.below hB4))
    go_quiet ((first | (go_at_call 7; with_reducible exact Calls.quiet_of_same (t2 _)) | (go_at_call 6; with_reducible exact Calls.quiet_of_same (t3 _))))
    go_wp2
    go_ret
    exact ⟨rfl, HO.out.trans ((below_drawn hB4 _).mono HO.out.size)⟩
  · rw [Rol.hasN_no hc, errV_ne hc] at t1
    obtain ⟨x0, x1, x2, x3, x4⟩ := id hx
    obtain ⟨c, hcc⟩ : ∃ c, R.hasC user = c := ⟨_, rfl⟩
    rw [hcc] at t1
    clear hA hT hA1 hT1 hc hcc
    go_enter Tryd.func3, Tryd.ntmps3
    go_wp2_with (first | (go_at_call 4; (with_reducible refine t0.mono ?_); clear t0; rintro e w2 ⟨rfl, hB2⟩; obtain ⟨y0, y1, y2, y3, y4⟩ := HX.out.below hB2; have t1 := t1 _ hB2) | (go_at_call 5; (with_reducible refine t1.mono ?_); clear t1; rintro e w3 ⟨rfl, hB3⟩; have hB4 := hB2.trans (hB3.mono hB2.size)))
    go_ret
    exact ⟨rfl, hB0.trans (hB4.mono hB0.size)⟩
end Go.Proofs.YtolpkjemgdapgaaDoor
