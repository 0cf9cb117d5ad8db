/- Roles with one user, or with one user's roles put anew. -/
import Derived.WalkKit
import Derived.Test.YtdmdoikkemfcaaaDoorRolG
import Derived.Test.YtdmdoikkemfcaaaDoorRolH
namespace Go.Proofs.YtdmdoikkemfcaaaDoor
open Go.RowKit
set_option maxRecDepth 100000

/-- One user who has some roles, and whose roles are not told apart. -/
def Rol.one (R : Rol) (n : Nat) : Rol := ⟨1, [(n : Int)], R.m, R.ab, R.mm, R.ma, 0, 8⟩
section
variable {R : Rol}
theorem Rol.one_ok (h : R.Ok) {n : Nat} (hn : n < 2 ^ R.m) : (R.one n).Ok where
  mu8 := by show 1 ≤ 8; omega
  m8 := h.m8
  mm := h.mm
  us := fun i hi => by
    have hi1 : i < 1 := hi
    obtain rfl : i = 0 := by omega
    exact ⟨by show 0 ≤ (n : Int); omega, by show (n : Int) < ((2 ^ R.m : Nat) : Int); omega⟩
  ab := h.ab
  ring := h.ring
  ma := h.ma
  few := ⟨Int.le_refl 0, by show (0 : Int) < ((2 ^ R.m : Nat) : Int); have := Nat.two_pow_pos R.m; omega⟩
  m0 := by show (0 : Int) ≤ 8; decide
  m1 := by show (8 : Int) ≤ 8; decide
  over := over_no fun i _ => by
    show decide ((8 : Int) < (pop ((R.one n).has ((R.one n).own i) &&& (0 : Int).toNat) : Nat)) = false
    rw [show (0 : Int).toNat = 0 from rfl, Nat.and_zero, pop_zero]
    decide
theorem Rol.one_may (h : R.Ok) {n : Nat} (hn : n < 2 ^ R.m) : (R.one n).mayN 0 = R.tasks n := (Rol.mayN_in (u := 0) (Rol.one_ok h hn) (by show 0 < 1; omega)).trans rfl
theorem Rol.one_hasC (h : R.Ok) {n : Nat} (hn : n < 2 ^ R.m) : (R.one n).hasC 0 = 0 := Rol.hasC_in (u := 0) (Rol.one_ok h hn) (by show 0 < 1; omega)
theorem one_nums {W : World} {B : Nat} {x : Int} (h : W.cell? ⟨B, 0, none⟩ = some (.int .i64 x)) : AtNums W (some ⟨B, 0, none⟩) 1 [x] :=
  .inr ⟨B, 0, rfl, old_of_cell h, fun i hi => by obtain rfl : i = 0 := by omega
                                                 exact h⟩
theorem one_at {W : World} {B : Nat} {aA aM : Option Addr} {n : Nat} (h : W.cell? ⟨B, 0, none⟩ = some (.int .i64 (n : Int))) (ha : AtNums W aA R.m R.ab) (hm : AtNums W aM R.mm R.ma) (la : R.m ≤ R.ab.length) (lm : R.mm ≤ R.ma.length) : AtRol W (some ⟨B, 0, none⟩) aA aM (R.one n) :=
  ⟨one_nums h, ha, hm, by show 1 ≤ [(n : Int)].length; simp, la, lm⟩
theorem needC_zero {user want : Int} (hc : R.needC user want = 0) : R.Ok ∧ ∃ u k : Nat, user = u ∧ want = k ∧ u < R.mu ∧ k < 1024 ∧ subB k (R.tasks (R.has (R.own u))) = true := by
  unfold Rol.needC at hc
  split at hc
  · rename_i h0
    split at hc
    · rename_i h1
      obtain ⟨u, rfl, hu⟩ := inB_at h1.1
      have hg := (goodB_iff 10 want).1 h1.2
      obtain ⟨k, rfl⟩ : ∃ k : Nat, want = k := ⟨want.toNat, by have := hg.1; omega⟩
      split at hc
      · rename_i h2
        rw [Int.toNat_natCast, Int.toNat_natCast] at h2
        exact ⟨Rol.ok_of h0, u, k, rfl, rfl, hu, by have := hg.2; omega, h2⟩
      · omega
    · omega
  · rename_i h0; exact absurd hc h0
theorem need_few (h : R.Ok) (hz : R.m ≤ R.ab.length) {u k : Nat} (q : subB k (R.tasks (R.has (R.own u))) = true) : IsFew (R.okB (R.has (R.own u)) k) (R.need u k) := by
  have h8 := pow8 h.m8
  have hl := h.has_lt hz (R.own u)
  exact fewN_few (by omega) (by unfold Rol.okB; rw [sub_refl, q]; rfl) (Rol.ok_sub R _ _)
end
end Go.Proofs.YtdmdoikkemfcaaaDoor
