/- Whether two lists are the same (Ints); what the closure of any relation is (Closure); the closed fact. -/
import Derived.WalkKit
import Derived.LoopTactic
import Derived.Deep.QuietTactic
import Derived.BigQuiet
import Derived.Test.YtoecomgiggalkaaDoorCheck
namespace Go.Proofs.YtoecomgiggalkaaDoor
open Go.RowKit

theorem ints_diff (a1 a2 : Option Addr) (m1 m2 c1 c2 : Nat) (h : ((m1 : Int) != (m2 : Int)) = true) (w : World) :
    Calls Tryd.prog 14 #[.slice a1 m1 c1, .slice a2 m2 c2] w fun e w' => e = .returned (.bool false) ∧ w' = w := by
  go_enter Tryd.func14, Tryd.ntmps14
  go_wp2
  go_ret
  exact ⟨rfl, rfl⟩

theorem ints_none (a1 a2 : Option Addr) (c1 c2 : Nat) (w : World) :
    Calls Tryd.prog 14 #[.slice a1 0 c1, .slice a2 0 c2] w fun e w' => e = .returned (.bool true) ∧ w' = w := by
  go_enter Tryd.func14, Tryd.ntmps14
  go_wp2
  go_loop [5] (fun i => i = .int .i64 0) (fun _ => 0)
  case atStart => rfl
  case round =>
    obtain rfl := hrel
    go_wp2
    go_ret
    exact ⟨rfl, rfl⟩

set_option maxHeartbeats 400000 in
theorem ints_some (b1 o1 c1 b2 o2 c2 m : Nat) (hm : m ≤ 4096) (xs ys : List Nat) (w : World) (h1 : Lies w b1 o1 m xs) (h2 : Lies w b2 o2 m ys) :
    Calls Tryd.prog 14 #[.slice (some ⟨b1, o1, none⟩) m c1, .slice (some ⟨b2, o2, none⟩) m c2] w fun e w' => e = .returned (.bool (sameB m xs ys)) ∧ ∃ n, w' = w.drewN n := by
  go_enter Tryd.func14, Tryd.ntmps14
  go_wp2
  go_loopw [5] (fun i wr => ∃ k : Nat, k ≤ m ∧ i = .int .i64 k ∧ Hid (∀ j, j < k → xs.getD j 0 = ys.getD j 0) ∧ ∃ n, wr = w.drewN n) (fun i _ => m - (intOf i).toNat)
  case atStart => exact ⟨0, by omega, rfl, fun j h => absurd h (by omega), 0, rfl⟩
  case round =>
    obtain ⟨k, hk, rfl, HG, n, rfl⟩ := hrel
    by_cases hlt : k < m
    · have e1 := h1.cell k hlt
      have e2 := h2.cell k hlt
      have hi : (k : Int) < (m : Int) := by omega
      rw [List.getD_eq_getElem?_getD] at e1 e2
      by_cases he : xs[k]?.getD 0 = ys[k]?.getD 0
      · have HE : Hid (xs[k]?.getD 0 = ys[k]?.getD 0) := he
        have hb : (((xs[k]?.getD 0 : Nat) : Int) != ((ys[k]?.getD 0 : Nat) : Int)) = false := by simp [he]
        clear he
        go_wp2
        go_quiet (fail)
        go_wp2
        go_roundw
        case rel => exact ⟨k + 1, by omega, by go_num, fun j hj => by
          by_cases e : j = k
          · subst e; simpa [List.getD_eq_getElem?_getD] using HE.out
          · exact HG.out j (by omega), _, rfl⟩
        case measure => simp [intOf]; omega
      · have hb : (((xs[k]?.getD 0 : Nat) : Int) != ((ys[k]?.getD 0 : Nat) : Int)) = true := by simp; omega
        have hend : Hid (sameB m xs ys = false) := by
          cases hs : sameB m xs ys with
          | false => rfl
          | true => exact absurd ((sameB_iff m xs ys).1 hs k hlt) (by simpa [List.getD_eq_getElem?_getD] using he)
        clear he
        go_wp2
        go_quiet (fail)
        go_wp2
        go_ret
        exact ⟨ret_bool hend.out.symm, _, World.drewN_drewN ..⟩
    · have hend : Hid (sameB m xs ys = true) := (sameB_iff m xs ys).2 fun j hj => HG.out j (by omega)
      go_wp2
      go_ret
      exact ⟨ret_bool hend.out.symm, _, rfl⟩

/-- The rows of m numbers that are sets. -/
def rowsOf (m : Nat) (zs : List Int) : List Nat := (zs.take m).map Int.toNat
theorem rowsOf_get {m : Nat} {zs : List Int} (h : ∀ i, i < m → IsRow m (zs[i]?.getD 0)) {i : Nat} (hi : i < m) : ((rowsOf m zs).getD i 0 : Int) = zs[i]?.getD 0 := by
  have := (h i hi).1
  unfold rowsOf
  rw [List.getD_eq_getElem?_getD, List.getElem?_map, List.getElem?_take, if_pos hi]
  cases hz : zs[i]? with
  | none => simp
  | some z => rw [hz] at this; simp at this ⊢; omega

end Go.Proofs.YtoecomgiggalkaaDoor
