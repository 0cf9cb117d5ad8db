/- What the library's variables hold, from a row's list on. -/
import Derived.LaidLaws
import Derived.Stop.LaidErr
import Derived.Lib.LaidTab
import Derived.Test.YtdmdoikkemfcaabDoorProK
namespace Go.Proofs.YtdmdoikkemfcaabDoor
open Go.RowKit
set_option linter.unusedVariables false

theorem laidMet_tail {P : Program} {x : String × DataW Unit} {r : List (String × DataW Unit)} {W : World} (h : laidMet P (x :: r) W) : laidMet P r W := by
  obtain ⟨ps, ⟨g, t, cs, f, p, q, _, _, _, _, hr, e⟩, hn, hc⟩ := h
  subst e
  exact ⟨q, hr, (List.nodup_append.1 hn).2.1, fun b off hb => hc b off (List.mem_append_right _ hb)⟩
theorem laidMet_drop {P : Program} {W : World} : ∀ (k : Nat) {l : List (String × DataW Unit)}, laidMet P l W → laidMet P (l.drop k) W
  | 0, _, h => h
  | _ + 1, [], h => h
  | k + 1, _ :: r, h => laidMet_drop k (laidMet_tail h)
theorem var_below {P : Program} {W W' : World} {g : Nat} {n : String} {cs : Array Value} (h : Below W.heap.size W W') (hg : P.globalNamed n = some g) (hv : W.var? P n = some cs) : W'.var? P n = some cs := by
  unfold World.var? at hv ⊢
  simp only [hg, Option.bind_some] at hv ⊢
  have hlt : g < W.heap.size := by
    rcases Nat.lt_or_ge g W.heap.size with h' | h'
    · exact h'
    · simp [Array.getElem?_eq_none h'] at hv
  rw [h.block g hlt]
  exact hv
theorem libT_of {W : World} {g1 g2 g3 : Nat} {t2 t3 : TypeId} {p2 p3 : Value} (e1 : Tryd.prog.globalNamed "internal/strconv.uint64pow10" = some g1) (e2 : Tryd.prog.globalNamed "strconv.ErrSyntax" = some g2) (e3 : Tryd.prog.globalNamed "strconv.ErrRange" = some g3) (h1 : Lib.TabIs Tryd.prog W "internal/strconv.uint64pow10" .u64 Lib.pow10Tab) (h2 : W.var? Tryd.prog "strconv.ErrSyntax" = some #[.iface t2 p2]) (h3 : W.var? Tryd.prog "strconv.ErrRange" = some #[.iface t3 p3]) : LibT W.heap.size W :=
  fun w' k => ⟨var_below k e1 h1, ⟨_, _, var_below k e2 h2⟩, _, _, var_below k e3 h3⟩
end Go.Proofs.YtdmdoikkemfcaabDoor
