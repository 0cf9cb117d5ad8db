/- What the way is (Way). -/
import Derived.WalkKit
import Derived.LoopTactic
import Derived.OwnWalk
import Derived.Lib.SliceRun
import Derived.Test.YtcddbjmockpoiaaDoorDist
import Derived.Test.YtcddbjmockpoiaaDoorSWay
import Derived.Deep.RegionWith
import Derived.OpenShut
import Derived.Test.YtcddbjmockpoiaaDoorRowk
import Derived.Test.YtcddbjmockpoiaaDoorSteps
import Derived.Outline
import Derived.Test.YtcddbjmockpoiaaDoorCloses
namespace Go.Proofs.YtcddbjmockpoiaaDoor
open Go.RowKit
set_option maxRecDepth 100000

/-- The way so far: each is a step nearer, and the least that is. -/
structure WayTo (m : Nat) (rows : List Nat) (b d s : Nat) (W : Nat → Nat) : Prop where
  lt : ∀ i, i ≤ s → W i < m
  far : ∀ i, i ≤ s → Dist rows (d - i) (W i) b
  on : ∀ i, i < s → (rows.getD (W i) 0).testBit (W (i + 1)) = true
  first : ∀ i, i < s → ∀ y, (rows.getD (W i) 0).testBit y = true → Dist rows (d - (i + 1)) y b → W (i + 1) ≤ y

theorem inS_one (rows : List Nat) (b : Nat) : ∀ n x, InS rows (2 ^ b) n x ↔ InSteps rows n x b
  | 0, x => by
    show (2 ^ b).testBit x = true ↔ x = b
    rw [Nat.testBit_two_pow, decide_eq_true_eq]
    exact eq_comm
  | n + 1, x => by
    show (∃ y, _ ∧ _) ↔ ∃ y, _ ∧ _
    constructor
    · rintro ⟨y, h1, h2⟩; exact ⟨y, h1, (inS_one rows b n y).1 h2⟩
    · rintro ⟨y, h1, h2⟩; exact ⟨y, h1, (inS_one rows b n y).2 h2⟩
theorem distS_one (rows : List Nat) (b n x : Nat) : DistS rows (2 ^ b) n x ↔ Dist rows n x b := by
  unfold DistS Dist
  constructor
  · rintro ⟨h1, h2⟩; exact ⟨(inS_one rows b n x).1 h1, fun s hs k => h2 s hs ((inS_one rows b s x).2 k)⟩
  · rintro ⟨h1, h2⟩; exact ⟨(inS_one rows b n x).2 h1, fun s hs k => h2 s hs ((inS_one rows b s x).1 k)⟩
theorem wayTo_of {m : Nat} {rows : List Nat} {b d s : Nat} {W : Nat → Nat} (h : WayS m rows (2 ^ b) d s W) : WayTo m rows b d s W :=
  ⟨h.lt, fun i hi => (distS_one _ _ _ _).1 (h.far i hi), h.on, fun i hi y hy hd => h.first i hi y hy ((distS_one _ _ _ _).2 hd)⟩
theorem eqlNilW (w : World) (a : Option Addr) (n c n' c' : Nat) : (binOp .eql 36 (.slice a n c) (.slice none n' c')).run Tryd.prog w = .ok (.bool a.isNone) w := Lib.run_eql_slice_nil w _ _ a n c n' c' Tryd.underlying36
end Go.Proofs.YtcddbjmockpoiaaDoor
