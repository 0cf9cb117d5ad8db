/- Read: what the program reads a text as, or what is wrong; whatever is thrown is caught. -/
import Derived.WalkKit
import Derived.LoopTactic
import Derived.OwnWalk
import Derived.Laws.Strings
import Derived.Laws.Strings2
import Derived.Defers
import Derived.Recover
import Derived.Laws.Pointers
import Derived.Stop.Asserts
import Derived.WalkLawsBesides
import Derived.Test.YtdmdoikkemfcaabDoorProN
namespace Go.Proofs.YtdmdoikkemfcaabDoor
open Go.RowKit
set_option maxRecDepth 100000
set_option linter.unusedVariables false

theorem is_error (v : Value) (W : World) : (Instr.typeAssert (.iface 42 v) 20 27 true).run Tryd.prog W = .ok (.tuple #[.iface 42 v, .bool true]) W :=
  run_typeAssert_hasB Tryd.underlying27 (by kernel_rfl) v 20 W
theorem catch_some (X : Nat) (c : Int) (older : List PanicEntry) (u : Value) (w : World) (hc : w.cell? ⟨X, 0, none⟩ = some u) (hz : w.frozen? ⟨X, 0, none⟩ = false) :
    CallsD Tryd.prog 17 #[.pointer (some ⟨X, 0, none⟩)] (.panicking ({ v := .iface 42 (.int .i64 c), recovered := false } :: older)) w fun e u' w' =>
      e = .returned (.tuple #[]) ∧ u' = .panicking ({ v := .iface 42 (.int .i64 c), recovered := true } :: older) ∧ w' = w.setCell ⟨X, 0, none⟩ (.iface 42 (.int .i64 c)) := by
  have ha := fun W => is_error (.int .i64 c) W
  refine callsD_of_wpS Tryd.func17 rfl fun c₀ cs hu => ?_
  apply wpS_seq
  apply wpS_region
  simp [wpOpsS, go_sem, recoverD, hu, Tryd.ntmps17, Exit.thenS]
  refine wpS_of_wp ?_
  refine wp_mono (Q := fun e a' w' => e = .normal ∧ a'.defers = [] ∧ w' = w.setCell ⟨X, 0, none⟩ (.iface 42 (.int .i64 c))) ?_ ?_
  · have hp : #[Value.pointer (some { block := X, off := 0 })] ++ (Array.replicate 8 undef).setIfInBounds 2 (Value.iface 42 (Value.int IntKind.i64 c)) = #[Value.pointer (some { block := X, off := 0 }), undef, undef, Value.iface 42 (Value.int IntKind.i64 c), undef, undef, undef, undef, undef] := rfl
    rw [hp]
    clear hp hu
    go_wp2
  · rintro e a' w' ⟨rfl, hd, rfl⟩
    simp [bodyPostS, results, Tryd.results17, hd]
theorem catch_idle (X : Nat) (w : World) :
    CallsD Tryd.prog 17 #[.pointer (some ⟨X, 0, none⟩)] .returning w fun e u' w' => e = .returned (.tuple #[]) ∧ u' = .returning ∧ w' = w := by
  refine callsD_of_wpS Tryd.func17 rfl fun c₀ cs hu => ?_
  apply wpS_seq
  apply wpS_region
  simp [wpOpsS, go_sem, recoverD, hu, Tryd.ntmps17, Exit.thenS]
  refine wpS_of_wp ?_
  go_wp2
  all_goals
    cases c₀
    simp_all [bodyPostS, results, Tryd.results17]
/-- Where Read's own things lie. -/
structure RdW (w : World) (r : List Nat) (W : World) : Prop where
  rd : RdA (w.heap.size + 1) (w.heap.size + 1) r [] none 0 W
  ec : W.cell? ⟨w.heap.size, 0, none⟩ = some .nilIface
  ef : W.frozen? ⟨w.heap.size, 0, none⟩ = false
  bel : Below w.heap.size w W
theorem rdW_new (w : World) (r : List Nat) (t t' : TypeId) : RdW w r ((w.alloc (.cells #[.nilIface] t)).alloc (.cells #[.string (strB r), .slice none 0 0] t')) := by
  have h1 := World.alloc_heap_new w (.cells #[Value.nilIface] t)
  have hB : Below (w.heap.size + 1) (w.alloc (.cells #[.nilIface] t)) ((w.alloc (.cells #[.nilIface] t)).alloc (.cells #[.string (strB r), .slice none 0 0] t')) := (Below.refl _ _).alloc (by simp) _
  have hX := Boxes.new (w.alloc (.cells #[.nilIface] t)) (.string (strB r)) (.slice none 0 0) t'
  rw [World.size_alloc] at hX
  refine ⟨⟨hX, World.ownsRow_nil _ _ _ _, by simp [Value.ownBlock], Nat.le_refl _⟩, ?_, ?_, (((Below.refl _ w).alloc (Nat.le_refl _) _).alloc (by simp) _)⟩
  · refine (hB.cell (p := ⟨w.heap.size, 0, none⟩) (Nat.lt_succ_self _)).trans ?_
    simp only [World.cell?]; rw [h1]; simp
  · refine (hB.frozen (p := ⟨w.heap.size, 0, none⟩) (Nat.lt_succ_self _)).trans ?_
    simp only [World.frozen?]; rw [h1]; simp
/-- What Read answers. -/
def ReadV (w : World) (res : Except Int (List Nod)) (E : Ending) (w' : World) : Prop :=
  Below w.heap.size w w' ∧ match res with
  | .ok o => ∃ p cp, E = .returned (.tuple #[.slice p o.length cp, .nilIface]) ∧ w'.ownsRow w.heap.size 45 5 (.slice p o.length cp) o.length (flatD o)
  | .error c => E = .returned (.tuple #[.slice none 0 0, .iface 42 (.int .i64 c)])
theorem own_lower {w : World} {B B' e k n : Nat} {v : Value} {xs : List Value} (h : w.ownsRow B e k v n xs) (hB : B' ≤ B) : w.ownsRow B' e k v n xs := by
  obtain ⟨h0, h1 | ⟨g, cap, cur, hv, hb, r⟩⟩ := h
  · exact ⟨h0, .inl h1⟩
  · exact ⟨h0, .inr ⟨g, cap, cur, hv, Nat.le_trans hB hb, r⟩⟩
theorem read_long (y : ByteArray) (h : 300 < y.size) (w : World) :
    Calls Tryd.prog 10 #[.string y] w fun E w' => ReadV w (.error 4) E w' := by
  have hI : (300 : Int) < (y.size : Int) := by omega
  have hB : Below w.heap.size w (w.alloc (.cells #[.iface 42 (.int .i64 4)] 27)) := (Below.refl _ w).alloc (Nat.le_refl _) _
  show Calls _ _ _ _ fun E w' => Below w.heap.size w w' ∧ E = .returned (.tuple #[.slice none 0 0, .iface 42 (.int .i64 4)])
  go_enter_defers Tryd.func10, Tryd.ntmps10
  go_wp2
  simp [bodyPostD, Leaves, results, Tryd.results10, go_sem]
  exact hB
theorem read_short {r : List Nat} (hr : Sml r) (w : World) (hL : LibT w.heap.size w) :
    Calls Tryd.prog 10 #[.string (strB r)] w fun E w' => ReadV w ((dsP 1300 (-1) r []).map (·.2)) E w' := by
  have hmf : ∀ (fn : Fn) (first cap : Array Value) (w : World), (Instr.makeFunc fn first cap).run Tryd.prog w = .ok (.func fn first cap) w := fun _ _ _ _ => rfl
  have hK := deeds_any (B := w.heap.size + 1) (X := w.heap.size + 1) (someDeeds_any 1300 (-1)) r [] hr (by decide) (by have := hr.1; omega)
  obtain ⟨hR, hc, hz, hB⟩ := rdW_new w r 27 48
  have hL1 := (hL.on hB).up (Nat.le_succ _)
  have hlen : ((strB r).size : Int) ≤ 300 := by rw [strB_size]; have := hr.1; omega
  obtain ⟨y, hy⟩ : ∃ y, strB r = y := ⟨_, rfl⟩
  rw [hy] at hR hc hz hB hL1 hlen ⊢
  cases he : dsP 1300 (-1) r [] with
  | error c =>
    rw [he] at hK
    change ErC _ _ _ _ _ _ _ at hK
    clear he hy
    show Calls _ _ _ _ fun E w' => Below w.heap.size w w' ∧ E = .returned (.tuple #[.slice none 0 0, .iface 42 (.int .i64 c)])
    go_enter_defers Tryd.func10, Tryd.ntmps10
    go_wp2_with (go_at_call 18; refine (hK _ _ _ hR hL1).mono ?_; clear hK; rintro E w1 ⟨rfl, hB1⟩)
    have hc1 := (hB1.cell (p := ⟨w.heap.size, 0, none⟩) (Nat.lt_succ_self _)).trans hc
    have hz1 := (hB1.frozen (p := ⟨w.heap.size, 0, none⟩) (Nat.lt_succ_self _)).trans hz
    have hE := (hB.trans (hB1.mono (Nat.le_succ _))).setCell (p := ⟨w.heap.size, 0, none⟩) (Nat.le_refl _) (.iface 42 (.int .i64 c))
    refine leaves_cons (f := 17) (args := #[.pointer (some ⟨w.heap.size, 0, none⟩)]) (by simp) (by simp [go_sem]) ?_
    refine (catch_some w.heap.size c [] _ w1 hc1 hz1).mono ?_
    rintro e u' w'' ⟨rfl, rfl, rfl⟩
    simp [Leaves, settle, results, Tryd.results10, go_sem, hc1]
    exact hE
  | ok o =>
    rw [he] at hK
    obtain ⟨hK, -, ho⟩ := hK
    clear he hy
    show Calls _ _ _ _ fun E w' => Below w.heap.size w w' ∧ ∃ p cp, E = .returned (.tuple #[.slice p o.2.length cp, .nilIface]) ∧ w'.ownsRow w.heap.size 45 5 (.slice p o.2.length cp) o.2.length (flatD o.2)
    go_enter_defers Tryd.func10, Tryd.ntmps10
    go_wp2_with (go_at_call 18; refine (hK _ _ _ hR hL1).mono ?_; clear hK; rintro E w1 ⟨rfl, ⟨a1, q1, hR1⟩, hB1⟩; have hc1 := (hB1.cell (p := ⟨w.heap.size, 0, none⟩) (Nat.lt_succ_self _)).trans hc; have hz1 := (hB1.frozen (p := ⟨w.heap.size, 0, none⟩) (Nat.lt_succ_self _)).trans hz; have b1 := hR1.bx.c1)
    have hE := (hB.trans (hB1.mono (Nat.le_succ _))).setCell (p := ⟨w.heap.size, 0, none⟩) (Nat.le_refl _) .nilIface
    have hO := own_lower (ownsRow_setCell_below hR1.own (a := ⟨w.heap.size, 0, none⟩) (Nat.lt_succ_self _) .nilIface) (Nat.le_succ w.heap.size)
    refine leaves_cons (f := 17) (args := #[.pointer (some ⟨w.heap.size, 0, none⟩)]) (by simp) (by simp [go_sem]) ?_
    refine (catch_idle w.heap.size _).mono ?_
    rintro e u' w'' ⟨rfl, rfl, rfl⟩
    simp [Leaves, settle, results, Tryd.results10, go_sem, hc1]
    exact ⟨hE, _, _, ⟨rfl, rfl⟩, hO⟩
theorem read_any (y : ByteArray) (w : World) (hL : LibT w.heap.size w) :
    Calls Tryd.prog 10 #[.string y] w fun E w' => ReadV w (redP (numsB y)) E w' := by
  unfold redP
  rw [numsB_len]
  by_cases h : 300 < y.size
  · rw [if_pos h]; exact read_long y h w
  · rw [if_neg h]
    have hr : Sml (numsB y) := ⟨by rw [numsB_len]; omega, numsB_lt y⟩
    have t := read_short hr w hL
    rw [strB_numsB] at t
    cases he : dsP 1300 (-1) (numsB y) [] with
    | error c => rw [he] at t; exact t
    | ok a => rw [he] at t; exact t
end Go.Proofs.YtdmdoikkemfcaabDoor
