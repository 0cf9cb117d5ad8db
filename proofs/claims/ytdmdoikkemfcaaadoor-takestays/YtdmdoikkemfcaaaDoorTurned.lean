/- What leads to each thing (Turned). -/
import Derived.WalkKit
import Derived.LoopTactic
import Derived.RegionTactic
import Derived.Test.YtdmdoikkemfcaaaDoorRowk
namespace Go.Proofs.YtdmdoikkemfcaaaDoor
open Go.RowKit

/-- The numbers below k with a property, as a set. -/
def setOf (p : Nat → Bool) : Nat → Nat
  | 0 => 0
  | k + 1 => if p k then setOf p k ||| 2 ^ k else setOf p k
theorem setOf_bit (p : Nat → Bool) : ∀ (k x : Nat), (setOf p k).testBit x = true ↔ x < k ∧ p x = true
  | 0, x => by simp [setOf]
  | k + 1, x => by
    have ih := setOf_bit p k x
    unfold setOf
    split
    · rename_i h
      rw [or_bit, ih]
      constructor
      · rintro (⟨h1, h2⟩ | rfl)
        · exact ⟨by omega, h2⟩
        · exact ⟨by omega, h⟩
      · rintro ⟨h1, h2⟩
        by_cases e : x = k
        · exact .inr e.symm
        · exact .inl ⟨by omega, h2⟩
    · rename_i h
      rw [ih]
      constructor
      · rintro ⟨h1, h2⟩
        exact ⟨by omega, h2⟩
      · rintro ⟨h1, h2⟩
        refine ⟨?_, h2⟩
        by_cases e : x = k
        · subst e; exact absurd h2 h
        · omega
theorem setOf_lt (p : Nat → Bool) (k : Nat) : setOf p k < 2 ^ k := lt_of_bits fun j hj => ((setOf_bit p k j).1 hj).1
/-- What leads to a thing. -/
def turnN (m : Nat) (R : Nat → Nat) (q : Nat) : Nat := setOf (fun x => (R x).testBit q) m
theorem turnN_bit (m : Nat) (R : Nat → Nat) (q x : Nat) : (turnN m R q).testBit x = true ↔ x < m ∧ (R x).testBit q = true := setOf_bit _ m x
theorem turnN_lt (m : Nat) (R : Nat → Nat) (q : Nat) : turnN m R q < 2 ^ m := setOf_lt _ m
/-- What is turned when k things are over, and i rows are looked at for the next one. -/
def tpart (m : Nat) (R : Nat → Nat) (k i j : Nat) : Nat := if j < k then turnN m R j else if j = k then setOf (fun x => (R x).testBit k) i else 0
theorem tpart_start (m : Nat) (R : Nat → Nat) (j : Nat) : tpart m R 0 0 j = 0 := by
  unfold tpart
  simp [setOf]
theorem tpart_here (m : Nat) (R : Nat → Nat) (k i : Nat) : tpart m R k i k = setOf (fun x => (R x).testBit k) i := by simp [tpart]
theorem tpart_other (m : Nat) (R : Nat → Nat) {k i i' j : Nat} (h : j ≠ k) : tpart m R k i j = tpart m R k i' j := by simp [tpart, h]
theorem tpart_row (m : Nat) (R : Nat → Nat) (k j : Nat) : tpart m R k m j = tpart m R (k + 1) 0 j := by
  unfold tpart
  by_cases h1 : j < k
  · rw [if_pos h1, if_pos (by omega)]
  · by_cases h2 : j = k
    · subst h2
      rw [if_neg h1, if_pos rfl, if_pos (by omega)]; rfl
    · rw [if_neg h1, if_neg h2, if_neg (by omega)]
      split <;> rfl
theorem tpart_end (m : Nat) (R : Nat → Nat) {j : Nat} (h : j < m) : tpart m R m 0 j = turnN m R j := by simp [tpart, h]

/-- What leads to each of m things, in the form of the layers' proof. -/
def TurnedTo (m : Nat) (R : Nat → Nat) (k : Nat) (p : Nat → Prop) (f : Nat → Nat) : Prop :=
  ∀ q, q < m → f q < 2 ^ m ∧ ∀ x, (f q).testBit x = true ↔ (x < k ∧ (R x).testBit q = true) ∨ (x = k ∧ p q)

theorem own_kept {w w' : World} {B m : Nat} {f : Nat → Nat} {row : Option Nat} (h : Own w B m f) (hg : w.grownBy w' row) (hr : ∀ r, row = some r → ∃ o : Obj, w.heap[r]? = some o ∧ o.isCells = false) : Own w' B m f :=
  ⟨Nat.lt_of_lt_of_le h.lt hg.size, fun j hj => cell_kept (h.cell j hj) hg hr, fun j hj => (frozen_kept (h.cell j hj) hg hr).trans (h.free j hj)⟩

theorem Turned_none (a : Option Addr) (cap : Nat) (w : World) :
    Calls Tryd.prog 80 #[.slice a 0 cap] w fun e w' => e = .returned (.slice (some ⟨w.heap.size, 0, none⟩) 0 0) ∧ w.heap.size < w'.heap.size ∧ Below w.heap.size w w' := by
  have hmk := make_none w
  have hBm : Below w.heap.size w (w.alloc (.cells #[] 3)) := (Below.refl _ w).alloc (Nat.le_refl _) _
  go_enter Tryd.func80, Tryd.ntmps80
  go_wp2
  go_loop [12] (fun i => i = .int .i64 0) (fun _ => 0)
  case atStart => rfl
  case round =>
    obtain rfl := hrel
    go_wp2
    go_ret
    exact ⟨rfl, by simp, hBm⟩

set_option maxRecDepth 100000 in
set_option maxHeartbeats 1000000 in
theorem Turned_some (m b off cap : Nat) (R : Nat → Nat) (hm : m ≤ 20) (hR : ∀ i, i < m → R i < 2 ^ m) (w : World) (hb : b < w.heap.size) (hc : ∀ i, i < m → w.cell? ⟨b, off + i, none⟩ = some (.int .i64 (R i : Nat))) :
    Calls Tryd.prog 80 #[.slice (some ⟨b, off, none⟩) m cap] w fun e w' => e = .returned (.slice (some ⟨w.heap.size, 0, none⟩) m m) ∧ Own w' w.heap.size m (turnN m R) ∧ Below w.heap.size w w' := by
  have h12 := pow12 hm
  have hmk := make_any w m hm
  have hmd : Own (w.alloc (.cells (madeCells #[.int .i64 0] m) 3)) w.heap.size m (tpart m R 0 0) := (Own.made w m).like fun j _ => (tpart_start m R j).symm
  have hBm : Below w.heap.size w (w.alloc (.cells (madeCells #[.int .i64 0] m) 3)) := (Below.refl _ w).alloc (Nat.le_refl _) _
  have HR : Hid (∀ i, i < m → R i < 2 ^ m) := hR
  clear hR
  go_enter Tryd.func80, Tryd.ntmps80
  go_wp2
  go_loopw [12] (fun i wr => ∃ k : Nat, k ≤ m ∧ i = .int .i64 k ∧ Own wr w.heap.size m (tpart m R k 0) ∧ Below w.heap.size w wr) (fun i _ => m - (intOf i).toNat)
  case atStart => exact ⟨0, by omega, rfl, hmd, hBm⟩
  case round =>
    obtain ⟨k, hk, rfl, ho, hB⟩ := hrel
    clear hmd hBm hmk
    by_cases hlt : k < m
    · have hki : (k : Int) < (m : Int) := by omega
      go_wp2
      go_loopw [17] (fun i wr => ∃ x : Nat, x ≤ m ∧ i = .int .i64 x ∧ Own wr w.heap.size m (tpart m R k x) ∧ Below w.heap.size w wr) (fun i _ => m - (intOf i).toNat)
      case atStart => exact ⟨0, by omega, rfl, ho, hB⟩
      case round =>
        clear ho hB
        obtain ⟨x, hx, rfl, ho, hB⟩ := hrel
        by_cases hxt : x < m
        · have hxi : (x : Int) < (m : Int) := by omega
          have hset := (hB.cell (p := ⟨b, off + x, none⟩) hb).trans (hc x hxt)
          have hhas := fun W => has_any (R x) k (Nat.lt_of_lt_of_le (HR.out x hxt) h12) (by omega) W
          have hck := ho.cell k hlt
          have hfk := ho.free k hlt
          have hsl : setOf (fun y => (R y).testBit k) x < 1048576 := Nat.lt_of_lt_of_le (setOf_lt _ _) (pow12 (by omega))
          have hst : setOf (fun y => (R y).testBit k) (x + 1) = if (R x).testBit k then setOf (fun y => (R y).testBit k) x ||| 2 ^ x else setOf (fun y => (R y).testBit k) x := rfl
          have hnx : ∀ v, setOf (fun y => (R y).testBit k) (x + 1) = v → tpart m R k (x + 1) k = v := fun v e => (tpart_here m R k (x + 1)).trans e
          rw [tpart_here] at hck
          obtain ⟨s, hse⟩ : ∃ s, setOf (fun y => (R y).testBit k) x = s := ⟨_, rfl⟩
          rw [hse] at hck hsl hst
          have HS : Hid (setOf (fun y => (R y).testBit k) x = s) := hse
          clear hse
          cases hbt : (R x).testBit k with
          | false =>
            rw [hbt] at hhas hst
            have HN : Hid (∀ j, j < m → tpart m R k x j = tpart m R k (x + 1) j) := fun j _ => by
              by_cases e : j = k
              · subst e; rw [tpart_here, hnx _ hst, HS.out]; rfl
              · exact tpart_other m R e
            clear hst hnx hbt
            obtain ⟨r, hre⟩ : ∃ r, R x = r := ⟨_, rfl⟩
            rw [hre] at hset hhas
            clear hre
            go_wp2_with (go_at_call 81; refine (hhas _).mono ?_; rintro e w' ⟨rfl, rfl⟩)
            go_roundw
            case rel => exact ⟨x + 1, by omega, by go_num, ho.like HN.out, hB⟩
            case measure => simp [intOf]; omega
          | true =>
            rw [hbt] at hhas hst
            have HN : Hid (∀ (W : World) (v : Int), Own W w.heap.size m (tpart m R k x) → v = ((s ||| 2 ^ x : Nat) : Int) → Own (W.setCell ⟨w.heap.size, k, none⟩ (.int .i64 v)) w.heap.size m (tpart m R k (x + 1))) := fun W v hW e => by
              rw [e]
              exact hW.put hlt (hnx _ hst) (fun j _ hne => tpart_other m R hne)
            clear hst hnx hbt
            have hp := pow_wrap (a := x) (by omega)
            have hpl : 2 ^ x < 1048576 := Nat.lt_of_lt_of_le (Nat.pow_lt_pow_right (by decide) hxt) h12
            have hor := or_i64 s (2 ^ x) hsl hpl
            obtain ⟨p, hpe⟩ : ∃ p, 2 ^ x = p := ⟨_, rfl⟩
            rw [hpe] at hp hor HN
            clear hpe hpl
            obtain ⟨r, hre⟩ : ∃ r, R x = r := ⟨_, rfl⟩
            rw [hre] at hset hhas
            clear hre
            go_wp2_with (go_at_call 81; refine (hhas _).mono ?_; rintro e w' ⟨rfl, rfl⟩)
            go_region
            all_goals go_wp2
            all_goals go_roundw
            case rel => exact ⟨x + 1, by omega, by go_num, (HN.out _ _ ho rfl).drawn 1, below_drawn (hB.setCell (by simp) _) 1⟩
            case measure => simp [intOf]; omega
        · have ho' : Own wr w.heap.size m (tpart m R (k + 1) 0) := ho.like fun j _ => by
            have : x = m := by omega
            rw [this]; exact tpart_row m R k j
          clear ho
          go_wp2
          go_roundw
          case rel => exact ⟨k + 1, by omega, by go_num, ho', hB⟩
          case measure => simp [intOf]; omega
    · have ho' : Own wr w.heap.size m (turnN m R) := ho.like fun j hj => by
        have : k = m := by omega
        rw [this]; exact tpart_end m R hj
      clear ho
      go_wp2
      go_ret
      exact ⟨rfl, ho', hB⟩

theorem turned_any (m b off cap : Nat) (rows : List Nat) (hr : Right m rows) (w : World) (hl : Lies w b off m rows) (_hT : Tab w) :
    Calls Tryd.prog 80 #[.slice (some ⟨b, off, none⟩) m cap] w fun e w' => e = .returned (.slice (some ⟨w.heap.size, 0, none⟩) m m) ∧ (∃ f, Lies w' w.heap.size 0 m (listOf m f) ∧ TurnedTo m (fun i => rows.getD i 0) m (fun _ => False) f) ∧ Below w.heap.size w w' :=
  (Turned_some m b off cap (fun i => rows.getD i 0) hr.1 (fun i _ => hr.2.2 i) w hl.old hl.cell).mono fun e w' ⟨he, ho, hB⟩ =>
    ⟨he, ⟨_, ho.lies fun _ hj => listOf_get _ hj, fun q _ => ⟨turnN_lt _ _ _, fun x => by rw [turnN_bit]; simp⟩⟩, hB⟩
end Go.Proofs.YtdmdoikkemfcaaaDoor
