/- Graphs of rights: as plain numbers, and how lists of lists of numbers lie in memory. -/
import Derived.WalkKit
import Derived.Laws.OwnMore
import Derived.Test.YtdmdoikkemfcaaaDoorLsto
namespace Go.Proofs.YtdmdoikkemfcaaaDoor
open Go.RowKit
set_option maxRecDepth 100000

/-- The first of so many codes that is not 0. -/
def firstNZ (c : Nat → Int) : Nat → Int
  | 0 => 0
  | n + 1 => if firstNZ c n = 0 then c n else firstNZ c n
theorem firstNZ_none {c : Nat → Int} {n : Nat} (h : ∀ j, j < n → c j = 0) : firstNZ c n = 0 := by
  induction n with
  | zero => rfl
  | succ n ih => rw [firstNZ, if_pos (ih fun j hj => h j (by omega))]; exact h n (by omega)
theorem firstNZ_hit {c : Nat → Int} {n k : Nat} (h : ∀ j, j < k → c j = 0) (hk : k < n) (hc : c k ≠ 0) : firstNZ c n = c k := by
  induction n with
  | zero => omega
  | succ n ih =>
    by_cases e : k = n
    · subst e; rw [firstNZ, if_pos (firstNZ_none h)]
    · have := ih (by omega)
      rw [firstNZ, if_neg (by rw [this]; exact hc), this]
theorem firstNZ_zero {c : Nat → Int} {n : Nat} (h : firstNZ c n = 0) : ∀ j, j < n → c j = 0 := by
  induction n with
  | zero => intro j hj; omega
  | succ n ih =>
    rw [firstNZ] at h
    split at h
    · rename_i h0
      intro j hj
      by_cases e : j = n
      · subst e; exact h
      · exact ih h0 j (by omega)
    · rename_i h0; exact absurd h h0

/-- What is wrong with a number of a graph, with a row, with a graph. -/
def cellCode (i j : Nat) (x : Int) : Int := if x < 0 ∨ 7 < x then 1 else if i = j ∧ x ≠ 0 then 6 else 0
def rowCode (n i L : Nat) (f : Nat → Int) : Int := if L = n then firstNZ (fun j => cellCode i j (f j)) n else 3
def graphCode (n : Nat) (L : Nat → Nat) (F : Nat → Nat → Int) : Int := if 20 < n then 4 else firstNZ (fun i => rowCode n i (L i) (F i)) n
/-- A graph: so many vertices, and the rights of each over each. -/
structure Gr where
  n : Nat
  M : Nat → Nat → Nat
structure Gr.Ok (g : Gr) : Prop where
  le : g.n ≤ 20
  lt : ∀ i j, g.M i j < 8
  self : ∀ i, g.M i i = 0
  out : ∀ i j, g.n ≤ i ∨ g.n ≤ j → g.M i j = 0
/-- The graph of rows of numbers. -/
def grOf (n : Nat) (F : Nat → Nat → Int) : Gr := ⟨n, fun i j => if i < n ∧ j < n then (F i j).toNat else 0⟩
theorem rowCode_ok {n i L : Nat} {f : Nat → Int} (h : rowCode n i L f = 0) : L = n ∧ ∀ j, j < n → 0 ≤ f j ∧ f j ≤ 7 ∧ (i = j → f j = 0) := by
  unfold rowCode at h
  split at h
  · rename_i hl
    refine ⟨hl, fun j hj => ?_⟩
    have := firstNZ_zero h j hj
    simp only [cellCode] at this
    split at this
    · omega
    · rename_i h1
      split at this
      · omega
      · rename_i h2
        refine ⟨by omega, by omega, fun e => ?_⟩
        by_cases h0 : f j = 0
        · exact h0
        · exact absurd ⟨e, h0⟩ h2
  · omega
theorem graphCode_ok {n : Nat} {L : Nat → Nat} {F : Nat → Nat → Int} (h : graphCode n L F = 0) :
    (grOf n F).Ok ∧ (∀ i, i < n → L i = n) ∧ ∀ i j, i < n → j < n → F i j = ((grOf n F).M i j : Int) := by
  unfold graphCode at h
  split at h
  · omega
  · rename_i hn
    have hr := fun i hi => rowCode_ok (firstNZ_zero h i hi)
    refine ⟨⟨by simp [grOf]; omega, fun i j => ?_, fun i => ?_, fun i j h => ?_⟩, fun i hi => (hr i hi).1, fun i j hi hj => ?_⟩
    · simp only [grOf]
      split
      · rename_i h; have := (hr i h.1).2 j h.2; omega
      · omega
    · simp only [grOf]
      split
      · rename_i h; have := (hr i h.1).2 i h.2; omega
      · rfl
    · simp only [grOf] at h ⊢
      rw [if_neg (by omega)]
    · simp only [grOf]
      rw [if_pos ⟨hi, hj⟩]
      have := (hr i hi).2 j hj
      omega

/-- Rows of numbers lie in memory. -/
structure GrdAt (w : World) (b off n : Nat) (A : Nat → Option Addr) (L C : Nat → Nat) (F : Nat → Nat → Int) : Prop where
  old : b < w.heap.size
  top : ∀ i, i < n → w.cell? ⟨b, off + i, none⟩ = some (.slice (A i) (L i) (C i))
  row : ∀ i, i < n → L i = 0 ∨ ∃ b' off', A i = some ⟨b', off', none⟩ ∧ b' < w.heap.size ∧ ∀ j, j < L i → w.cell? ⟨b', off' + j, none⟩ = some (.int .i64 (F i j))
/-- A value is a list of n lists of numbers. -/
def Grd (w : World) (v : Value) (n : Nat) (L : Nat → Nat) (F : Nat → Nat → Int) : Prop := ∃ a cp, v = .slice a n cp ∧ (n = 0 ∨ ∃ b off A C, a = some ⟨b, off, none⟩ ∧ GrdAt w b off n A L C F)
section
variable {w w' : World} {b off n : Nat} {A : Nat → Option Addr} {L L' C : Nat → Nat} {F F' : Nat → Nat → Int} {v : Value}
theorem GrdAt.below (h : GrdAt w b off n A L C F) (k : Below w.heap.size w w') : GrdAt w' b off n A L C F :=
  ⟨Nat.lt_of_lt_of_le h.old k.size, fun i hi => (k.cell (p := ⟨b, off + i, none⟩) h.old).trans (h.top i hi), fun i hi => (h.row i hi).imp id fun ⟨b', o', e, hl, hc⟩ => ⟨b', o', e, Nat.lt_of_lt_of_le hl k.size, fun j hj => (k.cell (p := ⟨b', o' + j, none⟩) hl).trans (hc j hj)⟩⟩
theorem GrdAt.drawn (h : GrdAt w b off n A L C F) (k : Nat) : GrdAt (w.drewN k) b off n A L C F := ⟨h.old, h.top, h.row⟩
theorem GrdAt.lst (h : GrdAt w b off n A L C F) {i : Nat} (hi : i < n) : Lst w (.slice (A i) (L i) (C i)) (L i) (F i) :=
  ⟨_, _, rfl, (h.row i hi).imp id fun ⟨b', o', e, hl, hc⟩ => ⟨b', o', e, hl, hc⟩⟩
theorem GrdAt.like (h : GrdAt w b off n A L C F) (hL : ∀ i, i < n → L i = L' i) (hF : ∀ i j, i < n → j < L i → F i j = F' i j) : GrdAt w b off n A L' C F' :=
  ⟨h.old, fun i hi => by rw [← hL i hi]; exact h.top i hi, fun i hi => by
    rw [← hL i hi]
    exact (h.row i hi).imp id fun ⟨b', o', e, hl, hc⟩ => ⟨b', o', e, hl, fun j hj => by rw [← hF i j hi hj]; exact hc j hj⟩⟩
theorem Grd.below (h : Grd w v n L F) (k : Below w.heap.size w w') : Grd w' v n L F := by
  obtain ⟨a, cp, e, h | ⟨b, off, A, C, ea, h⟩⟩ := h
  · exact ⟨a, cp, e, .inl h⟩
  · exact ⟨a, cp, e, .inr ⟨b, off, A, C, ea, h.below k⟩⟩
theorem Grd.drawn (h : Grd w v n L F) (k : Nat) : Grd (w.drewN k) v n L F := by
  obtain ⟨a, cp, e, h | ⟨b, off, A, C, ea, h⟩⟩ := h
  · exact ⟨a, cp, e, .inl h⟩
  · exact ⟨a, cp, e, .inr ⟨b, off, A, C, ea, h.drawn k⟩⟩
theorem Grd.like (h : Grd w v n L F) (hL : ∀ i, i < n → L i = L' i) (hF : ∀ i j, i < n → j < L i → F i j = F' i j) : Grd w v n L' F' := by
  obtain ⟨a, cp, e, h | ⟨b, off, A, C, ea, h⟩⟩ := h
  · exact ⟨a, cp, e, .inl h⟩
  · exact ⟨a, cp, e, .inr ⟨b, off, A, C, ea, h.like hL hF⟩⟩
end
/-- A value is a graph. -/
def GrV (w : World) (v : Value) (g : Gr) : Prop := Grd w v g.n (fun _ => g.n) (fun i j => (g.M i j : Int))
theorem grV_of {w : World} {v : Value} {n : Nat} {L : Nat → Nat} {F : Nat → Nat → Int} (h : Grd w v n L F) (hc : graphCode n L F = 0) : GrV w v (grOf n F) := by
  obtain ⟨_, h1, h2⟩ := graphCode_ok hc
  exact h.like (fun i hi => h1 i hi) fun i j hi hj => h2 i j hi (by rw [h1 i hi] at hj; exact hj)
/-- How a graph lies in memory. -/
structure GrAt (w : World) (b off : Nat) (B O C : Nat → Nat) (g : Gr) : Prop where
  old : b < w.heap.size
  top : ∀ i, i < g.n → w.cell? ⟨b, off + i, none⟩ = some (.slice (some ⟨B i, O i, none⟩) g.n (C i))
  oldR : ∀ i, i < g.n → B i < w.heap.size
  cell : ∀ i j, i < g.n → j < g.n → w.cell? ⟨B i, O i + j, none⟩ = some (.int .i64 (g.M i j : Nat))
section
variable {w w' : World} {b off : Nat} {B O C : Nat → Nat} {g : Gr} {v : Value}
theorem GrAt.below (h : GrAt w b off B O C g) (k : Below w.heap.size w w') : GrAt w' b off B O C g :=
  ⟨Nat.lt_of_lt_of_le h.old k.size, fun i hi => (k.cell (p := ⟨b, off + i, none⟩) h.old).trans (h.top i hi), fun i hi => Nat.lt_of_lt_of_le (h.oldR i hi) k.size, fun i j hi hj => (k.cell (p := ⟨B i, O i + j, none⟩) (h.oldR i hi)).trans (h.cell i j hi hj)⟩
theorem GrAt.drawn (h : GrAt w b off B O C g) (k : Nat) : GrAt (w.drewN k) b off B O C g := ⟨h.old, h.top, h.oldR, h.cell⟩
theorem GrAt.grd (h : GrAt w b off B O C g) : GrdAt w b off g.n (fun i => some ⟨B i, O i, none⟩) (fun _ => g.n) C (fun i j => (g.M i j : Int)) :=
  ⟨h.old, h.top, fun i hi => .inr ⟨B i, O i, rfl, h.oldR i hi, fun j hj => h.cell i j hi hj⟩⟩
theorem GrAt.grV (h : GrAt w b off B O C g) (cp : Nat) : GrV w (.slice (some ⟨b, off, none⟩) g.n cp) g := ⟨_, cp, rfl, .inr ⟨b, off, _, C, rfl, h.grd⟩⟩
theorem GrV.open (h : GrV w v g) : ∃ a cp, v = .slice a g.n cp ∧ (0 < g.n → ∃ b off B O C, a = some ⟨b, off, none⟩ ∧ GrAt w b off B O C g) := by
  obtain ⟨a, cp, e, h | ⟨b, off, A, C, ea, h⟩⟩ := h
  · exact ⟨a, cp, e, fun h0 => by omega⟩
  · refine ⟨a, cp, e, fun h0 => ?_⟩
    have each : ∀ i, ∃ p : Nat × Nat, i < g.n → A i = some ⟨p.1, p.2, none⟩ ∧ p.1 < w.heap.size ∧ ∀ j, j < g.n → w.cell? ⟨p.1, p.2 + j, none⟩ = some (.int .i64 (g.M i j : Nat)) := by
      intro i
      by_cases hi : i < g.n
      · rcases h.row i hi with h1 | ⟨b', o', e', hl, hc⟩
        · exact absurd h1 (by omega)
        · exact ⟨(b', o'), fun _ => ⟨e', hl, hc⟩⟩
      · exact ⟨(0, 0), fun h => absurd h hi⟩
    obtain ⟨P, hP⟩ : ∃ P : Nat → Nat × Nat, ∀ i, i < g.n → A i = some ⟨(P i).1, (P i).2, none⟩ ∧ (P i).1 < w.heap.size ∧ ∀ j, j < g.n → w.cell? ⟨(P i).1, (P i).2 + j, none⟩ = some (.int .i64 (g.M i j : Nat)) := ⟨fun i => (each i).choose, fun i => (each i).choose_spec⟩
    exact ⟨b, off, fun i => (P i).1, fun i => (P i).2, C, ea, h.old, fun i hi => by rw [← (hP i hi).1]; exact h.top i hi, fun i hi => (hP i hi).2.1, fun i j hi hj => (hP i hi).2.2 j hj⟩
theorem GrV.below (h : GrV w v g) (k : Below w.heap.size w w') : GrV w' v g := Grd.below h k
end

/-- A step. -/
structure Stp where
  k : Int
  who : Int
  of : Int
  to : Int
  r : Int
/-- Does a set of rights hold others? -/
def hasB (a r : Nat) : Bool := (a &&& r) == r
/-- What is wrong with a step. -/
def stepCode (g : Gr) (s : Stp) : Int :=
  if s.k < 0 ∨ 2 < s.k ∨ s.who < 0 ∨ (g.n : Int) ≤ s.who then 1
  else if s.k = 2 then (if g.n = 20 then 4 else 0)
  else if s.of < 0 ∨ (g.n : Int) ≤ s.of ∨ s.to < 0 ∨ (g.n : Int) ≤ s.to ∨ s.r < 1 ∨ 7 < s.r then 1
  else if s.k = 0 then (if s.who = s.to ∨ hasB (g.M s.who.toNat s.of.toNat) 1 = false ∨ hasB (g.M s.of.toNat s.to.toNat) s.r.toNat = false then 7 else 0)
  else (if s.of = s.to ∨ hasB (g.M s.who.toNat s.of.toNat) 2 = false ∨ hasB (g.M s.who.toNat s.to.toNat) s.r.toNat = false then 7 else 0)
/-- Rights are put to what a vertex has over another one. -/
def putR (M : Nat → Nat → Nat) (a b r : Nat) : Nat → Nat → Nat := fun i j => if i = a ∧ j = b then M i j ||| r else M i j
/-- A vertex more. -/
def growM (M : Nat → Nat → Nat) (n who : Nat) : Nat → Nat → Nat := fun i j => if i = who ∧ j = n then 3 else M i j
/-- The graph behind a step. -/
def stepNext (g : Gr) (s : Stp) : Gr :=
  if s.k = 2 then ⟨g.n + 1, growM g.M g.n s.who.toNat⟩
  else ⟨g.n, putR g.M (if s.k = 0 then s.who.toNat else s.of.toNat) s.to.toNat s.r.toNat⟩
/-- The graph behind some steps. -/
def runG (g : Gr) (S : Nat → Stp) : Nat → Gr
  | 0 => g
  | n + 1 => stepNext (runG g S n) (S n)
theorem or_lt8 {a b : Nat} (ha : a < 8) (hb : b < 8) : a ||| b < 8 := Nat.or_lt_two_pow (n := 3) ha hb
theorem stepNext_ok {g : Gr} (h : g.Ok) {s : Stp} (hc : stepCode g s = 0) : (stepNext g s).Ok := by
  unfold stepCode at hc
  unfold stepNext
  split at hc
  · omega
  · rename_i h1
    split at hc
    · rename_i h2
      rw [if_pos h2]
      split at hc
      · omega
      · rename_i h3
        have := h.le
        refine ⟨by simp; omega, fun i j => ?_, fun i => ?_, fun i j ho => ?_⟩
        · simp only [growM]; split
          · omega
          · exact h.lt i j
        · simp only [growM]
          rw [if_neg (by omega)]
          exact h.self i
        · simp only [growM] at ho ⊢
          rw [if_neg (by omega)]
          exact h.out i j (by omega)
    · rename_i h2
      rw [if_neg h2]
      split at hc
      · omega
      · rename_i h3
        refine ⟨h.le, fun i j => ?_, fun i => ?_, fun i j ho => ?_⟩
        · simp only [putR]
          obtain ⟨a, ha⟩ : ∃ a, (if s.k = 0 then s.who.toNat else s.of.toNat) = a := ⟨_, rfl⟩
          rw [ha]
          split
          · exact or_lt8 (h.lt i j) (by omega)
          · exact h.lt i j
        · simp only [putR]
          split at hc
          · rename_i h4
            rw [if_pos h4]
            split at hc
            · omega
            · rename_i h5
              rw [if_neg (by omega)]
              exact h.self i
          · rename_i h4
            rw [if_neg h4]
            split at hc
            · omega
            · rename_i h5
              rw [if_neg (by omega)]
              exact h.self i
        · simp only [putR] at ho ⊢
          rw [if_neg (by split <;> omega)]
          exact h.out i j ho
theorem runG_ok {g : Gr} (h : g.Ok) {S : Nat → Stp} {n : Nat} (hc : ∀ i, i < n → stepCode (runG g S i) (S i) = 0) : (runG g S n).Ok := by
  induction n with
  | zero => exact h
  | succ n ih => exact stepNext_ok (ih fun i hi => hc i (by omega)) (hc n (by omega))
/-- What comes of steps: what is wrong, and at which. -/
def playCode (g : Gr) (S : Nat → Stp) (n : Nat) : Int := if 60 < n then 4 else firstNZ (fun i => stepCode (runG g S i) (S i)) n
end Go.Proofs.YtdmdoikkemfcaaaDoor
