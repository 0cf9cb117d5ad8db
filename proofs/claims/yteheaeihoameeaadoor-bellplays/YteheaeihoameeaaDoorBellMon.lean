/- A monitor of package bell as it lies in memory. -/
import Derived.WalkKit
import Derived.Test.YteheaeihoameeaaDoorBellAll
import Derived.Test.YteheaeihoameeaaDoorBetw
namespace Go.Proofs.YteheaeihoameeaaDoor
open Go.RowKit
set_option maxRecDepth 100000

/-- A monitor as it stands: labels and sets of its users and files. -/
structure BellSt where
  nu : Nat
  nf : Nat
  ul : Nat → Nat
  us : Nat → Nat
  ur : Nat → Nat
  uw : Nat → Nat
  fl : Nat → Nat
  fs : Nat → Nat
  fh : Nat → Nat
/-- All of it are labels and sets. -/
structure BellOk (s : BellSt) : Prop where
  nu : s.nu ≤ 8
  nf : s.nf ≤ 8
  ul : ∀ i, i < s.nu → s.ul i ≤ 7
  us : ∀ i, i < s.nu → s.us i < 256
  ur : ∀ i, i < s.nu → s.ur i < 2 ^ s.nf
  uw : ∀ i, i < s.nu → s.uw i < 2 ^ s.nf
  fl : ∀ i, i < s.nf → s.fl i ≤ 7
  fs : ∀ i, i < s.nf → s.fs i < 256
  fh : ∀ i, i < s.nf → s.fh i < 2 ^ s.nf
/-- How it lies. -/
structure Mon (n0 n1 B : Nat) (au af : Option Addr) (gu gf cu cf : Nat) (W : World) (s : BellSt) : Prop where
  c0 : W.cell? ⟨B, 0, none⟩ = some (.slice au s.nu cu)
  c1 : W.cell? ⟨B, 1, none⟩ = some (.slice af s.nf cf)
  low : n0 ≤ B
  hu : 0 < s.nu → au = some ⟨gu, 0, none⟩ ∧ n0 ≤ gu ∧ gu ≠ B ∧ gu < n1
  hf : 0 < s.nf → af = some ⟨gf, 0, none⟩ ∧ n0 ≤ gf ∧ gf ≠ B ∧ gf < n1
  ne : 0 < s.nu → 0 < s.nf → gu ≠ gf
  u0 : ∀ i, i < s.nu → W.cell? ⟨gu, i * 4, none⟩ = some (.int .i64 (s.ul i : Int))
  u1 : ∀ i, i < s.nu → W.cell? ⟨gu, i * 4 + 1, none⟩ = some (.int .i64 (s.us i : Int))
  u2 : ∀ i, i < s.nu → W.cell? ⟨gu, i * 4 + 2, none⟩ = some (.int .i64 (s.ur i : Int))
  u3 : ∀ i, i < s.nu → W.cell? ⟨gu, i * 4 + 3, none⟩ = some (.int .i64 (s.uw i : Int))
  r2 : ∀ i, i < s.nu → W.frozen? ⟨gu, i * 4 + 2, none⟩ = false
  r3 : ∀ i, i < s.nu → W.frozen? ⟨gu, i * 4 + 3, none⟩ = false
  f0 : ∀ i, i < s.nf → W.cell? ⟨gf, i * 3, none⟩ = some (.int .i64 (s.fl i : Int))
  f1 : ∀ i, i < s.nf → W.cell? ⟨gf, i * 3 + 1, none⟩ = some (.int .i64 (s.fs i : Int))
  f2 : ∀ i, i < s.nf → W.cell? ⟨gf, i * 3 + 2, none⟩ = some (.int .i64 (s.fh i : Int))
  q2 : ∀ i, i < s.nf → W.frozen? ⟨gf, i * 3 + 2, none⟩ = false

section
variable {n0 n1 B gu gf cu cf : Nat} {au af : Option Addr} {W W' : World} {s : BellSt}
theorem Mon.ltB (h : Mon n0 n1 B au af gu gf cu cf W s) : B < W.heap.size := World.block_lt_of_cell? W _ h.c0
theorem Mon.ltu (h : Mon n0 n1 B au af gu gf cu cf W s) {i : Nat} (hi : i < s.nu) : gu < W.heap.size := World.block_lt_of_cell? W _ (h.u0 i hi)
theorem Mon.ltf (h : Mon n0 n1 B au af gu gf cu cf W s) {i : Nat} (hi : i < s.nf) : gf < W.heap.size := World.block_lt_of_cell? W _ (h.f0 i hi)
theorem Mon.below (h : Mon n0 n1 B au af gu gf cu cf W s) (b : Below W.heap.size W W') : Mon n0 n1 B au af gu gf cu cf W' s := by
  have cB := fun o => b.cell (p := ⟨B, o, none⟩) h.ltB
  have cU := fun o i (hi : i < s.nu) => b.cell (p := ⟨gu, o, none⟩) (h.ltu hi)
  have cF := fun o i (hi : i < s.nf) => b.cell (p := ⟨gf, o, none⟩) (h.ltf hi)
  have rU := fun o i (hi : i < s.nu) => b.frozen (p := ⟨gu, o, none⟩) (h.ltu hi)
  have rF := fun o i (hi : i < s.nf) => b.frozen (p := ⟨gf, o, none⟩) (h.ltf hi)
  exact ⟨(cB 0).trans h.c0, (cB 1).trans h.c1, h.low, h.hu, h.hf, h.ne, fun i hi => (cU _ i hi).trans (h.u0 i hi), fun i hi => (cU _ i hi).trans (h.u1 i hi), fun i hi => (cU _ i hi).trans (h.u2 i hi), fun i hi => (cU _ i hi).trans (h.u3 i hi),
    fun i hi => (rU _ i hi).trans (h.r2 i hi), fun i hi => (rU _ i hi).trans (h.r3 i hi), fun i hi => (cF _ i hi).trans (h.f0 i hi), fun i hi => (cF _ i hi).trans (h.f1 i hi), fun i hi => (cF _ i hi).trans (h.f2 i hi), fun i hi => (rF _ i hi).trans (h.q2 i hi)⟩
theorem Mon.drawn (h : Mon n0 n1 B au af gu gf cu cf W s) (k : Nat) : Mon n0 n1 B au af gu gf cu cf (W.drewN k) s :=
  ⟨h.c0, h.c1, h.low, h.hu, h.hf, h.ne, h.u0, h.u1, h.u2, h.u3, h.r2, h.r3, h.f0, h.f1, h.f2, h.q2⟩
theorem Mon.drew (h : Mon n0 n1 B au af gu gf cu cf W s) : Mon n0 n1 B au af gu gf cu cf W.drew s := h.drawn 1

/-- A user's set of files that it reads is put. -/
theorem Mon.putR (h : Mon n0 n1 B au af gu gf cu cf W s) {u v : Nat} (hu : u < s.nu) : Mon n0 n1 B au af gu gf cu cf (W.setCell ⟨gu, u * 4 + 2, none⟩ (.int .i64 (v : Int))) { s with ur := upd s.ur u v } := by
  have hB := (h.hu (by omega)).2.2.1
  refine ⟨(cell_far (by omega)).trans h.c0, (cell_far (by omega)).trans h.c1, h.low, h.hu, h.hf, h.ne, fun i hi => (cell_far (by omega)).trans (h.u0 i hi), fun i hi => (cell_far (by omega)).trans (h.u1 i hi), fun i hi => ?_, fun i hi => (cell_far (by omega)).trans (h.u3 i hi),
    fun i hi => (World.frozen?_setCell _ _ _ _).trans (h.r2 i hi), fun i hi => (World.frozen?_setCell _ _ _ _).trans (h.r3 i hi), fun i hi => (cell_far fun e => h.ne (by omega) (by simp only at hi; omega) e.1.symm).trans (h.f0 i hi), fun i hi => (cell_far fun e => h.ne (by omega) (by simp only at hi; omega) e.1.symm).trans (h.f1 i hi), fun i hi => (cell_far fun e => h.ne (by omega) (by simp only at hi; omega) e.1.symm).trans (h.f2 i hi), fun i hi => (World.frozen?_setCell _ _ _ _).trans (h.q2 i hi)⟩
  by_cases e : i = u
  · subst e
    rw [World.cell?_setCell_same' _ _ _ (by rw [h.u2 i hu]; rfl)]
    simp only [upd_same]
  · rw [cell_far (by omega), h.u2 i hi]
    simp only [upd_other _ e]
/-- A user's set of files that it writes is put. -/
theorem Mon.putW (h : Mon n0 n1 B au af gu gf cu cf W s) {u v : Nat} (hu : u < s.nu) : Mon n0 n1 B au af gu gf cu cf (W.setCell ⟨gu, u * 4 + 3, none⟩ (.int .i64 (v : Int))) { s with uw := upd s.uw u v } := by
  have hB := (h.hu (by omega)).2.2.1
  refine ⟨(cell_far (by omega)).trans h.c0, (cell_far (by omega)).trans h.c1, h.low, h.hu, h.hf, h.ne, fun i hi => (cell_far (by omega)).trans (h.u0 i hi), fun i hi => (cell_far (by omega)).trans (h.u1 i hi), fun i hi => (cell_far (by omega)).trans (h.u2 i hi), fun i hi => ?_,
    fun i hi => (World.frozen?_setCell _ _ _ _).trans (h.r2 i hi), fun i hi => (World.frozen?_setCell _ _ _ _).trans (h.r3 i hi), fun i hi => (cell_far fun e => h.ne (by omega) (by simp only at hi; omega) e.1.symm).trans (h.f0 i hi), fun i hi => (cell_far fun e => h.ne (by omega) (by simp only at hi; omega) e.1.symm).trans (h.f1 i hi), fun i hi => (cell_far fun e => h.ne (by omega) (by simp only at hi; omega) e.1.symm).trans (h.f2 i hi), fun i hi => (World.frozen?_setCell _ _ _ _).trans (h.q2 i hi)⟩
  by_cases e : i = u
  · subst e
    rw [World.cell?_setCell_same' _ _ _ (by rw [h.u3 i hu]; rfl)]
    simp only [upd_same]
  · rw [cell_far (by omega), h.u3 i hi]
    simp only [upd_other _ e]
/-- What a file holds is put. -/
theorem Mon.putH (h : Mon n0 n1 B au af gu gf cu cf W s) {f v : Nat} (hf : f < s.nf) : Mon n0 n1 B au af gu gf cu cf (W.setCell ⟨gf, f * 3 + 2, none⟩ (.int .i64 (v : Int))) { s with fh := upd s.fh f v } := by
  have hB := (h.hf (by omega)).2.2.1
  refine ⟨(cell_far (by omega)).trans h.c0, (cell_far (by omega)).trans h.c1, h.low, h.hu, h.hf, h.ne, fun i hi => (cell_far fun e => h.ne (by simp only at hi; omega) (by omega) e.1).trans (h.u0 i hi), fun i hi => (cell_far fun e => h.ne (by simp only at hi; omega) (by omega) e.1).trans (h.u1 i hi), fun i hi => (cell_far fun e => h.ne (by simp only at hi; omega) (by omega) e.1).trans (h.u2 i hi), fun i hi => (cell_far fun e => h.ne (by simp only at hi; omega) (by omega) e.1).trans (h.u3 i hi),
    fun i hi => (World.frozen?_setCell _ _ _ _).trans (h.r2 i hi), fun i hi => (World.frozen?_setCell _ _ _ _).trans (h.r3 i hi), fun i hi => (cell_far (by omega)).trans (h.f0 i hi), fun i hi => (cell_far (by omega)).trans (h.f1 i hi), fun i hi => ?_, fun i hi => (World.frozen?_setCell _ _ _ _).trans (h.q2 i hi)⟩
  by_cases e : i = f
  · subst e
    rw [World.cell?_setCell_same' _ _ _ (by rw [h.f2 i hf]; rfl)]
    simp only [upd_same]
  · rw [cell_far (by omega), h.f2 i hi]
    simp only [upd_other _ e]
end
end Go.Proofs.YteheaeihoameeaaDoor
