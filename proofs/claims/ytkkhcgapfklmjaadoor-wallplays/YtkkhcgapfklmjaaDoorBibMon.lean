/- A monitor of package biba as it lies in memory, and what an ask of it comes to. -/
import Derived.WalkKit
import Derived.Test.YtkkhcgapfklmjaaDoorBibA
import Derived.Test.YtkkhcgapfklmjaaDoorBetw
namespace Go.Proofs.YtkkhcgapfklmjaaDoor
open Go.RowKit
set_option maxRecDepth 100000

/-- A monitor as it stands: levels, what was heard, and what may be in files. -/
structure BibSt where
  nu : Nat
  nf : Nat
  ul : Nat → Nat
  uh : Nat → Nat
  fl : Nat → Nat
  fw : Nat → Nat
/-- All of it are levels. -/
structure BibOk (s : BibSt) : Prop where
  nu : s.nu ≤ 8
  nf : s.nf ≤ 8
  ul : ∀ i, i < s.nu → s.ul i ≤ 7
  uh : ∀ i, i < s.nu → s.uh i ≤ 7
  fl : ∀ i, i < s.nf → s.fl i ≤ 7
  fw : ∀ i, i < s.nf → s.fw i ≤ 7
/-- How it lies. -/
structure BMon (n0 n1 B : Nat) (au af : Option Addr) (gu gf cu cf : Nat) (W : World) (s : BibSt) : Prop where
  c0 : W.cell? ⟨B, 0, none⟩ = some (.slice au s.nu cu)
  c1 : W.cell? ⟨B, 1, none⟩ = some (.slice af s.nf cf)
  low : n0 ≤ B
  hu : 0 < s.nu → au = some ⟨gu, 0, none⟩ ∧ n0 ≤ gu ∧ gu ≠ B ∧ gu < n1
  hf : 0 < s.nf → af = some ⟨gf, 0, none⟩ ∧ n0 ≤ gf ∧ gf ≠ B ∧ gf < n1
  ne : 0 < s.nu → 0 < s.nf → gu ≠ gf
  u0 : ∀ i, i < s.nu → W.cell? ⟨gu, i * 2, none⟩ = some (.int .i64 (s.ul i : Int))
  u1 : ∀ i, i < s.nu → W.cell? ⟨gu, i * 2 + 1, none⟩ = some (.int .i64 (s.uh i : Int))
  r0 : ∀ i, i < s.nu → W.frozen? ⟨gu, i * 2, none⟩ = false
  r1 : ∀ i, i < s.nu → W.frozen? ⟨gu, i * 2 + 1, none⟩ = false
  f0 : ∀ i, i < s.nf → W.cell? ⟨gf, i * 2, none⟩ = some (.int .i64 (s.fl i : Int))
  f1 : ∀ i, i < s.nf → W.cell? ⟨gf, i * 2 + 1, none⟩ = some (.int .i64 (s.fw i : Int))
  q1 : ∀ i, i < s.nf → W.frozen? ⟨gf, i * 2 + 1, none⟩ = false
section
variable {n0 n1 B gu gf cu cf : Nat} {au af : Option Addr} {W W' : World} {s : BibSt}
theorem BMon.ltB (h : BMon n0 n1 B au af gu gf cu cf W s) : B < W.heap.size := World.block_lt_of_cell? W _ h.c0
theorem BMon.ltu (h : BMon n0 n1 B au af gu gf cu cf W s) {i : Nat} (hi : i < s.nu) : gu < W.heap.size := World.block_lt_of_cell? W _ (h.u0 i hi)
theorem BMon.ltf (h : BMon n0 n1 B au af gu gf cu cf W s) {i : Nat} (hi : i < s.nf) : gf < W.heap.size := World.block_lt_of_cell? W _ (h.f0 i hi)
theorem BMon.below (h : BMon n0 n1 B au af gu gf cu cf W s) (b : Below W.heap.size W W') : BMon n0 n1 B au af gu gf cu cf W' s := by
  have cB := fun o => b.cell (p := ⟨B, o, none⟩) h.ltB
  have cU := fun o i (hi : i < s.nu) => b.cell (p := ⟨gu, o, none⟩) (h.ltu hi)
  have cF := fun o i (hi : i < s.nf) => b.cell (p := ⟨gf, o, none⟩) (h.ltf hi)
  have rU := fun o i (hi : i < s.nu) => b.frozen (p := ⟨gu, o, none⟩) (h.ltu hi)
  have rF := fun o i (hi : i < s.nf) => b.frozen (p := ⟨gf, o, none⟩) (h.ltf hi)
  exact ⟨(cB 0).trans h.c0, (cB 1).trans h.c1, h.low, h.hu, h.hf, h.ne, fun i hi => (cU _ i hi).trans (h.u0 i hi), fun i hi => (cU _ i hi).trans (h.u1 i hi), fun i hi => (rU _ i hi).trans (h.r0 i hi), fun i hi => (rU _ i hi).trans (h.r1 i hi),
    fun i hi => (cF _ i hi).trans (h.f0 i hi), fun i hi => (cF _ i hi).trans (h.f1 i hi), fun i hi => (rF _ i hi).trans (h.q1 i hi)⟩
theorem BMon.drawn (h : BMon n0 n1 B au af gu gf cu cf W s) (k : Nat) : BMon n0 n1 B au af gu gf cu cf (W.drewN k) s :=
  ⟨h.c0, h.c1, h.low, h.hu, h.hf, h.ne, h.u0, h.u1, h.r0, h.r1, h.f0, h.f1, h.q1⟩
theorem BMon.drew (h : BMon n0 n1 B au af gu gf cu cf W s) : BMon n0 n1 B au af gu gf cu cf W.drew s := h.drawn 1
/-- A user's level is put. -/
theorem BMon.putL (h : BMon n0 n1 B au af gu gf cu cf W s) {u v : Nat} (hu : u < s.nu) : BMon n0 n1 B au af gu gf cu cf (W.setCell ⟨gu, u * 2, none⟩ (.int .i64 (v : Int))) { s with ul := upd s.ul u v } := by
  have hB := (h.hu (by omega)).2.2.1
  refine ⟨(cell_far (by omega)).trans h.c0, (cell_far (by omega)).trans h.c1, h.low, h.hu, h.hf, h.ne, fun i hi => ?_, fun i hi => (cell_far (by omega)).trans (h.u1 i hi),
    fun i hi => (World.frozen?_setCell _ _ _ _).trans (h.r0 i hi), fun i hi => (World.frozen?_setCell _ _ _ _).trans (h.r1 i hi), fun i hi => (cell_far fun e => h.ne (by omega) (by simp only at hi; omega) e.1.symm).trans (h.f0 i hi), fun i hi => (cell_far fun e => h.ne (by omega) (by simp only at hi; omega) e.1.symm).trans (h.f1 i hi), fun i hi => (World.frozen?_setCell _ _ _ _).trans (h.q1 i hi)⟩
  by_cases e : i = u
  · subst e
    rw [World.cell?_setCell_same' _ _ _ (by rw [h.u0 i hu]; rfl)]
    simp only [upd_same]
  · rw [cell_far (by omega), h.u0 i hi]
    simp only [upd_other _ e]
/-- What a user heard is put. -/
theorem BMon.putH (h : BMon n0 n1 B au af gu gf cu cf W s) {u v : Nat} (hu : u < s.nu) : BMon n0 n1 B au af gu gf cu cf (W.setCell ⟨gu, u * 2 + 1, none⟩ (.int .i64 (v : Int))) { s with uh := upd s.uh u v } := by
  have hB := (h.hu (by omega)).2.2.1
  refine ⟨(cell_far (by omega)).trans h.c0, (cell_far (by omega)).trans h.c1, h.low, h.hu, h.hf, h.ne, fun i hi => (cell_far (by omega)).trans (h.u0 i hi), fun i hi => ?_,
    fun i hi => (World.frozen?_setCell _ _ _ _).trans (h.r0 i hi), fun i hi => (World.frozen?_setCell _ _ _ _).trans (h.r1 i hi), fun i hi => (cell_far fun e => h.ne (by omega) (by simp only at hi; omega) e.1.symm).trans (h.f0 i hi), fun i hi => (cell_far fun e => h.ne (by omega) (by simp only at hi; omega) e.1.symm).trans (h.f1 i hi), fun i hi => (World.frozen?_setCell _ _ _ _).trans (h.q1 i hi)⟩
  by_cases e : i = u
  · subst e
    rw [World.cell?_setCell_same' _ _ _ (by rw [h.u1 i hu]; rfl)]
    simp only [upd_same]
  · rw [cell_far (by omega), h.u1 i hi]
    simp only [upd_other _ e]
/-- What may be in a file is put. -/
theorem BMon.putF (h : BMon n0 n1 B au af gu gf cu cf W s) {f v : Nat} (hf : f < s.nf) : BMon n0 n1 B au af gu gf cu cf (W.setCell ⟨gf, f * 2 + 1, none⟩ (.int .i64 (v : Int))) { s with fw := upd s.fw f v } := by
  have hB := (h.hf (by omega)).2.2.1
  refine ⟨(cell_far (by omega)).trans h.c0, (cell_far (by omega)).trans h.c1, h.low, h.hu, h.hf, h.ne, fun i hi => (cell_far fun e => h.ne (by simp only at hi; omega) (by omega) e.1).trans (h.u0 i hi), fun i hi => (cell_far fun e => h.ne (by simp only at hi; omega) (by omega) e.1).trans (h.u1 i hi),
    fun i hi => (World.frozen?_setCell _ _ _ _).trans (h.r0 i hi), fun i hi => (World.frozen?_setCell _ _ _ _).trans (h.r1 i hi), fun i hi => (cell_far (by omega)).trans (h.f0 i hi), fun i hi => ?_, fun i hi => (World.frozen?_setCell _ _ _ _).trans (h.q1 i hi)⟩
  by_cases e : i = f
  · subst e
    rw [World.cell?_setCell_same' _ _ _ (by rw [h.f1 i hf]; rfl)]
    simp only [upd_same]
  · rw [cell_far (by omega), h.f1 i hi]
    simp only [upd_other _ e]
end

/-- What any ask comes to. -/
def askBib (s : BibSt) (k u f : Int) : Int × BibSt :=
  if inB u s.nu && inB f s.nf then
    if k = 0 then (0, { s with ul := upd s.ul u.toNat (min (s.ul u.toNat) (s.fl f.toNat)), uh := upd s.uh u.toNat (min (s.uh u.toNat) (s.fw f.toNat)) })
    else if k = 1 then
      if s.ul u.toNat < s.fl f.toNat then (7, s) else (0, { s with fw := upd s.fw f.toNat (min (s.fw f.toNat) (s.uh u.toNat)) })
    else (1, s)
  else (1, s)
/-- A monitor of levels, as it begins. -/
def newBib (n m : Nat) (zs ys : List Int) : BibSt :=
  { nu := n, nf := m, ul := fun i => (zs[i]?.getD 0).toNat, uh := fun i => (zs[i]?.getD 0).toNat, fl := fun i => (ys[i]?.getD 0).toNat, fw := fun i => (ys[i]?.getD 0).toNat }
theorem lev_cast {x : Int} (h : IsLev x) : x = (x.toNat : Int) ∧ x.toNat ≤ 7 := by
  unfold IsLev at h
  omega
theorem newBib_ok {n m : Nat} {zs ys : List Int} (hn : n ≤ 8) (hm : m ≤ 8) (hz : AllLev n zs) (hy : AllLev m ys) : BibOk (newBib n m zs ys) :=
  ⟨hn, hm, fun i hi => (lev_cast (hz i hi)).2, fun i hi => (lev_cast (hz i hi)).2, fun i hi => (lev_cast (hy i hi)).2, fun i hi => (lev_cast (hy i hi)).2⟩
theorem upd_le {f : Nat → Nat} {n b k v : Nat} (h : ∀ i, i < n → f i ≤ b) (hv : v ≤ b) : ∀ i, i < n → upd f k v i ≤ b := by
  intro i hi
  unfold upd
  split
  · exact hv
  · exact h i hi
theorem inB_iff (i : Int) (n : Nat) : inB i n = true ↔ 0 ≤ i ∧ i < (n : Int) := by rw [inB, decide_eq_true_eq]
theorem askBib_ok {s : BibSt} (ok : BibOk s) (k u f : Int) : BibOk (askBib s k u f).2 := by
  obtain ⟨a1, a2, a3, a4, a5, a6⟩ := id ok
  unfold askBib
  split
  · rename_i h
    rw [Bool.and_eq_true, inB_iff, inB_iff] at h
    have l1 := a3 u.toNat (by omega)
    have l2 := a4 u.toNat (by omega)
    have l3 := a6 f.toNat (by omega)
    split
    · exact ⟨a1, a2, upd_le a3 (by omega), upd_le a4 (by omega), a5, a6⟩
    · split
      · split
        · exact ok
        · exact ⟨a1, a2, a3, a4, a5, upd_le a6 (by omega)⟩
      · exact ok
  · exact ok
/-- Numbers and the files' levels stay as they are. -/
structure BAlike (s s' : BibSt) : Prop where
  nu : s'.nu = s.nu
  nf : s'.nf = s.nf
  fl : s'.fl = s.fl
theorem BAlike.refl (s : BibSt) : BAlike s s := ⟨rfl, rfl, rfl⟩
theorem BAlike.trans {a b c : BibSt} (h : BAlike a b) (k : BAlike b c) : BAlike a c := ⟨k.nu.trans h.nu, k.nf.trans h.nf, k.fl.trans h.fl⟩
theorem askBib_alike (s : BibSt) (k u f : Int) : BAlike s (askBib s k u f).2 := by
  unfold askBib
  repeat' split
  all_goals exact ⟨rfl, rfl, rfl⟩
/-- What is pure stays pure. -/
structure Pure (s : BibSt) : Prop where
  us : ∀ i, i < s.nu → s.ul i ≤ s.uh i
  fs : ∀ i, i < s.nf → s.fl i ≤ s.fw i
theorem pure_new (n m : Nat) (zs ys : List Int) : Pure (newBib n m zs ys) := ⟨fun _ _ => Nat.le_refl _, fun _ _ => Nat.le_refl _⟩
theorem pure_ask {s : BibSt} (h : Pure s) (k u f : Int) : Pure (askBib s k u f).2 := by
  unfold askBib
  split
  · rename_i hin
    rw [Bool.and_eq_true, inB_iff, inB_iff] at hin
    have l1 := h.us u.toNat (by omega)
    have l2 := h.fs f.toNat (by omega)
    split
    · refine ⟨fun i hi => ?_, h.fs⟩
      have := h.us i hi
      simp only [upd]
      split <;> omega
    · split
      · split
        · exact h
        · refine ⟨h.us, fun i hi => ?_⟩
          have := h.fs i hi
          simp only [upd]
          split
          · rename_i e; subst e; omega
          · exact this
      · exact h
  · exact h
end Go.Proofs.YtkkhcgapfklmjaaDoor
