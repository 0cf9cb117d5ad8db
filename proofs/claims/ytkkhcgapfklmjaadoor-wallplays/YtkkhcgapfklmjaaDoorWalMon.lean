/- A wall of package wall as it lies in memory, and what an ask of it comes to. -/
import Derived.WalkKit
import Derived.Test.YtkkhcgapfklmjaaDoorWalA
import Derived.Test.YtkkhcgapfklmjaaDoorBibMon
import Derived.Test.YtkkhcgapfklmjaaDoorOrder
namespace Go.Proofs.YtkkhcgapfklmjaaDoor
open Go.RowKit
set_option maxRecDepth 100000

/-- A wall as it stands: trades, what was seen, what files hold. -/
structure WallSt where
  nu : Nat
  nf : Nat
  tr : Nat → Nat
  saw : Nat → Nat
  hol : Nat → Nat
/-- All of it are trades, and sets of firms. -/
structure WallOk (s : WallSt) : Prop where
  nu : s.nu ≤ 8
  nf : s.nf ≤ 8
  tr : ∀ i, i < s.nf → s.tr i ≤ 7
  saw : ∀ i, i < s.nu → s.saw i < 2 ^ s.nf
  hol : ∀ i, i < s.nf → s.hol i < 2 ^ s.nf
/-- How it lies. -/
structure WMon (n0 n1 B : Nat) (au af : Option Addr) (gu gf cu cf : Nat) (W : World) (s : WallSt) : Prop where
  c0 : W.cell? ⟨B, 0, none⟩ = some (.slice au s.nu cu)
  c1 : W.cell? ⟨B, 1, none⟩ = some (.slice af s.nf cf)
  low : n0 ≤ B
  hu : 0 < s.nu → au = some ⟨gu, 0, none⟩ ∧ n0 ≤ gu ∧ gu ≠ B ∧ gu < n1
  hf : 0 < s.nf → af = some ⟨gf, 0, none⟩ ∧ n0 ≤ gf ∧ gf ≠ B ∧ gf < n1
  ne : 0 < s.nu → 0 < s.nf → gu ≠ gf
  u0 : ∀ i, i < s.nu → W.cell? ⟨gu, i, none⟩ = some (.int .i64 (s.saw i : Int))
  r0 : ∀ i, i < s.nu → W.frozen? ⟨gu, i, none⟩ = false
  f0 : ∀ i, i < s.nf → W.cell? ⟨gf, i * 2, none⟩ = some (.int .i64 (s.tr i : Int))
  f1 : ∀ i, i < s.nf → W.cell? ⟨gf, i * 2 + 1, none⟩ = some (.int .i64 (s.hol i : Int))
  q1 : ∀ i, i < s.nf → W.frozen? ⟨gf, i * 2 + 1, none⟩ = false
section
variable {n0 n1 B gu gf cu cf : Nat} {au af : Option Addr} {W W' : World} {s : WallSt}
theorem WMon.ltB (h : WMon n0 n1 B au af gu gf cu cf W s) : B < W.heap.size := World.block_lt_of_cell? W _ h.c0
theorem WMon.ltu (h : WMon n0 n1 B au af gu gf cu cf W s) {i : Nat} (hi : i < s.nu) : gu < W.heap.size := World.block_lt_of_cell? W _ (h.u0 i hi)
theorem WMon.ltf (h : WMon n0 n1 B au af gu gf cu cf W s) {i : Nat} (hi : i < s.nf) : gf < W.heap.size := World.block_lt_of_cell? W _ (h.f0 i hi)
theorem WMon.kept (h : WMon n0 n1 B au af gu gf cu cf W s) (hc : ∀ a v, W.cell? a = some v → W'.cell? a = some v) (hz : ∀ a v, W.cell? a = some v → W'.frozen? a = W.frozen? a) : WMon n0 n1 B au af gu gf cu cf W' s :=
  ⟨hc _ _ h.c0, hc _ _ h.c1, h.low, h.hu, h.hf, h.ne, fun i hi => hc _ _ (h.u0 i hi), fun i hi => (hz _ _ (h.u0 i hi)).trans (h.r0 i hi), fun i hi => hc _ _ (h.f0 i hi), fun i hi => hc _ _ (h.f1 i hi), fun i hi => (hz _ _ (h.f1 i hi)).trans (h.q1 i hi)⟩
theorem WMon.below (h : WMon n0 n1 B au af gu gf cu cf W s) (b : Below W.heap.size W W') : WMon n0 n1 B au af gu gf cu cf W' s :=
  h.kept (fun _ _ e => keep_cell b e) (fun _ _ e => b.frozen (World.block_lt_of_cell? W _ e))
theorem WMon.drawn (h : WMon n0 n1 B au af gu gf cu cf W s) (k : Nat) : WMon n0 n1 B au af gu gf cu cf (W.drewN k) s :=
  ⟨h.c0, h.c1, h.low, h.hu, h.hf, h.ne, h.u0, h.r0, h.f0, h.f1, h.q1⟩
theorem WMon.drew (h : WMon n0 n1 B au af gu gf cu cf W s) : WMon n0 n1 B au af gu gf cu cf W.drew s := h.drawn 1
/-- A cell of another block is put. -/
theorem WMon.far (h : WMon n0 n1 B au af gu gf cu cf W s) {X o : Nat} (hX : n1 ≤ X) (hB : B < n1) (v : Value) : WMon n0 n1 B au af gu gf cu cf (W.setCell ⟨X, o, none⟩ v) s := by
  refine ⟨(cell_far (by omega)).trans h.c0, (cell_far (by omega)).trans h.c1, h.low, h.hu, h.hf, h.ne, fun i hi => ?_, fun i hi => (World.frozen?_setCell _ _ _ _).trans (h.r0 i hi), fun i hi => ?_, fun i hi => ?_, fun i hi => (World.frozen?_setCell _ _ _ _).trans (h.q1 i hi)⟩
  · have := (h.hu (by omega)).2.2.2
    exact (cell_far (by omega)).trans (h.u0 i hi)
  · have := (h.hf (by omega)).2.2.2
    exact (cell_far (by omega)).trans (h.f0 i hi)
  · have := (h.hf (by omega)).2.2.2
    exact (cell_far (by omega)).trans (h.f1 i hi)
/-- What a user saw is put. -/
theorem WMon.putS (h : WMon n0 n1 B au af gu gf cu cf W s) {u v : Nat} (hu : u < s.nu) : WMon n0 n1 B au af gu gf cu cf (W.setCell ⟨gu, u, none⟩ (.int .i64 (v : Int))) { s with saw := upd s.saw u v } := by
  have hB := (h.hu (by omega)).2.2.1
  refine ⟨(cell_far (by omega)).trans h.c0, (cell_far (by omega)).trans h.c1, h.low, h.hu, h.hf, h.ne, fun i hi => ?_,
    fun i hi => (World.frozen?_setCell _ _ _ _).trans (h.r0 i hi), fun i hi => (cell_far fun e => h.ne (by omega) (by simp only at hi; omega) e.1.symm).trans (h.f0 i hi), fun i hi => (cell_far fun e => h.ne (by omega) (by simp only at hi; omega) e.1.symm).trans (h.f1 i hi), fun i hi => (World.frozen?_setCell _ _ _ _).trans (h.q1 i hi)⟩
  by_cases e : i = u
  · subst e
    rw [World.cell?_setCell_same' _ _ _ (by rw [h.u0 i hu]; rfl)]
    simp only [upd_same]
  · rw [cell_far (by omega), h.u0 i hi]
    simp only [upd_other _ e]
/-- What a firm's files hold is put. -/
theorem WMon.putH (h : WMon n0 n1 B au af gu gf cu cf W s) {f v : Nat} (hf : f < s.nf) : WMon n0 n1 B au af gu gf cu cf (W.setCell ⟨gf, f * 2 + 1, none⟩ (.int .i64 (v : Int))) { s with hol := upd s.hol f v } := by
  have hB := (h.hf (by omega)).2.2.1
  refine ⟨(cell_far (by omega)).trans h.c0, (cell_far (by omega)).trans h.c1, h.low, h.hu, h.hf, h.ne, fun i hi => (cell_far fun e => h.ne (by simp only at hi; omega) (by omega) e.1).trans (h.u0 i hi),
    fun i hi => (World.frozen?_setCell _ _ _ _).trans (h.r0 i hi), fun i hi => (cell_far (by omega)).trans (h.f0 i hi), fun i hi => ?_, fun i hi => (World.frozen?_setCell _ _ _ _).trans (h.q1 i hi)⟩
  by_cases e : i = f
  · subst e
    rw [World.cell?_setCell_same' _ _ _ (by rw [h.f1 i hf]; rfl)]
    simp only [upd_same]
  · rw [cell_far (by omega), h.f1 i hi]
    simp only [upd_other _ e]
end

/-- Is one of the things of a set so? -/
def anyB (m set : Nat) (p : Nat → Bool) : Bool := (List.range m).any fun g => set.testBit g && p g
theorem anyB_iff (m set : Nat) (p : Nat → Bool) : anyB m set p = true ↔ ∃ g, g < m ∧ set.testBit g = true ∧ p g = true := by
  simp only [anyB, List.any_eq_true, List.mem_range, Bool.and_eq_true]
theorem anyB_no (m set : Nat) (p : Nat → Bool) : anyB m set p = false ↔ ∀ g, g < m → set.testBit g = true → p g = false := by
  rw [← Bool.not_eq_true, anyB_iff]
  constructor
  · intro h g hg hb
    cases hp : p g with
    | false => rfl
    | true => exact absurd ⟨g, hg, hb, hp⟩ h
  · rintro h ⟨g, hg, hb, hp⟩
    rw [h g hg hb] at hp
    cases hp
/-- All that the files of the first firms of a set hold. -/
def holOr (set : Nat) (hol : Nat → Nat) : Nat → Nat
  | 0 => 0
  | k + 1 => if set.testBit k then holOr set hol k ||| hol k else holOr set hol k
theorem holOr_bit (set : Nat) (hol : Nat → Nat) (k j : Nat) : (holOr set hol k).testBit j = true ↔ ∃ g, g < k ∧ set.testBit g = true ∧ (hol g).testBit j = true := by
  induction k with
  | zero => simp [holOr]
  | succ k ih =>
    unfold holOr
    split
    · rename_i hb
      rw [Nat.testBit_or, Bool.or_eq_true, ih]
      constructor
      · rintro (⟨g, hg, h⟩ | h)
        · exact ⟨g, by omega, h⟩
        · exact ⟨k, by omega, hb, h⟩
      · rintro ⟨g, hg, h1, h2⟩
        by_cases e : g = k
        · subst e; exact .inr h2
        · exact .inl ⟨g, by omega, h1, h2⟩
    · rename_i hb
      rw [ih]
      constructor
      · rintro ⟨g, hg, h⟩; exact ⟨g, by omega, h⟩
      · rintro ⟨g, hg, h1, h2⟩
        by_cases e : g = k
        · subst e; exact absurd h1 hb
        · exact ⟨g, by omega, h1, h2⟩
theorem holOr_lt {set m : Nat} {hol : Nat → Nat} (h : ∀ i, i < m → hol i < 2 ^ m) (k : Nat) (hk : k ≤ m) : holOr set hol k < 2 ^ m :=
  lt_of_bits fun j hj => by
    obtain ⟨g, hg, _, hb⟩ := (holOr_bit set hol k j).1 hj
    exact bit_lt (h g (by omega)) hb
/-- Is a firm one that bars the user? -/
def isRival (s : WallSt) (f g : Nat) : Bool := (s.tr g != 0) && (s.tr g == s.tr f)
def isClosed (s : WallSt) (g : Nat) : Bool := s.tr g != 0
/-- What any ask comes to. -/
def askWall (s : WallSt) (k u f : Int) : Int × WallSt :=
  if inB u s.nu && inB f s.nf then
    if k = 0 then
      if anyB s.nf (less (s.saw u.toNat) (2 ^ f.toNat)) (isRival s f.toNat) then (7, s) else (0, { s with saw := upd s.saw u.toNat (s.saw u.toNat ||| 2 ^ f.toNat) })
    else if k = 1 then
      if anyB s.nf (less (s.saw u.toNat) (2 ^ f.toNat)) (isClosed s) then (7, s) else (0, { s with hol := upd s.hol f.toNat (s.hol f.toNat ||| holOr (s.saw u.toNat) s.hol s.nf) })
    else (1, s)
  else (1, s)
/-- A wall as it begins. -/
def newWall (n m : Nat) (zs : List Int) : WallSt :=
  { nu := n, nf := m, tr := fun i => (zs[i]?.getD 0).toNat, saw := fun _ => 0, hol := fun i => 2 ^ i }
theorem newWall_ok {n m : Nat} {zs : List Int} (hn : n ≤ 8) (hm : m ≤ 8) (hz : AllLev m zs) : WallOk (newWall n m zs) :=
  ⟨hn, hm, fun i hi => (lev_cast (hz i hi)).2, fun _ _ => Nat.two_pow_pos _, fun _ hi => Nat.pow_lt_pow_right (by decide) hi⟩
theorem upd_lt {f : Nat → Nat} {n b k v : Nat} (h : ∀ i, i < n → f i < b) (hv : v < b) : ∀ i, i < n → upd f k v i < b := by
  intro i hi
  unfold upd
  split
  · exact hv
  · exact h i hi
theorem pow_lt_of {f m : Nat} (h : f < m) : 2 ^ f < 2 ^ m := Nat.pow_lt_pow_right (by decide) h
theorem askWall_ok {s : WallSt} (ok : WallOk s) (k u f : Int) : WallOk (askWall s k u f).2 := by
  obtain ⟨a1, a2, a3, a4, a5⟩ := id ok
  unfold askWall
  split
  · rename_i h
    rw [Bool.and_eq_true, inB_iff, inB_iff] at h
    have l1 := a4 u.toNat (by omega)
    have l2 := a5 f.toNat (by omega)
    have lf : f.toNat < s.nf := by omega
    split
    · split
      · exact ok
      · exact ⟨a1, a2, a3, upd_lt a4 (Nat.or_lt_two_pow l1 (pow_lt_of lf)), a5⟩
    · split
      · split
        · exact ok
        · exact ⟨a1, a2, a3, a4, upd_lt a5 (Nat.or_lt_two_pow l2 (holOr_lt a5 _ (Nat.le_refl _)))⟩
      · exact ok
  · exact ok
/-- What never changes of a wall. -/
structure WAlike (a s : WallSt) : Prop where
  nu : s.nu = a.nu
  nf : s.nf = a.nf
  tr : s.tr = a.tr
theorem WAlike.refl (s : WallSt) : WAlike s s := ⟨rfl, rfl, rfl⟩
theorem WAlike.trans {a b c : WallSt} (h : WAlike a b) (k : WAlike b c) : WAlike a c := ⟨k.nu.trans h.nu, k.nf.trans h.nf, k.tr.trans h.tr⟩
theorem askWall_alike (s : WallSt) (k u f : Int) : WAlike s (askWall s k u f).2 := by
  unfold askWall
  split
  · split
    · split <;> exact ⟨rfl, rfl, rfl⟩
    · split
      · split <;> exact ⟨rfl, rfl, rfl⟩
      · exact .refl _
  · exact .refl _
end Go.Proofs.YtkkhcgapfklmjaaDoor
