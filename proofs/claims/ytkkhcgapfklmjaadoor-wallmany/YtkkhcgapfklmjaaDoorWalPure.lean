/- Plain facts on walls: of two rivals one, nothing of a firm comes to another one, as many users as rivals. -/
import Derived.WalkKit
import Derived.Test.YtkkhcgapfklmjaaDoorWalFact
import Derived.Test.YtkkhcgapfklmjaaDoorWith
namespace Go.Proofs.YtkkhcgapfklmjaaDoor
open Go.RowKit
set_option maxRecDepth 100000

/-- Of two rivals one. -/
def Rivs (s : WallSt) : Prop := ∀ u, u < s.nu → ∀ f g, f < s.nf → g < s.nf → f ≠ g → s.tr f ≠ 0 → s.tr f = s.tr g → (s.saw u).testBit f = true → (s.saw u).testBit g = true → False
/-- Files hold something of their own firm, and of open ones. -/
structure Holds1 (s : WallSt) : Prop where
  own : ∀ f, f < s.nf → (s.hol f).testBit f = true
  far : ∀ f g, f < s.nf → g < s.nf → g ≠ f → (s.hol f).testBit g = true → s.tr g = 0
theorem rivs_new (n m : Nat) (zs : List Int) : Rivs (newWall n m zs) := fun u _ f g _ _ _ _ _ hb _ => by simp [newWall] at hb
theorem holds_new (n m : Nat) (zs : List Int) : Holds1 (newWall n m zs) := by
  refine ⟨fun f _ => ?_, fun f g _ _ hne hb => ?_⟩
  · simp [newWall]
  · simp only [newWall, Nat.testBit_two_pow, decide_eq_true_eq] at hb
    omega
theorem less_bit1 (x f g : Nat) : (less x (2 ^ f)).testBit g = true ↔ x.testBit g = true ∧ f ≠ g := less_self_bit x f g
theorem rivs_ask {s : WallSt} (h : Rivs s) (k u f : Int) : Rivs (askWall s k u f).2 := by
  unfold askWall
  split
  · rename_i hin
    rw [Bool.and_eq_true, inB_iff, inB_iff] at hin
    split
    · split
      · exact h
      · rename_i hno
        have hno' : anyB s.nf (less (s.saw u.toNat) (2 ^ f.toNat)) (isRival s f.toNat) = false := by simpa using hno
        rw [anyB_no] at hno'
        have key : ∀ g, g < s.nf → g ≠ f.toNat → s.tr g ≠ 0 → s.tr g = s.tr f.toNat → (s.saw u.toNat).testBit g = true → False := fun g hg hne h0 he hb => by
          have q := hno' g hg ((less_bit1 _ _ _).2 ⟨hb, fun e => hne e.symm⟩)
          simp [isRival, he] at q
          exact h0 (he.trans q)
        intro v hv a b ha hb hne h0 he ba bb
        simp only at hv ha hb h0 he
        by_cases e : v = u.toNat
        · subst e
          simp only [upd_same, Nat.testBit_or, Nat.testBit_two_pow, Bool.or_eq_true, decide_eq_true_eq] at ba bb
          rcases ba with ba | ba
          · rcases bb with bb | bb
            · exact h _ hv a b ha hb hne h0 he ba bb
            · subst bb
              exact key a ha hne h0 he ba
          · subst ba
            rcases bb with bb | bb
            · exact key b hb (fun e => hne e.symm) (fun e => h0 (he.trans e)) he.symm bb
            · exact hne bb
        · simp only [upd_other _ e] at ba bb
          exact h v hv a b ha hb hne h0 he ba bb
    · split
      · split
        · exact h
        · exact h
      · exact h
  · exact h
/-- What one saw once one may see again, and nothing changes. -/
theorem again {s : WallSt} (h : Rivs s) {u f : Nat} (hu : u < s.nu) (hf : f < s.nf) (hb : (s.saw u).testBit f = true) : askWall s 0 u f = (0, s) := by
  unfold askWall
  rw [if_pos (by rw [Bool.and_eq_true, inB_iff, inB_iff]; omega), if_pos rfl, Int.toNat_natCast, Int.toNat_natCast]
  have hno : anyB s.nf (less (s.saw u) (2 ^ f)) (isRival s f) = false := (anyB_no _ _ _).2 fun g hg hg2 => by
    obtain ⟨h1, h2⟩ := (less_bit1 _ _ _).1 hg2
    cases hr : isRival s f g with
    | false => rfl
    | true =>
      simp only [isRival, Bool.and_eq_true, bne_iff_ne, beq_iff_eq] at hr
      exact (h u hu g f hg hf (fun e => h2 e.symm) hr.1 hr.2 h1 hb).elim
  have he : s.saw u ||| 2 ^ f = s.saw u := (with_same _ _ hb).symm
  rw [if_neg (by rw [hno]; simp), he, upd_id]
theorem holds_ask {s : WallSt} (h : Holds1 s) (k u f : Int) : Holds1 (askWall s k u f).2 := by
  unfold askWall
  split
  · rename_i hin
    rw [Bool.and_eq_true, inB_iff, inB_iff] at hin
    split
    · split
      · exact h
      · exact ⟨h.own, h.far⟩
    · split
      · split
        · exact h
        · rename_i hno
          have hno' : anyB s.nf (less (s.saw u.toNat) (2 ^ f.toNat)) (isClosed s) = false := by simpa using hno
          rw [anyB_no] at hno'
          have key : ∀ g, g < s.nf → g ≠ f.toNat → (s.saw u.toNat).testBit g = true → s.tr g = 0 := fun g hg hne hb => by
            have q := hno' g hg ((less_bit1 _ _ _).2 ⟨hb, fun e => hne e.symm⟩)
            simpa [isClosed] using q
          refine ⟨fun a ha => ?_, fun a b ha hb hne hbit => ?_⟩
          · simp only at ha ⊢
            by_cases e : a = f.toNat
            · subst e
              rw [upd_same, Nat.testBit_or, h.own _ ha, Bool.true_or]
            · rw [upd_other _ e]
              exact h.own a ha
          · simp only at ha hb hbit ⊢
            by_cases e : a = f.toNat
            · subst e
              rw [upd_same, Nat.testBit_or, Bool.or_eq_true] at hbit
              rcases hbit with hbit | hbit
              · exact h.far _ b ha hb hne hbit
              · obtain ⟨g, hg, hs, hgb⟩ := (holOr_bit _ _ _ _).1 hbit
                by_cases eg : g = f.toNat
                · subst eg
                  exact h.far _ b ha hb hne hgb
                · by_cases eb : b = g
                  · subst eb
                    exact key b hb eg hs
                  · exact h.far g b hg hb eb hgb
            · rw [upd_other _ e] at hbit
              exact h.far a b ha hb hne hbit
      · exact h
  · exact h
/-- How many of the first things are so. -/
def cnt (p : Nat → Bool) : Nat → Nat
  | 0 => 0
  | k + 1 => cnt p k + (if p k then 1 else 0)
theorem cnt_le (p : Nat → Bool) (k : Nat) : cnt p k ≤ k := by
  induction k with
  | zero => exact Nat.le_refl _
  | succ k ih =>
    unfold cnt
    split <;> omega
theorem cnt_or {p q r : Nat → Bool} {m : Nat} (h : ∀ i, i < m → p i = true → q i = true ∨ r i = true) : cnt p m ≤ cnt q m + cnt r m := by
  induction m with
  | zero => exact Nat.le_refl _
  | succ k ih =>
    have ih' := ih fun i hi => h i (by omega)
    have hk := h k (by omega)
    unfold cnt
    cases hp : p k <;> cases hq : q k <;> cases hr : r k <;> simp_all <;> omega
theorem cnt_one {p : Nat → Bool} {m : Nat} (h : ∀ i j, i < m → j < m → p i = true → p j = true → i = j) : cnt p m ≤ 1 := by
  induction m with
  | zero => exact Nat.zero_le _
  | succ k ih =>
    have ih' := ih fun i j hi hj => h i j (by omega) (by omega)
    unfold cnt
    cases hp : p k with
    | false => simpa using ih'
    | true =>
      have h0 : ∀ n, n ≤ k → cnt p n = 0 := by
        intro n hn
        induction n with
        | zero => rfl
        | succ n ihn =>
          have : p n = false := by
            cases hpn : p n with
            | false => rfl
            | true => have := h n k (by omega) (by omega) hpn hp; omega
          unfold cnt
          rw [ihn (by omega), this]
          rfl
      rw [h0 k (Nat.le_refl _)]
      simp
/-- Did one of the first users see a firm? -/
def anyU (saw : Nat → Nat) (f : Nat) : Nat → Bool
  | 0 => false
  | k + 1 => anyU saw f k || (saw k).testBit f
theorem many_le {s : WallSt} (h : Rivs s) (t : Nat) (ht : t ≠ 0) (n : Nat) (hn : n ≤ s.nu) : cnt (fun f => anyU s.saw f n && (s.tr f == t)) s.nf ≤ n := by
  induction n with
  | zero =>
    have : ∀ k, cnt (fun f => anyU s.saw f 0 && (s.tr f == t)) k = 0 := by
      intro k
      induction k with
      | zero => rfl
      | succ k ih => unfold cnt; rw [ih]; simp [anyU]
    rw [this]
    exact Nat.le_refl _
  | succ n ih =>
    have h1 := cnt_or (m := s.nf) (p := fun f => anyU s.saw f (n + 1) && (s.tr f == t)) (q := fun f => anyU s.saw f n && (s.tr f == t)) (r := fun f => (s.saw n).testBit f && (s.tr f == t)) (fun i _ hi => by
      simp only [anyU, Bool.and_eq_true, Bool.or_eq_true] at hi ⊢
      rcases hi with ⟨h | h, h'⟩
      · exact .inl ⟨h, h'⟩
      · exact .inr ⟨h, h'⟩)
    have h2 := cnt_one (m := s.nf) (p := fun f => (s.saw n).testBit f && (s.tr f == t)) (fun i j hi hj bi bj => by
      simp only [Bool.and_eq_true, beq_iff_eq] at bi bj
      refine Classical.byContradiction fun hne => ?_
      exact h n (by omega) i j hi hj hne (by rw [bi.2]; exact ht) (bi.2.trans bj.2.symm) bi.1 bj.1)
    have h3 := ih (by omega)
    omega
theorem waAskIs {w wr : World} {n0 n1 B gu gf cu cf : Nat} {au af : Option Addr} {s : WallSt} (hT : Tab w) (hn0 : w.heap.size ≤ n0) (ok : WallOk s) (k u f t : Int) (hB : Below w.heap.size w wr) (hM : WMon n0 n1 B au af gu gf cu cf wr s) :
    Calls Tryd.prog 9 #[.pointer (some ⟨B, 0, none⟩), ask4 k u f t] wr fun e w' => e = .returned (errV (askWall s k u f).1) ∧ WMon n0 n1 B au af gu gf cu cf w' (askWall s k u f).2 ∧ Below w.heap.size w w' := by
  have hs := hT.size
  have lB := hM.ltB
  have lo := hM.low
  exact (waAsk_any hM ok (hT.below hB hs) (by omega) k u f t).mono fun e w' ⟨he, hM', hBt⟩ => ⟨he, hM', hB.trans ((hBt.below (by omega)).mono hn0)⟩
theorem wlevs_nat {w : World} {a : Option Addr} {n : Nat} {zs : List Int} (h : AtNums w a n zs) (hz : AllLev n zs) (hn : 0 < n) : ∃ b off, a = some ⟨b, off, none⟩ ∧ ∀ W, Below w.heap.size w W → ∀ i, i < n → W.cell? ⟨b, off + i, none⟩ = some (.int .i64 ((zs[i]?.getD 0).toNat : Int)) := by
  rcases h with h | ⟨b, off, e, hl⟩
  · omega
  · refine ⟨b, off, e, fun W hW i hi => ?_⟩
    rw [hW.cell (p := ⟨b, off + i, none⟩) hl.old, hl.cell i hi, ← (lev_cast (hz i hi)).1]
theorem upto100w (q : Nat) : ∃ Z, (Z = q ∧ q ≤ 100) ∨ (Z = 100 ∧ 100 < q) := by
  by_cases h : q ≤ 100
  · exact ⟨q, .inl ⟨rfl, h⟩⟩
  · exact ⟨100, .inr ⟨rfl, by omega⟩⟩
end Go.Proofs.YtkkhcgapfklmjaaDoor
