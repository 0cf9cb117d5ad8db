/- What the laws FlowFrom and FlowQuiet ask, plainly. -/
import Derived.Test.YtioimgeeamchaaaDoorFloD
import Derived.Test.YtioimgeeamchaaaDoorRunI
namespace Go.Proofs.YtioimgeeamchaaaDoor
open Go.RowKit
set_option maxRecDepth 100000
set_option linter.unusedVariables false

theorem nm_lt {l : List Nod} (hG : Good l) : ∀ (m i : Nat), i < m → i < l.length → (nthD l i).kd < 5 → ∀ w, (nm l i).testBit w = true → w < 6
  | 0, _, h, _, _ => absurd h (by omega)
  | m + 1, i, him, hi, h5 => fun w hw => by
    have hkd := hG.kd hi
    by_cases h0 : (nthD l i).kd = 0
    · rw [nm_num h0] at hw; simp at hw
    by_cases h1 : (nthD l i).kd = 1
    · obtain ⟨k, ek, hk⟩ := hG.var hi (.inl h1)
      rw [nm_var h1, ek, Int.toNat_natCast, Nat.testBit_two_pow] at hw
      have : k = w := by simpa using hw
      omega
    · have h2 : 2 ≤ (nthD l i).kd ∧ (nthD l i).kd ≤ 4 := by omega
      obtain ⟨a, b, ea, eb, ha, hb, ka, kb⟩ := hG.two hi h2
      rw [nm_two hG.r.wf hi h2, ea, eb, Int.toNat_natCast, Int.toNat_natCast, Nat.testBit_or, Bool.or_eq_true] at hw
      rcases hw with hw | hw
      · exact nm_lt hG m a (by omega) (by omega) ka w hw
      · exact nm_lt hG m b (by omega) (by omega) kb w hw
/-- What flows into each variable at once, as bits. -/
def rowF (l : List Nod) (v : Nat) : Nat := flE l.length l (l.length - 1) 0 v
theorem flE_lt {l : List Nod} (hG : Good l) : ∀ (k i : Nat), i < l.length → 5 ≤ (nthD l i).kd → ∀ c v w, (∀ w, c.testBit w = true → w < 6) → (flE k l i c v).testBit w = true → w < 6
  | 0, _, _, _, c, v, w, _, h => by simp [flE] at h
  | k + 1, i, hi, h5, c, v, w, hc, h => by
    have hkd := hG.kd hi
    rw [flE] at h
    by_cases h6 : (nthD l i).kd = 6
    · rw [if_pos h6] at h
      obtain ⟨a, k0, ea, ek, ha, hk0, ka⟩ := hG.setN hi h6
      split at h
      · rw [Nat.testBit_or, Bool.or_eq_true, ea, Int.toNat_natCast] at h
        exact h.elim (nm_lt hG (a + 1) a (Nat.lt_succ_self _) (by omega) ka w) (hc w)
      · simp at h
    rw [if_neg h6] at h
    by_cases h7 : (nthD l i).kd = 7
    · rw [if_pos h7, Nat.testBit_or, Bool.or_eq_true] at h
      obtain ⟨⟨a1, b1⟩, a2, b2⟩ := hG.both hi h7
      exact h.elim (flE_lt hG k _ (by omega) b1 c v w hc) (flE_lt hG k _ (by omega) b2 c v w hc)
    rw [if_neg h7] at h
    by_cases h8 : (nthD l i).kd = 8
    · obtain ⟨a, b, d, ea, eb, ed, ha, hb, hd, ka, kb, kd⟩ := hG.ifN hi h8
      have hc2 : ∀ w, (c ||| nm l a).testBit w = true → w < 6 := fun w hw => by
        rw [Nat.testBit_or, Bool.or_eq_true] at hw
        exact hw.elim (hc w) (nm_lt hG (a + 1) a (Nat.lt_succ_self _) (by omega) ka w)
      rw [if_pos h8, ea, eb, ed, Int.toNat_natCast, Int.toNat_natCast, Int.toNat_natCast, Nat.testBit_or, Bool.or_eq_true] at h
      exact h.elim (flE_lt hG k b (by omega) kb _ v w hc2) (flE_lt hG k d (by omega) kd _ v w hc2)
    rw [if_neg h8] at h
    by_cases h9 : (nthD l i).kd = 9
    · obtain ⟨a, b, ea, eb, ha, hb, ka, kb⟩ := hG.whlN hi h9
      have hc2 : ∀ w, (c ||| nm l a).testBit w = true → w < 6 := fun w hw => by
        rw [Nat.testBit_or, Bool.or_eq_true] at hw
        exact hw.elim (hc w) (nm_lt hG (a + 1) a (Nat.lt_succ_self _) (by omega) ka w)
      rw [if_pos h9, ea, eb, Int.toNat_natCast, Int.toNat_natCast] at h
      exact flE_lt hG k b (by omega) kb _ v w hc2 h
    · rw [if_neg h9] at h; simp at h
theorem rowF_lt {l : List Nod} (hG : Good l) {v w : Nat} (h : (rowF l v).testBit w = true) : w < 6 := by
  have := hG.r.some
  exact flE_lt hG _ _ (by omega) hG.r.deed 0 v w (fun w hw => by simp at hw) h
/-- Runs that begin alike in a set into which nothing else flows. -/
theorem runs_alike {l : List Nod} {S : Nat → Prop} (hS : ∀ v w, S v → (rowF l v).testBit w = true → S w) {n : Nat} {a b : Nat → Int} {F G : Int} {x y : (Nat → Int) × Nat} (h1 : runIs l n a F = .ok x) (h2 : runIs l n b G = .ok y) (hab : ∀ v, S v → a v = b v) : ∀ v, S v → x.1 v = y.1 v := by
  obtain ⟨hG, -, -, f, -, -, p, hp, -⟩ := runIs_ok h1
  obtain ⟨-, -, -, g, -, -, q, hq, -⟩ := runIs_ok h2
  have := hG.r.some
  have hO : OkF S l.length l (l.length - 1) := okF_of _ _ 0 fun v w hv hw => hS v w hv hw
  intro v hv
  exact quiet hG _ _ (by omega) hG.r.deed l.length (by omega) hO _ _ _ _ _ _ _ hab hp hq v hv
/-- FlowFrom: c is what flows into what, in so many steps. -/
theorem flow_from {l : List Nod} {c : Nat → Nat → Bool} (hc : Flw c) (hr : ∀ v w, v < 6 → w < 6 → (rowF l v).testBit w = true → c v w = true) {k n : Nat} (hn : n < 6) {a b : Nat → Int} {F G : Int} {x y : (Nat → Int) × Nat} (h1 : runIs l k a F = .ok x) (h2 : runIs l k b G = .ok y)
    (hab : ∀ i, i < 6 → c n i = true → a i = b i) : x.1 n = y.1 n := by
  have hG := good_of (runIs_pro h1)
  exact runs_alike (S := fun v => v < 6 ∧ c n v = true) (fun v w hv hw => ⟨rowF_lt hG hw, hc.tr n v w hn hv.1 (rowF_lt hG hw) hv.2 (hr v w hv.1 (rowF_lt hG hw) hw)⟩) h1 h2 (fun v hv => hab v hv.1 hv.2) n ⟨hn, hc.re n hn⟩
/-- FlowQuiet. -/
theorem flow_quiet {l : List Nod} {c : Nat → Nat → Bool} (hr : ∀ v w, v < 6 → w < 6 → (rowF l v).testBit w = true → c v w = true) {lv : Nat → Int} (hf : FitsP c lv) (level : Int) {k : Nat} {a b : Nat → Int} {F G : Int} {x y : (Nat → Int) × Nat} (h1 : runIs l k a F = .ok x) (h2 : runIs l k b G = .ok y)
    (hab : ∀ i, i < 6 → lv i ≤ level → a i = b i) : ∀ i, i < 6 → lv i ≤ level → x.1 i = y.1 i := by
  have hG := good_of (runIs_pro h1)
  intro i hi hl
  exact runs_alike (S := fun v => v < 6 ∧ lv v ≤ level) (fun v w hv hw => ⟨rowF_lt hG hw, level_closed hf level hv.1 (rowF_lt hG hw) hv.2 (hr v w hv.1 (rowF_lt hG hw) hw)⟩) h1 h2 (fun v hv => hab v hv.1 hv.2) i ⟨hi, hl⟩
end Go.Proofs.YtioimgeeamchaaaDoor
