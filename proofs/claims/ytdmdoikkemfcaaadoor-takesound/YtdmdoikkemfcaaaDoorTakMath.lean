/- Nothing that is done changes who can come to a right. -/
import Derived.Test.YtdmdoikkemfcaaaDoorTakCan
namespace Go.Proofs.YtdmdoikkemfcaaaDoor

/-- Come to by links. -/
def CnN (g : Gr) : Nat → Nat → Nat → Prop
  | 0, x, z => x = z
  | k + 1, x, z => ∃ y, linkB g x y = true ∧ y < g.n ∧ CnN g k y z
def Cn (g : Gr) (x z : Nat) : Prop := ∃ k, CnN g k x z
theorem Cn.refl {g : Gr} (x : Nat) : Cn g x x := ⟨0, rfl⟩
theorem Cn.step {g : Gr} {x y z : Nat} (h1 : linkB g x y = true) (h2 : y < g.n) (h : Cn g y z) : Cn g x z := let ⟨k, hk⟩ := h; ⟨k + 1, y, h1, h2, hk⟩
theorem Cn.ind {g : Gr} {motive : (x z : Nat) → Cn g x z → Prop} (refl : ∀ x, motive x x (.refl x)) (step : ∀ {x y z : Nat} (h1 : linkB g x y = true) (h2 : y < g.n) (h : Cn g y z), motive y z h → motive x z (.step h1 h2 h)) {x z : Nat} (h : Cn g x z) : motive x z h := by
  obtain ⟨k, hk⟩ := h
  have : ∀ (k x z : Nat) (hk : CnN g k x z), motive x z ⟨k, hk⟩ := fun k => by
    induction k with
    | zero => intro x z hk; cases (show x = z from hk); exact refl x
    | succ k ih => intro x z hk; obtain ⟨y, h1, h2, h3⟩ := hk; exact step h1 h2 ⟨k, h3⟩ (ih y z h3)
  exact this k x z hk
theorem Cn.trans {g : Gr} {x y z : Nat} (h : Cn g x y) (k : Cn g y z) : Cn g x z := by
  induction h using Cn.ind with
  | refl => exact k
  | step h1 h2 _ ih => exact .step h1 h2 (ih k)
theorem Cn.one {g : Gr} {x y : Nat} (h : linkB g x y = true) (hy : y < g.n) : Cn g x y := .step h hy (.refl y)
theorem Cn.lt {g : Gr} {x y : Nat} (h : Cn g x y) (hx : x < g.n) : y < g.n := by
  induction h using Cn.ind with
  | refl => exact hx
  | step _ h2 _ ih => exact ih h2
theorem lkRows_bit {g : Gr} {x y : Nat} (hx : x < g.n) : ((lkRows g).getD x 0).testBit y = true ↔ y < g.n ∧ linkB g x y = true := by
  unfold lkRows
  rw [listOf_get _ hx, lkN_bit]
theorem canP_iff {g : Gr} {r x y : Nat} (hx : x < g.n) : CanP g r x y ↔ ∃ z, Cn g x z ∧ hasB (g.M z y) r = true := by
  constructor
  · rintro ⟨n, h⟩
    induction n generalizing x with
    | zero => exact ⟨x, .refl x, ((holdN_bit g r y x).1 h).2⟩
    | succ n ih =>
      obtain ⟨q, hq, h⟩ := h
      obtain ⟨hq1, hq2⟩ := (lkRows_bit hx).1 hq
      obtain ⟨z, hz, hh⟩ := ih hq1 h
      exact ⟨z, .step hq2 hq1 hz, hh⟩
  · rintro ⟨z, h, hh⟩
    induction h using Cn.ind with
    | refl => exact ⟨0, (holdN_bit g r y _).2 ⟨hx, hh⟩⟩
    | step h1 h2 _ ih =>
      obtain ⟨n, hn⟩ := ih h2 hh
      exact ⟨n + 1, _, (lkRows_bit hx).2 ⟨h2, h1⟩, hn⟩
theorem or_link : ∀ a : Nat, a < 8 → ∀ b, b < 8 → ((a ||| b) &&& 3) ≠ 0 → (a &&& 3) ≠ 0 ∨ (b &&& 3) ≠ 0 := by decide
theorem or_link2 : ∀ a : Nat, a < 8 → ∀ b, b < 8 → (a &&& 3) ≠ 0 → ((a ||| b) &&& 3) ≠ 0 := by decide
theorem sub_link : ∀ a : Nat, a < 8 → ∀ b, b < 8 → hasB a b = true → (b &&& 3) ≠ 0 → (a &&& 3) ≠ 0 := by decide
theorem one_link : ∀ a : Nat, a < 8 → hasB a 1 = true → (a &&& 3) ≠ 0 := by decide
theorem two_link : ∀ a : Nat, a < 8 → hasB a 2 = true → (a &&& 3) ≠ 0 := by decide
theorem or_has : ∀ r ∈ [1, 2, 4], ∀ a : Nat, a < 8 → ∀ b, b < 8 → hasB (a ||| b) r = true → hasB a r = true ∨ hasB b r = true := by decide
theorem or_has2 : ∀ r, r < 8 → ∀ a : Nat, a < 8 → ∀ b, b < 8 → hasB a r = true → hasB (a ||| b) r = true := by decide
theorem or_has3 : ∀ r, r < 8 → ∀ a : Nat, a < 8 → hasB (a ||| r) r = true := by decide
theorem sub_has : ∀ r, r < 8 → ∀ a : Nat, a < 8 → ∀ b, b < 8 → hasB a b = true → hasB b r = true → hasB a r = true := by decide
theorem link1_iff (M : Nat → Nat → Nat) (x y : Nat) : link1 M x y = true ↔ (M x y &&& 3) ≠ 0 := by simp [link1]
theorem linkB_iff (g : Gr) (x y : Nat) : linkB g x y = true ↔ (g.M x y &&& 3) ≠ 0 ∨ (g.M y x &&& 3) ≠ 0 := by
  unfold linkB
  rw [Bool.or_eq_true, link1_iff, link1_iff]
theorem linkB_comm {g : Gr} {x y : Nat} (h : linkB g x y = true) : linkB g y x = true := (linkB_iff g y x).2 ((linkB_iff g x y).1 h).symm

/-- What a step that takes or grants is, where it is done. -/
theorem step_hand {g : Gr} {s : Stp} (hc : stepCode g s = 0) (hk : s.k ≠ 2) : ∃ frm get to r : Nat, frm < g.n ∧ get < g.n ∧ to < g.n ∧ get ≠ to ∧ r < 8 ∧ hasB (g.M frm to) r = true ∧ (hasB (g.M get frm) 1 = true ∨ hasB (g.M frm get) 2 = true) ∧ stepNext g s = ⟨g.n, putR g.M get to r⟩ := by
  unfold stepCode at hc
  split at hc
  · omega
  · rename_i h1
    try rw [if_neg hk] at hc
    split at hc
    · omega
    · rename_i h2
      split at hc
      · rename_i h3
        split at hc
        · omega
        · rename_i h4
          refine ⟨s.of.toNat, s.who.toNat, s.to.toNat, s.r.toNat, by omega, by omega, by omega, by omega, by omega, ?_, .inl ?_, ?_⟩
          · cases q : hasB (g.M s.of.toNat s.to.toNat) s.r.toNat with
            | true => rfl
            | false => exact absurd (.inr (.inr q)) h4
          · cases q : hasB (g.M s.who.toNat s.of.toNat) 1 with
            | true => rfl
            | false => exact absurd (.inr (.inl q)) h4
          · unfold stepNext; rw [if_neg hk, if_pos h3]
      · rename_i h3
        split at hc
        · omega
        · rename_i h4
          refine ⟨s.who.toNat, s.of.toNat, s.to.toNat, s.r.toNat, by omega, by omega, by omega, by omega, by omega, ?_, .inr ?_, ?_⟩
          · cases q : hasB (g.M s.who.toNat s.to.toNat) s.r.toNat with
            | true => rfl
            | false => exact absurd (.inr (.inr q)) h4
          · cases q : hasB (g.M s.who.toNat s.of.toNat) 2 with
            | true => rfl
            | false => exact absurd (.inr (.inl q)) h4
          · unfold stepNext; rw [if_neg hk, if_neg h3]
theorem step_new {g : Gr} {s : Stp} (hc : stepCode g s = 0) (hk : s.k = 2) : ∃ who : Nat, who < g.n ∧ stepNext g s = ⟨g.n + 1, growM g.M g.n who⟩ := by
  unfold stepCode at hc
  split at hc
  · omega
  · exact ⟨s.who.toNat, by omega, by unfold stepNext; rw [if_pos hk]⟩
/-- A step changes nothing of who can. -/
theorem canP_step {g : Gr} (ok : g.Ok) {s : Stp} (hc : stepCode g s = 0) {r x y : Nat} (hr : r = 1 ∨ r = 2 ∨ r = 4) (hx : x < g.n) (hy : y < g.n) :
    CanP (stepNext g s) r x y ↔ CanP g r x y := by
  have hr8 : r < 8 := by omega
  have hrm : r ∈ [1, 2, 4] := by simp; omega
  by_cases hk : s.k = 2
  · obtain ⟨who, hw, e⟩ := step_new hc hk
    rw [e, canP_iff (g := ⟨g.n + 1, growM g.M g.n who⟩) (by simp only; omega), canP_iff hx]
    have mono : ∀ a b, a < g.n → b < g.n → growM g.M g.n who a b = g.M a b := fun a b _ hb => if_neg (by omega)
    constructor
    · rintro ⟨z, hz, hh⟩
      -- a new vertex stands for its maker
      have key : ∀ a c, Cn ⟨g.n + 1, growM g.M g.n who⟩ a c → a < g.n + 1 → Cn g (if a = g.n then who else a) (if c = g.n then who else c) := by
        intro a c h
        induction h using Cn.ind with
        | refl => intro _; exact .refl _
        | @step p q c h1 h2 _ ih =>
          intro hp
          simp only at h2
          have ih := ih h2
          refine Cn.trans ?_ ih
          rw [linkB_iff] at h1
          simp only [growM] at h1
          by_cases ep : p = g.n
          · subst ep
            rw [if_pos rfl]
            by_cases eq : q = g.n
            · subst eq; rw [if_pos rfl]; exact .refl _
            · rw [if_neg eq]
              by_cases ew : q = who
              · subst ew; exact .refl _
              · rw [if_neg (by omega), if_neg (by omega), ok.out _ _ (.inl (Nat.le_refl _)), ok.out _ _ (.inr (Nat.le_refl _))] at h1
                simp at h1
          · rw [if_neg ep]
            by_cases eq : q = g.n
            · subst eq
              rw [if_pos rfl]
              by_cases ew : p = who
              · subst ew; exact .refl _
              · rw [if_neg (by omega), if_neg (by omega), ok.out _ _ (.inl (Nat.le_refl _)), ok.out _ _ (.inr (Nat.le_refl _))] at h1
                simp at h1
            · rw [if_neg eq]
              rw [if_neg (by omega), if_neg (by omega)] at h1
              exact Cn.one ((linkB_iff g p q).2 h1) (by omega)
      have h2 := key x z hz (by omega)
      rw [if_neg (by omega)] at h2
      have hzy : growM g.M g.n who z y = g.M z y := if_neg (by omega)
      simp only at hh
      rw [hzy] at hh
      by_cases ez : z = g.n
      · subst ez
        rw [ok.out _ _ (.inl (Nat.le_refl _))] at hh
        rcases hr with rfl | rfl | rfl <;> exact absurd hh (by decide)
      · rw [if_neg ez] at h2
        exact ⟨z, h2, hh⟩
    · rintro ⟨z, hz, hh⟩
      have key : ∀ a c, Cn g a c → a < g.n → Cn ⟨g.n + 1, growM g.M g.n who⟩ a c := by
        intro a c h
        induction h using Cn.ind with
        | refl => intro _; exact .refl _
        | step h1 h2 _ ih =>
          intro hp
          refine .step ?_ (by simp only; omega) (ih h2)
          rw [linkB_iff] at h1 ⊢
          simp only
          rw [mono _ _ hp h2, mono _ _ h2 hp]; exact h1
      have hzn := hz.lt hx
      exact ⟨z, key x z hz hx, by simp only; rw [mono z y hzn hy]; exact hh⟩
  · obtain ⟨frm, get, to, rr, h1, h2, h3, h4, h5, h6, h7, e⟩ := step_hand hc hk
    have hlk : linkB g get frm = true := by
      rw [linkB_iff]
      rcases h7 with h | h
      · exact .inl (one_link _ (ok.lt _ _) h)
      · exact .inr (two_link _ (ok.lt _ _) h)
    rw [e, canP_iff (g := ⟨g.n, putR g.M get to rr⟩) hx, canP_iff hx]
    constructor
    · rintro ⟨z, hz, hh⟩
      have half : ∀ p q, p < g.n → q < g.n → (putR g.M get to rr p q &&& 3) ≠ 0 → Cn g p q := by
        intro p q hp hq h
        unfold putR at h
        split at h
        · rename_i epq
          rcases or_link _ (ok.lt p q) rr h5 h with h | h
          · exact Cn.one ((linkB_iff g p q).2 (.inl h)) hq
          · have hl := sub_link _ (ok.lt frm to) rr h5 h6 h
            rw [epq.1, epq.2]
            exact .step hlk h1 (Cn.one ((linkB_iff g frm to).2 (.inl hl)) h3)
        · exact Cn.one ((linkB_iff g p q).2 (.inl h)) hq
      have turn : ∀ p q, Cn g p q → p < g.n → Cn g q p := by
        intro p q h
        induction h using Cn.ind with
        | refl => intro _; exact .refl _
        | step k1 k2 _ ih =>
          intro hp
          exact (ih k2).trans (Cn.one (linkB_comm k1) hp)
      have key : ∀ a c, Cn ⟨g.n, putR g.M get to rr⟩ a c → a < g.n → Cn g a c := by
        intro a c h
        induction h using Cn.ind with
        | refl => intro _; exact .refl _
        | step k1 k2 _ ih =>
          intro hp
          simp only at k2
          refine Cn.trans ?_ (ih k2)
          rcases (linkB_iff _ _ _).1 k1 with h | h
          · exact half _ _ hp k2 h
          · exact turn _ _ (half _ _ k2 hp h) k2
      have hz2 := key x z hz hx
      have hzn := hz2.lt hx
      simp only [putR] at hh
      split at hh
      · rename_i ezy
        rcases or_has r hrm _ (ok.lt z y) rr h5 hh with h | h
        · exact ⟨z, hz2, h⟩
        · refine ⟨frm, hz2.trans ?_, ?_⟩
          · rw [ezy.1]; exact Cn.one hlk h1
          · rw [ezy.2]; exact sub_has r hr8 _ (ok.lt frm to) rr h5 h6 h
      · exact ⟨z, hz2, hh⟩
    · rintro ⟨z, hz, hh⟩
      have up : ∀ p q, (g.M p q &&& 3) ≠ 0 → (putR g.M get to rr p q &&& 3) ≠ 0 := by
        intro p q h
        unfold putR
        split
        · exact or_link2 _ (ok.lt p q) rr h5 h
        · exact h
      have key : ∀ a c, Cn g a c → Cn ⟨g.n, putR g.M get to rr⟩ a c := by
        intro a c h
        induction h using Cn.ind with
        | refl => exact .refl _
        | step k1 k2 _ ih =>
          refine .step ?_ k2 ih
          rcases (linkB_iff _ _ _).1 k1 with h | h
          · exact (linkB_iff _ _ _).2 (.inl (up _ _ h))
          · exact (linkB_iff _ _ _).2 (.inr (up _ _ h))
      refine ⟨z, key x z hz, ?_⟩
      simp only [putR]
      split
      · exact or_has2 r hr8 _ (ok.lt z y) rr h5 hh
      · exact hh
theorem stepNext_n {g : Gr} (s : Stp) : g.n ≤ (stepNext g s).n := by
  unfold stepNext
  split
  · simp
  · simp
theorem runG_n (g : Gr) (S : Nat → Stp) : ∀ k, g.n ≤ (runG g S k).n
  | 0 => Nat.le_refl _
  | k + 1 => Nat.le_trans (runG_n g S k) (stepNext_n _)
/-- Steps change nothing of who can. -/
theorem canP_run {g : Gr} (ok : g.Ok) {S : Nat → Stp} {m : Nat} (hc : ∀ i, i < m → stepCode (runG g S i) (S i) = 0) {r x y : Nat} (hr : r = 1 ∨ r = 2 ∨ r = 4) (hx : x < g.n) (hy : y < g.n) :
    CanP (runG g S m) r x y ↔ CanP g r x y := by
  induction m with
  | zero => exact Iff.rfl
  | succ m ih =>
    have hm := runG_n g S m
    have ok2 := runG_ok ok (S := S) (n := m) fun i hi => hc i (by omega)
    have h1 := canP_step ok2 (hc m (by omega)) hr (show x < (runG g S m).n by omega) (show y < (runG g S m).n by omega)
    exact h1.trans (ih fun i hi => hc i (by omega))
theorem canP_has {g : Gr} {r x y : Nat} (hx : x < g.n) (h : hasB (g.M x y) r = true) : CanP g r x y := (canP_iff hx).2 ⟨x, .refl x, h⟩
end Go.Proofs.YtdmdoikkemfcaaaDoor
