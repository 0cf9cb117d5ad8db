/- What is planned can be done. -/
import Derived.Test.YtdmdoikkemfcaaaDoorTakPl
import Derived.Test.YtdmdoikkemfcaaaDoorTakMath
import Derived.Test.YtdmdoikkemfcaaaDoorTakRun
namespace Go.Proofs.YtdmdoikkemfcaaaDoor

/-- The graph behind a list of steps, if all can be done. -/
def runL : Gr → List Stp → Option Gr
  | h, [] => some h
  | h, s :: l => if stepCode h s = 0 then runL (stepNext h s) l else none
theorem runL_append : ∀ (l1 l2 : List Stp) (h h1 : Gr), runL h l1 = some h1 → runL h (l1 ++ l2) = runL h1 l2
  | [], _, h, h1, e => by cases e; rfl
  | s :: l1, l2, h, h1, e => by
    simp only [runL, List.cons_append] at e ⊢
    split at e
    · rename_i hc; rw [if_pos hc]; exact runL_append l1 l2 _ _ e
    · cases e
theorem runG_cons (g : Gr) (s : Stp) (l : List Stp) : ∀ k, runG g (nthS (s :: l)) (k + 1) = runG (stepNext g s) (nthS l) k
  | 0 => rfl
  | k + 1 => by
    show stepNext (runG g (nthS (s :: l)) (k + 1)) (nthS (s :: l) (k + 1)) = _
    rw [runG_cons g s l k]
    rfl
theorem runL_runG : ∀ (l : List Stp) (g h : Gr), runL g l = some h → (∀ i, i < l.length → codes g (nthS l) i = 0) ∧ runG g (nthS l) l.length = h
  | [], g, h, e => by cases e; exact ⟨fun i hi => absurd hi (by simp), rfl⟩
  | s :: l, g, h, e => by
    simp only [runL] at e
    split at e
    · rename_i hc
      obtain ⟨h1, h2⟩ := runL_runG l _ h e
      refine ⟨fun i hi => ?_, ?_⟩
      · cases i with
        | zero => exact hc
        | succ i =>
          show stepCode (runG g (nthS (s :: l)) (i + 1)) (nthS (s :: l) (i + 1)) = 0
          rw [runG_cons]
          exact h1 i (by simpa using hi)
      · rw [List.length_cons, runG_cons]; exact h2
    · cases e
/-- Nothing is lost. -/
def Le (g h : Gr) : Prop := g.n ≤ h.n ∧ ∀ a b r, r < 8 → hasB (g.M a b) r = true → hasB (h.M a b) r = true
theorem Le.refl (g : Gr) : Le g g := ⟨Nat.le_refl _, fun _ _ _ _ h => h⟩
theorem Le.trans {a b c : Gr} (h : Le a b) (k : Le b c) : Le a c := ⟨Nat.le_trans h.1 k.1, fun x y r hr q => k.2 x y r hr (h.2 x y r hr q)⟩
/-- Done so far. -/
def Done (h : Gr) (l : List Stp) (h' : Gr) : Prop := runL h l = some h' ∧ h'.Ok ∧ Le h h'
theorem Done.append {h h1 h2 : Gr} {l1 l2 : List Stp} (a : Done h l1 h1) (b : Done h1 l2 h2) : Done h (l1 ++ l2) h2 := ⟨by rw [runL_append l1 l2 h h1 a.1]; exact b.1, b.2.1, a.2.2.trans b.2.2⟩
theorem runL_one {h : Gr} {s : Stp} (hc : stepCode h s = 0) : runL h [s] = some (stepNext h s) := by simp [runL, hc]
theorem putR_le {h : Gr} (ok : h.Ok) {a b r : Nat} (hr : r < 8) : Le h ⟨h.n, putR h.M a b r⟩ := ⟨Nat.le_refl _, fun x y q hq k => by
  simp only [putR]
  split
  · exact or_has2 q hq _ (ok.lt x y) r hr k
  · exact k⟩
theorem take_done {h : Gr} (ok : h.Ok) {who of to r : Nat} (h1 : who < h.n) (h2 : of < h.n) (h3 : to < h.n) (h4 : 1 ≤ r) (h5 : r < 8) (hne : who ≠ to) (q1 : hasB (h.M who of) 1 = true) (q2 : hasB (h.M of to) r = true) :
    ∃ h', Done h [⟨0, who, of, to, r⟩] h' ∧ h'.n = h.n ∧ hasB (h'.M who to) r = true := by
  have hc : stepCode h ⟨0, who, of, to, r⟩ = 0 := by
    rw [stepCode_take (by simp) (by simp only; omega) rfl (by simp only; omega)]
    simp only [Int.toNat_natCast]
    rw [if_neg (by rw [q1, q2]; simp; omega)]
  have e : stepNext h ⟨0, who, of, to, r⟩ = ⟨h.n, putR h.M who to r⟩ := rfl
  refine ⟨_, ⟨runL_one hc, stepNext_ok ok hc, by rw [e]; exact putR_le ok h5⟩, rfl, ?_⟩
  rw [e]
  simp only [putR, and_self, if_true]
  exact or_has3 r h5 _ (ok.lt who to)
theorem grant_done {h : Gr} (ok : h.Ok) {who of to r : Nat} (h1 : who < h.n) (h2 : of < h.n) (h3 : to < h.n) (h4 : 1 ≤ r) (h5 : r < 8) (hne : of ≠ to) (q1 : hasB (h.M who of) 2 = true) (q2 : hasB (h.M who to) r = true) :
    ∃ h', Done h [⟨1, who, of, to, r⟩] h' ∧ h'.n = h.n ∧ hasB (h'.M of to) r = true := by
  have hc : stepCode h ⟨1, who, of, to, r⟩ = 0 := by
    rw [stepCode_grant (by simp) (by simp only; omega) rfl (by simp only; omega)]
    simp only [Int.toNat_natCast]
    rw [if_neg (by rw [q1, q2]; simp; omega)]
  have e : stepNext h ⟨1, who, of, to, r⟩ = ⟨h.n, putR h.M of to r⟩ := rfl
  refine ⟨_, ⟨runL_one hc, stepNext_ok ok hc, by rw [e]; exact putR_le ok h5⟩, rfl, ?_⟩
  rw [e]
  simp only [putR, and_self, if_true]
  exact or_has3 r h5 _ (ok.lt of to)
theorem has_zero : ∀ r, r < 8 → ∀ x : Nat, x < 8 → hasB 0 r = true → hasB x r = true := by decide
theorem new_done {h : Gr} (ok : h.Ok) {who : Nat} (h1 : who < h.n) (h2 : h.n < 20) : ∃ h', Done h [⟨2, who, 0, 0, 0⟩] h' ∧ h'.n = h.n + 1 ∧ hasB (h'.M who h.n) 1 = true ∧ hasB (h'.M who h.n) 2 = true ∧ hasB (h'.M who h.n) 3 = true := by
  have hc : stepCode h ⟨2, who, 0, 0, 0⟩ = 0 := by
    rw [stepCode_new (by simp) (by simp only; omega) rfl, if_neg (by omega)]
  have e : stepNext h ⟨2, who, 0, 0, 0⟩ = ⟨h.n + 1, growM h.M h.n who⟩ := rfl
  have e3 : growM h.M h.n who who h.n = 3 := by simp [growM]
  refine ⟨_, ⟨runL_one hc, stepNext_ok ok hc, ?_⟩, rfl, ?_, ?_, ?_⟩
  · rw [e]
    refine ⟨by simp, fun x y q hq k => ?_⟩
    simp only [growM]
    split
    · rename_i exy
      rw [exy.2, ok.out x h.n (.inr (Nat.le_refl _))] at k
      exact has_zero q hq 3 (by decide) k
    · exact k
  · rw [e]; simp only; rw [e3]; decide
  · rw [e]; simp only; rw [e3]; decide
  · rw [e]; simp only; rw [e3]; decide
theorem link_all : ∀ x : Nat, x < 8 → ∀ y : Nat, y < 8 → (hasB x 1 = true ∨ hasB y 2 = true ∨ hasB y 1 = true ∨ hasB x 2 = true ∨ ((x &&& 3) = 0 ∧ (y &&& 3) = 0)) := by decide
theorem link_left (x : Nat) (hx : x < 8) (y : Nat) (hy : y < 8) (h : (x &&& 3) ≠ 0 ∨ (y &&& 3) ≠ 0) (h1 : hasB x 1 = false) (h2 : hasB y 2 = false) (h3 : hasB y 1 = false) : hasB x 2 = true := by
  rcases link_all x hx y hy with k | k | k | k | ⟨k, l⟩
  · rw [h1] at k; cases k
  · rw [h2] at k; cases k
  · rw [h3] at k; cases k
  · exact k
  · rcases h with h | h
    · exact absurd k h
    · exact absurd l h
/-- Rights pass. -/
theorem pass_done {g h : Gr} (okg : g.Ok) (ok : h.Ok) (hle : Le g h) {R T b a : Nat} (ha : a < g.n) (hb : b < g.n) (hT : T < h.n) (haT : a ≠ T) (h1 : 1 ≤ R) (h8 : R < 8) (hl : linkB g a b = true) (hh : hasB (h.M b T) R = true) (hn : h.n + passN g b a ≤ 20) :
    ∃ h', Done h (passL g R T b a h.n) h' ∧ h'.n = h.n + passN g b a ∧ hasB (h'.M a T) R = true := by
  have hgn := hle.1
  unfold passL passN
  unfold passN at hn
  by_cases q1 : hasB (g.M a b) 1 = true
  · rw [if_pos q1, if_pos q1]
    obtain ⟨h', d, e, k⟩ := take_done ok (who := a) (of := b) (to := T) (r := R) (by omega) (by omega) hT h1 h8 haT (hle.2 a b 1 (by decide) q1) hh
    exact ⟨h', d, by omega, k⟩
  · rw [if_neg q1] at hn ⊢
    rw [if_neg q1]
    by_cases q2 : hasB (g.M b a) 2 = true
    · rw [if_pos q2, if_pos q2]
      obtain ⟨h', d, e, k⟩ := grant_done ok (who := b) (of := a) (to := T) (r := R) (by omega) (by omega) hT h1 h8 haT (hle.2 b a 2 (by decide) q2) hh
      exact ⟨h', d, by omega, k⟩
    · rw [if_neg q2] at hn ⊢
      rw [if_neg q2]
      obtain ⟨k1, d1, e1, n1, n2, n3⟩ := new_done ok (who := a) (by omega) (by omega)
      have step2 : ∃ k2, Done k1 [if hasB (g.M b a) 1 = true then ⟨0, b, a, h.n, 2⟩ else ⟨1, a, b, h.n, 2⟩] k2 ∧ k2.n = k1.n ∧ hasB (k2.M b h.n) 2 = true := by
        by_cases q3 : hasB (g.M b a) 1 = true
        · rw [if_pos q3]
          exact take_done d1.2.1 (who := b) (of := a) (to := h.n) (r := 2) (by omega) (by omega) (by omega) (by decide) (by decide) (by omega) (d1.2.2.2 b a 1 (by decide) (hle.2 b a 1 (by decide) q3)) n2
        · rw [if_neg q3]
          have q4 := link_left _ (okg.lt a b) _ (okg.lt b a) ((linkB_iff g a b).1 hl) (by simpa using q1) (by simpa using q2) (by simpa using q3)
          exact grant_done d1.2.1 (who := a) (of := b) (to := h.n) (r := 2) (by omega) (by omega) (by omega) (by decide) (by decide) (by omega) (d1.2.2.2 a b 2 (by decide) (hle.2 a b 2 (by decide) q4)) n2
      obtain ⟨k2, d2, e2, m2⟩ := step2
      have h12 := d1.2.2.trans d2.2.2
      obtain ⟨k3, d3, e3, m3⟩ := grant_done d2.2.1 (who := b) (of := h.n) (to := T) (r := R) (by omega) (by omega) (by omega) h1 h8 (by omega) m2 (h12.2 b T R h8 hh)
      obtain ⟨k4, d4, e4, m4⟩ := take_done d3.2.1 (who := a) (of := h.n) (to := T) (r := R) (by omega) (by omega) (by omega) h1 h8 haT ((d2.2.2.trans d3.2.2).2 a h.n 1 (by decide) n1) m3
      exact ⟨k4, ((d1.append d2).append d3).append d4, by omega, m4⟩
theorem linkB_ne {g : Gr} (ok : g.Ok) {x y : Nat} (h : linkB g x y = true) : x ≠ y := by
  rintro rfl
  rw [linkB_iff, ok.self x] at h
  simp at h
/-- A right passes round. -/
theorem round_done {g h : Gr} (okg : g.Ok) (ok : h.Ok) (hle : Le g h) {r over b a : Nat} (ho : over < g.n) (ha : a < g.n) (hb : b < g.n) (h1 : 1 ≤ r) (h8 : r < 8) (la : linkB g a over = true) (lb : linkB g over b = true) (hh : hasB (h.M b over) r = true) (hn : h.n + roundN g over b a ≤ 20) :
    ∃ h', Done h (roundL g r over b a h.n) h' ∧ h'.n = h.n + roundN g over b a ∧ hasB (h'.M a over) r = true := by
  have hgn := hle.1
  have hao := linkB_ne okg la
  unfold roundN at hn ⊢
  unfold roundL
  obtain ⟨k1, d1, e1, n1, n2, n3⟩ := new_done ok (who := over) (by omega) (by omega)
  have l1 := hle.trans d1.2.2
  obtain ⟨k2, d2, e2, m2⟩ := pass_done okg d1.2.1 l1 (R := 3) (T := h.n) (b := over) (a := a) ha ho (by omega) (by omega) (by decide) (by decide) la n3 (by omega)
  have l2 := l1.trans d2.2.2
  obtain ⟨k3, d3, e3, m3⟩ := pass_done okg d2.2.1 l2 (R := 3) (T := h.n) (b := over) (a := b) hb ho (by omega) (by omega) (by decide) (by decide) (linkB_comm lb) (d2.2.2.2 over h.n 3 (by decide) n3) (by omega)
  rw [e1] at d2
  rw [e2, e1] at d3
  have l3 := (d1.2.2.trans d2.2.2).trans d3.2.2
  have b2 : hasB (k3.M b h.n) 2 = true := sub_has 2 (by decide) _ (d3.2.1.lt _ _) 3 (by decide) m3 (by decide)
  have a3 : hasB (k3.M a h.n) 1 = true := d3.2.2.2 a h.n 1 (by decide) (sub_has 1 (by decide) _ (d2.2.1.lt _ _) 3 (by decide) m2 (by decide))
  obtain ⟨k4, d4, e4, m4⟩ := grant_done d3.2.1 (who := b) (of := h.n) (to := over) (r := r) (by omega) (by omega) (by omega) h1 h8 (by omega) b2 (l3.2 b over r h8 hh)
  obtain ⟨k5, d5, e5, m5⟩ := take_done d4.2.1 (who := a) (of := h.n) (to := over) (r := r) (by omega) (by omega) (by omega) h1 h8 hao (d4.2.2.2 a h.n 1 (by decide) a3) m4
  exact ⟨k5, ((d1.append d2).append d3).append (d4.append d5), by omega, m5⟩
theorem bringN_ge (g : Gr) (over : Nat) (W : Nat → Nat) : ∀ i vt, vt ≤ bringN g over W i vt
  | 0, vt => Nat.le_refl _
  | 1, vt => by simp [bringN]
  | i + 2, vt => by
    simp only [bringN]
    split
    · exact Nat.le_trans (by omega) (bringN_ge g over W i _)
    · exact Nat.le_trans (by omega) (bringN_ge g over W (i + 1) _)
/-- A right is brought down a chain. -/
theorem bring_done {g : Gr} (okg : g.Ok) {r over : Nat} {W : Nat → Nat} (ho : over < g.n) (h1 : 1 ≤ r) (h8 : r < 8) (h0 : W 0 ≠ over) :
    ∀ (i : Nat) (h : Gr), h.Ok → Le g h → (∀ k, k ≤ i → W k < g.n) → (∀ k, k < i → linkB g (W k) (W (k + 1)) = true) → hasB (h.M (W i) over) r = true → bringN g over W i h.n ≤ 20 → ∃ h', Done h (bringL g r over W i h.n) h' ∧ hasB (h'.M (W 0) over) r = true
  | 0, h, ok, _, _, _, hh, _ => ⟨h, ⟨rfl, ok, Le.refl h⟩, hh⟩
  | 1, h, ok, hle, hw, hl, hh, hn => by
    simp only [bringN] at hn
    have hgn := hle.1
    obtain ⟨h', d, _, k⟩ := pass_done okg ok hle (R := r) (T := over) (b := W 1) (a := W 0) (hw 0 (by omega)) (hw 1 (by omega)) (by omega) h0 h1 h8 (hl 0 (by omega)) hh hn
    exact ⟨h', d, k⟩
  | i + 2, h, ok, hle, hw, hl, hh, hn => by
    have hgn := hle.1
    simp only [bringN] at hn
    simp only [bringL]
    split at hn
    · rename_i e
      rw [if_pos e]
      have hge := bringN_ge g over W i (h.n + roundN g over (W (i + 2)) (W i))
      obtain ⟨k1, d1, e1, m1⟩ := round_done okg ok hle (r := r) (over := over) (b := W (i + 2)) (a := W i) ho (hw i (by omega)) (hw (i + 2) (by omega)) h1 h8 (by have := hl i (by omega); rw [e] at this; exact this) (by have := hl (i + 1) (by omega); rw [e] at this; exact this) hh (by omega)
      rw [← e1] at hn ⊢
      obtain ⟨k2, d2, m2⟩ := bring_done okg ho h1 h8 h0 i k1 d1.2.1 (hle.trans d1.2.2) (fun k hk => hw k (by omega)) (fun k hk => hl k (by omega)) m1 hn
      exact ⟨k2, d1.append d2, m2⟩
    · rename_i e
      rw [if_neg e]
      have hge := bringN_ge g over W (i + 1) (h.n + passN g (W (i + 2)) (W (i + 1)))
      obtain ⟨k1, d1, e1, m1⟩ := pass_done okg ok hle (R := r) (T := over) (b := W (i + 2)) (a := W (i + 1)) (hw (i + 1) (by omega)) (hw (i + 2) (by omega)) (by omega) e h1 h8 (hl (i + 1) (by omega)) hh (by omega)
      rw [← e1] at hn ⊢
      obtain ⟨k2, d2, m2⟩ := bring_done okg ho h1 h8 h0 (i + 1) k1 d1.2.1 (hle.trans d1.2.2) (fun k hk => hw k (by omega)) (fun k hk => hl k (by omega)) m1 hn
      exact ⟨k2, d1.append d2, m2⟩
/-- The plan is done. -/
theorem plan_done {g : Gr} (ok : g.Ok) {r x y D : Nat} {W : Nat → Nat} (hp : PlanIs g r x y D W) (hy : y < g.n) (hxy : x ≠ y) (hr : r = 1 ∨ r = 2 ∨ r = 4) (hn : bringN g y W D g.n ≤ 20) :
    ∃ h', Done g (bringL g r y W D g.n) h' ∧ hasB (h'.M x y) r = true := by
  obtain ⟨h0, _, hw⟩ := hp
  have hend := (hw.far D (Nat.le_refl _)).1
  rw [Nat.sub_self] at hend
  have hd := ((holdN_bit g r y (W D)).1 hend).2
  obtain ⟨h', d, k⟩ := bring_done ok hy (by omega) (by omega) (by rw [h0]; exact hxy) D g ok (Le.refl g) (fun k hk => hw.lt k hk) (fun k hk => ((lkRows_bit (hw.lt k (by omega))).1 (hw.on k hk)).2) hd hn
  rw [h0] at k
  exact ⟨h', d, k⟩
end Go.Proofs.YtdmdoikkemfcaaaDoor
