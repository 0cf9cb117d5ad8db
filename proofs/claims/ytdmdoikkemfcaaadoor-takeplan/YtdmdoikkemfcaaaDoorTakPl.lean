/- The plan (Plan). -/
import Derived.WalkKit
import Derived.LoopTactic
import Derived.Test.YtdmdoikkemfcaaaDoorTakBrg
import Derived.Test.YtdmdoikkemfcaaaDoorTakOpen
namespace Go.Proofs.YtdmdoikkemfcaaaDoor
open Go.RowKit
set_option maxRecDepth 100000

/-- The steps of a list. -/
def nthS (l : List Stp) (i : Nat) : Stp := l.getD i ⟨0, 0, 0, 0, 0⟩
theorem flatS_get : ∀ (l : List Stp) (i q : Nat), i < l.length → q < 5 → (flatS l)[i * 5 + q]? = (stpC (nthS l i))[q]?
  | [], i, q, h, _ => by simp at h
  | s :: l, 0, q, _, hq => by
    have e : flatS (s :: l) = stpC s ++ flatS l := by simp [flatS]
    rw [e, List.getElem?_append_left (by simp [stpC]; omega), Nat.zero_mul, Nat.zero_add]
    rfl
  | s :: l, i + 1, q, h, hq => by
    have e : flatS (s :: l) = stpC s ++ flatS l := by simp [flatS]
    have h5 : (stpC s).length = 5 := rfl
    rw [e, List.getElem?_append_right (by rw [h5]; omega), h5, show (i + 1) * 5 + q - 5 = i * 5 + q by omega]
    exact flatS_get l i q (by simpa using h) hq
theorem stps_of {w : World} {X : Nat} {v : Value} {l : List Stp} (h : w.ownsRow X 63 5 v l.length (flatS l)) : ∃ a cp, v = .slice a l.length cp ∧ AtStps w a l.length (nthS l) := by
  by_cases h0 : l.length = 0
  · obtain ⟨_, ⟨hv, _⟩ | ⟨g, cap, cur, hv, _⟩⟩ := h
    · exact ⟨none, 0, by rw [hv, h0], .inl h0⟩
    · exact ⟨_, cap, hv, .inl h0⟩
  · obtain ⟨g, cap, rfl⟩ := row_someK h (by omega)
    have hc : ∀ i q, i < l.length → q < 5 → w.cell? ⟨g, 0 + i * 5 + q, none⟩ = (stpC (nthS l i))[q]? := fun i q hi hq => by
      rw [Nat.zero_add, h.cellAt (i * 5 + q) (by omega)]
      exact flatS_get l i q hi hq
    exact ⟨_, cap, rfl, .inr ⟨g, 0, rfl, (h.lt g rfl).2, fun i hi => hc i 0 hi (by decide), fun i hi => hc i 1 hi (by decide), fun i hi => hc i 2 hi (by decide), fun i hi => hc i 3 hi (by decide), fun i hi => hc i 4 hi (by decide)⟩⟩
/-- What the plan is. -/
def PlanIs (g : Gr) (r x y : Nat) (D : Nat) (W : Nat → Nat) : Prop := W 0 = x ∧ DistS (lkRows g) (holdN g r y) D x ∧ WayS g.n (lkRows g) (holdN g r y) D D W
section
variable {a : Option Addr} {n cap : Nat} {L : Nat → Nat} {F : Nat → Nat → Int} {w : World}
theorem eqlNil (w : World) (a : Option Addr) (n c n' c' : Nat) : (binOp .eql 34 (.slice a n c) (.slice none n' c')).run Tryd.prog w = .ok (.bool a.isNone) w := Lib.run_eql_slice_nil w _ _ a n c n' c' Tryd.underlying34
theorem plan_err (h : Grd w (.slice a n cap) n L F) (r x y : Int) (hc : askCode n L F r x y ≠ 0) :
    Calls Tryd.prog 11 #[.slice a n cap, .int .i64 r, .int .i64 x, .int .i64 y] w fun e w' => e = .returned (.tuple #[.slice none 0 0, errV (askCode n L F r x y)]) ∧ w' = w := by
  have t := findChain_err h r x y hc
  rw [errV_ne hc] at t ⊢
  clear h
  go_enter Tryd.func11, Tryd.ntmps11
  go_wp2_with (go_at_call 28; refine t.mono ?_; clear t; rintro e w' ⟨rfl, hw⟩; obtain rfl := hw.symm)
  go_ret2
  exact ⟨rfl, rfl⟩
set_option maxHeartbeats 1000000 in
theorem plan_ok (h : Grd w (.slice a n cap) n L F) (hT : Tab w) (hg0 : graphCode n L F = 0) (r x y : Nat) (hx : x < n) (hy : y < n) (hxy : x ≠ y) (hr : r = 1 ∨ r = 2 ∨ r = 4) :
    Calls Tryd.prog 11 #[.slice a n cap, .int .i64 r, .int .i64 x, .int .i64 y] w fun e w' =>
      ((¬ CanP (grOf n F) r x y ∧ e = .returned (.tuple #[.slice none 0 0, .iface 54 (.int .i64 5)])) ∨
        ∃ D W, PlanIs (grOf n F) r x y D W ∧ (((20 < bringN (grOf n F) y W D n ∨ 60 < (bringL (grOf n F) r y W D n).length) ∧ e = .returned (.tuple #[.slice none 0 0, .iface 54 (.int .i64 4)])) ∨
          ((bringN (grOf n F) y W D n ≤ 20 ∧ (bringL (grOf n F) r y W D n).length ≤ 60) ∧ ∃ sa scp, e = .returned (.tuple #[.slice sa (bringL (grOf n F) r y W D n).length scp, .nilIface]) ∧ AtStps w' sa (bringL (grOf n F) r y W D n).length (nthS (bringL (grOf n F) r y W D n))))) ∧ Below w.heap.size w w' := by
  have t := findChain_ok h hT hg0 r x y hx hy hxy hr
  have ok := (graphCode_ok hg0).1
  obtain ⟨a', cp, e, hG⟩ := (grV_of h hg0).open
  have hn : (grOf n F).n = n := rfl
  obtain ⟨b, off, B, O, C, ea, hG2⟩ := hG (by omega)
  cases e
  subst ea
  clear hG
  have hle := ok.le
  obtain ⟨g, hgg⟩ : ∃ g, grOf n F = g := ⟨_, rfl⟩
  rw [hgg] at hn t ok hG2 hle ⊢
  clear hgg h hT hg0
  subst hn
  have q := eqlNil
  go_enter Tryd.func11, Tryd.ntmps11
  go_wp2_with fail
  refine t.mono ?_
  clear t
  rintro e w1 ⟨⟨v, rfl, hv⟩, hB1⟩
  rcases hv with ⟨gb, ccp, D, W, rfl, hoW, hW0, hD4, hD, hWS⟩ | ⟨rfl, hno⟩
  · have hG := hG2.below hB1
    have hbox : Plnr w1.heap.size (w1.alloc (.cells #[.slice (some ⟨b, off, none⟩) g.n cap, .slice none 0 0, .int .i64 (g.n : Int)] 57)) (.slice (some ⟨b, off, none⟩) g.n cap) [] g.n (.slice none 0 0) := by
      have h1 := World.alloc_heap_new w1 (.cells #[.slice (some ⟨b, off, none⟩) g.n cap, .slice none 0 0, .int .i64 (g.n : Int)] 57)
      refine ⟨?_, ?_, ?_, ?_, ?_, World.ownsRow_nil _ _ _ _⟩
      · simp only [World.cell?]; rw [h1]; simp
      · simp only [World.cell?]; rw [h1]; simp
      · simp only [World.cell?]; rw [h1]; simp
      · simp only [World.frozen?]; rw [h1]; simp
      · simp only [World.frozen?]; rw [h1]; simp
    have hBb : Below w1.heap.size w1 (w1.alloc (.cells #[.slice (some ⟨b, off, none⟩) g.n cap, .slice none 0 0, .int .i64 (g.n : Int)] 57)) := (Below.refl _ _).alloc (Nat.le_refl _) _
    have t2 := bring_any g.n hbox hG ok (Nat.le_refl _) hBb hle gb ccp D W hoW (fun i hi => hWS.lt i hi) hD4 r y hy (by rw [hW0]; exact hxy)
    have HPl : Hid (PlanIs g r x y D W) := ⟨hW0, hD, hWS⟩
    obtain ⟨w2, hw2⟩ : ∃ z, w1.alloc (.cells #[.slice (some ⟨b, off, none⟩) g.n cap, .slice none 0 0, .int .i64 (g.n : Int)] 57) = z := ⟨_, rfl⟩
    rw [hw2] at t2 hBb
    clear hbox hG hWS hD hW0 hoW
    go_wp2_with fail
    refine t2.mono ?_
    clear t2
    rintro e w3 ⟨⟨u, rfl⟩, ⟨v3, hP3⟩, hB3⟩
    have hB3' := hB1.trans ((hBb.trans hB3).mono hB1.size)
    have c1 := hP3.c1
    have c2 := hP3.c2
    obtain ⟨sa, scp, hsv, hst⟩ := stps_of hP3.own
    subst hsv
    have HSt := Hid.mkI hst
    clear hst hP3
    obtain ⟨vt, hvt⟩ : ∃ z, bringN g y W D g.n = z := ⟨_, rfl⟩
    obtain ⟨l, hl⟩ : ∃ z, bringL g r y W D g.n = z := ⟨_, rfl⟩
    have HVt := Hid.mkI hvt
    have HLl := Hid.mkI hl
    rw [hvt] at c2
    rw [hl] at c1 HSt
    clear hvt hl
    by_cases k1 : 20 < vt
    · go_wp2_with fail
      go_ret2
      exact ⟨.inr ⟨D, W, HPl.out, .inl ⟨.inl (by rw [HVt.out]; exact k1), rfl⟩⟩, hB3'⟩
    · by_cases k2 : 60 < l.length
      · go_wp2_with fail
        go_ret2
        exact ⟨.inr ⟨D, W, HPl.out, .inl ⟨.inr (by rw [HLl.out]; exact k2), rfl⟩⟩, hB3'⟩
      · go_wp2_with fail
        go_ret2
        exact ⟨.inr ⟨D, W, HPl.out, .inr ⟨⟨by rw [HVt.out]; omega, by rw [HLl.out]; omega⟩, sa, scp, by rw [HLl.out]; rfl, by rw [HLl.out]; exact HSt.out⟩⟩, hB3'⟩
  · go_wp2_with fail
    go_ret2
    exact ⟨.inl ⟨hno, rfl⟩, hB1⟩
end
end Go.Proofs.YtdmdoikkemfcaaaDoor
