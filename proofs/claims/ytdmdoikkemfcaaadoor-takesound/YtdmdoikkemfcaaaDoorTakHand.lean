/- What handing rights on comes to (hand), and what it asks (isVert, has). -/
import Derived.WalkKit
import Derived.LoopTactic
import Derived.Deep.QuietTactic
import Derived.BigQuiet
import Derived.StillTailTactics
import Derived.Test.YtdmdoikkemfcaaaDoorTakOwn
import Derived.Test.YtdmdoikkemfcaaaDoorArith
namespace Go.Proofs.YtdmdoikkemfcaaaDoor
open Go.RowKit
set_option maxRecDepth 100000

theorem isVert_any (a : Option Addr) (n cap : Nat) (i : Int) (w : World) :
    Calls Tryd.prog 47 #[.slice a n cap, .int .i64 i] w fun e w' => e = .returned (.bool (inB i n)) ∧ w' = w := by
  by_cases h0 : 0 ≤ i
  · have HR : Hid (inB i n = decide (i < (n : Int))) := by show _ = _; unfold inB; simp [h0]
    go_enter Tryd.func47, Tryd.ntmps47
    go_wp2
    go_ret
    exact ⟨by rw [HR.out]; rfl, rfl⟩
  · have HR : Hid (inB i n = false) := by show _ = _; unfold inB; simp [h0]
    go_enter Tryd.func47, Tryd.ntmps47
    go_wp2
    go_ret
    exact ⟨by rw [HR.out]; rfl, rfl⟩
theorem thas_any (x r : Nat) (hx : x < 1048576) (hr : r < 1048576) (w : World) :
    Calls Tryd.prog 67 #[.int .i64 x, .int .i64 r] w fun e w' => e = .returned (.bool (hasB x r)) ∧ w' = w := by
  have h1 := and_i64 x r hx hr
  have HR : Hid (hasB x r = ((x &&& r : Nat) == r)) := rfl
  obtain ⟨y, hy⟩ : ∃ y, x &&& r = y := ⟨_, rfl⟩
  rw [hy] at h1
  have HR : Hid (hasB x r = ((y : Int) == (r : Int))) := by
    show _ = _
    rw [HR.out, hy, Bool.eq_iff_iff, beq_iff_eq, beq_iff_eq]; omega
  clear hy
  go_enter Tryd.func67, Tryd.ntmps67
  go_wp2
  go_ret
  exact ⟨by rw [HR.out]; rfl, rfl⟩

/-- A step as a value. -/
abbrev stpV (s : Stp) : Value := .agg #[.int .i64 s.k, .int .i64 s.who, .int .i64 s.of, .int .i64 s.to, .int .i64 s.r]
/-- Five numbers in a place of one's own. -/
structure Box5 (w W : World) (s : Stp) : Prop where
  c0 : W.cell? ⟨w.heap.size, 0, none⟩ = some (.int .i64 s.k)
  c1 : W.cell? ⟨w.heap.size, 1, none⟩ = some (.int .i64 s.who)
  c2 : W.cell? ⟨w.heap.size, 2, none⟩ = some (.int .i64 s.of)
  c3 : W.cell? ⟨w.heap.size, 3, none⟩ = some (.int .i64 s.to)
  c4 : W.cell? ⟨w.heap.size, 4, none⟩ = some (.int .i64 s.r)
  bel : Below w.heap.size w W
theorem box5_new (w : World) (s : Stp) (t : TypeId) : Box5 w (w.alloc (.cells #[.int .i64 s.k, .int .i64 s.who, .int .i64 s.of, .int .i64 s.to, .int .i64 s.r] t)) s := by
  have h1 := World.alloc_heap_new w (.cells #[.int .i64 s.k, .int .i64 s.who, .int .i64 s.of, .int .i64 s.to, .int .i64 s.r] t)
  refine ⟨?_, ?_, ?_, ?_, ?_, (Below.refl _ w).alloc (Nat.le_refl _) _⟩
  all_goals simp only [World.cell?]; rw [h1]; simp
theorem Box5.drawn {w W : World} {s : Stp} (h : Box5 w W s) (k : Nat) : Box5 w (W.drewN k) s := ⟨h.c0, h.c1, h.c2, h.c3, h.c4, below_drawn h.bel k⟩

theorem hand_range (a : Option Addr) (n cap : Nat) (s : Stp) (x y z : Int) (w : World) (h : s.of < 0 ∨ (n : Int) ≤ s.of ∨ s.to < 0 ∨ (n : Int) ≤ s.to ∨ s.r < 1 ∨ 7 < s.r) :
    Calls Tryd.prog 57 #[.slice a n cap, stpV s, .int .i64 x, .int .i64 y, .int .i64 z] w fun e w' => e = .returned (.iface 54 (.int .i64 1)) ∧ Below w.heap.size w w' := by
  have hB := box5_new w s 63
  obtain ⟨c0, c1, c2, c3, c4, hbel⟩ := hB
  obtain ⟨W, hW⟩ : ∃ W, w.alloc (.cells #[.int .i64 s.k, .int .i64 s.who, .int .i64 s.of, .int .i64 s.to, .int .i64 s.r] 63) = W := ⟨_, rfl⟩
  rw [hW] at c0 c1 c2 c3 c4 hbel
  have t1 := fun w => isVert_any a n cap s.of w
  have t2 := fun w => isVert_any a n cap s.to w
  by_cases h1 : s.of < 0 ∨ (n : Int) ≤ s.of
  · rw [inB_no h1] at t1
    clear h h1 t2
    go_enter Tryd.func57, Tryd.ntmps57
    go_wp2_with (go_at_call 47; refine (t1 _).mono ?_; rintro e w' ⟨rfl, rfl⟩)
    go_ret
    exact ⟨rfl, hbel⟩
  · rw [inB_yes (by omega) (by omega)] at t1
    by_cases h2 : s.to < 0 ∨ (n : Int) ≤ s.to
    · rw [inB_no h2] at t2
      clear h h1 h2
      go_enter Tryd.func57, Tryd.ntmps57
      go_wp2_with (first | (go_at_call 47; (with_reducible refine (t1 _).mono ?_); clear t1; rintro e w' ⟨rfl, rfl⟩) | (go_at_call 47; (with_reducible refine (t2 _).mono ?_); clear t2; rintro e w' ⟨rfl, rfl⟩))
      go_ret
      exact ⟨rfl, hbel⟩
    · rw [inB_yes (by omega) (by omega)] at t2
      by_cases h3 : s.r < 1
      · clear h h1 h2
        go_enter Tryd.func57, Tryd.ntmps57
        go_wp2_with (first | (go_at_call 47; (with_reducible refine (t1 _).mono ?_); clear t1; rintro e w' ⟨rfl, rfl⟩) | (go_at_call 47; (with_reducible refine (t2 _).mono ?_); clear t2; rintro e w' ⟨rfl, rfl⟩))
        go_ret
        exact ⟨rfl, hbel⟩
      · have h4 : 7 < s.r := by omega
        clear h h1 h2
        go_enter Tryd.func57, Tryd.ntmps57
        go_wp2_with (first | (go_at_call 47; (with_reducible refine (t1 _).mono ?_); clear t1; rintro e w' ⟨rfl, rfl⟩) | (go_at_call 47; (with_reducible refine (t2 _).mono ?_); clear t2; rintro e w' ⟨rfl, rfl⟩))
        go_ret
        exact ⟨rfl, hbel⟩

section
variable {base b cap : Nat} {C K : Nat → Nat} {g : Gr} {w : World}
set_option maxHeartbeats 1000000 in
theorem hand_self (s : Stp) (x : Int) (z : Int) (h1 : 0 ≤ s.of ∧ s.of < g.n) (h2 : 0 ≤ s.to ∧ s.to < g.n) (h3 : 1 ≤ s.r ∧ s.r ≤ 7) (w : World) (a : Option Addr) :
    Calls Tryd.prog 57 #[.slice a g.n cap, stpV s, .int .i64 x, .int .i64 s.to, .int .i64 z] w fun e w' => e = .returned (.iface 54 (.int .i64 7)) ∧ Below w.heap.size w w' := by
  have hB := box5_new w s 63
  obtain ⟨c0, c1, c2, c3, c4, hbel⟩ := hB
  obtain ⟨W, hW⟩ : ∃ W, w.alloc (.cells #[.int .i64 s.k, .int .i64 s.who, .int .i64 s.of, .int .i64 s.to, .int .i64 s.r] 63) = W := ⟨_, rfl⟩
  rw [hW] at c0 c1 c2 c3 c4 hbel
  have t1 := fun w => isVert_any a g.n cap s.of w
  have t2 := fun w => isVert_any a g.n cap s.to w
  rw [inB_yes h1.1 h1.2] at t1
  rw [inB_yes h2.1 h2.2] at t2
  obtain ⟨h3, h4⟩ := h3
  clear h1 h2
  go_enter Tryd.func57, Tryd.ntmps57
  go_wp2_with (first | (go_at_call 47; (with_reducible refine (t1 _).mono ?_); clear t1; rintro e w' ⟨rfl, rfl⟩) | (go_at_call 47; (with_reducible refine (t2 _).mono ?_); clear t2; rintro e w' ⟨rfl, rfl⟩))
  go_quiet (fail)
  go_wp2
  go_ret
  exact ⟨rfl, below_drawn hbel _⟩
set_option maxHeartbeats 1000000 in
theorem hand_no (hO : OwnGr base w b cap C K g) (ok : g.Ok) (s : Stp) (who of to r frm get : Nat) (z : Nat) (e1 : s.who = who) (e2 : s.of = of) (e3 : s.to = to) (e4 : s.r = r) (hw : who < g.n) (ho : of < g.n) (ht : to < g.n) (hr : 1 ≤ r ∧ r ≤ 7) (hz : z < 8) (hf : frm < g.n) (hne : get ≠ to)
    (hno : hasB (g.M who of) z = false ∨ hasB (g.M frm to) r = false) :
    Calls Tryd.prog 57 #[.slice (some ⟨b, 0, none⟩) g.n cap, stpV s, .int .i64 frm, .int .i64 get, .int .i64 z] w fun e w' => e = .returned (.iface 54 (.int .i64 7)) ∧ Below w.heap.size w w' := by
  have hB := box5_new w s 63
  obtain ⟨c0, c1, c2, c3, c4, hbel⟩ := hB
  obtain ⟨W, hW⟩ : ∃ W, w.alloc (.cells #[.int .i64 s.k, .int .i64 s.who, .int .i64 s.of, .int .i64 s.to, .int .i64 s.r] 63) = W := ⟨_, rfl⟩
  rw [hW] at c0 c1 c2 c3 c4 hbel
  have hO' := hO.below hbel
  have t1 := fun w => isVert_any (some ⟨b, 0, none⟩) g.n cap s.of w
  have t2 := fun w => isVert_any (some ⟨b, 0, none⟩) g.n cap s.to w
  rw [e2, inB_yes (by omega) (by omega)] at t1
  rw [e3, inB_yes (by omega) (by omega)] at t2
  obtain ⟨k, s1, s2, s3, s4⟩ := s
  simp only at e1 e2 e3 e4
  subst e1 e2 e3 e4
  simp only at c0 c1 c2 c3 c4 hW
  have a1 := hO'.top hw
  have a2 := hO'.cell hw ho
  have a3 := hO'.top hf
  have a4 := hO'.cell hf ht
  have m1 := ok.lt who of
  have m2 := ok.lt frm to
  obtain ⟨x1, hx1⟩ : ∃ x, g.M who of = x := ⟨_, rfl⟩
  obtain ⟨x2, hx2⟩ : ∃ x, g.M frm to = x := ⟨_, rfl⟩
  rw [hx1] at a2 m1 hno
  rw [hx2] at a4 m2 hno
  have u1 := fun w => thas_any x1 z (by omega) (by omega) w
  have u2 := fun w => thas_any x2 r (by omega) (by omega) w
  have hb : ((get : Int) == (to : Int)) = false := by simpa using (show (get : Int) ≠ to by omega)
  have h3 : (1 : Int) ≤ r := by omega
  have h4 : (r : Int) ≤ 7 := by omega
  clear hO hO' hx1 hx2 hr
  cases q1 : hasB x1 z with
  | false =>
    rw [q1] at u1
    clear u2 hno q1
    go_enter Tryd.func57, Tryd.ntmps57
    go_wp2_with (first | (go_at_call 47; (with_reducible refine (t1 _).mono ?_); clear t1; rintro e w' ⟨rfl, rfl⟩) | (go_at_call 47; (with_reducible refine (t2 _).mono ?_); clear t2; rintro e w' ⟨rfl, rfl⟩))
    go_quiet ((go_at_call 67; exact Calls.quiet_of_same (u1 _)))
    go_wp2
    go_ret
    exact ⟨rfl, below_drawn hbel _⟩
  | true =>
    rw [q1] at u1
    have q2 : hasB x2 r = false := by rcases hno with h | h; · rw [q1] at h; cases h
                                      · exact h
    rw [q2] at u2
    clear hno q1 q2
    go_enter Tryd.func57, Tryd.ntmps57
    go_wp2_with (first | (go_at_call 47; (with_reducible refine (t1 _).mono ?_); clear t1; rintro e w' ⟨rfl, rfl⟩) | (go_at_call 47; (with_reducible refine (t2 _).mono ?_); clear t2; rintro e w' ⟨rfl, rfl⟩))
    go_quiet ((first | (go_at_call 67; with_reducible exact Calls.quiet_of_same (u1 _)) | (go_at_call 67; with_reducible exact Calls.quiet_of_same (u2 _))))
    go_wp2
    go_ret
    exact ⟨rfl, below_drawn hbel _⟩
set_option maxHeartbeats 1000000 in
theorem hand_yes (hO : OwnGr base w b cap C K g) (hbase : base ≤ w.heap.size) (ok : g.Ok) (s : Stp) (who of to r frm get : Nat) (z : Nat) (e1 : s.who = who) (e2 : s.of = of) (e3 : s.to = to) (e4 : s.r = r) (hw : who < g.n) (ho : of < g.n) (ht : to < g.n) (hr : 1 ≤ r ∧ r ≤ 7) (hz : z < 8) (hf : frm < g.n) (hg : get < g.n) (hne : get ≠ to)
    (q1 : hasB (g.M who of) z = true) (q2 : hasB (g.M frm to) r = true) :
    Calls Tryd.prog 57 #[.slice (some ⟨b, 0, none⟩) g.n cap, stpV s, .int .i64 frm, .int .i64 get, .int .i64 z] w fun e w' => e = .returned .nilIface ∧ OwnGr base w' b cap C K ⟨g.n, putR g.M get to r⟩ ∧ Below base w w' := by
  have hB := box5_new w s 63
  obtain ⟨c0, c1, c2, c3, c4, hbel⟩ := hB
  obtain ⟨W, hW⟩ : ∃ W, w.alloc (.cells #[.int .i64 s.k, .int .i64 s.who, .int .i64 s.of, .int .i64 s.to, .int .i64 s.r] 63) = W := ⟨_, rfl⟩
  rw [hW] at c0 c1 c2 c3 c4 hbel
  have hO' := hO.below hbel
  have hbel := hbel.mono hbase
  have t1 := fun w => isVert_any (some ⟨b, 0, none⟩) g.n cap s.of w
  have t2 := fun w => isVert_any (some ⟨b, 0, none⟩) g.n cap s.to w
  rw [e2, inB_yes (by omega) (by omega)] at t1
  rw [e3, inB_yes (by omega) (by omega)] at t2
  obtain ⟨k, s1, s2, s3, s4⟩ := s
  simp only at e1 e2 e3 e4
  subst e1 e2 e3 e4
  simp only at c0 c1 c2 c3 c4 hW
  have a1 := hO'.top hw
  have a2 := hO'.cell hw ho
  have a3 := hO'.top hf
  have a4 := hO'.cell hf ht
  have m1 := ok.lt who of
  have m2 := ok.lt frm to
  obtain ⟨x1, hx1⟩ : ∃ x, g.M who of = x := ⟨_, rfl⟩
  obtain ⟨x2, hx2⟩ : ∃ x, g.M frm to = x := ⟨_, rfl⟩
  rw [hx1] at a2 m1 q1
  rw [hx2] at a4 m2 q2
  have u1 := fun w => thas_any x1 z (by omega) (by omega) w
  have u2 := fun w => thas_any x2 r (by omega) (by omega) w
  rw [q1] at u1
  rw [q2] at u2
  have hb : ((get : Int) == (to : Int)) = false := by simpa using (show (get : Int) ≠ to by omega)
  have h3 : (1 : Int) ≤ r := by omega
  have h4 : (r : Int) ≤ 7 := by omega
  have hr7 := hr.2
  clear hO hx1 hx2 hr q1 q2
  go_enter Tryd.func57, Tryd.ntmps57
  go_wp2_with (first | (go_at_call 47; (with_reducible refine (t1 _).mono ?_); clear t1; rintro e w' ⟨rfl, hw⟩; obtain rfl := hw.symm) | (go_at_call 47; (with_reducible refine (t2 _).mono ?_); clear t2; rintro e w' ⟨rfl, hw⟩; obtain rfl := hw.symm))
  go_quiet ((first | (go_at_call 67; with_reducible exact Calls.quiet_of_same (u1 _)) | (go_at_call 67; with_reducible exact Calls.quiet_of_same (u2 _))))
  rename_i nq
  clear a1 a2 a3 a4 u1 u2
  go_wp2
  refine wp_region_still_tail 0xc (by kernel_rfl) (by kernel_rfl) ?_
  simp only [List.take_succ_cons, List.take_zero, List.drop_succ_cons, List.drop_zero]
  obtain ⟨Wd, hWd⟩ : ∃ x, (W.drewN nq).drew = x := ⟨_, rfl⟩
  have hOd := (hO'.drawn nq).drawn 1
  have hbd := below_drawn (below_drawn hbel nq) 1
  have hWd1 : (W.drewN nq).drewN 1 = Wd := hWd
  have hWd2 : { (W.drewN nq) with drawn := (W.drewN nq).drawn + 1 } = Wd := hWd
  have d3 : Wd.cell? ⟨w.heap.size, 3, none⟩ = some (.int .i64 (to : Int)) := by rw [← hWd]; exact c3
  have d4 : Wd.cell? ⟨w.heap.size, 4, none⟩ = some (.int .i64 (r : Int)) := by rw [← hWd]; exact c4
  rw [hWd1] at hOd hbd
  rw [hWd2]
  clear hWd hWd1 hWd2 c0 c1 c2 c3 c4
  have a1 := hOd.top hg
  have a2 := hOd.cell hg ht
  have a3 := hOd.freeR hg to
  have m3 := ok.lt get to
  have HF : Hid (∀ i j, i < g.n → j < g.n → (if i = get ∧ j = to then g.M get to ||| r else g.M i j) = putR g.M get to r i j) := fun i j _ _ => by
    unfold putR
    by_cases e : i = get ∧ j = to
    · rw [if_pos e, if_pos e, e.1, e.2]
    · rw [if_neg e, if_neg e]
  have hP := hOd.put hg ht (g.M get to ||| r)
  have hP2 := hP.like HF.out
  have hbs := hbd.setCell (p := ⟨C get, to, none⟩) (hOd.ltR hg).1 (.int .i64 ((g.M get to ||| r : Nat) : Int))
  have hor := or_i64 (g.M get to) r (by omega) (by omega)
  obtain ⟨x3, hx3⟩ : ∃ x, g.M get to = x := ⟨_, rfl⟩
  rw [hx3] at a2 hor hP2 hbs
  clear hx3 hP HF m3 hO'
  obtain ⟨x4, hx4⟩ : ∃ x, x3 ||| r = x := ⟨_, rfl⟩
  rw [hx4] at hor hP2 hbs
  clear hx4
  repeat still_step
  refine wpStill_nil ?_
  go_wp2_with fail
  go_ret
  exact ⟨rfl, hP2, hbs⟩
end
end Go.Proofs.YtdmdoikkemfcaaaDoor
