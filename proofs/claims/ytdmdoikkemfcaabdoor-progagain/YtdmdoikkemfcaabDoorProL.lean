/- The program's reader: a number. -/
import Derived.WalkKit
import Derived.LoopTactic
import Derived.OwnWalk
import Derived.Laws.Strings
import Derived.Laws.Strings2
import Derived.Deep.QuietTactic
import Derived.BigQuiet
import Derived.WalkLawsBesides
import Derived.Test.YtdmdoikkemfcaabDoorProI
import Derived.Test.YtdmdoikkemfcaabDoorProK
namespace Go.Proofs.YtdmdoikkemfcaabDoor
open Go.RowKit
set_option maxRecDepth 100000

theorem Sml.drop {r : List Nat} (h : Sml r) : Sml (dpW r) := by
  have e := tkW_app r
  refine ⟨?_, fun c hc => h.2 c (by rw [← e]; simp [hc])⟩
  have := congrArg List.length e
  rw [List.length_append] at this
  have := h.1
  omega
theorem Sml.take {r : List Nat} (h : Sml r) : Sml (tkW r) := by
  have e := tkW_app r
  refine ⟨?_, fun c hc => h.2 c (by rw [← e]; simp [hc])⟩
  have := congrArg List.length e
  rw [List.length_append] at this
  have := h.1
  omega
theorem str_upto {t z : List Nat} (W : World) : (Instr.slice 9 (.string (strB (t ++ z))) none (some (.int .i64 (t.length : Int))) none).run Tryd.prog W = .ok (.string (strB t)) W := by
  rw [run_slice_string_h W 9 _ Tryd.underlying9 .i64 _ (by omega) (by rw [strB_size, List.length_append]; omega), Int.toNat_natCast]
  congr 2
  have inj : ∀ a b : ByteArray, a.data.toList = b.data.toList → a = b := fun a b e => by
    cases a; cases b; congr; exact Array.toList_inj.1 e
  refine inj _ _ ?_
  rw [ByteArray.data_extract]
  simp [strB]
theorem str_neq {d t : ByteArray} (h : d ≠ t) : (d.toList == t.toList) = false := by
  rw [beq_eq_false_iff_ne]
  intro q
  rw [Lib.toList_data, Lib.toList_data] at q
  refine h ?_
  cases d; cases t
  congr
  exact Array.toList_inj.1 q
/-- What a number's text must be for the walk. -/
structure NumT (r : List Nat) (y z t : ByteArray) (n m k : Nat) : Prop where
  ys : y.size = n
  zs : z.size = m
  up : ∀ W, (Instr.slice 9 (.string y) none (some (.int .i64 (k : Int))) none).run Tryd.prog W = .ok (.string t) W
  len : (n : Int) - (m : Int) = (k : Int)
  le : (n : Int) ≤ 300
  le2 : (m : Int) ≤ 300
theorem numT_of {r : List Nat} (h : Sml r) : NumT r (strB r) (strB (dpW r)) (strB (tkW r)) r.length (dpW r).length (tkW r).length := by
  have e := tkW_app r
  have el := congrArg List.length e
  rw [List.length_append] at el
  have := h.1
  refine ⟨strB_size _, strB_size _, fun W => ?_, by omega, by omega, by omega⟩
  have := str_upto (t := tkW r) (z := dpW r) W
  rw [e] at this
  exact this
theorem rd_left2 {B X : Nat} {r : List Nat} {o : List Nod} {a : Option Addr} {cp : Nat} {w w1 : World} (h : RdA B X r o a cp w) (hB : Below w.heap.size w w1) (q : List Nat) (n : Nat) :
    RdA B X q o a cp ((w1.drewN n).setCell ⟨X, 0, none⟩ (.string (strB q))) ∧ Below B w ((w1.drewN n).setCell ⟨X, 0, none⟩ (.string (strB q))) := by
  have hB2 := below_drawn hB n
  obtain ⟨h1, h2⟩ := (h.below hB2).left q
  exact ⟨h1, (hB2.mono h.sz).trans h2⟩
set_option maxHeartbeats 2000000 in
theorem rnum_yes {B X : Nat} {r : List Nat} {o : List Nod} {a : Option Addr} {cp : Nat} (hr : Sml r) (hg : goodD (tkW r)) (w : World) (h : RdA B X r o a cp w) (hL : LibT B w) :
    Calls Tryd.prog 70 #[rdP X] w fun E w' => E = .returned (.int .i64 ((valD (tkW r) : Nat) : Int)) ∧ RdA B X (dpW r) o a cp w' ∧ Below B w w' := by
  have tT := lib_trim hr.2 w
  have NT := numT_of hr
  have hS := fun w1 (hB : Below w.heap.size w w1) n => rd_left2 h hB (dpW r) n
  obtain ⟨v, hv, e1, e2, e3⟩ : ∃ v : Nat, Lib.atoiAll ((tkW r).map UInt8.ofNat) = .ok (v : Int) ∧ v = valD (tkW r) ∧ tkW r ≠ [] ∧ v < 9223372036854775808 := by
    rcases atoi_dig (tkW_dig r) with q | ⟨_, q⟩
    · exact q
    · exact absurd hg q
  have tA := fun w' => lib_atoi_ok hr.take.1 hv w'
  have v6 : v ≤ 999999 := by rw [e1]; exact hg.2.1
  have v6I : ¬ 999999 < (v : Int) := by omega
  have tI := fun w' (k : LibT B w') => lib_itoa v v6 w' k
  rw [e1, hg.2.2] at tI
  rw [← e1] at tI ⊢
  clear hv e1 e2 e3 hg
  obtain ⟨y, hy⟩ : ∃ y, strB r = y := ⟨_, rfl⟩
  obtain ⟨z, hz⟩ : ∃ z, strB (dpW r) = z := ⟨_, rfl⟩
  obtain ⟨t, ht⟩ : ∃ t, strB (tkW r) = t := ⟨_, rfl⟩
  have hW := fun w1 (hB : Below w.heap.size w w1) => h.below hB
  have b0 := h.bx.c0
  have hsz := h.sz
  rw [hy, hz, ht] at NT
  rw [hy, hz] at tT
  rw [hz] at hS
  rw [ht] at tA tI
  rw [hy] at b0
  obtain ⟨ys, zs, up, len, le, le2⟩ := NT
  obtain ⟨n, hn⟩ : ∃ n, r.length = n := ⟨_, rfl⟩
  obtain ⟨m, hm⟩ : ∃ m, (dpW r).length = m := ⟨_, rfl⟩
  obtain ⟨k, hk⟩ : ∃ k, (tkW r).length = k := ⟨_, rfl⟩
  rw [hn] at ys len le
  rw [hm] at zs len le2
  rw [hk] at up len
  clear hn hm hk
  go_enter Tryd.func70, Tryd.ntmps70
  go_wp2_with (go_at_call 77; refine tT.mono ?_; clear tT; rintro E w1 ⟨rfl, hB1⟩; have hR1 := hW w1 hB1; have hS1 := hS w1 hB1; have c0 := hR1.bx.c0; rw [hy] at c0; have q0 := hR1.bx.r0; clear hW hS)
  go_quiet (fail)
  go_wp2_with (first | (go_at_call 78; refine (tA _).mono ?_; clear tA; rintro E w3 ⟨rfl, hB3⟩; obtain ⟨hR2, hB2⟩ := hS1 nq; have hR3 := hR2.below hB3; have hB4 := hB2.trans (hB3.mono hR2.sz); clear hR2 hB2 hB3 hS1) | (go_at_call 36; refine (tI _ (hL.on hB4)).mono ?_; clear tI; rintro E w4 ⟨rfl, hB5⟩; have hR5 := hR3.below hB5; have hB6 := hB4.trans (hB5.mono hR3.sz)))
  go_ret
  exact ⟨rfl, hR5, hB6⟩
set_option maxHeartbeats 2000000 in
theorem rnum_no {B X : Nat} {r : List Nat} {o : List Nod} {a : Option Addr} {cp : Nat} (hr : Sml r) (hg : ¬ goodD (tkW r)) (w : World) (h : RdA B X r o a cp w) (hL : LibT B w) :
    Calls Tryd.prog 70 #[rdP X] w fun E w' => E = ErrE 2 ∧ Below B w w' := by
  have tT := lib_trim hr.2 w
  have NT := numT_of hr
  have hS := fun w1 (hB : Below w.heap.size w w1) n => rd_left2 h hB (dpW r) n
  rcases atoi_dig (tkW_dig r) with ⟨v, hv, e1, e2, e3⟩ | ⟨hv, -⟩
  · have tA := fun w' => lib_atoi_ok hr.take.1 hv w'
    by_cases v6 : v ≤ 999999
    · have v6I : ¬ 999999 < (v : Int) := by omega
      have tI := fun w' (k : LibT B w') => lib_itoa v v6 w' k
      obtain ⟨d, hd⟩ : ∃ d, strB (digs v) = d := ⟨_, rfl⟩
      have hne : strB (digs v) ≠ strB (tkW r) := fun q => by
        have dl : ∀ (f n : Nat), ∀ c ∈ digF f n, c < 256 := fun f => by
          induction f with
          | zero => intro n c hc; simp [digF] at hc
          | succ f ih =>
            intro n c hc
            rw [digF] at hc
            split at hc
            · simp at hc; omega
            · rcases List.mem_append.1 hc with hc | hc
              · exact ih _ c hc
              · simp at hc; omega
        have q2 := strB_inj (fun c hc => dl 7 v c hc) hr.take.2 q
        exact hg ⟨e2, by omega, by rw [← e1]; exact q2⟩
      rw [hd] at tI hne
      clear hv e1 e2 e3 hg hd
      obtain ⟨y, hy⟩ : ∃ y, strB r = y := ⟨_, rfl⟩
      obtain ⟨z, hz⟩ : ∃ z, strB (dpW r) = z := ⟨_, rfl⟩
      obtain ⟨t, ht⟩ : ∃ t, strB (tkW r) = t := ⟨_, rfl⟩
      have hW := fun w1 (hB : Below w.heap.size w w1) => h.below hB
      have b0 := h.bx.c0
      have hsz := h.sz
      rw [hy, hz, ht] at NT
      rw [hy, hz] at tT
      rw [hz] at hS
      rw [ht] at tA
      rw [hy] at b0
      obtain ⟨ys, zs, up, len, le, le2⟩ := NT
      obtain ⟨n, hn⟩ : ∃ n, r.length = n := ⟨_, rfl⟩
      obtain ⟨m, hm⟩ : ∃ m, (dpW r).length = m := ⟨_, rfl⟩
      obtain ⟨k, hk⟩ : ∃ k, (tkW r).length = k := ⟨_, rfl⟩
      rw [hn] at ys len le
      rw [hm] at zs len le2
      rw [hk] at up len
      clear hn hm hk
      go_enter Tryd.func70, Tryd.ntmps70
      go_wp2_with (go_at_call 77; refine tT.mono ?_; clear tT; rintro E w1 ⟨rfl, hB1⟩; have hR1 := hW w1 hB1; have hS1 := hS w1 hB1; have c0 := hR1.bx.c0; rw [hy] at c0; have q0 := hR1.bx.r0; clear hW hS)
      go_quiet (fail)
      rw [ht] at hne
      have hne2 := str_neq hne
      clear hne
      go_wp2_with (first | (go_at_call 78; refine (tA _).mono ?_; clear tA; rintro E w3 ⟨rfl, hB3⟩; obtain ⟨hR2, hB2⟩ := hS1 nq; have hR3 := hR2.below hB3; have hB4 := hB2.trans (hB3.mono hR2.sz); clear hR2 hB2 hB3 hS1) | (go_at_call 36; refine (tI _ (hL.on hB4)).mono ?_; clear tI; rintro E w4 ⟨rfl, hB5⟩; have hB6 := hB4.trans (hB5.mono hR3.sz)))
      exact ⟨rfl, rfl, hB6⟩
    · have v6I : 999999 < (v : Int) := by omega
      clear hv e1 e2 hg
      obtain ⟨y, hy⟩ : ∃ y, strB r = y := ⟨_, rfl⟩
      obtain ⟨z, hz⟩ : ∃ z, strB (dpW r) = z := ⟨_, rfl⟩
      obtain ⟨t, ht⟩ : ∃ t, strB (tkW r) = t := ⟨_, rfl⟩
      have hW := fun w1 (hB : Below w.heap.size w w1) => h.below hB
      have b0 := h.bx.c0
      have hsz := h.sz
      rw [hy, hz, ht] at NT
      rw [hy, hz] at tT
      rw [hz] at hS
      rw [ht] at tA
      rw [hy] at b0
      obtain ⟨ys, zs, up, len, le, le2⟩ := NT
      obtain ⟨n, hn⟩ : ∃ n, r.length = n := ⟨_, rfl⟩
      obtain ⟨m, hm⟩ : ∃ m, (dpW r).length = m := ⟨_, rfl⟩
      obtain ⟨k, hk⟩ : ∃ k, (tkW r).length = k := ⟨_, rfl⟩
      rw [hn] at ys len le
      rw [hm] at zs len le2
      rw [hk] at up len
      clear hn hm hk
      go_enter Tryd.func70, Tryd.ntmps70
      go_wp2_with (go_at_call 77; refine tT.mono ?_; clear tT; rintro E w1 ⟨rfl, hB1⟩; have hR1 := hW w1 hB1; have hS1 := hS w1 hB1; have c0 := hR1.bx.c0; rw [hy] at c0; have q0 := hR1.bx.r0; clear hW hS)
      go_quiet (fail)
      go_wp2_with (go_at_call 78; refine (tA _).mono ?_; clear tA; rintro E w3 ⟨rfl, hB3⟩; obtain ⟨hR2, hB2⟩ := hS1 nq; have hB4 := hB2.trans (hB3.mono hR2.sz); clear hR2 hB2 hB3 hS1)
      exact ⟨rfl, rfl, hB4⟩
  · have tA := fun w' (k : LibT B w') => lib_atoi_bad hr.take.1 hv w' k
    clear hv hg
    obtain ⟨y, hy⟩ : ∃ y, strB r = y := ⟨_, rfl⟩
    obtain ⟨z, hz⟩ : ∃ z, strB (dpW r) = z := ⟨_, rfl⟩
    obtain ⟨t, ht⟩ : ∃ t, strB (tkW r) = t := ⟨_, rfl⟩
    have hW := fun w1 (hB : Below w.heap.size w w1) => h.below hB
    have b0 := h.bx.c0
    have hsz := h.sz
    rw [hy, hz, ht] at NT
    rw [hy, hz] at tT
    rw [hz] at hS
    rw [ht] at tA
    rw [hy] at b0
    obtain ⟨ys, zs, up, len, le, le2⟩ := NT
    obtain ⟨n, hn⟩ : ∃ n, r.length = n := ⟨_, rfl⟩
    obtain ⟨m, hm⟩ : ∃ m, (dpW r).length = m := ⟨_, rfl⟩
    obtain ⟨k, hk⟩ : ∃ k, (tkW r).length = k := ⟨_, rfl⟩
    rw [hn] at ys len le
    rw [hm] at zs len le2
    rw [hk] at up len
    clear hn hm hk
    go_enter Tryd.func70, Tryd.ntmps70
    go_wp2_with (go_at_call 77; refine tT.mono ?_; clear tT; rintro E w1 ⟨rfl, hB1⟩; have hR1 := hW w1 hB1; have hS1 := hS w1 hB1; have c0 := hR1.bx.c0; rw [hy] at c0; have q0 := hR1.bx.r0; clear hW hS)
    go_quiet (fail)
    go_wp2_with (go_at_call 78; refine (tA _ (hL.on (hS1 nq).2)).mono ?_; clear tA; rintro E w3 ⟨⟨n3, tp3, p3, rfl⟩, hB3⟩; obtain ⟨hR2, hB2⟩ := hS1 nq; have hB4 := hB2.trans (hB3.mono hR2.sz); clear hR2 hB2 hB3 hS1)
    exact ⟨rfl, rfl, hB4⟩
end Go.Proofs.YtdmdoikkemfcaabDoor
