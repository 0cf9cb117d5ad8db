/- Texts of programs are bytes; the walk of the law ProgBack. -/
import Derived.WalkKit
import Derived.LoopTactic
import Derived.Deep.QuietTactic
import Derived.BigQuiet
import Derived.Test.YtahdbhehaoeemaaGreatDoorPrgA
import Derived.Test.YtahdbhehaoeemaaGreatDoorRunO
namespace Go.Proofs.YtahdbhehaoeemaaGreatDoor
open Go.RowKit
set_option maxRecDepth 100000
set_option linter.unusedVariables false

theorem digs_lt (n : Nat) : ∀ c ∈ digs n, c < 256 := fun c h => digF_lt _ _ c h
theorem tV_lt : ∀ (m : Nat) (v : Nd), v.i < m → OkV v → ∀ c ∈ tN v, c < 256
  | 0, _, h => absurd h (by omega)
  | m + 1, v, hm => fun hv c h => by
    rcases val_view hv with ⟨n, _, e, _⟩ | ⟨k, hk, e, _⟩ | ⟨k, a, b, _, oa, ob, _, _, e, _⟩
    · rw [e, List.mem_cons] at h
      rcases h with rfl | h
      · omega
      · exact digs_lt _ c h
    · rw [e, List.mem_singleton] at h
      omega
    · rw [e, List.mem_cons, List.mem_append] at h
      rcases h with rfl | h | h
      · have := @sgK_all k; omega
      · exact tV_lt m a (by omega) oa c h
      · exact tV_lt m b (by omega) ob c h
theorem tD_lt : ∀ (m : Nat) (D : List Nd), (tD D).length < m → OkD D → ∀ c ∈ tD D, c < 256
  | 0, _, h => absurd h (by omega)
  | m + 1, [], _ => fun _ c h => by cases h
  | m + 1, d :: r, hm => fun hd c h => by
    rw [tD, List.length_append] at hm
    rw [tD] at h
    rcases deed_view hd.head with ⟨k, v, hk, hv, e, _⟩ | ⟨v, A, B, hv, ha, hb, e, _⟩ | ⟨v, A, hv, ha, e, _⟩
    · have e0 := e []
      rw [List.append_nil] at e0
      have hlen : 0 < (tN d).length := by rw [e0]; simp
      rw [e] at h
      simp only [List.mem_cons, List.mem_append] at h
      rcases h with rfl | rfl | h | rfl | h
      · omega
      · omega
      · exact tV_lt _ v (Nat.lt_succ_self _) hv c h
      · omega
      · exact tD_lt m r (by omega) hd.tail c h
    · have e0 := e []
      rw [List.append_nil] at e0
      have hlen : (tD A).length + (tD B).length + 2 ≤ (tN d).length := by rw [e0]; simp <;> omega
      rw [e] at h
      simp only [List.mem_cons, List.mem_append] at h
      rcases h with rfl | h | rfl | h | rfl | rfl | h | rfl | h
      · omega
      · exact tV_lt _ v (Nat.lt_succ_self _) hv c h
      · omega
      · exact tD_lt m A (by omega) ha c h
      · omega
      · omega
      · exact tD_lt m B (by omega) hb c h
      · omega
      · exact tD_lt m r (by omega) hd.tail c h
    · have e0 := e []
      rw [List.append_nil] at e0
      have hlen : (tD A).length + 2 ≤ (tN d).length := by rw [e0]; simp <;> omega
      rw [e] at h
      simp only [List.mem_cons, List.mem_append] at h
      rcases h with rfl | h | rfl | h | rfl | h
      · omega
      · exact tV_lt _ v (Nat.lt_succ_self _) hv c h
      · omega
      · exact tD_lt m A (by omega) ha c h
      · omega
      · exact tD_lt m r (by omega) hd.tail c h
theorem numsB_strB {t : List Nat} (h : ∀ c ∈ t, c < 256) : numsB (strB t) = t := by
  unfold numsB
  rw [strB_data, List.map_map]
  have : ∀ m : List Nat, (∀ c ∈ m, c < 256) → m.map ((fun x : UInt8 => x.toNat) ∘ UInt8.ofNat) = m := fun m => by
    induction m with
    | nil => intro _; rfl
    | cons c m ih =>
      intro h
      rw [List.map_cons, ih fun x hx => h x (by simp [hx])]
      have := h c (by simp)
      congr 1
      simp
      omega
  exact this t h
theorem txN_lt {p : List Nod} (hp : Good p) : ∀ c ∈ txN p (lstI p), c < 256 := by
  obtain ⟨t, _, o⟩ := flat0_all hp
  rw [← t]
  exact tD_lt _ _ (Nat.lt_succ_self _) o
theorem numsB_app (a b : ByteArray) : numsB (a ++ b) = numsB a ++ numsB b := by
  have e : a ++ b = strB (numsB a ++ numsB b) := by rw [← strB_app, strB_numsB, strB_numsB]
  rw [e, numsB_strB]
  intro c hc
  rcases List.mem_append.1 hc with h | h
  · exact numsB_lt a c h
  · exact numsB_lt b c h
/-- What Read answers, where it reads. -/
theorem readV_ok {w : World} {o : List Nod} {E : Ending} {w' : World} (h : ReadV w (.ok o) E w') : ∃ p cp, E = .returned (.tuple #[.slice p o.length cp, .nilIface]) ∧ Hid (AtNods w' p o.length (nthD o)) ∧ Below w.heap.size w w' := by
  obtain ⟨hb, p, cp, e, ho⟩ := h
  obtain ⟨a, c, e2, hat⟩ := nods_of ho
  obtain ⟨rfl, rfl⟩ : p = a ∧ cp = c := by injection e2; exact ⟨by assumption, by assumption⟩
  exact ⟨p, cp, e, hat, hb⟩
theorem readV_error {w : World} {c : Int} {E : Ending} {w' : World} (h : ReadV w (.error c) E w') : E = .returned (.tuple #[.slice none 0 0, .iface 50 (.int .i64 c)]) ∧ Below w.heap.size w w' := ⟨h.2, h.1⟩
set_option maxHeartbeats 8000000 in
theorem progBack_any (a : Option Addr) (cap : Nat) (l : List Nod) (v : Value) (nv : Nat) (s : Nat → Int) (w : World) (h : AtNods w a l.length (nthD l)) (hl : Lst w v nv s) (hL : LibT w.heap.size w) (hE : ErrT w) :
    Calls Tryz.prog 3 #[.slice a l.length cap, v] w fun e w' => e = .returned (.bool true) ∧ Below w.heap.size w w' := by
  have hE0 := old_of_cell hE
  have tF := progFact_any w hL
  obtain ⟨av, cv, rfl, hlv⟩ := id hl
  by_cases hc : proC l = 0
  · have hG := good_of hc
    have tW := fun w1 (hB : Below w.heap.size w w1) => write_ok l a cap w1 (h.below hB) hc (hL.call hB)
    by_cases h300 : 300 < (txN l (lstI l)).length
    · have tW : ∀ w1, Below w.heap.size w w1 → Calls Tryz.prog 7 #[.slice a l.length cap] w1 fun e w' => e = .returned (.tuple #[.string ⟨#[]⟩, .iface 50 (.int .i64 4)]) ∧ Below w1.heap.size w1 w' := fun w1 hB => (tW w1 hB).mono fun e w' ⟨h1, h2⟩ => by
        rw [if_neg (by simpa using hc), if_pos h300] at h2
        exact ⟨h2, h1⟩
      obtain ⟨n, hn⟩ : ∃ n, l.length = n := ⟨_, rfl⟩
      rw [hn] at tW ⊢
      clear h300 hG hc hlv hl h hL hn hE hE0
      go_enter Tryz.func3, Tryz.ntmps3
      go_wp2_with fail
      refine tF.mono ?_
      rintro e w1 ⟨rfl, hB1⟩
      go_wp2_with fail
      refine (tW w1 hB1).mono ?_
      rintro e w2 ⟨rfl, hx2⟩
      have hB2 := hB1.trans (hx2.mono hB1.size)
      go_wp2_with fail
      go_ret
      exact ⟨rfl, hB2⟩
    · have tW : ∀ w1, Below w.heap.size w w1 → Calls Tryz.prog 7 #[.slice a l.length cap] w1 fun e w' => e = .returned (.tuple #[.string (strB (txN l (lstI l))), .nilIface]) ∧ Below w1.heap.size w1 w' := fun w1 hB => (tW w1 hB).mono fun e w' ⟨h1, h2⟩ => by
        rw [if_neg (by simpa using hc), if_neg h300] at h2
        exact ⟨h2, h1⟩
      have tD := fun w1 (hB : Below w.heap.size w w1) => read_any (strB (txN l (lstI l))) w1 (hL.call hB)
      rw [numsB_strB (txN_lt hG)] at tD
      have hred := red_text hG
      cases hr : redP (txN l (lstI l)) with
      | error c =>
        obtain rfl : c = 4 := by
          rcases hred with ⟨q, hq⟩ | hq
          · rw [hr] at hq; cases hq
          · rw [hr] at hq; cases hq; rfl
        rw [hr] at tD
        have tD : ∀ w1, Below w.heap.size w w1 → Calls Tryz.prog 8 #[.string (strB (txN l (lstI l)))] w1 fun e w' => e = .returned (.tuple #[.slice none 0 0, .iface 50 (.int .i64 4)]) ∧ Below w1.heap.size w1 w' := fun w1 hB => (tD w1 hB).mono fun e w' h => readV_error h
        have tE4 : ∀ w1, Below w.heap.size w w1 → Calls Tryz.prog 9 #[.iface 50 (.int .i64 4), .int .i64 4] w1 fun e w' => e = .returned (.bool true) ∧ Below w1.heap.size w1 w' := fun w1 hB => rerror_errV 4 w1 (hE.below hB hE0)
        obtain ⟨T, hT⟩ : ∃ T, strB (txN l (lstI l)) = T := ⟨_, rfl⟩
        rw [hT] at tW tD
        obtain ⟨n, hn⟩ : ∃ n, l.length = n := ⟨_, rfl⟩
        rw [hn] at tW ⊢
        clear h300 hG hc hlv hl h hL hn hE hE0 hT hr hred
        go_enter Tryz.func3, Tryz.ntmps3
        go_wp2_with fail
        refine tF.mono ?_
        rintro e w1 ⟨rfl, hB1⟩
        go_wp2_with fail
        refine (tW w1 hB1).mono ?_
        rintro e w2 ⟨rfl, hx2⟩
        have hB2 := hB1.trans (hx2.mono hB1.size)
        go_wp2_with fail
        refine (tD w2 hB2).mono ?_
        rintro e w3 ⟨rfl, hx3⟩
        have hB3 := hB2.trans (hx3.mono hB2.size)
        go_wp2_with fail
        refine (tE4 w3 hB3).mono ?_
        rintro e w4 ⟨rfl, hx4⟩
        have hB4 := hB3.trans (hx4.mono hB3.size)
        go_wp2_with fail
        go_ret
        exact ⟨rfl, hB4⟩
      | ok q =>
        obtain ⟨hq0, hqt⟩ := read_good hr
        have hsame := back_same hc hr nv s 300
        rw [hr] at tD
        have tD : ∀ w1, Below w.heap.size w w1 → Calls Tryz.prog 8 #[.string (strB (txN l (lstI l)))] w1 fun e w' => ∃ p cp, e = .returned (.tuple #[.slice p q.length cp, .nilIface]) ∧ Hid (AtNods w' p q.length (nthD q)) ∧ Below w1.heap.size w1 w' := fun w1 hB => (tD w1 hB).mono fun e w' h => readV_ok h
        have HW : Hid (∀ w1 p cp, Below w.heap.size w w1 → AtNods w1 p q.length (nthD q) → Calls Tryz.prog 7 #[.slice p q.length cp] w1 fun e w' => e = .returned (.tuple #[.string (strB (txN l (lstI l))), .nilIface]) ∧ Below w1.heap.size w1 w') := fun w1 p cp hB hat => (write_ok q p cp w1 hat hq0 (hL.call hB)).mono fun e w' ⟨h1, h2⟩ => by
          rw [if_neg (by simpa using hq0), hqt, if_neg h300] at h2
          exact ⟨h2, h1⟩
        have HC : Hid (∀ w1 p cp, AtNods w1 p q.length (nthD q) → Calls Tryz.prog 10 #[.slice p q.length cp] w1 fun e w' => e = .returned .nilIface ∧ Below w1.heap.size w1 w') := fun w1 p cp hat => by
          have := wcheck_any q p cp w1 hat
          rw [hq0] at this
          exact this
        have tR := fun w1 (hB : Below w.heap.size w w1) => run_any l a cap (.slice av nv cv) nv s 300 w1 (h.below hB) (hl.below hB)
        have tQ := fun w1 p cp (hB : Below w.heap.size w w1) (hat : AtNods w1 p q.length (nthD q)) => run_any q p cp (.slice av nv cv) nv s 300 w1 hat (hl.below hB)
        rw [← hsame] at tQ
        obtain ⟨T, hT⟩ : ∃ T, strB (txN l (lstI l)) = T := ⟨_, rfl⟩
        rw [hT] at tW tD HW
        cases hX : runIs l nv s 300 with
        | error c =>
          rw [hX] at tR tQ
          have tR : ∀ w1, Below w.heap.size w w1 → Calls Tryz.prog 11 #[.slice a l.length cap, .slice av nv cv, .int .i64 300] w1 fun e w' => e = .returned (.tuple #[.slice none 0 0, .int .i64 0, .iface 50 (.int .i64 c)]) ∧ Below w1.heap.size w1 w' := fun w1 hB => (tR w1 hB).mono fun e w' h => runO_error h
          have HQ : Hid (∀ w1 p cp, Below w.heap.size w w1 → AtNods w1 p q.length (nthD q) → Calls Tryz.prog 11 #[.slice p q.length cp, .slice av nv cv, .int .i64 300] w1 fun e w' => e = .returned (.tuple #[.slice none 0 0, .int .i64 0, .iface 50 (.int .i64 c)]) ∧ Below w1.heap.size w1 w') := fun w1 p cp hB hat => (tQ w1 p cp hB hat).mono fun e w' h => runO_error h
          have tI : ∀ w1, Calls Tryz.prog 12 #[.slice none 0 0, .slice none 0 0] w1 fun e w' => e = .returned (.bool true) ∧ ∃ k, w' = w1.drewN k := fun w1 => rints_same _ _ 0 (by decide) (fun _ => 0) w1 ⟨none, 0, rfl, .inl rfl⟩ ⟨none, 0, rfl, .inl rfl⟩
          obtain ⟨n, hn⟩ : ∃ n, l.length = n := ⟨_, rfl⟩
          obtain ⟨nq, hnq⟩ : ∃ n, q.length = n := ⟨_, rfl⟩
          rw [hn] at tW tR ⊢
          rw [hnq] at tD HW HC HQ
          clear h300 hG hc hlv hl h hL hn hE hE0 hT hr hred hnq tQ hX hsame hq0 hqt
          go_enter Tryz.func3, Tryz.ntmps3
          go_wp2_with fail
          refine tF.mono ?_
          clear tF
          rintro e w1 ⟨rfl, hB1⟩
          go_wp2_with fail
          refine (tW w1 hB1).mono ?_
          clear tW
          rintro e w2 ⟨rfl, hx2⟩
          have hB2 := hB1.trans (hx2.mono hB1.size)
          go_wp2_with fail
          refine (tD w2 hB2).mono ?_
          clear tD
          rintro e w3 ⟨p, cp, rfl, hN3, hx3⟩
          have hB3 := hB2.trans (hx3.mono hB2.size)
          have tW := HW.out w3 p cp hB3 hN3.out
          go_wp2_with fail
          refine tW.mono ?_
          clear tW
          rintro e w4 ⟨rfl, hx4⟩
          have hB4 := hB3.trans (hx4.mono hB3.size)
          have hN4 := Hid.mkI (hN3.out.below hx4)
          have tC := HC.out w4 p cp hN4.out
          go_wp2_with fail
          refine tC.mono ?_
          clear tC
          rintro e w5 ⟨rfl, hx5⟩
          have hB5 := hB4.trans (hx5.mono hB4.size)
          have hN5 := Hid.mkI (hN4.out.below hx5)
          go_wp2_with fail
          refine (tR w5 hB5).mono ?_
          clear tR
          rintro e w6 ⟨rfl, hx6⟩
          have hB6 := hB5.trans (hx6.mono hB5.size)
          have hN6 := Hid.mkI (hN5.out.below hx6)
          have tQ := HQ.out w6 p cp hB6 hN6.out
          go_wp2_with fail
          refine tQ.mono ?_
          clear tQ
          rintro e w7 ⟨rfl, hx7⟩
          have hB7 := hB6.trans (hx7.mono hB6.size)
          go_wp2_with fail
          go_quiet ((go_at_call 12; exact Calls.quiet_of (tI _)))
          go_wp2_with fail
          go_ret
          exact ⟨rfl, below_drawn hB7 _⟩
        | ok b =>
          rw [hX] at tR tQ
          have tR : ∀ w1, Below w.heap.size w w1 → Calls Tryz.prog 11 #[.slice a l.length cap, .slice av nv cv, .int .i64 300] w1 fun e w' => ∃ g cp, e = .returned (.tuple #[.slice (some ⟨g, 0, none⟩) 6 cp, .int .i64 (b.2 : Int), .nilIface]) ∧ Hid (Lst w' (.slice (some ⟨g, 0, none⟩) 6 cp) 6 b.1) ∧ Below w1.heap.size w1 w' := fun w1 hB => (tR w1 hB).mono fun e w' ⟨hb', g, cp, h1, h2⟩ => ⟨g, cp, h1, h2, hb'⟩
          have HQ : Hid (∀ w1 p cp, Below w.heap.size w w1 → AtNods w1 p q.length (nthD q) → Calls Tryz.prog 11 #[.slice p q.length cp, .slice av nv cv, .int .i64 300] w1 fun e w' => ∃ g cp, e = .returned (.tuple #[.slice (some ⟨g, 0, none⟩) 6 cp, .int .i64 (b.2 : Int), .nilIface]) ∧ Hid (Lst w' (.slice (some ⟨g, 0, none⟩) 6 cp) 6 b.1) ∧ Below w1.heap.size w1 w') := fun w1 p cp hB hat => (tQ w1 p cp hB hat).mono fun e w' ⟨hb', g, cp, h1, h2⟩ => ⟨g, cp, h1, h2, hb'⟩
          have HI : Hid (∀ v1 v2 w1, Lst w1 v1 6 b.1 → Lst w1 v2 6 b.1 → ∀ k, Calls Tryz.prog 12 #[v1, v2] (w1.drewN k) fun e w' => e = .returned (.bool true) ∧ ∃ m, w' = (w1.drewN k).drewN m) := fun v1 v2 w1 h1 h2 k => rints_same _ _ 6 (by decide) b.1 (w1.drewN k) (h1.drawn k) (h2.drawn k)
          obtain ⟨n, hn⟩ : ∃ n, l.length = n := ⟨_, rfl⟩
          obtain ⟨nq, hnq⟩ : ∃ n, q.length = n := ⟨_, rfl⟩
          obtain ⟨B, hB⟩ : ∃ B, b.2 = B := ⟨_, rfl⟩
          rw [hn] at tW tR ⊢
          rw [hnq] at tD HW HC HQ
          rw [hB] at tR HQ
          clear h300 hG hc hlv hl h hL hn hE hE0 hT hr hred hnq tQ hX hsame hq0 hqt hB
          go_enter Tryz.func3, Tryz.ntmps3
          go_wp2_with fail
          refine tF.mono ?_
          clear tF
          rintro e w1 ⟨rfl, hB1⟩
          go_wp2_with fail
          refine (tW w1 hB1).mono ?_
          clear tW
          rintro e w2 ⟨rfl, hx2⟩
          have hB2 := hB1.trans (hx2.mono hB1.size)
          go_wp2_with fail
          refine (tD w2 hB2).mono ?_
          clear tD
          rintro e w3 ⟨p, cp, rfl, hN3, hx3⟩
          have hB3 := hB2.trans (hx3.mono hB2.size)
          have tW := HW.out w3 p cp hB3 hN3.out
          go_wp2_with fail
          refine tW.mono ?_
          clear tW
          rintro e w4 ⟨rfl, hx4⟩
          have hB4 := hB3.trans (hx4.mono hB3.size)
          have hN4 := Hid.mkI (hN3.out.below hx4)
          have tC := HC.out w4 p cp hN4.out
          go_wp2_with fail
          refine tC.mono ?_
          clear tC
          rintro e w5 ⟨rfl, hx5⟩
          have hB5 := hB4.trans (hx5.mono hB4.size)
          have hN5 := Hid.mkI (hN4.out.below hx5)
          go_wp2_with fail
          refine (tR w5 hB5).mono ?_
          clear tR
          rintro e w6 ⟨g1, c1, rfl, hL6, hx6⟩
          have hB6 := hB5.trans (hx6.mono hB5.size)
          have hN6 := Hid.mkI (hN5.out.below hx6)
          have tQ := HQ.out w6 p cp hB6 hN6.out
          go_wp2_with fail
          refine tQ.mono ?_
          clear tQ
          rintro e w7 ⟨g2, c2, rfl, hL7, hx7⟩
          have hB7 := hB6.trans (hx7.mono hB6.size)
          have tI := HI.out _ _ w7 (hL6.out.below hx7) hL7.out
          go_wp2_with fail
          go_quiet ((go_at_call 12; exact Calls.quiet_of (tI _)))
          go_wp2_with fail
          go_ret
          exact ⟨rfl, below_drawn hB7 _⟩
  · have tW := fun w1 (hB : Below w.heap.size w w1) => write_bad l a cap w1 (h.below hB) hc
    have he : errV (proC l) = .iface 50 (.int .i64 (proC l)) := if_neg hc
    have tW : ∀ w1, Below w.heap.size w w1 → Calls Tryz.prog 7 #[.slice a l.length cap] w1 fun e w' => e = .returned (.tuple #[.string ⟨#[]⟩, .iface 50 (.int .i64 (proC l))]) ∧ Below w1.heap.size w1 w' := fun w1 hB => (tW w1 hB).mono fun e w' ⟨h1, h2⟩ => by
      rw [if_pos hc, he] at h2
      exact ⟨h2, h1⟩
    obtain ⟨c, hcc⟩ : ∃ c, proC l = c := ⟨_, rfl⟩
    obtain ⟨n, hn⟩ : ∃ n, l.length = n := ⟨_, rfl⟩
    rw [hn, hcc] at tW
    rw [hn]
    clear hc hlv hl h hL hn hE hE0 he hcc
    go_enter Tryz.func3, Tryz.ntmps3
    go_wp2_with fail
    refine tF.mono ?_
    rintro e w1 ⟨rfl, hB1⟩
    go_wp2_with fail
    refine (tW w1 hB1).mono ?_
    rintro e w2 ⟨rfl, hx2⟩
    have hB2 := hB1.trans (hx2.mono hB1.size)
    go_wp2_with fail
    go_ret
    exact ⟨rfl, hB2⟩
end Go.Proofs.YtahdbhehaoeemaaGreatDoor
