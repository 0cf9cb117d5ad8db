/- What writing answers that is not denied (write). -/
import Derived.RangeFuncNested
import Derived.RangeFuncBound
import Derived.RangeFuncCalls
import Derived.RangeFuncLeaves
import Derived.RangeFuncFrom
import Derived.Shelf.Abstract
import Derived.Shelf.RegionOpen
import Derived.WalkKit
import Derived.OwnWalkIn
import Derived.TacticsInMore
import Derived.LoopNIn
import Derived.LoopIn
import Derived.Test.YtkkhcgapfklmjaaDoorWalAsk
import Derived.Test.YtkkhcgapfklmjaaDoorRoundSt
namespace Go.Proofs.YtkkhcgapfklmjaaDoor
open Go.RowKit Go.Shelf
attribute [local go_sem] Oper.semAt_some
set_option maxRecDepth 100000

section
variable {n0 n1 B gu gf cu cf N : Nat} {au af : Option Addr} {W W' a b c : World} {s : WallSt}
theorem Betw.grown {row : Option Nat} (h : Betw n0 n1 a W) (hg : W.grownBy W' row) (hr : ∀ k, row = some k → a.heap.size ≤ k) : Betw n0 n1 a W' :=
  ⟨hg.os.trans h.os, hg.tape.trans h.tape, hg.output.trans h.output, Nat.le_trans h.size hg.size, fun k hk ho => (hg.block k (Nat.lt_of_lt_of_le hk h.size) (fun e => by have := hr k e.symm; omega)).trans (h.block k hk ho)⟩
theorem ownFrom_betw {β : Type} (hB : a.heap.size ≤ N) : OwnFrom N (fun (_ : β) W => Betw n0 n1 a W) :=
  fun _ _ _ _ hs hg hr => hs.grown hg (fun k e => Nat.le_trans hB (hr k e).1)
theorem ownFrom_wmon {β : Type} (f : β → WallSt) : OwnFrom N (fun (x : β) W => WMon n0 n1 B au af gu gf cu cf W (f x)) :=
  Own.from (fun _ _ _ _ hs hg hr => hs.kept (fun _ _ e => cell_kept e hg hr) (fun _ _ e => frozen_kept e hg hr)) _
theorem Betw.belowR (h : Betw n0 n1 a b) (k : Below a.heap.size b c) : Betw n0 n1 a c :=
  ⟨k.os.trans h.os, k.tape.trans h.tape, k.output.trans h.output, Nat.le_trans h.size k.size, fun i hi ho => (k.block i hi).trans (h.block i hi ho)⟩
theorem WMon.upto (h : WMon n0 n1 B au af gu gf cu cf W s) (hB : B < N) (hU : ∀ i, i < s.nu → gu < N) (hF : ∀ i, i < s.nf → gf < N) (b : Below N W W') : WMon n0 n1 B au af gu gf cu cf W' s :=
  ⟨(b.cell hB).trans h.c0, (b.cell hB).trans h.c1, h.low, h.hu, h.hf, h.ne, fun i hi => (b.cell (hU i hi)).trans (h.u0 i hi), fun i hi => (b.frozen (hU i hi)).trans (h.r0 i hi), fun i hi => (b.cell (hF i hi)).trans (h.f0 i hi), fun i hi => (b.cell (hF i hi)).trans (h.f1 i hi), fun i hi => (b.frozen (hF i hi)).trans (h.q1 i hi)⟩
end
theorem drew_set (W : World) (a : Addr) (v : Value) : (W.setCell a v).drew = W.drew.setCell a v := by
  unfold World.setCell World.drew
  rfl
/-- What the files of the firms of a list hold. -/
def orL {n : Nat} (hol : Nat → Nat) (l : List (Thing n)) : Nat := l.foldl (fun a i => a ||| hol i.1) 0
theorem orL_snoc {n : Nat} (hol : Nat → Nat) (l : List (Thing n)) (i : Thing n) : orL hol (l ++ [i]) = orL hol l ||| hol i.1 := by simp [orL]
theorem orL_bit {n : Nat} (hol : Nat → Nat) (l : List (Thing n)) (j : Nat) : (orL hol l).testBit j = true ↔ ∃ i ∈ l, (hol i.1).testBit j = true := by
  have gen : ∀ (l : List (Thing n)) (a : Nat), (l.foldl (fun a i => a ||| hol i.1) a).testBit j = true ↔ a.testBit j = true ∨ ∃ i ∈ l, (hol i.1).testBit j = true := by
    intro l
    induction l with
    | nil => intro a; simp
    | cons i l ih =>
      intro a
      rw [List.foldl_cons, ih, Nat.testBit_or, Bool.or_eq_true]
      simp only [List.mem_cons, exists_eq_or_imp]
      rw [or_assoc]
  unfold orL
  rw [gen]
  simp
theorem orL_lt {n : Nat} {hol : Nat → Nat} (h : ∀ i, i < n → hol i < 2 ^ n) (l : List (Thing n)) : orL hol l < 2 ^ n :=
  lt_of_bits fun j hj => by
    obtain ⟨i, _, hb⟩ := (orL_bit hol l j).1 hj
    exact bit_lt (h i.1 i.2) hb
theorem orL_mem {n set : Nat} (hol : Nat → Nat) (hn : n ≤ 12) (h : set < 2 ^ n) : orL hol (memN n set) = holOr set hol n := by
  refine Nat.eq_of_testBit_eq fun j => ?_
  rw [Bool.eq_iff_iff, orL_bit, holOr_bit]
  constructor
  · rintro ⟨i, hi, hb⟩
    exact ⟨i.1, i.2, (memN_iff hn h i).1 hi, hb⟩
  · rintro ⟨g, hg, hs, hb⟩
    exact ⟨⟨g, hg⟩, (memN_iff hn h ⟨g, hg⟩).2 hs, hb⟩
theorem or_round {n : Nat} (hol : Nat → Nat) (f : Nat) (pre : List (Thing n)) (q : Thing n) : (hol f ||| orL hol pre) ||| upd hol f (hol f ||| orL hol pre) q.1 = hol f ||| orL hol (pre ++ [q]) := by
  rw [orL_snoc]
  by_cases e : q.1 = f
  · rw [e, upd_same, Nat.or_self, ← Nat.or_assoc]
    refine Nat.eq_of_testBit_eq fun j => ?_
    simp only [Nat.testBit_or]
    cases (hol f).testBit j <;> simp
  · rw [upd_other _ e, Nat.or_assoc]
theorem upd_upd (g : Nat → Nat) (k a b : Nat) : upd (upd g k a) k b = upd g k b := by
  funext x
  unfold upd
  split <;> rfl
theorem upd_id (g : Nat → Nat) (k : Nat) : upd g k (g k) = g := by
  funext x
  unfold upd
  split
  · rename_i e; rw [e]
  · rfl
set_option maxHeartbeats 2000000 in
theorem waWrite_in (n : Nat) (hn : 5 ≤ n) {n0 n1 B gu gf cu cf : Nat} {au af : Option Addr} {w : World} {s : WallSt} (hM : WMon n0 n1 B au af gu gf cu cf w s) (ok : WallOk s) (hT : Tab w) (h0 : 1 < n0) (u f : Nat) (hu : u < s.nu) (hf : f < s.nf)
    (ha : anyB s.nf (less (s.saw u) (2 ^ f)) (isClosed s) = false) :
    CallsIn Fence.wide n Tryd.prog 21 #[.pointer (some ⟨B, 0, none⟩), .int .i64 (u : Int), .int .i64 (f : Int)] w fun e w' => e = .returned .nilIface ∧ WMon n0 n1 B au af gu gf cu cf w' { s with hol := upd s.hol f (s.hol f ||| holOr (s.saw u) s.hol s.nf) } ∧ Betw n0 n1 w w' := by
  have h1 : 1 ≤ n := by omega
  have hsz := hT.size
  have hmx : Tryd.prog.follows .mixedOrders = true := by kernel_rfl
  have tA := fun W' (b : Below w.heap.size w W') => sawClosed_in (n - 1) (isClosed s) (by omega) (hM.below b) ok (hT.below b hT.size) u f hu hf fun q hq _ b' => (waClosed_any ((hM.below b).below b') q hq).mono fun _ _ ⟨he, hw⟩ => ⟨he, by rw [hw]; exact Below.refl _ _⟩
  rw [ha] at tA
  clear ha
  obtain ⟨wb, hwb⟩ : ∃ W1, (w.alloc (.cells #[.pointer (some ⟨B, 0, none⟩)] 25)).alloc (.cells #[.int .i64 (f : Int)] 3) = W1 := ⟨_, rfl⟩
  obtain ⟨hb1, hc1⟩ := wcaught_of hwb
  obtain ⟨m1, m2⟩ := id hc1
  obtain ⟨rfl, lu0, lu1, lu2⟩ := hM.hu (by omega)
  obtain ⟨rfl, lf0, lf1, lf2⟩ := hM.hf (by omega)
  have hui : (u : Int) < (s.nu : Int) := by omega
  have lB := hM.ltB
  have lU := hM.ltu hu
  have lF := hM.ltf hf
  refine callsIn_of_wp_marks Tryd.func21 rfl trivial ?_ rfl
  simp only [Tryd.ntmps21, List.size_toArray, List.length_cons, List.length_nil, Nat.reduceAdd, Nat.reduceSub, Array.replicate_succ, Array.replicate_zero, List.push_toArray, List.append_toArray, List.nil_append, List.cons_append]
  gi_wp2_with (first | (refine ⟨trivial, ?_⟩; gi_at_call 29; refine (tA _ hb1).mono ?_; clear tA; rintro e w3 ⟨rfl, hB3⟩; have hb3 := hb1.trans (hB3.mono hb1.size); have m31 := keep_cell hB3 m1; have m32 := keep_cell hB3 m2; have c0 := (hM.below hb3).c0; have u0 := (hM.below hb3).u0 u hu) | (refine ⟨trivial, ?_⟩; gi_at_call 30; refine (things_in (n - 1) _ _).mono ?_; rintro e w' ⟨rfl, rfl⟩))
  have hb3w : Below w.heap.size w w3 := hb3
  obtain ⟨set, hset⟩ : ∃ x, s.saw u = x := ⟨_, rfl⟩
  have hsl : set < 2 ^ s.nf := by rw [← hset]; exact ok.saw u hu
  rw [hset] at u0 ⊢
  have HSET := Hid.mkI hset
  clear hwb hb1 hc1 m1 m2 hB3 c0 u0 hset
  have hm : s.nf ≤ 12 := by have := ok.nf; omega
  obtain ⟨wv, hwv⟩ : ∃ wv, w3.alloc (.cells #[.int .i64 (set : Int)] 3) = wv := ⟨_, rfl⟩
  have hbv : Below w3.heap.size w3 wv := by rw [← hwv]; exact (Below.refl _ w3).alloc (Nat.le_refl _) _
  have hvsize : wv.heap.size = w3.heap.size + 1 := by rw [← hwv]; simp
  have cy : wv.cell? ⟨w3.heap.size, 0, Option.none⟩ = some (.int .i64 set) := by rw [← hwv]; exact (cell_new_l w3 (.int .i64 set) 3).1
  have hbw : Below w.heap.size w wv := hb3w.trans (hbv.mono hb3w.size)
  replace m31 := keep_cell hbv m31
  replace m32 := keep_cell hbv m32
  have hMv := hM.below hbw
  rw [hwv]
  clear hwv hbv hb3 hb3w
  have hTv : Tab wv := hT.below hbw hsz
  have hBo := hbw.size
  have hlow := hM.low
  have HO : Hid (∀ l : List (Thing s.nf), s.hol f ||| orL s.hol l < 4096) := fun l => Nat.lt_of_lt_of_le (Nat.or_lt_two_pow (ok.hol f hf) (orL_lt ok.hol l)) (pow12 hm)
  refine wpIn_rangeFunc_ownF rfl h1 (gf := 33) (lb := #[.pointer (some ⟨w3.heap.size, 0, Option.none⟩)]) rfl trivial (enters_of Tryd.func33 (by kernel_rfl) rfl)
    (things_stops (n - 1) s.nf hm (by omega) w3.heap.size n0 set hsl wv (by omega) (by omega) h0 cy hTv) belowK_t (belowK_b (by omega)) (Below.refl _ _) (fun _ => rfl)
    (fun pre W => (WMon n0 n1 B (some ⟨gu, 0, Option.none⟩) (some ⟨gf, 0, Option.none⟩) gu gf cu cf W { s with hol := upd s.hol f (s.hol f ||| orL s.hol pre) } ∧ (W.cell? ⟨w.heap.size, 0, Option.none⟩ = some (.pointer (some ⟨B, 0, Option.none⟩)) ∧ W.cell? ⟨w.heap.size + 1, 0, Option.none⟩ = some (.int .i64 (f : Int)))) ∧ Betw n0 n1 w W)
    (fun _ _ _ => False)
    (OwnFrom.and (OwnFrom.and (ownFrom_wmon (fun pre : List (Thing s.nf) => { s with hol := upd s.hol f (s.hol f ||| orL s.hol pre) })) (Own.from (fun s A B row hs hg hr => ⟨cell_kept hs.1 hg hr, cell_kept hs.2 hg hr⟩) _)) (ownFrom_betw hBo))
    (fun _ _ _ _ _ hs _ _ => hs)
    ⟨⟨by rw [show orL s.hol ([] : List (Thing s.nf)) = 0 from rfl, Nat.or_zero, upd_id]; exact hMv, m31, m32⟩, betw_of hbw⟩
    (fun z => { tmps := #[.pointer (some ⟨B, 0, Option.none⟩), .int .i64 (u : Int), .int .i64 (f : Int), .pointer (some ⟨w.heap.size, 0, Option.none⟩), undef, .pointer (some ⟨w.heap.size + 1, 0, Option.none⟩), .nilIface, .int .i64 (z.1 : Int), .pointer (some ⟨B, 0, Option.none⟩), .int .i64 (u : Int), .int .i64 (f : Int), .pointer (some ⟨B, 0, Option.none⟩), .func (.func 28) #[.pointer (some ⟨B, 0, Option.none⟩)] #[], .bool false, undef, .pointer (some ⟨B, 0, Option.none⟩), .pointer (some ⟨B, 0, Option.none⟩), .pointer (some ⟨B, 0, Option.none⟩), .slice (some ⟨gu, 0, Option.none⟩) s.nu cu, .int .i64 (u : Int), .pointer (some ⟨gu, u, Option.none⟩), .int .i64 (set : Int), .func (.func 33) #[] #[.pointer (some ⟨w3.heap.size, 0, Option.none⟩)], .int .i64 (z.1 : Int), undef, undef, undef, undef, undef, undef, undef, undef, undef, undef, undef, undef, undef, undef, undef, undef, undef, undef, undef], defers := [] }) ?assign ?body ?done ?stop
  case assign =>
    intro l y W K hK
    gi_wp2
    exact hK
  case body =>
    rintro l pre ⟨q, hq⟩ W ⟨⟨hMW, k1, k2⟩, hBW⟩ _
    as_aux_lemma =>
      dsimp only
      have d1 := hMW.c1
      have d2 := hMW.f1 f hf
      have d3 := hMW.f1 q hq
      have z2 := hMW.q1 f hf
      simp only [upd_same] at d2
      have hfi : (f : Int) < (s.nf : Int) := by omega
      have hqi : (q : Int) < (s.nf : Int) := by omega
      have hR := or_round s.hol f pre ⟨q, hq⟩
      have hlt := HO.out pre
      have hlt2 := HO.out (pre ++ [⟨q, hq⟩])
      have hy : upd s.hol f (s.hol f ||| orL s.hol pre) q < 4096 := by
        unfold upd
        split
        · exact hlt
        · exact Nat.lt_of_lt_of_le (ok.hol q hq) (pow12 hm)
      have hor := or_i64 _ _ hlt hy
      have hfin : WMon n0 n1 B (some ⟨gu, 0, Option.none⟩) (some ⟨gf, 0, Option.none⟩) gu gf cu cf (W.setCell ⟨gf, f * 2 + 1, Option.none⟩ (.int .i64 ((s.hol f ||| orL s.hol (pre ++ [⟨q, hq⟩]) : Nat) : Int))) { s with hol := upd s.hol f (s.hol f ||| orL s.hol (pre ++ [⟨q, hq⟩])) } := by
        have h := hMW.putH (f := f) (v := s.hol f ||| orL s.hol (pre ++ [⟨q, hq⟩])) hf
        simp only [upd_upd] at h
        exact h
      have HF := Hid.mkI hfin
      rw [hR] at hor
      obtain ⟨acc, hacc⟩ : ∃ x, s.hol f ||| orL s.hol pre = x := ⟨_, rfl⟩
      obtain ⟨nxt, hnxt⟩ : ∃ x, s.hol f ||| orL s.hol (pre ++ [⟨q, hq⟩]) = x := ⟨_, rfl⟩
      simp only [hacc] at d2 d3 hor
      simp only [hnxt] at hor HF
      obtain ⟨y, hye⟩ : ∃ x, upd s.hol f acc q = x := ⟨_, rfl⟩
      simp only [hye] at d3 hor
      have HN := Hid.mkI hnxt
      obtain ⟨nf, hnf⟩ : ∃ x, s.nf = x := ⟨_, rfl⟩
      have d1' : W.cell? ⟨B, 1, Option.none⟩ = some (.slice (some ⟨gf, 0, Option.none⟩) nf cf) := by rw [← hnf]; exact d1
      have hfi' : (f : Int) < (nf : Int) := by rw [← hnf]; exact hfi
      have hqi' : (q : Int) < (nf : Int) := by rw [← hnf]; exact hqi
      have hfn : n0 ≤ gf ∧ gf < n1 := ⟨lf0, lf2⟩
      have k1' : (W.setCell ⟨gf, f * 2 + 1, Option.none⟩ (.int .i64 (nxt : Int))).cell? ⟨w.heap.size, 0, Option.none⟩ = some (.pointer (some ⟨B, 0, Option.none⟩)) := (cell_far (by omega)).trans k1
      have k2' : (W.setCell ⟨gf, f * 2 + 1, Option.none⟩ (.int .i64 (nxt : Int))).cell? ⟨w.heap.size + 1, 0, Option.none⟩ = some (.int .i64 (f : Int)) := (cell_far (by omega)).trans k2
      have HE : Hid (ownPostK (Below n0) (fun (pre : List (Thing s.nf)) W => (WMon n0 n1 B (some ⟨gu, 0, Option.none⟩) (some ⟨gf, 0, Option.none⟩) gu gf cu cf W { s with hol := upd s.hol f (s.hol f ||| orL s.hol pre) } ∧ (W.cell? ⟨w.heap.size, 0, Option.none⟩ = some (.pointer (some ⟨B, 0, Option.none⟩)) ∧ W.cell? ⟨w.heap.size + 1, 0, Option.none⟩ = some (.int .i64 (f : Int)))) ∧ Betw n0 n1 w W) (fun _ _ _ => False) (pre ++ [⟨q, hq⟩]) W .normal { tmps := #[], defers := [] } (W.setCell ⟨gf, f * 2 + 1, Option.none⟩ (.int .i64 (nxt : Int))).drew) :=
        ⟨(KeepsOthers.setCell _ _ _).trans (KeepsOthers.drew _), ((Below.refl _ W).setCell (p := ⟨gf, f * 2 + 1, Option.none⟩) lf0 _).drew, ⟨by rw [HN.out]; exact HF.out.drew, k1', k2'⟩, (hBW.setCell (p := ⟨gf, f * 2 + 1, Option.none⟩) hfn _).drew⟩
      clear hR hlt hlt2 hy hnxt hacc hye HF HN hnf d1 hfi hqi hMW hBW HO hTv hMv cy hM ok hT hfin hfn k1' k2' hBo hlow hbw hsl
      gi_wp2
      refine wpIn_mono (Q := Exit.then (fun a' w' => w' = (W.setCell ⟨gf, f * 2 + 1, Option.none⟩ (.int .i64 (nxt : Int))).drew) (fun _ _ _ => False)) ?reg ?cont
      case reg =>
        clear HE
        have q1 : W.drew.cell? ⟨B, 1, Option.none⟩ = some (.slice (some ⟨gf, 0, Option.none⟩) nf cf) := d1'
        have q2 : W.drew.cell? ⟨gf, f * 2 + 1, Option.none⟩ = some (.int .i64 (acc : Int)) := d2
        have q3 : W.drew.cell? ⟨gf, q * 2 + 1, Option.none⟩ = some (.int .i64 (y : Int)) := d3
        have q4 : W.drew.frozen? ⟨gf, f * 2 + 1, Option.none⟩ = false := z2
        have q5 : W.drew.cell? ⟨w.heap.size, 0, Option.none⟩ = some (.pointer (some ⟨B, 0, Option.none⟩)) := k1
        have q6 : W.drew.cell? ⟨w.heap.size + 1, 0, Option.none⟩ = some (.int .i64 (f : Int)) := k2
        have hset : (W.setCell ⟨gf, f * 2 + 1, Option.none⟩ (.int .i64 (nxt : Int))).drew = W.drew.setCell ⟨gf, f * 2 + 1, Option.none⟩ (.int .i64 (nxt : Int)) := drew_set _ _ _
        rw [hset]
        clear hset d1' d2 d3 z2 k1 k2
        refine round_still_tail 17 hmx (by kernel_rfl) (by kernel_rfl) (fun ⟨_, _, h⟩ => h) ?_
        obtain ⟨Wd, hWd⟩ : ∃ x, W.drew = x := ⟨_, rfl⟩
        rw [hWd] at q1 q2 q3 q4 q5 q6 ⊢
        clear hWd
        simp only [List.take_succ_cons, List.take_zero, List.drop_succ_cons, List.drop_zero]
        repeat still_step
        refine wpStill_nil ?_
        go_wp2
        all_goals (try rw [hor]); exact rfl
      case cont =>
        intro ex a' w' hx
        obtain ⟨rfl, rfl⟩ := then_normal hx
        exact HE.out
  case done =>
    rintro E ys W hE rfl ⟨⟨hMW, k1, k2⟩, hBW⟩ hK
    as_aux_lemma =>
      gi_wp2
      have hMk : Marked W w.heap.size (E :: []) := Marked.cons (Marked.none _ _) (by omega) (fun _ h => absurd h (by simp)) hK
      rw [orL_mem s.hol hm hsl, ← HSET.out] at hMW
      refine leaves_marks (E :: []) _ hMk fun w' hB' hc' => ⟨.nilIface, ?_, rfl, hMW.upto lB (fun _ _ => lU) (fun _ _ => lF) hB', hBW.belowR hB'⟩
      simp [results, Tryd.f21, go_sem]
  case stop =>
    rintro E c pre W _ _ h _
    exact h.elim
theorem waWrite_yes {n0 n1 B gu gf cu cf : Nat} {au af : Option Addr} {w : World} {s : WallSt} (hM : WMon n0 n1 B au af gu gf cu cf w s) (ok : WallOk s) (hT : Tab w) (h0 : 1 < n0) (u f : Nat) (hu : u < s.nu) (hf : f < s.nf)
    (ha : anyB s.nf (less (s.saw u) (2 ^ f)) (isClosed s) = false) :
    Calls Tryd.prog 21 #[.pointer (some ⟨B, 0, none⟩), .int .i64 (u : Int), .int .i64 (f : Int)] w fun e w' => e = .returned .nilIface ∧ WMon n0 n1 B au af gu gf cu cf w' { s with hol := upd s.hol f (s.hol f ||| holOr (s.saw u) s.hol s.nf) } ∧ Betw n0 n1 w w' :=
  callsIn_wide.1 (waWrite_in 5 (Nat.le_refl _) hM ok hT h0 u f hu hf ha)
end Go.Proofs.YtkkhcgapfklmjaaDoor
