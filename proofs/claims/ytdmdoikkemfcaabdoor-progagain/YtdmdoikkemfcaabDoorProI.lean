/- The program's reader of texts: where it lies in memory; its small steps (peek, next, need, variable, add). -/
import Derived.WalkKit
import Derived.LoopTactic
import Derived.OwnWalk
import Derived.Laws.Strings
import Derived.Lib.IndexBytes
import Derived.Laws.Strings2
import Derived.Maps.AppendAt
import Derived.Deep.RegionHeld3
import Derived.Deep.RegionLaw
import Derived.Deep.AppendLies
import Derived.WalkLawsBesides
import Derived.Test.YtdmdoikkemfcaabDoorProJ
import Derived.Test.YtdmdoikkemfcaabDoorProG
import Derived.Test.YtdmdoikkemfcaabDoorProH
namespace Go.Proofs.YtdmdoikkemfcaabDoor
open Go.RowKit
set_option maxRecDepth 100000

/-- What is left of a text: bytes, and not many. -/
def Sml (r : List Nat) : Prop := r.length ≤ 300 ∧ ∀ c ∈ r, c < 256
theorem Sml.tail {c : Nat} {r : List Nat} (h : Sml (c :: r)) : Sml r := ⟨by have := h.1; rw [List.length_cons] at this; omega, fun d hd => h.2 d (by simp [hd])⟩
theorem Sml.head {c : Nat} {r : List Nat} (h : Sml (c :: r)) : c < 256 := h.2 c (by simp)
/-- The reader: what is left, and the nodes so far, in a place of the call's own. -/
structure RdA (B X : Nat) (r : List Nat) (o : List Nod) (a : Option Addr) (cp : Nat) (W : World) : Prop where
  bx : Boxes W X (.string (strB r)) (.slice a o.length cp)
  own : W.ownsRow B 45 5 (.slice a o.length cp) o.length (flatD o)
  far : some X ≠ (Value.slice a o.length cp).ownBlock
  lo : B ≤ X
theorem RdA.hi {B X : Nat} {r : List Nat} {o : List Nod} {a : Option Addr} {cp : Nat} {W : World} (h : RdA B X r o a cp W) : X < W.heap.size := h.bx.lt
theorem RdA.sz {B X : Nat} {r : List Nat} {o : List Nod} {a : Option Addr} {cp : Nat} {W : World} (h : RdA B X r o a cp W) : B ≤ W.heap.size := Nat.le_trans h.lo (Nat.le_of_lt h.hi)
theorem RdA.left {B X : Nat} {r : List Nat} {o : List Nod} {a : Option Addr} {cp : Nat} {W : World} (h : RdA B X r o a cp W) (q : List Nat) : RdA B X q o a cp (W.setCell ⟨X, 0, none⟩ (.string (strB q))) ∧ Below B W (W.setCell ⟨X, 0, none⟩ (.string (strB q))) :=
  ⟨⟨h.bx.put0 _, own_farQ h.own (fun q => h.far q.symm) 0 _, h.far, h.lo⟩, (Below.refl B W).setCell (p := ⟨X, 0, none⟩) h.lo _⟩
/-- What lies from a place on may turn, but not the reader. -/
theorem RdA.below {B X : Nat} {r : List Nat} {o : List Nod} {a : Option Addr} {cp : Nat} {W W' : World} (h : RdA B X r o a cp W) (k : Below W.heap.size W W') : RdA B X r o a cp W' :=
  ⟨h.bx.below k, own_stays h.own k, h.far, h.lo⟩
/-- How a call of the reader's ends. -/
abbrev ErrE (c : Int) : Ending := .panicked [{ v := .iface 42 (.int .i64 c), recovered := false }]
def Ends (B X : Nat) (w : World) (res : Rd) (E : Ending) (w' : World) : Prop :=
  match res with
  | .ok a => E = .returned (.int .i64 (lstI a.2)) ∧ (∃ p cp, RdA B X a.1 a.2 p cp w') ∧ Below B w w'
  | .error c => E = ErrE c ∧ Below B w w'
abbrev rdP (X : Nat) : Value := .pointer (some ⟨X, 0, none⟩)

theorem str_some {c : Nat} {r : List Nat} : (strB (c :: r)).toList.isEmpty = false := by
  rw [Lib.toList_data, strB_data]; rfl
theorem str_at0 {c : Nat} {r : List Nat} (h : c < 256) (W : World) : (Instr.index 9 (.string (strB (c :: r))) (.int .i64 0)).run Tryd.prog W = .ok (.int .u8 (c : Int)) W := by
  have hs : 0 < (strB (c :: r)).size := by rw [strB_size]; simp
  rw [run_index_string W 9 _ .i64 0 Tryd.underlying9, dif_pos ⟨Int.le_refl 0, by omega⟩]
  have e : (strB (c :: r))[(0 : Nat)]'hs = UInt8.ofNat c := rfl
  have e2 : ((strB (c :: r))[Int.toNat 0]'hs).toNat = c := by
    show ((strB (c :: r))[(0 : Nat)]'hs).toNat = c
    rw [e]; simp; omega
  congr 3
theorem str_from1 {c : Nat} {r : List Nat} (W : World) : (Instr.slice 9 (.string (strB (c :: r))) (some (.int .i64 1)) none none).run Tryd.prog W = .ok (.string (strB r)) W := by
  rw [run_slice_string_l W 9 _ Tryd.underlying9 .i64 1 (by omega) (by rw [strB_size]; simp; omega)]
  congr 2
  show (strB (c :: r)).extract 1 _ = strB r
  have : ∀ a b : ByteArray, a.data.toList = b.data.toList → a = b := fun a b e => by
    cases a; cases b; congr; exact Array.toList_inj.1 e
  refine this _ _ ?_
  rw [Lib.extract_to_end, strB_data, strB_data]; rfl
theorem rpeek_any {B X : Nat} {r : List Nat} {o : List Nod} {a : Option Addr} {cp : Nat} (hr : Sml r) (w : World) (h : RdA B X r o a cp w) :
    Calls Tryd.prog 28 #[rdP X] w fun E w' => E = .returned (.int .i64 (pk r)) ∧ w' = w := by
  have b0 := h.bx.c0
  clear h
  cases r with
  | nil =>
    rw [strB_nil] at b0
    go_enter Tryd.func28, Tryd.ntmps28
    go_wp2
    go_ret
    exact ⟨rfl, rfl⟩
  | cons c r =>
    have hc := hr.head
    have h1 := str_some (c := c) (r := r)
    have h2 := fun W => str_at0 (r := r) hc W
    have hcI : (c : Int) < 256 := by omega
    show Calls Tryd.prog 28 #[rdP X] w fun E w' => E = .returned (.int .i64 (c : Int)) ∧ w' = w
    obtain ⟨y, hy⟩ : ∃ y, strB (c :: r) = y := ⟨_, rfl⟩
    rw [hy] at b0 h1 h2
    clear hy
    go_enter Tryd.func28, Tryd.ntmps28
    go_wp2
    go_ret
    exact ⟨rfl, rfl⟩
theorem rnext_any {B X : Nat} {r : List Nat} {o : List Nod} {a : Option Addr} {cp : Nat} (hr : Sml r) (w : World) (h : RdA B X r o a cp w) :
    Calls Tryd.prog 60 #[rdP X] w fun E w' => E = .returned (.int .i64 (pk r)) ∧ RdA B X r.tail o a cp w' ∧ Below B w w' := by
  have tP := rpeek_any hr w h
  have b0 := h.bx.c0
  have q0 := h.bx.r0
  cases r with
  | nil =>
    have hE : RdA B X [] o a cp w ∧ Below B w w := ⟨h, Below.refl _ _⟩
    clear h
    show Calls Tryd.prog 60 #[rdP X] w fun E w' => E = .returned (.int .i64 (-1)) ∧ RdA B X [] o a cp w' ∧ Below B w w'
    rw [show pk [] = -1 from rfl] at tP
    go_enter Tryd.func60, Tryd.ntmps60
    go_wp2_with (go_at_call 28; refine tP.mono ?_; clear tP; rintro E w1 ⟨rfl, rfl⟩)
    go_ret
    exact ⟨rfl, hE⟩
  | cons c r =>
    have hE := h.left r
    have hc := hr.head
    have h2 := fun W => str_from1 (c := c) (r := r) W
    have hcI : ((c : Int) != -1) = true := by simp
    clear h
    show Calls Tryd.prog 60 #[rdP X] w fun E w' => E = .returned (.int .i64 (c : Int)) ∧ RdA B X r o a cp w' ∧ Below B w w'
    rw [show pk (c :: r) = (c : Int) from rfl] at tP
    obtain ⟨y, hy⟩ : ∃ y, strB (c :: r) = y := ⟨_, rfl⟩
    rw [hy] at b0 h2
    obtain ⟨z, hz⟩ : ∃ z, strB r = z := ⟨_, rfl⟩
    rw [hz] at h2 hE
    clear hy hz
    go_enter Tryd.func60, Tryd.ntmps60
    go_wp2_with (go_at_call 28; refine tP.mono ?_; clear tP; rintro E w1 ⟨rfl, rfl⟩)
    go_ret
    exact ⟨rfl, hE⟩
theorem rneed_yes {B X : Nat} {c : Nat} {r : List Nat} {o : List Nod} {a : Option Addr} {cp : Nat} (hr : Sml (c :: r)) (w : World) (h : RdA B X (c :: r) o a cp w) :
    Calls Tryd.prog 72 #[rdP X, .int .i64 (c : Int)] w fun E w' => E = .returned (.tuple #[]) ∧ RdA B X r o a cp w' ∧ Below B w w' := by
  have tP := rnext_any hr w h
  clear h
  rw [show pk (c :: r) = (c : Int) from rfl, show (c :: r).tail = r from rfl] at tP
  go_enter Tryd.func72, Tryd.ntmps72
  go_wp2_with (go_at_call 60; refine tP.mono ?_; clear tP; rintro E w1 ⟨rfl, hR, hB⟩)
  go_end0
  exact ⟨rfl, hR, hB⟩
theorem rneed_no {B X : Nat} {r : List Nat} {o : List Nod} {a : Option Addr} {cp : Nat} (hr : Sml r) (c : Int) (hp : pk r ≠ c) (w : World) (h : RdA B X r o a cp w) :
    Calls Tryd.prog 72 #[rdP X, .int .i64 c] w fun E w' => E = ErrE 2 ∧ Below B w w' := by
  have tP := rnext_any hr w h
  clear h
  have hpI : (pk r != c) = true := by simpa using hp
  generalize pk r = p at tP hpI
  clear hp
  go_enter Tryd.func72, Tryd.ntmps72
  go_wp2_with (go_at_call 60; refine tP.mono ?_; clear tP; rintro E w1 ⟨rfl, hR, hB⟩)
  exact ⟨rfl, rfl, hB⟩
theorem rvar_yes (c : Nat) (h0 : 97 ≤ c) (h1 : c < 103) (w : World) :
    Calls Tryd.prog 64 #[.int .i64 (c : Int)] w fun E w' => E = .returned (.int .i64 ((c - 97 : Nat) : Int)) ∧ w' = w := by
  obtain ⟨k, rfl⟩ : ∃ k, c = k + 97 := ⟨c - 97, by omega⟩
  have h2I : (k : Int) < 6 := by omega
  rw [show k + 97 - 97 = k by omega]
  go_enter Tryd.func64, Tryd.ntmps64
  go_wp2
  go_ret
  exact ⟨by go_num, rfl⟩
theorem rvar_no (n : Int) (h0 : -1 ≤ n) (h1 : n < 256) (h2 : ¬ (97 ≤ n ∧ n < 103)) (w : World) :
    Calls Tryd.prog 64 #[.int .i64 n] w fun E w' => E = ErrE 2 ∧ w' = w := by
  obtain ⟨k, rfl⟩ : ∃ k, n = k + 97 := ⟨n - 97, by omega⟩
  by_cases h3 : 0 ≤ k
  · have h3I : ¬ k < 6 := by omega
    go_enter Tryd.func64, Tryd.ntmps64
    go_wp2
    exact ⟨rfl, rfl, rfl⟩
  · go_enter Tryd.func64, Tryd.ntmps64
    go_wp2
    exact ⟨rfl, rfl, rfl⟩
/-- A node more. -/
theorem rd_grown {B X g c : Nat} {r : List Nat} {o l' : List Nod} {x : Nod} {a : Option Addr} {cp : Nat} {W w5 : World} {ob : Obj} (e : o ++ [x] = l') (h : RdA B X r o a cp W) (hown : w5.ownsRow B 45 5 (.slice (some ⟨g, 0, none⟩) (o.length + 1) c) (o.length + 1) (flatD o ++ nodR x)) (hg : (W.alloc ob).drew.grownBy w5 (Value.slice a o.length cp).ownBlock) (hat : (Value.slice a o.length cp).ownBlock = some g ∨ g = W.heap.size + 1) :
    RdA B X r l' (some ⟨g, 0, none⟩) c (w5.setCell ⟨X, 1, none⟩ (.slice (some ⟨g, 0, none⟩) (o.length + 1) c)) ∧ Below B W (w5.setCell ⟨X, 1, none⟩ (.slice (some ⟨g, 0, none⟩) (o.length + 1) c)) := by
  have hX5 := ((h.bx.alloc ob).drew).grown hg h.far
  have hne : (Value.slice (some ⟨g, 0, none⟩) (o.length + 1) c).ownBlock ≠ some X := by
    intro q
    have q : g = X := by simpa [Value.ownBlock] using q
    subst q
    rcases hat with q | q
    · exact h.far q.symm
    · have := h.hi; omega
  have hll : l'.length = o.length + 1 := by rw [← e, List.length_append]; rfl
  have ho : w5.ownsRow B 45 5 (.slice (some ⟨g, 0, none⟩) (o.length + 1) c) (o.length + 1) (flatD l') := by rw [← e, flatD_snoc]; exact hown
  have hB5 : Below B W w5 := (((Below.refl B W).alloc h.sz _).drew).grown hg (by simp; have := h.sz; omega) (fun k q => (h.own.lt k q).1)
  refine ⟨⟨?_, ?_, ?_, h.lo⟩, hB5.setCell (p := ⟨X, 1, none⟩) h.lo _⟩
  · rw [hll]; exact hX5.put1 _
  · rw [hll]; exact own_farQ ho hne 1 _
  · rw [hll]; exact fun q => hne q.symm
set_option maxHeartbeats 2000000 in
theorem radd_on {B X : Nat} {r : List Nat} {o : List Nod} {a : Option Addr} {cp : Nat} (ho : o.length < 80) (x : Nod) (w : World) (h : RdA B X r o a cp w) :
    Calls Tryd.prog 29 #[rdP X, .agg #[.int .i64 x.kd, .int .i64 x.num, .int .i64 x.pa, .int .i64 x.pb, .int .i64 x.pc]] w fun E w' => E = .returned (.int .i64 (lstI (o ++ [x]))) ∧ (∃ p cp, RdA B X r (o ++ [x]) p cp w') ∧ Below B w w' := by
  obtain ⟨i0, hi0, hz0, hz1, hz2⟩ := info_parts infoNod
  have hb := bndD (n := o.length) (k := 80) (by omega)
  have hsz := h.sz
  obtain ⟨W, hW⟩ : ∃ W, w.alloc (.cells #[.int .i64 x.kd, .int .i64 x.num, .int .i64 x.pa, .int .i64 x.pb, .int .i64 x.pc] 45) = W := ⟨_, rfl⟩
  have hBel : Below w.heap.size w W := by rw [← hW]; exact (Below.refl _ w).alloc (Nat.le_refl _) _
  have hN : ∀ j u, (nodR x)[j]? = some u → W.cell? ⟨w.heap.size, j, none⟩ = some u := fun j u hj => by
    have h := cell_five_new w x 45 j u hj
    rw [Go.WideShapes.add_plain, Nat.zero_add] at h
    rw [← hW]; exact h
  have hR := h.below hBel
  have hS : B ≤ W.heap.size := Nat.le_trans hsz hBel.size
  have hBB := hBel.mono hsz
  have hone := nodR_one x
  have hlst : lstI (o ++ [x]) = (o.length : Int) := by unfold lstI; rw [List.length_append]; simp
  rw [hlst]
  obtain ⟨l', hl'⟩ : ∃ l', o ++ [x] = l' := ⟨_, rfl⟩
  have HL := Hid.mkI hl'
  rw [hl']
  have n80 : ((o.length : Int) == 80) = false := by simpa using (show (o.length : Int) ≠ 80 by omega)
  obtain ⟨kd, num, pa, pb, pc⟩ := x
  simp only at hW
  have m0 := hN 0 _ rfl
  have m1 := hN 1 _ rfl
  have m2 := hN 2 _ rfl
  have m3 := hN 3 _ rfl
  have m4 := hN 4 _ rfl
  simp only at m0 m1 m2 m3 m4
  have b1 := hR.bx.c1
  have q1 := hR.bx.r1
  have l1 := hR.hi
  clear hl' hN hBel h
  go_enter Tryd.func29, Tryd.ntmps29
  go_wp2
  go_region_law ((refine step_append_lies _ (by rfl) _ _ _ (by rfl) B 45 i0 _ 5 40 Tryd.underlying33 hi0 hz0 hz1 hz2 rfl (by omega) (.slice a o.length cp) o.length (flatD o) (by rfl) ((hR.own.alloc _).drew) ⟨W.heap.size, 0, none⟩ 1 1 (nodR ⟨kd, num, pa, pb, pc⟩) (by rfl) (by rfl) (World.news_of_block (heap_alloc_new W _)) hone (by omega) hb.1 hb.2 (by simp; omega) (W.heap.size + 1) (by simp) ?_; intro g5 c5 w5 hown5 hg5 hat hlt2; have hX5 := ((hR.bx.alloc _).drew).grown hg5 hR.far; obtain ⟨y0, y1, z0, z1⟩ := id hX5; obtain ⟨hE, hE2⟩ := rd_grown HL.out hR hown5 hg5 hat))
  all_goals
    clear hown5 hg5 hat hX5 hR
    go_wp2
    go_ret
    exact ⟨by go_num, ⟨_, _, hE⟩, hBB.trans hE2⟩
theorem radd_full {B X : Nat} {r : List Nat} {o : List Nod} {a : Option Addr} {cp : Nat} (ho : o.length = 80) (x : Nod) (w : World) (h : RdA B X r o a cp w) :
    Calls Tryd.prog 29 #[rdP X, .agg #[.int .i64 x.kd, .int .i64 x.num, .int .i64 x.pa, .int .i64 x.pb, .int .i64 x.pc]] w fun E w' => E = ErrE 4 ∧ Below B w w' := by
  have hsz := h.sz
  have hB : Below B w (w.alloc (.cells #[.int .i64 x.kd, .int .i64 x.num, .int .i64 x.pa, .int .i64 x.pb, .int .i64 x.pc] 45)) := (Below.refl _ w).alloc hsz _
  have b1 := h.bx.c1
  rw [ho] at b1
  have l1 := h.hi
  clear h
  obtain ⟨kd, num, pa, pb, pc⟩ := x
  go_enter Tryd.func29, Tryd.ntmps29
  go_wp2
  exact ⟨rfl, rfl, hB⟩
/-- A node more, or too many. -/
theorem radd_any {B X : Nat} {r : List Nat} {o : List Nod} {a : Option Addr} {cp : Nat} (ho : o.length ≤ 80) (x : Nod) (w : World) (h : RdA B X r o a cp w) :
    Calls Tryd.prog 29 #[rdP X, .agg #[.int .i64 x.kd, .int .i64 x.num, .int .i64 x.pa, .int .i64 x.pb, .int .i64 x.pc]] w fun E w' => Ends B X w (mdN r o x) E w' := by
  unfold mdN
  by_cases h80 : o.length = 80
  · rw [if_pos h80]; exact radd_full h80 x w h
  · rw [if_neg h80]; exact radd_on (by omega) x w h
end Go.Proofs.YtdmdoikkemfcaabDoor
