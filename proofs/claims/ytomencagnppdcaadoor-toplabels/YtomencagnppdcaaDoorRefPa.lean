/- What the document's Parse answers: the only label that is written so. -/
import Derived.WalkKit
import Derived.LoopTactic
import Derived.Laws.ResultCell
import Derived.Deep.QuietTactic
import Derived.BigQuiet
import Derived.Test.YtomencagnppdcaaDoorRefLab
namespace Go.Proofs.YtomencagnppdcaaDoor
open Go.RowKit
set_option maxRecDepth 100000

/-- The set of one letter; of any other byte none. -/
def letBit (c : Nat) : Nat := if 97 ≤ c ∧ c < 105 then 2 ^ (c - 97) else 0
/-- The same of the letters below k. -/
def letK (c k : Nat) : Nat := if 97 ≤ c ∧ c < 97 + k then 2 ^ (c - 97) else 0
theorem letK_zero (c : Nat) : letK c 0 = 0 := if_neg (by omega)
theorem letK_all (c : Nat) : letK c 8 = letBit c := by unfold letK letBit; rfl
theorem letK_hit (k : Nat) : letK (97 + k) k = 0 ∧ letK (97 + k) (k + 1) = 2 ^ k := by
  unfold letK
  rw [if_neg (by omega), if_pos (by omega), show 97 + k - 97 = k by omega]
  exact ⟨rfl, rfl⟩
theorem letK_miss {c k : Nat} (h : c ≠ 97 + k) : letK c (k + 1) = letK c k := by
  unfold letK
  by_cases h1 : 97 ≤ c ∧ c < 97 + k
  · rw [if_pos h1, if_pos (by omega)]
  · rw [if_neg h1, if_neg (by omega)]
theorem letK_lt (c k : Nat) (hk : k ≤ 8) : letK c k < 256 := by
  unfold letK
  split
  · have : 2 ^ (c - 97) ≤ 2 ^ 7 := Nat.pow_le_pow_right (by decide) (by omega)
    omega
  · decide
/-- The set of all letters of a text. -/
def orBits (l : List Nat) : Nat := l.foldl (fun a c => a ||| letBit c) 0
theorem orBits_snoc (l : List Nat) (c : Nat) : orBits (l ++ [c]) = orBits l ||| letBit c := by simp [orBits]
theorem orBits_lt (l : List Nat) : orBits l < 256 := by
  have gen : ∀ (l : List Nat) (a : Nat), a < 256 → l.foldl (fun a c => a ||| letBit c) a < 256 := by
    intro l
    induction l with
    | nil => intro a h; exact h
    | cons c l ih => intro a h; exact ih _ (or_lt8 h (by rw [← letK_all]; exact letK_lt c 8 (by decide)))
  exact gen l 0 (by decide)
theorem orBits_fact : ((List.range 256).all fun s => orBits (lts s) == s && decide ((lts s).length < 9)) = true := by decide +kernel
theorem orBits_lts {s : Nat} (h : s < 256) : orBits (lts s) = s ∧ (lts s).length < 9 := by
  have a := List.all_eq_true.1 orBits_fact s (List.mem_range.2 h)
  simpa using a
/-- The set that the document's Parse takes. -/
def lsetOf (y : ByteArray) : Nat := if y.size < 10 then orBits ((nums y).drop 1) else 0
theorem lsetOf_lt (y : ByteArray) : lsetOf y < 256 := by
  unfold lsetOf
  split
  · exact orBits_lt _
  · decide
theorem lsetOf_wrt {y : ByteArray} {l s : Nat} (h : prs y = some (l, s)) : lsetOf y = s := by
  obtain ⟨_, hs, hn⟩ := prs_some h
  obtain ⟨h1, h2⟩ := orBits_lts hs
  have hz : y.size < 10 := by rw [← nums_length, hn, List.length_cons]; omega
  rw [lsetOf, if_pos hz, hn, List.drop_succ_cons, List.drop_zero, h1]
theorem wrt_inj {l l' s s' : Nat} (hl : l ≤ 7) (hl' : l' ≤ 7) (h : wrt l s = wrt l' s') : l = l' := by
  have := congrArg nums h
  rw [nums_wrt hl, nums_wrt hl'] at this
  simp only [List.cons.injEq] at this
  omega

/-- What lies in a label's place, where it may be written. -/
structure Place (B : Nat) (W : World) (x y : Int) : Prop where
  c1 : W.cell? ⟨B, 0, none⟩ = some (.int .i64 x)
  c2 : W.cell? ⟨B, 1, none⟩ = some (.int .i64 y)
  f1 : W.frozen? ⟨B, 0, none⟩ = false
  f2 : W.frozen? ⟨B, 1, none⟩ = false
  lt : B < W.heap.size
theorem Place.new (w : World) (x y : Int) (t : TypeId) : Place w.heap.size (w.alloc (.cells #[.int .i64 x, .int .i64 y] t)) x y := by
  have h1 := World.alloc_heap_new w (.cells #[.int .i64 x, .int .i64 y] t)
  refine ⟨?_, ?_, ?_, ?_, by simp⟩
  · simp only [World.cell?]; rw [h1]; simp
  · simp only [World.cell?]; rw [h1]; simp
  · simp only [World.frozen?]; rw [h1]; simp
  · simp only [World.frozen?]; rw [h1]; simp
theorem Place.below {B : Nat} {W W' : World} {x y : Int} (h : Place B W x y) (S : Below W.heap.size W W') : Place B W' x y :=
  ⟨(S.cell (p := ⟨_, _, none⟩) h.lt).trans h.c1, (S.cell (p := ⟨_, _, none⟩) h.lt).trans h.c2, (S.frozen (p := ⟨_, _, none⟩) h.lt).trans h.f1, (S.frozen (p := ⟨_, _, none⟩) h.lt).trans h.f2, Nat.lt_of_lt_of_le h.lt S.size⟩
theorem Place.drewN {B : Nat} {W : World} {x y : Int} (h : Place B W x y) (n : Nat) : Place B (W.drewN n) x y := h.below (below_drawn (Below.refl _ _) n)
theorem Place.other {B B' : Nat} {W : World} {x y : Int} (h : Place B W x y) (hne : B ≠ B') (o : Nat) (v : Value) : Place B (W.setCell ⟨B', o, none⟩ v) x y :=
  ⟨by rw [World.cell?_of_block (w := W) (Below.heap_setCell W _ v B hne)]; exact h.c1, by rw [World.cell?_of_block (w := W) (Below.heap_setCell W _ v B hne)]; exact h.c2,
   by rw [World.frozen?_of_block (w := W) (Below.heap_setCell W _ v B hne)]; exact h.f1, by rw [World.frozen?_of_block (w := W) (Below.heap_setCell W _ v B hne)]; exact h.f2, by simp; exact h.lt⟩
theorem Place.set2 {B : Nat} {W : World} {x y : Int} (h : Place B W x y) (z : Int) : Place B (W.setCell ⟨B, 1, none⟩ (.int .i64 z)) x z := by
  have h1 := h.c1
  have h2 := h.c2
  have g1 := h.f1
  have g2 := h.f2
  have hl := h.lt
  exact ⟨by rw [World.cell?_setCell_other _ _ _ _ (by simp)]; exact h1, World.cell?_setCell_same _ _ _ h2, by simp [g1], by simp [g2], by simp [hl]⟩

theorem letter_index (k : Nat) (hk : k < 8) (W : World) : (Instr.index 9 (.string ⟨#[97, 98, 99, 100, 101, 102, 103, 104]⟩) (.int .i64 (k : Int))).run Tryd.prog W = .ok (.int .u8 (97 + (k : Int))) W := by
  rw [run_index_string W 9 _ .i64 (k : Int) Tryd.underlying9, dif_pos ⟨by omega, by show (k : Int) < 8; omega⟩]
  congr 2
  have all : ∀ i : Fin 8, (((ByteArray.mk #[97, 98, 99, 100, 101, 102, 103, 104])[i.1]'(by have := i.2; show i.1 < 8; exact this)).toNat : Int) = 97 + (i.1 : Int) := by decide +kernel
  exact all ⟨k, hk⟩
/-- What is known of the world in the document's Parse. -/
structure InP (w W : World) (B : Nat) (l s : Nat) : Prop where
  pl : Place B W l s
  res : Place w.heap.size W 0 0
  gt : w.heap.size < B
  bel : Below w.heap.size w W
theorem InP.drewN {w W : World} {B l s : Nat} (h : InP w W B l s) (n : Nat) : InP w (W.drewN n) B l s := ⟨h.pl.drewN n, h.res.drewN n, h.gt, below_drawn h.bel n⟩
theorem InP.below {w W W' : World} {B l s : Nat} (h : InP w W B l s) (S : Below W.heap.size W W') : InP w W' B l s := ⟨h.pl.below S, h.res.below S, h.gt, h.bel.trans (S.mono h.bel.size)⟩
theorem InP.set {w W : World} {B l s : Nat} (h : InP w W B l s) (z : Nat) : InP w (W.setCell ⟨B, 1, none⟩ (.int .i64 (z : Int))) B l z :=
  ⟨h.pl.set2 z, h.res.other (by have := h.gt; omega) _ _, h.gt, h.bel.setCell (by have := h.gt; simp; omega) _⟩

end Go.Proofs.YtomencagnppdcaaDoor
