/- What the document's Parse answers: the only label that is written so. -/
import Derived.WalkKit
import Derived.LoopTactic
import Derived.Laws.ResultCell
import Derived.Deep.QuietTactic
import Derived.BigQuiet
import Derived.Test.YtkdaaaloibdngaaDoorRefLab
namespace Go.Proofs.YtkdaaaloibdngaaDoor
open Go.RowKit
set_option maxRecDepth 100000

/-- The set of one letter; of any other byte none. -/
def letBit (c : Nat) : Nat := if 97 ≤ c ∧ c < 105 then 2 ^ (c - 97) else 0
/-- The same of the letters below k. -/
def letK (c k : Nat) : Nat := if 97 ≤ c ∧ c < 97 + k then 2 ^ (c - 97) else 0
theorem letK_zero (c : Nat) : letK c 0 = 0 := if_neg (by omega)
theorem letK_all (c : Nat) : letK c 8 = letBit c := by unfold letK letBit; rfl
theorem letK_hit (k : Nat) : letK (97 + k) k = 0 ∧ letK (97 + k) (k + 1) = 2 ^ k := by
  unfold letK
  rw [if_neg (by omega), if_pos (by omega), show 97 + k - 97 = k by omega]
  exact ⟨rfl, rfl⟩
theorem letK_miss {c k : Nat} (h : c ≠ 97 + k) : letK c (k + 1) = letK c k := by
  unfold letK
  by_cases h1 : 97 ≤ c ∧ c < 97 + k
  · rw [if_pos h1, if_pos (by omega)]
  · rw [if_neg h1, if_neg (by omega)]
theorem letK_lt (c k : Nat) (hk : k ≤ 8) : letK c k < 256 := by
  unfold letK
  split
  · have : 2 ^ (c - 97) ≤ 2 ^ 7 := Nat.pow_le_pow_right (by decide) (by omega)
    omega
  · decide
/-- The set of all letters of a text. -/
def orBits (l : List Nat) : Nat := l.foldl (fun a c => a ||| letBit c) 0
theorem orBits_snoc (l : List Nat) (c : Nat) : orBits (l ++ [c]) = orBits l ||| letBit c := by simp [orBits]
theorem orBits_lt (l : List Nat) : orBits l < 256 := by
  have gen : ∀ (l : List Nat) (a : Nat), a < 256 → l.foldl (fun a c => a ||| letBit c) a < 256 := by
    intro l
    induction l with
    | nil => intro a h; exact h
    | cons c l ih => intro a h; exact ih _ (or_lt8 h (by rw [← letK_all]; exact letK_lt c 8 (by decide)))
  exact gen l 0 (by decide)
theorem orBits_fact : ((List.range 256).all fun s => orBits (lts s) == s && decide ((lts s).length < 9)) = true := by decide +kernel
theorem orBits_lts {s : Nat} (h : s < 256) : orBits (lts s) = s ∧ (lts s).length < 9 := by
  have a := List.all_eq_true.1 orBits_fact s (List.mem_range.2 h)
  simpa using a
/-- The set that the document's Parse takes. -/
def lsetOf (y : ByteArray) : Nat := if y.size < 10 then orBits ((nums y).drop 1) else 0
theorem lsetOf_lt (y : ByteArray) : lsetOf y < 256 := by
  unfold lsetOf
  split
  · exact orBits_lt _
  · decide
theorem lsetOf_wrt {y : ByteArray} {l s : Nat} (h : prs y = some (l, s)) : lsetOf y = s := by
  obtain ⟨_, hs, hn⟩ := prs_some h
  obtain ⟨h1, h2⟩ := orBits_lts hs
  have hz : y.size < 10 := by rw [← nums_length, hn, List.length_cons]; omega
  rw [lsetOf, if_pos hz, hn, List.drop_succ_cons, List.drop_zero, h1]
theorem wrt_inj {l l' s s' : Nat} (hl : l ≤ 7) (hl' : l' ≤ 7) (h : wrt l s = wrt l' s') : l = l' := by
  have := congrArg nums h
  rw [nums_wrt hl, nums_wrt hl'] at this
  simp only [List.cons.injEq] at this
  omega

/-- What lies in a label's place, where it may be written. -/
structure Place (B : Nat) (W : World) (x y : Int) : Prop where
  c1 : W.cell? ⟨B, 0, none⟩ = some (.int .i64 x)
  c2 : W.cell? ⟨B, 1, none⟩ = some (.int .i64 y)
  f1 : W.frozen? ⟨B, 0, none⟩ = false
  f2 : W.frozen? ⟨B, 1, none⟩ = false
  lt : B < W.heap.size
theorem Place.new (w : World) (x y : Int) (t : TypeId) : Place w.heap.size (w.alloc (.cells #[.int .i64 x, .int .i64 y] t)) x y := by
  have h1 := World.alloc_heap_new w (.cells #[.int .i64 x, .int .i64 y] t)
  refine ⟨?_, ?_, ?_, ?_, by simp⟩
  · simp only [World.cell?]; rw [h1]; simp
  · simp only [World.cell?]; rw [h1]; simp
  · simp only [World.frozen?]; rw [h1]; simp
  · simp only [World.frozen?]; rw [h1]; simp
theorem Place.below {B : Nat} {W W' : World} {x y : Int} (h : Place B W x y) (S : Below W.heap.size W W') : Place B W' x y :=
  ⟨(S.cell (p := ⟨_, _, none⟩) h.lt).trans h.c1, (S.cell (p := ⟨_, _, none⟩) h.lt).trans h.c2, (S.frozen (p := ⟨_, _, none⟩) h.lt).trans h.f1, (S.frozen (p := ⟨_, _, none⟩) h.lt).trans h.f2, Nat.lt_of_lt_of_le h.lt S.size⟩
theorem Place.drewN {B : Nat} {W : World} {x y : Int} (h : Place B W x y) (n : Nat) : Place B (W.drewN n) x y := h.below (below_drawn (Below.refl _ _) n)
theorem Place.other {B B' : Nat} {W : World} {x y : Int} (h : Place B W x y) (hne : B ≠ B') (o : Nat) (v : Value) : Place B (W.setCell ⟨B', o, none⟩ v) x y :=
  ⟨by rw [World.cell?_of_block (w := W) (Below.heap_setCell W _ v B hne)]; exact h.c1, by rw [World.cell?_of_block (w := W) (Below.heap_setCell W _ v B hne)]; exact h.c2,
   by rw [World.frozen?_of_block (w := W) (Below.heap_setCell W _ v B hne)]; exact h.f1, by rw [World.frozen?_of_block (w := W) (Below.heap_setCell W _ v B hne)]; exact h.f2, by simp; exact h.lt⟩
theorem Place.set2 {B : Nat} {W : World} {x y : Int} (h : Place B W x y) (z : Int) : Place B (W.setCell ⟨B, 1, none⟩ (.int .i64 z)) x z := by
  have h1 := h.c1
  have h2 := h.c2
  have g1 := h.f1
  have g2 := h.f2
  have hl := h.lt
  exact ⟨by rw [World.cell?_setCell_other _ _ _ _ (by simp)]; exact h1, World.cell?_setCell_same _ _ _ h2, by simp [g1], by simp [g2], by simp [hl]⟩

theorem letter_index (k : Nat) (hk : k < 8) (W : World) : (Instr.index 9 (.string ⟨#[97, 98, 99, 100, 101, 102, 103, 104]⟩) (.int .i64 (k : Int))).run Tryd.prog W = .ok (.int .u8 (97 + (k : Int))) W := by
  rw [run_index_string W 9 _ .i64 (k : Int) Tryd.underlying9, dif_pos ⟨by omega, by show (k : Int) < 8; omega⟩]
  congr 2
  have all : ∀ i : Fin 8, (((ByteArray.mk #[97, 98, 99, 100, 101, 102, 103, 104])[i.1]'(by have := i.2; show i.1 < 8; exact this)).toNat : Int) = 97 + (i.1 : Int) := by decide +kernel
  exact all ⟨k, hk⟩
/-- What is known of the world in the document's Parse. -/
structure InP (w W : World) (B : Nat) (l s : Nat) : Prop where
  pl : Place B W l s
  res : Place w.heap.size W 0 0
  gt : w.heap.size < B
  bel : Below w.heap.size w W
theorem InP.drewN {w W : World} {B l s : Nat} (h : InP w W B l s) (n : Nat) : InP w (W.drewN n) B l s := ⟨h.pl.drewN n, h.res.drewN n, h.gt, below_drawn h.bel n⟩
theorem InP.below {w W W' : World} {B l s : Nat} (h : InP w W B l s) (S : Below W.heap.size W W') : InP w W' B l s := ⟨h.pl.below S, h.res.below S, h.gt, h.bel.trans (S.mono h.bel.size)⟩
theorem InP.set {w W : World} {B l s : Nat} (h : InP w W B l s) (z : Nat) : InP w (W.setCell ⟨B, 1, none⟩ (.int .i64 (z : Int))) B l z :=
  ⟨h.pl.set2 z, h.res.other (by have := h.gt; omega) _ _, h.gt, h.bel.setCell (by have := h.gt; simp; omega) _⟩

set_option maxHeartbeats 2000000 in
theorem refParse_walk (y : ByteArray) (hy : y.size < 9223372036854775808) (w : World) :
    Calls Tryd.prog 19 #[.string y] w fun e w' => ((∃ L : Nat, L ≤ 7 ∧ wrt L (lsetOf y) = y ∧ e = .returned (.tuple #[lab L (lsetOf y), .bool true])) ∨ ((∀ L, L ≤ 7 → wrt L (lsetOf y) ≠ y) ∧ e = .returned (.tuple #[lab 0 0, .bool false]))) ∧ Below w.heap.size w w' := by
  have hS := lsetOf_lt y
  obtain ⟨S, hSe⟩ : ∃ S, lsetOf y = S := ⟨_, rfl⟩
  rw [hSe] at hS ⊢
  have HS : Hid (lsetOf y = S) := hSe
  clear hSe
  have hW := fun (l : Nat) (hl : l ≤ 7) W => written_ok l S hl hS W
  go_enter Tryd.func19, Tryd.ntmps19
  go_wp2
  go_loopw [4] (fun i wr => ∃ l : Nat, l ≤ 8 ∧ i = .int .i64 l ∧ Hid (∀ j, j < l → wrt j S ≠ y) ∧ Place w.heap.size wr 0 0 ∧ Below w.heap.size w wr) (fun i _ => 8 - (intOf i).toNat)
  case atStart => exact ⟨0, by omega, rfl, fun j h => absurd h (by omega), Place.new w 0 0 _, (Below.refl _ w).alloc (Nat.le_refl _) _⟩
  case round =>
    obtain ⟨l, hl, rfl, HN, hR, hB⟩ := hrel
    by_cases hlt : l < 8
    · have hlt' : (l : Int) < 8 := by omega
      obtain ⟨wl, rfl⟩ : ∃ wl, wl = wr := ⟨_, rfl⟩
      have hI : InP w (wl.alloc (.cells #[.int .i64 (l : Int), .int .i64 0] 23)) wl.heap.size l 0 := ⟨Place.new wl l 0 _, hR.below ((Below.refl _ _).alloc (Nat.le_refl _) _), hR.lt, hB.alloc hB.size _⟩
      go_wp2
      go_loopw [6] (fun i wi => ∃ n s : Nat, 1 ≤ n ∧ n ≤ y.size + 1 ∧ i = .int .i64 n ∧ InP w wi wl.heap.size l s ∧ s < 256 ∧ Hid (s = if y.size < 10 then orBits (((nums y).take n).drop 1) else 0)) (fun i _ => y.size + 1 - (intOf i).toNat)
      case atStart => exact ⟨1, 0, by omega, by omega, rfl, hI, by decide, by
        unfold Hid
        split
        · cases nums y <;> rfl
        · rfl⟩
      case round =>
        obtain ⟨n, s, h1, h2, rfl, hI, hs, HQ⟩ := hrel
        by_cases hn : n < y.size ∧ y.size < 10
        · obtain ⟨hn1, hn2⟩ := hn
          have hn1' : (n : Int) < (y.size : Int) := by omega
          have hn2' : (y.size : Int) < 10 := by omega
          clear hW HN
          go_wp2
          obtain ⟨c, hc⟩ : ∃ c, y[n].toNat = c := ⟨_, rfl⟩
          have hc8 : c < 256 := by rw [← hc]; exact y[n].toNat_lt
          go_loopw [7] (fun i wi => ∃ k : Nat, k ≤ 8 ∧ i = .int .i64 k ∧ InP w wi wl.heap.size l (s ||| letK c k)) (fun i _ => 8 - (intOf i).toNat)
          case atStart => exact ⟨0, by omega, rfl, by rw [letK_zero, Nat.or_zero]; exact hI⟩
          case round =>
            clear hI
            obtain ⟨k, hk, rfl, hI⟩ := hrel
            by_cases hkt : k < 8
            · have hkt' : (k : Int) < 8 := by omega
              have hx := fun W => letter_index k hkt W
              have hc' : (y[n].toNat : Int) = (c : Int) := by omega
              by_cases he : c = 97 + k
              · have hq : ((c : Int) == 97 + (k : Int)) = true := by simp; omega
                obtain ⟨k1, k2⟩ := letK_hit k
                have HK : Hid (letK c k = 0 ∧ letK c (k + 1) = 2 ^ k) := by rw [he]; exact ⟨k1, k2⟩
                rw [HK.out.1, Nat.or_zero] at hI
                have hw := fun W => with_any s k (by omega) (by omega) W
                obtain ⟨z, hz⟩ : ∃ z, s ||| 2 ^ k = z := ⟨_, rfl⟩
                rw [hz] at hw
                have HZ : Hid (s ||| letK c (k + 1) = z) := by unfold Hid; rw [HK.out.2, hz]
                clear HK k1 k2 he hc hz HQ HS
                obtain ⟨⟨c1, c2, f1, f2, hlt5⟩, _, hgt, _⟩ := id hI
                go_wp2
                go_quiet (fail)
                go_wp2_with (go_at_call 36; refine (hw _).mono ?_; rintro e w' ⟨rfl, rfl⟩)
                go_roundw
                case rel => exact ⟨k + 1, by omega, by go_num, by rw [HZ.out]; exact (hI.drewN _).set z⟩
                case measure => simp [intOf]; omega
              · have hq : ((c : Int) == 97 + (k : Int)) = false := by simp; omega
                have HK : Hid (letK c (k + 1) = letK c k) := letK_miss he
                clear he hc HQ HS
                go_wp2
                go_quiet (fail)
                go_wp2
                go_roundw
                case rel => exact ⟨k + 1, by omega, by go_num, by rw [HK.out]; exact hI.drewN _⟩
                case measure => simp [intOf]; omega
            · have hge : (8 : Int) ≤ (k : Int) := by omega
              have HA : Hid (letK c k = letBit c) := by
                obtain rfl : k = 8 := by omega
                exact letK_all c
              have hlt9 : s ||| letBit c < 256 := or_lt8 hs (by rw [← letK_all]; exact letK_lt c 8 (by decide))
              have HS' : Hid ((s ||| letBit c) = if y.size < 10 then orBits (((nums y).take (n + 1)).drop 1) else 0) := by
                unfold Hid
                have := HQ.out
                rw [if_pos hn2] at this
                rw [if_pos hn2, nums_take y n hn1, hc, List.drop_append_of_le_length (by rw [List.length_take, nums_length]; omega), orBits_snoc, ← this]
              rw [HA.out] at hI
              clear hc HQ HS HA
              obtain ⟨t, ht⟩ : ∃ t, s ||| letBit c = t := ⟨_, rfl⟩
              rw [ht] at hI hlt9 HS'
              clear ht
              go_wp2
              go_roundw
              case rel => exact ⟨n + 1, t, by omega, by omega, by go_num, hI, hlt9, HS'⟩
              case measure => simp [intOf]; omega
        · have HE : Hid (s = S) := by
            unfold Hid
            have h := HQ.out
            rw [← HS.out, lsetOf, h]
            split
            · rw [List.take_of_length_le (by rw [nums_length]; omega)]
            · rfl
          obtain rfl := HE.out
          have hw := hW l (by omega)
          clear HE hW HQ HS
          obtain ⟨T, hT⟩ : ∃ T, wrt l s = T := ⟨_, rfl⟩
          rw [hT] at hw
          obtain ⟨⟨c1, c2, f1, f2, hlt5⟩, ⟨e1, e2, g1, g2, hlt6⟩, hgt, hB2⟩ := id hI
          by_cases hyT : T = y
          · have hq : (T.toList == y.toList) = true := by rw [hyT]; simp
            have HL : Hid (wrt l s = y) := by unfold Hid; rw [hT, hyT]
            clear hT hyT HN
            by_cases hn3 : n < y.size
            · have hn3' : (n : Int) < (y.size : Int) := by omega
              have hn4 : (10 : Int) ≤ (y.size : Int) := by omega
              clear hn
              go_wp2_with (go_at_call 11; refine (hw _).mono ?_; clear hw; rintro e w5 ⟨rfl, S5⟩; replace hI := hI.below S5; clear S5 c1 c2 f1 f2 hlt5 e1 e2 g1 g2 hlt6; obtain ⟨⟨c1, c2, f1, f2, hlt5⟩, ⟨e1, e2, g1, g2, hlt6⟩, _, hB5⟩ := id hI)
              (try simp only [Exit.inBlock, Exit.then])
              refine bodyPost_ret (v := .tuple #[lab l s, .bool true]) ?_ rfl ⟨.inl ⟨l, by omega, HL.out, rfl⟩, (hB5.setCell (by simp) _).setCell (by simp) _⟩
              rw [results_cell_tmp rfl]
              go_simp
            · have hn3' : (y.size : Int) ≤ (n : Int) := by omega
              clear hn
              go_wp2_with (go_at_call 11; refine (hw _).mono ?_; clear hw; rintro e w5 ⟨rfl, S5⟩; replace hI := hI.below S5; clear S5 c1 c2 f1 f2 hlt5 e1 e2 g1 g2 hlt6; obtain ⟨⟨c1, c2, f1, f2, hlt5⟩, ⟨e1, e2, g1, g2, hlt6⟩, _, hB5⟩ := id hI)
              (try simp only [Exit.inBlock, Exit.then])
              refine bodyPost_ret (v := .tuple #[lab l s, .bool true]) ?_ rfl ⟨.inl ⟨l, by omega, HL.out, rfl⟩, (hB5.setCell (by simp) _).setCell (by simp) _⟩
              rw [results_cell_tmp rfl]
              go_simp
          · have hq : (T.toList == y.toList) = false := by
              rw [beq_eq_false_iff_ne]
              intro h
              rw [ByteArray.toList_eq, ByteArray.toList_eq] at h
              exact hyT (WideShapes.bytes_inj h)
            have HL : Hid (∀ j, j < l + 1 → wrt j s ≠ y) := fun j hj => by
              by_cases e : j = l
              · rw [e, hT]; exact hyT
              · exact HN.out j (by omega)
            clear hT hyT HN
            by_cases hn3 : n < y.size
            · have hn3' : (n : Int) < (y.size : Int) := by omega
              have hn4 : (10 : Int) ≤ (y.size : Int) := by omega
              clear hn
              go_wp2_with (go_at_call 11; refine (hw _).mono ?_; clear hw; rintro e w5 ⟨rfl, S5⟩; replace hI := hI.below S5; clear S5 c1 c2 f1 f2 hlt5 e1 e2 g1 g2 hlt6; obtain ⟨⟨c1, c2, f1, f2, hlt5⟩, ⟨e1, e2, g1, g2, hlt6⟩, _, hB5⟩ := id hI)
              go_roundw
              case rel => exact ⟨l + 1, by omega, by go_num, HL, hI.res, hB5⟩
              case measure => simp [intOf]; omega
            · have hn3' : (y.size : Int) ≤ (n : Int) := by omega
              clear hn
              go_wp2_with (go_at_call 11; refine (hw _).mono ?_; clear hw; rintro e w5 ⟨rfl, S5⟩; replace hI := hI.below S5; clear S5 c1 c2 f1 f2 hlt5 e1 e2 g1 g2 hlt6; obtain ⟨⟨c1, c2, f1, f2, hlt5⟩, ⟨e1, e2, g1, g2, hlt6⟩, _, hB5⟩ := id hI)
              go_roundw
              case rel => exact ⟨l + 1, by omega, by go_num, HL, hI.res, hB5⟩
              case measure => simp [intOf]; omega
    · have HE : Hid (∀ L, L ≤ 7 → wrt L S ≠ y) := fun L h => HN.out L (by omega)
      have hge : (8 : Int) ≤ (l : Int) := by omega
      obtain ⟨c1, c2, f1, f2, hz⟩ := id hR
      clear hW HN
      go_wp2
      (try simp only [Exit.inBlock, Exit.then])
      refine bodyPost_ret (v := .tuple #[lab 0 0, .bool false]) ?_ rfl ⟨.inr ⟨HE.out, rfl⟩, (hB.setCell (by simp) _).setCell (by simp) _⟩
      rw [results_cell_tmp rfl]
      go_simp
theorem refParse_yes (y : ByteArray) (hy : y.size ≤ maxLen) {l s : Nat} (h : prs y = some (l, s)) (w : World) :
    Calls Tryd.prog 19 #[.string y] w fun e w' => e = .returned (.tuple #[lab l s, .bool true]) ∧ Below w.heap.size w w' := by
  obtain ⟨hl, _, _⟩ := prs_some h
  have hy' : y.size < 9223372036854775808 := by unfold maxLen at hy; omega
  refine (refParse_walk y hy' w).mono fun e w' ⟨ho, hB⟩ => ⟨?_, hB⟩
  have he := eq_wrt h
  rw [lsetOf_wrt h] at ho
  rcases ho with ⟨L, hL, e1, rfl⟩ | ⟨hn, _⟩
  · rw [wrt_inj hL hl (e1.trans he)]
  · exact absurd he.symm (hn l hl)
theorem refParse_no (y : ByteArray) (hy : y.size ≤ maxLen) (h : prs y = none) (w : World) :
    Calls Tryd.prog 19 #[.string y] w fun e w' => e = .returned (.tuple #[lab 0 0, .bool false]) ∧ Below w.heap.size w w' := by
  have hy' : y.size < 9223372036854775808 := by unfold maxLen at hy; omega
  refine (refParse_walk y hy' w).mono fun e w' ⟨ho, hB⟩ => ⟨?_, hB⟩
  rcases ho with ⟨L, hL, e1, _⟩ | ⟨_, he⟩
  · rw [← e1, prs_wrt hL (lsetOf_lt y)] at h
    cases h
  · exact he
end Go.Proofs.YtkdaaaloibdngaaDoor
