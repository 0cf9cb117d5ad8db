/- Who is linked with whom (links), and who holds a right (holders). -/
import Derived.WalkKit
import Derived.LoopTactic
import Derived.StillTailTactics
import Derived.Test.YtdmdoikkemfcaaaDoorTakHand
import Derived.Test.YtdmdoikkemfcaaaDoorTakGrow
import Derived.Test.YtdmdoikkemfcaaaDoorSWay
namespace Go.Proofs.YtdmdoikkemfcaaaDoor
open Go.RowKit
set_option maxRecDepth 100000

/-- Has one Take or Grant over the other one? -/
def link1 (M : Nat → Nat → Nat) (x y : Nat) : Bool := (M x y &&& 3) != 0
/-- Which pairs were looked at. -/
def seenP (M : Nat → Nat → Nat) (i k x y : Nat) : Prop := link1 M x y = true ∧ (x < i ∨ (x = i ∧ y < k))
/-- What the sets hold so far. -/
def LinkSt (n : Nat) (M : Nat → Nat → Nat) (i k : Nat) (f : Nat → Nat) : Prop := ∀ x, x < n → f x < 2 ^ n ∧ ∀ y, (f x).testBit y = true ↔ y < n ∧ (seenP M i k x y ∨ seenP M i k y x)
theorem linkSt_start (n : Nat) (M : Nat → Nat → Nat) : LinkSt n M 0 0 (fun _ => 0) := fun x _ => ⟨Nat.two_pow_pos n, fun y => by simp [seenP]⟩
theorem LinkSt.no {n i k : Nat} {M : Nat → Nat → Nat} {f : Nat → Nat} (h : LinkSt n M i k f) (hl : link1 M i k = false) : LinkSt n M i (k + 1) f := by
  have e : ∀ x y, seenP M i (k + 1) x y ↔ seenP M i k x y := fun x y => by
    unfold seenP
    constructor
    · rintro ⟨h1, h2⟩
      refine ⟨h1, ?_⟩
      rcases h2 with h2 | ⟨h2, h3⟩
      · exact .inl h2
      · by_cases e : y = k
        · subst e; subst h2; rw [hl] at h1; cases h1
        · exact .inr ⟨h2, by omega⟩
    · rintro ⟨h1, h2⟩
      exact ⟨h1, by omega⟩
  intro x hx
  refine ⟨(h x hx).1, fun y => ?_⟩
  rw [(h x hx).2 y, e, e]
theorem LinkSt.row {n i : Nat} {M : Nat → Nat → Nat} {f : Nat → Nat} (h : LinkSt n M i n f) : LinkSt n M (i + 1) 0 f := by
  intro x hx
  refine ⟨(h x hx).1, fun y => ?_⟩
  rw [(h x hx).2 y]
  unfold seenP
  constructor
  · rintro ⟨hy, ⟨h1, h2⟩ | ⟨h1, h2⟩⟩
    · exact ⟨hy, .inl ⟨h1, by omega⟩⟩
    · exact ⟨hy, .inr ⟨h1, by omega⟩⟩
  · rintro ⟨hy, ⟨h1, h2⟩ | ⟨h1, h2⟩⟩
    · exact ⟨hy, .inl ⟨h1, by omega⟩⟩
    · exact ⟨hy, .inr ⟨h1, by omega⟩⟩
theorem or_bit2 (a k y : Nat) : (a ||| 2 ^ k).testBit y = true ↔ a.testBit y = true ∨ y = k := by
  rw [Nat.testBit_or, Bool.or_eq_true, Nat.testBit_two_pow, decide_eq_true_eq]
  constructor
  · rintro (h | h)
    · exact .inl h
    · exact .inr h.symm
  · rintro (h | h)
    · exact .inl h
    · exact .inr h.symm
theorem LinkSt.yes {n i k : Nat} {M : Nat → Nat → Nat} {f : Nat → Nat} (h : LinkSt n M i k f) (hi : i < n) (hk : k < n) (hne : i ≠ k) (hl : link1 M i k = true) : LinkSt n M i (k + 1) (upd (upd f i (f i ||| 2 ^ k)) k (f k ||| 2 ^ i)) := by
  have e : ∀ x y, seenP M i (k + 1) x y ↔ seenP M i k x y ∨ (x = i ∧ y = k) := fun x y => by
    unfold seenP
    constructor
    · rintro ⟨h1, h2 | ⟨h2, h3⟩⟩
      · exact .inl ⟨h1, .inl h2⟩
      · by_cases e : y = k
        · exact .inr ⟨h2, e⟩
        · exact .inl ⟨h1, .inr ⟨h2, by omega⟩⟩
    · rintro (⟨h1, h2⟩ | ⟨rfl, rfl⟩)
      · exact ⟨h1, by omega⟩
      · exact ⟨hl, by omega⟩
  have lt : ∀ a q, a < 2 ^ n → q < n → a ||| 2 ^ q < 2 ^ n := fun a q ha hq => Nat.or_lt_two_pow ha (Nat.pow_lt_pow_right (by decide) hq)
  intro x hx
  by_cases e1 : x = k
  · subst e1
    rw [upd_same]
    refine ⟨lt _ _ (h x hx).1 hi, fun y => ?_⟩
    rw [or_bit2, (h x hx).2 y, e, e]
    constructor
    · rintro (⟨hy, h1 | h1⟩ | rfl)
      · exact ⟨hy, .inl (.inl h1)⟩
      · exact ⟨hy, .inr (.inl h1)⟩
      · exact ⟨hi, .inr (.inr ⟨rfl, rfl⟩)⟩
    · rintro ⟨hy, (h1 | ⟨h1, h2⟩) | (h1 | ⟨h1, h2⟩)⟩
      · exact .inl ⟨hy, .inl h1⟩
      · omega
      · exact .inl ⟨hy, .inr h1⟩
      · exact .inr h1
  · rw [upd_other _ e1]
    by_cases e2 : x = i
    · subst e2
      rw [upd_same]
      refine ⟨lt _ _ (h x hx).1 hk, fun y => ?_⟩
      rw [or_bit2, (h x hx).2 y, e, e]
      constructor
      · rintro (⟨hy, h1 | h1⟩ | rfl)
        · exact ⟨hy, .inl (.inl h1)⟩
        · exact ⟨hy, .inr (.inl h1)⟩
        · exact ⟨hk, .inl (.inr ⟨rfl, rfl⟩)⟩
      · rintro ⟨hy, (h1 | ⟨h1, h2⟩) | (h1 | ⟨h1, h2⟩)⟩
        · exact .inl ⟨hy, .inl h1⟩
        · exact .inr h2
        · exact .inl ⟨hy, .inr h1⟩
        · omega
    · rw [upd_other _ e2]
      refine ⟨(h x hx).1, fun y => ?_⟩
      rw [(h x hx).2 y, e, e]
      constructor
      · rintro ⟨hy, h1 | h1⟩
        · exact ⟨hy, .inl (.inl h1)⟩
        · exact ⟨hy, .inr (.inl h1)⟩
      · rintro ⟨hy, (h1 | ⟨h1, h2⟩) | (h1 | ⟨h1, h2⟩)⟩
        · exact ⟨hy, .inl h1⟩
        · omega
        · exact ⟨hy, .inr h1⟩
        · omega
/-- Are two vertices linked? -/
def linkB (g : Gr) (x y : Nat) : Bool := link1 g.M x y || link1 g.M y x
/-- Of each vertex those with which it is linked. -/
def lkN (g : Gr) (x : Nat) : Nat := setOf (fun y => linkB g x y) g.n
def lkRows (g : Gr) : List Nat := listOf g.n (lkN g)
theorem lkN_bit (g : Gr) (x y : Nat) : (lkN g x).testBit y = true ↔ y < g.n ∧ linkB g x y = true := setOf_bit _ g.n y
theorem lkRows_right {g : Gr} (ok : g.Ok) : Right g.n (lkRows g) := listOf_right ok.le fun _ _ => setOf_lt _ _
theorem LinkSt.all {g : Gr} {f : Nat → Nat} (h : LinkSt g.n g.M g.n 0 f) : ∀ x, x < g.n → f x = lkN g x := fun x hx => eq_of_bits fun y => by
  rw [(h x hx).2 y, lkN_bit]
  unfold seenP linkB
  rw [Bool.or_eq_true]
  constructor
  · rintro ⟨hy, ⟨h1, _⟩ | ⟨h1, _⟩⟩
    · exact ⟨hy, .inl h1⟩
    · exact ⟨hy, .inr h1⟩
  · rintro ⟨hy, h1 | h1⟩
    · exact ⟨hy, .inl ⟨h1, .inl hx⟩⟩
    · exact ⟨hy, .inr ⟨h1, .inl hy⟩⟩

set_option maxHeartbeats 2000000 in
theorem tlinks_any {w : World} {g : Gr} {b off : Nat} {B O C : Nat → Nat} (hG0 : GrAt w b off B O C g) (ok : g.Ok) (cp : Nat) :
    Calls Tryd.prog 50 #[.slice (some ⟨b, off, none⟩) g.n cp] w fun e w' => e = .returned (.slice (some ⟨w.heap.size, 0, none⟩) g.n g.n) ∧ Own w' w.heap.size g.n (lkN g) ∧ Below w.heap.size w w' := by
  have hm := ok.le
  have h12 : 2 ^ g.n ≤ 1048576 := pow12 hm
  have hmk := make_any w g.n hm
  have hmd := Own.made w g.n
  have hBm : Below w.heap.size w (w.alloc (.cells (madeCells #[.int .i64 0] g.n) 3)) := (Below.refl _ w).alloc (Nat.le_refl _) _
  obtain ⟨w1, hw1⟩ : ∃ x, w.alloc (.cells (madeCells #[.int .i64 0] g.n) 3) = x := ⟨_, rfl⟩
  rw [hw1] at hmk hmd hBm
  clear hw1
  go_enter Tryd.func50, Tryd.ntmps50
  go_wp2
  go_loopw [13] (fun p wr => ∃ (i : Nat) (f : Nat → Nat), i ≤ g.n ∧ p = .int .i64 i ∧ Hid (LinkSt g.n g.M i 0 f) ∧ Own wr w.heap.size g.n f ∧ Below w.heap.size w wr) (fun p _ => g.n - (intOf p).toNat)
  case atStart => exact ⟨0, fun _ => 0, by omega, rfl, linkSt_start _ _, hmd, hBm⟩
  case round =>
    obtain ⟨i, f, hi, rfl, HL, ho, hB⟩ := hrel
    clear hmd hBm hmk
    by_cases hlt : i < g.n
    · have a1 := (hG0.below hB).top i hlt
      have hltI : (i : Int) < (g.n : Int) := by omega
      go_wp2
      clear a1
      go_loopw [20] (fun p wr => ∃ (k : Nat) (f : Nat → Nat), k ≤ g.n ∧ p = .int .i64 k ∧ Hid (LinkSt g.n g.M i k f) ∧ Own wr w.heap.size g.n f ∧ Below w.heap.size w wr) (fun p _ => g.n - (intOf p).toNat)
      case atStart => exact ⟨0, f, by omega, rfl, HL, ho, hB⟩
      case round =>
        clear ho hB HL
        obtain ⟨k, f, hk, rfl, HL, ho, hB⟩ := hrel
        by_cases hkt : k < g.n
        · have a2 := (hG0.below hB).cell i k hlt hkt
          have hx8 := ok.lt i k
          have hand := and_i64 (g.M i k) 3 (by omega) (by decide)
          rw [show ((3 : Nat) : Int) = 3 from rfl] at hand
          have HD : Hid (i = k → g.M i k = 0) := fun e => by rw [← e]; exact ok.self i
          cases hl : link1 g.M i k with
          | false =>
            have HN : Hid (LinkSt g.n g.M i (k + 1) f) := HL.out.no hl
            have hz : g.M i k &&& 3 = 0 := by simpa [link1] using hl
            rw [hz] at hand
            obtain ⟨x, hx⟩ : ∃ x, g.M i k = x := ⟨_, rfl⟩
            rw [hx] at a2 hand hx8
            clear hx hl hz
            go_wp2
            go_roundw
            case rel => exact ⟨k + 1, f, by omega, by go_num, HN, ho, hB⟩
            case measure => simp [intOf]; omega
          | true =>
            have hne : i ≠ k := fun e => by
              have h0 := HD.out e
              rw [link1, h0] at hl
              simp at hl
            have HN : Hid (LinkSt g.n g.M i (k + 1) (upd (upd f i (f i ||| 2 ^ k)) k (f k ||| 2 ^ i))) := HL.out.yes hlt hkt hne hl
            have hz : g.M i k &&& 3 ≠ 0 := by simpa [link1] using hl
            obtain ⟨y, hy⟩ : ∃ y, g.M i k &&& 3 = y := ⟨_, rfl⟩
            rw [hy] at hand hz
            have hyb : ((y : Int) != 0) = true := by simpa using (show (y : Int) ≠ 0 by omega)
            obtain ⟨x, hx⟩ : ∃ x, g.M i k = x := ⟨_, rfl⟩
            rw [hx] at a2 hand hx8
            have fi := Nat.lt_of_lt_of_le (HL.out i hlt).1 h12
            have fk := Nat.lt_of_lt_of_le (HL.out k hkt).1 h12
            have pk := Nat.lt_of_lt_of_le (Nat.pow_lt_pow_right (a := 2) (by decide) hkt) h12
            have pi := Nat.lt_of_lt_of_le (Nat.pow_lt_pow_right (a := 2) (by decide) hlt) h12
            have ori := or_i64 (f i) (2 ^ k) fi pk
            have ork := or_i64 (f k) (2 ^ i) fk pi
            have hpk := pow_wrap (a := k) (by omega)
            have hpi := pow_wrap (a := i) (by omega)
            have hP1 : ∀ W, Own W w.heap.size g.n f → Own (W.setCell ⟨w.heap.size, i, none⟩ (.int .i64 ((f i ||| 2 ^ k : Nat) : Int))) w.heap.size g.n (upd f i (f i ||| 2 ^ k)) := fun W hW => hW.put hlt (upd_same _ _ _) (fun j _ hj => by first | exact (upd_other _ hj).symm | exact upd_other _ hj)
            have hP2 : ∀ W, Own W w.heap.size g.n (upd f i (f i ||| 2 ^ k)) → Own (W.setCell ⟨w.heap.size, k, none⟩ (.int .i64 ((f k ||| 2 ^ i : Nat) : Int))) w.heap.size g.n (upd (upd f i (f i ||| 2 ^ k)) k (f k ||| 2 ^ i)) := fun W hW => hW.put hkt (upd_same _ _ _) (fun j _ hj => by first | exact (upd_other _ hj).symm | exact upd_other _ hj)
            have c2f : ∀ W, Own W w.heap.size g.n (upd f i (f i ||| 2 ^ k)) → W.cell? ⟨w.heap.size, k, none⟩ = some (.int .i64 (f k : Nat)) := fun W hW => by
              have := hW.cell k hkt
              rw [upd_other _ (fun q => hne q.symm)] at this; exact this
            have f2f : ∀ W, Own W w.heap.size g.n (upd f i (f i ||| 2 ^ k)) → W.frozen? ⟨w.heap.size, k, none⟩ = false := fun W hW => hW.free k hkt
            obtain ⟨F2, hF2⟩ : ∃ F, upd (upd f i (f i ||| 2 ^ k)) k (f k ||| 2 ^ i) = F := ⟨_, rfl⟩
            obtain ⟨F1, hF1⟩ : ∃ F, upd f i (f i ||| 2 ^ k) = F := ⟨_, rfl⟩
            rw [hF2] at HN hP2
            rw [hF1] at hP1 hP2 c2f f2f
            clear hF1 hF2
            obtain ⟨oi, hoi⟩ : ∃ x, f i ||| 2 ^ k = x := ⟨_, rfl⟩
            obtain ⟨ok2, hok2⟩ : ∃ x, f k ||| 2 ^ i = x := ⟨_, rfl⟩
            rw [hoi] at ori hP1
            rw [hok2] at ork hP2
            clear hoi hok2
            obtain ⟨qk, hqk⟩ : ∃ x, 2 ^ k = x := ⟨_, rfl⟩
            obtain ⟨qi, hqi⟩ : ∃ x, 2 ^ i = x := ⟨_, rfl⟩
            rw [hqk] at ori hpk
            rw [hqi] at ork hpi
            have HP1 := Hid.mkI hP1
            have HP2 := Hid.mkI hP2
            have HC2 := Hid.mkI c2f
            have HF2 := Hid.mkI f2f
            have ci := (ho.drawn 1).cell i hlt
            have fzi := (ho.drawn 1).free i hlt
            have hod := ho.drawn 1
            have hBd := below_drawn hB 1
            clear hy hx hl hP1 hP2 c2f f2f hqk hqi fi fk pk pi
            obtain ⟨vi, hvi⟩ : ∃ x, f i = x := ⟨_, rfl⟩
            obtain ⟨vk, hvk⟩ : ∃ x, f k = x := ⟨_, rfl⟩
            rw [hvi] at ci ori
            have HC2 : Hid (∀ W, Own W w.heap.size g.n F1 → W.cell? ⟨w.heap.size, k, none⟩ = some (.int .i64 (vk : Nat))) := fun W hW => by rw [← hvk]; exact HC2.out W hW
            rw [hvk] at ork
            clear hvi hvk
            go_wp2
            refine wp_region_still_tail 8 (by kernel_rfl) (by kernel_rfl) ?_
            simp only [List.take_succ_cons, List.take_zero, List.drop_succ_cons, List.drop_zero]
            obtain ⟨Wd, hWd⟩ : ∃ x, wr.drewN 1 = x := ⟨_, rfl⟩
            have hWd2 : { wr with drawn := wr.drawn + 1 } = Wd := hWd
            rw [hWd] at ci fzi hod hBd
            rw [hWd2]
            clear hWd hWd2
            repeat still_step
            refine wpStill_nil ?_
            have hO1 := HP1.out Wd hod
            have hB1 := hBd.setCell (p := ⟨w.heap.size, i, none⟩) (Nat.le_refl _) (.int .i64 (oi : Int))
            obtain ⟨W1, hW1⟩ : ∃ x, Wd.setCell ⟨w.heap.size, i, none⟩ (.int .i64 (oi : Int)) = x := ⟨_, rfl⟩
            rw [hW1] at hO1 hB1
            go_wp2_with fail
            rw [hpk, ori, hW1]
            clear ci fzi hod hBd hW1
            refine wp_region_still_tail 8 (by kernel_rfl) (by kernel_rfl) ?_
            simp only [List.take_succ_cons, List.take_zero, List.drop_succ_cons, List.drop_zero]
            have hOd := hO1.drawn 1
            have hBd := below_drawn hB1 1
            obtain ⟨Wd2, hWd⟩ : ∃ x, W1.drewN 1 = x := ⟨_, rfl⟩
            have hWd2 : { W1 with drawn := W1.drawn + 1 } = Wd2 := hWd
            rw [hWd] at hOd hBd
            rw [hWd2]
            clear hWd hWd2
            have ck := HC2.out Wd2 hOd
            have fzk := HF2.out Wd2 hOd
            repeat still_step
            refine wpStill_nil ?_
            have hO2 := HP2.out Wd2 hOd
            have hB2 := hBd.setCell (p := ⟨w.heap.size, k, none⟩) (Nat.le_refl _) (.int .i64 (ok2 : Int))
            go_wp2_with fail
            go_roundw
            case rel => exact ⟨k + 1, F2, by omega, by go_num, HN, hO2, hB2⟩
            case measure => simp [intOf]; omega
        · obtain rfl : k = g.n := by omega
          have HN : Hid (LinkSt g.n g.M (i + 1) 0 f) := HL.out.row
          go_wp2
          go_roundw
          case rel => exact ⟨i + 1, f, by omega, by go_num, HN, ho, hB⟩
          case measure => simp [intOf]; omega
    · obtain rfl : i = g.n := by omega
      have HN : Hid (∀ x, x < g.n → f x = lkN g x) := LinkSt.all HL.out
      go_wp2
      go_ret
      exact ⟨rfl, ho.like HN.out, hB⟩

/-- Who has a right over a vertex. -/
def holdN (g : Gr) (r over : Nat) : Nat := setOf (fun i => hasB (g.M i over) r) g.n
theorem holdN_bit (g : Gr) (r over x : Nat) : (holdN g r over).testBit x = true ↔ x < g.n ∧ hasB (g.M x over) r = true := setOf_bit _ g.n x
theorem holdN_lt (g : Gr) (r over : Nat) : holdN g r over < 2 ^ g.n := setOf_lt _ _
set_option maxHeartbeats 1000000 in
theorem tholders_any {w : World} {g : Gr} {b off : Nat} {B O C : Nat → Nat} (hG0 : GrAt w b off B O C g) (ok : g.Ok) (cp r over : Nat) (hr : r < 8) (ho : over < g.n) :
    Calls Tryd.prog 51 #[.slice (some ⟨b, off, none⟩) g.n cp, .int .i64 r, .int .i64 over] w fun e w' => e = .returned (.int .i64 (holdN g r over : Nat)) ∧ w' = w := by
  have hm := ok.le
  have h12 : 2 ^ g.n ≤ 1048576 := pow12 hm
  go_enter Tryd.func51, Tryd.ntmps51
  go_wp2
  go_loop [7, 12] (fun s p => ∃ (k x : Nat), k ≤ g.n ∧ p = .int .i64 k ∧ s = .int .i64 x ∧ Hid (x = setOf (fun i => hasB (g.M i over) r) k)) (fun _ p => g.n - (intOf p).toNat)
  case atStart => exact ⟨0, 0, by omega, rfl, rfl, rfl⟩
  case round =>
    obtain ⟨k, x, hk, rfl, rfl, HX⟩ := hrel
    by_cases hlt : k < g.n
    · have a1 := hG0.top k hlt
      have a2 := hG0.cell k over hlt ho
      have t := fun W => thas_any (g.M k over) r (by have := ok.lt k over; omega) (by omega) W
      have HS : Hid (setOf (fun i => hasB (g.M i over) r) (k + 1) = if hasB (g.M k over) r then x ||| 2 ^ k else x) := by show _ = _; rw [HX.out]; rfl
      have hxl : x < 1048576 := by rw [HX.out]; exact Nat.lt_of_lt_of_le (setOf_lt _ _) (pow12 (by omega))
      have pk := Nat.lt_of_lt_of_le (Nat.pow_lt_pow_right (a := 2) (by decide) hlt) h12
      have hor := or_i64 x (2 ^ k) hxl pk
      have hpk := pow_wrap (a := k) (by omega)
      obtain ⟨y, hy⟩ : ∃ y, g.M k over = y := ⟨_, rfl⟩
      rw [hy] at a2 t HS
      clear hy
      cases hb : hasB y r with
      | false =>
        rw [hb] at t HS
        clear hb
        go_wp2_with (go_at_call 67; refine (t _).mono ?_; clear t; rintro e w' ⟨rfl, hw⟩; obtain rfl := hw.symm)
        go_round
        case rel => exact ⟨k + 1, x, by omega, by go_num, rfl, by show _ = _; rw [HS.out]; rfl⟩
        case measure => simp [intOf]; omega
      | true =>
        rw [hb] at t HS
        obtain ⟨z, hz⟩ : ∃ z, x ||| 2 ^ k = z := ⟨_, rfl⟩
        rw [hz] at hor HS
        obtain ⟨q, hq⟩ : ∃ z, 2 ^ k = z := ⟨_, rfl⟩
        rw [hq] at hor hpk
        clear hb hz hq pk
        go_wp2_with (go_at_call 67; refine (t _).mono ?_; clear t; rintro e w' ⟨rfl, hw⟩; obtain rfl := hw.symm)
        go_round
        case rel => exact ⟨k + 1, z, by omega, by go_num, rfl, by show _ = _; rw [HS.out]; rfl⟩
        case measure => simp [intOf]; omega
    · obtain rfl : k = g.n := by omega
      have HE : Hid (x = holdN g r over) := HX
      go_wp2
      go_ret
      exact ⟨by rw [HE.out]; rfl, rfl⟩
end Go.Proofs.YtdmdoikkemfcaaaDoor
