/- Numbers in a text: digits, plainly; and what the library says of them (strings.TrimLeft, strconv.Atoi, strconv.Itoa), in these words. -/
import Derived.Test.YtdmdoikkemfcaabDoorProJ
import Derived.Test.YtdmdoikkemfcaabDoorShelf
namespace Go.Proofs.YtdmdoikkemfcaabDoor
open Go.RowKit
set_option maxRecDepth 100000

def isD (c : Nat) : Bool := decide (48 ≤ c ∧ c ≤ 57)
theorem isD_iff {c : Nat} : isD c = true ↔ 48 ≤ c ∧ c ≤ 57 := by unfold isD; simp
def tkW (r : List Nat) : List Nat := r.takeWhile isD
def dpW (r : List Nat) : List Nat := r.dropWhile isD
theorem tkW_app (r : List Nat) : tkW r ++ dpW r = r := List.takeWhile_append_dropWhile
theorem tkW_dig (r : List Nat) : ∀ c ∈ tkW r, isD c = true := fun c hc => by
  unfold tkW at hc
  induction r with
  | nil => simp at hc
  | cons d r ih =>
    rw [List.takeWhile_cons] at hc
    split at hc
    · rename_i h
      rcases List.mem_cons.1 hc with rfl | hc
      · exact h
      · exact ih hc
    · simp at hc
theorem takD_eq : ∀ (k : Nat) (r : List Nat), takD k r = (tkW r).take k
  | 0, _ => rfl
  | _ + 1, [] => rfl
  | k + 1, c :: r => by
    unfold takD tkW
    rw [List.takeWhile_cons]
    by_cases h : 48 ≤ c ∧ c ≤ 57
    · rw [if_pos h, if_pos (isD_iff.2 h), List.take_succ_cons, takD_eq k r]; rfl
    · rw [if_neg h, if_neg (fun q => h (isD_iff.1 q))]; rfl
theorem digF_lenK : ∀ (f k n : Nat), n < 10 ^ (k + 1) → (digF f n).length ≤ k + 1
  | 0, _, _, _ => by simp [digF]
  | f + 1, 0, n, h => by
    rw [digF, if_pos (by simpa using h)]; simp
  | f + 1, k + 1, n, h => by
    rw [digF]
    split
    · simp
    · rw [List.length_append]
      have := digF_lenK f k (n / 10) (by rw [Nat.pow_succ] at h; omega)
      simp; omega
theorem digs_len {n : Nat} (h : n ≤ 999999) : (digs n).length ≤ 6 := digF_lenK 7 5 n (by omega)
/-- A number as it is written. -/
def goodD (t : List Nat) : Prop := t ≠ [] ∧ valD t ≤ 999999 ∧ digs (valD t) = t
theorem numN_yes {r : List Nat} (o : List Nod) (h : goodD (tkW r)) : numN r o = mdN (dpW r) o ⟨0, (valD (tkW r) : Nat), 0, 0, 0⟩ := by
  obtain ⟨h1, h2, h3⟩ := h
  have hl := digs_len h2
  rw [h3] at hl
  have e : takD 7 r = tkW r := by rw [takD_eq, List.take_of_length_le (by omega)]
  have e2 : r.drop (tkW r).length = dpW r := by
    conv => lhs; rw [← tkW_app r]
    rw [List.drop_append_of_le_length (by rw [tkW_app]; exact Nat.le_refl _)] <;> simp [tkW_app]
  unfold numN
  rw [e, if_neg (by rintro (q | q | q); exact h1 q; omega; exact q h3), e2]
theorem numN_no {r : List Nat} (o : List Nod) (h : ¬ goodD (tkW r)) : numN r o = .error 2 := by
  unfold numN
  refine if_pos ?_
  rw [takD_eq]
  refine Classical.byContradiction fun q => h ?_
  rw [not_or, not_or] at q
  obtain ⟨q1, q2, q3⟩ := q
  have q3 := Classical.not_not.1 q3
  have hl := digs_len (Nat.not_lt.1 q2)
  rw [q3, List.length_take] at hl
  have e : (tkW r).take 7 = tkW r := List.take_of_length_le (by omega)
  rw [e] at q1 q2 q3
  exact ⟨q1, Nat.not_lt.1 q2, q3⟩
theorem decDigits_digF : ∀ (f n : Nat), 0 < f → n < 10 ^ f → Lib.decDigits n = (digF f n).map UInt8.ofNat
  | 0, _, h, _ => absurd h (by omega)
  | f + 1, n, _, h => by
    rw [digF, Lib.decDigits]
    by_cases h1 : n < 10
    · rw [dif_pos h1, if_pos h1]; rfl
    · rw [dif_neg h1, if_neg h1, List.map_append]
      have h0 : 0 < f := by
        rcases Nat.eq_zero_or_pos f with rfl | q
        · exact absurd h (by simpa using h1)
        · exact q
      rw [decDigits_digF f (n / 10) h0 (by rw [Nat.pow_succ] at h; omega)]
      rfl
theorem itoa_digs {n : Nat} (h : n ≤ 999999) : (⟨(Lib.itoa (n : Int)).toArray⟩ : ByteArray) = strB (digs n) := by
  unfold Lib.itoa strB digs
  rw [if_neg (by omega), Int.toNat_natCast, decDigits_digF 7 n (by omega) (by omega)]
/-- What the library takes digits for. -/
theorem parse_dig : ∀ (l : List Nat) (acc : Nat), (∀ c ∈ l, isD c = true) →
    (∃ u, Lib.parseUint10 acc (l.map UInt8.ofNat) = .ok u ∧ u = l.foldl (fun n c => n * 10 + (c - 48)) acc) ∨ (Lib.parseUint10 acc (l.map UInt8.ofNat) = .range ∧ 1000000 ≤ l.foldl (fun n c => n * 10 + (c - 48)) acc)
  | [], acc, _ => .inl ⟨acc, rfl, rfl⟩
  | c :: l, acc, h => by
    obtain ⟨c0, c1⟩ := isD_iff.1 (h c (by simp))
    have hc : (UInt8.ofNat c).toNat = c := by simp; omega
    have big : ∀ (l : List Nat) (a : Nat), a ≤ l.foldl (fun n c => n * 10 + (c - 48)) a := fun l => by
      induction l with
      | nil => intro a; exact Nat.le_refl a
      | cons d l ih => intro a; exact Nat.le_trans (by omega) (ih (a * 10 + (d - 48)))
    rw [List.map_cons, Lib.parseUint10, hc, if_pos ⟨c0, c1⟩]
    split
    · exact .inr ⟨rfl, Nat.le_trans (by omega) (big (c :: l) acc)⟩
    · split
      · exact .inr ⟨rfl, Nat.le_trans (by omega) (big l (acc * 10 + (c - 48)))⟩
      · exact parse_dig l (acc * 10 + (c - 48)) fun d hd => h d (by simp [hd])
theorem atoi_dig {t : List Nat} (h : ∀ c ∈ t, isD c = true) :
    (∃ v : Nat, Lib.atoiAll (t.map UInt8.ofNat) = .ok (v : Int) ∧ v = valD t ∧ t ≠ [] ∧ v < 9223372036854775808) ∨ ((Lib.atoiAll (t.map UInt8.ofNat) = .range ∨ Lib.atoiAll (t.map UInt8.ofNat) = .«syntax») ∧ ¬ goodD t) := by
  cases t with
  | nil => exact .inr ⟨.inr rfl, fun q => q.1 rfl⟩
  | cons c t =>
    obtain ⟨c0, c1⟩ := isD_iff.1 (h c (by simp))
    have hc : (UInt8.ofNat c).toNat = c := by simp; omega
    unfold Lib.atoiAll
    simp only [List.map_cons, hc]
    rw [if_neg (by omega)]
    have hm : Lib.parseMag (UInt8.ofNat c :: t.map UInt8.ofNat) = Lib.parseUint10 0 ((c :: t).map UInt8.ofNat) := by unfold Lib.parseMag; rw [if_neg (by simp)]; rfl
    rw [hm]
    rcases parse_dig (c :: t) 0 h with ⟨u, e1, e2⟩ | ⟨e1, e2⟩
    · rw [e1]
      simp only
      by_cases hu : 9223372036854775808 ≤ u
      · rw [if_pos ⟨by omega, hu⟩]
        refine .inr ⟨.inl rfl, fun q => ?_⟩
        have q1 := q.2.1
        unfold valD at q1
        omega
      · rw [if_neg (by omega), if_neg (by omega), if_neg (by omega)]
        exact .inl ⟨u, rfl, e2, by simp, by omega⟩
    · rw [e1]
      refine .inr ⟨.inl rfl, fun q => ?_⟩
      have q1 := q.2.1
      unfold valD at q1
      omega
/-- The cutset of the digits. -/
def cutD : ByteArray := ⟨#[48, 49, 50, 51, 52, 53, 54, 55, 56, 57]⟩
theorem cut_has : ∀ c : Fin 256, (cutD.data.toList.contains (UInt8.ofNat c.1)) = isD c.1 := by decide +kernel
theorem trim_dig {r : List Nat} (h : ∀ c ∈ r, c < 256) : (⟨(Lib.trimLeftS (strB r).data.toList cutD.data.toList).toArray⟩ : ByteArray) = strB (dpW r) := by
  unfold strB dpW Lib.trimLeftS
  show ByteArray.mk (List.dropWhile _ (r.map UInt8.ofNat)).toArray = _
  congr 2
  induction r with
  | nil => rfl
  | cons c r ih =>
    have hc := cut_has ⟨c, h c (by simp)⟩
    simp only at hc
    rw [List.map_cons, List.dropWhile_cons, List.dropWhile_cons, hc]
    split
    · exact ih fun d hd => h d (by simp [hd])
    · rfl

/-- What of the library's variables must lie as it is laid. -/
def LibT (B : Nat) (w : World) : Prop := ∀ w', Below B w w' → Lib.TabIs Tryd.prog w' "internal/strconv.uint64pow10" .u64 Lib.pow10Tab ∧ (∃ tp p, w'.var? Tryd.prog "strconv.ErrSyntax" = some #[.iface tp p]) ∧ (∃ tp p, w'.var? Tryd.prog "strconv.ErrRange" = some #[.iface tp p])
theorem LibT.on {B : Nat} {w w1 : World} (h : LibT B w) (k : Below B w w1) : LibT B w1 := fun w' k' => h w' (k.trans k')
theorem LibT.up {B B' : Nat} {w : World} (h : LibT B w) (k : B ≤ B') : LibT B' w := fun w' k' => h w' (k'.mono k)
theorem grow_below (w : World) (os : Array Obj) : Below w.heap.size w (Go.Sort.grow w os) :=
  ⟨rfl, rfl, rfl, by show w.heap.size ≤ (w.heap ++ os).size; rw [Array.size_append]; omega, fun j hj => by show (w.heap ++ os)[j]? = _; rw [Array.getElem?_append_left hj]⟩
theorem lib_itoa {B : Nat} (n : Nat) (h : n ≤ 999999) (w : World) (hL : LibT B w) :
    Calls Tryd.prog 36 #[.int .i64 (n : Int)] w fun e w' => e = .returned (.string (strB (digs n))) ∧ Below w.heap.size w w' := by
  refine (Any.strconv_Itoa laysM171 (n : Int) (by omega) (by omega) w (hL w (Below.refl _ _)).1).mono ?_
  rintro e w' ⟨rfl, k, os, rfl⟩
  rw [itoa_digs h]
  have g : Below w.heap.size (w.drewN k) (Go.Sort.grow (w.drewN k) os) := grow_below (w.drewN k) os
  exact ⟨rfl, (below_drawn (Below.refl _ w) k).trans g⟩
theorem lib_trim {r : List Nat} (h : ∀ c ∈ r, c < 256) (w : World) :
    Calls Tryd.prog 77 #[.string (strB r), .string ⟨#[48, 49, 50, 51, 52, 53, 54, 55, 56, 57]⟩] w fun e w' => e = .returned (.string (strB (dpW r))) ∧ Below w.heap.size w w' := by
  have t := Any.strings_TrimLeft_laid lays161 (by kernel_rfl) (strB r) cutD w (by decide) (ascii_of_all (by decide))
  rw [trim_dig h] at t
  exact t
/-- Digits are a number, or there is an error. -/
theorem lib_atoi_ok {t : List Nat} (hl : t.length ≤ 300) {v : Nat} (h : Lib.atoiAll (t.map UInt8.ofNat) = .ok (v : Int)) (w : World) :
    Calls Tryd.prog 78 #[.string (strB t)] w fun e w' => e = .returned (.tuple #[.int .i64 (v : Int), .nilIface]) ∧ Below w.heap.size w w' := by
  refine (Any.strconv_Atoi_ok laysC172 (strB t) (by rw [strB_size]; omega) (v : Int) h w).mono ?_
  rintro e w' ⟨rfl, rfl | ⟨q, rfl⟩⟩
  · exact ⟨rfl, Below.refl _ _⟩
  · exact ⟨rfl, Lib.bytesWorld_below _ _ _⟩
theorem lib_atoi_bad {B : Nat} {t : List Nat} (hl : t.length ≤ 300) (h : Lib.atoiAll (t.map UInt8.ofNat) = .range ∨ Lib.atoiAll (t.map UInt8.ofNat) = .«syntax») (w : World) (hL : LibT B w) :
    Calls Tryd.prog 78 #[.string (strB t)] w fun e w' => (∃ n tp p, e = .returned (.tuple #[.int .i64 n, .iface tp p])) ∧ Below w.heap.size w w' := by
  obtain ⟨_, ⟨t1, p1, v1⟩, t2, p2, v2⟩ := hL w (Below.refl _ _)
  rcases h with h | h
  · refine (Any.strconv_Atoi_range_var laysC172 (strB t) (by rw [strB_size]; omega) h t2 p2 w v2).mono ?_
    rintro e w' ⟨N, rfl, _, _, b⟩
    exact ⟨⟨_, _, _, rfl⟩, b⟩
  · refine (Any.strconv_Atoi_syntax_var laysC172 (strB t) (by rw [strB_size]; omega) h t1 p1 w v1).mono ?_
    rintro e w' ⟨N, rfl, _, _, b⟩
    exact ⟨⟨_, _, _, rfl⟩, b⟩
end Go.Proofs.YtdmdoikkemfcaabDoor
