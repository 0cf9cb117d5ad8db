/- What is a text of deeds is read, unless it is too great: plainly. -/
import Derived.Test.YtioimgeeamchaaaDoorRunG
namespace Go.Proofs.YtioimgeeamchaaaDoor
open Go.RowKit
set_option maxRecDepth 100000
set_option linter.unusedVariables false

/-- Read as far as x, or too great. -/
def RdOk (res : Rd) (x : List Nat) : Prop := (∃ o, res = .ok (x, o)) ∨ res = .error 4
theorem RdOk.bind {res : Rd} {x y : List Nat} {g : List Nat × List Nod → Rd} (h : RdOk res x) (hg : ∀ o, RdOk (g (x, o)) y) : RdOk (res.bind g) y := by
  rcases h with ⟨o, rfl⟩ | rfl
  · exact hg o
  · exact .inr rfl
theorem mdN_rd (r : List Nat) (o : List Nod) (x : Nod) : RdOk (mdN r o x) r := by
  unfold mdN
  split
  · exact .inr rfl
  · exact .inl ⟨_, rfl⟩
theorem mstN_rd (c : Nat) (r : List Nat) (o : List Nod) : RdOk (mstN c (c :: r) o) r := .inl ⟨o, by rw [mstN, if_pos rfl]⟩
theorem takD_nodig (k : Nat) {x : List Nat} (h : NoDig x) : takD k x = [] := by
  cases k with
  | zero => rfl
  | succ k =>
    cases x with
    | nil => rfl
    | cons c r => rw [takD, if_neg (h c r rfl)]
theorem takD_app : ∀ (k : Nat) (a x : List Nat), a.length ≤ k → (∀ c ∈ a, 48 ≤ c ∧ c ≤ 57) → NoDig x → takD k (a ++ x) = a
  | k, [], x, _, _, hx => takD_nodig k hx
  | 0, c :: a, x, h, _, _ => absurd h (by simp)
  | k + 1, c :: a, x, h, ha, hx => by
    rw [List.cons_append, takD, if_pos (ha c (by simp)), takD_app k a x (by simpa using h) (fun d hd => ha d (by simp [hd])) hx]
theorem digF_len : ∀ (f n : Nat), (digF f n).length ≤ f
  | 0, n => by simp [digF]
  | f + 1, n => by
    rw [digF]
    split
    · simp
    · have := digF_len f (n / 10)
      simp
      omega
theorem digF_some (f n : Nat) : digF (f + 1) n ≠ [] := by
  rw [digF]
  split <;> simp
theorem numN_rd {n : Nat} (hn : n ≤ 999999) {x : List Nat} (hx : NoDig x) (o : List Nod) : RdOk (numN (digs n ++ x) o) x := by
  have ht : takD 7 (digs n ++ x) = digs n := takD_app 7 _ _ (digF_len 7 n) (digF_dig 7 n) hx
  unfold numN
  rw [ht, valD_digs hn, if_neg, List.drop_left]
  · exact mdN_rd _ _ _
  · rintro (h | h | h)
    · exact digF_some 6 n h
    · omega
    · exact h rfl
theorem opK_sg {k : Int} (h : 2 ≤ k ∧ k ≤ 4) : opK (sgK k) = some k := by
  have hk : k = 2 ∨ k = 3 ∨ k = 4 := by omega
  rcases hk with rfl | rfl | rfl <;> rfl
theorem vlN_rd : ∀ (m : Nat) (v : Nd), v.i < m → ∀ (f : Nat) (x : List Nat) (o : List Nod), OkV v → NoDig x → (tN v).length < f → RdOk (vlN f (tN v ++ x) o) x
  | 0, _, h => absurd h (by omega)
  | m + 1, v, hm => fun f x o hv hx hf => by
    obtain ⟨f, rfl⟩ : ∃ g, f = g + 1 := ⟨f - 1, by omega⟩
    rcases val_view hv with ⟨n, hn, e, _⟩ | ⟨k, hk, e, _⟩ | ⟨k, a, b, hk, oa, ob, la, lb, e, _⟩
    · rw [e]
      show RdOk (vlN (f + 1) (35 :: (digs n ++ x)) o) x
      rw [vlN, show opK 35 = none from rfl]
      exact numN_rd hn hx o
    · rw [e]
      show RdOk (vlN (f + 1) ((97 + k) :: x) o) x
      rw [vlN, show opK (97 + k) = none by unfold opK; rw [if_neg (by omega), if_neg (by omega), if_neg (by omega)]]
      show RdOk (if 97 + k = 35 then _ else _) x
      rw [if_neg (by omega), if_pos (by omega)]
      exact mdN_rd _ _ _
    · rw [e] at hf ⊢
      simp only [List.length_cons, List.length_append] at hf
      show RdOk (vlN (f + 1) (sgK k :: ((tN a ++ tN b) ++ x)) o) x
      rw [vlN, opK_sg hk, List.append_assoc]
      refine (vlN_rd m a (by omega) f _ o oa (tV_nodig ob x) (by omega)).bind fun o1 => ?_
      exact (vlN_rd m b (by omega) f x o1 ob hx (by omega)).bind fun o2 => mdN_rd _ _ _
theorem blkP_rd {d : List Nat → List Nod → Rd} {t x : List Nat} (hd : ∀ o, RdOk (d (t ++ 125 :: x) o) (125 :: x)) (o : List Nod) : RdOk (blkP d (123 :: (t ++ 125 :: x)) o) x := by
  unfold blkP
  refine (mstN_rd 123 _ o).bind fun o1 => (hd o1).bind fun o2 => mstN_rd 125 x o2
theorem stop_tD {d : Nd} {r : List Nd} (hd : OkD (d :: r)) (x : List Nat) {stop : Int} (hs : stop = -1 ∨ stop = 125) : pk (tD (d :: r) ++ x) ≠ stop := by
  rw [tD, List.append_assoc]
  rcases deed_view hd.head with ⟨k, v, hk, _, e, _⟩ | ⟨v, A, B, _, _, _, e, _⟩ | ⟨v, A, _, _, e, _⟩
  · rw [e]; show ((97 + k : Nat) : Int) ≠ stop; omega
  · rw [e]; show ((63 : Nat) : Int) ≠ stop; omega
  · rw [e]; show ((64 : Nat) : Int) ≠ stop; omega
theorem dsP_of {D : List Nd} (hd : OkD D) {f : Nat} {stop : Int} (hs : stop = -1 ∨ stop = 125) {x : List Nat} (hx : pk x = stop) (h : D ≠ [] → ∀ o, RdOk (smP f stop (tD D ++ x) o) x) (o : List Nod) : RdOk (dsP f stop (tD D ++ x) o) x := by
  unfold dsP
  cases D with
  | nil =>
    show RdOk (if pk x = stop then mdN x o skN else _) x
    rw [if_pos hx]
    exact mdN_rd _ _ _
  | cons d r =>
    rw [if_neg (stop_tD hd x hs)]
    exact h (by simp) o
/-- The rest of the deeds, behind one. -/
theorem rest_of {D : List Nd} (hr : OkD D) {f : Nat} {stop : Int} (hs : stop = -1 ∨ stop = 125) {x : List Nat} (hx : pk x = stop) (h : D ≠ [] → ∀ o, RdOk (smP f stop (tD D ++ x) o) x) (o : List Nod) :
    RdOk (if pk (tD D ++ x) = stop then .ok (tD D ++ x, o) else (smP f stop (tD D ++ x) o).bind fun b => mdN b.1 b.2 ⟨7, 0, lstI o, lstI b.2, 0⟩) x := by
  cases D with
  | nil =>
    show RdOk (if pk x = stop then .ok (x, o) else _) x
    rw [if_pos hx]
    exact .inl ⟨o, rfl⟩
  | cons d r =>
    rw [if_neg (stop_tD hr x hs)]
    exact (h (by simp) o).bind fun o1 => mdN_rd _ _ _
theorem smP_rd : ∀ (m : Nat) (D : List Nd), (tD D).length < m → OkD D → D ≠ [] → ∀ (f : Nat) (stop : Int) (x : List Nat) (o : List Nod), (stop = -1 ∨ stop = 125) → pk x = stop → (tD D).length < f → RdOk (smP f stop (tD D ++ x) o) x
  | 0, _, h => absurd h (by omega)
  | m + 1, [], _ => fun _ h => absurd rfl h
  | m + 1, d :: r, hm => fun hd _ f stop x o hs hx hf => by
    rw [tD, List.length_append] at hm hf
    obtain ⟨g, rfl⟩ : ∃ g, f = g + 1 := ⟨f - 1, by omega⟩
    rw [tD, List.append_assoc]
    have hr := hd.tail
    rcases deed_view hd.head with ⟨k, v, hk, hv, e, _⟩ | ⟨v, A, B, hv, ha, hb, e, _⟩ | ⟨v, A, hv, ha, e, _⟩
    · have hlen : (tN v).length + 3 ≤ (tN d).length := by have := e []; rw [List.append_nil] at this; rw [this]; simp <;> omega
      rw [e, smP_succ]
      refine RdOk.bind (x := tD r ++ x) ?_ fun o1 => rest_of hr hs hx (fun q o2 => smP_rd m r (by omega) hr q g stop x o2 hs hx (by omega)) o1
      rw [oneP, if_neg (by omega), if_neg (by omega), if_pos (by omega)]
      refine (mstN_rd 61 _ o).bind fun o1 => ?_
      refine (vlN_rd (v.i + 1) v (Nat.lt_succ_self _) g _ o1 hv (nodig_cons (by omega)) (by omega)).bind fun o2 => ?_
      exact (mstN_rd 59 _ o2).bind fun o3 => mdN_rd _ _ _
    · have hlen : (tN v).length + (tD A).length + (tD B).length + 5 ≤ (tN d).length := by have := e []; rw [List.append_nil] at this; rw [this]; simp <;> omega
      rw [e, smP_succ]
      refine RdOk.bind (x := tD r ++ x) ?_ fun o1 => rest_of hr hs hx (fun q o2 => smP_rd m r (by omega) hr q g stop x o2 hs hx (by omega)) o1
      rw [oneP, if_pos rfl]
      refine (vlN_rd (v.i + 1) v (Nat.lt_succ_self _) g _ o hv (nodig_cons (by omega)) (by omega)).bind fun o1 => ?_
      refine (blkP_rd (fun o2 => dsP_of ha (.inr rfl) rfl (fun q o3 => smP_rd m A (by omega) ha q g 125 _ o3 (.inr rfl) rfl (by omega)) o2) o1).bind fun o2 => ?_
      refine (blkP_rd (fun o2 => dsP_of hb (.inr rfl) rfl (fun q o3 => smP_rd m B (by omega) hb q g 125 _ o3 (.inr rfl) rfl (by omega)) o2) o2).bind fun o3 => ?_
      exact mdN_rd _ _ _
    · have hlen : (tN v).length + (tD A).length + 3 ≤ (tN d).length := by have := e []; rw [List.append_nil] at this; rw [this]; simp <;> omega
      rw [e, smP_succ]
      refine RdOk.bind (x := tD r ++ x) ?_ fun o1 => rest_of hr hs hx (fun q o2 => smP_rd m r (by omega) hr q g stop x o2 hs hx (by omega)) o1
      rw [oneP, if_neg (by omega), if_pos rfl]
      refine (vlN_rd (v.i + 1) v (Nat.lt_succ_self _) g _ o hv (nodig_cons (by omega)) (by omega)).bind fun o1 => ?_
      refine (blkP_rd (fun o2 => dsP_of ha (.inr rfl) rfl (fun q o3 => smP_rd m A (by omega) ha q g 125 _ o3 (.inr rfl) rfl (by omega)) o2) o1).bind fun o2 => ?_
      exact mdN_rd _ _ _
/-- A text of deeds is read, or is too great. -/
theorem red_tD {D : List Nd} (hd : OkD D) : (∃ q, redP (tD D) = .ok q) ∨ redP (tD D) = .error 4 := by
  unfold redP
  split
  · exact .inr rfl
  rename_i hlen
  have h := dsP_of hd (f := 1300) (stop := -1) (.inl rfl) (x := []) rfl (fun e o => smP_rd _ D (Nat.lt_succ_self _) hd e 1300 (-1) [] o (.inl rfl) rfl (by omega)) []
  rw [List.append_nil] at h
  rcases h with ⟨o, e⟩ | e
  · rw [e]; exact .inl ⟨_, rfl⟩
  · rw [e]; exact .inr rfl
/-- A program's text is read, or is too great. -/
theorem red_text {p : List Nod} (hp : Good p) : (∃ q, redP (txN p (lstI p)) = .ok q) ∨ redP (txN p (lstI p)) = .error 4 := by
  obtain ⟨t, _, o⟩ := flat0_all hp
  rw [← t]
  exact red_tD o
theorem red_joined {p q : List Nod} (hp : Good p) (hq : Good q) : (∃ a, redP (txN p (lstI p) ++ txN q (lstI q)) = .ok a) ∨ redP (txN p (lstI p) ++ txN q (lstI q)) = .error 4 := by
  obtain ⟨t1, _, o1⟩ := flat0_all hp
  obtain ⟨t2, _, o2⟩ := flat0_all hq
  rw [← t1, ← t2, ← tD_app]
  exact red_tD (o1.app o2)
end Go.Proofs.YtioimgeeamchaaaDoor
