/- What is a text of deeds is read, unless it is too great: plainly. -/
import Derived.Test.YtahdbhehaoeemaaGreatDoorRunG
namespace Go.Proofs.YtahdbhehaoeemaaGreatDoor
open Go.RowKit
set_option maxRecDepth 100000
set_option linter.unusedVariables false

/-- Read as far as x, or too great. -/
def RdOk (res : Rd) (x : List Nat) : Prop := (∃ o, res = .ok (x, o)) ∨ res = .error 4
theorem RdOk.bind {res : Rd} {x y : List Nat} {g : List Nat × List Nod → Rd} (h : RdOk res x) (hg : ∀ o, RdOk (g (x, o)) y) : RdOk (res.bind g) y := by
  rcases h with ⟨o, rfl⟩ | rfl
  · exact hg o
  · exact .inr rfl
theorem mdN_rd (r : List Nat) (o : List Nod) (x : Nod) : RdOk (mdN r o x) r := by
  unfold mdN
  split
  · exact .inr rfl
  · exact .inl ⟨_, rfl⟩
theorem mstN_rd (c : Nat) (r : List Nat) (o : List Nod) : RdOk (mstN c (c :: r) o) r := .inl ⟨o, by rw [mstN, if_pos rfl]⟩
theorem takD_nodig (k : Nat) {x : List Nat} (h : NoDig x) : takD k x = [] := by
  cases k with
  | zero => rfl
  | succ k =>
    cases x with
    | nil => rfl
    | cons c r => rw [takD, if_neg (h c r rfl)]
theorem takD_app : ∀ (k : Nat) (a x : List Nat), a.length ≤ k → (∀ c ∈ a, 48 ≤ c ∧ c ≤ 57) → NoDig x → takD k (a ++ x) = a
  | k, [], x, _, _, hx => takD_nodig k hx
  | 0, c :: a, x, h, _, _ => absurd h (by simp)
  | k + 1, c :: a, x, h, ha, hx => by
    rw [List.cons_append, takD, if_pos (ha c (by simp)), takD_app k a x (by simpa using h) (fun d hd => ha d (by simp [hd])) hx]
theorem digF_len : ∀ (f n : Nat), (digF f n).length ≤ f
  | 0, n => by simp [digF]
  | f + 1, n => by
    rw [digF]
    split
    · simp
    · have := digF_len f (n / 10)
      simp
      omega
theorem digF_some (f n : Nat) : digF (f + 1) n ≠ [] := by
  rw [digF]
  split <;> simp
theorem numN_rd {n : Nat} (hn : n ≤ 999999) {x : List Nat} (hx : NoDig x) (o : List Nod) : RdOk (numN (digs n ++ x) o) x := by
  have ht : takD 7 (digs n ++ x) = digs n := takD_app 7 _ _ (digF_len 7 n) (digF_dig 7 n) hx
  unfold numN
  rw [ht, valD_digs hn, if_neg, List.drop_left]
  · exact mdN_rd _ _ _
  · rintro (h | h | h)
    · exact digF_some 6 n h
    · omega
    · exact h rfl
theorem opK_sg {k : Int} (h : 2 ≤ k ∧ k ≤ 4) : opK (sgK k) = some k := by
  have hk : k = 2 ∨ k = 3 ∨ k = 4 := by omega
  rcases hk with rfl | rfl | rfl <;> rfl
theorem vlN_rd : ∀ (v : Vt) (f : Nat) (x : List Nat) (o : List Nod), okV v → NoDig x → (txV v).length < f → RdOk (vlN f (txV v ++ x) o) x
  | .num n, 0, _, _, _, _, h => absurd h (by omega)
  | .var k, 0, _, _, _, _, h => absurd h (by omega)
  | .op k a b, 0, _, _, _, _, h => absurd h (by omega)
  | .num n, f + 1, x, o, hv, hx, _ => by
    show RdOk (vlN (f + 1) (35 :: (digs n ++ x)) o) x
    rw [vlN, show opK 35 = none from rfl]
    exact numN_rd hv hx o
  | .var k, f + 1, x, o, hv, _, _ => by
    have hk : k < 6 := hv
    show RdOk (vlN (f + 1) ((97 + k) :: x) o) x
    rw [vlN, show opK (97 + k) = none by unfold opK; rw [if_neg (by omega), if_neg (by omega), if_neg (by omega)]]
    show RdOk (if 97 + k = 35 then _ else _) x
    rw [if_neg (by omega), if_pos (by omega)]
    exact mdN_rd _ _ _
  | .op k a b, f + 1, x, o, hv, hx, hf => by
    obtain ⟨hk, ha, hb⟩ := hv
    simp only [txV, List.length_cons, List.length_append] at hf
    show RdOk (vlN (f + 1) (sgK k :: ((txV a ++ txV b) ++ x)) o) x
    rw [vlN, opK_sg hk, List.append_assoc]
    refine (vlN_rd a f _ o ha (txV_nodig hb x) (by omega)).bind fun o1 => ?_
    exact (vlN_rd b f x o1 hb hx (by omega)).bind fun o2 => mdN_rd _ _ _
theorem blkP_rd {d : List Nat → List Nod → Rd} {t x : List Nat} (hd : ∀ o, RdOk (d (t ++ 125 :: x) o) (125 :: x)) (o : List Nod) : RdOk (blkP d (123 :: (t ++ 125 :: x)) o) x := by
  unfold blkP
  refine (mstN_rd 123 _ o).bind fun o1 => (hd o1).bind fun o2 => mstN_rd 125 x o2
theorem stop_txD {d : Ds} (hd : okD d) (hn : d ≠ .nil) (x : List Nat) {stop : Int} (hs : stop = -1 ∨ stop = 125) : pk (txD d ++ x) ≠ stop := by
  cases d with
  | nil => exact absurd rfl hn
  | set k v r =>
    obtain ⟨hk, _⟩ := hd
    show ((97 + k : Nat) : Int) ≠ stop
    omega
  | ite v a b r => show ((63 : Nat) : Int) ≠ stop; omega
  | whl v a r => show ((64 : Nat) : Int) ≠ stop; omega
theorem dsP_of {d : Ds} (hd : okD d) {f : Nat} {stop : Int} (hs : stop = -1 ∨ stop = 125) {x : List Nat} (hx : pk x = stop) (h : d ≠ .nil → ∀ o, RdOk (smP f stop (txD d ++ x) o) x) (o : List Nod) : RdOk (dsP f stop (txD d ++ x) o) x := by
  unfold dsP
  by_cases e : d = .nil
  · subst e
    show RdOk (if pk x = stop then mdN x o skN else _) x
    rw [if_pos hx]
    exact mdN_rd _ _ _
  · rw [if_neg (stop_txD hd e x hs)]
    exact h e o
/-- The rest of the deeds, behind one. -/
theorem rest_of {r : Ds} (hr : okD r) {f : Nat} {stop : Int} (hs : stop = -1 ∨ stop = 125) {x : List Nat} (hx : pk x = stop) (h : r ≠ .nil → ∀ o, RdOk (smP f stop (txD r ++ x) o) x) (o : List Nod) :
    RdOk (if pk (txD r ++ x) = stop then .ok (txD r ++ x, o) else (smP f stop (txD r ++ x) o).bind fun b => mdN b.1 b.2 ⟨7, 0, lstI o, lstI b.2, 0⟩) x := by
  by_cases e : r = .nil
  · subst e
    show RdOk (if pk x = stop then .ok (x, o) else _) x
    rw [if_pos hx]
    exact .inl ⟨o, rfl⟩
  · rw [if_neg (stop_txD hr e x hs)]
    exact (h e o).bind fun o1 => mdN_rd _ _ _
theorem smP_rd : ∀ (d : Ds), okD d → d ≠ .nil → ∀ (f : Nat) (stop : Int) (x : List Nat) (o : List Nod), (stop = -1 ∨ stop = 125) → pk x = stop → (txD d).length < f → RdOk (smP f stop (txD d ++ x) o) x
  | .nil, _, h => absurd rfl h
  | .set k v r, hd, _ => fun f stop x o hs hx hf => by
    obtain ⟨hk, hv, hr⟩ := hd
    simp only [txD, List.length_cons, List.length_append] at hf
    obtain ⟨g, rfl⟩ : ∃ g, f = g + 1 := ⟨f - 1, by omega⟩
    rw [smP_succ, show txD (.set k v r) ++ x = (97 + k) :: 61 :: (txV v ++ 59 :: (txD r ++ x)) by simp [txD]]
    refine RdOk.bind (x := txD r ++ x) ?_ fun o1 => rest_of hr hs hx (fun e o2 => smP_rd r hr e g stop x o2 hs hx (by omega)) o1
    rw [oneP, if_neg (by omega), if_neg (by omega), if_pos (by omega)]
    refine (mstN_rd 61 _ o).bind fun o1 => ?_
    refine (vlN_rd v g _ o1 hv (nodig_cons (by omega)) (by omega)).bind fun o2 => ?_
    exact (mstN_rd 59 _ o2).bind fun o3 => mdN_rd _ _ _
  | .ite v a b r, hd, _ => fun f stop x o hs hx hf => by
    obtain ⟨hv, ha, hb, hr⟩ := hd
    simp only [txD, List.length_cons, List.length_append] at hf
    obtain ⟨g, rfl⟩ : ∃ g, f = g + 1 := ⟨f - 1, by omega⟩
    rw [smP_succ, show txD (.ite v a b r) ++ x = 63 :: (txV v ++ 123 :: (txD a ++ 125 :: 123 :: (txD b ++ 125 :: (txD r ++ x)))) by simp [txD]]
    refine RdOk.bind (x := txD r ++ x) ?_ fun o1 => rest_of hr hs hx (fun e o2 => smP_rd r hr e g stop x o2 hs hx (by omega)) o1
    rw [oneP, if_pos rfl]
    refine (vlN_rd v g _ o hv (nodig_cons (by omega)) (by omega)).bind fun o1 => ?_
    refine (blkP_rd (fun o2 => dsP_of ha (.inr rfl) rfl (fun e o3 => smP_rd a ha e g 125 _ o3 (.inr rfl) rfl (by omega)) o2) o1).bind fun o2 => ?_
    refine (blkP_rd (fun o2 => dsP_of hb (.inr rfl) rfl (fun e o3 => smP_rd b hb e g 125 _ o3 (.inr rfl) rfl (by omega)) o2) o2).bind fun o3 => ?_
    exact mdN_rd _ _ _
  | .whl v a r, hd, _ => fun f stop x o hs hx hf => by
    obtain ⟨hv, ha, hr⟩ := hd
    simp only [txD, List.length_cons, List.length_append] at hf
    obtain ⟨g, rfl⟩ : ∃ g, f = g + 1 := ⟨f - 1, by omega⟩
    rw [smP_succ, show txD (.whl v a r) ++ x = 64 :: (txV v ++ 123 :: (txD a ++ 125 :: (txD r ++ x))) by simp [txD]]
    refine RdOk.bind (x := txD r ++ x) ?_ fun o1 => rest_of hr hs hx (fun e o2 => smP_rd r hr e g stop x o2 hs hx (by omega)) o1
    rw [oneP, if_neg (by omega), if_pos rfl]
    refine (vlN_rd v g _ o hv (nodig_cons (by omega)) (by omega)).bind fun o1 => ?_
    refine (blkP_rd (fun o2 => dsP_of ha (.inr rfl) rfl (fun e o3 => smP_rd a ha e g 125 _ o3 (.inr rfl) rfl (by omega)) o2) o1).bind fun o2 => ?_
    exact mdN_rd _ _ _
/-- A text of deeds is read, or is too great. -/
theorem red_txD {d : Ds} (hd : okD d) : (∃ q, redP (txD d) = .ok q) ∨ redP (txD d) = .error 4 := by
  unfold redP
  split
  · exact .inr rfl
  rename_i hlen
  have h := dsP_of hd (f := 1300) (stop := -1) (.inl rfl) (x := []) rfl (fun e o => smP_rd d hd e 1300 (-1) [] o (.inl rfl) rfl (by omega)) []
  rw [List.append_nil] at h
  rcases h with ⟨o, e⟩ | e
  · rw [e]; exact .inl ⟨_, rfl⟩
  · rw [e]; exact .inr rfl
/-- A program's text is read, or is too great. -/
theorem red_text {p : List Nod} (hp : Good p) : (∃ q, redP (txN p (lstI p)) = .ok q) ∨ redP (txN p (lstI p)) = .error 4 := by
  obtain ⟨t, o⟩ := txt_ds hp
  rw [t]
  exact red_txD o
theorem red_joined {p q : List Nod} (hp : Good p) (hq : Good q) : (∃ a, redP (txN p (lstI p) ++ txN q (lstI q)) = .ok a) ∨ redP (txN p (lstI p) ++ txN q (lstI q)) = .error 4 := by
  obtain ⟨t1, o1⟩ := txt_ds hp
  obtain ⟨t2, o2⟩ := txt_ds hq
  rw [t1, t2, ← txD_app]
  exact red_txD (okD_app _ _ o1 o2)
end Go.Proofs.YtahdbhehaoeemaaGreatDoor
