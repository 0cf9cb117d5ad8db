/- What is read has just the text that was read, and is a right program: plainly. -/
import Derived.Test.YtioimgeeamchaaaDoorProB
namespace Go.Proofs.YtioimgeeamchaaaDoor
open Go.RowKit
set_option maxRecDepth 100000

theorem bind_ok {α β ε : Type} {a : Except ε α} {f : α → Except ε β} {b : β} (h : a.bind f = .ok b) : ∃ x, a = .ok x ∧ f x = .ok b := by
  cases a with
  | error e => cases h
  | ok x => exact ⟨x, rfl, h⟩
theorem mdN_ok {r r' : List Nat} {o o' : List Nod} {x : Nod} (h : mdN r o x = .ok (r', o')) : o.length ≠ 80 ∧ r' = r ∧ o' = o ++ [x] := by
  unfold mdN at h
  split at h
  · cases h
  · rename_i hl; cases h; exact ⟨hl, rfl, rfl⟩
theorem mstN_ok {c : Nat} {r r' : List Nat} {o o' : List Nod} (h : mstN c r o = .ok (r', o')) : r = c :: r' ∧ o' = o := by
  cases r with
  | nil => cases h
  | cons d r =>
    by_cases e : d = c
    · rw [mstN, if_pos e] at h
      cases h; exact ⟨by rw [e], rfl⟩
    · rw [mstN, if_neg e] at h
      cases h
theorem kin_of {k n a b c : Int} (h1 : 0 ≤ k) (h2 : k ≤ 9) (h3 : k = 0 → 0 ≤ n ∧ n ≤ 999999) (h4 : k = 1 ∨ k = 6 → 0 ≤ n ∧ n ≤ 5) : kinB ⟨k, n, a, b, c⟩ = true := decide_eq_true ⟨h1, h2, h3, h4⟩
theorem takD_pre : ∀ (k : Nat) (r : List Nat), r = takD k r ++ r.drop (takD k r).length
  | 0, r => by simp [takD]
  | k + 1, [] => by simp [takD]
  | k + 1, c :: r => by
    unfold takD
    split
    · have := takD_pre k r
      simp only [List.cons_append, List.length_cons, List.drop_succ_cons]
      rw [← this]
    · simp
/-- One tree was read. -/
structure Grown (o : List Nod) (r : List Nat) (o' : List Nod) (r' : List Nat) (v : Bool) : Prop where
  more : o.length < o'.length
  for_ : Forest o o' [o'.length - 1]
  text : r = txN o' (lstI o') ++ r'
  kind : decide ((nthD o' (o'.length - 1)).kd < 5) = v
theorem lstI_snoc (o : List Nod) (x : Nod) : lstI (o ++ [x]) = (o.length : Nat) := by simp [lstI]
theorem last_snoc (o : List Nod) (x : Nod) : nthD (o ++ [x]) ((o ++ [x]).length - 1) = x := by
  rw [List.length_append, List.length_singleton, Nat.add_sub_cancel]; exact nthD_at o [] x
theorem lstI_in {o : List Nod} (h : 0 < o.length) : 0 ≤ lstI o ∧ lstI o < (o.length : Int) := by unfold lstI; omega
/-- A node closes a forest. -/
theorem grown_close {o o' : List Nod} {ps : List Nat} {x : Nod} {r r' : List Nat} (h : Forest o o' ps) (hl : o'.length ≠ 80) (hk : kinB x = true) (hx : prtL x = ps.map Int.ofNat)
    (hv : ∀ q p, ps[q]? = some p → decide ((nthD o' p).kd < 5) = valB x.kd q) (ht : r = txB x (txN o') ++ r') : Grown o r (o' ++ [x]) r' (decide (x.kd < 5)) := by
  have hF := Forest.close (l := []) h hl hk hx hv
  have hlen := h.len
  refine ⟨by simp; omega, by simpa using hF, ?_, by rw [last_snoc]⟩
  rw [lstI_snoc, txN_last hF.wf, ht]
  congr 1
  refine txB_like fun p hp => ?_
  rw [hx, List.mem_map] at hp
  obtain ⟨q, hq, rfl⟩ := hp
  have := h.rts q hq
  exact (txN_app [x] h.wf (Int.natCast_nonneg q) (by show (q : Int) < _; omega)).symm
theorem grown_leaf {o : List Nod} {x : Nod} {r r' : List Nat} (h : WfN o) (hle : o.length ≤ 80) (hl : o.length ≠ 80) (hk : kinB x = true) (hx : prtL x = []) (ht : r = txB x (txN o) ++ r') : Grown o r (o ++ [x]) r' (decide (x.kd < 5)) :=
  grown_close (Forest.nil h hle) hl hk (by rw [hx]; rfl) (fun q p e => by simp at e) ht
/-- The text of a root stays when more is grown. -/
theorem Grown.keep {o o1 o2 : List Nod} {r r1 : List Nat} {v : Bool} {l : List Nat} (h : Grown o r o1 r1 v) (k : Forest o1 o2 l) : txN o2 (lstI o1) = txN o1 (lstI o1) ∧ nthD o2 (o1.length - 1) = nthD o1 (o1.length - 1) := by
  obtain ⟨n, rfl⟩ := k.pre
  have h0 : 0 < o1.length := by have := h.more; omega
  exact ⟨txN_app n h.for_.wf (lstI_in h0).1 (lstI_in h0).2, nthD_app n (by omega)⟩
theorem lstI_cast (o : List Nod) : lstI o = Int.ofNat (o.length - 1) := rfl

theorem numN_ok {r r' : List Nat} {o o' : List Nod} (hw : WfN o) (hle : o.length ≤ 80) (h : numN r o = .ok (r', o')) : Grown o (35 :: r) o' r' true := by
  unfold numN at h
  split at h
  · cases h
  · rename_i hn
    rw [not_or, not_or] at hn
    obtain ⟨_, h2, h3⟩ := hn
    obtain ⟨e1, e2, e3⟩ := mdN_ok h
    subst e3
    subst e2
    have hp := takD_pre 7 r
    have h3' : digs (valD (takD 7 r)) = takD 7 r := Decidable.not_not.1 h3
    refine grown_leaf (x := ⟨0, (valD (takD 7 r) : Nat), 0, 0, 0⟩) hw hle e1 (kin_of (by decide) (by decide) (fun _ => ⟨by omega, by omega⟩) (fun q => by omega)) rfl ?_
    show 35 :: r = 35 :: digs (valD (takD 7 r)) ++ _
    rw [h3', List.cons_append, ← hp]
theorem varN_kin {c : Nat} (h : 97 ≤ c ∧ c < 103) (k : Int) (hk : k = 1 ∨ k = 6) (a : Int) : kinB ⟨k, ((c - 97 : Nat) : Int), a, 0, 0⟩ = true :=
  kin_of (by omega) (by omega) (fun q => by omega) (fun _ => ⟨by omega, by omega⟩)
/-- Two trees in a row. -/
theorem grown_two {o o1 o2 : List Nod} {r r1 r1' r2 : List Nat} {v1 v2 : Bool} (h : Grown o r o1 r1 v1) (k : Grown o1 r1' o2 r2 v2) :
    Forest o o2 [o1.length - 1, o2.length - 1] ∧ txN o2 (lstI o1) = txN o1 (lstI o1) ∧ decide ((nthD o2 (o1.length - 1)).kd < 5) = v1 := by
  obtain ⟨a, b⟩ := h.keep k.for_
  exact ⟨h.for_.app k.for_, a, by rw [b]; exact h.kind⟩
theorem vlN_ok : ∀ (f : Nat) (r : List Nat) (o : List Nod) (r' : List Nat) (o' : List Nod), WfN o → o.length ≤ 80 → vlN f r o = .ok (r', o') → Grown o r o' r' true
  | 0, _, _, _, _, _, _, h => by cases h
  | _ + 1, [], _, _, _, _, _, h => by cases h
  | f + 1, c :: r, o, r', o', hw, hle, h => by
    unfold vlN at h
    split at h
    · rename_i k hop
      obtain ⟨⟨r1, o1⟩, h1, h⟩ := bind_ok h
      obtain ⟨⟨r2, o2⟩, h2, h⟩ := bind_ok h
      have g1 := vlN_ok f r o r1 o1 hw hle h1
      have g2 := vlN_ok f r1 o1 r2 o2 g1.for_.wf g1.for_.le h2
      obtain ⟨e1, e2, e3⟩ := mdN_ok h
      subst e3
      subst e2
      obtain ⟨F, t1, d1⟩ := grown_two g1 g2
      have hk : (c = 43 ∧ k = 2) ∨ (c = 60 ∧ k = 3) ∨ (c = 61 ∧ k = 4) := by
        unfold opK at hop
        split at hop
        · rename_i e; cases hop; exact .inl ⟨e, rfl⟩
        split at hop
        · rename_i e; cases hop; exact .inr (.inl ⟨e, rfl⟩)
        split at hop
        · rename_i e; cases hop; exact .inr (.inr ⟨e, rfl⟩)
        · cases hop
      have hfin := grown_close (x := ⟨k, 0, lstI o1, lstI o2, 0⟩) (r := c :: r) (r' := r') F e1
        (kin_of (by omega) (by omega) (fun q => by omega) (fun q => by omega))
        (by unfold prtL; rw [if_neg (show ¬ k = 8 by omega), if_neg (show ¬ k = 6 by omega), if_pos (show (2 ≤ k ∧ k ≤ 4) ∨ k = 7 ∨ k = 9 by omega)]; rfl)
        (fun q p hq => by
          have hv : valB k q = true := decide_eq_true (.inl (by omega))
          show _ = valB k q
          rw [hv]
          match q, hq with
          | 0, hq => cases hq; exact d1
          | 1, hq => cases hq; exact g2.kind
          | q + 2, hq => simp at hq)
        (by
          rw [g1.text, g2.text, ← t1]
          clear h h1 h2 hop
          rcases hk with ⟨rfl, rfl⟩ | ⟨rfl, rfl⟩ | ⟨rfl, rfl⟩ <;> simp [txB])
      have : decide (k < 5) = true := decide_eq_true (by omega)
      rwa [show (⟨k, 0, lstI o1, lstI o2, 0⟩ : Nod).kd = k from rfl, this] at hfin
    · split at h
      · rename_i e; subst e; exact numN_ok hw hle h
      · split at h
        · rename_i hc
          obtain ⟨e1, e2, e3⟩ := mdN_ok h
          subst e3
          subst e2
          refine grown_leaf (x := ⟨1, ((c - 97 : Nat) : Int), 0, 0, 0⟩) hw hle e1 (varN_kin hc 1 (.inl rfl) 0) rfl ?_
          show c :: r' = [97 + (((c - 97 : Nat) : Int)).toNat] ++ r'
          rw [Int.toNat_natCast, show 97 + (c - 97) = c by omega]; rfl
        · cases h

/-- Deeds one behind the other were read. -/
structure Many (o : List Nod) (r : List Nat) (o' : List Nod) (r' : List Nat) (ln : List Nat) : Prop where
  for_ : Forest o o' ln
  text : r = ln.flatMap (fun i : Nat => txN o' (i : Int)) ++ r'
  kind : ∀ i ∈ ln, decide ((nthD o' i).kd < 5) = false
  last : ∀ l k, ln = l ++ [k] → k = o'.length - 1
  none : ln = [] → o' = o
  stop : r' = [] ∨ ∃ q, r' = 125 :: q
theorem bothN_ok (o : List Nod) (r : List Nat) : ∀ (ks : List Nat) (last : Nat) (o' : List Nod) (r' : List Nat) (o'' : List Nod), Forest o o' (ks.reverse ++ [last]) → (∀ i ∈ ks.reverse ++ [last], decide ((nthD o' i).kd < 5) = false) →
    (ks = [] → last = o'.length - 1) → bothN (ks.map Int.ofNat) (last : Nat) r o' = .ok (r', o'') →
    r' = r ∧ o.length < o''.length ∧ Forest o o'' [o''.length - 1] ∧ txN o'' (lstI o'') = (ks.reverse ++ [last]).flatMap (fun i : Nat => txN o' (i : Int)) ∧ decide ((nthD o'' (o''.length - 1)).kd < 5) = false
  | [], last, o', r', o'', F, hk, hl, h => by
    cases h
    have e := hl rfl
    subst e
    have := F.rts (o'.length - 1) (by simp)
    exact ⟨rfl, by omega, F, by simp [lstI], hk _ (by simp)⟩
  | k :: ks, last, o', r', o'', F, hk, _, h => by
    obtain ⟨⟨r1, o1⟩, h1, h2⟩ := bind_ok h
    clear h
    obtain ⟨e1, e2, e3⟩ := mdN_ok h1
    subst e3
    subst e2
    rw [List.reverse_cons, List.append_assoc] at F hk
    have hkk := hk k (by simp)
    have hkl := hk last (by simp)
    have F2 := Forest.close (l := ks.reverse) (ps := [k, last]) (x := ⟨7, 0, Int.ofNat k, (last : Nat), 0⟩) F e1 (kin_of (by decide) (by decide) (fun q => by omega) (fun q => by omega)) rfl (fun q p hq => by
      match q, hq with
      | 0, hq => cases hq; rw [hkk]; rfl
      | 1, hq => cases hq; rw [hkl]; rfl
      | q + 2, hq => simp at hq)
    have hlast : lstI (o' ++ [⟨7, 0, Int.ofNat k, (last : Nat), 0⟩]) = (o'.length : Nat) := lstI_snoc _ _
    change bothN (ks.map Int.ofNat) (lstI (o' ++ [⟨7, 0, Int.ofNat k, (last : Nat), 0⟩])) r1 (o' ++ [⟨7, 0, Int.ofNat k, (last : Nat), 0⟩]) = _ at h2
    rw [hlast] at h2
    have hin : ∀ i ∈ ks.reverse ++ [k, last], i < o'.length := fun i hi => (F.rts i hi).2
    obtain ⟨a1, a2, a3, a4, a5⟩ := bothN_ok o r1 ks o'.length _ r' o'' F2 (fun i hi => by
      rcases List.mem_append.1 hi with hi | hi
      · rw [nthD_app _ (hin i (List.mem_append_left _ hi))]
        exact hk i (List.mem_append_left _ hi)
      · obtain rfl := List.mem_singleton.1 hi
        rw [nthD_at]; rfl) (fun _ => by simp) h2
    refine ⟨a1, a2, a3, ?_, a5⟩
    rw [a4]
    have keep : ∀ i : Nat, i < o'.length → txN (o' ++ [⟨7, 0, Int.ofNat k, (last : Nat), 0⟩]) (i : Int) = txN o' (i : Int) := fun i hi => txN_app _ F.wf (Int.natCast_nonneg i) (by omega)
    have e4 : ks.reverse.flatMap (fun i : Nat => txN (o' ++ [⟨7, 0, Int.ofNat k, (last : Nat), 0⟩]) (i : Int)) = ks.reverse.flatMap (fun i : Nat => txN o' (i : Int)) := by
      have : ∀ l : List Nat, (∀ i ∈ l, i < o'.length) → l.flatMap (fun i : Nat => txN (o' ++ [⟨7, 0, Int.ofNat k, (last : Nat), 0⟩]) (i : Int)) = l.flatMap (fun i : Nat => txN o' (i : Int)) := fun l => by
        induction l with
        | nil => intro _; rfl
        | cons a l ih =>
          intro h
          rw [List.flatMap_cons, List.flatMap_cons, keep a (h a (by simp)), ih fun i hi => h i (by simp [hi])]
      exact this _ fun i hi => hin i (List.mem_append_left _ hi)
    have e5 : txN (o' ++ [⟨7, 0, Int.ofNat k, (last : Nat), 0⟩]) (o'.length : Nat) = txN o' (k : Nat) ++ txN o' (last : Nat) := by
      rw [txN_last F2.wf, ← keep k (hin k (by simp)), ← keep last (hin last (by simp))]
      rfl
    rw [List.flatMap_append, e4, List.reverse_cons, List.append_assoc, List.flatMap_append]
    refine congrArg _ ?_
    rw [List.flatMap_cons, List.flatMap_nil, List.append_nil, e5]
    simp
theorem endN_ok {o o' o'' : List Nod} {r r' r'' : List Nat} {ln : List Nat} (hw : WfN o) (hle : o.length ≤ 80) (M : Many o r o' r' ln) (h : endN (r', o', ln.map Int.ofNat) = .ok (r'', o'')) : r'' = r' ∧ Grown o r o'' r' false := by
  unfold endN at h
  rw [← List.map_reverse] at h
  cases hr : ln.reverse with
  | nil =>
    have hl : ln = [] := by simpa using hr
    rw [hr] at h
    obtain ⟨e1, e2, e3⟩ := mdN_ok h
    have e4 := M.none hl
    subst e3
    subst e2
    subst e4
    refine ⟨rfl, grown_leaf (x := ⟨5, 0, 0, 0, 0⟩) hw hle e1 (kin_of (by decide) (by decide) (fun q => by omega) (fun q => by omega)) rfl ?_⟩
    rw [M.text, hl]; rfl
  | cons last rest =>
    have hl : ln = rest.reverse ++ [last] := by
      have := congrArg List.reverse hr
      simpa using this
    rw [hr] at h
    have F := M.for_
    have hk := M.kind
    rw [hl] at F hk
    obtain ⟨a1, a2, a3, a4, a5⟩ := bothN_ok o r' rest last o' r'' o'' F hk (fun _ => M.last _ _ hl) h
    refine ⟨a1, a2, a3, ?_, a5⟩
    rw [a4, ← hl]; exact M.text
theorem blkN_ok {m : List Nat → List Nod → Rl} (Hm : ∀ r o r' o' l, WfN o → o.length ≤ 80 → m r o = .ok (r', o', l) → ∃ ln : List Nat, l = ln.map Int.ofNat ∧ Many o r o' r' ln)
    {o o' : List Nod} {r r' : List Nat} (hw : WfN o) (hle : o.length ≤ 80) (h : blkN m r o = .ok (r', o')) : ∃ q, r = 123 :: q ∧ Grown o q o' (125 :: r') false := by
  obtain ⟨⟨q, o0⟩, h1, h⟩ := bind_ok h
  obtain ⟨⟨q1, o1⟩, h2, h⟩ := bind_ok h
  obtain ⟨e1, e2⟩ := mstN_ok h1
  obtain ⟨e3, e4⟩ := mstN_ok h
  subst e2
  obtain ⟨⟨q2, o2, l⟩, h3, h4⟩ := bind_ok h2
  obtain ⟨ln, rfl, M⟩ := Hm _ _ _ _ _ hw hle h3
  obtain ⟨e5, G⟩ := endN_ok hw hle M h4
  change q1 = 125 :: r' at e3
  change o' = o1 at e4
  subst e4
  refine ⟨q, e1, ?_⟩
  rw [← e3, e5]; exact G
theorem oneN_ok {f : Nat} {m : List Nat → List Nod → Rl} (Hm : ∀ r o r' o' l, WfN o → o.length ≤ 80 → m r o = .ok (r', o', l) → ∃ ln : List Nat, l = ln.map Int.ofNat ∧ Many o r o' r' ln)
    {o o' : List Nod} {r r' : List Nat} (hw : WfN o) (hle : o.length ≤ 80) (h : oneN f m r o = .ok (r', o')) : Grown o r o' r' false := by
  cases r with
  | nil => cases h
  | cons c r =>
    rw [oneN] at h
    split at h
    · rename_i hc
      obtain ⟨⟨r1, o1⟩, h1, h4⟩ := bind_ok h
      clear h
      obtain ⟨⟨r2, o2⟩, h2, h5⟩ := bind_ok h4
      obtain ⟨⟨r3, o3⟩, h3, h6⟩ := bind_ok h5
      obtain ⟨e1, e2, e3⟩ := mdN_ok h6
      have g1 := vlN_ok f r o r1 o1 hw hle h1
      obtain ⟨q2, b2, g2⟩ := blkN_ok Hm g1.for_.wf g1.for_.le h2
      change r1 = 123 :: q2 at b2
      obtain ⟨q3, b3, g3⟩ := blkN_ok Hm g2.for_.wf g2.for_.le h3
      change r2 = 123 :: q3 at b3
      subst e3
      subst e2
      obtain ⟨t1, n1⟩ := g1.keep g2.for_
      obtain ⟨t2, n2⟩ := g2.keep g3.for_
      have F12 : Forest o o2 [o1.length - 1, o2.length - 1] := g1.for_.app g2.for_
      have F : Forest o o3 [o1.length - 1, o2.length - 1, o3.length - 1] := F12.app g3.for_
      obtain ⟨m3, hm3⟩ := g3.for_.pre
      have l1 := g1.more
      have l2 := g2.more
      have t13 : txN o3 (lstI o1) = txN o1 (lstI o1) := by
        rw [hm3, txN_app m3 g2.for_.wf (lstI_in (by omega)).1 (by have := (lstI_in (o := o1) (by omega)).2; omega), t1]
      have n13 : nthD o3 (o1.length - 1) = nthD o1 (o1.length - 1) := by rw [hm3, nthD_app m3 (by omega), n1]
      refine grown_close (x := ⟨8, 0, lstI o1, lstI o2, lstI o3⟩) F e1 (kin_of (by decide) (by decide) (fun q => by omega) (fun q => by omega)) rfl (fun q p hq => ?_) ?_
      · match q, hq with
        | 0, hq => cases hq; rw [n13, g1.kind]; rfl
        | 1, hq => cases hq; rw [n2, g2.kind]; rfl
        | 2, hq => cases hq; rw [g3.kind]; rfl
        | q + 3, hq => simp at hq
      · rw [hc, g1.text, b2, g2.text, b3, g3.text, ← t13, ← t2]
        simp [txB]
    split at h
    · rename_i hc
      obtain ⟨⟨r1, o1⟩, h1, h4⟩ := bind_ok h
      clear h
      obtain ⟨⟨r2, o2⟩, h2, h5⟩ := bind_ok h4
      obtain ⟨e1, e2, e3⟩ := mdN_ok h5
      have g1 := vlN_ok f r o r1 o1 hw hle h1
      obtain ⟨q2, b2, g2⟩ := blkN_ok Hm g1.for_.wf g1.for_.le h2
      change r1 = 123 :: q2 at b2
      subst e3
      subst e2
      obtain ⟨t1, n1⟩ := g1.keep g2.for_
      have F : Forest o o2 [o1.length - 1, o2.length - 1] := g1.for_.app g2.for_
      refine grown_close (x := ⟨9, 0, lstI o1, lstI o2, 0⟩) F e1 (kin_of (by decide) (by decide) (fun q => by omega) (fun q => by omega)) rfl (fun q p hq => ?_) ?_
      · match q, hq with
        | 0, hq => cases hq; rw [n1, g1.kind]; rfl
        | 1, hq => cases hq; rw [g2.kind]; rfl
        | q + 2, hq => simp at hq
      · rw [hc, g1.text, b2, g2.text, ← t1]
        simp [txB]
    split at h
    · rename_i hc
      obtain ⟨⟨r1, o1⟩, h1, h4⟩ := bind_ok h
      clear h
      obtain ⟨⟨r2, o2⟩, h2, h5⟩ := bind_ok h4
      obtain ⟨⟨r3, o3⟩, h3, h6⟩ := bind_ok h5
      obtain ⟨e1, e2, e3⟩ := mdN_ok h6
      obtain ⟨b1, c1⟩ := mstN_ok h1
      obtain ⟨b3, c3⟩ := mstN_ok h3
      change r = 61 :: r1 at b1
      change o1 = o at c1
      change r2 = 59 :: r3 at b3
      change o3 = o2 at c3
      subst c1
      subst c3
      have g2 := vlN_ok f r1 o1 r2 o3 hw hle h2
      subst e3
      subst e2
      refine grown_close (x := ⟨6, ((c - 97 : Nat) : Int), lstI o3, 0, 0⟩) g2.for_ e1 (varN_kin hc 6 (.inr rfl) _) rfl (fun q p hq => ?_) ?_
      · match q, hq with
        | 0, hq => cases hq; rw [g2.kind]; rfl
        | q + 1, hq => simp at hq
      · rw [b1, g2.text, b3]
        simp [txB]
        omega
    · cases h
theorem mnyN_ok : ∀ (f : Nat) (r : List Nat) (o : List Nod) (r' : List Nat) (o' : List Nod) (l : List Int), WfN o → o.length ≤ 80 → mnyN f r o = .ok (r', o', l) → ∃ ln : List Nat, l = ln.map Int.ofNat ∧ Many o r o' r' ln
  | 0, _, _, _, _, _, _, _, h => by cases h
  | _ + 1, [], o, r', o', l, hw, hle, h => by
    cases h
    exact ⟨[], rfl, Forest.nil hw hle, rfl, by simp, fun l k e => absurd (congrArg List.length e) (by simp), fun _ => rfl, .inl rfl⟩
  | f + 1, c :: r, o, r', o', l, hw, hle, h => by
    rw [mnyN] at h
    split at h
    · rename_i hc
      cases h
      exact ⟨[], rfl, Forest.nil hw hle, rfl, by simp, fun l k e => absurd (congrArg List.length e) (by simp), fun _ => rfl, .inr ⟨r, by rw [hc]⟩⟩
    · obtain ⟨⟨r1, o1⟩, h1, h4⟩ := bind_ok h
      clear h
      obtain ⟨⟨r2, o2, l2⟩, h2, h5⟩ := bind_ok h4
      cases h5
      have g1 := oneN_ok (fun r o r' o' l => mnyN_ok f r o r' o' l) hw hle h1
      obtain ⟨ln, rfl, M⟩ := mnyN_ok f r1 o1 _ _ _ g1.for_.wf g1.for_.le h2
      obtain ⟨t1, n1⟩ := g1.keep M.for_
      refine ⟨(o1.length - 1) :: ln, rfl, g1.for_.app M.for_, ?_, fun i hi => ?_, fun l k e => ?_, fun e => absurd e (by simp), M.stop⟩
      · rw [g1.text, M.text, ← t1, List.flatMap_cons, List.append_assoc]; rfl
      · rcases List.mem_cons.1 hi with rfl | hi
        · rw [n1]; exact g1.kind
        · exact M.kind i hi
      · cases l with
        | nil =>
          simp only [List.nil_append, List.cons.injEq] at e
          rw [M.none e.2, e.1]
        | cons a l =>
          simp only [List.cons_append, List.cons.injEq] at e
          exact M.last l k e.2
/-- WHAT IS READ HAS JUST THE TEXT THAT WAS READ, and is a right program. -/
theorem again_ok {s : List Nat} {o : List Nod} (h : parN s = .ok o) : s.length ≤ 300 ∧ 0 < o.length ∧ o.length ≤ 80 ∧ proC o = 0 ∧ WfN o ∧ txN o (lstI o) = s := by
  unfold parN at h
  split at h
  · cases h
  rename_i hs
  split at h
  · cases h
  · rename_i a h1
    split at h
    · rename_i ha
      cases h
      obtain ⟨⟨r1, o1, l⟩, h2, h3⟩ := bind_ok h1
      obtain ⟨ln, rfl, M⟩ := mnyN_ok 1300 s [] r1 o1 l wfN_nil (by decide) h2
      obtain ⟨r2, o2⟩ := a
      obtain ⟨e1, G⟩ := endN_ok wfN_nil (by decide) M h3
      change r2 = [] at ha
      have hmore : 0 < o2.length := G.more
      refine ⟨by omega, hmore, G.for_.le, ?_, G.for_.wf, ?_⟩
      · obtain ⟨u, a1, _, c1⟩ := G.for_.use (fun _ => 0) rfl (fun _ _ => rfl)
        have hle := G.for_.le
        show proC o2 = 0
        unfold proC
        rw [if_neg (by omega), if_neg (by omega), a1, if_neg (by simp), if_neg ?_, if_neg ?_]
        · have := G.kind
          rw [decide_eq_false_iff_not] at this
          exact this
        · simp only [List.any_eq_true, List.mem_range, beq_iff_eq, not_exists, not_and]
          intro i hi
          rw [c1 i (by simp), if_neg (by rw [List.mem_singleton]; omega)]
          decide
      · have := G.text
        rw [← e1, ha, List.append_nil] at this
        exact this.symm
    · cases h
end Go.Proofs.YtioimgeeamchaaaDoor
