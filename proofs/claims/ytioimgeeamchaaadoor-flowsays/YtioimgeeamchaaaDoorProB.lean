/- Programs as texts, plainly: how a text is read, what a program's text is; what is read has just the text that was read. -/
import Derived.Test.YtioimgeeamchaaaDoorProA
namespace Go.Proofs.YtioimgeeamchaaaDoor
open Go.RowKit
set_option maxRecDepth 100000

/-- What is left of a text, and the nodes so far; or what is wrong. -/
abbrev Rd := Except Int (List Nat × List Nod)
def lstI (o : List Nod) : Int := ((o.length - 1 : Nat) : Int)
def mdN (r : List Nat) (o : List Nod) (x : Nod) : Rd := if o.length = 80 then .error 4 else .ok (r, o ++ [x])
def mstN (c : Nat) : List Nat → List Nod → Rd
  | d :: r, o => if d = c then .ok (r, o) else .error 2
  | [], _ => .error 2
/-- A number's digits. -/
def digF : Nat → Nat → List Nat
  | 0, _ => []
  | f + 1, n => if n < 10 then [48 + n] else digF f (n / 10) ++ [48 + n % 10]
def digs (n : Nat) : List Nat := digF 7 n
def takD : Nat → List Nat → List Nat
  | k + 1, c :: r => if 48 ≤ c ∧ c ≤ 57 then c :: takD k r else []
  | _, _ => []
def valD (l : List Nat) : Nat := l.foldl (fun n c => n * 10 + (c - 48)) 0
def numN (r : List Nat) (o : List Nod) : Rd :=
  if takD 7 r = [] ∨ 999999 < valD (takD 7 r) ∨ digs (valD (takD 7 r)) ≠ takD 7 r then .error 2
  else mdN (r.drop (takD 7 r).length) o ⟨0, (valD (takD 7 r) : Nat), 0, 0, 0⟩
/-- The kind of a value of two. -/
def opK (c : Nat) : Option Int := if c = 43 then some 2 else if c = 60 then some 3 else if c = 61 then some 4 else none
def vlN : Nat → List Nat → List Nod → Rd
  | 0, _, _ => .error 2
  | _ + 1, [], _ => .error 2
  | f + 1, c :: r, o =>
    match opK c with
    | some k => (vlN f r o).bind fun a => (vlN f a.1 a.2).bind fun b => mdN b.1 b.2 ⟨k, 0, lstI a.2, lstI b.2, 0⟩
    | none => if c = 35 then numN r o else if 97 ≤ c ∧ c < 103 then mdN r o ⟨1, ((c - 97 : Nat) : Int), 0, 0, 0⟩ else .error 2
abbrev Rl := Except Int (List Nat × List Nod × List Int)
/-- One Both for each deed but the last one, from behind. -/
def bothN : List Int → Int → List Nat → List Nod → Rd
  | [], _, r, o => .ok (r, o)
  | k :: ks, last, r, o => (mdN r o ⟨7, 0, k, last, 0⟩).bind fun a => bothN ks (lstI a.2) a.1 a.2
def endN (a : List Nat × List Nod × List Int) : Rd :=
  match a.2.2.reverse with
  | [] => mdN a.1 a.2.1 ⟨5, 0, 0, 0, 0⟩
  | last :: rest => bothN rest last a.1 a.2.1
def blkN (m : List Nat → List Nod → Rl) (r : List Nat) (o : List Nod) : Rd :=
  (mstN 123 r o).bind fun a => ((m a.1 a.2).bind endN).bind fun b => mstN 125 b.1 b.2
def oneN (f : Nat) (m : List Nat → List Nod → Rl) : List Nat → List Nod → Rd
  | [], _ => .error 2
  | c :: r, o =>
    if c = 63 then (vlN f r o).bind fun a => (blkN m a.1 a.2).bind fun b => (blkN m b.1 b.2).bind fun d => mdN d.1 d.2 ⟨8, 0, lstI a.2, lstI b.2, lstI d.2⟩
    else if c = 64 then (vlN f r o).bind fun a => (blkN m a.1 a.2).bind fun b => mdN b.1 b.2 ⟨9, 0, lstI a.2, lstI b.2, 0⟩
    else if 97 ≤ c ∧ c < 103 then (mstN 61 r o).bind fun a => (vlN f a.1 a.2).bind fun b => (mstN 59 b.1 b.2).bind fun d => mdN d.1 d.2 ⟨6, ((c - 97 : Nat) : Int), lstI b.2, 0, 0⟩
    else .error 2
def mnyN : Nat → List Nat → List Nod → Rl
  | 0, _, _ => .error 2
  | _ + 1, [], o => .ok ([], o, [])
  | f + 1, c :: r, o =>
    if c = 125 then .ok (c :: r, o, [])
    else (oneN f (mnyN f) (c :: r) o).bind fun a => (mnyN f a.1 a.2).bind fun b => .ok (b.1, b.2.1, lstI a.2 :: b.2.2)
/-- What a text is read as. -/
def parN (s : List Nat) : Except Int (List Nod) :=
  if 300 < s.length then .error 4
  else match (mnyN 1300 s []).bind endN with
    | .error e => .error e
    | .ok a => if a.1 = [] then .ok a.2 else .error 2

/-- A node's text, by the texts of its parts. -/
def txB (x : Nod) (t : Int → List Nat) : List Nat :=
  if x.kd = 0 then 35 :: digs x.num.toNat
  else if x.kd = 1 then [97 + x.num.toNat]
  else if x.kd = 2 then 43 :: (t x.pa ++ t x.pb)
  else if x.kd = 3 then 60 :: (t x.pa ++ t x.pb)
  else if x.kd = 4 then 61 :: (t x.pa ++ t x.pb)
  else if x.kd = 6 then (97 + x.num.toNat) :: 61 :: (t x.pa ++ [59])
  else if x.kd = 7 then t x.pa ++ t x.pb
  else if x.kd = 8 then 63 :: (t x.pa ++ (123 :: (t x.pb ++ (125 :: 123 :: (t x.pc ++ [125])))))
  else if x.kd = 9 then 64 :: (t x.pa ++ (123 :: (t x.pb ++ [125])))
  else []
theorem txB_like {x : Nod} {t t' : Int → List Nat} (h : ∀ p ∈ prtL x, t p = t' p) : txB x t = txB x t' := by
  unfold prtL at h
  unfold txB
  split
  · rfl
  split
  · rfl
  split
  · rename_i e; rw [if_neg (by omega), if_neg (by omega), if_pos (by omega)] at h; rw [h _ (by simp), h _ (by simp)]
  split
  · rename_i e; rw [if_neg (by omega), if_neg (by omega), if_pos (by omega)] at h; rw [h _ (by simp), h _ (by simp)]
  split
  · rename_i e; rw [if_neg (by omega), if_neg (by omega), if_pos (by omega)] at h; rw [h _ (by simp), h _ (by simp)]
  split
  · rename_i e; rw [if_neg (by omega), if_pos e] at h; rw [h _ (by simp)]
  split
  · rename_i e; rw [if_neg (by omega), if_neg (by omega), if_pos (by omega)] at h; rw [h _ (by simp), h _ (by simp)]
  split
  · rename_i e; rw [if_pos e] at h; rw [h _ (by simp), h _ (by simp), h _ (by simp)]
  split
  · rename_i e; rw [if_neg (by omega), if_neg (by omega), if_pos (by omega)] at h; rw [h _ (by simp), h _ (by simp)]
  · rfl
/-- A node's text. -/
def txF : Nat → List Nod → Nat → List Nat
  | 0, _, _ => []
  | f + 1, o, i => txB (nthD o i) fun p => txF f o p.toNat

/-- Each node's parts lie ahead of it. -/
def WfN (o : List Nod) : Prop := ∀ i, i < o.length → ∀ p ∈ prtL (nthD o i), 0 ≤ p ∧ p < (i : Int)
theorem wfN_nil : WfN [] := fun i h => absurd h (by simp)
theorem wfN_snoc {o : List Nod} {x : Nod} (h : WfN o) (hx : ∀ p ∈ prtL x, 0 ≤ p ∧ p < (o.length : Int)) : WfN (o ++ [x]) := fun i hi p hp => by
  by_cases e : i < o.length
  · rw [nthD_app _ e] at hp; exact h i e p hp
  · rw [List.length_append, List.length_singleton] at hi
    obtain rfl : i = o.length := by omega
    rw [nthD_at] at hp; exact hx p hp
/-- The text of a node hangs on no more than the nodes up to it. -/
theorem txF_app {o : List Nod} (m : List Nod) (h : WfN o) : ∀ (f i : Nat), i < o.length → txF f (o ++ m) i = txF f o i
  | 0, _, _ => by rw [txF, txF]
  | f + 1, i, hi => by
    rw [txF, txF, nthD_app m hi]
    exact txB_like fun p q => by
      have := h i hi p q
      exact txF_app m h f p.toNat (by omega)
theorem txF_less {o : List Nod} (h : WfN o) : ∀ (f i : Nat), i < o.length → i < f → txF (f + 1) o i = txF f o i
  | 0, _, _, hf => absurd hf (by omega)
  | f + 1, i, hi, hf => by
    show txB (nthD o i) (fun p => txF (f + 1) o p.toNat) = txB (nthD o i) (fun p => txF f o p.toNat)
    exact txB_like fun p q => by
      have := h i hi p q
      exact txF_less h f p.toNat (by omega) (by omega)
theorem txF_fuel {o : List Nod} (h : WfN o) {i : Nat} (hi : i < o.length) : ∀ f, i < f → txF f o i = txF (i + 1) o i := fun f hf => by
  obtain ⟨d, rfl⟩ : ∃ d, f = i + 1 + d := ⟨f - (i + 1), by omega⟩
  clear hf
  induction d with
  | zero => rfl
  | succ d ih => rw [← ih]; exact txF_less h (i + 1 + d) i hi (by omega)
/-- The text of a node. -/
def txN (o : List Nod) (p : Int) : List Nat := txF (p.toNat + 1) o p.toNat
theorem txN_app {o : List Nod} (m : List Nod) (h : WfN o) {p : Int} (h0 : 0 ≤ p) (hp : p < (o.length : Int)) : txN (o ++ m) p = txN o p := txF_app m h _ _ (by omega)
theorem txN_part {o : List Nod} (h : WfN o) {i : Nat} (hi : i < o.length) {p : Int} (hp : p ∈ prtL (nthD o i)) : txF i o p.toNat = txN o p := by
  have := h i hi p hp
  exact txF_fuel h (by omega) i (by omega)

/-- One node behind others: what it takes. -/
theorem prtC_app {l : List Nod} (m : List Nod) {i : Nat} (hi : i ≤ l.length) (kd : Int) : ∀ (ps : List Int) (k : Nat) (u : Nat → Nat), prtC (l ++ m) i kd k ps u = prtC l i kd k ps u
  | [], _, _ => rfl
  | p :: ps, k, u => by
    unfold prtC
    split
    · rfl
    · rename_i h
      rw [nthD_app m (by omega), prtC_app m hi kd ps]
theorem nodC_app {l : List Nod} (m : List Nod) : ∀ n, n ≤ l.length → nodC (l ++ m) n = nodC l n
  | 0, _ => rfl
  | n + 1, h => by
    unfold nodC
    rw [nodC_app m n (by omega), nthD_app m (by omega), prtC_app m (by omega)]
theorem prtC_go {l : List Nod} {i : Nat} {kd : Int} {k a : Nat} {ps : List Int} {u : Nat → Nat} (ha : a < i) (hu : u a = 0) (hv : decide ((nthD l a).kd < 5) = valB kd k) :
    prtC l i kd k ((a : Int) :: ps) u = prtC l i kd (k + 1) ps (upd u a 1) := by
  rw [prtC, if_neg (by omega), Int.toNat_natCast, hu, if_neg (by rw [hv]; simp)]
theorem nodC_snoc {o : List Nod} {x : Nod} {u u' : Nat → Nat} (h : nodC o o.length = (0, u)) (hk : kinB x = true) (hp : prtC (o ++ [x]) o.length x.kd 0 (prtL x) u = (0, u')) : nodC (o ++ [x]) (o.length + 1) = (0, u') := by
  rw [nodC, nodC_app [x] o.length (Nat.le_refl _), h]
  simp only
  rw [if_neg (by simp), nthD_at, hk, if_neg (by simp), hp]
/-- The text of the last node, by those of its parts. -/
theorem txN_last {o : List Nod} {x : Nod} (h : WfN (o ++ [x])) : txN (o ++ [x]) (o.length : Nat) = txB x (txN (o ++ [x])) := by
  have hl : o.length < (o ++ [x]).length := by simp
  have hx : nthD (o ++ [x]) o.length = x := nthD_at o [] x
  unfold txN
  rw [Int.toNat_natCast, txF, hx]
  refine txB_like fun p q => ?_
  exact txN_part h hl (by rw [hx]; exact q)

/-- Trees grown behind nodes: their roots are no parts yet, all others are, each of one. -/
structure Forest (o o' : List Nod) (l : List Nat) : Prop where
  pre : ∃ new, o' = o ++ new
  wf : WfN o'
  le : o'.length ≤ 80
  rts : ∀ i ∈ l, o.length ≤ i ∧ i < o'.length
  nod : l.Nodup
  use : ∀ u, nodC o' o.length = (0, u) → (∀ j, o.length ≤ j → u j = 0) → ∃ u', nodC o' o'.length = (0, u') ∧ (∀ j, j < o.length → u' j = u j) ∧ ∀ j, o.length ≤ j → u' j = if j ∈ l ∨ o'.length ≤ j then 0 else 1
theorem Forest.nil {o : List Nod} (h : WfN o) (hl : o.length ≤ 80) : Forest o o [] :=
  ⟨⟨[], by simp⟩, h, hl, by simp, by simp, fun u hu h0 => ⟨u, hu, fun _ _ => rfl, fun j hj => by rw [if_pos (.inr hj)]; exact h0 j hj⟩⟩
theorem Forest.len {o o' : List Nod} {l : List Nat} (h : Forest o o' l) : o.length ≤ o'.length := by
  obtain ⟨new, e⟩ := h.pre
  rw [e, List.length_append]; omega
theorem Forest.app {o o1 o2 : List Nod} {l1 l2 : List Nat} (h : Forest o o1 l1) (k : Forest o1 o2 l2) : Forest o o2 (l1 ++ l2) := by
  have e1 := h.len
  have e2 := k.len
  obtain ⟨n1, p1⟩ := h.pre
  obtain ⟨n2, p2⟩ := k.pre
  refine ⟨⟨n1 ++ n2, by rw [p2, p1, List.append_assoc]⟩, k.wf, k.le, fun i hi => ?_, ?_, fun u hu h0 => ?_⟩
  · rcases List.mem_append.1 hi with hi | hi
    · have := h.rts i hi; omega
    · have := k.rts i hi; omega
  · refine List.nodup_append.2 ⟨h.nod, k.nod, fun a ha b hb e => ?_⟩
    have := h.rts a ha
    have := k.rts b hb
    omega
  · have q : nodC o1 o.length = (0, u) := by rw [← hu, p2]; exact (nodC_app n2 o.length e1).symm
    obtain ⟨u1, a1, b1, c1⟩ := h.use u q h0
    have q2 : nodC o2 o1.length = (0, u1) := by rw [← a1, p2]; exact nodC_app n2 o1.length (Nat.le_refl _)
    obtain ⟨u2, a2, b2, c2⟩ := k.use u1 q2 fun j hj => by rw [c1 j (by omega), if_pos (.inr hj)]
    refine ⟨u2, a2, fun j hj => by rw [b2 j (by omega), b1 j hj], fun j hj => ?_⟩
    by_cases hj1 : j < o1.length
    · rw [b2 j hj1, c1 j hj]
      have : j ∉ l2 := fun q => by have := (k.rts j q).1; omega
      by_cases hm : j ∈ l1
      · rw [if_pos (.inl hm), if_pos (.inl (List.mem_append_left _ hm))]
      · rw [if_neg (not_or.2 ⟨hm, by omega⟩), if_neg (not_or.2 ⟨fun q => (List.mem_append.1 q).elim hm this, by omega⟩)]
    · rw [c2 j (by omega)]
      have : j ∉ l1 := fun q => by have := (h.rts j q).2; omega
      by_cases hm : j ∈ l2
      · rw [if_pos (.inl hm), if_pos (.inl (List.mem_append_right _ hm))]
      · by_cases hl : o2.length ≤ j
        · rw [if_pos (.inr hl), if_pos (.inr hl)]
        · rw [if_neg (not_or.2 ⟨hm, hl⟩), if_neg (not_or.2 ⟨fun q => (List.mem_append.1 q).elim this hm, hl⟩)]
theorem prtC_all {l : List Nod} {i : Nat} {kd : Int} : ∀ (ps : List Nat) (k : Nat) (u : Nat → Nat), (∀ p ∈ ps, p < i) → (∀ p ∈ ps, u p = 0) → ps.Nodup →
    (∀ q p, ps[q]? = some p → decide ((nthD l p).kd < 5) = valB kd (k + q)) → ∃ u', prtC l i kd k (ps.map Int.ofNat) u = (0, u') ∧ ∀ j, u' j = if j ∈ ps then 1 else u j
  | [], _, u, _, _, _, _ => ⟨u, rfl, fun j => by simp⟩
  | p :: ps, k, u, h1, h2, h3, h4 => by
    obtain ⟨h5, h6⟩ := List.nodup_cons.1 h3
    have e := prtC_go (ps := ps.map Int.ofNat) (h1 p (by simp)) (h2 p (by simp)) (h4 0 p rfl)
    obtain ⟨u', a, b⟩ := prtC_all ps (k + 1) (upd u p 1) (fun q hq => h1 q (by simp [hq])) (fun q hq => by rw [upd_other _ (fun e => by subst e; exact h5 hq)]; exact h2 q (by simp [hq])) h6 (fun q r hr => by
      have := h4 (q + 1) r hr
      rw [this]; congr 1; omega)
    refine ⟨u', e.trans a, fun j => ?_⟩
    rw [b j]
    by_cases hj : j ∈ ps
    · rw [if_pos hj, if_pos (by simp [hj])]
    · rw [if_neg hj]
      by_cases ej : j = p
      · subst ej; rw [upd_same, if_pos (by simp)]
      · rw [upd_other _ ej, if_neg (by simp [hj, ej])]
/-- One node more takes the last roots as its parts. -/
theorem Forest.close {o o' : List Nod} {l ps : List Nat} {x : Nod} (h : Forest o o' (l ++ ps)) (hl : o'.length ≠ 80) (hk : kinB x = true) (hx : prtL x = ps.map Int.ofNat)
    (hv : ∀ q p, ps[q]? = some p → decide ((nthD o' p).kd < 5) = valB x.kd q) : Forest o (o' ++ [x]) (l ++ [o'.length]) := by
  have e1 := h.len
  obtain ⟨n1, p1⟩ := h.pre
  have hl2 : (o' ++ [x]).length = o'.length + 1 := by simp
  obtain ⟨d1, d2, d3⟩ := List.nodup_append.1 h.nod
  have hps : ∀ p ∈ ps, o.length ≤ p ∧ p < o'.length := fun p hp => h.rts p (List.mem_append_right _ hp)
  have hls : ∀ p ∈ l, o.length ≤ p ∧ p < o'.length := fun p hp => h.rts p (List.mem_append_left _ hp)
  refine ⟨⟨n1 ++ [x], by rw [p1, List.append_assoc]⟩, wfN_snoc h.wf fun p hp => ?_, by have := h.le; omega, fun i hi => ?_, ?_, fun u hu h0 => ?_⟩
  · rw [hx, List.mem_map] at hp
    obtain ⟨q, hq, rfl⟩ := hp
    have := hps q hq
    exact ⟨Int.natCast_nonneg q, by show (q : Int) < _; omega⟩
  · rw [hl2]
    rcases List.mem_append.1 hi with hi | hi
    · have := hls i hi; omega
    · obtain rfl := List.mem_singleton.1 hi; omega
  · refine List.nodup_append.2 ⟨d1, by simp, fun a ha b hb e => ?_⟩
    obtain rfl := List.mem_singleton.1 hb
    have := hls a ha
    omega
  · have q : nodC o' o.length = (0, u) := by rw [← hu]; exact (nodC_app [x] o.length e1).symm
    obtain ⟨u1, a1, b1, c1⟩ := h.use u q h0
    obtain ⟨u2, a2, b2⟩ := prtC_all (l := o' ++ [x]) (i := o'.length) (kd := x.kd) ps 0 u1 (fun p hp => (hps p hp).2)
      (fun p hp => by rw [c1 p (hps p hp).1, if_pos (.inl (List.mem_append_right _ hp))]) d2 (fun q p hp => by
        have hm := hps p (List.mem_of_getElem? hp)
        rw [nthD_app [x] hm.2, hv q p hp, Nat.zero_add])
    rw [← hx] at a2
    refine ⟨u2, by rw [hl2]; exact nodC_snoc a1 hk a2, fun j hj => ?_, fun j hj => ?_⟩
    · rw [b2 j, if_neg (fun hm => by have := hps j hm; omega), b1 j hj]
    · rw [b2 j, hl2]
      by_cases hm : j ∈ ps
      · have hj2 := hps j hm
        have : j ∉ l := fun hq => d3 j hq j hm rfl
        rw [if_pos hm, if_neg (not_or.2 ⟨fun q => (List.mem_append.1 q).elim this fun q => by have := List.mem_singleton.1 q; omega, by omega⟩)]
      · rw [if_neg hm, c1 j hj]
        by_cases hm2 : j ∈ l
        · rw [if_pos (.inl (List.mem_append_left _ hm2)), if_pos (.inl (List.mem_append_left _ hm2))]
        · by_cases hj2 : o'.length ≤ j
          · rw [if_pos (.inr hj2)]
            by_cases e : j = o'.length
            · rw [if_pos (.inl (by rw [e]; simp))]
            · rw [if_pos (.inr (by omega))]
          · rw [if_neg (not_or.2 ⟨fun q => (List.mem_append.1 q).elim hm2 hm, by omega⟩), if_neg (not_or.2 ⟨fun q => (List.mem_append.1 q).elim hm2 fun q => by have := List.mem_singleton.1 q; omega, by omega⟩)]
end Go.Proofs.YtioimgeeamchaaaDoor
