/- The document's plan (PlanSteps). -/
import Derived.WalkKit
import Derived.LoopTactic
import Derived.OwnWalk
import Derived.Deep.RegionHeld3
import Derived.Deep.AppendLies
import Derived.Maps.AppendAt
import Derived.Test.YtcddbjmockpoiaaDoorTakPas
namespace Go.Proofs.YtcddbjmockpoiaaDoor
open Go.RowKit
set_option maxRecDepth 100000

theorem flatS_len (l : List Stp) : (flatS l).length = l.length * 5 := by
  induction l with
  | nil => rfl
  | cons s l ih =>
    have e : flatS (s :: l) = stpC s ++ flatS l := by simp [flatS]
    rw [e, List.length_append, ih]
    simp [stpC]; omega
theorem flatS_one (l : List Stp) : ∀ u ∈ flatS l, u.oneCell' = true := by
  intro u hu
  obtain ⟨s, _, h⟩ := List.mem_flatMap.1 hu
  exact stpC_one s u h
theorem flatS_app (l l' : List Stp) : flatS (l ++ l') = flatS l ++ flatS l' := by simp [flatS]
theorem own_snoc {w : World} {base : Nat} {v : Value} {l l' : List Stp} {s : Stp} (e : l ++ [s] = l') (h : w.ownsRow base 56 5 v (l.length + 1) (flatS l ++ stpC s)) : w.ownsRow base 56 5 v l'.length (flatS l') := by
  subst e
  rw [flatS_snoc, List.length_append]; exact h
theorem bndS {n m k : Nat} (h : n ≤ k) (hm : m ≤ 4) (hk : k ≤ 1000 := by decide) : n + m ≤ maxLen ∧ (n + m) * 40 ≤ 140737488355328 := by
  unfold maxLen
  omega
theorem size_new {w W : World} (h : Below w.heap.size w W) (o : Obj) : w.heap.size ≤ (W.alloc o).heap.size := Nat.le_trans h.size (by simp)
theorem len_one {l l' : List Stp} {s : Stp} (e : l ++ [s] = l') : l'.length = l.length + 1 := by rw [← e, List.length_append]; rfl
theorem len_four {l P l' : List Stp} {k : Nat} (e : l ++ P = l') (h : l.length ≤ k) (hP : P.length ≤ 4) : l'.length ≤ k + 4 := by rw [← e, List.length_append]; omega
theorem round_nums {j D n x pn u : Nat} (h1 : j + 1 + 1 ≤ D) (hD : D ≤ 20) (hn : n ≤ 20) (hx : x ≤ 220) (hp : pn ≤ 1) (hu : n + x = u) :
    ∃ z i x1 x2 u1 u2 : Nat, j + 1 = z ∧ j + 2 = i ∧ x + 1 = x1 ∧ x + 1 + pn = x2 ∧ u + 1 = u1 ∧ u + 1 + pn = u2 ∧ (j : Int) < (D : Int) + 1 ∧ (i : Int) < (D : Int) + 1 ∧ (z : Int) < (D : Int) + 1 ∧ (0 : Int) < (i : Int) ∧
      (i : Int) - 1 = (z : Int) ∧ (i : Int) - 2 = (j : Int) ∧ (n : Int) + (x : Int) = (u : Int) ∧ (n : Int) + (x1 : Int) = (u1 : Int) ∧ (n : Int) + (x2 : Int) = (u2 : Int) ∧ u < 2 ^ 61 ∧ u1 < 2 ^ 61 ∧ u2 < 2 ^ 61 ∧ i < 2 ^ 61 ∧ z < 2 ^ 61 ∧ j < 2 ^ 61 := by
  refine ⟨_, _, _, _, _, _, rfl, rfl, rfl, rfl, rfl, rfl, ?_⟩
  omega
theorem cat_len {l P l' : List Stp} (e : l ++ P = l') : l.length + P.length = l'.length := by rw [← e, List.length_append]
theorem stps_here {w : World} {base n cp : Nat} {a : Option Addr} {l : List Stp} (h : w.ownsRow base 56 5 (.slice a n cp) l.length (flatS l)) : AtStps w a l.length (nthS l) := by
  obtain ⟨a', c', e, hs⟩ := stps_of h
  cases e
  exact hs
theorem row_cellsK {w : World} {base e k n g cp : Nat} {xs : List Value} (h : w.ownsRow base e k (.slice (some ⟨g, 0, none⟩) n cp) n xs) : ∀ j u, xs[j]? = some u → w.cell? ((⟨g, 0, none⟩ : Addr).add j) = some u := fun j u hu => h.cells (g := g) rfl j u hu
theorem wrap_eq {a : Int} {c : Nat} (h : a = (c : Int)) (hc : c < 2 ^ 61) : wrap64 a = (c : Int) ∧ IntKind.i64.wrap a = (c : Int) := by
  subst h
  exact ⟨IntWalk.wrap64_in _ ⟨by omega, by omega⟩, wraps62 _ (by omega) (by omega)⟩
theorem passL_pos (g : Gr) (R T b a vt : Nat) : 0 < (passL g R T b a vt).length := by
  unfold passL
  split
  · simp
  · split <;> simp
theorem bringL_pass {g : Gr} {r over : Nat} {W : Nat → Nat} : ∀ {z vt : Nat}, W z ≠ over → bringL g r over W (z + 1) vt = passL g r over (W (z + 1)) (W z) vt ++ bringL g r over W z (vt + passN g (W (z + 1)) (W z)) ∧ bringN g over W (z + 1) vt = bringN g over W z (vt + passN g (W (z + 1)) (W z))
  | 0, vt, _ => by simp [bringL, bringN]
  | z + 1, vt, h => by
    refine ⟨?_, ?_⟩
    · rw [bringL, if_neg h]
    · rw [bringN, if_neg h]
theorem bringL_round {g : Gr} {r over : Nat} {W : Nat → Nat} {j vt : Nat} (h : W (j + 1) = over) : bringL g r over W (j + 2) vt = roundL g r over (W (j + 2)) (W j) vt ++ bringL g r over W j (vt + roundN g over (W (j + 2)) (W j)) ∧ bringN g over W (j + 2) vt = bringN g over W j (vt + roundN g over (W (j + 2)) (W j)) := by
  refine ⟨?_, ?_⟩
  · rw [bringL, if_pos h]
  · rw [bringN, if_pos h]
/-- What is left of the plan. -/
def Left (g : Gr) (r over : Nat) (W : Nat → Nat) (D i : Nat) (l : List Stp) : Prop := l ++ bringL g r over W i (g.n + newsN l) = bringL g r over W D g.n ∧ bringN g over W i (g.n + newsN l) = bringN g over W D g.n
theorem Left.pass {g : Gr} {r over : Nat} {W : Nat → Nat} {D z : Nat} {l : List Stp} (h : Left g r over W D (z + 1) l) (hz : W z ≠ over) : Left g r over W D z (l ++ passL g r over (W (z + 1)) (W z) (g.n + newsN l)) := by
  obtain ⟨h1, h2⟩ := h
  obtain ⟨e1, e2⟩ := bringL_pass (g := g) (r := r) (vt := g.n + newsN l) hz
  rw [e1] at h1
  rw [e2] at h2
  unfold Left
  rw [newsN_app, newsN_pass, List.append_assoc, ← Nat.add_assoc]
  exact ⟨h1, h2⟩
theorem Left.round {g : Gr} {r over : Nat} {W : Nat → Nat} {D j : Nat} {l : List Stp} (h : Left g r over W D (j + 2) l) (hz : W (j + 1) = over) : Left g r over W D j (l ++ roundL g r over (W (j + 2)) (W j) (g.n + newsN l)) := by
  obtain ⟨h1, h2⟩ := h
  obtain ⟨e1, e2⟩ := bringL_round (g := g) (r := r) (vt := g.n + newsN l) hz
  rw [e1] at h1
  rw [e2] at h2
  unfold Left
  rw [newsN_app, newsN_round, List.append_assoc, ← Nat.add_assoc]
  exact ⟨h1, h2⟩
theorem newsS (l : List Stp) : newsI (nthS l) l.length = newsN l := newsI_all l
section
variable {w : World} {b0 off : Nat} {B O C : Nat → Nat} {g : Gr}
theorem newsC {W : World} {sa : Option Addr} {l : List Stp} {scp x : Nat} (h : AtStps W sa l.length (nthS l)) (hl : l.length < 1000) (hx : newsN l = x) : Calls Tryd.prog 34 #[.slice sa (l.length : Nat) scp] W fun e w' => e = .returned (.int .i64 (x : Nat)) ∧ w' = W := by
  have := refNews_any sa l.length scp (nthS l) W h (by omega)
  rw [newsS, hx] at this
  exact this
set_option maxHeartbeats 4000000 in
theorem refPlan_any (hG0 : GrAt w b0 off B O C g) (ok : g.Ok) (cp gb ccp D : Nat) (W : Nat → Nat) (hW : Own w gb (D + 1) W) (hlt : ∀ i, i ≤ D → W i < g.n) (hD : D ≤ 20) (r over : Nat) (ho : over < g.n) (h0 : W 0 ≠ over) :
    Calls Tryd.prog 17 #[.slice (some ⟨b0, off, none⟩) g.n cp, .int .i64 r, .slice (some ⟨gb, 0, none⟩) (D + 1 : Nat) ccp, .int .i64 over] w fun e w' =>
      (((20 < bringN g over W D g.n ∨ 60 < (bringL g r over W D g.n).length) ∧ e = .returned (.tuple #[.slice none 0 0, .int .i64 4])) ∨
        ((bringN g over W D g.n ≤ 20 ∧ (bringL g r over W D g.n).length ≤ 60) ∧ ∃ sa scp, e = .returned (.tuple #[.slice sa (bringL g r over W D g.n).length scp, .int .i64 0]) ∧ AtStps w' sa (bringL g r over W D g.n).length (nthS (bringL g r over W D g.n)))) ∧ Below w.heap.size w w' := by
  obtain ⟨i0, hi0, hz0, hz1, hz2⟩ := info_parts infoStp
  have hle := ok.le
  have hcell : ∀ w1 i, Below w.heap.size w w1 → i ≤ D → w1.cell? ⟨gb, i, none⟩ = some (.int .i64 (W i : Nat)) := fun w1 i k hi => (k.cell (p := ⟨gb, i, none⟩) hW.lt).trans (hW.cell i (by omega))
  have HCe := Hid.mkI hcell
  have HGb : Hid (gb < w.heap.size) := hW.lt
  have HLt := Hid.mkI hlt
  have HH0 := Hid.mkI h0
  clear hcell hlt h0 hW
  go_enter Tryd.func17, Tryd.ntmps17
  go_wp2
  go_loopw [10, 11] (fun o p wr => ∃ (i : Nat) (l : List Stp) (ov : Value), ov = o ∧ i ≤ D ∧ p = .int .i64 i ∧ wr.ownsRow w.heap.size 56 5 ov l.length (flatS l) ∧ l.length + 11 * i ≤ 11 * D ∧ Hid (Left g r over W D i l) ∧ Below w.heap.size w wr) (fun _ p _ => (intOf p).toNat)
  case atStart => exact ⟨D, [], _, rfl, by omega, by simp, World.ownsRow_nil _ _ _ _, by simp, ⟨rfl, rfl⟩, Below.refl _ _⟩
  case round =>
    obtain ⟨i, l, ov, rfl, hi, rfl, hown1, hlen, HF, hB1⟩ := hrel
    obtain ⟨a1, c1, rfl, hst1⟩ := stps_of hown1
    have hxl := newsN_le l
    obtain ⟨x, hx⟩ : ∃ x, newsN l = x := ⟨_, rfl⟩
    rw [hx] at hxl
    have hl220 : l.length ≤ 220 := by omega
    have hx220 : x ≤ 220 := Nat.le_trans hxl hl220
    by_cases hi0' : i = 0
    · subst hi0'
      have HEq : Hid (bringL g r over W D g.n = l ∧ bringN g over W D g.n = g.n + x) := by
        obtain ⟨h1, h2⟩ := HF.out
        rw [hx] at h1 h2
        exact ⟨by rw [← h1]; simp [bringL], by rw [← h2]; rfl⟩
      have tN := newsC hst1 (scp := c1) (by omega) hx
      have HSt := Hid.mkI hst1
      clear HF hown1 hst1 hx
      by_cases k1 : 20 < g.n + x
      · have kI : (20 : Int) < (g.n : Int) + (x : Int) := by omega
        go_wp2_with (go_at_call 34; refine tN.mono ?_; clear tN; rintro e w' ⟨rfl, hw⟩; obtain rfl := hw.symm)
        go_ret2
        exact ⟨.inl ⟨.inl (by rw [HEq.out.2]; exact k1), rfl⟩, hB1⟩
      · have kI : ¬ (20 : Int) < (g.n : Int) + (x : Int) := by omega
        by_cases k2 : 60 < l.length
        · have kI2 : (60 : Int) < (l.length : Int) := by omega
          go_wp2_with (go_at_call 34; refine tN.mono ?_; clear tN; rintro e w' ⟨rfl, hw⟩; obtain rfl := hw.symm)
          go_ret2
          exact ⟨.inl ⟨.inr (by rw [HEq.out.1]; exact k2), rfl⟩, hB1⟩
        · have kI2 : ¬ (60 : Int) < (l.length : Int) := by omega
          go_wp2_with (go_at_call 34; refine tN.mono ?_; clear tN; rintro e w' ⟨rfl, hw⟩; obtain rfl := hw.symm)
          go_ret2
          refine ⟨.inr ⟨⟨by rw [HEq.out.2]; omega, by rw [HEq.out.1]; omega⟩, a1, c1, by rw [HEq.out.1]; rfl, ?_⟩, hB1⟩
          rw [HEq.out.1]
          exact HSt.out
    · obtain ⟨z, rfl⟩ : ∃ z, i = z + 1 := ⟨i - 1, by omega⟩
      have HGr : Hid (∀ w1, Below w.heap.size w w1 → GrAt w1 b0 off B O C g) := fun w1 k => hG0.below k
      by_cases hq : W z = over
      · obtain ⟨j, rfl⟩ : ∃ j, z = j + 1 := ⟨z - 1, by have : z ≠ 0 := fun e => HH0.out (by rw [← e]; exact hq); omega⟩
        have HL : Hid (Left g r over W D j (l ++ roundL g r over (W (j + 2)) (W j) (g.n + newsN l))) := HF.out.round hq
        rw [hx] at HL
        have hqb : ((W (j + 1) : Int) != (over : Int)) = false := by simpa using (show (W (j + 1) : Int) = over by omega)
        have hrl := roundL_len g r over (W (j + 2)) (W j) (g.n + x)
        have pn1 := passN_le g over (W j)
        obtain ⟨pn, hpn⟩ : ∃ p, passN g over (W j) = p := ⟨_, rfl⟩
        have hnp := newsN_pass g 3 (g.n + x) over (W j) (g.n + x + 1)
        rw [hpn] at pn1 hnp
        have tP1 : ∀ w1, Below w.heap.size w w1 → Calls Tryd.prog 33 #[.slice (some ⟨b0, off, none⟩) g.n cp, .int .i64 ((W j : Nat) : Int), .int .i64 ((over : Nat) : Int), .int .i64 ((g.n + x : Nat) : Int), .int .i64 3, .int .i64 ((g.n + x + 1 : Nat) : Int)] w1 fun e w' => ∃ v, e = .returned v ∧ w'.ownsRow w1.heap.size 56 5 v (passL g 3 (g.n + x) over (W j) (g.n + x + 1)).length (flatS (passL g 3 (g.n + x) over (W j) (g.n + x + 1))) ∧ Below w1.heap.size w1 w' := fun w1 k => refPassed_any (HGr.out w1 k) ok cp (W j) over (g.n + x) 3 (g.n + x + 1) (HLt.out j (by omega)) ho
        have tP2 : ∀ w1, Below w.heap.size w w1 → Calls Tryd.prog 33 #[.slice (some ⟨b0, off, none⟩) g.n cp, .int .i64 ((W (j + 2) : Nat) : Int), .int .i64 ((over : Nat) : Int), .int .i64 ((g.n + x : Nat) : Int), .int .i64 3, .int .i64 ((g.n + x + 1 + pn : Nat) : Int)] w1 fun e w' => ∃ v, e = .returned v ∧ w'.ownsRow w1.heap.size 56 5 v (passL g 3 (g.n + x) over (W (j + 2)) (g.n + x + 1 + pn)).length (flatS (passL g 3 (g.n + x) over (W (j + 2)) (g.n + x + 1 + pn))) ∧ Below w1.heap.size w1 w' := fun w1 k => refPassed_any (HGr.out w1 k) ok cp (W (j + 2)) over (g.n + x) 3 (g.n + x + 1 + pn) (HLt.out (j + 2) (by omega)) ho
        have p11 := passL_len g 3 (g.n + x) over (W j) (g.n + x + 1)
        have p12 := passL_pos g 3 (g.n + x) over (W j) (g.n + x + 1)
        have p21 := passL_len g 3 (g.n + x) over (W (j + 2)) (g.n + x + 1 + pn)
        have p22 := passL_pos g 3 (g.n + x) over (W (j + 2)) (g.n + x + 1 + pn)
        have d0 := fun w1 (k : Below w.heap.size w w1) => HCe.out w1 j k (by omega)
        have d1 := HCe.out wr (j + 1) hB1 (by omega)
        have d2 := fun w1 (k : Below w.heap.size w w1) => HCe.out w1 (j + 2) k (by omega)
        have hre : roundL g r over (W (j + 2)) (W j) (g.n + x) = [⟨2, over, 0, 0, 0⟩] ++ passL g 3 (g.n + x) over (W j) (g.n + x + 1) ++ passL g 3 (g.n + x) over (W (j + 2)) (g.n + x + 1 + pn) ++ [⟨1, W (j + 2), ((g.n + x : Nat) : Int), over, r⟩, ⟨0, W j, ((g.n + x : Nat) : Int), over, r⟩] := by rw [← hpn]; rfl
        obtain ⟨P1, hP1⟩ : ∃ P, passL g 3 (g.n + x) over (W j) (g.n + x + 1) = P := ⟨_, rfl⟩
        obtain ⟨P2, hP2⟩ : ∃ P, passL g 3 (g.n + x) over (W (j + 2)) (g.n + x + 1 + pn) = P := ⟨_, rfl⟩
        rw [hP1] at tP1 p11 p12 hre hnp
        rw [hP2] at tP2 p21 p22 hre
        have HX := Hid.mkI hx
        obtain ⟨y2, hy2⟩ : ∃ y, W (j + 2) = y := ⟨_, rfl⟩
        obtain ⟨y1, hy1⟩ : ∃ y, W (j + 1) = y := ⟨_, rfl⟩
        obtain ⟨y0, hy0⟩ : ∃ y, W j = y := ⟨_, rfl⟩
        rw [hy2] at tP2 d2 hre HL hrl
        rw [hy1] at d1 hqb
        rw [hy0] at tP1 d0 hre HL hrl
        obtain ⟨u, hu⟩ : ∃ v, g.n + x = v := ⟨_, rfl⟩
        rw [hu] at tP1 tP2 hre HL hrl
        obtain ⟨l1, hl1⟩ : ∃ l', l ++ [⟨2, over, 0, 0, 0⟩] = l' := ⟨_, rfl⟩
        obtain ⟨l2, hl2⟩ : ∃ l', l1 ++ P1 = l' := ⟨_, rfl⟩
        obtain ⟨l3, hl3⟩ : ∃ l', l2 ++ P2 = l' := ⟨_, rfl⟩
        obtain ⟨l4, hl4⟩ : ∃ l', l3 ++ [⟨1, y2, u, over, r⟩] = l' := ⟨_, rfl⟩
        obtain ⟨l5, hl5⟩ : ∃ l', l4 ++ [⟨0, y0, u, over, r⟩] = l' := ⟨_, rfl⟩
        have hl5e : l ++ roundL g r over y2 y0 u = l5 := by rw [hre, ← hl5, ← hl4, ← hl3, ← hl2, ← hl1]; simp [List.append_assoc]
        rw [hl5e] at HL
        have hn1 : l1.length ≤ 221 := Nat.le_trans (Nat.le_of_eq (len_one hl1)) (Nat.add_le_add_right hl220 1)
        have hn2 : l2.length ≤ 225 := len_four hl2 hn1 p11
        have hn3 : l3.length ≤ 229 := len_four hl3 hn2 p21
        have hn4 : l4.length ≤ 230 := Nat.le_trans (Nat.le_of_eq (len_one hl4)) (Nat.add_le_add_right hn3 1)
        have hn5 : l5.length ≤ l.length + 11 := by rw [← hl5e, List.length_append]; exact Nat.add_le_add_left hrl _
        have hx1 : newsN l1 = x + 1 := by rw [← hl1, newsN_app, hx]; rfl
        have hx2 : newsN l2 = x + 1 + pn := by rw [← hl2, newsN_app, hx1, hnp]
        obtain ⟨z, i, x1, x2, u1, u2, hz, hiz, hx1e, hx2e, hu1, hu2, b0, b1, b2, b3, s3, t3, q3, r3, o3, hu240, hu241, hu242, hi22, hz22, hj22⟩ := round_nums hi hD hle hx220 pn1 hu
        rw [hx1e] at hx1
        rw [hx2e] at hx2
        rw [hu1] at tP1
        rw [hu2] at tP2
        rw [hz] at d1
        rw [hiz] at d2
        have HX1 := Hid.mkI hx1
        have HX2 := Hid.mkI hx2
        have HL1 := Hid.mkI hl1
        have HL2 := Hid.mkI hl2
        have HL3 := Hid.mkI hl3
        have HL4 := Hid.mkI hl4
        have HL5 := Hid.mkI hl5
        have HI := Hid.mkI hiz
        rw [show ((j + 1 + 1 : Nat) : Int) = (i : Int) from congrArg _ hiz]
        obtain ⟨s1, s2⟩ := wrap_eq s3 hz22
        have HTW := Hid.mkI (wrap_eq t3 hj22)
        obtain ⟨q1, q2⟩ := wrap_eq q3 hu240
        have HRW := Hid.mkI (wrap_eq r3 hu241)
        have HOW := Hid.mkI (wrap_eq o3 hu242)
        have HD0 := Hid.mkI d0
        have HD2 := Hid.mkI d2
        have HTP1 := Hid.mkI tP1
        have HTP2 := Hid.mkI tP2
        have HT := Hid.mkI t3
        have tN0 := newsC hst1 (scp := c1) (Nat.lt_of_le_of_lt hl220 (by decide)) HX.out
        clear hP1 hP2 hy0 hy1 hy2 hq HF hx hl1 hl2 hl3 hl4 hl5 hl5e hre hx1 hx2 hx1e hx2e hu hu1 hu2 hz hiz hnp hpn t3 r3 o3 hrl hu240 hu241 hu242 hi22 hz22 hj22 d0 d2 tP1 tP2
        go_wp2_with fail
        refine tN0.mono ?_
        clear tN0 s3 s1 s2 hst1 q3
        rintro e w' ⟨rfl, hw⟩
        obtain rfl := hw.symm
        clear hw
        go_wp2_with (at_builtin; refine wpList_append_own _ rfl _ _ 23 rfl w.heap.size 56 i0 (.agg #[.int .i64 0, .int .i64 0, .int .i64 0, .int .i64 0, .int .i64 0]) 5 40 Tryd.underlying23 hi0 hz0 hz1 hz2 rfl (by decide) _ l.length (flatS l) rfl (hown1.alloc _) ⟨_, 0, none⟩ 1 1 (stpC ⟨2, over, 0, 0, 0⟩) rfl rfl (cell_five_new wr ⟨2, over, 0, 0, 0⟩ _) (stpC_one ⟨2, over, 0, 0, 0⟩) (bndS hl220 (by decide)).1 (bndS hl220 (by decide)).2 (size_new hB1 _) ?_; intro v5 w5 hown5 hg5 _; have hB5 := grown_stp hB1 hown1 hg5; have hown5 := own_snoc HL1.out hown5; clear hg5 hown1 hB1; obtain ⟨a5, c5, rfl, hst5⟩ := stps_of hown5)
        clear d1 q1 q2
        have d0a := HD0.out w5 hB5
        obtain ⟨t1, t2⟩ := HTW.out
        obtain ⟨r1, r2⟩ := HRW.out
        have hB5 : Below w.heap.size w w5.drew := hB5.drew
        have hownd : w5.drew.ownsRow w.heap.size 56 5 _ l1.length (flatS l1) := hown5
        have hstd : AtStps w5.drew _ l1.length (nthS l1) := hst5.below (below_drawn (Below.refl _ w5) 1)
        have d0a : w5.drew.cell? ⟨gb, j, none⟩ = some (.int .i64 (y0 : Nat)) := d0a
        have tN := newsC hstd (scp := c5) (Nat.lt_of_le_of_lt hn1 (by decide)) HX1.out
        have tP := HTP1.out w5.drew hB5
        first | (go_region_held3 (fun w' => w'.cell? ⟨gb, j, none⟩ = some (.int .i64 (y0 : Nat))) (with_reducible assumption) (first | (go_at_call 34; (with_reducible refine tN.mono ?_); rintro e w' ⟨rfl, hw⟩; obtain rfl := hw.symm) | (go_at_call 33; (with_reducible refine tP.mono ?_); rintro e w2 ⟨v2, rfl, hp, hk⟩; have hown2 := ownsRow_stays hownd hk; have hB2 := hB5.trans (hk.mono hB5.size); have d0a2 := keep_cell hk d0a; obtain ⟨g2, c2, rfl⟩ := row_someK hp p12) | ((refine step_append_lies _ (by rfl) _ _ _ (by rfl) w.heap.size 56 i0 _ 5 40 Tryd.underlying23 hi0 hz0 hz1 hz2 rfl (by decide) _ l1.length (flatS l1) (by rfl) hown2 ⟨g2, 0, none⟩ P1.length c2 (flatS P1) (by rfl) (flatS_len _) (row_cellsK hp) (flatS_one _) p12 (bndS hn1 p11).1 (bndS hn1 p11).2 hB2.size _ rfl ?_; intro g6 c6 w6 hown6 hg6 _ _; have hB6 := hB2.grown hg6 hB2.size (fun k hk => (hown2.lt k hk).1); rw [cat_len HL2.out] at hown6 ⊢; rw [← flatS_app, HL2.out] at hown6; have hst6 := stps_here hown6; have d0a3 : w6.cell? ⟨gb, j, none⟩ = some (.int .i64 (y0 : Nat)) := (hg6.cell_far ⟨gb, j, none⟩ (World.block_lt_of_cell? _ _ d0a2) (row_apart hown2 HGb.out)).trans d0a2)))) | fail
        clear hownd hstd hB5 hown5 hst5 tN tP hg6 hown2 hB2 hp hk d0a d0a2
        clear r1 r2 t1 t2
        have d2a := HD2.out w6 hB6
        obtain ⟨o1, o2⟩ := HOW.out
        go_wp2
        have hB6 : Below w.heap.size w w6.drew := hB6.drew
        have hownd : w6.drew.ownsRow w.heap.size 56 5 _ l2.length (flatS l2) := hown6
        have hstd : AtStps w6.drew _ l2.length (nthS l2) := hst6.below (below_drawn (Below.refl _ w6) 1)
        have d2a : w6.drew.cell? ⟨gb, i, none⟩ = some (.int .i64 (y2 : Nat)) := d2a
        have tN := newsC hstd (scp := c6) (Nat.lt_of_le_of_lt hn2 (by decide)) HX2.out
        have tP := HTP2.out w6.drew hB6
        first | (go_region_held3 (fun w' => w'.cell? ⟨gb, i, none⟩ = some (.int .i64 (y2 : Nat))) (with_reducible assumption) (first | (go_at_call 34; (with_reducible refine tN.mono ?_); rintro e w' ⟨rfl, hw⟩; obtain rfl := hw.symm) | (go_at_call 33; (with_reducible refine tP.mono ?_); rintro e w2 ⟨v2, rfl, hp, hk⟩; have hown2 := ownsRow_stays hownd hk; have hB2 := hB6.trans (hk.mono hB6.size); have d2a2 := keep_cell hk d2a; obtain ⟨g2, c2, rfl⟩ := row_someK hp p22) | ((refine step_append_lies _ (by rfl) _ _ _ (by rfl) w.heap.size 56 i0 _ 5 40 Tryd.underlying23 hi0 hz0 hz1 hz2 rfl (by decide) _ l2.length (flatS l2) (by rfl) hown2 ⟨g2, 0, none⟩ P2.length c2 (flatS P2) (by rfl) (flatS_len _) (row_cellsK hp) (flatS_one _) p22 (bndS hn2 p21).1 (bndS hn2 p21).2 hB2.size _ rfl ?_; intro g7 c7 w7 hown7 hg7 _ _; have hB7 := hB2.grown hg7 hB2.size (fun k hk => (hown2.lt k hk).1); rw [cat_len HL3.out] at hown7 ⊢; rw [← flatS_app, HL3.out] at hown7; have hst7 := stps_here hown7; have d2a3 : w7.cell? ⟨gb, i, none⟩ = some (.int .i64 (y2 : Nat)) := (hg7.cell_far ⟨gb, i, none⟩ (World.block_lt_of_cell? _ _ d2a2) (row_apart hown2 HGb.out)).trans d2a2)))) | fail
        clear hownd hstd hB6 hown6 hst6 tN tP hg7 hown2 hB2 hp hk d2a d2a2
        clear o1 o2 d0a3 d2a3 hst7
        have e2 := HD2.out w7 hB7
        have t3 := HT.out
        go_wp2_with (first | (at_builtin; refine wpList_append_own _ rfl _ _ 23 rfl w.heap.size 56 i0 (.agg #[.int .i64 0, .int .i64 0, .int .i64 0, .int .i64 0, .int .i64 0]) 5 40 Tryd.underlying23 hi0 hz0 hz1 hz2 rfl (by decide) _ l3.length (flatS l3) rfl (hown7.alloc _) ⟨_, 0, none⟩ 1 1 (stpC ⟨1, y2, u, over, r⟩) rfl rfl (cell_five_new w7 ⟨1, y2, u, over, r⟩ _) (stpC_one ⟨1, y2, u, over, r⟩) (bndS hn3 (by decide)).1 (bndS hn3 (by decide)).2 (size_new hB7 _) ?_; intro v8 w8 hown8 hg8 _; have hB8 := grown_stp hB7 hown7 hg8; have hown8 := own_snoc HL4.out hown8; clear hg8 hown7 hB7; have e0 := HD0.out w8 hB8; obtain ⟨a8, c8, rfl, hst8⟩ := stps_of hown8) | (at_builtin; refine wpList_append_own _ rfl _ _ 23 rfl w.heap.size 56 i0 (.agg #[.int .i64 0, .int .i64 0, .int .i64 0, .int .i64 0, .int .i64 0]) 5 40 Tryd.underlying23 hi0 hz0 hz1 hz2 rfl (by decide) _ l4.length (flatS l4) rfl (hown8.alloc _) ⟨_, 0, none⟩ 1 1 (stpC ⟨0, y0, u, over, r⟩) rfl rfl (cell_five_new w8 ⟨0, y0, u, over, r⟩ _) (stpC_one ⟨0, y0, u, over, r⟩) (bndS hn4 (by decide)).1 (bndS hn4 (by decide)).2 (size_new hB8 _) ?_; intro v9 w9 hown9 hg9 _; have hB9 := grown_stp hB8 hown8 hg9; have hown9 := own_snoc HL5.out hown9; clear hg9 hown8 hB8; obtain ⟨a9, c9, rfl, hst9⟩ := stps_of hown9))
        go_roundw
        case rel => exact ⟨j, l5, _, rfl, by omega, rfl, hown9, by have := HI.out; omega, HL, hB9⟩
        case measure => have := HI.out; simp [intOf]; omega
      · have HL : Hid (Left g r over W D z (l ++ passL g r over (W (z + 1)) (W z) (g.n + newsN l))) := HF.out.pass hq
        rw [hx] at HL
        have hqb : ((W z : Int) != (over : Int)) = true := by simpa using (show (W z : Int) ≠ over by omega)
        have tP := fun w1 (k : Below w.heap.size w w1) => refPassed_any (HGr.out w1 k) ok cp (W z) (W (z + 1)) over r (g.n + x) (HLt.out z (by omega)) (HLt.out (z + 1) (by omega))
        have p1 := passL_len g r over (W (z + 1)) (W z) (g.n + x)
        have p2 := passL_pos g r over (W (z + 1)) (W z) (g.n + x)
        have d0 := HCe.out wr z hB1 (by omega)
        have d1 := HCe.out wr (z + 1) hB1 (by omega)
        have HX := Hid.mkI hx
        obtain ⟨P, hP⟩ : ∃ P, passL g r over (W (z + 1)) (W z) (g.n + x) = P := ⟨_, rfl⟩
        rw [hP] at tP p1 p2 HL
        obtain ⟨l', hl'⟩ : ∃ l', l ++ P = l' := ⟨_, rfl⟩
        rw [hl'] at HL
        have HL1 := Hid.mkI hl'
        have hll : l'.length ≤ l.length + 4 := by rw [← hl', List.length_append]; omega
        obtain ⟨y1, hy1⟩ : ∃ y, W (z + 1) = y := ⟨_, rfl⟩
        obtain ⟨y0, hy0⟩ : ∃ y, W z = y := ⟨_, rfl⟩
        rw [hy1] at tP d1
        rw [hy0] at tP d0 hqb
        clear hP hy1 hy0 hq HF hx hl'
        obtain ⟨vt, hvt⟩ : ∃ v, g.n + x = v := ⟨_, rfl⟩
        rw [hvt] at tP
        obtain ⟨i, hiz⟩ : ∃ i, z + 1 = i := ⟨_, rfl⟩
        rw [hiz] at d1
        have HI := Hid.mkI hiz
        rw [show ((z + 1 : Nat) : Int) = (i : Int) by omega]
        have b1 : (i : Int) < (D : Int) + 1 := by omega
        have b2 : (z : Int) < (D : Int) + 1 := by omega
        have b3 : (0 : Int) < (i : Int) := by omega
        have hvt20 : vt ≤ 240 := by rw [← hvt]; omega
        have s3 : (i : Int) - 1 = (z : Int) := by rw [← hiz]; simp
        obtain ⟨s1, s2⟩ := wrap_eq s3 (by omega)
        have q3 : (g.n : Int) + (x : Int) = (vt : Int) := by rw [← hvt]; simp
        obtain ⟨q1, q2⟩ := wrap_eq q3 (by omega)
        clear hvt hiz
        go_wp2
        clear s3 q3
        have hB1 : Below w.heap.size w wr.drew := hB1.drew
        have hownd : wr.drew.ownsRow w.heap.size 56 5 _ l.length (flatS l) := hown1
        have hstd : AtStps wr.drew _ l.length (nthS l) := hst1.below (below_drawn (Below.refl _ wr) 1)
        have d0 : wr.drew.cell? ⟨gb, z, none⟩ = some (.int .i64 (y0 : Nat)) := d0
        have d1 : wr.drew.cell? ⟨gb, i, none⟩ = some (.int .i64 (y1 : Nat)) := d1
        have tN := newsC hstd (scp := c1) (Nat.lt_of_le_of_lt hl220 (by decide)) HX.out
        have tP := tP wr.drew hB1
        first | (go_region_held3 (fun w' => w'.cell? ⟨gb, z, none⟩ = some (.int .i64 (y0 : Nat)) ∧ w'.cell? ⟨gb, i, none⟩ = some (.int .i64 (y1 : Nat))) ((go_split_ands; refine ⟨?_, ?_⟩ <;> (with_reducible assumption))) (first | (go_at_call 34; (with_reducible refine tN.mono ?_); rintro e w' ⟨rfl, hw⟩; obtain rfl := hw.symm) | (go_at_call 33; (with_reducible refine tP.mono ?_); rintro e w2 ⟨v2, rfl, hp, hk⟩; have hown2 := ownsRow_stays hownd hk; have hB2 := hB1.trans (hk.mono hB1.size); have d02 := keep_cell hk d0; have d12 := keep_cell hk d1; obtain ⟨g2, c2, rfl⟩ := row_someK hp p2) | ((refine step_append_lies _ (by rfl) _ _ _ (by rfl) w.heap.size 56 i0 _ 5 40 Tryd.underlying23 hi0 hz0 hz1 hz2 rfl (by decide) _ l.length (flatS l) (by rfl) hown2 ⟨g2, 0, none⟩ P.length c2 (flatS P) (by rfl) (flatS_len _) (row_cellsK hp) (flatS_one _) p2 (bndS hl220 p1).1 (bndS hl220 p1).2 hB2.size _ rfl ?_; intro g3 c3 w3 hown3 hg3 _ _; have hB3 := hB2.grown hg3 hB2.size (fun k hk => (hown2.lt k hk).1); rw [cat_len HL1.out] at hown3 ⊢; rw [← flatS_app, HL1.out] at hown3; have hst3 := stps_here hown3; have d03 : w3.cell? ⟨gb, z, none⟩ = some (.int .i64 (y0 : Nat)) := (hg3.cell_far ⟨gb, z, none⟩ (World.block_lt_of_cell? _ _ d02) (row_apart hown2 HGb.out)).trans d02; have d13 : w3.cell? ⟨gb, i, none⟩ = some (.int .i64 (y1 : Nat)) := (hg3.cell_far ⟨gb, i, none⟩ (World.block_lt_of_cell? _ _ d12) (row_apart hown2 HGb.out)).trans d12)))) | fail
        clear hownd hstd hB1 hown1 hst1 tN tP hg3 hown2 hB2 hp hk d0 d02 d1 d12
        go_wp2
        go_roundw
        case rel => exact ⟨z, l', _, rfl, by omega, rfl, hown3, by omega, HL, hB3⟩
        case measure => have := HI.out; simp [intOf]; omega
end
end Go.Proofs.YtcddbjmockpoiaaDoor
