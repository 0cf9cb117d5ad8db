/- The document's path to one who has the right (GrantPath). -/
import Derived.WalkKit
import Derived.LoopTactic
import Derived.OwnWalk
import Derived.Deep.RegionHeld3
import Derived.Deep.AppendLies
import Derived.Maps.AppendAt
import Derived.Test.YtoecomgiggalkaaDoorGraG
import Derived.Test.YtoecomgiggalkaaDoorGraU
namespace Go.Proofs.YtoecomgiggalkaaDoor
open Go.RowKit
set_option maxRecDepth 100000

theorem gOwnLow {w : World} {B B' e k n : Nat} {v : Value} {xs : List Value} (h : w.ownsRow B e k v n xs) (hb : B' ≤ B) : w.ownsRow B' e k v n xs := by
  obtain ⟨h0, h | ⟨g, cap, cur, hv, hB, r⟩⟩ := h
  · exact ⟨h0, .inl h⟩
  · exact ⟨h0, .inr ⟨g, cap, cur, hv, Nat.le_trans hb hB, r⟩⟩
theorem rowQ_one (q : List Int) : ∀ u ∈ rowQ q, u.oneCell' = true := by
  intro u hu
  unfold rowQ rowI at hu
  obtain ⟨i, _, rfl⟩ := List.mem_map.1 hu
  rfl
theorem gcellsK {w : World} {base e k n g cp : Nat} {xs : List Value} (h : w.ownsRow base e k (.slice (some ⟨g, 0, none⟩) n cp) n xs) : ∀ j u, xs[j]? = some u → w.cell? ((⟨g, 0, none⟩ : Addr).add j) = some u := fun j u hu => h.cells (g := g) rfl j u hu
theorem gone_cell {w : World} {g : Nat} {x : Int} (h : w.cell? ⟨g, 0, none⟩ = some (.int .i64 x)) : ∀ j u, [Value.int .i64 x][j]? = some u → w.cell? ((⟨g, 0, none⟩ : Addr).add j) = some u := fun j u hu => by
  cases j with
  | zero =>
    simp only [List.getElem?_cons_zero, Option.some.injEq] at hu
    subst hu
    exact h
  | succ j => simp at hu
/-- None: the document's path of one who has not the right. -/
theorem refPathNone_any (a : Option Addr) (n cap : Nat) (l : List Giv) (hn : l.length = n) (hn40 : n ≤ 40) (u : Int) (hu : u ≠ 0) (hno : ∀ i, i < l.length → (nthV l i).to ≠ u) (w : World) (h : AtGivs w a n (nthV l)) :
    Calls Tryd.prog 12 #[.slice a n cap, .int .i64 u] w fun e w' => e = .returned (.slice none 0 0) ∧ w' = w := by
  have HNo := Hid.mkI hno
  have HN := Hid.mkI hn
  have huB : (u == 0) = false := by simp [hu]
  clear hno hn
  go_enter Tryd.func12, Tryd.ntmps12
  go_wp2
  go_loop [5] (fun p => ∃ k : Nat, k ≤ n ∧ p = .int .i64 k) (fun p => n - (intOf p).toNat)
  case atStart => exact ⟨0, by omega, rfl⟩
  case round =>
    obtain ⟨k, hk, rfl⟩ := hrel
    by_cases hlt : k < n
    · obtain ⟨b, off, rfl, hs⟩ : ∃ b off, a = some ⟨b, off, none⟩ ∧ Givs w b off n (nthV l) := by
        rcases h with h0 | h
        · omega
        · exact h
      have hltI : (k : Int) < (n : Int) := by omega
      have c1 := hs.c1 k hlt
      have hne : ((nthV l k).to == u) = false := by have := HNo.out k (by rw [HN.out]; exact hlt); simpa using this
      obtain ⟨to, hto⟩ : ∃ y, (nthV l k).to = y := ⟨_, rfl⟩
      rw [hto] at c1 hne
      clear hs h hto
      go_wp2
      go_round
      case rel => exact ⟨k + 1, by omega, by go_num⟩
      case measure => simp [intOf]; omega
    · have hge : (n : Int) ≤ (k : Int) := by omega
      go_wp2
      go_ret
      exact ⟨rfl, rfl⟩
set_option maxHeartbeats 4000000 in
theorem refPath_any (users : Int) (l : List Giv) (hr : GOk users l) : ∀ (fu m : Nat) (u : Int) (a : Option Addr) (cap : Nat) (w : World), fu ≤ 40 → m ≤ fu → m ≤ l.length → m ≤ cap → 0 ≤ u → (setL (l.take m)).testBit u.toNat = true → AtGivs w a m (nthV l) →
    Calls Tryd.prog 12 #[.slice a m cap, .int .i64 u] w fun e w' => ∃ v, e = .returned v ∧ w'.ownsRow w.heap.size 3 1 v (dnG l fu m u).reverse.length (rowQ (dnG l fu m u).reverse) ∧ Below w.heap.size w w' := by
  have zero : ∀ (fu m : Nat) (a : Option Addr) (cap : Nat) (w : World), Calls Tryd.prog 12 #[.slice a m cap, .int .i64 0] w fun e w' => ∃ v, e = .returned v ∧ w'.ownsRow w.heap.size 3 1 v (dnG l fu m 0).reverse.length (rowQ (dnG l fu m 0).reverse) ∧ Below w.heap.size w w' := by
    intro fu m a cap w
    rw [dnG_zero]
    have hrow := rowZ_new w 0
    have hB : Below w.heap.size w (w.alloc (.cells #[.int .i64 0] 3)) := (Below.refl _ w).alloc (Nat.le_refl _) _
    have HR := Hid.mkI hrow
    clear hrow
    go_enter Tryd.func12, Tryd.ntmps12
    go_wp2
    go_ret
    exact ⟨_, rfl, HR.out, hB⟩
  intro fu
  induction fu with
  | zero =>
    intro m u a cap w hfu h1 h2 h3 h0 hb hat
    obtain rfl : m = 0 := by omega
    by_cases hu : u = 0
    · subst hu; exact zero 0 0 a cap w
    · have := has_idx hr h0 hu hb; omega
  | succ fu ih =>
    intro m u a cap w hfu h1 h2 h3 h0 hb hat
    by_cases hu : u = 0
    · subst hu; exact zero _ m a cap w
    · obtain ⟨i1, i2, i3⟩ := has_idx hr h0 hu hb
      have hnot : ∀ i, i < idxG l m u → (nthV l i).to ≠ u := fun i hi => idxG_not hi
      have hn := hr.each _ i2
      have hm40 : m ≤ 40 := by have := hr.len; omega
      rw [dnG_step hu, List.reverse_cons]
      obtain ⟨j, hj⟩ : ∃ j, idxG l m u = j := ⟨_, rfl⟩
      rw [hj] at i1 i2 i3 hnot hn ⊢
      have tI := fun (a : Option Addr) (cap : Nat) (w : World) (h3 : j ≤ cap) (hat : AtGivs w a j (nthV l)) => ih j (nthV l j).fr a cap w (by omega) (by omega) (by omega) h3 hn.f0 hn.bit hat
      have HP : Hid (0 < (dnG l fu j (nthV l j).fr).reverse.length ∧ (dnG l fu j (nthV l j).fr).reverse.length ≤ fu + 1) := by
        show _ ∧ _
        rw [List.length_reverse]
        exact ⟨dnG_pos _ _ _ _, dnG_len _ _ _ _⟩
      obtain ⟨b, off, rfl, hs⟩ : ∃ b off, a = some ⟨b, off, none⟩ ∧ Givs w b off m (nthV l) := by
        rcases hat with h | h
        · omega
        · exact h
      obtain ⟨fr, hfr⟩ : ∃ x, (nthV l j).fr = x := ⟨_, rfl⟩
      rw [hfr] at tI HP ⊢
      obtain ⟨Q, hQ⟩ : ∃ Q, (dnG l fu j fr).reverse = Q := ⟨_, rfl⟩
      rw [hQ] at tI HP ⊢
      have hq0 := HP.out.1
      have hq41 : Q.length ≤ 41 := by have := HP.out.2; omega
      have hatj : AtGivs w.drew (some ⟨b, off, none⟩) j (nthV l) := (AtGivs.mono (n := m) (.inr ⟨b, off, rfl, hs⟩) (by omega)).below (below_drawn (Below.refl _ w) 1)
      have hatw : AtGivs w (some ⟨b, off, none⟩) j (nthV l) := AtGivs.mono (n := m) (.inr ⟨b, off, rfl, hs⟩) (by omega)
      have hbel1 : Below w.heap.size w ((w.alloc (.cells #[.int .i64 u] 3)).drew) := ((Below.refl _ w).alloc (Nat.le_refl _) _).drew
      have tA := tI (some ⟨b, off, none⟩) cap w.drew (by omega) hatj
      have tB := tI (some ⟨b, off, none⟩) cap ((w.alloc (.cells #[.int .i64 u] 3)).drew) (by omega) (hatw.below hbel1)
      have d0w : w.cell? ⟨b, off + j * 3, none⟩ = some (.int .i64 fr) := by have := hs.c0 j i1; rw [hfr] at this; exact this
      have d0 : w.drew.cell? ⟨b, off + j * 3, none⟩ = some (.int .i64 fr) := d0w
      have d0b : ((w.alloc (.cells #[.int .i64 u] 3)).drew).cell? ⟨b, off + j * 3, none⟩ = some (.int .i64 fr) := keep_cell hbel1 d0w
      have u0b : ((w.alloc (.cells #[.int .i64 u] 3)).drew).cell? ⟨w.heap.size, 0, none⟩ = some (.int .i64 u) := by
        have h := World.alloc_heap_new w (.cells #[.int .i64 u] 3)
        show (w.alloc (.cells #[.int .i64 u] 3)).cell? ⟨w.heap.size, 0, none⟩ = _
        simp only [World.cell?]
        rw [h]
        simp
      have hBw0 : Below w.heap.size w w.drew := below_drawn (Below.refl _ w) 1
      have hBw1 := hbel1
      have hone : ∀ v ∈ [Value.int .i64 u], v.oneCell' = true := by intro v hv; rw [List.mem_singleton.1 hv]; rfl
      have hql : Q.length + 1 ≤ maxLen := by unfold maxLen; omega
      have hqb : (Q.length + 1) * 8 ≤ 140737488355328 := by omega
      have huB : (u == 0) = false := by simp [hu]
      have hjc : (j : Int) ≤ (cap : Int) := by omega
      have hjm : (j : Int) < (m : Int) := by omega
      have HNot := Hid.mkI hnot
      have H3 := Hid.mkI i3
      have HS := Hid.mkI hs
      have hbw := hs.old
      have HDe : Hid ((Q ++ [u]).length = Q.length + 1) := by show _ = _; rw [List.length_append]; rfl
      obtain ⟨i0, hi0, hz0, hz1, hz2⟩ := info_parts info3i
      clear hnot i2 i3 hs hat hatj hatw d0w tI hQ hfr HP hb h0 ih zero hu hn hj hbel1
      go_enter Tryd.func12, Tryd.ntmps12
      go_wp2
      go_loop [5] (fun p => ∃ k : Nat, k ≤ j ∧ p = .int .i64 k) (fun p => j + 1 - (intOf p).toNat)
      case atStart => exact ⟨0, by omega, rfl⟩
      case round =>
        obtain ⟨k, hk, rfl⟩ := hrel
        have hkm : k < m := by omega
        have hkI : (k : Int) < (m : Int) := by omega
        have c1 := HS.out.c1 k hkm
        by_cases q : k = j
        · subst q
          have hb1 : ((nthV l k).to == u) = true := by have := H3.out; simpa using this
          obtain ⟨to, hto⟩ : ∃ y, (nthV l k).to = y := ⟨_, rfl⟩
          rw [hto] at c1 hb1
          clear hto HNot H3 HS
          go_wp2_with fail
          first | (go_region_held3 (fun w' => w'.cell? ⟨b, off + k * 3, none⟩ = some (.int .i64 fr)) (with_reducible assumption) (first
            | (go_at_call 12; (with_reducible refine tA.mono ?_); rintro e w2 ⟨v2, rfl, hp, hk2⟩; have hB2 := hBw0.trans hk2; have d2 := keep_cell hk2 d0; have d3 := keep_cell ((Below.refl _ w2).alloc (Nat.le_refl _) (.cells #[.int .i64 u] 3)) d2; have hlow := gOwnLow hp (Nat.le_refl w.heap.size); obtain ⟨g2, c2, rfl⟩ := grow_someK hp hq0)
            | (go_at_call 12; (with_reducible refine tB.mono ?_); rintro e w2 ⟨v2, rfl, hp, hk2⟩; have hB2 := hBw1.trans (hk2.mono hBw1.size); have d2 := keep_cell hk2 d0b; have u2 := keep_cell hk2 u0b; have hlow := gOwnLow hp hBw1.size; obtain ⟨g2, c2, rfl⟩ := grow_someK hp hq0)
            | ((refine step_append_lies _ (by rfl) _ _ _ (by rfl) w.heap.size 3 i0 _ 1 8 Tryd.underlying31 hi0 hz0 hz1 hz2 rfl (by decide) _ Q.length (rowQ Q) (by rfl) hlow ⟨w.heap.size, 0, none⟩ 1 1 [.int .i64 u] (by rfl) rfl (gone_cell u2) hone (by decide) hql hqb hB2.size _ rfl ?_; intro g3 c3 w3 hown3 hg3 _ _; have hB3 := hB2.grown hg3 hB2.size (fun k hk => (hlow.lt k hk).1); have d4 : w3.cell? ⟨b, off + k * 3, none⟩ = some (.int .i64 fr) := (hg3.cell_far ⟨b, off + k * 3, none⟩ (World.block_lt_of_cell? _ _ d2) (row_apart hlow hbw)).trans d2; rw [rowQ_snoc] at hown3))
            | ((refine step_append_lies _ (by rfl) _ _ _ (by rfl) w.heap.size 3 i0 _ 1 8 Tryd.underlying31 hi0 hz0 hz1 hz2 rfl (by decide) _ Q.length (rowQ Q) (by rfl) (hlow.alloc _) ⟨w2.heap.size, 0, none⟩ 1 1 [.int .i64 u] (by rfl) rfl (cell_one_new _ _ _) hone (by decide) hql hqb (hB2.alloc hB2.size _).size _ rfl ?_; intro g3 c3 w3 hown3 hg3 _ _; have hB3 := (hB2.alloc hB2.size _).grown hg3 (hB2.alloc hB2.size _).size (fun k hk => (hlow.lt k hk).1); have d4 : w3.cell? ⟨b, off + k * 3, none⟩ = some (.int .i64 fr) := (hg3.cell_far ⟨b, off + k * 3, none⟩ (World.block_lt_of_cell? _ _ d3) (row_apart hlow hbw)).trans d3; rw [rowQ_snoc] at hown3)))) | fail
          all_goals
            go_wp2
            go_ret
            exact ⟨_, rfl, by rw [HDe.out]; exact hown3, hB3⟩
        · have hb1 : ((nthV l k).to == u) = false := by have := HNot.out k (by omega); simpa using this
          obtain ⟨to, hto⟩ : ∃ y, (nthV l k).to = y := ⟨_, rfl⟩
          rw [hto] at c1 hb1
          clear hto tA tB d0 d0b u0b
          go_wp2
          go_round
          case rel => exact ⟨k + 1, by omega, by go_num⟩
          case measure => simp [intOf]; omega
end Go.Proofs.YtoecomgiggalkaaDoor
