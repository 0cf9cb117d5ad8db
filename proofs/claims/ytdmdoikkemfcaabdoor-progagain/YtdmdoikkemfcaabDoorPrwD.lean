/- Write: what any program's text is, or what is wrong. -/
import Derived.WalkKit
import Derived.LoopTactic
import Derived.OwnWalk
import Derived.Laws.Strings
import Derived.Laws.Strings2
import Derived.Test.YtdmdoikkemfcaabDoorPrwC
namespace Go.Proofs.YtdmdoikkemfcaabDoor
open Go.RowKit
set_option maxRecDepth 100000
set_option linter.unusedVariables false

set_option maxHeartbeats 2000000 in
theorem bget_nil {B X : Nat} {pv A : Value} {w : World} (h : WrB B X [] pv A (.slice none 0 0) w) :
    Calls Tryd.prog 22 #[wrP X] w fun e w' => e = .returned (.string ⟨#[]⟩) ∧ Below B w w' := by
  have hUS := fun W (q : Option Addr) => Lib.run_unsafeString_none (P := Tryd.prog) W 76 3 9 q
  have c1 : w.drew.cell? ⟨X, 1, none⟩ = some (.slice none 0 0) := h.c1
  have hSD : (Builtin.unsafeSliceData_ #[52] 76 #[.slice none 0 0]).run Tryd.prog w.drew = .ok (.pointer none) w.drew := rfl
  have mixed : Tryd.prog.follows .mixedOrders = true := by kernel_rfl
  clear h
  go_enter Tryd.func22, Tryd.ntmps22
  go_wp2
  go_region_o
  all_goals (go_wp2; go_ret; exact ⟨rfl, Below.drew (Below.refl B w)⟩)
set_option maxHeartbeats 2000000 in
theorem bget_noroom {B X g : Nat} {pv A : Value} {cur : Array Value} {w : World} (h : WrB B X [] pv A (.slice (some ⟨g, 0, none⟩) 0 0) w) (hg : w.heap[g]? = some (.cells cur 5 (0, 0))) :
    Calls Tryd.prog 22 #[wrP X] w fun e w' => e = .returned (.string ⟨#[]⟩) ∧ Below B w w' := by
  have hUS := fun W (q : Option Addr) => Lib.run_unsafeString_none (P := Tryd.prog) W 76 3 9 q
  have hlt := h.hi
  have hBw := h.sz
  have hbk := h.blk
  have c1 : w.drew.cell? ⟨X, 1, none⟩ = some (.slice (some ⟨g, 0, none⟩) 0 0) := h.c1
  have hSD : (Builtin.unsafeSliceData_ #[52] 76 #[.slice (some ⟨g, 0, none⟩) 0 0]).run Tryd.prog w.drew = .ok (.pointer (some ⟨w.drew.heap.size, 0, none⟩)) (w.drew.alloc (.view ⟨g, 0, none⟩ 5)) :=
    Lib.run_unsafeSliceData_zero w.drew _ _ 5 Tryd.underlying76 ⟨g, 0, none⟩ 0 (5, cur.size) (by have hg' : w.drew.heap[g]? = some (.cells cur 5 (0, 0)) := hg; simp [World.shape?, hg'])
  have c2 : (w.drew.alloc (.view ⟨g, 0, none⟩ 5)).cell? ⟨X, 1, none⟩ = some (.slice (some ⟨g, 0, none⟩) 0 0) := by
    have : (w.drew.alloc (.view ⟨g, 0, none⟩ 5)).heap[X]? = _ := (Lib.alloc_old w.drew _ X hlt).trans hbk
    rw [Lib.cell_of_heap this]; rfl
  have c3 : (w.alloc (.view ⟨g, 0, none⟩ 5)).drew.cell? ⟨X, 1, none⟩ = some (.slice (some ⟨g, 0, none⟩) 0 0) := c2
  have c0 : w.cell? ⟨X, 1, none⟩ = some (.slice (some ⟨g, 0, none⟩) 0 0) := c1
  have mixed : Tryd.prog.follows .mixedOrders = true := by kernel_rfl
  clear h hbk
  go_enter Tryd.func22, Tryd.ntmps22
  go_wp2
  go_region_o
  all_goals (go_wp2; go_ret; exact ⟨rfl, (Below.drew (Below.refl B w)).alloc hBw _⟩)
set_option maxHeartbeats 2000000 in
theorem bget_room {B X g cap : Nat} {pv A : Value} {w : World} (hc0 : cap ≠ 0) (h : WrB B X [] pv A (.slice (some ⟨g, 0, none⟩) 0 cap) w) :
    Calls Tryd.prog 22 #[wrP X] w fun e w' => e = .returned (.string ⟨#[]⟩) ∧ Below B w w' := by
  have hUS := fun W (q : Option Addr) => Lib.run_unsafeString_none (P := Tryd.prog) W 76 3 9 q
  have c1 : w.drew.cell? ⟨X, 1, none⟩ = some (.slice (some ⟨g, 0, none⟩) 0 cap) := h.c1
  have hSD : (Builtin.unsafeSliceData_ #[52] 76 #[.slice (some ⟨g, 0, none⟩) 0 cap]).run Tryd.prog w.drew = .ok (.pointer (some ⟨g, 0, none⟩)) w.drew :=
    Lib.run_unsafeSliceData_row _ _ _ _ _ _ hc0
  have mixed : Tryd.prog.follows .mixedOrders = true := by kernel_rfl
  clear hc0 h
  go_enter Tryd.func22, Tryd.ntmps22
  go_wp2
  go_region_o
  all_goals (go_wp2; go_ret; exact ⟨rfl, Below.drew (Below.refl B w)⟩)
theorem bget_any {B X : Nat} {t : List Nat} {pv : Value} {w : World} (h : WrA B X t pv w) :
    Calls Tryd.prog 22 #[wrP X] w fun e w' => e = .returned (.string (strB t)) ∧ Below B w w' := by
  by_cases h0 : t = []
  · subst h0
    rw [strB_nil]
    obtain ⟨A, v, -, h⟩ := h
    rcases h.own.2 with ⟨hv, _⟩ | ⟨g, cap, cur, hv, hb, hg, _⟩
    · subst hv; exact bget_nil h
    · subst hv
      by_cases hc : cap = 0
      · subst hc; exact bget_noroom h hg
      · exact bget_room hc h
  · exact bget_some h0 h
theorem wrA_new (B : Nat) (w : World) (hB : B = w.heap.size) (pv : Value) : WrA B w.heap.size [] pv (w.alloc (.cells #[.pointer none, .slice none 0 0, pv] 56)) :=
  ⟨_, _, .inl rfl, by omega, World.alloc_heap_new w _, World.ownsRow_nil _ _ _ _, by simp [Value.ownBlock], by simp⟩
/-- What Write answers. -/
def WriteV (w : World) (l : List Nod) (E : Ending) (w' : World) : Prop :=
  Below w.heap.size w w' ∧ E = .returned (if proC l ≠ 0 then .tuple #[.string ⟨#[]⟩, errV (proC l)] else if 300 < (txN l (lstI l)).length then .tuple #[.string ⟨#[]⟩, errV 4] else .tuple #[.string (strB (txN l (lstI l))), .nilIface])
theorem write_bad (l : List Nod) (a : Option Addr) (cp : Nat) (w : World) (hat : AtNods w a l.length (nthD l)) (hc : proC l ≠ 0) :
    Calls Tryd.prog 11 #[.slice a l.length cp] w fun E w' => WriteV w l E w' := by
  have tC := wcheck_any l a cp w hat
  unfold WriteV
  simp only [if_pos hc]
  obtain ⟨c, hc2⟩ : ∃ c, proC l = c := ⟨_, rfl⟩
  rw [hc2] at tC hc ⊢
  have he : errV c = .iface 42 (.int .i64 c) := if_neg hc
  rw [he] at tC ⊢
  clear hat hc2 hc he
  go_enter Tryd.func11, Tryd.ntmps11
  go_wp2_with (go_at_call 19; (with_reducible refine tC.mono ?_); clear tC; rintro e w1 ⟨rfl, hB⟩)
  go_ret2
  exact ⟨hB, rfl⟩
theorem write_ok (l : List Nod) (a : Option Addr) (cp : Nat) (w : World) (hat : AtNods w a l.length (nthD l)) (hc : proC l = 0) (hL : LibT w.heap.size w) :
    Calls Tryd.prog 11 #[.slice a l.length cp] w fun E w' => WriteV w l E w' := by
  have hR := rightP_of hc
  have h80 := hR.few
  have h0 := hR.some
  have tC := wcheck_any l a cp w hat
  rw [hc, errV_zero] at tC
  obtain ⟨b, off, rfl, hs⟩ : ∃ b off, a = some ⟨b, off, none⟩ ∧ Nods w b off l.length (nthD l) := by
    rcases hat with h | h
    · omega
    · exact h
  obtain ⟨m, hm⟩ : ∃ m, l.length = m + 1 := ⟨l.length - 1, by omega⟩
  have hlst : lstI l = (m : Int) := by unfold lstI; omega
  have hshort := hR.short m (by omega)
  have tN := fun B X => node_any (B := B) (X := X) (b := b) (off := off) (cp := cp) hR (m + 1) m (by omega) (by omega) [] (by simp; omega)
  unfold WriteV
  simp only [hc, hlst]
  rw [if_neg (by simp)]
  obtain ⟨t, ht⟩ : ∃ t, txN l (m : Int) = t := ⟨_, rfl⟩
  rw [ht] at hshort tN ⊢
  rw [List.nil_append] at tN
  obtain ⟨n, hn⟩ : ∃ n, l.length = n := ⟨_, rfl⟩
  rw [hn] at tC tN hs hm h80 ⊢
  have hn80 : (n : Int) ≤ 80 := by omega
  have s1 : (n : Int) - 1 = (m : Int) := by omega
  have hC : ∀ w1, Below w.heap.size w w1 → Ctx w1.heap.size b off n (nthD l) w1 := fun w1 k => ⟨hs.below k, Nat.lt_of_lt_of_le hs.old k.size, (hL.on k).up k.size⟩
  obtain ⟨tl, htl⟩ : ∃ tl, t.length = tl := ⟨_, rfl⟩
  have tG : ∀ {B X : Nat} {w' : World}, WrA B X t (.slice (some ⟨b, off, none⟩) n cp) w' → _ := fun {B X w'} h => bget_any h
  have tL : ∀ {B X : Nat} {w' : World}, WrA B X t (.slice (some ⟨b, off, none⟩) n cp) w' → _ := fun {B X w'} h => blen_any h
  rw [htl] at tL hshort ⊢
  obtain ⟨y, hy⟩ : ∃ y, strB t = y := ⟨_, rfl⟩
  rw [hy] at tG ⊢
  clear ht hn hR hs hat hm h0 hc hL hlst htl hy
  by_cases h3 : 300 < tl
  · rw [if_pos h3]
    have h3I : (300 : Int) < (tl : Int) := by omega
    go_enter Tryd.func11, Tryd.ntmps11
    go_wp2_with (first | (go_at_call 19; (with_reducible refine tC.mono ?_); clear tC; rintro e w1 ⟨rfl, hB1⟩; have hC1 := hC w1 hB1; have hAl := (Below.refl w1.heap.size w1).alloc (Nat.le_refl _) (.cells #[.pointer none, .slice none 0 0, .slice (some ⟨b, off, none⟩) n cp] 56); have hW1 := wrA_new w1.heap.size w1 rfl (.slice (some ⟨b, off, none⟩) n cp); have hC2 := hC1.on hAl; have hX2 := hB1.trans (hAl.mono hB1.size); clear hC hC1 hAl) | (go_at_call 20; refine (tN _ _ _ hW1 hC2).mono ?_; clear tN; rintro e w3 ⟨⟨v3, rfl⟩, hW3, hB3, hG3⟩; have hX3 := hX2.trans (hB3.mono hB1.size); clear hW1 hC2 hX2) | (go_at_call 21; refine (tL hW3).mono ?_; clear tL; rintro e w4 ⟨rfl, hw⟩; obtain rfl := hw.symm) | (go_at_call 22; refine (tG hW3).mono ?_; clear tG; rintro e w5 ⟨rfl, hB5⟩; have hX5 := hX3.trans (hB5.mono hB1.size)))
    go_ret2
    exact ⟨hX3, rfl⟩
  · rw [if_neg h3]
    have h3I : ¬ (300 : Int) < (tl : Int) := by omega
    go_enter Tryd.func11, Tryd.ntmps11
    go_wp2_with (first | (go_at_call 19; (with_reducible refine tC.mono ?_); clear tC; rintro e w1 ⟨rfl, hB1⟩; have hC1 := hC w1 hB1; have hAl := (Below.refl w1.heap.size w1).alloc (Nat.le_refl _) (.cells #[.pointer none, .slice none 0 0, .slice (some ⟨b, off, none⟩) n cp] 56); have hW1 := wrA_new w1.heap.size w1 rfl (.slice (some ⟨b, off, none⟩) n cp); have hC2 := hC1.on hAl; have hX2 := hB1.trans (hAl.mono hB1.size); clear hC hC1 hAl) | (go_at_call 20; refine (tN _ _ _ hW1 hC2).mono ?_; clear tN; rintro e w3 ⟨⟨v3, rfl⟩, hW3, hB3, hG3⟩; have hX3 := hX2.trans (hB3.mono hB1.size); clear hW1 hC2 hX2) | (go_at_call 21; refine (tL hW3).mono ?_; clear tL; rintro e w4 ⟨rfl, hw⟩; obtain rfl := hw.symm) | (go_at_call 22; refine (tG hW3).mono ?_; clear tG; rintro e w5 ⟨rfl, hB5⟩; have hX5 := hX3.trans (hB5.mono hB1.size)))
    go_ret2
    exact ⟨hX5, rfl⟩
end Go.Proofs.YtdmdoikkemfcaabDoor
