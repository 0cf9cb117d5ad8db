/- Plain facts on what asks come to. -/
import Derived.Test.YteheaeihoameeaaDoorBellAny
import Derived.Test.YteheaeihoameeaaDoorBellRow
namespace Go.Proofs.YteheaeihoameeaaDoor

/-- Labels and numbers stay as they are. -/
structure Alike (s s' : BellSt) : Prop where
  nu : s'.nu = s.nu
  nf : s'.nf = s.nf
  ul : s'.ul = s.ul
  us : s'.us = s.us
  fl : s'.fl = s.fl
  fs : s'.fs = s.fs
theorem Alike.refl (s : BellSt) : Alike s s := ⟨rfl, rfl, rfl, rfl, rfl, rfl⟩
theorem Alike.trans {a b c : BellSt} (h : Alike a b) (k : Alike b c) : Alike a c := ⟨k.nu.trans h.nu, k.nf.trans h.nf, k.ul.trans h.ul, k.us.trans h.us, k.fl.trans h.fl, k.fs.trans h.fs⟩
theorem askTo_alike (s : BellSt) (k u f t : Nat) : Alike s (askTo s k u f t).2 := by
  unfold askTo
  repeat' split
  all_goals exact ⟨rfl, rfl, rfl, rfl, rfl, rfl⟩
theorem askB_alike (s : BellSt) (k u f t : Int) : Alike s (askB s k u f t).2 := by
  unfold askB
  split
  · exact askTo_alike _ _ _ _ _
  · exact Alike.refl s
theorem upd_lt {f : Nat → Nat} {n b k v : Nat} (h : ∀ i, i < n → f i < b) (hv : v < b) : ∀ i, i < n → upd f k v i < b := by
  intro i hi
  unfold upd
  split
  · exact hv
  · exact h i hi
theorem less_lt {m x y : Nat} (h : x < 2 ^ m) : less x y < 2 ^ m := lt_of_bits fun j hj => by
  rw [less_bit, Bool.and_eq_true] at hj
  exact bit_lt h hj.1
theorem askTo_ok {s : BellSt} (ok : BellOk s) {k u f t : Nat} (hu : u < s.nu) (hf : f < s.nf) (ht : k = 3 → t < s.nf) (hk : k ≤ 3) : BellOk (askTo s k u f t).2 := by
  obtain ⟨a1, a2, a3, a4, a5, a6, a7, a8, a9⟩ := id ok
  unfold askTo
  split
  · split
    · exact ⟨a1, a2, a3, a4, upd_lt a5 (or_lt (a5 u hu) hf), a6, a7, a8, a9⟩
    · exact ok
  · split
    · split
      · exact ⟨a1, a2, a3, a4, a5, upd_lt a6 (or_lt (a6 u hu) hf), a7, a8, a9⟩
      · exact ok
    · split
      · exact ⟨a1, a2, a3, a4, upd_lt a5 (less_lt (a5 u hu)), upd_lt a6 (less_lt (a6 u hu)), a7, a8, a9⟩
      · split
        · exact ⟨a1, a2, a3, a4, a5, a6, a7, a8, upd_lt a9 (Nat.or_lt_two_pow (a9 t (ht (by omega))) (a9 f hf))⟩
        · exact ok
theorem askB_ok {s : BellSt} (ok : BellOk s) (k u f t : Int) : BellOk (askB s k u f t).2 := by
  unfold askB
  split
  · rename_i h
    obtain ⟨h1, h2, h3, h4⟩ := (askIn_iff _ _ _ _ _).1 h
    exact askTo_ok ok (by omega) (by omega) (fun e => by omega) (by omega)
  · exact ok

/-- Nothing flows down, and who reads is above. -/
structure Flow (s : BellSt) : Prop where
  rd : ∀ u f, u < s.nu → f < s.nf → (s.ur u).testBit f = true → belB (s.fl f) (s.fs f) (s.ul u) (s.us u) = true
  rw : ∀ u f g, u < s.nu → f < s.nf → g < s.nf → (s.ur u).testBit f = true → (s.uw u).testBit g = true → belB (s.fl f) (s.fs f) (s.fl g) (s.fs g) = true
  hd : ∀ f g, f < s.nf → g < s.nf → (s.fh f).testBit g = true → belB (s.fl g) (s.fs g) (s.fl f) (s.fs f) = true
  own : ∀ f, f < s.nf → (s.fh f).testBit f = true
theorem sub_self (a : Nat) : subB a a = true := (subB_iff _ _).2 fun _ h => h
theorem sub_trans {a b c : Nat} (h : subB a b = true) (k : subB b c = true) : subB a c = true := (subB_iff _ _).2 fun j hj => (subB_iff _ _).1 k j ((subB_iff _ _).1 h j hj)
theorem bel_iff (l1 s1 l2 s2 : Nat) : belB l1 s1 l2 s2 = true ↔ l1 ≤ l2 ∧ subB s1 s2 = true := by simp [belB]
theorem bel_self (l s : Nat) : belB l s l s = true := (bel_iff _ _ _ _).2 ⟨Nat.le_refl _, sub_self s⟩
theorem bel_trans {l1 s1 l2 s2 l3 s3 : Nat} (h : belB l1 s1 l2 s2 = true) (k : belB l2 s2 l3 s3 = true) : belB l1 s1 l3 s3 = true := by
  rw [bel_iff] at h k ⊢
  exact ⟨Nat.le_trans h.1 k.1, sub_trans h.2 k.2⟩
theorem flow_new (n m : Nat) (z y : Nat → Int × Int) : Flow (newSt n m z y) := by
  refine ⟨fun u f _ _ h => ?_, fun u f g _ _ _ h => ?_, fun f g _ _ h => ?_, fun f _ => ?_⟩
  · simp [newSt] at h
  · simp [newSt] at h
  · simp only [newSt, Nat.testBit_two_pow, decide_eq_true_eq] at h
    subst h
    exact bel_self _ _
  · simp [newSt]
theorem flow_to {s : BellSt} (h : Flow s) {k u f t : Nat} (hu : u < s.nu) (hf : f < s.nf) (ht : k = 3 → t < s.nf) (hk : k ≤ 3) : Flow (askTo s k u f t).2 := by
  unfold askTo
  split
  · split
    · rename_i hm
      obtain ⟨m1, m2⟩ := Bool.and_eq_true_iff.1 hm
      refine ⟨fun u' f' h1 h2 h3 => ?_, fun u' f' g h1 h2 h3 h4 h5 => ?_, h.hd, h.own⟩
      · by_cases e : u' = u
        · subst e
          simp only [upd_same] at h3
          rcases (or_bit _ _ _).1 h3 with h3 | rfl
          · exact h.rd _ _ h1 h2 h3
          · exact m1
        · simp only [upd_other _ e] at h3
          exact h.rd _ _ h1 h2 h3
      · by_cases e : u' = u
        · subst e
          simp only [upd_same] at h4
          rcases (or_bit _ _ _).1 h4 with h4 | rfl
          · exact h.rw _ _ _ h1 h2 h3 h4 h5
          · exact (allB_iff _ _ _).1 m2 g h3 h5
        · simp only [upd_other _ e] at h4
          exact h.rw _ _ _ h1 h2 h3 h4 h5
    · exact h
  · split
    · split
      · rename_i hm
        refine ⟨h.rd, fun u' f' g h1 h2 h3 h4 h5 => ?_, h.hd, h.own⟩
        by_cases e : u' = u
        · subst e
          simp only [upd_same] at h5
          rcases (or_bit _ _ _).1 h5 with h5 | rfl
          · exact h.rw _ _ _ h1 h2 h3 h4 h5
          · exact (allB_iff _ _ _).1 hm f' h2 h4
        · simp only [upd_other _ e] at h5
          exact h.rw _ _ _ h1 h2 h3 h4 h5
      · exact h
    · split
      · have hl : ∀ (x : Nat → Nat) (u' g : Nat), (upd x u (less (x u) (2 ^ f)) u').testBit g = true → (x u').testBit g = true := fun x u' g q => by
          by_cases e : u' = u
          · subst e
            rw [upd_same, less_bit, Bool.and_eq_true] at q
            exact q.1
          · rwa [upd_other _ e] at q
        exact ⟨fun u' f' h1 h2 h3 => h.rd _ _ h1 h2 (hl _ _ _ h3), fun u' f' g h1 h2 h3 h4 h5 => h.rw _ _ _ h1 h2 h3 (hl _ _ _ h4) (hl _ _ _ h5), h.hd, h.own⟩
      · split
        · rename_i hm
          obtain ⟨m1, m2⟩ := Bool.and_eq_true_iff.1 hm
          have htn := ht (by omega)
          refine ⟨h.rd, h.rw, fun f' g h1 h2 h3 => ?_, fun f' h1 => ?_⟩
          · by_cases e : f' = t
            · subst e
              simp only [upd_same, Nat.testBit_or, Bool.or_eq_true] at h3
              rcases h3 with h3 | h3
              · exact h.hd _ _ h1 h2 h3
              · exact bel_trans (h.hd _ _ hf h2 h3) (h.rw u f f' hu hf h1 m1 m2)
            · simp only [upd_other _ e] at h3
              exact h.hd _ _ h1 h2 h3
          · by_cases e : f' = t
            · subst e
              simp only [upd_same, Nat.testBit_or, h.own f' h1, Bool.true_or]
            · simp only [upd_other _ e]
              exact h.own f' h1
        · exact h
theorem flow_ask {s : BellSt} (h : Flow s) (k u f t : Int) : Flow (askB s k u f t).2 := by
  unfold askB
  split
  · rename_i hi
    obtain ⟨h1, h2, h3, h4⟩ := (askIn_iff _ _ _ _ _).1 hi
    exact flow_to h (by omega) (by omega) (fun e => by omega) (by omega)
  · exact h
end Go.Proofs.YteheaeihoameeaaDoor
