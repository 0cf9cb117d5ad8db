/- What revoking tells (Revoke). -/
import Derived.WalkKit
import Derived.LoopTactic
import Derived.Test.YtoecomgiggalkaaDoorGraB
namespace Go.Proofs.YtoecomgiggalkaaDoor
open Go.RowKit
set_option maxRecDepth 100000

/-- The list that Revoke tells. -/
def RevV (w : World) (v : Value) (users : Int) (l : List Giv) (f t : Int) : Prop := (revC users l f t ≠ 0 ∧ v = .slice none 0 0) ∨ (revC users l f t = 0 ∧ GivV w v (revL f t l))
theorem RevV.below {w w' : World} {v : Value} {users : Int} {l : List Giv} {f t : Int} (h : RevV w v users l f t) (k : Below w.heap.size w w') : RevV w' v users l f t := h.imp id fun ⟨e, g⟩ => ⟨e, g.below k⟩
theorem revC_ok {users : Int} {l : List Giv} {f t : Int} (h : revC users l f t = 0) : GOk users l ∧ 0 ≤ f ∧ f < users ∧ 0 ≤ t ∧ t < users ∧ (outL f t l).length ≠ l.length := by
  unfold revC at h
  split at h
  · rename_i h0
    split at h
    · omega
    · split at h
      · omega
      · exact ⟨(givC_iff _ _).1 h0, by omega, by omega, by omega, by omega, by assumption⟩
  · rename_i h0; exact absurd h h0
set_option maxHeartbeats 2000000 in
theorem revoke_any (users : Int) (a : Option Addr) (cap : Nat) (l : List Giv) (f t : Int) (w : World) (h : AtGivs w a l.length (nthV l)) :
    Calls Tryd.prog 16 #[.int .i64 users, .slice a l.length cap, .int .i64 f, .int .i64 t] w fun e w' => ∃ v, e = .returned (.tuple #[v, errV (revC users l f t)]) ∧ RevV w' v users l f t ∧ Below w.heap.size w w' := by
  have t1 := gcheck_any users a cap l w h
  by_cases hc : givC users l = 0
  · have hok := (givC_iff _ _).1 hc
    have hl := hok.len
    have hmem := hok.mem
    have hu1 := hok.u1
    rw [hc, errV_zero] at t1
    have t2 := fun W => gIsUser_any users f W
    have t3 := fun W => gIsUser_any users t W
    have HC : Hid (revC users l f t = if f < 0 ∨ users ≤ f ∨ t < 0 ∨ users ≤ t then 1 else if (outL f t l).length = l.length then 5 else 0) := by show _ = _; rw [revC, if_pos hc]
    have HA := Hid.mkI h
    have t4 := fun w1 (hB : Below w.heap.size w w1) => without_any a cap l hl f t w1 (h.below hB)
    have bad : (f < 0 ∨ users ≤ f ∨ t < 0 ∨ users ≤ t) → revC users l f t = 1 := fun h => by rw [HC.out, if_pos h]
    clear h hc hok
    cases q1 : uB users f with
    | false =>
      have HE := Hid.mkI (bad (by have := (uB_not _ _).1 q1; omega))
      rw [q1] at t2
      clear q1 t3 t4 bad HC
      go_enter Tryd.func16, Tryd.ntmps16
      go_wp2_with (first | (go_at_call 9; refine t1.mono ?_; clear t1; rintro e w2 ⟨rfl, hB⟩) | (go_at_call 25; refine (t2 _).mono ?_; clear t2; rintro e w' ⟨rfl, hw⟩; obtain rfl := hw.symm))
      go_ret2
      exact ⟨_, by rw [HE.out]; rfl, .inl ⟨by rw [HE.out]; decide, rfl⟩, hB⟩
    | true =>
      rw [q1] at t2
      have p1 := (uB_iff _ _).1 q1
      cases q2 : uB users t with
      | false =>
        have HE := Hid.mkI (bad (by have := (uB_not _ _).1 q2; omega))
        rw [q2] at t3
        clear q1 q2 p1 t4 bad HC
        go_enter Tryd.func16, Tryd.ntmps16
        go_wp2_with (first | (go_at_call 9; refine t1.mono ?_; clear t1; rintro e w2 ⟨rfl, hB⟩) | (go_at_call 25; (with_reducible refine (t2 _).mono ?_); clear t2; rintro e w' ⟨rfl, hw⟩; obtain rfl := hw.symm) | (go_at_call 25; (with_reducible refine (t3 _).mono ?_); clear t3; rintro e w' ⟨rfl, hw⟩; obtain rfl := hw.symm))
        go_ret2
        exact ⟨_, by rw [HE.out]; rfl, .inl ⟨by rw [HE.out]; decide, rfl⟩, hB⟩
      | true =>
        rw [q2] at t3
        have p2 := (uB_iff _ _).1 q2
        have HC2 : Hid (revC users l f t = if (outL f t l).length = l.length then 5 else 0) := by show _ = _; rw [HC.out, if_neg (by omega)]
        have hle := outL_le f t l
        have t5 := fun w1 a1 c1 (h1 : AtGivs w1 a1 (outL f t l).length (nthV (outL f t l))) => founded_any a1 c1 (outL f t l) (by omega) (fun g hg => by have := hmem g (List.mem_filter.1 hg).1; omega) w1 h1
        have HV : Hid (fndL (outL f t l) = revL f t l) := rfl
        clear q1 q2 p1 p2 bad HC hmem hu1
        obtain ⟨m, hm⟩ : ∃ m, outL f t l = m := ⟨_, rfl⟩
        rw [hm] at t4 t5 HC2 hle HV
        obtain ⟨n, hn⟩ : ∃ n, l.length = n := ⟨_, rfl⟩
        rw [hn] at HC2 t1 t4 hle ⊢
        clear hm hn
        go_enter Tryd.func16, Tryd.ntmps16
        go_wp2_with (first | (go_at_call 9; refine t1.mono ?_; clear t1; rintro e w2 ⟨rfl, hB⟩; have t4 := t4 w2 hB) | (go_at_call 25; (with_reducible refine (t2 _).mono ?_); clear t2; rintro e w' ⟨rfl, hw⟩; obtain rfl := hw.symm) | (go_at_call 25; (with_reducible refine (t3 _).mono ?_); clear t3; rintro e w' ⟨rfl, hw⟩; obtain rfl := hw.symm) | fail)
        refine t4.mono ?_
        clear t4
        rintro e w3 ⟨v, rfl, ⟨a1, c1, rfl, hG⟩, hB3⟩
        have hB4 := hB.trans (hB3.mono hB.size)
        have t5 := t5 w3 a1 c1 hG
        by_cases q : m.length = n
        · have HE : Hid (revC users l f t = 5) := by show _ = _; rw [HC2.out, if_pos q]
          have qI : ((m.length : Int) == (n : Int)) = true := by simp [q]
          clear t5 HC2 hG
          go_wp2_with fail
          go_ret2
          exact ⟨_, by rw [HE.out]; rfl, .inl ⟨by rw [HE.out]; decide, rfl⟩, hB4⟩
        · have HE : Hid (revC users l f t = 0) := by show _ = _; rw [HC2.out, if_neg q]
          have qI : ((m.length : Int) == (n : Int)) = false := by simp; omega
          clear HC2 hG q
          go_wp2_with fail
          refine t5.mono ?_
          clear t5
          rintro e w5 ⟨v, rfl, hG5, hB5⟩
          have hB6 := hB4.trans (hB5.mono hB4.size)
          rw [HV.out] at hG5
          have HG5 := Hid.mkI hG5
          clear hG5
          go_wp2_with fail
          go_ret2
          exact ⟨_, by rw [HE.out]; rfl, .inr ⟨HE.out, HG5.out⟩, hB6⟩
  · have HE : Hid (revC users l f t = givC users l) := by show _ = _; rw [revC, if_neg hc]
    obtain ⟨c, hcc⟩ : ∃ c, givC users l = c := ⟨_, rfl⟩
    rw [hcc] at t1 hc HE
    rw [gerrV_ne hc] at t1
    have HC := Hid.mkI hc
    clear h hc hcc
    go_enter Tryd.func16, Tryd.ntmps16
    go_wp2_with fail
    refine t1.mono ?_
    clear t1
    rintro e w2 ⟨rfl, hB⟩
    go_wp2
    go_ret2
    exact ⟨_, by rw [HE.out, gerrV_ne HC.out]; rfl, .inl ⟨by rw [HE.out]; exact HC.out, rfl⟩, hB⟩
end Go.Proofs.YtoecomgiggalkaaDoor
