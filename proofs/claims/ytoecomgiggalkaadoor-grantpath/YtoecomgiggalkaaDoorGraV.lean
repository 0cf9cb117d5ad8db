/- What asking for a path tells (Path). -/
import Derived.WalkKit
import Derived.LoopTactic
import Derived.ProofKit
import Derived.OpenShut
import Derived.ChangeSlices
import Derived.Test.YtoecomgiggalkaaDoorGraU
namespace Go.Proofs.YtoecomgiggalkaaDoor
open Go.RowKit
set_option maxRecDepth 100000

/-- A list that came in is no longer than its place. -/
theorem open_capg {H : Type} {enc : TypeId × Value → H} {W : World} {base : Nat} {sp : Nat → Bool} {held : Bool} {a : Option Addr} {len cap : Nat} {d : DataW H} {ps : List MemPlace}
    (hd : DataW.Trod enc Tryd.prog W base sp held 22 (.slice a len cap) d ps) : len ≤ cap := by
  obtain ⟨fuel, hf⟩ := hd
  rcases DataW.trod_slice Tryd.underlying22 hf with ⟨hcs, _⟩ | ⟨x, l, c, elems, rest, n, _, hcs, _, _, hl, _⟩
  · simp [Value.cells] at hcs
    omega
  · simp [Value.cells] at hcs
    omega
/-- The list that Path tells. -/
def PathV (w : World) (v : Value) (users : Int) (l : List Giv) (u : Int) : Prop := (pathC users l u ≠ 0 ∧ v = .slice none 0 0) ∨ (pathC users l u = 0 ∧ Lst w v (pathL l u).length fun i => (pathL l u).getD i 0)
theorem PathV.below {w w' : World} {v : Value} {users : Int} {l : List Giv} {u : Int} (h : PathV w v users l u) (k : Below w.heap.size w w') : PathV w' v users l u := h.imp id fun ⟨e, g⟩ => ⟨e, g.below k⟩
theorem pathC_ok {users : Int} {l : List Giv} {u : Int} (h : pathC users l u = 0) : GOk users l ∧ 0 ≤ u ∧ u < users ∧ (setL l).testBit u.toNat = true := by
  unfold pathC at h
  split at h
  · rename_i h0
    split at h
    · omega
    · split at h
      · rename_i h2; exact ⟨(givC_iff _ _).1 h0, by omega, by omega, h2⟩
      · omega
  · rename_i h0; exact absurd h h0
set_option maxHeartbeats 2000000 in
theorem pathAsk_any (users : Int) (a : Option Addr) (cap : Nat) (l : List Giv) (hcap : l.length ≤ cap) (u : Int) (w : World) (h : AtGivs w a l.length (nthV l)) :
    Calls Tryd.prog 13 #[.int .i64 users, .slice a l.length cap, .int .i64 u] w fun e w' => ∃ v, e = .returned (.tuple #[v, errV (pathC users l u)]) ∧ PathV w' v users l u ∧ Below w.heap.size w w' := by
  have t1 := holds_any users a cap l w h
  by_cases hc : givC users l = 0
  · have hok := (givC_iff _ _).1 hc
    have hV : hasV users l = setL l := by rw [hasV, if_pos hc]
    rw [hc, errV_zero, hV] at t1
    have hset := hok.set_lt
    have hu8 := hok.u1
    have t2 := fun W => gIsUser_any users u W
    have HC : Hid (pathC users l u = if u < 0 ∨ users ≤ u then 1 else if (setL l).testBit u.toNat = true then 0 else 5) := by show _ = _; rw [pathC, if_pos hc]
    cases q1 : uB users u with
    | false =>
      have HE : Hid (pathC users l u = 1) := by show _ = _; rw [HC.out, if_pos ((uB_not _ _).1 q1)]
      rw [q1] at t2
      clear q1 HC hc hok hV h hset
      go_enter Tryd.func13, Tryd.ntmps13
      go_wp2_with (first | (go_at_call 11; refine t1.mono ?_; clear t1; rintro e w2 ⟨rfl, hB⟩) | (go_at_call 25; refine (t2 _).mono ?_; clear t2; rintro e w' ⟨rfl, hw⟩; obtain rfl := hw.symm))
      go_ret2
      exact ⟨_, by rw [HE.out]; rfl, .inl ⟨by rw [HE.out]; decide, rfl⟩, hB⟩
    | true =>
      rw [q1] at t2
      have p1 := (uB_iff _ _).1 q1
      have t3 := fun W => gHas_int (setL l) u p1.1 (by omega) (by omega) W
      cases q2 : (setL l).testBit u.toNat with
      | false =>
        have HE : Hid (pathC users l u = 5) := by show _ = _; rw [HC.out, if_neg (by omega), if_neg (by rw [q2]; simp)]
        rw [q2] at t3
        obtain ⟨x, hx⟩ : ∃ x, setL l = x := ⟨_, rfl⟩
        rw [hx] at t1 t3
        clear q1 q2 HC hc hok hV h hset p1 hx
        go_enter Tryd.func13, Tryd.ntmps13
        go_wp2_with (first | (go_at_call 11; refine t1.mono ?_; clear t1; rintro e w2 ⟨rfl, hB⟩) | (go_at_call 25; refine (t2 _).mono ?_; clear t2; rintro e w' ⟨rfl, hw⟩; obtain rfl := hw.symm) | (go_at_call 26; refine (t3 _).mono ?_; clear t3; rintro e w' ⟨rfl, hw⟩; obtain rfl := hw.symm))
        go_ret2
        exact ⟨_, by rw [HE.out]; rfl, .inl ⟨by rw [HE.out]; decide, rfl⟩, hB⟩
      | true =>
        have HE : Hid (pathC users l u = 0) := by show _ = _; rw [HC.out, if_neg (by omega), if_pos q2]
        have t4 := fun w1 (hB : Below w.heap.size w w1) => gpath_any users a cap l hok hcap u p1.1 q2 w1 (h.below hB)
        rw [q2] at t3
        obtain ⟨x, hx⟩ : ∃ x, setL l = x := ⟨_, rfl⟩
        rw [hx] at t1 t3
        obtain ⟨n, hn⟩ : ∃ n, l.length = n := ⟨_, rfl⟩
        rw [hn] at t1 t4 ⊢
        clear q1 q2 HC hc hok hV h hset p1 hx hn hcap
        go_enter Tryd.func13, Tryd.ntmps13
        go_wp2_with (first | (go_at_call 11; refine t1.mono ?_; clear t1; rintro e w2 ⟨rfl, hB⟩; have t4 := t4 w2 hB) | (go_at_call 25; refine (t2 _).mono ?_; clear t2; rintro e w' ⟨rfl, hw⟩; obtain rfl := hw.symm) | (go_at_call 26; refine (t3 _).mono ?_; clear t3; rintro e w' ⟨rfl, hw⟩; obtain rfl := hw.symm) | fail)
        refine t4.mono ?_
        clear t4
        rintro e w3 ⟨v, rfl, hL, hB3⟩
        have hB4 := hB.trans (hB3.mono hB.size)
        have HL := Hid.mkI hL
        clear hL
        go_wp2_with fail
        go_ret2
        exact ⟨_, by rw [HE.out]; rfl, .inr ⟨HE.out, HL.out⟩, hB4⟩
  · have HE : Hid (pathC users l u = givC users l) := by show _ = _; rw [pathC, if_neg hc]
    obtain ⟨c, hcc⟩ : ∃ c, givC users l = c := ⟨_, rfl⟩
    obtain ⟨x, hx⟩ : ∃ x, hasV users l = x := ⟨_, rfl⟩
    rw [hcc, hx] at t1
    rw [hcc] at hc HE
    rw [gerrV_ne hc] at t1
    have HC := Hid.mkI hc
    clear h hc hcc hx
    go_enter Tryd.func13, Tryd.ntmps13
    go_wp2_with fail
    refine t1.mono ?_
    clear t1
    rintro e w2 ⟨rfl, hB⟩
    go_wp2
    go_ret2
    exact ⟨_, by rw [HE.out, gerrV_ne HC.out]; rfl, .inl ⟨by rw [HE.out]; exact HC.out, rfl⟩, hB⟩
end Go.Proofs.YtoecomgiggalkaaDoor
