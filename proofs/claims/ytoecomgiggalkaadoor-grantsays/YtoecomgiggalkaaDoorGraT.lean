/- The walk of the law GrantSays. (Made by gen/grasay.py.) -/
import Derived.WalkKit
import Derived.LoopTactic
import Derived.Test.YtoecomgiggalkaaDoorGraO
import Derived.Test.YtoecomgiggalkaaDoorGraV
import Derived.Test.YtoecomgiggalkaaDoorGraX
import Derived.Test.YtoecomgiggalkaaDoorGraY
namespace Go.Proofs.YtoecomgiggalkaaDoor
open Go.RowKit
set_option maxRecDepth 100000

theorem lst_of_rowQ {w : World} {base : Nat} {v : Value} {q : List Int} (h : w.ownsRow base 3 1 v q.length (rowQ q)) : Lst w v q.length fun i => q.getD i 0 := lst_of_row h
set_option maxHeartbeats 8000000 in
theorem grantSays_any (users : Int) (a : Option Addr) (cap : Nat) (l : List Giv) (f t : Int) (w : World) (h : AtGivs w a l.length (nthV l)) (hcap : l.length ≤ cap) (hE : ErrT w) :
    Calls Tryd.prog 3 #[.int .i64 users, .slice a l.length cap, .int .i64 f, .int .i64 t] w fun e w' => e = .returned (.bool true) ∧ Below w.heap.size w w' := by
  have tR : ∀ w1, Below w.heap.size w w1 → Calls Tryd.prog 7 #[.int .i64 users, .slice a l.length cap] w1 fun e w' => e = .returned (.int .i64 (givC users l)) ∧ Below w1.heap.size w1 w' := fun w1 hB => (refGivens_any users a cap l hcap w1 (h.below hB)).mono fun e w' ⟨he, k, hk⟩ => ⟨he, by rw [hk]; exact below_drawn (Below.refl _ _) k⟩
  have tC := fun w1 (hB : Below w.heap.size w w1) => gcheck_any users a cap l w1 (h.below hB)
  have tH := fun w1 (hB : Below w.heap.size w w1) => holds_any users a cap l w1 (h.below hB)
  have tP := fun w1 (hB : Below w.heap.size w w1) => pathAsk_any users a cap l hcap t w1 (h.below hB)
  have tV := fun w1 (hB : Below w.heap.size w w1) => revoke_any users a cap l f t w1 (h.below hB)
  have hE0 := old_of_cell hE
  have tE : ∀ (c : Int) (w1 : World), Below w.heap.size w w1 → Calls Tryd.prog 8 #[errV c, .int .i64 c] w1 fun e w' => e = .returned (.bool true) ∧ Below w1.heap.size w1 w' := fun c w1 hB => (gerror_errV c w1 (hE.below hB hE0) c).mono fun e w' ⟨he, hb⟩ => ⟨by rw [he]; simp, hb⟩
  have tI : ∀ (v1 v2 : Value) (K : Nat) (pf : Nat → Int) (w1 : World), K < 2 ^ 62 → Lst w1 v1 K pf → Lst w1 v2 K pf → Calls Tryd.prog 14 #[v1, v2] w1 fun e w' => e = .returned (.bool true) ∧ Below w1.heap.size w1 w' := fun v1 v2 K pf w1 hK h1 h2 => (gints_same v1 v2 K hK pf w1 h1 h2).mono fun e w' ⟨he, k, hk⟩ => ⟨he, by rw [hk]; exact below_drawn (Below.refl _ _) k⟩
  have tI0 : ∀ w1, Below w.heap.size w w1 → Calls Tryd.prog 14 #[.slice none 0 0, .slice none 0 0] w1 fun e w' => e = .returned (.bool true) ∧ Below w1.heap.size w1 w' := fun w1 _ => tI _ _ 0 (fun _ => 0) w1 (by decide) ⟨none, 0, rfl, .inl rfl⟩ ⟨none, 0, rfl, .inl rfl⟩
  have tG : ∀ (v1 v2 : Value) (m : List Giv) (w1 : World), m.length < 2 ^ 30 → GivV w1 v1 m → GivV w1 v2 m → Calls Tryd.prog 17 #[v1, v2] w1 fun e w' => e = .returned (.bool true) ∧ Below w1.heap.size w1 w' := fun v1 v2 m w1 hm h1 h2 => (ggivs_same v1 v2 m hm w1 h1 h2).mono fun e w' ⟨he, k, hk⟩ => ⟨he, by rw [hk]; exact below_drawn (Below.refl _ _) k⟩
  have tG0 : ∀ w1, Below w.heap.size w w1 → Calls Tryd.prog 17 #[.slice none 0 0, .slice none 0 0] w1 fun e w' => e = .returned (.bool true) ∧ Below w1.heap.size w1 w' := fun w1 _ => tG _ _ [] w1 (by decide) (givV_nil _) (givV_nil _)
  have HTI := Hid.mkI tI
  have HTG := Hid.mkI tG
  have hBz := Below.refl w.heap.size w
  have HA := Hid.mkI h
  have HE := Hid.mkI tE
  clear tI tG hE hE0 h tE
  by_cases hc : givC users l = 0
  · have hok := (givC_iff _ _).1 hc
    have hlen := hok.len
    have hu8 := hok.u1
    have hV : hasV users l = setL l := by rw [hasV, if_pos hc]
    have tS : ∀ w1, Below w.heap.size w w1 → Calls Tryd.prog 10 #[.slice a l.length cap] w1 fun e w' => e = .returned (.int .i64 (setL l : Nat)) ∧ Below w1.heap.size w1 w' := fun w1 hB => (granted_any a l.length cap l rfl hlen (fun g hg => by have := hok.mem g hg; omega) w1 (HA.out.below hB)).mono fun e w' ⟨he, hw⟩ => ⟨he, by rw [hw]; exact Below.refl _ _⟩
    have tQ := fun w1 (hB : Below w.heap.size w w1) (h0 : 0 ≤ t) (hb : (setL l).testBit t.toNat = true) => refPath_any users l hok l.length l.length t a cap w1 hlen (Nat.le_refl _) (Nat.le_refl _) hcap h0 (by rw [List.take_length]; exact hb) (HA.out.below hB)
    have tN : ∀ w1, Below w.heap.size w w1 → ¬ (setL l).testBit t.toNat = true → Calls Tryd.prog 12 #[.slice a l.length cap, .int .i64 t] w1 fun e w' => e = .returned (.slice none 0 0) ∧ Below w1.heap.size w1 w' := fun w1 hB hb => (refPathNone_any a l.length cap l rfl hlen t (not_idx hb).1 (not_idx hb).2 w1 (HA.out.below hB)).mono fun e w' ⟨he, hw⟩ => ⟨he, by rw [hw]; exact Below.refl _ _⟩
    have tW := fun w1 (hB : Below w.heap.size w w1) => refRevoked_any users a cap l hok f t w1 (HA.out.below hB)
    have HCp : Hid (pathC users l t = if t < 0 ∨ users ≤ t then 1 else if (setL l).testBit t.toNat = true then 0 else 5) := by show _ = _; rw [pathC, if_pos hc]
    have HCr : Hid (revC users l f t = if f < 0 ∨ users ≤ f ∨ t < 0 ∨ users ≤ t then 1 else if (outL f t l).length = l.length then 5 else 0) := by show _ = _; rw [revC, if_pos hc]
    have HRl : Hid ((revL f t l).length < 2 ^ 30) := by have := (hok.rev f t).ok.len; show _ < _; omega
    have HPl : Hid (0 < (pathL l t).length ∧ (pathL l t).length < 2 ^ 62 ∧ pathL l t = (dnG l l.length l.length t).reverse) := by
      have h1 := dnG_len l l.length l.length t
      have h2 := dnG_pos l l.length l.length t
      refine ⟨?_, ?_, rfl⟩
      · unfold pathL; rw [List.length_reverse]; exact h2
      · unfold pathL; rw [List.length_reverse]; omega
    rw [hc] at tR tC tH
    rw [hV] at tH
    have HAny := Hid.mkI (any_out f t l)
    have HNp : Hid (pathC users l t ≠ 0 → ∀ w v, PathV w v users l t → v = .slice none 0 0) := fun hn w v h => by
      rcases h with ⟨_, h⟩ | ⟨h, _⟩
      · exact h
      · exact absurd h hn
    have HYp : Hid (pathC users l t = 0 → ∀ w v, PathV w v users l t → Lst w v (pathL l t).length fun i => (pathL l t).getD i 0) := fun hn w v h => by
      rcases h with ⟨h, _⟩ | ⟨_, h⟩
      · exact absurd hn h
      · exact h
    have HNr : Hid (revC users l f t ≠ 0 → ∀ w v, RevV w v users l f t → v = .slice none 0 0) := fun hn w v h => by
      rcases h with ⟨_, h⟩ | ⟨h, _⟩
      · exact h
      · exact absurd h hn
    have HYr : Hid (revC users l f t = 0 → ∀ w v, RevV w v users l f t → GivV w v (revL f t l)) := fun hn w v h => by
      rcases h with ⟨h, _⟩ | ⟨_, h⟩
      · exact absurd hn h
      · exact h
    have HS := Hid.mkI (And.intro tQ tN)
    clear hV hok hlen hc tQ tN HA
    obtain ⟨n, hn⟩ : ∃ n, l.length = n := ⟨_, rfl⟩
    have HN := Hid.mkI hn
    have HS : Hid ((∀ w1, Below w.heap.size w w1 → 0 ≤ t → (setL l).testBit t.toNat = true → Calls Tryd.prog 12 #[.slice a n cap, .int .i64 t] w1 fun e w' => ∃ v, e = .returned v ∧ w'.ownsRow w1.heap.size 3 1 v (pathL l t).length (rowQ (pathL l t)) ∧ Below w1.heap.size w1 w') ∧ (∀ w1, Below w.heap.size w w1 → ¬ (setL l).testBit t.toNat = true → Calls Tryd.prog 12 #[.slice a n cap, .int .i64 t] w1 fun e w' => e = .returned (.slice none 0 0) ∧ Below w1.heap.size w1 w')) := by
      rw [← hn]
      refine ⟨fun w1 hB h0 hb => ?_, fun w1 hB hb => HS.out.2 w1 hB hb⟩
      rw [HPl.out.2.2]
      exact HS.out.1 w1 hB h0 hb
    rw [hn] at tR tC tH tP tV tS tW
    rw [hn]
    obtain ⟨x, hx⟩ : ∃ x, setL l = x := ⟨_, rfl⟩
    rw [hx] at tS tH HS HCp
    clear hn hx hcap
    have tE0 := HE.out 0
    have tE1 := HE.out 1
    have tE5 := HE.out 5
    clear HE
    go_enter Tryd.func3, Tryd.ntmps3
    go_wp2_with fail
    refine (tR w hBz).mono ?_
    rintro e w1 ⟨rfl, hx1⟩
    have hB1 := hBz.trans (hx1.mono hBz.size)
    go_wp2_with fail
    refine (tC w1 hB1).mono ?_
    rintro e w2 ⟨rfl, hx2⟩
    have hB2 := hB1.trans (hx2.mono hB1.size)
    go_wp2_with fail
    refine (tE0 w2 hB2).mono ?_
    rintro e w3 ⟨rfl, hx3⟩
    have hB3 := hB2.trans (hx3.mono hB2.size)
    go_wp2_with fail
    refine (tS w3 hB3).mono ?_
    rintro e w4 ⟨rfl, hx4⟩
    have hB4 := hB3.trans (hx4.mono hB3.size)
    go_wp2_with fail
    refine (tH w4 hB4).mono ?_
    rintro e w5 ⟨rfl, hx5⟩
    have hB5 := hB4.trans (hx5.mono hB4.size)
    go_wp2_with fail
    refine (tE0 w5 hB5).mono ?_
    rintro e w6 ⟨rfl, hx6⟩
    have hB6 := hB5.trans (hx6.mono hB5.size)
    clear tR tC tS tH
    rcases (show t < 0 ∨ (0 ≤ t ∧ users ≤ t) ∨ (0 ≤ t ∧ t < users) by omega) with ht | ⟨ht0, ht1⟩ | ⟨ht0, ht1⟩
    · have hp1 : pathC users l t = 1 := by rw [HCp.out, if_pos (.inl ht)]
      rw [hp1] at tP
      go_wp2_with fail
      refine (tP w6 hB6).mono ?_
      rintro e w7 ⟨v, rfl, hv, hx7⟩
      have hB7 := hB6.trans (hx7.mono hB6.size)
      obtain rfl := HNp.out (by rw [hp1]; decide) _ _ hv
      clear hv
      go_wp2_with fail
      refine (tE1 w7 hB7).mono ?_
      rintro e w8 ⟨rfl, hx8⟩
      have hB8 := hB7.trans (hx8.mono hB7.size)
      go_wp2_with fail
      refine (tI0 w8 hB8).mono ?_
      rintro e w9 ⟨rfl, hx9⟩
      have hB9 := hB8.trans (hx9.mono hB8.size)
      clear tP
      rcases (show f < 0 ∨ (0 ≤ f ∧ users ≤ f) ∨ (0 ≤ f ∧ f < users) by omega) with hf | ⟨hf0, hf1⟩ | ⟨hf0, hf1⟩
      · have hr1 : revC users l f t = 1 := by rw [HCr.out, if_pos (.inl hf)]
        rw [hr1] at tV
        go_wp2_with fail
        refine (tV w9 hB9).mono ?_
        rintro e w10 ⟨v, rfl, hv, hx10⟩
        have hB10 := hB9.trans (hx10.mono hB9.size)
        obtain rfl := HNr.out (by rw [hr1]; decide) _ _ hv
        clear hv
        go_wp2_with fail
        refine (tE1 w10 hB10).mono ?_
        rintro e w11 ⟨rfl, hx11⟩
        have hB11 := hB10.trans (hx11.mono hB10.size)
        go_wp2_with fail
        refine (tG0 w11 hB11).mono ?_
        rintro e w12 ⟨rfl, hx12⟩
        have hB12 := hB11.trans (hx12.mono hB11.size)
        go_wp2_with fail
        go_ret
        exact ⟨rfl, hB12⟩
      · have hr1 : revC users l f t = 1 := by rw [HCr.out, if_pos (.inr (.inl hf1))]
        rw [hr1] at tV
        go_wp2_with fail
        refine (tV w9 hB9).mono ?_
        rintro e w10 ⟨v, rfl, hv, hx10⟩
        have hB10 := hB9.trans (hx10.mono hB9.size)
        obtain rfl := HNr.out (by rw [hr1]; decide) _ _ hv
        clear hv
        go_wp2_with fail
        refine (tE1 w10 hB10).mono ?_
        rintro e w11 ⟨rfl, hx11⟩
        have hB11 := hB10.trans (hx11.mono hB10.size)
        go_wp2_with fail
        refine (tG0 w11 hB11).mono ?_
        rintro e w12 ⟨rfl, hx12⟩
        have hB12 := hB11.trans (hx12.mono hB11.size)
        go_wp2_with fail
        go_ret
        exact ⟨rfl, hB12⟩
      · have hr1 : revC users l f t = 1 := by rw [HCr.out, if_pos (by omega)]
        rw [hr1] at tV
        go_wp2_with fail
        refine (tV w9 hB9).mono ?_
        rintro e w10 ⟨v, rfl, hv, hx10⟩
        have hB10 := hB9.trans (hx10.mono hB9.size)
        obtain rfl := HNr.out (by rw [hr1]; decide) _ _ hv
        clear hv
        go_wp2_with fail
        refine (tE1 w10 hB10).mono ?_
        rintro e w11 ⟨rfl, hx11⟩
        have hB11 := hB10.trans (hx11.mono hB10.size)
        go_wp2_with fail
        refine (tG0 w11 hB11).mono ?_
        rintro e w12 ⟨rfl, hx12⟩
        have hB12 := hB11.trans (hx12.mono hB11.size)
        go_wp2_with fail
        go_ret
        exact ⟨rfl, hB12⟩
    · have hp1 : pathC users l t = 1 := by rw [HCp.out, if_pos (.inr ht1)]
      rw [hp1] at tP
      go_wp2_with fail
      refine (tP w6 hB6).mono ?_
      rintro e w7 ⟨v, rfl, hv, hx7⟩
      have hB7 := hB6.trans (hx7.mono hB6.size)
      obtain rfl := HNp.out (by rw [hp1]; decide) _ _ hv
      clear hv
      go_wp2_with fail
      refine (tE1 w7 hB7).mono ?_
      rintro e w8 ⟨rfl, hx8⟩
      have hB8 := hB7.trans (hx8.mono hB7.size)
      go_wp2_with fail
      refine (tI0 w8 hB8).mono ?_
      rintro e w9 ⟨rfl, hx9⟩
      have hB9 := hB8.trans (hx9.mono hB8.size)
      clear tP
      rcases (show f < 0 ∨ (0 ≤ f ∧ users ≤ f) ∨ (0 ≤ f ∧ f < users) by omega) with hf | ⟨hf0, hf1⟩ | ⟨hf0, hf1⟩
      · have hr1 : revC users l f t = 1 := by rw [HCr.out, if_pos (.inl hf)]
        rw [hr1] at tV
        go_wp2_with fail
        refine (tV w9 hB9).mono ?_
        rintro e w10 ⟨v, rfl, hv, hx10⟩
        have hB10 := hB9.trans (hx10.mono hB9.size)
        obtain rfl := HNr.out (by rw [hr1]; decide) _ _ hv
        clear hv
        go_wp2_with fail
        refine (tE1 w10 hB10).mono ?_
        rintro e w11 ⟨rfl, hx11⟩
        have hB11 := hB10.trans (hx11.mono hB10.size)
        go_wp2_with fail
        refine (tG0 w11 hB11).mono ?_
        rintro e w12 ⟨rfl, hx12⟩
        have hB12 := hB11.trans (hx12.mono hB11.size)
        go_wp2_with fail
        go_ret
        exact ⟨rfl, hB12⟩
      · have hr1 : revC users l f t = 1 := by rw [HCr.out, if_pos (.inr (.inl hf1))]
        rw [hr1] at tV
        go_wp2_with fail
        refine (tV w9 hB9).mono ?_
        rintro e w10 ⟨v, rfl, hv, hx10⟩
        have hB10 := hB9.trans (hx10.mono hB9.size)
        obtain rfl := HNr.out (by rw [hr1]; decide) _ _ hv
        clear hv
        go_wp2_with fail
        refine (tE1 w10 hB10).mono ?_
        rintro e w11 ⟨rfl, hx11⟩
        have hB11 := hB10.trans (hx11.mono hB10.size)
        go_wp2_with fail
        refine (tG0 w11 hB11).mono ?_
        rintro e w12 ⟨rfl, hx12⟩
        have hB12 := hB11.trans (hx12.mono hB11.size)
        go_wp2_with fail
        go_ret
        exact ⟨rfl, hB12⟩
      · have hr1 : revC users l f t = 1 := by rw [HCr.out, if_pos (by omega)]
        rw [hr1] at tV
        go_wp2_with fail
        refine (tV w9 hB9).mono ?_
        rintro e w10 ⟨v, rfl, hv, hx10⟩
        have hB10 := hB9.trans (hx10.mono hB9.size)
        obtain rfl := HNr.out (by rw [hr1]; decide) _ _ hv
        clear hv
        go_wp2_with fail
        refine (tE1 w10 hB10).mono ?_
        rintro e w11 ⟨rfl, hx11⟩
        have hB11 := hB10.trans (hx11.mono hB10.size)
        go_wp2_with fail
        refine (tG0 w11 hB11).mono ?_
        rintro e w12 ⟨rfl, hx12⟩
        have hB12 := hB11.trans (hx12.mono hB11.size)
        go_wp2_with fail
        go_ret
        exact ⟨rfl, hB12⟩
    · by_cases qb : x.testBit t.toNat = true
      · have hp1 : pathC users l t = 0 := by rw [HCp.out, if_neg (by omega), if_pos qb]
        rw [hp1] at tP
        have tQ := fun w1 (hB : Below w.heap.size w w1) => HS.out.1 w1 hB ht0 qb
        obtain ⟨K, hK⟩ : ∃ K, (pathL l t).length = K := ⟨_, rfl⟩
        have hK0 : 0 < K := by rw [← hK]; exact HPl.out.1
        have hKI : (0 : Int) < (K : Int) := by omega
        have hKb : ((K : Int) == 0) = false := by simp; omega
        have HK := Hid.mkI hK
        go_wp2_with fail
        refine (tQ w6 hB6).mono ?_
        rintro e w7 ⟨q, rfl, hq, hx7⟩
        have hB7 := hB6.trans (hx7.mono hB6.size)
        have hqL := lst_of_rowQ hq
        clear hq tQ
        rw [HK.out] at hqL
        have HQ := Hid.mkI hqL
        obtain ⟨qa, qc, rfl, _⟩ := hqL
        clear hK
        go_wp2_with fail
        refine (tP w7 hB7).mono ?_
        rintro e w8 ⟨v, rfl, hv, hx8⟩
        have hB8 := hB7.trans (hx8.mono hB7.size)
        have HQ := Hid.mkI (HQ.out.below hx8)
        have hvL := HYp.out hp1 _ _ hv
        rw [HK.out] at hvL
        clear hv
        go_wp2_with fail
        refine (tE0 w8 hB8).mono ?_
        rintro e w9 ⟨rfl, hx9⟩
        have hB9 := hB8.trans (hx9.mono hB8.size)
        have tI := HTI.out _ _ _ _ w9 (by rw [← HK.out]; exact HPl.out.2.1) (hvL.below hx9) (HQ.out.below hx9)
        clear hvL
        go_wp2_with fail
        refine (tI).mono ?_
        rintro e w10 ⟨rfl, hx10⟩
        have hB10 := hB9.trans (hx10.mono hB9.size)
        clear tP
        rcases (show f < 0 ∨ (0 ≤ f ∧ users ≤ f) ∨ (0 ≤ f ∧ f < users) by omega) with hf | ⟨hf0, hf1⟩ | ⟨hf0, hf1⟩
        · have hr1 : revC users l f t = 1 := by rw [HCr.out, if_pos (.inl hf)]
          rw [hr1] at tV
          go_wp2_with fail
          refine (tV w10 hB10).mono ?_
          rintro e w11 ⟨v, rfl, hv, hx11⟩
          have hB11 := hB10.trans (hx11.mono hB10.size)
          obtain rfl := HNr.out (by rw [hr1]; decide) _ _ hv
          clear hv
          go_wp2_with fail
          refine (tE1 w11 hB11).mono ?_
          rintro e w12 ⟨rfl, hx12⟩
          have hB12 := hB11.trans (hx12.mono hB11.size)
          go_wp2_with fail
          refine (tG0 w12 hB12).mono ?_
          rintro e w13 ⟨rfl, hx13⟩
          have hB13 := hB12.trans (hx13.mono hB12.size)
          go_wp2_with fail
          go_ret
          exact ⟨rfl, hB13⟩
        · have hr1 : revC users l f t = 1 := by rw [HCr.out, if_pos (.inr (.inl hf1))]
          rw [hr1] at tV
          go_wp2_with fail
          refine (tV w10 hB10).mono ?_
          rintro e w11 ⟨v, rfl, hv, hx11⟩
          have hB11 := hB10.trans (hx11.mono hB10.size)
          obtain rfl := HNr.out (by rw [hr1]; decide) _ _ hv
          clear hv
          go_wp2_with fail
          refine (tE1 w11 hB11).mono ?_
          rintro e w12 ⟨rfl, hx12⟩
          have hB12 := hB11.trans (hx12.mono hB11.size)
          go_wp2_with fail
          refine (tG0 w12 hB12).mono ?_
          rintro e w13 ⟨rfl, hx13⟩
          have hB13 := hB12.trans (hx13.mono hB12.size)
          go_wp2_with fail
          go_ret
          exact ⟨rfl, hB13⟩
        · have hr0 : revC users l f t = if (outL f t l).length = l.length then 5 else 0 := by rw [HCr.out, if_neg (by omega)]
          cases qa : l.any (isOf f t) with
          | false =>
            have hr5 : revC users l f t = 5 := by rw [hr0, if_pos (HAny.out.1 qa)]
            rw [hr5] at tV
            rw [qa] at tW
            clear qa hr0
            go_wp2_with fail
            refine (tW w10 hB10).mono ?_
            rintro e w11 ⟨v, rfl, hv, hx11⟩
            have hB11 := hB10.trans (hx11.mono hB10.size)
            clear hv
            go_wp2_with fail
            refine (tV w11 hB11).mono ?_
            rintro e w12 ⟨v, rfl, hv, hx12⟩
            have hB12 := hB11.trans (hx12.mono hB11.size)
            obtain rfl := HNr.out (by rw [hr5]; decide) _ _ hv
            clear hv
            go_wp2_with fail
            refine (tE5 w12 hB12).mono ?_
            rintro e w13 ⟨rfl, hx13⟩
            have hB13 := hB12.trans (hx13.mono hB12.size)
            go_wp2_with fail
            refine (tG0 w13 hB13).mono ?_
            rintro e w14 ⟨rfl, hx14⟩
            have hB14 := hB13.trans (hx14.mono hB13.size)
            go_wp2_with fail
            go_ret
            exact ⟨rfl, hB14⟩
          | true =>
            have hr5 : revC users l f t = 0 := by rw [hr0, if_neg (fun h => by rw [HAny.out.2 h] at qa; simp at qa)]
            rw [hr5] at tV
            rw [qa] at tW
            clear qa hr0
            go_wp2_with fail
            refine (tW w10 hB10).mono ?_
            rintro e w11 ⟨y, rfl, hy, hx11⟩
            have hB11 := hB10.trans (hx11.mono hB10.size)
            have hyV := hy
            clear hy
            go_wp2_with fail
            refine (tV w11 hB11).mono ?_
            rintro e w12 ⟨v, rfl, hv, hx12⟩
            have hB12 := hB11.trans (hx12.mono hB11.size)
            have hyV := hyV.below hx12
            have hvV := HYr.out hr5 _ _ hv
            clear hv
            go_wp2_with fail
            refine (tE0 w12 hB12).mono ?_
            rintro e w13 ⟨rfl, hx13⟩
            have hB13 := hB12.trans (hx13.mono hB12.size)
            have hyV := hyV.below hx13
            have hvV := hvV.below hx13
            have tG := HTG.out _ _ _ _ HRl.out hvV hyV
            clear hyV hvV
            go_wp2_with fail
            refine (tG).mono ?_
            rintro e w14 ⟨rfl, hx14⟩
            have hB14 := hB13.trans (hx14.mono hB13.size)
            go_wp2_with fail
            go_ret
            exact ⟨rfl, hB14⟩
      · have hp1 : pathC users l t = 5 := by rw [HCp.out, if_neg (by omega), if_neg qb]
        rw [hp1] at tP
        have tQ := fun w1 (hB : Below w.heap.size w w1) => HS.out.2 w1 hB qb
        go_wp2_with fail
        refine (tQ w6 hB6).mono ?_
        rintro e w7 ⟨rfl, hx7⟩
        have hB7 := hB6.trans (hx7.mono hB6.size)
        clear tQ
        go_wp2_with fail
        refine (tP w7 hB7).mono ?_
        rintro e w8 ⟨v, rfl, hv, hx8⟩
        have hB8 := hB7.trans (hx8.mono hB7.size)
        obtain rfl := HNp.out (by rw [hp1]; decide) _ _ hv
        clear hv
        go_wp2_with fail
        refine (tE5 w8 hB8).mono ?_
        rintro e w9 ⟨rfl, hx9⟩
        have hB9 := hB8.trans (hx9.mono hB8.size)
        go_wp2_with fail
        refine (tI0 w9 hB9).mono ?_
        rintro e w10 ⟨rfl, hx10⟩
        have hB10 := hB9.trans (hx10.mono hB9.size)
        clear tP
        rcases (show f < 0 ∨ (0 ≤ f ∧ users ≤ f) ∨ (0 ≤ f ∧ f < users) by omega) with hf | ⟨hf0, hf1⟩ | ⟨hf0, hf1⟩
        · have hr1 : revC users l f t = 1 := by rw [HCr.out, if_pos (.inl hf)]
          rw [hr1] at tV
          go_wp2_with fail
          refine (tV w10 hB10).mono ?_
          rintro e w11 ⟨v, rfl, hv, hx11⟩
          have hB11 := hB10.trans (hx11.mono hB10.size)
          obtain rfl := HNr.out (by rw [hr1]; decide) _ _ hv
          clear hv
          go_wp2_with fail
          refine (tE1 w11 hB11).mono ?_
          rintro e w12 ⟨rfl, hx12⟩
          have hB12 := hB11.trans (hx12.mono hB11.size)
          go_wp2_with fail
          refine (tG0 w12 hB12).mono ?_
          rintro e w13 ⟨rfl, hx13⟩
          have hB13 := hB12.trans (hx13.mono hB12.size)
          go_wp2_with fail
          go_ret
          exact ⟨rfl, hB13⟩
        · have hr1 : revC users l f t = 1 := by rw [HCr.out, if_pos (.inr (.inl hf1))]
          rw [hr1] at tV
          go_wp2_with fail
          refine (tV w10 hB10).mono ?_
          rintro e w11 ⟨v, rfl, hv, hx11⟩
          have hB11 := hB10.trans (hx11.mono hB10.size)
          obtain rfl := HNr.out (by rw [hr1]; decide) _ _ hv
          clear hv
          go_wp2_with fail
          refine (tE1 w11 hB11).mono ?_
          rintro e w12 ⟨rfl, hx12⟩
          have hB12 := hB11.trans (hx12.mono hB11.size)
          go_wp2_with fail
          refine (tG0 w12 hB12).mono ?_
          rintro e w13 ⟨rfl, hx13⟩
          have hB13 := hB12.trans (hx13.mono hB12.size)
          go_wp2_with fail
          go_ret
          exact ⟨rfl, hB13⟩
        · have hr0 : revC users l f t = if (outL f t l).length = l.length then 5 else 0 := by rw [HCr.out, if_neg (by omega)]
          cases qa : l.any (isOf f t) with
          | false =>
            have hr5 : revC users l f t = 5 := by rw [hr0, if_pos (HAny.out.1 qa)]
            rw [hr5] at tV
            rw [qa] at tW
            clear qa hr0
            go_wp2_with fail
            refine (tW w10 hB10).mono ?_
            rintro e w11 ⟨v, rfl, hv, hx11⟩
            have hB11 := hB10.trans (hx11.mono hB10.size)
            clear hv
            go_wp2_with fail
            refine (tV w11 hB11).mono ?_
            rintro e w12 ⟨v, rfl, hv, hx12⟩
            have hB12 := hB11.trans (hx12.mono hB11.size)
            obtain rfl := HNr.out (by rw [hr5]; decide) _ _ hv
            clear hv
            go_wp2_with fail
            refine (tE5 w12 hB12).mono ?_
            rintro e w13 ⟨rfl, hx13⟩
            have hB13 := hB12.trans (hx13.mono hB12.size)
            go_wp2_with fail
            refine (tG0 w13 hB13).mono ?_
            rintro e w14 ⟨rfl, hx14⟩
            have hB14 := hB13.trans (hx14.mono hB13.size)
            go_wp2_with fail
            go_ret
            exact ⟨rfl, hB14⟩
          | true =>
            have hr5 : revC users l f t = 0 := by rw [hr0, if_neg (fun h => by rw [HAny.out.2 h] at qa; simp at qa)]
            rw [hr5] at tV
            rw [qa] at tW
            clear qa hr0
            go_wp2_with fail
            refine (tW w10 hB10).mono ?_
            rintro e w11 ⟨y, rfl, hy, hx11⟩
            have hB11 := hB10.trans (hx11.mono hB10.size)
            have hyV := hy
            clear hy
            go_wp2_with fail
            refine (tV w11 hB11).mono ?_
            rintro e w12 ⟨v, rfl, hv, hx12⟩
            have hB12 := hB11.trans (hx12.mono hB11.size)
            have hyV := hyV.below hx12
            have hvV := HYr.out hr5 _ _ hv
            clear hv
            go_wp2_with fail
            refine (tE0 w12 hB12).mono ?_
            rintro e w13 ⟨rfl, hx13⟩
            have hB13 := hB12.trans (hx13.mono hB12.size)
            have hyV := hyV.below hx13
            have hvV := hvV.below hx13
            have tG := HTG.out _ _ _ _ HRl.out hvV hyV
            clear hyV hvV
            go_wp2_with fail
            refine (tG).mono ?_
            rintro e w14 ⟨rfl, hx14⟩
            have hB14 := hB13.trans (hx14.mono hB13.size)
            go_wp2_with fail
            go_ret
            exact ⟨rfl, hB14⟩
  · have hP : pathC users l t = givC users l := by rw [pathC, if_neg hc]
    have hR : revC users l f t = givC users l := by rw [revC, if_neg hc]
    have hV : hasV users l = 0 := by rw [hasV, if_neg hc]
    have HVp : Hid (∀ w v, PathV w v users l t → v = .slice none 0 0) := fun w v h => by
      rcases h with ⟨_, h⟩ | ⟨h, _⟩
      · exact h
      · rw [hP] at h; exact absurd h hc
    have HVr : Hid (∀ w v, RevV w v users l f t → v = .slice none 0 0) := fun w v h => by
      rcases h with ⟨_, h⟩ | ⟨h, _⟩
      · exact h
      · rw [hR] at h; exact absurd h hc
    rw [hP] at tP
    rw [hR] at tV
    rw [hV] at tH
    obtain ⟨c, hcc⟩ : ∃ c, givC users l = c := ⟨_, rfl⟩
    obtain ⟨n, hn⟩ : ∃ n, l.length = n := ⟨_, rfl⟩
    rw [hcc] at tR tC tH tP tV hc
    rw [hn] at tR tC tH tP tV
    rw [hn]
    have tEc := HE.out c
    have hcb : (c == 0) = false := by simp [hc]
    obtain ⟨ec, hec⟩ : ∃ v, errV c = v := ⟨_, rfl⟩
    rw [hec] at tC tH tP tV tEc
    clear hP hR hV hcc hn hec HE hcap HA
    go_enter Tryd.func3, Tryd.ntmps3
    go_wp2_with fail
    refine (tR w hBz).mono ?_
    rintro e w1 ⟨rfl, hx1⟩
    have hB1 := hBz.trans (hx1.mono hBz.size)
    go_wp2_with fail
    refine (tC w1 hB1).mono ?_
    rintro e w2 ⟨rfl, hx2⟩
    have hB2 := hB1.trans (hx2.mono hB1.size)
    go_wp2_with fail
    refine (tEc w2 hB2).mono ?_
    rintro e w3 ⟨rfl, hx3⟩
    have hB3 := hB2.trans (hx3.mono hB2.size)
    go_wp2_with fail
    refine (tH w3 hB3).mono ?_
    rintro e w4 ⟨rfl, hx4⟩
    have hB4 := hB3.trans (hx4.mono hB3.size)
    go_wp2_with fail
    refine (tEc w4 hB4).mono ?_
    rintro e w5 ⟨rfl, hx5⟩
    have hB5 := hB4.trans (hx5.mono hB4.size)
    go_wp2_with fail
    refine (tP w5 hB5).mono ?_
    rintro e w6 ⟨v, rfl, hv, hx6⟩
    have hB6 := hB5.trans (hx6.mono hB5.size)
    obtain rfl := HVp.out _ _ hv
    clear hv
    go_wp2_with fail
    refine (tEc w6 hB6).mono ?_
    rintro e w7 ⟨rfl, hx7⟩
    have hB7 := hB6.trans (hx7.mono hB6.size)
    go_wp2_with fail
    refine (tI0 w7 hB7).mono ?_
    rintro e w8 ⟨rfl, hx8⟩
    have hB8 := hB7.trans (hx8.mono hB7.size)
    go_wp2_with fail
    refine (tV w8 hB8).mono ?_
    rintro e w9 ⟨v, rfl, hv, hx9⟩
    have hB9 := hB8.trans (hx9.mono hB8.size)
    obtain rfl := HVr.out _ _ hv
    clear hv
    go_wp2_with fail
    refine (tEc w9 hB9).mono ?_
    rintro e w10 ⟨rfl, hx10⟩
    have hB10 := hB9.trans (hx10.mono hB9.size)
    go_wp2_with fail
    refine (tG0 w10 hB10).mono ?_
    rintro e w11 ⟨rfl, hx11⟩
    have hB11 := hB10.trans (hx11.mono hB10.size)
    go_wp2_with fail
    go_ret
    exact ⟨rfl, hB11⟩
end Go.Proofs.YtoecomgiggalkaaDoor
