/- What the document's bound of two things is (Bound of the reference). -/
import Derived.WalkKit
import Derived.LoopTactic
import Derived.Test.YtomencagnppdcaaDoorBnd
import Derived.Test.YtomencagnppdcaaDoorHeld
namespace Go.Proofs.YtomencagnppdcaaDoor
open Go.RowKit

/-- Which way is looked: up, or down. -/
def dirD (m : Nat) (C : Nat → Nat) : Bool → Nat → Nat
  | true => turnN m C
  | false => C
theorem lat_dir {m : Nat} {C : Nat → Nat} (h : Lat m C) (d : Bool) : Lat m (dirD m C d) := by
  cases d
  · exact h
  · exact lat_turn h
theorem above_any (m g cap k a : Nat) (d : Bool) (C : Nat → Nat) (hm : m ≤ 12) (hC : ∀ i, i < m → C i < 2 ^ m) (hk : k < m) (ha : a < m) (w : World) (ho : Own w g m C) :
    Calls Tryd.prog 26 #[.slice (some ⟨g, 0, none⟩) m cap, .int .i64 k, .int .i64 a, .bool d] w fun e w' => e = .returned (.bool ((dirD m C d a).testBit k)) ∧ w' = w := by
  have h12 := pow12 hm
  cases d with
  | true =>
    have hc := ho.cell k hk
    have hb := bit_any (C k) a (Nat.lt_of_lt_of_le (hC k hk) h12) (by omega) w
    have hki : (k : Int) < (m : Int) := by omega
    have HE : Hid ((dirD m C true a).testBit k = (C k).testBit a) := by
      rw [Hid, Bool.eq_iff_iff]
      exact (turnN_bit m C a k).trans ⟨fun h => h.2, fun h => ⟨hk, h⟩⟩
    obtain ⟨x, hx⟩ : ∃ x, C k = x := ⟨_, rfl⟩
    obtain ⟨z, hz⟩ : ∃ z, (dirD m C true a).testBit k = z := ⟨_, rfl⟩
    rw [hx] at hc hb HE
    rw [hz] at HE ⊢
    rw [← HE.out] at hb
    clear hx hz HE hC
    go_enter Tryd.func26, Tryd.ntmps26
    go_wp2_with (go_at_call 17; refine hb.mono ?_; rintro e w' ⟨rfl, rfl⟩)
    go_ret
    exact ⟨rfl, rfl⟩
  | false =>
    have hc := ho.cell a ha
    have hb := bit_any (C a) k (Nat.lt_of_lt_of_le (hC a ha) h12) (by omega) w
    have hai : (a : Int) < (m : Int) := by omega
    have HE : Hid ((dirD m C false a).testBit k = (C a).testBit k) := rfl
    obtain ⟨x, hx⟩ : ∃ x, C a = x := ⟨_, rfl⟩
    obtain ⟨z, hz⟩ : ∃ z, (dirD m C false a).testBit k = z := ⟨_, rfl⟩
    rw [hx] at hc hb HE
    rw [hz] at HE ⊢
    rw [← HE.out] at hb
    clear hx hz HE hC
    go_enter Tryd.func26, Tryd.ntmps26
    go_wp2_with (go_at_call 17; refine hb.mono ?_; rintro e w' ⟨rfl, rfl⟩)
    go_ret
    exact ⟨rfl, rfl⟩

/-- The document's answer where there is a bound, and where there is none. -/
def refRes : Option Nat → Array Value
  | some k => #[.int .i64 k, .bool true]
  | none => #[.int .i64 0, .bool false]

set_option maxRecDepth 100000 in
set_option maxHeartbeats 1000000 in
theorem refBound_own (m i j : Nat) (d : Bool) (C : Nat → Nat) (hL : Lat m C) (hi : i < m) (hj : j < m) (a : Option Addr) (cap : Nat) (w : World)
    (hcl : Calls Tryd.prog 25 #[.slice a m cap] w fun e w' => ∃ g cp, e = .returned (.slice (some ⟨g, 0, none⟩) m cp) ∧ w.heap.size ≤ g ∧ Own w' g m C ∧ Below w.heap.size w w') :
    Calls Tryd.prog 10 #[.slice a m cap, .int .i64 i, .int .i64 j, .bool d] w fun e w' => e = .returned (.tuple (refRes (bnd m (dirD m C d) i j))) ∧ Below w.heap.size w w' := by
  have hm := hL.few
  have hLD := lat_dir hL d
  have hab := fun (g cp k q : Nat) (hk : k < m) (hq : q < m) (W : World) (ho : Own W g m C) => above_any m g cp k q d C hm hL.lt hk hq W ho
  obtain ⟨D, hD⟩ : ∃ D, dirD m C d = D := ⟨_, rfl⟩
  rw [hD] at hLD hab ⊢
  clear hD hL
  have HL : Hid (Lat m D) := hLD
  clear hLD
  go_enter Tryd.func10, Tryd.ntmps10
  go_wp2_with (go_at_call 25; refine hcl.mono ?_; rintro e w1 ⟨g, cp, rfl, hg, ho, hB⟩)
  clear hcl
  replace hab := fun (k q : Nat) (hk : k < m) (hq : q < m) => hab g cp k q hk hq w1 ho
  go_loop [11] (fun kk => ∃ k : Nat, k ≤ m ∧ kk = .int .i64 k ∧ Hid (∀ q, q < k → ¬ IsBnd m D i j q)) (fun kk => m - (intOf kk).toNat)
  case atStart => exact ⟨0, by omega, rfl, fun q h => absurd h (by omega)⟩
  case round =>
    obtain ⟨k, hk, rfl, HP⟩ := hrel
    by_cases hlt : k < m
    · have hki : (k : Int) < (m : Int) := by omega
      have t1 := hab k i hlt hi
      have t2 := hab k j hlt hj
      have hnext : ¬ IsBnd m D i j k → ∀ q, q < k + 1 → ¬ IsBnd m D i j q := fun h q hq => by
        by_cases e : q = k
        · subst e; exact h
        · exact HP.out q (by omega)
      cases b1 : (D i).testBit k with
      | false =>
        rw [b1] at t1
        have HN : Hid (∀ q, q < k + 1 → ¬ IsBnd m D i j q) := hnext fun h => by rw [h.one] at b1; cases b1
        clear b1 hnext hab t2
        go_wp2_with (go_at_call 26; refine t1.mono ?_; rintro e w' ⟨rfl, rfl⟩)
        go_loop [12, 13] (fun gd q => gd = .bool false ∧ q = .int .i64 0) (fun _ _ => 0)
        case atStart => exact ⟨rfl, rfl⟩
        case round =>
          obtain ⟨rfl, rfl⟩ := hrel
          go_wp2
          go_round
          case rel => exact ⟨k + 1, by omega, by go_num, HN⟩
          case measure => simp [intOf]; omega
      | true =>
        rw [b1] at t1
        cases b2 : (D j).testBit k with
        | false =>
          rw [b2] at t2
          have HN : Hid (∀ q, q < k + 1 → ¬ IsBnd m D i j q) := hnext fun h => by rw [h.two] at b2; cases b2
          clear b1 b2 hnext hab
          go_wp2_with (first | (go_at_call 26; refine t1.mono ?_; clear t1; rintro e w' ⟨rfl, rfl⟩) | (go_at_call 26; refine t2.mono ?_; rintro e w' ⟨rfl, rfl⟩))
          go_loop [12, 13] (fun gd q => gd = .bool false ∧ q = .int .i64 0) (fun _ _ => 0)
          case atStart => exact ⟨rfl, rfl⟩
          case round =>
            obtain ⟨rfl, rfl⟩ := hrel
            go_wp2
            go_round
            case rel => exact ⟨k + 1, by omega, by go_num, HN⟩
            case measure => simp [intOf]; omega
        | true =>
          rw [b2] at t2
          have HB : Hid ((D i).testBit k = true ∧ (D j).testBit k = true) := ⟨b1, b2⟩
          have HX : Hid (¬ IsBnd m D i j k → ∀ q, q < k + 1 → ¬ IsBnd m D i j q) := hnext
          have HA : Hid (∀ (k q : Nat), k < m → q < m → Calls Tryd.prog 26 #[.slice (some ⟨g, 0, none⟩) m cp, .int .i64 k, .int .i64 q, .bool d] w1 fun e w' => e = .returned (.bool ((D q).testBit k)) ∧ w' = w1) := hab
          clear b1 b2 hnext hab
          go_wp2_with (first | (go_at_call 26; refine t1.mono ?_; clear t1; rintro e w' ⟨rfl, rfl⟩) | (go_at_call 26; refine t2.mono ?_; rintro e w' ⟨rfl, rfl⟩))
          clear t2
          go_loop [12, 13] (fun gd q => ∃ (b : Bool) (z : Nat), z ≤ m ∧ gd = .bool b ∧ q = .int .i64 z ∧ Hid ((b = true → ∀ y, y < z → (D i).testBit y = true → (D j).testBit y = true → (D k).testBit y = true) ∧ (b = false → ¬ IsBnd m D i j k))) (fun _ q => m - (intOf q).toNat)
          case atStart => exact ⟨true, 0, by omega, rfl, rfl, fun _ y h => absurd h (by omega), fun h => by cases h⟩
          case round =>
            obtain ⟨b, z, hz, rfl, rfl, HI⟩ := hrel
            cases b with
            | false =>
              have HN : Hid (∀ q, q < k + 1 → ¬ IsBnd m D i j q) := HX.out (HI.out.2 rfl)
              by_cases hzt : z < m
              · have hzi : (z : Int) < (m : Int) := by omega
                go_wp2
                go_round
                case rel => exact ⟨k + 1, by omega, by go_num, HN⟩
                case measure => simp [intOf]; omega
              · go_wp2
                go_round
                case rel => exact ⟨k + 1, by omega, by go_num, HN⟩
                case measure => simp [intOf]; omega
            | true =>
              by_cases hzt : z < m
              · have hzi : (z : Int) < (m : Int) := by omega
                have t3 := HA.out z i hzt hi
                have t4 := HA.out z j hzt hj
                have t5 := HA.out z k hzt hlt
                have hpass : (((D i).testBit z = true → (D j).testBit z = true → (D k).testBit z = true) → ∀ y, y < z + 1 → (D i).testBit y = true → (D j).testBit y = true → (D k).testBit y = true) := fun h y hy => by
                  by_cases e : y = z
                  · subst e; exact h
                  · exact HI.out.1 rfl y (by omega)
                cases c1 : (D i).testBit z with
                | false =>
                  rw [c1] at t3
                  have HN : Hid (∀ y, y < z + 1 → (D i).testBit y = true → (D j).testBit y = true → (D k).testBit y = true) := hpass fun h => by rw [c1] at h; cases h
                  clear c1 hpass t4 t5
                  go_wp2_with (go_at_call 26; refine t3.mono ?_; rintro e w' ⟨rfl, rfl⟩)
                  go_round
                  case rel => exact ⟨true, z + 1, by omega, rfl, by go_num, fun _ => HN.out, fun h => by cases h⟩
                  case measure => simp [intOf]; omega
                | true =>
                  rw [c1] at t3
                  cases c2 : (D j).testBit z with
                  | false =>
                    rw [c2] at t4
                    have HN : Hid (∀ y, y < z + 1 → (D i).testBit y = true → (D j).testBit y = true → (D k).testBit y = true) := hpass fun _ h => by rw [c2] at h; cases h
                    clear c1 c2 hpass t5
                    go_wp2_with (first | (go_at_call 26; refine t3.mono ?_; clear t3; rintro e w' ⟨rfl, rfl⟩) | (go_at_call 26; refine t4.mono ?_; rintro e w' ⟨rfl, rfl⟩))
                    go_round
                    case rel => exact ⟨true, z + 1, by omega, rfl, by go_num, fun _ => HN.out, fun h => by cases h⟩
                    case measure => simp [intOf]; omega
                  | true =>
                    rw [c2] at t4
                    obtain ⟨b, hb⟩ : ∃ b, (D k).testBit z = b := ⟨_, rfl⟩
                    rw [hb] at t5
                    have HN : Hid ((b = true → ∀ y, y < z + 1 → (D i).testBit y = true → (D j).testBit y = true → (D k).testBit y = true) ∧ (b = false → ¬ IsBnd m D i j k)) :=
                      ⟨fun e => hpass fun _ _ => hb.trans e, fun e h => by have := h.all z hzt c1 c2; rw [hb, e] at this; cases this⟩
                    clear c1 c2 hpass hb
                    go_wp2_with (first | (go_at_call 26; refine t3.mono ?_; clear t3; rintro e w' ⟨rfl, rfl⟩) | (go_at_call 26; refine t4.mono ?_; clear t4; rintro e w' ⟨rfl, rfl⟩) | (go_at_call 26; refine t5.mono ?_; rintro e w' ⟨rfl, rfl⟩))
                    go_round
                    case rel => exact ⟨b, z + 1, by omega, rfl, by go_num, HN⟩
                    case measure => simp [intOf]; omega
              · have HN : Hid (bnd m D i j = some k) := bnd_of HL.out ⟨hlt, HB.out.1, HB.out.2, fun y hy h1 h2 => HI.out.1 rfl y (by omega) h1 h2⟩
                go_wp2
                go_ret2
                exact ⟨by rw [HN.out]; rfl, hB⟩
    · have HN : Hid (bnd m D i j = none) := bnd_none fun q hq => HP.out q (by have := hq.lt; omega) hq
      clear hab
      go_wp2
      go_ret2
      exact ⟨by rw [HN.out]; rfl, hB⟩
end Go.Proofs.YtomencagnppdcaaDoor
