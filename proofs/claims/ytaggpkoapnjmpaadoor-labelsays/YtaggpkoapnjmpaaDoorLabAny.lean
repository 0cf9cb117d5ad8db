/- The walk of the law LabelSays, at any labels and text. -/
import Derived.WalkKit
import Derived.Test.YtaggpkoapnjmpaaDoorLabTwo
import Derived.Test.YtaggpkoapnjmpaaDoorHeld
namespace Go.Proofs.YtaggpkoapnjmpaaDoor
open Go.RowKit
set_option maxRecDepth 100000

theorem nilIs_of {w : World} (hT : Tab w) (hE : ErrT w) : ErrIs w .nilIface 0 := fun W hB => error_held W _ _ (hE.below hB (by have := hT.size; omega)) (.inl ⟨rfl, rfl⟩)
theorem level_cases (l1 l2 : Nat) : ((l1 : Int) < (l2 : Int) ∧ ((max l1 l2 : Nat) : Int) = (l2 : Int) ∧ ((min l1 l2 : Nat) : Int) = (l1 : Int)) ∨ ((l2 : Int) ≤ (l1 : Int) ∧ ((max l1 l2 : Nat) : Int) = (l1 : Int) ∧ ((min l1 l2 : Nat) : Int) = (l2 : Int)) := by omega
theorem labSays_any (la sa lb sb : Int) (y : ByteArray) (hy : y.size ≤ maxLen) (w : World) (hT : Tab w) (hE : ErrT w) :
    Calls Tryd.prog 3 #[lab la sa, lab lb sb, .string y] w fun e w' => e = .returned (.bool true) ∧ Below w.heap.size w w' := by
  have h1 := errIs_of hT hE 1
  have h2 := errIs_of hT hE 2
  have h0 := nilIs_of hT hE
  have hno : ∀ la sa lb sb, NoTwo la sa lb sb → BelIs la sa lb sb (.bool false) (.iface 57 (.int .i64 1)) ∧ JoinIs la sa lb sb 0 0 (.iface 57 (.int .i64 1)) ∧ MeetIs la sa lb sb 0 0 (.iface 57 (.int .i64 1)) :=
    fun la sa lb sb h => ⟨fun W => labBelow_no _ _ _ _ h W, fun W => labJoin_no _ _ _ _ h W, fun W => labMeet_no _ _ _ _ h W⟩
  rcases lab_or la sa with ha | ha
  · rcases lab_or lb sb with hb | hb
    · have hca : CheckIs la sa .nilIface := fun W => labCheck_ok la sa ha W
      have hra : RefLabIs la sa 0 := fun W => refLabel_ok la sa ha W
      have hrb : RefLabIs lb sb 0 := fun W => refLabel_ok lb sb hb W
      obtain ⟨l1, s1, rfl, rfl, a1, b1⟩ := ha.nat
      obtain ⟨l2, s2, rfl, rfl, a2, b2⟩ := hb.nat
      have hc := fun (ok : Bool) (lp sp ye : Int) (yer : Value) => labSays_c l1 s1 l2 s2 y w (wrt l1 s1) hra hca h0 h0 h0 h0 h0 (fun W => written_ok l1 s1 a1 b1 W) (writeIs_ok hT a1 b1) hrb
        (belB l1 s1 l2 s2) (fun W => refBelow_ok l1 s1 l2 s2 b1 b2 W) (s1 ||| s2 : Nat) (s1 &&& s2 : Nat) (fun W => either_any s1 s2 (by omega) (by omega) W) (fun W => both_any s1 s2 (by omega) (by omega) W)
        (max l1 l2 : Nat) (min l1 l2 : Nat) (fun W => labBelow_ok l1 s1 l2 s2 a1 b1 a2 b2 W) (fun W => labJoin_ok l1 s1 l2 s2 a1 b1 a2 b2 W) (fun W => labMeet_ok l1 s1 l2 s2 a1 b1 a2 b2 W) (level_cases l1 l2) ok lp sp ye yer
      cases hp : prs y with
      | none => exact hc false 0 0 2 _ (.inr ⟨rfl, rfl, rfl⟩) (fun W => refParse_no y hy hp W) (fun W => parse_no y hy hp W) h2
      | some p =>
        obtain ⟨lp, sp⟩ := p
        exact hc true lp sp 0 _ (.inl ⟨rfl, rfl, rfl⟩) (fun W => refParse_yes y hy hp W) (fun W => parse_yes y hy hp W) h0
    · obtain ⟨hBe, hJo, hMe⟩ := hno la sa lb sb (noTwo_right hb _ _)
      have hca : CheckIs la sa .nilIface := fun W => labCheck_ok la sa ha W
      have hra : RefLabIs la sa 0 := fun W => refLabel_ok la sa ha W
      have hrb : RefLabIs lb sb 1 := fun W => refLabel_no lb sb hb W
      obtain ⟨l1, s1, rfl, rfl, a1, b1⟩ := ha.nat
      cases hp : prs y with
      | none => exact labSays_b0 l1 s1 lb sb y w (wrt l1 s1) hra hca h0 h0 (fun W => written_ok l1 s1 a1 b1 W) (writeIs_ok hT a1 b1) hrb h1 h1 h1 hBe hJo hMe (fun W => refParse_no y hy hp W) (fun W => parse_no y hy hp W) h2
      | some p =>
        obtain ⟨lp, sp⟩ := p
        exact labSays_b1 l1 s1 lb sb lp sp y w (wrt l1 s1) hra hca h0 h0 (fun W => written_ok l1 s1 a1 b1 W) (writeIs_ok hT a1 b1) hrb h1 h1 h1 hBe hJo hMe (fun W => refParse_yes y hy hp W) (fun W => parse_yes y hy hp W) h0
  · obtain ⟨hBe, hJo, hMe⟩ := hno la sa lb sb (noTwo_left ha _ _)
    have hca : CheckIs la sa (.iface 57 (.int .i64 1)) := fun W => labCheck_no la sa ha W
    have hra : RefLabIs la sa 1 := fun W => refLabel_no la sa ha W
    cases hp : prs y with
    | none => exact labSays_a0 la sa lb sb y w hra hca h1 h1 h1 h1 h1 (writeIs_no w ha) hBe hJo hMe (fun W => refParse_no y hy hp W) (fun W => parse_no y hy hp W) h2
    | some p =>
      obtain ⟨lp, sp⟩ := p
      exact labSays_a1 la sa lb sb lp sp y w hra hca h1 h1 h1 h1 h1 (writeIs_no w ha) hBe hJo hMe (fun W => refParse_yes y hy hp W) (fun W => parse_yes y hy hp W) h0
end Go.Proofs.YtaggpkoapnjmpaaDoor
