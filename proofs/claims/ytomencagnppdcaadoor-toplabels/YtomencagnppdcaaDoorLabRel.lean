/- Plain facts on the relation of who is below whom of labels: it is its own closure, has no ring if no label stands twice, and joins and meets of labels are its bounds. -/
import Derived.Test.YtomencagnppdcaaDoorLabBnd
import Derived.Test.YtomencagnppdcaaDoorBnd
namespace Go.Proofs.YtomencagnppdcaaDoor

/-- Labels, none of which stands twice. -/
structure Apart (m : Nat) (L S : Nat → Nat) : Prop where
  few : m ≤ 12
  lev : ∀ k, k < m → L k ≤ 7
  set : ∀ k, k < m → S k < 256
  two : ∀ a b, a < m → b < m → a ≠ b → ¬ (L a = L b ∧ S a = S b)
/-- Those that one is below. -/
def upP (L S : Nat → Nat) (a b : Nat) : Bool := belB (L a) (S a) (L b) (S b)
def upN (m : Nat) (L S : Nat → Nat) (a : Nat) : Nat := setOf (upP L S a) m
theorem upN_bit (m : Nat) (L S : Nat → Nat) (a b : Nat) : (upN m L S a).testBit b = true ↔ b < m ∧ upP L S a b = true := setOf_bit _ m b
theorem upN_lt (m : Nat) (L S : Nat → Nat) (a : Nat) : upN m L S a < 2 ^ m := setOf_lt _ m
theorem setOf_yes {p : Nat → Bool} {k : Nat} (h : p k = true) : setOf p (k + 1) = setOf p k + 2 ^ k := by
  have e := Nat.two_pow_add_eq_or_of_lt (setOf_lt p k) 1
  rw [Nat.mul_one] at e
  rw [setOf, if_pos h, Nat.or_comm, ← e, Nat.add_comm]
theorem setOf_no {p : Nat → Bool} {k : Nat} (h : p k = false) : setOf p (k + 1) = setOf p k := by
  rw [setOf, if_neg (by rw [h]; decide)]
theorem upN_right {m : Nat} {L S : Nat → Nat} (hm : m ≤ 12) : Right m (listOf m (upN m L S)) := listOf_right hm fun i _ => upN_lt m L S i
theorem come_up {m : Nat} {L S : Nat → Nat} (hm : m ≤ 12) {a : Nat} (ha : a < m) : come m (listOf m (upN m L S)) a = upN m L S a := by
  have hr := upN_right (L := L) (S := S) hm
  refine eq_of_bits fun j => ?_
  rw [come_bit hr ha]
  constructor
  · intro h
    refine h (fun i => (upN m L S a).testBit i = true) ((upN_bit ..).2 ⟨ha, belB_self _ _⟩) fun i j hi hj => ?_
    obtain ⟨him, hi⟩ := (upN_bit ..).1 hi
    rw [listOf_get _ him] at hj
    obtain ⟨hjm, hj⟩ := (upN_bit ..).1 hj
    exact (upN_bit ..).2 ⟨hjm, belB_trans hi hj⟩
  · intro h
    exact (Reach.refl _ a).step (by rw [listOf_get _ ha]; exact h)
theorem ring_up {m : Nat} {L S : Nat → Nat} (h : Apart m L S) : noRing m (come m (listOf m (upN m L S))) = true := by
  rw [noRing_iff]
  intro i k hi hk hne hb
  rw [come_up h.few hi] at hb
  rw [come_up h.few hk]
  cases hc : (upN m L S k).testBit i with
  | false => rfl
  | true =>
    obtain ⟨_, h1⟩ := (upN_bit ..).1 hb
    obtain ⟨_, h2⟩ := (upN_bit ..).1 hc
    exact absurd (belB_anti h1 h2) (h.two i k hi hk hne)
theorem lat_up {m : Nat} {L S : Nat → Nat} (h : Apart m L S) : Lat m (come m (listOf m (upN m L S))) := lat_of (upN_right h.few) (ring_up h)
theorem come_up_bit {m : Nat} {L S : Nat → Nat} (hm : m ≤ 12) {a : Nat} (ha : a < m) (b : Nat) : (come m (listOf m (upN m L S)) a).testBit b = true ↔ b < m ∧ upP L S a b = true := by rw [come_up hm ha]; exact upN_bit m L S a b
theorem join_up {m : Nat} {L S : Nat → Nat} (h : Apart m L S) {i j k : Nat} (hi : i < m) (hj : j < m) (hk : k < m) (e1 : L k = max (L i) (L j)) (e2 : S k = S i ||| S j) :
    bnd m (come m (listOf m (upN m L S))) i j = some k := by
  have hb : ∀ x, upP L S k x = (upP L S i x && upP L S j x) := fun x => by unfold upP; rw [e1, e2]; exact belB_join _ _ _ _ _ _
  have hs := hb k
  rw [show upP L S k k = true from belB_self _ _] at hs
  obtain ⟨h1, h2⟩ := (Bool.and_eq_true _ _).mp hs.symm
  refine bnd_of (lat_up h) ⟨hk, (come_up_bit h.few hi k).2 ⟨hk, h1⟩, (come_up_bit h.few hj k).2 ⟨hk, h2⟩, fun x hx ha hb' => (come_up_bit h.few hk x).2 ⟨hx, ?_⟩⟩
  rw [hb, ((come_up_bit h.few hi x).1 ha).2, ((come_up_bit h.few hj x).1 hb').2]; rfl
theorem meet_up {m : Nat} {L S : Nat → Nat} (h : Apart m L S) {i j k : Nat} (hi : i < m) (hj : j < m) (hk : k < m) (e1 : L k = min (L i) (L j)) (e2 : S k = S i &&& S j) :
    bnd m (turnN m (come m (listOf m (upN m L S)))) i j = some k := by
  have hb : ∀ x, upP L S x k = (upP L S x i && upP L S x j) := fun x => by unfold upP; rw [e1, e2]; exact belB_meet _ _ _ _ _ _
  have hs := hb k
  rw [show upP L S k k = true from belB_self _ _] at hs
  obtain ⟨h1, h2⟩ := (Bool.and_eq_true _ _).mp hs.symm
  have tb : ∀ {q} (x : Nat), q < m → ((turnN m (come m (listOf m (upN m L S))) q).testBit x = true ↔ x < m ∧ upP L S x q = true) := fun {q} x hq => by
    rw [turnN_bit]
    constructor
    · rintro ⟨hx, hb⟩; exact ⟨hx, ((come_up_bit h.few hx q).1 hb).2⟩
    · rintro ⟨hx, hb⟩; exact ⟨hx, (come_up_bit h.few hx q).2 ⟨hq, hb⟩⟩
  refine bnd_of (lat_turn (lat_up h)) ⟨hk, (tb k hi).2 ⟨hk, h1⟩, (tb k hj).2 ⟨hk, h2⟩, fun x hx ha hb' => (tb x hk).2 ⟨hx, ?_⟩⟩
  rw [hb, ((tb x hi).1 ha).2, ((tb x hj).1 hb').2]; rfl
end Go.Proofs.YtomencagnppdcaaDoor
