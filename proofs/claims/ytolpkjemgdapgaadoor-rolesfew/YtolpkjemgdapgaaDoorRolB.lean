/- What the small functions of package roles return: whether all are sets (areSets), how many things a set has (count); and how roles lie in memory. -/
import Derived.WalkKit
import Derived.LoopTactic
import Derived.Test.YtolpkjemgdapgaaDoorRolA
import Derived.Test.YtolpkjemgdapgaaDoorLst
namespace Go.Proofs.YtolpkjemgdapgaaDoor
open Go.RowKit
set_option maxRecDepth 100000

theorem ones64_walk (x y1 y2 y3 y4 y5 y6 y7 : Int) (w : World)
    (h1 : IntKind.u64.wrap (bits BinOp.and IntKind.u64 (x / 2) 6148914691236517205 + bits BinOp.and IntKind.u64 x 6148914691236517205) = y1)
    (h2 : IntKind.u64.wrap (bits BinOp.and IntKind.u64 (y1 / 4) 3689348814741910323 + bits BinOp.and IntKind.u64 y1 3689348814741910323) = y2)
    (h3 : bits BinOp.and IntKind.u64 (IntKind.u64.wrap (y2 / 16 + y2)) 1085102592571150095 = y3)
    (h4 : IntKind.u64.wrap (y3 + y3 / 256) = y4)
    (h5 : IntKind.u64.wrap (y4 + y4 / 65536) = y5)
    (h6 : IntKind.u64.wrap (y5 + y5 / 4294967296) = y6)
    (h7 : bits BinOp.and IntKind.i64 (wrap64 y6) 127 = y7) :
    Calls Tryd.prog 31 #[.int .u64 x] w fun e w' => e = .returned (.int .i64 y7) ∧ w' = w := by
  go_enter Tryd.func31, Tryd.ntmps31
  go_wp2
  go_ret
  exact ⟨rfl, rfl⟩
/-- Package bits' steps. -/
def ones1 (x : Int) : Int := IntKind.u64.wrap (bits BinOp.and IntKind.u64 (x / 2) 6148914691236517205 + bits BinOp.and IntKind.u64 x 6148914691236517205)
def ones2 (x : Int) : Int := IntKind.u64.wrap (bits BinOp.and IntKind.u64 (x / 4) 3689348814741910323 + bits BinOp.and IntKind.u64 x 3689348814741910323)
def ones3 (x : Int) : Int := bits BinOp.and IntKind.u64 (IntKind.u64.wrap (x / 16 + x)) 1085102592571150095
def ones4 (x : Int) : Int := IntKind.u64.wrap (x + x / 256)
def ones5 (x : Int) : Int := IntKind.u64.wrap (x + x / 65536)
def ones6 (x : Int) : Int := IntKind.u64.wrap (x + x / 4294967296)
def ones7 (x : Int) : Int := bits BinOp.and IntKind.i64 (wrap64 x) 127
theorem ones_fact : ∀ x : Nat, x < 256 → ones7 (ones6 (ones5 (ones4 (ones3 (ones2 (ones1 (x : Int))))))) = (pop x : Nat) := by decide +kernel
theorem ones64_any (x : Nat) (hx : x < 256) (w : World) :
    Calls Tryd.prog 31 #[.int .u64 x] w fun e w' => e = .returned (.int .i64 (pop x : Nat)) ∧ w' = w := by
  have h := ones64_walk (x : Int) _ _ _ _ _ _ _ w rfl rfl rfl rfl rfl rfl rfl
  have e := ones_fact x hx
  unfold ones7 ones6 ones5 ones4 ones3 ones2 ones1 at e
  rw [e] at h
  exact h
theorem ones_any (x : Nat) (hx : x < 256) (w : World) :
    Calls Tryd.prog 27 #[.int .u64 x] w fun e w' => e = .returned (.int .i64 (pop x : Nat)) ∧ w' = w := by
  have t1 := ones64_any x hx w
  go_enter Tryd.func27, Tryd.ntmps27
  go_wp2_with (go_at_call 31; refine t1.mono ?_; rintro e w' ⟨rfl, rfl⟩)
  go_ret
  exact ⟨rfl, rfl⟩
theorem count_any (x : Nat) (hx : x < 256) (w : World) :
    Calls Tryd.prog 20 #[.int .i64 x] w fun e w' => e = .returned (.int .i64 (pop x : Nat)) ∧ w' = w := by
  have t1 := ones_any x hx w
  go_enter Tryd.func20, Tryd.ntmps20
  go_wp2_with (go_at_call 27; refine t1.mono ?_; rintro e w' ⟨rfl, rfl⟩)
  go_ret
  exact ⟨rfl, rfl⟩

theorem areSets_any (a : Option Addr) (m cap k : Nat) (zs : List Int) (hk : k ≤ 12) (hm : m ≤ 12) (w : World) (h : AtNums w a m zs) :
    Calls Tryd.prog 13 #[.slice a m cap, .int .i64 k] w fun e w' => e = .returned (.bool (allG k m zs)) ∧ w' = w := by
  have hmk := fun z => isSet_any z k hk w
  have HG0 := Hid.mkI h
  clear h
  go_enter Tryd.func13, Tryd.ntmps13
  go_wp2
  go_loop [9] (fun i => ∃ j : Nat, j ≤ m ∧ i = .int .i64 j ∧ Hid (∀ i, i < j → Good k (zs[i]?.getD 0))) (fun i => m - (intOf i).toNat)
  case atStart => exact ⟨0, by omega, rfl, fun i h => absurd h (by omega)⟩
  case round =>
    obtain ⟨j, hj, rfl, HG⟩ := hrel
    by_cases hlt : j < m
    · obtain ⟨b, off, rfl, hn⟩ := HG0.out.resolve_left (show ¬ m = 0 by omega)
      have hc := hn.cell j hlt
      have hi : (j : Int) < (m : Int) := by omega
      have hmz := hmk (zs[j]?.getD 0)
      clear hmk hn
      by_cases hg : Good k (zs[j]?.getD 0)
      · rw [goodB_yes hg] at hmz
        have HZ : Hid (Good k (zs[j]?.getD 0)) := hg
        clear hg
        go_wp2_with (go_at_call 15; refine hmz.mono ?_; rintro e w' ⟨rfl, rfl⟩)
        go_round
        case rel => exact ⟨j + 1, by omega, by go_num, fun i hi => by
            by_cases e : i = j
            · subst e; exact HZ.out
            · exact HG.out i (by omega)⟩
        case measure => simp [intOf]; omega
      · rw [goodB_no hg] at hmz
        have HE : Hid (allG k m zs = false) := allG_no hlt hg
        clear hg
        go_wp2_with (go_at_call 15; refine hmz.mono ?_; rintro e w' ⟨rfl, rfl⟩)
        go_ret
        exact ⟨ret_bool HE.out.symm, rfl⟩
    · have HE : Hid (allG k m zs = true) := (allG_iff k m zs).2 fun i hi => HG.out i (by omega)
      clear hmk
      go_wp2
      go_ret
      exact ⟨ret_bool HE.out.symm, rfl⟩

/-- Roles as a value. -/
abbrev rolV (aU aA aM : Option Addr) (cU cA cM : Nat) (R : Rol) : Value := .agg #[.slice aU R.mu cU, .slice aA R.m cA, .slice aM R.mm cM, .int .i64 R.few, .int .i64 R.most]
/-- Where the lists of roles lie. -/
structure AtRol (w : World) (aU aA aM : Option Addr) (R : Rol) : Prop where
  us : AtNums w aU R.mu R.us
  ab : AtNums w aA R.m R.ab
  ma : AtNums w aM R.mm R.ma
  lu : R.mu ≤ R.us.length
  la : R.m ≤ R.ab.length
  lm : R.mm ≤ R.ma.length
theorem AtRol.below {w w' : World} {aU aA aM : Option Addr} {R : Rol} (h : AtRol w aU aA aM R) (hb : Below w.heap.size w w') : AtRol w' aU aA aM R :=
  ⟨h.us.below hb, h.ab.below hb, h.ma.below hb, h.lu, h.la, h.lm⟩
/-- What lies in the place of roles. -/
structure Box5 (W : World) (B : Nat) (v0 v1 v2 v3 v4 : Value) : Prop where
  c0 : W.cell? ⟨B, 0, none⟩ = some v0
  c1 : W.cell? ⟨B, 1, none⟩ = some v1
  c2 : W.cell? ⟨B, 2, none⟩ = some v2
  c3 : W.cell? ⟨B, 3, none⟩ = some v3
  c4 : W.cell? ⟨B, 4, none⟩ = some v4
theorem Box5.below {W W' : World} {B : Nat} {v0 v1 v2 v3 v4 : Value} (h : Box5 W B v0 v1 v2 v3 v4) (b : Below W.heap.size W W') : Box5 W' B v0 v1 v2 v3 v4 :=
  ⟨keep_cell b h.c0, keep_cell b h.c1, keep_cell b h.c2, keep_cell b h.c3, keep_cell b h.c4⟩
theorem Box5.new (W : World) (v0 v1 v2 v3 v4 : Value) (t : TypeId) : Box5 (W.alloc (.cells #[v0, v1, v2, v3, v4] t)) W.heap.size v0 v1 v2 v3 v4 := by
  have h1 := World.alloc_heap_new W (.cells #[v0, v1, v2, v3, v4] t)
  refine ⟨?_, ?_, ?_, ?_, ?_⟩
  all_goals simp only [World.cell?]; rw [h1]; simp
/-- Is a number a user? -/
theorem isUserR_any (aU aA aM : Option Addr) (cU cA cM : Nat) (R : Rol) (i : Int) (w : World) :
    Calls Tryd.prog 11 #[rolV aU aA aM cU cA cM R, .int .i64 i] w fun e w' => e = .returned (.bool (inB i R.mu)) ∧ Below w.heap.size w w' := by
  obtain ⟨mu, us, m, ab, mm, ma, few, most⟩ := R
  simp only
  have hB : Below w.heap.size w (w.alloc (.cells #[.slice aU mu cU, .slice aA m cA, .slice aM mm cM, .int .i64 few, .int .i64 most] 24)) := (Below.refl _ w).alloc (Nat.le_refl _) _
  by_cases h0 : 0 ≤ i
  · have HR : Hid (inB i mu = decide (i < (mu : Int))) := by show _ = _; unfold inB; simp [h0]
    go_enter Tryd.func11, Tryd.ntmps11
    go_wp2
    go_ret
    exact ⟨by rw [HR.out]; rfl, hB⟩
  · have HR : Hid (inB i mu = false) := by show _ = _; unfold inB; simp [h0]
    go_enter Tryd.func11, Tryd.ntmps11
    go_wp2
    go_ret
    exact ⟨by rw [HR.out]; rfl, hB⟩
end Go.Proofs.YtolpkjemgdapgaaDoor
