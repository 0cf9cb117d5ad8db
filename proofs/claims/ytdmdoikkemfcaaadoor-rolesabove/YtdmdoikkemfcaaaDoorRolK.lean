/- The walk of the law RolesAbove. -/
import Derived.WalkKit
import Derived.LoopTactic
import Derived.OwnWalk
import Derived.Maps.AppendAt
import Derived.StillTailTactics
import Derived.Test.YtdmdoikkemfcaaaDoorRolI
namespace Go.Proofs.YtdmdoikkemfcaaaDoor
open Go.RowKit
set_option maxRecDepth 100000

/-- Roles with one user's roles put anew, and none told apart. -/
def Rol.put (R : Rol) (u n : Nat) : Rol := ⟨R.mu, R.us.set u (n : Int), R.m, R.ab, R.mm, R.ma, R.few, 8⟩
theorem set_get {zs : List Int} {u i : Nat} {x : Int} (hu : u < zs.length) : (zs.set u x)[i]?.getD 0 = if i = u then x else zs[i]?.getD 0 := by
  rw [List.getElem?_set]
  by_cases e : u = i
  · subst e; rw [if_pos rfl, if_pos hu, if_pos rfl]; rfl
  · rw [if_neg e, if_neg (fun h => e h.symm)]
theorem put_nums {W : World} {g m u : Nat} {zs : List Int} {x : Int} (h : Nums W g 0 m zs) (hu : u < m) (hm : m ≤ zs.length) : Nums (W.setCell ⟨g, u, none⟩ (.int .i64 x)) g 0 m (zs.set u x) := by
  refine ⟨by have := h.old; simp [World.setCell]; exact this, fun i hi => ?_⟩
  rw [set_get (by omega), Nat.zero_add]
  have hc := h.cell i hi
  rw [Nat.zero_add] at hc
  by_cases e : i = u
  · subst e
    rw [if_pos rfl]
    exact World.cell?_setCell_same' _ _ _ (by rw [hc]; rfl)
  · rw [if_neg e, ← hc]
    exact cell_far (by omega)
section
variable {R : Rol}
theorem Rol.put_ok (h : R.Ok) (hz : R.m ≤ R.ab.length) (lu : R.mu ≤ R.us.length) {u n : Nat} (hu : u < R.mu) (hn : n < 2 ^ R.m) : (R.put u n).Ok where
  mu8 := h.mu8
  m8 := h.m8
  mm := h.mm
  us := fun i hi => by
    have hi1 : i < R.mu := hi
    show Good R.m ((R.us.set u (n : Int))[i]?.getD 0)
    rw [set_get (by omega)]
    split
    · exact ⟨by omega, by omega⟩
    · exact h.us i hi1
  ab := h.ab
  ring := h.ring
  ma := h.ma
  few := h.few
  m0 := by show (0 : Int) ≤ 8; decide
  m1 := by show (8 : Int) ≤ 8; decide
  over := over_no fun i _ => by
    show decide ((8 : Int) < (pop ((R.put u n).has ((R.put u n).own i) &&& R.few.toNat) : Nat)) = false
    have hl : (R.put u n).has ((R.put u n).own i) &&& R.few.toNat < 2 ^ R.m := Nat.lt_of_le_of_lt Nat.and_le_left (h.has_lt hz ((R.put u n).own i))
    have := pop_le (m := R.m) (by have := h.m8; omega) hl
    have := h.m8
    exact decide_eq_false (by omega)
theorem Rol.put_own (lu : R.mu ≤ R.us.length) {u n : Nat} (hu : u < R.mu) : (R.put u n).own u = n := by
  show ((R.us.set u (n : Int))[u]?.getD 0).toNat = n
  rw [set_get (by omega), if_pos rfl]
  rfl
theorem Rol.put_may (h : R.Ok) (hz : R.m ≤ R.ab.length) (lu : R.mu ≤ R.us.length) {u n : Nat} (hu : u < R.mu) (hn : n < 2 ^ R.m) : (R.put u n).mayN u = R.tasks n := by
  rw [Rol.mayN_in (u := u) (Rol.put_ok h hz lu hu hn) hu, Rol.put_own lu hu]; rfl
theorem Rol.put_has (h : R.Ok) (hz : R.m ≤ R.ab.length) (lu : R.mu ≤ R.us.length) {u n : Nat} (hu : u < R.mu) (hn : n < 2 ^ R.m) : (R.put u n).hasN u = R.has n := by
  rw [Rol.hasN_in (u := u) (Rol.put_ok h hz lu hu hn) hu, Rol.put_own lu hu]; rfl
theorem Rol.put_hasC (h : R.Ok) (hz : R.m ≤ R.ab.length) (lu : R.mu ≤ R.us.length) {u n : Nat} (hu : u < R.mu) (hn : n < 2 ^ R.m) : (R.put u n).hasC u = 0 := Rol.hasC_in (Rol.put_ok h hz lu hu hn) hu
theorem put_at {W : World} {g : Nat} {aA aM : Option Addr} {u n : Nat} (hu : Nums W g 0 R.mu (R.us.set u (n : Int))) (ha : AtNums W aA R.m R.ab) (hm : AtNums W aM R.mm R.ma) (lu : R.mu ≤ R.us.length) (la : R.m ≤ R.ab.length) (lm : R.mm ≤ R.ma.length) : AtRol W (some ⟨g, 0, none⟩) aA aM (R.put u n) :=
  ⟨.inr ⟨g, 0, rfl, hu⟩, ha, hm, by show R.mu ≤ (R.us.set u (n : Int)).length; rw [List.length_set]; exact lu, la, lm⟩
end
theorem abv_set {w6 : World} {B g u mu cp : Nat} {us : List Int} {y : Int} {v0 v1 v2 v3 v4 : Value} (hbx : Box5 w6 B v0 v1 v2 v3 v4) (hg : B < g) (hn : Nums w6 g 0 mu us) (hu : u < mu) (hl : mu ≤ us.length) (hf : w6.frozen? ⟨g, u, none⟩ = false) :
    ∃ W7 W8, w6.setCell ⟨B, 0, none⟩ (.slice (some ⟨g, 0, none⟩) mu cp) = W7 ∧ W7.setCell ⟨g, u, none⟩ (.int .i64 y) = W8 ∧ W7.cell? ⟨B, 0, none⟩ = some (.slice (some ⟨g, 0, none⟩) mu cp) ∧
      W7.cell? ⟨g, u, none⟩ = some (.int .i64 (us[u]?.getD 0)) ∧ W7.frozen? ⟨g, u, none⟩ = false ∧ Box5 W8 B (.slice (some ⟨g, 0, none⟩) mu cp) v1 v2 v3 v4 ∧ Nums W8 g 0 mu (us.set u y) ∧ W8.frozen? ⟨g, u, none⟩ = false ∧ ∀ n, n ≤ B → Below n w6 W8 := by
  obtain ⟨W7, hW7⟩ : ∃ W, w6.setCell ⟨B, 0, none⟩ (.slice (some ⟨g, 0, none⟩) mu cp) = W := ⟨_, rfl⟩
  obtain ⟨W8, hW8⟩ : ∃ W, W7.setCell ⟨g, u, none⟩ (.int .i64 y) = W := ⟨_, rfl⟩
  have c7 : W7.cell? ⟨B, 0, none⟩ = some (.slice (some ⟨g, 0, none⟩) mu cp) := by rw [← hW7]; exact World.cell?_setCell_same' _ _ _ (by rw [hbx.c0]; rfl)
  have o7 : ∀ o, o ≠ 0 → W7.cell? ⟨B, o, none⟩ = w6.cell? ⟨B, o, none⟩ := fun o ho => by rw [← hW7]; exact cell_far (by omega)
  have n7 : Nums W7 g 0 mu us := by
    refine ⟨?_, fun i hi => ?_⟩
    · rw [← hW7]; have := hn.old; simp [World.setCell]; exact this
    · rw [← hW7, ← hn.cell i hi]; exact cell_far (by omega)
  have f7 : W7.frozen? ⟨g, u, none⟩ = false := by rw [← hW7]; exact (World.frozen?_setCell _ _ _ _).trans hf
  have o8 : ∀ o, W8.cell? ⟨B, o, none⟩ = W7.cell? ⟨B, o, none⟩ := fun o => by rw [← hW8]; exact cell_far (by omega)
  refine ⟨W7, W8, hW7, hW8, c7, by rw [← n7.cell u hu, Nat.zero_add], f7, ⟨(o8 0).trans c7, (o8 1).trans ((o7 1 (by decide)).trans hbx.c1), (o8 2).trans ((o7 2 (by decide)).trans hbx.c2), (o8 3).trans ((o7 3 (by decide)).trans hbx.c3), (o8 4).trans ((o7 4 (by decide)).trans hbx.c4)⟩, by rw [← hW8]; exact put_nums n7 hu hl, by rw [← hW8]; exact (World.frozen?_setCell _ _ _ _).trans f7, fun n hn => ?_⟩
  rw [← hW8, ← hW7]
  exact ((Below.refl _ w6).setCell (p := ⟨B, 0, none⟩) hn _).setCell (p := ⟨g, u, none⟩) (Nat.le_trans hn (Nat.le_of_lt hg)) _
theorem or_sub (a b : Nat) : subB a (a ||| b) = true := (subB_iff _ _).2 fun j hj => by rw [Nat.testBit_or, hj]; rfl

set_option maxHeartbeats 4000000 in
theorem rolesAbove_any (aU aA aM : Option Addr) (cU cA cM : Nat) (R : Rol) (user more : Int) (w : World) (hA : AtRol w aU aA aM R) (hT : Tab w) :
    Calls Tryd.prog 7 #[rolV aU aA aM cU cA cM R, .int .i64 user, .int .i64 more] w fun e w' => e = .returned (.bool true) ∧ Below w.heap.size w w' := by
  obtain ⟨w1, hw1⟩ : ∃ w1, w.alloc (.cells #[.slice aU R.mu cU, .slice aA R.m cA, .slice aM R.mm cM, .int .i64 R.few, .int .i64 R.most] 39) = w1 := ⟨_, rfl⟩
  have hB0 : Below w.heap.size w w1 := by rw [← hw1]; exact (Below.refl _ w).alloc (Nat.le_refl _) _
  have hx : Box5 w1 w.heap.size (.slice aU R.mu cU) (.slice aA R.m cA) (.slice aM R.mm cM) (.int .i64 R.few) (.int .i64 R.most) := by rw [← hw1]; exact Box5.new _ _ _ _ _ _ _
  have hA1 := hA.below hB0
  have hT1 := hT.below hB0 hT.size
  have t0 := rolesFact_any w1 hT1
  have t1 := fun W (hb : Below w1.heap.size w1 W) => rmay_any aU aA aM cU cA cM R user W (hA1.below hb) (hT1.below hb hT1.size)
  have t2 := fun W (hb : Below w1.heap.size w1 W) => rhas_any aU aA aM cU cA cM R user W (hA1.below hb) (hT1.below hb hT1.size)
  have HX := Hid.mkI hx
  obtain ⟨x0, x1, x2, x3, x4⟩ := id hx
  by_cases hc : R.hasC user = 0
  · obtain ⟨hk, u, rfl, hu⟩ := hasC_zero hc
    rw [Rol.mayN_in hk hu, hc, errV_zero] at t1
    rw [Rol.hasN_in hk hu, hc, errV_zero] at t2
    have hall := hk.has_lt hA1.la (R.own u)
    have h8 := pow8 hk.m8
    have hol := hk.own_lt hu
    have hxl := hk.tasks_lt (R.own u)
    have hsub := hk.has_sub hA1.la hol
    have hidem := hk.has_has hA1.la hol
    have htas : R.tasks (R.has (R.own u)) = R.tasks (R.own u) := by unfold Rol.tasks; rw [hidem]
    obtain ⟨bU, oU, rfl, hs⟩ := hA1.us.resolve_left (show ¬ R.mu = 0 by omega)
    have hgd := hk.us u hu
    have hoe : R.us[u]?.getD 0 = ((R.own u : Nat) : Int) := by unfold Rol.own; have := hgd.1; omega
    have hcu := hs.cell u hu
    rw [hoe] at hcu
    have tM := fun (n : Nat) (hn : n < 2 ^ R.m) g cap W (hN : Nums W g 0 R.mu (R.us.set u (n : Int))) (hb : Below w1.heap.size w1 W) => rmay_any (some ⟨g, 0, none⟩) aA aM cap cA cM (R.put u n) u W (put_at hN (hA1.ab.below hb) (hA1.ma.below hb) hA1.lu hA1.la hA1.lm) (hT1.below hb hT1.size)
    have tM' : ∀ n : Nat, n < 2 ^ R.m → ∀ g cap W, Nums W g 0 R.mu (R.us.set u (n : Int)) → Below w1.heap.size w1 W → Calls Tryd.prog 20 #[.agg #[.slice (some ⟨g, 0, none⟩) R.mu cap, .slice aA R.m cA, .slice aM R.mm cM, .int .i64 R.few, .int .i64 8], .int .i64 u] W fun e w' => e = .returned (.tuple #[.int .i64 (R.tasks n : Nat), .nilIface]) ∧ Below W.heap.size W w' := fun n hn g cap W hN hb => by
      have := tM n hn g cap W hN hb
      rw [Rol.put_may hk hA1.la hA1.lu hu hn, Rol.put_hasC hk hA1.la hA1.lu hu hn, errV_zero] at this
      exact this
    have tH := fun (n : Nat) (hn : n < 2 ^ R.m) g cap W (hN : Nums W g 0 R.mu (R.us.set u (n : Int))) (hb : Below w1.heap.size w1 W) => rhas_any (some ⟨g, 0, none⟩) aA aM cap cA cM (R.put u n) u W (put_at hN (hA1.ab.below hb) (hA1.ma.below hb) hA1.lu hA1.la hA1.lm) (hT1.below hb hT1.size)
    have tH' : ∀ n : Nat, n < 2 ^ R.m → ∀ g cap W, Nums W g 0 R.mu (R.us.set u (n : Int)) → Below w1.heap.size w1 W → Calls Tryd.prog 19 #[.agg #[.slice (some ⟨g, 0, none⟩) R.mu cap, .slice aA R.m cA, .slice aM R.mm cM, .int .i64 R.few, .int .i64 8], .int .i64 u] W fun e w' => e = .returned (.tuple #[.int .i64 (R.has n : Nat), .nilIface]) ∧ Below W.heap.size W w' := fun n hn g cap W hN hb => by
      have := tH n hn g cap W hN hb
      rw [Rol.put_has hk hA1.la hA1.lu hu hn, Rol.put_hasC hk hA1.la hA1.lu hu hn, errV_zero] at this
      exact this
    have HMono : Hid (∀ n : Nat, n < 2 ^ R.m → subB (R.has (R.own u)) n = true → subB (R.tasks (R.own u)) (R.tasks n) = true) := fun n hn q => by
      rw [← htas]; exact hk.tasks_mono hA1.la hall hn q
    have HTl : Hid (∀ s, R.tasks s < 1024) := fun s => hk.tasks_lt s
    have tHa := tH' _ hall
    have tMa := tM' _ hall
    rw [hidem] at tHa
    rw [htas] at tMa
    obtain ⟨all, hae⟩ : ∃ x, R.has (R.own u) = x := ⟨_, rfl⟩
    rw [hae] at t2 hall hsub HMono tHa tMa
    obtain ⟨x, hxe⟩ : ∃ x, R.tasks (R.own u) = x := ⟨_, rfl⟩
    rw [hxe] at t1 tMa hxl HMono
    obtain ⟨s, hse⟩ : ∃ s, R.own u = s := ⟨_, rfl⟩
    rw [hse] at hcu hsub hol
    have tW1 := within_any s all (by omega) (by omega)
    rw [hsub] at tW1
    have g0 : (0 : Int) ≤ (all : Int) := by omega
    have g1 : (all : Int) ≤ 255 := by omega
    have g2 : (0 : Int) ≤ (x : Int) := by omega
    have g3 : (x : Int) ≤ 1023 := by omega
    have hui : (u : Int) < (R.mu : Int) := by omega
    have hmu := hk.mu8
    have HN := Hid.mkI hs
    have HO := Hid.mkI hB0
    have HK := Hid.mkI hk
    have HR := Hid.mkI (And.intro hA1.lu (And.intro hall (And.intro hu h8)))
    clear hA hT hA1 hT1 hc hk hx hB0 hall h8 hol hxl hsub hidem htas hs hgd hoe tM tH hae hxe hse
    go_enter Tryd.func7, Tryd.ntmps7
    go_wp2_with fail
    refine t0.mono ?_
    clear t0
    rintro e w2 ⟨rfl, hB2⟩
    obtain ⟨y0, y1, y2, y3, y4⟩ := HX.out.below hB2
    have t1 := t1 w2 hB2
    go_wp2_with fail
    refine t1.mono ?_
    clear t1
    rintro e w3 ⟨rfl, hB3'⟩
    have hB3 := hB2.trans (hB3'.mono hB2.size)
    clear hB2 hB3' y0 y1 y2 y3 y4
    obtain ⟨y0, y1, y2, y3, y4⟩ := HX.out.below hB3
    have t2 := t2 w3 hB3
    go_wp2_with fail
    refine t2.mono ?_
    clear t2
    rintro e w4 ⟨rfl, hB4'⟩
    have hB4 := hB3.trans (hB4'.mono hB3.size)
    clear hB3 hB4' y0 y1 y2 y3 y4
    obtain ⟨y0, y1, y2, y3, y4⟩ := HX.out.below hB4
    have hc4 := keep_cell hB4 hcu
    have tW1 := tW1 w4
    go_wp2_with fail
    refine tW1.mono ?_
    clear tW1
    rintro e w' ⟨rfl, hw'⟩
    obtain rfl := hw'.symm
    clear hw'
    obtain ⟨W5, hW5⟩ : ∃ W, w4.alloc (.cells #[.slice none 0 0, .slice aA R.m cA, .slice aM R.mm cM, .int .i64 R.few, .int .i64 8] 39) = W := ⟨_, rfl⟩
    have hB5' : Below w4.heap.size w4 W5 := by rw [← hW5]; exact (Below.refl _ w4).alloc (Nat.le_refl _) _
    have hB5 := hB4.trans (hB5'.mono hB4.size)
    have hs5 : W5.heap.size = w4.heap.size + 1 := by rw [← hW5]; simp
    have hz : Box5 W5 w4.heap.size (.slice none 0 0) (.slice aA R.m cA) (.slice aM R.mm cM) (.int .i64 R.few) (.int .i64 8) := by rw [← hW5]; exact Box5.new _ _ _ _ _ _ _
    have fz : W5.frozen? ⟨w4.heap.size, 0, none⟩ = false := by
      have h1 := World.alloc_heap_new w4 (.cells #[.slice none 0 0, .slice aA R.m cA, .slice aM R.mm cM, .int .i64 R.few, .int .i64 8] 39)
      rw [hW5] at h1
      simp only [World.frozen?]
      rw [h1]; simp
    obtain ⟨z0, z1, z2, z3, z4⟩ := id hz
    obtain ⟨v0, v1, v2, v3, v4⟩ := HX.out.below hB5
    have HZ := Hid.mkI hz
    have hnum : Nums W5 bU oU R.mu R.us := Nums.below HN.out hB5
    have HLE : Hid (w1.heap.size ≤ w4.heap.size) := hB4.size
    obtain ⟨i0, hi0, hz0, hz1, hz2⟩ := info_parts info3i
    have hnews : ∀ (j : Nat) (v : Value), (rowI R.mu fun i => R.us[i]?.getD 0)[j]? = some v → W5.cell? ((⟨bU, oU, none⟩ : Addr).add j) = some v := fun j v hj => by
      have hjl : j < R.mu := by
        have := (List.getElem?_eq_some_iff.1 hj).1
        simpa [rowI] using this
      rw [rowI_get _ hjl] at hj
      rw [Go.WideShapes.add_plain, hnum.cell j hjl]
      exact hj
    have hone : ∀ v ∈ (rowI R.mu fun i => R.us[i]?.getD 0), v.oneCell' = true := fun v hv => by
      simp only [rowI, List.mem_map] at hv
      obtain ⟨_, _, rfl⟩ := hv
      rfl
    have hlen : (rowI R.mu fun i => R.us[i]?.getD 0).length = R.mu * 1 := by simp [rowI]
    have h63 : 0 + R.mu ≤ maxLen := by unfold maxLen; omega
    have hbt : (0 + R.mu) * 8 ≤ 140737488355328 := by omega
    clear hz hnum hcu x0 x1 x2 x3 x4
    have HFix : Hid (∀ v' w6, w6.ownsRow W5.heap.size 3 1 v' (0 + R.mu) ([] ++ rowI R.mu fun i => R.us[i]?.getD 0) → W5.grownBy w6 (Value.slice none 0 0).ownBlock → ∃ g cp, v' = .slice (some ⟨g, 0, none⟩) R.mu cp ∧ W5.heap.size ≤ g ∧ Nums w6 g 0 R.mu R.us ∧ (∀ j, j < R.mu → w6.frozen? ⟨g, j, none⟩ = false) ∧ Below W5.heap.size W5 w6) := fun v' w6 hown hgrow => by
      rw [Nat.zero_add, List.nil_append] at hown
      obtain ⟨a, g, cp, rfl, hq⟩ := row_form hown
      have hmu0 : 0 < R.mu := by omega
      obtain ⟨rfl, hg, hc, hf⟩ := hq hmu0
      refine ⟨g, cp, rfl, hg, ⟨old_of_cell (hc 0 _ (rowI_get _ hmu0)), fun i hi => ?_⟩, fun j hj => hf j _ (rowI_get _ hj), (Below.refl _ W5).grown hgrow (Nat.le_refl _) (fun k hk => by cases hk)⟩
      rw [Nat.zero_add]
      exact hc i _ (rowI_get _ hi)
    go_wp2_with (at_builtin; refine wpList_append_own_at _ rfl _ _ 34 rfl W5.heap.size 3 i0 (.int .i64 0) 1 8 Tryd.underlying34 hi0 hz0 hz1 hz2 rfl (by decide) _ 0 [] rfl (World.ownsRow_nil _ _ _ _) ⟨bU, oU, none⟩ R.mu cU (rowI R.mu fun i => R.us[i]?.getD 0) rfl hlen hnews hone h63 hbt (Nat.le_refl _) ?_; intro v' w6 hown hgrow hnil hat; obtain ⟨g, cp, rfl, hg, hnum6, hfr6, hB6'⟩ := HFix.out v' w6 hown hgrow; obtain ⟨q0, q1, q2, q3, q4⟩ := HZ.out.below hB6'; have fq := (hB6'.frozen (p := ⟨w4.heap.size, 0, none⟩) (World.block_lt_of_cell? _ _ z0)).trans fz; obtain ⟨W7, W8, hW7, hW8, c7, d7, f7, hb8, hn8, f8, hB8'⟩ := abv_set (cp := cp) (y := (all : Int)) (HZ.out.below hB6') (by omega) hnum6 (HR.out.2.2.1) (HR.out.1) (hfr6 u HR.out.2.2.1); obtain ⟨r0, r1, r2, r3, r4⟩ := id hb8; have hB6 : Below w1.heap.size w1 w6 := hB5.trans (hB6'.mono hB5.size); have hB8 : Below w1.heap.size w1 W8 := hB6.trans (hB8' _ HLE.out); have tMa := tMa g cp W8 hn8 hB8; clear hown hgrow hnil hat z0 z1 z2 z3 z4 hB8')
    refine tMa.mono ?_
    clear tMa
    rintro e w9 ⟨rfl, hB9'⟩
    have hB9 := hB8.trans (hB9'.mono hB8.size)
    have hn9 := Nums.below hn8 hB9'
    have hb9 := hb8.below hB9'
    have f9 := (hB9'.frozen (p := ⟨g, u, none⟩) hn8.old).trans f8
    have tHa := tHa g cp w9 hn9 hB9
    clear hW7 hW8 c7 d7 f7 hb8 hn8 f8 r0 r1 r2 r3 r4 hB8 hB9' hB6 hB6' hnum6 hfr6 q0 q1 q2 q3 q4 fq HFix hnews hone hlen h63 hbt hB5 hB5' fz v0 v1 v2 v3 v4 HZ
    obtain ⟨r0, r1, r2, r3, r4⟩ := id hb9
    go_wp2_with fail
    refine tHa.mono ?_
    clear tHa
    rintro e wa ⟨rfl, hBa'⟩
    have hBa := hB9.trans (hBa'.mono hB9.size)
    have hna := Nums.below hn9 hBa'
    have hba := hb9.below hBa'
    have fa := (hBa'.frozen (p := ⟨g, u, none⟩) hn9.old).trans f9
    obtain ⟨v0, v1, v2, v3, v4⟩ := HX.out.below hBa
    clear hn9 hb9 f9 hBa' r0 r1 r2 r3 r4 hB9
    have HBend : Hid (Below w.heap.size w wa) := HO.out.trans (hBa.mono HO.out.size)
    by_cases o0 : more < 0
    · clear tM' tH' hna hba fa
      go_wp2
      go_ret
      exact ⟨rfl, HBend.out⟩
    · obtain ⟨j, rfl⟩ : ∃ j : Nat, more = (j : Int) := ⟨more.toNat, by omega⟩
      have o1 : (0 : Int) ≤ (j : Int) := by omega
      by_cases o2 : R.m ≤ j
      · have o3 : (R.m : Int) ≤ (j : Int) := by omega
        clear tM' tH' hna hba fa o0
        go_wp2
        go_ret
        exact ⟨rfl, HBend.out⟩
      · have o3 : (j : Int) < (R.m : Int) := by omega
        have hjm : j < R.m := by omega
        have tWith := fun W => with_any all j (by have := HR.out; omega) (by have := HK.out.m8; omega) W
        have hnl : all ||| 2 ^ j < 2 ^ R.m := Nat.or_lt_two_pow HR.out.2.1 (Nat.pow_lt_pow_right (by decide) hjm)
        have hsb := HMono.out _ hnl (or_sub all (2 ^ j))
        have tMn := tM' _ hnl
        have hzl := HTl.out (all ||| 2 ^ j)
        obtain ⟨z, hze⟩ : ∃ z, R.tasks (all ||| 2 ^ j) = z := ⟨_, rfl⟩
        rw [hze] at tMn hsb hzl
        obtain ⟨n2, hn2⟩ : ∃ z, all ||| 2 ^ j = z := ⟨_, rfl⟩
        rw [hn2] at tWith tMn
        have tW2 := fun W => within_any x z (by omega) (by omega) W
        rw [hsb] at tW2
        have z0 : (0 : Int) ≤ (z : Int) := by omega
        have z1 : (z : Int) ≤ 1023 := by omega
        clear tM' tH' o0 o2 hze hn2 hsb hnl hzl hjm
        go_wp2_with fail
        refine wp_region_still_tail 7 (by kernel_rfl) (by kernel_rfl) ?_
        simp only [List.take_succ_cons, List.take_zero, List.drop_succ_cons, List.drop_zero]
        have hBd : Below w1.heap.size w1 wa.drew := below_drawn hBa 1
        have hnd : Nums wa.drew g 0 R.mu (R.us.set u (all : Int)) := ⟨hna.old, hna.cell⟩
        have hbd : Box5 wa.drew w4.heap.size (.slice (some ⟨g, 0, none⟩) R.mu cp) (.slice aA R.m cA) (.slice aM R.mm cM) (.int .i64 R.few) (.int .i64 8) := ⟨hba.c0, hba.c1, hba.c2, hba.c3, hba.c4⟩
        have fd : wa.drew.frozen? ⟨g, u, none⟩ = false := fa
        obtain ⟨Wd, hWd⟩ : ∃ x, wa.drew = x := ⟨_, rfl⟩
        have hWd2 : { wa with drawn := wa.drawn + 1 } = Wd := hWd
        rw [hWd] at hBd hnd hbd fd
        rw [hWd2]
        clear hWd hWd2 hna hba fa v0 v1 v2 v3 v4
        obtain ⟨r0, r1, r2, r3, r4⟩ := id hbd
        have cu : Wd.cell? ⟨g, u, none⟩ = some (.int .i64 ((R.us.set u (all : Int))[u]?.getD 0)) := by rw [← hnd.cell u HR.out.2.2.1, Nat.zero_add]
        obtain ⟨We, hWe⟩ : ∃ W, Wd.setCell ⟨g, u, none⟩ (.int .i64 (n2 : Int)) = W := ⟨_, rfl⟩
        have hne : Nums We g 0 R.mu (R.us.set u (n2 : Int)) := by
          have := put_nums (x := (n2 : Int)) hnd HR.out.2.2.1 (by rw [List.length_set]; exact HR.out.1)
          rw [List.set_set] at this
          rw [← hWe]; exact this
        have hbe : Box5 We w4.heap.size (.slice (some ⟨g, 0, none⟩) R.mu cp) (.slice aA R.m cA) (.slice aM R.mm cM) (.int .i64 R.few) (.int .i64 8) := by
          rw [← hWe]
          exact ⟨(cell_far (by omega)).trans r0, (cell_far (by omega)).trans r1, (cell_far (by omega)).trans r2, (cell_far (by omega)).trans r3, (cell_far (by omega)).trans r4⟩
        have hBe : Below w1.heap.size w1 We := by rw [← hWe]; exact hBd.setCell (p := ⟨g, u, none⟩) (show w1.heap.size ≤ g by have := HLE.out; omega) _
        have tMn := tMn g cp We hne hBe
        obtain ⟨k0, k1, k2, k3, k4⟩ := id hbe
        have HOe : Hid (Below w.heap.size w We) := HO.out.trans (hBe.mono HO.out.size)
        clear hne hbe hBe hnd hbd hBd
        repeat still_step
        still_call (tWith _)
        repeat still_step
        refine wpStill_nil ?_
        go_wp2_with (first | (go_at_call 20; (with_reducible refine tMn.mono ?_); rintro e wz ⟨rfl, hBz⟩) | (go_at_call 14; (with_reducible refine (tW2 _).mono ?_); rintro e w' ⟨rfl, rfl⟩))
        go_ret
        exact ⟨rfl, HOe.out.trans (hBz.mono HOe.out.size)⟩
  · rw [Rol.mayN_no hc, errV_ne hc] at t1
    rw [Rol.hasN_no hc, errV_ne hc] at t2
    obtain ⟨c, hcc⟩ : ∃ c, R.hasC user = c := ⟨_, rfl⟩
    rw [hcc] at t1 t2
    clear hA hT hA1 hT1 hc hcc
    go_enter Tryd.func7, Tryd.ntmps7
    go_wp2_with (first | (go_at_call 24; (with_reducible refine t0.mono ?_); clear t0; rintro e w2 ⟨rfl, hB2⟩; obtain ⟨y0, y1, y2, y3, y4⟩ := HX.out.below hB2; have t1 := t1 _ hB2) | (go_at_call 20; (with_reducible refine t1.mono ?_); clear t1; rintro e w3 ⟨rfl, hB3⟩; have hB4 := hB2.trans (hB3.mono hB2.size); obtain ⟨z0, z1, z2, z3, z4⟩ := HX.out.below hB4; have t2 := t2 _ hB4) | (go_at_call 19; (with_reducible refine t2.mono ?_); clear t2; rintro e w5 ⟨rfl, hB5⟩; have hB6 := hB4.trans (hB5.mono hB4.size)))
    go_ret
    exact ⟨rfl, hB0.trans (hB6.mono hB0.size)⟩
end Go.Proofs.YtdmdoikkemfcaaaDoor
