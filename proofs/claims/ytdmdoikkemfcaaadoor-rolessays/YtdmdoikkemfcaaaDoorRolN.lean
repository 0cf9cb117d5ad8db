/- The fewest roles of some for tasks, as the document looks for them (Needed). -/
import Derived.WalkKit
import Derived.LoopTactic
import Derived.Test.YtdmdoikkemfcaaaDoorRolR
import Derived.Test.YtdmdoikkemfcaaaDoorRolH
import Derived.Test.YtdmdoikkemfcaaaDoorRolG
namespace Go.Proofs.YtdmdoikkemfcaaaDoor
open Go.RowKit
set_option maxRecDepth 100000

/-- Is there a set of roles of those that has all tasks that are wanted; and the best of these. -/
def Rol.isN (R : Rol) (mine want : Nat) : Bool := subB want (R.tasks (R.has mine))
def Rol.bestN (R : Rol) (mine want : Nat) : Nat := if R.isN mine want = true then fewN (R.okB (R.has mine) want) (R.has mine) (R.has mine) else 0
theorem needed_found {R : Rol} (h : R.Most) (hz : R.m ≤ R.ab.length) {mine want n r : Nat} (hr : R.okB (R.has mine) want r = true) (hn : pop r = n)
    (h1 : ∀ s, R.okB (R.has mine) want s = true → n ≤ pop s) (h2 : ∀ s, s < r → R.okB (R.has mine) want s = true → pop s ≠ n) : R.isN mine want = true ∧ R.bestN mine want = r := by
  have hall := h.has_lt hz mine
  have h8 := pow8 h.m8
  have hq : R.isN mine want = true := by
    cases e : R.isN mine want with
    | true => rfl
    | false => rw [h.none_of hz hall e r] at hr; cases hr
  refine ⟨hq, ?_⟩
  unfold Rol.bestN
  rw [if_pos hq]
  have hA : R.okB (R.has mine) want (R.has mine) = true := by
    have hq' := hq
    unfold Rol.isN at hq'
    unfold Rol.okB; rw [sub_refl, hq']; rfl
  refine IsFew.one (fewN_few (by omega) hA (Rol.ok_sub R _ _)) ⟨hr, fun s hs => ?_⟩
  have a := h1 s hs
  by_cases e : s < r
  · have := h2 s e hs
    exact .inl (by omega)
  · omega
theorem needed_none {R : Rol} (h : R.Most) (hz : R.m ≤ R.ab.length) {mine want : Nat} (h1 : ∀ s, R.okB (R.has mine) want s = true → 9 ≤ pop s) : R.isN mine want = false ∧ R.bestN mine want = 0 := by
  have hall := h.has_lt hz mine
  have h8 := h.m8
  have hq : R.isN mine want = false := by
    cases e : R.isN mine want with
    | false => rfl
    | true =>
      have hA : R.okB (R.has mine) want (R.has mine) = true := by
        unfold Rol.isN at e
        unfold Rol.okB; rw [sub_refl, e]; rfl
      have := h1 _ hA
      have := pop_le (m := R.m) (by omega) hall
      omega
  exact ⟨hq, by unfold Rol.bestN; rw [hq]; rfl⟩

set_option maxHeartbeats 8000000 in
theorem needed_any (aU aA aM : Option Addr) (cU cA cM : Nat) (R : Rol) (h : R.Most) (mine want : Nat) (hs : mine < 2 ^ R.m) (hw : want < 1024) (w : World) (hA : AtRol w aU aA aM R) :
    Calls Tryd.prog 22 #[rolV aU aA aM cU cA cM R, .int .i64 mine, .int .i64 want] w fun e w' => e = .returned (.tuple #[.int .i64 (R.bestN mine want : Nat), .bool (R.isN mine want)]) ∧ Below w.heap.size w w' := by
  obtain ⟨w1, hw1⟩ : ∃ w1, w.alloc (.cells #[.slice aU R.mu cU, .slice aA R.m cA, .slice aM R.mm cM, .int .i64 R.few, .int .i64 R.most] 39) = w1 := ⟨_, rfl⟩
  have hB0 : Below w.heap.size w w1 := by rw [← hw1]; exact (Below.refl _ w).alloc (Nat.le_refl _) _
  have hx : Box5 w1 w.heap.size (.slice aU R.mu cU) (.slice aA R.m cA) (.slice aM R.mm cM) (.int .i64 R.few) (.int .i64 R.most) := by rw [← hw1]; exact Box5.new _ _ _ _ _ _ _
  have hA1 := hA.below hB0
  have h8 := pow8 h.m8
  have t1 := roleSet_any aU aA aM cU cA cM R h mine hs w1 hA1
  have hall := h.has_lt hA1.la mine
  have tT : ∀ (s : Nat), s < 2 ^ R.m → ∀ W, Below w1.heap.size w1 W → Calls Tryd.prog 18 #[.agg #[.slice aU R.mu cU, .slice aA R.m cA, .slice aM R.mm cM, .int .i64 R.few, .int .i64 R.most], .int .i64 s] W fun e w' => e = .returned (.int .i64 (R.tasks s : Nat)) ∧ Below W.heap.size W w' := fun s hs W hb => taskSet_any aU aA aM cU cA cM R h s hs W (hA1.below hb)
  have HT : Hid (∀ s, R.tasks s < 1024) := h.tasks_lt
  have HNone : Hid ((∀ s, R.okB (R.has mine) want s = true → 9 ≤ pop s) → R.isN mine want = false ∧ R.bestN mine want = 0) := fun h1 => needed_none h hA1.la h1
  have HFound : Hid (∀ n r, R.okB (R.has mine) want r = true → pop r = n → (∀ s, R.okB (R.has mine) want s = true → n ≤ pop s) → (∀ s, s < r → R.okB (R.has mine) want s = true → pop s ≠ n) → R.isN mine want = true ∧ R.bestN mine want = r) := fun n r h1 h2 h3 h4 => needed_found h hA1.la h1 h2 h3 h4
  have HP : Hid (∀ s, R.okB (R.has mine) want s = (subB s (R.has mine) && subB want (R.tasks s))) := fun s => rfl
  have HPl : Hid (∀ s, R.okB (R.has mine) want s = true → s < 2 ^ R.m) := fun s q => by
    unfold Rol.okB at q
    rw [Bool.and_eq_true] at q
    exact Nat.lt_of_le_of_lt (sub_le q.1) hall
  have tP := fun W => pow2_any R.m h.n12 W
  have tM := fun (x : Nat) (hx : x < 4096) W => many_any x hx W
  have tW := fun (a b : Nat) (ha : a < 4096) (hb : b < 4096) W => within_any a b ha hb W
  obtain ⟨best, hbe⟩ : ∃ x, R.bestN mine want = x := ⟨_, rfl⟩
  obtain ⟨isn, hie⟩ : ∃ x, R.isN mine want = x := ⟨_, rfl⟩
  rw [hbe, hie] at HNone HFound ⊢
  obtain ⟨P, hPe⟩ : ∃ P, R.okB (R.has mine) want = P := ⟨_, rfl⟩
  rw [hPe] at HNone HFound HP HPl
  obtain ⟨all, hae⟩ : ∃ x, R.has mine = x := ⟨_, rfl⟩
  rw [hae] at t1 hall HP
  obtain ⟨tsk, hte⟩ : ∃ f, R.tasks = f := ⟨_, rfl⟩
  rw [hte] at tT HT HP
  obtain ⟨p, hp⟩ : ∃ p, 2 ^ R.m = p := ⟨_, rfl⟩
  rw [hp] at h8 hall tT HPl tP
  have HX := Hid.mkI hx
  have HO := Hid.mkI hB0
  obtain ⟨x0, x1, x2, x3, x4⟩ := id hx
  clear h hs hA hA1 hbe hie hPe hae hte hp hB0 hx
  go_enter Tryd.func22, Tryd.ntmps22
  go_wp2_with fail
  refine t1.mono ?_
  clear t1 x0 x1 x2 x3 x4
  rintro e w2 ⟨rfl, hB⟩
  go_wp2_with fail
  go_loopw [9] (fun i wr => ∃ n : Nat, n ≤ 9 ∧ i = .int .i64 n ∧ Hid (∀ s, P s = true → n ≤ pop s) ∧ Below w1.heap.size w1 wr) (fun i _ => 9 - (intOf i).toNat)
  case atStart => exact ⟨0, by omega, rfl, fun s _ => Nat.zero_le _, hB⟩
  case round =>
    obtain ⟨n, hn, rfl, HG, hBn⟩ := hrel
    by_cases hn8 : n ≤ 8
    · have hni : (n : Int) ≤ 8 := by omega
      go_wp2_with fail
      go_loopw [10] (fun i wr => ∃ r : Nat, r ≤ p ∧ i = .int .i64 r ∧ Hid (∀ s, s < r → P s = true → pop s ≠ n) ∧ Below w1.heap.size w1 wr) (fun i _ => p - (intOf i).toNat)
      case atStart => exact ⟨0, by omega, rfl, fun s h => absurd h (by omega), hBn⟩
      case round =>
        obtain ⟨r, hr, rfl, HR, hBr⟩ := hrel
        obtain ⟨y0, y1, y2, y3, y4⟩ := HX.out.below hBr
        by_cases hlt : r < p
        · have hri : (r : Int) < (p : Int) := by omega
          have tM := tM r (by omega)
          have tW1 := tW r all (by omega) (by omega)
          obtain ⟨c, hc⟩ : ∃ c, pop r = c := ⟨_, rfl⟩
          rw [hc] at tM
          have HC := Hid.mkI hc
          by_cases hcn : c = n
          · have hcb : ((c : Int) == (n : Int)) = true := by simp [hcn]
            cases hsb : subB r all with
            | false =>
              rw [hsb] at tW1
              have HR2 : Hid (∀ s, s < r + 1 → P s = true → pop s ≠ n) := fun s h1 h2 => by
                by_cases e : s = r
                · subst e; rw [HP.out, hsb] at h2; cases h2
                · exact HR.out s (by omega) h2
              clear hc hcn hsb HR tT
              go_wp2_with (first | (go_at_call 26; (with_reducible refine (tP _).mono ?_); rintro e w' ⟨rfl, hw'⟩; obtain rfl := hw'.symm) | (go_at_call 27; (with_reducible refine (tM _).mono ?_); rintro e w' ⟨rfl, hw'⟩; obtain rfl := hw'.symm) | (go_at_call 14; (with_reducible refine (tW1 _).mono ?_); rintro e w' ⟨rfl, hw'⟩; obtain rfl := hw'.symm))
              go_roundw
              case rel => exact ⟨r + 1, by omega, by go_num, HR2, hBr⟩
              case measure => simp [intOf]; omega
            | true =>
              rw [hsb] at tW1
              have tT := tT r hlt
              have htl := HT.out r
              have HP2 : Hid (P r = subB want (tsk r)) := by show _ = _; rw [HP.out, hsb]; rfl
              obtain ⟨y, hy⟩ : ∃ y, tsk r = y := ⟨_, rfl⟩
              rw [hy] at tT htl HP2
              have tW2 := tW want y (by omega) (by omega)
              have tT := tT wr hBr
              cases hwt : subB want y with
              | false =>
                rw [hwt] at tW2 HP2
                have HR2 : Hid (∀ s, s < r + 1 → P s = true → pop s ≠ n) := fun s h1 h2 => by
                  by_cases e : s = r
                  · subst e; rw [HP2.out] at h2; cases h2
                  · exact HR.out s (by omega) h2
                clear hc hcn hsb HR hy hwt HP2 tW
                go_wp2_with (first | (go_at_call 26; (with_reducible refine (tP _).mono ?_); rintro e w' ⟨rfl, hw'⟩; obtain rfl := hw'.symm) | (go_at_call 27; (with_reducible refine (tM _).mono ?_); rintro e w' ⟨rfl, hw'⟩; obtain rfl := hw'.symm) | (go_at_call 14; (with_reducible refine (tW1 _).mono ?_); clear tW1; rintro e w' ⟨rfl, hw'⟩; obtain rfl := hw'.symm) | (go_at_call 18; (with_reducible refine tT.mono ?_); rintro e wt ⟨rfl, hBt⟩) | (go_at_call 14; (with_reducible refine (tW2 _).mono ?_); rintro e w' ⟨rfl, hw'⟩; obtain rfl := hw'.symm))
                go_roundw
                case rel => exact ⟨r + 1, by omega, by go_num, HR2, hBr.trans (hBt.mono hBr.size)⟩
                case measure => simp [intOf]; omega
              | true =>
                rw [hwt] at tW2 HP2
                have HE := Hid.mkI (HFound.out n r HP2.out (by rw [HC.out, hcn]) HG.out HR.out)
                clear hc hcn hsb HR hy hwt HP2 tW
                go_wp2_with (first | (go_at_call 26; (with_reducible refine (tP _).mono ?_); rintro e w' ⟨rfl, hw'⟩; obtain rfl := hw'.symm) | (go_at_call 27; (with_reducible refine (tM _).mono ?_); rintro e w' ⟨rfl, hw'⟩; obtain rfl := hw'.symm) | (go_at_call 14; (with_reducible refine (tW1 _).mono ?_); clear tW1; rintro e w' ⟨rfl, hw'⟩; obtain rfl := hw'.symm) | (go_at_call 18; (with_reducible refine tT.mono ?_); rintro e wt ⟨rfl, hBt⟩) | (go_at_call 14; (with_reducible refine (tW2 _).mono ?_); rintro e w' ⟨rfl, hw'⟩; obtain rfl := hw'.symm))
                go_ret2
                exact ⟨by rw [HE.out.1, HE.out.2]; rfl, HO.out.trans ((hBr.trans (hBt.mono hBr.size)).mono HO.out.size)⟩
          · have hcb : ((c : Int) == (n : Int)) = false := by simp; omega
            have HR2 : Hid (∀ s, s < r + 1 → P s = true → pop s ≠ n) := fun s h1 h2 => by
              by_cases e : s = r
              · subst e; rw [HC.out]; exact hcn
              · exact HR.out s (by omega) h2
            clear hc hcn HR tT tW
            go_wp2_with (first | (go_at_call 26; (with_reducible refine (tP _).mono ?_); rintro e w' ⟨rfl, hw'⟩; obtain rfl := hw'.symm) | (go_at_call 27; (with_reducible refine (tM _).mono ?_); rintro e w' ⟨rfl, hw'⟩; obtain rfl := hw'.symm))
            go_roundw
            case rel => exact ⟨r + 1, by omega, by go_num, HR2, hBr⟩
            case measure => simp [intOf]; omega
        · have hge : (p : Int) ≤ (r : Int) := by omega
          have HG2 : Hid (∀ s, P s = true → n + 1 ≤ pop s) := fun s h => by
            have a := HG.out s h
            have b := HR.out s (by have := HPl.out s h; omega) h
            omega
          clear tT tW tM
          go_wp2_with (go_at_call 26; (with_reducible refine (tP _).mono ?_); rintro e w' ⟨rfl, hw'⟩; obtain rfl := hw'.symm)
          go_roundw
          case rel => exact ⟨n + 1, by omega, by go_num, HG2, hBr⟩
          case measure => simp [intOf]; omega
    · have hge : 8 < (n : Int) := by omega
      have HE := Hid.mkI (HNone.out fun s h => by have := HG.out s h; omega)
      clear tT tW tM
      go_wp2_with fail
      go_ret2
      exact ⟨by rw [HE.out.1, HE.out.2]; rfl, HO.out.trans (hBn.mono HO.out.size)⟩
end Go.Proofs.YtdmdoikkemfcaaaDoor
