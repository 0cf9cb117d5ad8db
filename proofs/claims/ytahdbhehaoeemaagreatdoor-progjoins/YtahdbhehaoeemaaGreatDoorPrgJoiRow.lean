/- Proved: the law ProgJoins returns true at any two texts and list of numbers, and leaves all as they were. Conditions: the library's tables and its two errors and the type of package errors lie as the program's own text lays them (the card ties this). -/
import Derived.Test.YtahdbhehaoeemaaGreatDoorRows
import Derived.Test.YtahdbhehaoeemaaGreatDoorTie
import Derived.Test.YtahdbhehaoeemaaGreatDoorCards
import Derived.Test.YtahdbhehaoeemaaGreatDoorPrgJ
import Derived.Test.YtahdbhehaoeemaaGreatDoorPrgL
import Derived.Test.YtahdbhehaoeemaaGreatDoorPrgW
import Derived.WalkKit
import Derived.ProofKit
import Derived.OpenShut
import Derived.ShutString
import Derived.ChangeOld
import Derived.Below
import Derived.LaidMore
import Derived.LaidHandle
import Derived.Stop.LaidErr
import Derived.Lay
import Derived.LaidOnce
import Derived.Stop.Joined
import Derived.Lib.LaidTab
import Derived.SevenTiedAt
import Derived.ChangeMaps5
namespace Go.Proofs.YtahdbhehaoeemaaGreatDoor.progJoins
open Go.ChangeShapes Go.WideShapes Go.ChangeAt Go.RowKit
set_option linter.unusedVariables false

theorem own : ownKnob Tryz.prog.godebug = none := by kernel_rfl
theorem laidOut : laidOutB Tryz.prog = true := by kernel_rfl

/-- The listed variables but the handle. -/
def data : List (String × DataW Unit) := Rows.progJoinsRow.laid.filter fun x => x.2.handleName?.isNone
/-- The name of the variable. -/
def etName : String := "errors.errorType"
theorem gEt : Tryz.prog.globalNamed etName = some 0 := by kernel_rfl
theorem oneRow : ((List.range 186).filter fun t => Tryz.prog.rowNamed t [101, 114, 114, 111, 114]) = [26] := by kernel_rfl
theorem typesSize : Tryz.prog.types.size = 186 := by kernel_rfl
theorem filterHandle : (Rows.progJoinsRow.laid.filter fun x => x.2.handleName?.isSome) = [(etName, Rows.laid_errors_errorType)] := by kernel_rfl
theorem parts_of {W : World} (h : laidMetH Tryz.prog Rows.progJoinsRow.laid W) : handlesMet Tryz.prog [(etName, Rows.laid_errors_errorType)] W := by
  unfold laidMetH at h
  rw [filterHandle] at h
  exact h.2
theorem et_of {W : World} (h : laidMetH Tryz.prog Rows.progJoinsRow.laid W) : ErrT W := by
  obtain ⟨name, u, ty, e1, e2, e3, e4, e5⟩ := parts_of h _ (List.mem_singleton.2 rfl)
  have en : name = [101, 114, 114, 111, 114] := (Option.some.inj e1).symm
  subst en
  have hu : some u = some 95 := by
    refine e2.symm.trans ?_
    kernel_rfl
  obtain rfl := Option.some.inj hu
  have hm : ty ∈ (List.range 186).filter fun t => Tryz.prog.rowNamed t [101, 114, 114, 111, 114] := List.mem_filter.2 ⟨List.mem_range.2 (by rw [← typesSize]; exact e3), e4⟩
  rw [oneRow] at hm
  obtain rfl := List.mem_singleton.1 hm
  have hh : typeHandle Tryz.prog 26 = .pointer (some ⟨9, 26, none⟩) := by kernel_rfl
  rw [hh] at e5
  have := World.var?_cell gEt e5 0
  simpa [ErrT] using this
/-- The list's third, fifth and sixth entry. -/
theorem laid3 : data.drop 2 = ("internal/strconv.uint64pow10", Lib.tabData .u64 Lib.pow10Tab) :: data.drop 3 := by kernel_rfl
theorem laid5 : data.drop 4 = ("strconv.ErrRange", Rows.laid_strconv_ErrRange) :: data.drop 5 := by kernel_rfl
theorem laid6 : data.drop 5 = ("strconv.ErrSyntax", Rows.laid_strconv_ErrSyntax) :: data.drop 6 := by kernel_rfl
theorem gPow : Tryz.prog.globalNamed "internal/strconv.uint64pow10" = some 1 := by kernel_rfl
theorem gRan : Tryz.prog.globalNamed "strconv.ErrRange" = some 5 := by kernel_rfl
theorem gSyn : Tryz.prog.globalNamed "strconv.ErrSyntax" = some 4 := by kernel_rfl
theorem star : "*" ++ "errors.errorString" = "*errors.errorString" := by decide
theorem rowErr (u : TypeId) (h : Tryz.prog.typeName? 3 u = some "*errors.errorString") : u = 157 :=
  typeName_ptr_named (nm := "errors.errorString") (by rw [star]; kernel_rfl) (by kernel_rfl) (by decide) u (by rw [star]; exact h)
theorem data_of {W : World} (h : laidMetH Tryz.prog Rows.progJoinsRow.laid W) : laidMet Tryz.prog data W := by
  unfold laidMetH at h
  rw [filterHandle] at h
  exact h.1
theorem lib_of {W : World} (h : laidMetH Tryz.prog Rows.progJoinsRow.laid W) : LibT W.heap.size W := by
  have h := data_of h
  have h3 := laidMet_drop 2 h
  have h5 := laidMet_drop 4 h
  have h6 := laidMet_drop 5 h
  rw [laid3] at h3
  rw [laid5] at h5
  rw [laid6] at h6
  have hT := Lib.tabIs_of_head gPow (by kernel_rfl) Tryz.underlying114 Tryz.underlying109 (by kernel_rfl) (by kernel_rfl) h3
  obtain ⟨a5, s5, v5, -, -, -⟩ := laid_sentinel h5 gRan (by kernel_rfl) Tryz.underlying26 rowErr Tryz.underlying157 Tryz.underlying159 rfl rfl Tryz.underlying9 (by kernel_rfl) (by kernel_rfl)
  obtain ⟨a6, s6, v6, -, -, -⟩ := laid_sentinel h6 gSyn (by kernel_rfl) Tryz.underlying26 rowErr Tryz.underlying157 Tryz.underlying159 rfl rfl Tryz.underlying9 (by kernel_rfl) (by kernel_rfl)
  exact libT_of gPow gSyn gRan hT v6 v5

theorem ww_os (os : Os) : (((World.holding Tryz.prog os ⟨#[], #[], []⟩).setCell ⟨0, 0, none⟩ (.iface 95 (.agg #[typeHandle Tryz.prog 26]))).layVars Tryz.prog data).os = os := (World.layVars_os _ _ _).trans rfl
theorem met (os : Os) (args : Array Value) : laidMetH Tryz.prog Rows.progJoinsRow.laid ((((World.holding Tryz.prog os ⟨#[], #[], []⟩).setCell ⟨0, 0, none⟩ (.iface 95 (.agg #[typeHandle Tryz.prog 26]))).layVars Tryz.prog data).forCall (fun _ _ => 0) ⟨#[], args, []⟩).memory :=
  laidMetH_of_parts (laidMet_on (w0 := ((World.holding Tryz.prog os ⟨#[], #[], []⟩).setCell ⟨0, 0, none⟩ (.iface 95 (.agg #[typeHandle Tryz.prog 26])))) args (by kernel_rfl) (by kernel_rfl)) (by kernel_rfl)

/-- What the walk is told of a list of numbers that came in. -/
def IsRow (w : World) (a : Option Addr) (len : Nat) (zs : List Int) : Prop := len ≤ zs.length ∧ AtNums w a len zs
theorem isRow_of {w : World} {x : Addr} {len : Nat} {zs : List Int} (hl : len ≤ zs.length) (h : ∀ i, i < zs.length → w.cell? (x.add i) = some (.int .i64 (zs.getD i 0))) : IsRow w (some x) len zs := by
  refine ⟨hl, ?_⟩
  by_cases h0 : len = 0
  · exact .inl h0
  · obtain ⟨b, off, rfl, hc⟩ := ints_at h (by omega)
    exact .inr ⟨b, off, rfl, old_of_cell (hc 0 (by omega)), fun i hi => by rw [hc i (by omega), List.getD_eq_getElem?_getD]⟩

set_option maxRecDepth 100000 in
theorem lifted (os : Os) (started : os.Started) (H : Type) (enc : TypeId × Value → H) :
    ReturnsInHanded {} Tryz.checked os 4 .any (fun w args => (Rows.progJoinsSpec.pre enc Tryz.prog Tryz.f4 [] false w args ∧ laidMetH Tryz.prog Rows.progJoinsRow.laid w) ∧ sizedMet enc Tryz.prog Tryz.f4 (OpenSpec.ofChange Rows.progJoinsSpec) false w args)
      (Rows.progJoinsSpec.post enc Tryz.prog Tryz.f4 false true false false) := by
  refine returnsInHanded_of_change_and (C := Tryz.checked) (X := fun w _ => laidMetH Tryz.prog Rows.progJoinsRow.laid w) (fun _ _ _ hh h => h.of_heap hh) own started (by kernel_rfl) Tryz.func4
    (ChangeSpec.witness_shaped (enc := enc) (C := Tryz.checked) (os := os) (X := fun w _ => laidMetH Tryz.prog Rows.progJoinsRow.laid w) false (((World.holding Tryz.prog os ⟨#[], #[], []⟩).setCell ⟨0, 0, none⟩ (.iface 95 (.agg #[typeHandle Tryz.prog 26]))).layVars Tryz.prog data) #[.string ⟨#[]⟩, .string ⟨#[]⟩, .slice none 0 0] 8 (ww_os os) (World.shaped_of_ZipB (by kernel_rfl) (by kernel_rfl)) (by kernel_rfl) (by kernel_rfl) (by kernel_rfl) (met os _)) ?_
  intro W base args ds gs before hval0 hW _ hS hL _
  have hval : ∀ (j : Nat) t v, Tryz.f4.params[j]? = some t → args[j]? = some v → Value.okWide Tryz.prog W .any base t v := hval0
  have hW' := hW
  obtain ⟨p, q, hA0, hV, rfl, hfz, hnd⟩ := hW
  have hA : DataW.TrodAll enc Tryz.prog W 0 (fun _ => true) true Tryz.f4.params.toList args.toList ds p := hA0
  rw [Tryz.params4] at hA hval
  obtain ⟨v0, vs0, d0, ds0, p0, q0, hargs, rfl, rfl, h0, r0⟩ := trodAll_cons hA
  obtain ⟨v1, vs1, d1, ds1, p1, q1, rfl, rfl, rfl, h1, r1⟩ := trodAll_cons r0
  obtain ⟨v2, vs2, d2, ds2, p2, q2, rfl, rfl, rfl, h2, r2⟩ := trodAll_cons r1
  obtain ⟨rfl, rfl, rfl⟩ := trodAll_nil r2
  obtain rfl : args = #[v0, v1, v2] := by cases args; simp_all
  obtain ⟨rfl, rfl⟩ := trodVars_none hV
  obtain ⟨y0, rfl, rfl, rfl, wy0⟩ := Go.ChangeMaps.open_string Tryz.underlying9 (hval 0 9 v0 rfl rfl) h0
  obtain ⟨y1, rfl, rfl, rfl, wy1⟩ := Go.ChangeMaps.open_string Tryz.underlying9 (hval 1 9 v1 rfl rfl) h1
  obtain ⟨a2, len2, cap2, rfl⟩ := okWide_slice Tryz.underlying23 (hval 2 23 v2 rfl rfl)
  have k2 := h2
  have lt2 : ∀ x ∈ p2, x.block < W.heap.size := by obtain ⟨m, hm⟩ := k2; exact DataW.trod_lt m _ _ _ hm
  obtain ⟨z2, w2⟩ : ∃ zs, IsRow W a2 len2 zs := by
    obtain ⟨fuel, hf⟩ := h2
    rcases open_ints Tryz.underlying23 Tryz.underlying3 (by kernel_rfl) hf with ⟨hcs, _⟩ | ⟨x, l, c, zs, hcs, _, hl, hm, hz, _, hcell, hwz⟩
    · simp [Value.cells] at hcs
      obtain ⟨rfl, rfl, rfl⟩ := hcs
      exact ⟨[], by simp, .inl rfl⟩
    · simp [Value.cells] at hcs
      obtain ⟨rfl, rfl, rfl⟩ := hcs
      have hlen : zs.length = cap2 := by simpa using hz
      exact ⟨zs, isRow_of (by omega) hcell⟩
  have hsz : y0.size + y1.size ≤ 9223372036854775807 := by
    rw [Tryz.params4] at hS
    simp [DataW.weightsEach, DataW.weights, reachBytes] at hS
    have g0 := of_decide_eq_true hS.1
    have g1 := of_decide_eq_true hS.2.1
    omega
  clear hA0 hval0 hS
  refine (progJoins_any y0 y1 (.slice a2 len2 cap2) len2 _ W (lst_of_nums w2.2) (lib_of hL) (et_of hL) hsz).mono fun e W' ⟨he, bel⟩ => ?_
  subst he
  exact ⟨_, rfl, _, _, _, [], _, [], hW', trodAll_mk1 (shut_bool Tryz.underlying4 _), (trodAll_cons_mk (Go.ChangeMaps.shut_string Tryz.underlying9 wy0) (trodAll_cons_mk (Go.ChangeMaps.shut_string Tryz.underlying9 wy1) (trodAll_cons_mk (Below.trod laidOut (by kernel_rfl) (of_decide_eq_true (by kernel_rfl)) k2 bel lt2) trodAll_mk0))), rfl, bel.frame _, fun h => by cases h⟩

theorem row_holds : Rows.ProgJoinsSaid :=
  OpenClaim.holds_of_wide 4 Tryz.f4 rfl rfl rfl rfl rfl rfl rfl ⟨rfl, rfl, rfl, rfl, rfl⟩ rfl rfl rfl rfl rfl (by kernel_rfl) Tryz.func4 (by kernel_rfl)
    (of_decide_eq_true (by kernel_rfl)) (by unfold Func.isWrapper; first | (rw [if_pos (by decide +kernel)]; kernel_rfl) | (rw [if_neg (by decide +kernel)]; exact ⟨rfl, rfl⟩))
    (fun os started H enc _ => lifted os started H enc)

end Go.Proofs.YtahdbhehaoeemaaGreatDoor.progJoins
namespace Go.Proofs.YtahdbhehaoeemaaGreatDoor

theorem progJoins_holds : Rows.ProgJoinsCardSaid :=
  Claim7.holds_tied_plain_at .later [] [.data, .data, .data, .data, .handle, .sentinel, .sentinel, .pinned] true Rows.progJoinsCard.stood.harness true
    progJoins.row_holds (fun _ h => by cases h) (by kernel_rfl) (fun _ h => by cases h) progJoins_row_tie rfl ⟨rfl, rfl⟩ (by kernel_rfl) rfl
    (fun f fn hf hfn => by
      obtain rfl : f = 4 := Option.some.inj ((show Tryz.prog.funcNamed Tryz.f4.name = some 4 by kernel_rfl).symm.trans hf) |>.symm
      obtain rfl : fn = Tryz.f4 := (Option.some.inj (Tryz.func4.symm.trans hfn)).symm
      exact ⟨by kernel_rfl, fun j t ht => by
        rw [Tryz.params4] at ht
        have hm : t ∈ [9, 9, 23] := by simpa using Array.mem_of_getElem? ht
        have hall : ([9, 9, 23].all fun u => !Tryz.prog.wantsStandIn u) = true := by kernel_rfl
        exact (show Tryz.prog.wantsStandIn t = false by simpa using List.all_eq_true.1 hall t hm)⟩)
    (by kernel_rfl)
#print axioms progJoins_holds
end Go.Proofs.YtahdbhehaoeemaaGreatDoor
