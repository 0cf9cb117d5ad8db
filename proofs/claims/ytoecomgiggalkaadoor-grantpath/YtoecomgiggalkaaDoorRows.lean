/-
  NARROWER THAN 'FOR EVERY INPUT', by the rows' own cells (each row's printed sentence says how): GrantSays: laid · GrantLeft: laid · GrantOrder: laid · GrantPath: laid.
  DERIVED. THE GIVEN ROWS OF THIS SEAT. 4 by the template 'for every input the law returns true; each argument reads behind the call as it read before'; 0 by the template 'total and deterministic' (their statements: YtoecomgiggalkaaDoorTotals.lean).
  GIVEN WITH THE SEED: the statements are not yours to turn. If you find one false, say at which input.
  Laid BY PROGRAM, IN A SANDBOX (cutbox-rows.mjs): the forced cells as the released guide's own fill.sh prints them over the translation a1ba3fb870f773cb… (all of the seat's roots in one cut). By AI agents, Wed Nov 11 2026. No macro, syntax, notation, axiom, sorry.
-/
import Derived.Test.YtoecomgiggalkaaDoorChecked
import GoSem.Claim
import GoSem.ClaimJoined
import GoSem.ClaimMapViews
import Derived.JoinedTies
import Derived.KernelRfl
namespace Go.Proofs.YtoecomgiggalkaaDoor
/- THE CELL 'sum', in the pinned program and in every row, IS THE sha256 OF THE DUMP (.gsa) THAT YtoecomgiggalkaaDoorProg.lean LOADS. Nothing in Lean hashes anything: it is a label: what it is worth is what the hold of that sum in a sandbox is worth. -/
noncomputable def Tryd.pinned : Pinned := { name := "ytoecomgiggalkaadoor", sum := "a1ba3fb870f773cb8d706c47198e70627502304fea368044e37adce1f06d2dfd", checked := Tryd.checked }
namespace Rows
def none {H : Type} : Left H := { results := [], args := [] }

/- WHAT THE LISTED PACKAGE-LEVEL VARIABLES READ AS WHEN THE CALL BEGINS. Each datum BY PROGRAM (the guide's laid-datum.mjs) off the statement by which the dump's own 'gosem.cut.vars' lays the variable. In a bare row this is a premise. The card (YtoecomgiggalkaaDoorCards.lean) ties it to the program's text. -/
def laid_errors_errorType {H : Type} : DataW H := .iface "internal/reflectlite.rtype" (.agg [.ptr (.lit (.string [101, 114, 114, 111, 114]))])

/-- 'quietwinglaw2.GrantSays': WHATEVER THE INPUT: true; the input reads as it did. -/
def grantSaysSpec : ChangeSpec := { name := "grantSays", fn := fun _ => fun
  | [d1, d2, d3, d4] => { results := [.lit (.bool true)], args := [d1, d2, d3, d4] }
  | _ => none }
def grantSaysRow : OpenClaim := { program := "ytoecomgiggalkaadoor", sum := "a1ba3fb870f773cb8d706c47198e70627502304fea368044e37adce1f06d2dfd", func := "quietwing/quietwinglaw2.GrantSays", spec := "grantSays", inPlace := ["internal/reflectlite.ValueOf", "(internal/reflectlite.Value).Type", "(internal/reflectlite.Value).IsNil", "internal/reflectlite.TypeOf", "(internal/reflectlite.Value).Elem", "(internal/reflectlite.Value).Set"], unfollowed := true, recurses := true, named := ["errors.errorType"], apart := false, laid := [("errors.errorType", laid_errors_errorType)] }
def GrantSaysSaid : Prop := grantSaysRow.holds Tryd.pinned (OpenSpec.ofChange grantSaysSpec)

/-- ITS FALSE NEIGHBOUR: 'it returns false'. Refute it at one input. -/
def grantSaysWrong : ChangeSpec := { name := "grantSays", fn := fun _ => fun
  | [d1, d2, d3, d4] => { results := [.lit (.bool false)], args := [d1, d2, d3, d4] }
  | _ => none }
def GrantSaysWrongFalsely : Prop := grantSaysRow.holds Tryd.pinned (OpenSpec.ofChange grantSaysWrong)

/-- 'quietwinglaw2.GrantLeft': WHATEVER THE INPUT: true; the input reads as it did. -/
def grantLeftSpec : ChangeSpec := { name := "grantLeft", fn := fun _ => fun
  | [d1, d2, d3, d4] => { results := [.lit (.bool true)], args := [d1, d2, d3, d4] }
  | _ => none }
def grantLeftRow : OpenClaim := { program := "ytoecomgiggalkaadoor", sum := "a1ba3fb870f773cb8d706c47198e70627502304fea368044e37adce1f06d2dfd", func := "quietwing/quietwinglaw2.GrantLeft", spec := "grantLeft", inPlace := ["internal/reflectlite.ValueOf", "(internal/reflectlite.Value).Type", "(internal/reflectlite.Value).IsNil", "internal/reflectlite.TypeOf", "(internal/reflectlite.Value).Elem", "(internal/reflectlite.Value).Set"], unfollowed := true, recurses := true, named := ["errors.errorType"], apart := false, laid := [("errors.errorType", laid_errors_errorType)] }
def GrantLeftSaid : Prop := grantLeftRow.holds Tryd.pinned (OpenSpec.ofChange grantLeftSpec)

/-- ITS FALSE NEIGHBOUR: 'it returns false'. Refute it at one input. -/
def grantLeftWrong : ChangeSpec := { name := "grantLeft", fn := fun _ => fun
  | [d1, d2, d3, d4] => { results := [.lit (.bool false)], args := [d1, d2, d3, d4] }
  | _ => none }
def GrantLeftWrongFalsely : Prop := grantLeftRow.holds Tryd.pinned (OpenSpec.ofChange grantLeftWrong)

/-- 'quietwinglaw2.GrantOrder': WHATEVER THE INPUT: true; the input reads as it did. -/
def grantOrderSpec : ChangeSpec := { name := "grantOrder", fn := fun _ => fun
  | [d1, d2, d3, d4, d5, d6] => { results := [.lit (.bool true)], args := [d1, d2, d3, d4, d5, d6] }
  | _ => none }
def grantOrderRow : OpenClaim := { program := "ytoecomgiggalkaadoor", sum := "a1ba3fb870f773cb8d706c47198e70627502304fea368044e37adce1f06d2dfd", func := "quietwing/quietwinglaw2.GrantOrder", spec := "grantOrder", inPlace := ["internal/reflectlite.ValueOf", "(internal/reflectlite.Value).Type", "(internal/reflectlite.Value).IsNil", "internal/reflectlite.TypeOf", "(internal/reflectlite.Value).Elem", "(internal/reflectlite.Value).Set"], unfollowed := true, recurses := true, named := ["errors.errorType"], apart := false, laid := [("errors.errorType", laid_errors_errorType)] }
def GrantOrderSaid : Prop := grantOrderRow.holds Tryd.pinned (OpenSpec.ofChange grantOrderSpec)

/-- ITS FALSE NEIGHBOUR: 'it returns false'. Refute it at one input. -/
def grantOrderWrong : ChangeSpec := { name := "grantOrder", fn := fun _ => fun
  | [d1, d2, d3, d4, d5, d6] => { results := [.lit (.bool false)], args := [d1, d2, d3, d4, d5, d6] }
  | _ => none }
def GrantOrderWrongFalsely : Prop := grantOrderRow.holds Tryd.pinned (OpenSpec.ofChange grantOrderWrong)

/-- 'quietwinglaw2.GrantPath': WHATEVER THE INPUT: true; the input reads as it did. -/
def grantPathSpec : ChangeSpec := { name := "grantPath", fn := fun _ => fun
  | [d1, d2, d3] => { results := [.lit (.bool true)], args := [d1, d2, d3] }
  | _ => none }
def grantPathRow : OpenClaim := { program := "ytoecomgiggalkaadoor", sum := "a1ba3fb870f773cb8d706c47198e70627502304fea368044e37adce1f06d2dfd", func := "quietwing/quietwinglaw2.GrantPath", spec := "grantPath", inPlace := ["internal/reflectlite.ValueOf", "(internal/reflectlite.Value).Type", "(internal/reflectlite.Value).IsNil", "internal/reflectlite.TypeOf", "(internal/reflectlite.Value).Elem", "(internal/reflectlite.Value).Set"], unfollowed := true, recurses := true, named := ["errors.errorType"], apart := false, laid := [("errors.errorType", laid_errors_errorType)] }
def GrantPathSaid : Prop := grantPathRow.holds Tryd.pinned (OpenSpec.ofChange grantPathSpec)

/-- ITS FALSE NEIGHBOUR: 'it returns false'. Refute it at one input. -/
def grantPathWrong : ChangeSpec := { name := "grantPath", fn := fun _ => fun
  | [d1, d2, d3] => { results := [.lit (.bool false)], args := [d1, d2, d3] }
  | _ => none }
def GrantPathWrongFalsely : Prop := grantPathRow.holds Tryd.pinned (OpenSpec.ofChange grantPathWrong)

/- THE SECOND FORM. 'bulk': how many values and letters a reading holds, each counted each time it is reached (what is shared counts as often as it is met; a slice's spare places count too). A statement '..UptoSaid' is the law's where the arguments, and the package variables that the reading takes, are together of bulk at most 1048576: NARROWER than '..Said'. Prove '..Said' where nothing that the law and all that it calls make is longer than what came in: it says more and counts as full. Else prove '..UptoSaid'. A law counts once. -/
mutual
def uptoBulk {H : Type} : DataW H → Nat
  | .lit (.string bytes) => bytes.length + 1
  | .lit _ => 1
  | .nil => 1
  | .ptr d => uptoBulk d + 1
  | .slice elems spare => uptoBulkAll elems + uptoBulkAll spare + 1
  | .agg parts => uptoBulkAll parts + 1
  | .iface _ d => uptoBulk d + 1
  | .map entries => uptoBulkEntries entries + 1
  | .held _ => 1
def uptoBulkAll {H : Type} : List (DataW H) → Nat
  | [] => 0
  | d :: r => uptoBulk d + uptoBulkAll r
def uptoBulkEntries {H : Type} : List (Lit × DataW H) → Nat
  | [] => 0
  | x :: r => uptoBulkEntry x + uptoBulkEntries r
def uptoBulkEntry {H : Type} : Lit × DataW H → Nat
  | (.string bytes, d) => bytes.length + uptoBulk d + 1
  | (_, d) => uptoBulk d + 1
 end
def uptoSmall : (H : Type) → List (DataW H) → Bool := fun _ ds => decide (uptoBulkAll ds ≤ 1048576)
def OpenSpec.upto (s : _root_.Go.ChangeSpec) : _root_.Go.OpenSpec := { _root_.Go.OpenSpec.ofChange s with cond := some uptoSmall }

/-- 'quietwinglaw2.GrantSays', WHERE WHAT IT READS IS OF BULK AT MOST 1048576: true; the input reads as it did. -/
def grantSaysUptoRow : OpenClaim := { program := "ytoecomgiggalkaadoor", sum := "a1ba3fb870f773cb8d706c47198e70627502304fea368044e37adce1f06d2dfd", func := "quietwing/quietwinglaw2.GrantSays", spec := "grantSays", inPlace := ["internal/reflectlite.ValueOf", "(internal/reflectlite.Value).Type", "(internal/reflectlite.Value).IsNil", "internal/reflectlite.TypeOf", "(internal/reflectlite.Value).Elem", "(internal/reflectlite.Value).Set"], unfollowed := true, recurses := true, named := ["errors.errorType"], apart := false, laid := [("errors.errorType", laid_errors_errorType)], narrowed := true }
def GrantSaysUptoSaid : Prop := grantSaysUptoRow.holds Tryd.pinned (OpenSpec.upto grantSaysSpec)

/-- 'quietwinglaw2.GrantLeft', WHERE WHAT IT READS IS OF BULK AT MOST 1048576: true; the input reads as it did. -/
def grantLeftUptoRow : OpenClaim := { program := "ytoecomgiggalkaadoor", sum := "a1ba3fb870f773cb8d706c47198e70627502304fea368044e37adce1f06d2dfd", func := "quietwing/quietwinglaw2.GrantLeft", spec := "grantLeft", inPlace := ["internal/reflectlite.ValueOf", "(internal/reflectlite.Value).Type", "(internal/reflectlite.Value).IsNil", "internal/reflectlite.TypeOf", "(internal/reflectlite.Value).Elem", "(internal/reflectlite.Value).Set"], unfollowed := true, recurses := true, named := ["errors.errorType"], apart := false, laid := [("errors.errorType", laid_errors_errorType)], narrowed := true }
def GrantLeftUptoSaid : Prop := grantLeftUptoRow.holds Tryd.pinned (OpenSpec.upto grantLeftSpec)

/-- 'quietwinglaw2.GrantOrder', WHERE WHAT IT READS IS OF BULK AT MOST 1048576: true; the input reads as it did. -/
def grantOrderUptoRow : OpenClaim := { program := "ytoecomgiggalkaadoor", sum := "a1ba3fb870f773cb8d706c47198e70627502304fea368044e37adce1f06d2dfd", func := "quietwing/quietwinglaw2.GrantOrder", spec := "grantOrder", inPlace := ["internal/reflectlite.ValueOf", "(internal/reflectlite.Value).Type", "(internal/reflectlite.Value).IsNil", "internal/reflectlite.TypeOf", "(internal/reflectlite.Value).Elem", "(internal/reflectlite.Value).Set"], unfollowed := true, recurses := true, named := ["errors.errorType"], apart := false, laid := [("errors.errorType", laid_errors_errorType)], narrowed := true }
def GrantOrderUptoSaid : Prop := grantOrderUptoRow.holds Tryd.pinned (OpenSpec.upto grantOrderSpec)

/-- 'quietwinglaw2.GrantPath', WHERE WHAT IT READS IS OF BULK AT MOST 1048576: true; the input reads as it did. -/
def grantPathUptoRow : OpenClaim := { program := "ytoecomgiggalkaadoor", sum := "a1ba3fb870f773cb8d706c47198e70627502304fea368044e37adce1f06d2dfd", func := "quietwing/quietwinglaw2.GrantPath", spec := "grantPath", inPlace := ["internal/reflectlite.ValueOf", "(internal/reflectlite.Value).Type", "(internal/reflectlite.Value).IsNil", "internal/reflectlite.TypeOf", "(internal/reflectlite.Value).Elem", "(internal/reflectlite.Value).Set"], unfollowed := true, recurses := true, named := ["errors.errorType"], apart := false, laid := [("errors.errorType", laid_errors_errorType)], narrowed := true }
def GrantPathUptoSaid : Prop := grantPathUptoRow.holds Tryd.pinned (OpenSpec.upto grantPathSpec)

end Rows
end Go.Proofs.YtoecomgiggalkaaDoor
