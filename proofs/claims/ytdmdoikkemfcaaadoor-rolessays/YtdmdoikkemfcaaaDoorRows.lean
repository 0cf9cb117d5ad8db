/-
  NARROWER THAN 'FOR EVERY INPUT', by the rows' own cells (each row's printed sentence says how): TakePlan: laid · TakeSound: laid · TakeStays: laid · RolesSays: laid · RolesAbove: laid · RolesNeed: laid.
  DERIVED. THE GIVEN ROWS OF THIS SEAT. 6 by the template 'for every input the law returns true; each argument reads behind the call as it read before'; 0 by the template 'total and deterministic' (their statements: YtdmdoikkemfcaaaDoorTotals.lean).
  GIVEN WITH THE SEED: the statements are not yours to turn. If you find one false, say at which input.
  Laid BY PROGRAM, IN A SANDBOX (cutbox-rows.mjs): the forced cells as the released guide's own fill.sh prints them over the translation 9c3905dc03572f7f… (all of the seat's roots in one cut). By AI agents, Wed Nov 11 2026. No macro, syntax, notation, axiom, sorry.
-/
import Derived.Test.YtdmdoikkemfcaaaDoorChecked
import GoSem.Claim
import GoSem.ClaimJoined
import GoSem.ClaimMapViews
import Derived.JoinedTies
import Derived.KernelRfl
namespace Go.Proofs.YtdmdoikkemfcaaaDoor
/- THE CELL 'sum', in the pinned program and in every row, IS THE sha256 OF THE DUMP (.gsa) THAT YtdmdoikkemfcaaaDoorProg.lean LOADS. Nothing in Lean hashes anything: it is a label: what it is worth is what the hold of that sum in a sandbox is worth. -/
noncomputable def Tryd.pinned : Pinned := { name := "ytdmdoikkemfcaaadoor", sum := "9c3905dc03572f7f89e7f5cd225f8a6e03d93eb842aa23717383a3b9dd2c59bf", checked := Tryd.checked }
namespace Rows
def none {H : Type} : Left H := { results := [], args := [] }

/- WHAT THE LISTED PACKAGE-LEVEL VARIABLES READ AS WHEN THE CALL BEGINS. Each datum BY PROGRAM (the guide's laid-datum.mjs) off the statement by which the dump's own 'gosem.cut.vars' lays the variable. In a bare row this is a premise. The card (YtdmdoikkemfcaaaDoorCards.lean) ties it to the program's text. -/
def laid_math_bits_deBruijn64tab {H : Type} : DataW H := .agg [.lit (.int .u8 0), .lit (.int .u8 1), .lit (.int .u8 56), .lit (.int .u8 2), .lit (.int .u8 57), .lit (.int .u8 49), .lit (.int .u8 28), .lit (.int .u8 3), .lit (.int .u8 61), .lit (.int .u8 58), .lit (.int .u8 42), .lit (.int .u8 50), .lit (.int .u8 38), .lit (.int .u8 29), .lit (.int .u8 17), .lit (.int .u8 4), .lit (.int .u8 62), .lit (.int .u8 47), .lit (.int .u8 59), .lit (.int .u8 36), .lit (.int .u8 45), .lit (.int .u8 43), .lit (.int .u8 51), .lit (.int .u8 22), .lit (.int .u8 53), .lit (.int .u8 39), .lit (.int .u8 33), .lit (.int .u8 30), .lit (.int .u8 24), .lit (.int .u8 18), .lit (.int .u8 12), .lit (.int .u8 5), .lit (.int .u8 63), .lit (.int .u8 55), .lit (.int .u8 48), .lit (.int .u8 27), .lit (.int .u8 60), .lit (.int .u8 41), .lit (.int .u8 37), .lit (.int .u8 16), .lit (.int .u8 46), .lit (.int .u8 35), .lit (.int .u8 44), .lit (.int .u8 21), .lit (.int .u8 52), .lit (.int .u8 32), .lit (.int .u8 23), .lit (.int .u8 11), .lit (.int .u8 54), .lit (.int .u8 26), .lit (.int .u8 40), .lit (.int .u8 15), .lit (.int .u8 34), .lit (.int .u8 20), .lit (.int .u8 31), .lit (.int .u8 10), .lit (.int .u8 25), .lit (.int .u8 14), .lit (.int .u8 19), .lit (.int .u8 9), .lit (.int .u8 13), .lit (.int .u8 8), .lit (.int .u8 7), .lit (.int .u8 6)]
def laid_errors_errorType {H : Type} : DataW H := .iface "internal/reflectlite.rtype" (.agg [.ptr (.lit (.string [101, 114, 114, 111, 114]))])

/-- 'quietwinglaw2.TakePlan': WHATEVER THE INPUT: true; the input reads as it did. -/
def takePlanSpec : ChangeSpec := { name := "takePlan", fn := fun _ => fun
  | [d1, d2, d3, d4] => { results := [.lit (.bool true)], args := [d1, d2, d3, d4] }
  | _ => none }
def takePlanRow : OpenClaim := { program := "ytdmdoikkemfcaaadoor", sum := "9c3905dc03572f7f89e7f5cd225f8a6e03d93eb842aa23717383a3b9dd2c59bf", func := "quietwing/quietwinglaw2.TakePlan", spec := "takePlan", inPlace := ["internal/reflectlite.ValueOf", "(internal/reflectlite.Value).Type", "(internal/reflectlite.Value).IsNil", "internal/reflectlite.TypeOf", "(internal/reflectlite.Value).Elem", "(internal/reflectlite.Value).Set"], unfollowed := true, recurses := true, named := ["math/bits.deBruijn64tab", "errors.errorType"], apart := false, laid := [("math/bits.deBruijn64tab", laid_math_bits_deBruijn64tab), ("errors.errorType", laid_errors_errorType)] }
def TakePlanSaid : Prop := takePlanRow.holds Tryd.pinned (OpenSpec.ofChange takePlanSpec)

/-- ITS FALSE NEIGHBOUR: 'it returns false'. Refute it at one input. -/
def takePlanWrong : ChangeSpec := { name := "takePlan", fn := fun _ => fun
  | [d1, d2, d3, d4] => { results := [.lit (.bool false)], args := [d1, d2, d3, d4] }
  | _ => none }
def TakePlanWrongFalsely : Prop := takePlanRow.holds Tryd.pinned (OpenSpec.ofChange takePlanWrong)

/-- 'quietwinglaw2.TakeSound': WHATEVER THE INPUT: true; the input reads as it did. -/
def takeSoundSpec : ChangeSpec := { name := "takeSound", fn := fun _ => fun
  | [d1, d2, d3, d4, d5] => { results := [.lit (.bool true)], args := [d1, d2, d3, d4, d5] }
  | _ => none }
def takeSoundRow : OpenClaim := { program := "ytdmdoikkemfcaaadoor", sum := "9c3905dc03572f7f89e7f5cd225f8a6e03d93eb842aa23717383a3b9dd2c59bf", func := "quietwing/quietwinglaw2.TakeSound", spec := "takeSound", unfollowed := true, recurses := true, named := ["math/bits.deBruijn64tab"], apart := false, laid := [("math/bits.deBruijn64tab", laid_math_bits_deBruijn64tab)] }
def TakeSoundSaid : Prop := takeSoundRow.holds Tryd.pinned (OpenSpec.ofChange takeSoundSpec)

/-- ITS FALSE NEIGHBOUR: 'it returns false'. Refute it at one input. -/
def takeSoundWrong : ChangeSpec := { name := "takeSound", fn := fun _ => fun
  | [d1, d2, d3, d4, d5] => { results := [.lit (.bool false)], args := [d1, d2, d3, d4, d5] }
  | _ => none }
def TakeSoundWrongFalsely : Prop := takeSoundRow.holds Tryd.pinned (OpenSpec.ofChange takeSoundWrong)

/-- 'quietwinglaw2.TakeStays': WHATEVER THE INPUT: true; the input reads as it did. -/
def takeStaysSpec : ChangeSpec := { name := "takeStays", fn := fun _ => fun
  | [d1, d2, d3, d4, d5] => { results := [.lit (.bool true)], args := [d1, d2, d3, d4, d5] }
  | _ => none }
def takeStaysRow : OpenClaim := { program := "ytdmdoikkemfcaaadoor", sum := "9c3905dc03572f7f89e7f5cd225f8a6e03d93eb842aa23717383a3b9dd2c59bf", func := "quietwing/quietwinglaw2.TakeStays", spec := "takeStays", unfollowed := true, recurses := true, named := ["math/bits.deBruijn64tab"], apart := false, laid := [("math/bits.deBruijn64tab", laid_math_bits_deBruijn64tab)] }
def TakeStaysSaid : Prop := takeStaysRow.holds Tryd.pinned (OpenSpec.ofChange takeStaysSpec)

/-- ITS FALSE NEIGHBOUR: 'it returns false'. Refute it at one input. -/
def takeStaysWrong : ChangeSpec := { name := "takeStays", fn := fun _ => fun
  | [d1, d2, d3, d4, d5] => { results := [.lit (.bool false)], args := [d1, d2, d3, d4, d5] }
  | _ => none }
def TakeStaysWrongFalsely : Prop := takeStaysRow.holds Tryd.pinned (OpenSpec.ofChange takeStaysWrong)

/-- 'quietwinglaw2.RolesSays': WHATEVER THE INPUT: true; the input reads as it did. -/
def rolesSaysSpec : ChangeSpec := { name := "rolesSays", fn := fun _ => fun
  | [d1, d2, d3] => { results := [.lit (.bool true)], args := [d1, d2, d3] }
  | _ => none }
def rolesSaysRow : OpenClaim := { program := "ytdmdoikkemfcaaadoor", sum := "9c3905dc03572f7f89e7f5cd225f8a6e03d93eb842aa23717383a3b9dd2c59bf", func := "quietwing/quietwinglaw2.RolesSays", spec := "rolesSays", inPlace := ["internal/reflectlite.ValueOf", "(internal/reflectlite.Value).Type", "(internal/reflectlite.Value).IsNil", "internal/reflectlite.TypeOf", "(internal/reflectlite.Value).Elem", "(internal/reflectlite.Value).Set"], unfollowed := true, recurses := true, named := ["math/bits.deBruijn64tab", "errors.errorType"], apart := false, laid := [("math/bits.deBruijn64tab", laid_math_bits_deBruijn64tab), ("errors.errorType", laid_errors_errorType)] }
def RolesSaysSaid : Prop := rolesSaysRow.holds Tryd.pinned (OpenSpec.ofChange rolesSaysSpec)

/-- ITS FALSE NEIGHBOUR: 'it returns false'. Refute it at one input. -/
def rolesSaysWrong : ChangeSpec := { name := "rolesSays", fn := fun _ => fun
  | [d1, d2, d3] => { results := [.lit (.bool false)], args := [d1, d2, d3] }
  | _ => none }
def RolesSaysWrongFalsely : Prop := rolesSaysRow.holds Tryd.pinned (OpenSpec.ofChange rolesSaysWrong)

/-- 'quietwinglaw2.RolesAbove': WHATEVER THE INPUT: true; the input reads as it did. -/
def rolesAboveSpec : ChangeSpec := { name := "rolesAbove", fn := fun _ => fun
  | [d1, d2, d3] => { results := [.lit (.bool true)], args := [d1, d2, d3] }
  | _ => none }
def rolesAboveRow : OpenClaim := { program := "ytdmdoikkemfcaaadoor", sum := "9c3905dc03572f7f89e7f5cd225f8a6e03d93eb842aa23717383a3b9dd2c59bf", func := "quietwing/quietwinglaw2.RolesAbove", spec := "rolesAbove", unfollowed := true, recurses := true, named := ["math/bits.deBruijn64tab"], apart := false, laid := [("math/bits.deBruijn64tab", laid_math_bits_deBruijn64tab)] }
def RolesAboveSaid : Prop := rolesAboveRow.holds Tryd.pinned (OpenSpec.ofChange rolesAboveSpec)

/-- ITS FALSE NEIGHBOUR: 'it returns false'. Refute it at one input. -/
def rolesAboveWrong : ChangeSpec := { name := "rolesAbove", fn := fun _ => fun
  | [d1, d2, d3] => { results := [.lit (.bool false)], args := [d1, d2, d3] }
  | _ => none }
def RolesAboveWrongFalsely : Prop := rolesAboveRow.holds Tryd.pinned (OpenSpec.ofChange rolesAboveWrong)

/-- 'quietwinglaw2.RolesNeed': WHATEVER THE INPUT: true; the input reads as it did. -/
def rolesNeedSpec : ChangeSpec := { name := "rolesNeed", fn := fun _ => fun
  | [d1, d2, d3, d4] => { results := [.lit (.bool true)], args := [d1, d2, d3, d4] }
  | _ => none }
def rolesNeedRow : OpenClaim := { program := "ytdmdoikkemfcaaadoor", sum := "9c3905dc03572f7f89e7f5cd225f8a6e03d93eb842aa23717383a3b9dd2c59bf", func := "quietwing/quietwinglaw2.RolesNeed", spec := "rolesNeed", unfollowed := true, recurses := true, named := ["math/bits.deBruijn64tab"], apart := false, laid := [("math/bits.deBruijn64tab", laid_math_bits_deBruijn64tab)] }
def RolesNeedSaid : Prop := rolesNeedRow.holds Tryd.pinned (OpenSpec.ofChange rolesNeedSpec)

/-- ITS FALSE NEIGHBOUR: 'it returns false'. Refute it at one input. -/
def rolesNeedWrong : ChangeSpec := { name := "rolesNeed", fn := fun _ => fun
  | [d1, d2, d3, d4] => { results := [.lit (.bool false)], args := [d1, d2, d3, d4] }
  | _ => none }
def RolesNeedWrongFalsely : Prop := rolesNeedRow.holds Tryd.pinned (OpenSpec.ofChange rolesNeedWrong)

/- THE SECOND FORM. 'bulk': how many values and letters a reading holds, each counted each time it is reached (what is shared counts as often as it is met; a slice's spare places count too). A statement '..UptoSaid' is the law's where the arguments, and the package variables that the reading takes, are together of bulk at most 1048576: NARROWER than '..Said'. Prove '..Said' where nothing that the law and all that it calls make is longer than what came in: it says more and counts as full. Else prove '..UptoSaid'. A law counts once. -/
mutual
def uptoBulk {H : Type} : DataW H → Nat
  | .lit (.string bytes) => bytes.length + 1
  | .lit _ => 1
  | .nil => 1
  | .ptr d => uptoBulk d + 1
  | .slice elems spare => uptoBulkAll elems + uptoBulkAll spare + 1
  | .agg parts => uptoBulkAll parts + 1
  | .iface _ d => uptoBulk d + 1
  | .map entries => uptoBulkEntries entries + 1
  | .held _ => 1
def uptoBulkAll {H : Type} : List (DataW H) → Nat
  | [] => 0
  | d :: r => uptoBulk d + uptoBulkAll r
def uptoBulkEntries {H : Type} : List (Lit × DataW H) → Nat
  | [] => 0
  | x :: r => uptoBulkEntry x + uptoBulkEntries r
def uptoBulkEntry {H : Type} : Lit × DataW H → Nat
  | (.string bytes, d) => bytes.length + uptoBulk d + 1
  | (_, d) => uptoBulk d + 1
 end
def uptoSmall : (H : Type) → List (DataW H) → Bool := fun _ ds => decide (uptoBulkAll ds ≤ 1048576)
def OpenSpec.upto (s : _root_.Go.ChangeSpec) : _root_.Go.OpenSpec := { _root_.Go.OpenSpec.ofChange s with cond := some uptoSmall }

/-- 'quietwinglaw2.TakePlan', WHERE WHAT IT READS IS OF BULK AT MOST 1048576: true; the input reads as it did. -/
def takePlanUptoRow : OpenClaim := { program := "ytdmdoikkemfcaaadoor", sum := "9c3905dc03572f7f89e7f5cd225f8a6e03d93eb842aa23717383a3b9dd2c59bf", func := "quietwing/quietwinglaw2.TakePlan", spec := "takePlan", inPlace := ["internal/reflectlite.ValueOf", "(internal/reflectlite.Value).Type", "(internal/reflectlite.Value).IsNil", "internal/reflectlite.TypeOf", "(internal/reflectlite.Value).Elem", "(internal/reflectlite.Value).Set"], unfollowed := true, recurses := true, named := ["math/bits.deBruijn64tab", "errors.errorType"], apart := false, laid := [("math/bits.deBruijn64tab", laid_math_bits_deBruijn64tab), ("errors.errorType", laid_errors_errorType)], narrowed := true }
def TakePlanUptoSaid : Prop := takePlanUptoRow.holds Tryd.pinned (OpenSpec.upto takePlanSpec)

/-- 'quietwinglaw2.TakeSound', WHERE WHAT IT READS IS OF BULK AT MOST 1048576: true; the input reads as it did. -/
def takeSoundUptoRow : OpenClaim := { program := "ytdmdoikkemfcaaadoor", sum := "9c3905dc03572f7f89e7f5cd225f8a6e03d93eb842aa23717383a3b9dd2c59bf", func := "quietwing/quietwinglaw2.TakeSound", spec := "takeSound", unfollowed := true, recurses := true, named := ["math/bits.deBruijn64tab"], apart := false, laid := [("math/bits.deBruijn64tab", laid_math_bits_deBruijn64tab)], narrowed := true }
def TakeSoundUptoSaid : Prop := takeSoundUptoRow.holds Tryd.pinned (OpenSpec.upto takeSoundSpec)

/-- 'quietwinglaw2.TakeStays', WHERE WHAT IT READS IS OF BULK AT MOST 1048576: true; the input reads as it did. -/
def takeStaysUptoRow : OpenClaim := { program := "ytdmdoikkemfcaaadoor", sum := "9c3905dc03572f7f89e7f5cd225f8a6e03d93eb842aa23717383a3b9dd2c59bf", func := "quietwing/quietwinglaw2.TakeStays", spec := "takeStays", unfollowed := true, recurses := true, named := ["math/bits.deBruijn64tab"], apart := false, laid := [("math/bits.deBruijn64tab", laid_math_bits_deBruijn64tab)], narrowed := true }
def TakeStaysUptoSaid : Prop := takeStaysUptoRow.holds Tryd.pinned (OpenSpec.upto takeStaysSpec)

/-- 'quietwinglaw2.RolesSays', WHERE WHAT IT READS IS OF BULK AT MOST 1048576: true; the input reads as it did. -/
def rolesSaysUptoRow : OpenClaim := { program := "ytdmdoikkemfcaaadoor", sum := "9c3905dc03572f7f89e7f5cd225f8a6e03d93eb842aa23717383a3b9dd2c59bf", func := "quietwing/quietwinglaw2.RolesSays", spec := "rolesSays", inPlace := ["internal/reflectlite.ValueOf", "(internal/reflectlite.Value).Type", "(internal/reflectlite.Value).IsNil", "internal/reflectlite.TypeOf", "(internal/reflectlite.Value).Elem", "(internal/reflectlite.Value).Set"], unfollowed := true, recurses := true, named := ["math/bits.deBruijn64tab", "errors.errorType"], apart := false, laid := [("math/bits.deBruijn64tab", laid_math_bits_deBruijn64tab), ("errors.errorType", laid_errors_errorType)], narrowed := true }
def RolesSaysUptoSaid : Prop := rolesSaysUptoRow.holds Tryd.pinned (OpenSpec.upto rolesSaysSpec)

/-- 'quietwinglaw2.RolesAbove', WHERE WHAT IT READS IS OF BULK AT MOST 1048576: true; the input reads as it did. -/
def rolesAboveUptoRow : OpenClaim := { program := "ytdmdoikkemfcaaadoor", sum := "9c3905dc03572f7f89e7f5cd225f8a6e03d93eb842aa23717383a3b9dd2c59bf", func := "quietwing/quietwinglaw2.RolesAbove", spec := "rolesAbove", unfollowed := true, recurses := true, named := ["math/bits.deBruijn64tab"], apart := false, laid := [("math/bits.deBruijn64tab", laid_math_bits_deBruijn64tab)], narrowed := true }
def RolesAboveUptoSaid : Prop := rolesAboveUptoRow.holds Tryd.pinned (OpenSpec.upto rolesAboveSpec)

/-- 'quietwinglaw2.RolesNeed', WHERE WHAT IT READS IS OF BULK AT MOST 1048576: true; the input reads as it did. -/
def rolesNeedUptoRow : OpenClaim := { program := "ytdmdoikkemfcaaadoor", sum := "9c3905dc03572f7f89e7f5cd225f8a6e03d93eb842aa23717383a3b9dd2c59bf", func := "quietwing/quietwinglaw2.RolesNeed", spec := "rolesNeed", unfollowed := true, recurses := true, named := ["math/bits.deBruijn64tab"], apart := false, laid := [("math/bits.deBruijn64tab", laid_math_bits_deBruijn64tab)], narrowed := true }
def RolesNeedUptoSaid : Prop := rolesNeedUptoRow.holds Tryd.pinned (OpenSpec.upto rolesNeedSpec)

end Rows
end Go.Proofs.YtdmdoikkemfcaaaDoor
