/-
  NARROWER THAN 'FOR EVERY INPUT', by the rows' own cells (each row's printed sentence says how): FnEval: ifaces, laid · FnExactEval: ifaces, laid.
  DERIVED. THE GIVEN ROWS OF THIS SEAT. 2 by the template 'for every input the law returns true; each argument reads behind the call as it read before'; 0 by the template 'total and deterministic' (their statements: YtdjddneidbddpaaGreatDoorTotals.lean).
  GIVEN WITH THE SEED: the statements are not yours to turn. If you find one false, say at which input.
  Laid BY PROGRAM, IN A SANDBOX (cutbox-rows.mjs): the forced cells as the released guide's own fill.sh prints them over the translation 83e38ad22a3c029e… (all of the seat's roots in one cut). By AI agents, Wed Nov 11 2026. No macro, syntax, notation, axiom, sorry.
-/
import Derived.Test.YtdjddneidbddpaaGreatDoorChecked
import GoSem.Claim
import GoSem.ClaimJoined
import GoSem.ClaimMapViews
import Derived.JoinedTies
import Derived.KernelRfl
namespace Go.Proofs.YtdjddneidbddpaaGreatDoor
/- THE CELL 'sum', in the pinned program and in every row, IS THE sha256 OF THE DUMP (.gsa) THAT YtdjddneidbddpaaGreatDoorProg.lean LOADS. Nothing in Lean hashes anything: it is a label: what it is worth is what the hold of that sum in a sandbox is worth. -/
noncomputable def Tryz.pinned : Pinned := { name := "ytdjddneidbddpaagreatdoor", sum := "83e38ad22a3c029e5f3a0ed5d0af05282813c229e13e52922a870bc9a3a4910b", checked := Tryz.checked }
namespace Rows
def none {H : Type} : Left H := { results := [], args := [] }

/- WHAT THE LISTED PACKAGE-LEVEL VARIABLES READ AS WHEN THE CALL BEGINS. Each datum BY PROGRAM (the guide's laid-datum.mjs) off the statement by which the dump's own 'gosem.cut.vars' lays the variable. In a bare row this is a premise. The card (YtdjddneidbddpaaGreatDoorCards.lean) ties it to the program's text. -/
def laid_errors_errorType {H : Type} : DataW H := .iface "internal/reflectlite.rtype" (.agg [.ptr (.lit (.string [101, 114, 114, 111, 114]))])
def laid_loop_example_g00345_impl_errKind {H : Type} : DataW H := .iface "*errors.errorString" (.ptr (.agg [.lit (.string [97, 32, 118, 97, 108, 117, 101, 32, 111, 102, 32, 116, 104, 97, 116, 32, 107, 105, 110, 100, 32, 104, 97, 115, 32, 110, 111, 32, 115, 117, 99, 104, 32, 116, 104, 105, 110, 103])]))
def laid_loop_example_g00345_impl_errNotRight {H : Type} : DataW H := .iface "*errors.errorString" (.ptr (.agg [.lit (.string [119, 104, 97, 116, 32, 99, 111, 109, 101, 115, 32, 111, 102, 32, 105, 116, 32, 105, 115, 32, 110, 111, 32, 114, 105, 103, 104, 116, 32, 118, 97, 108, 117, 101])]))
def laid_loop_example_g00345_impl_errManyOuts {H : Type} : DataW H := .iface "*errors.errorString" (.ptr (.agg [.lit (.string [97, 32, 110, 111, 100, 101, 32, 104, 97, 115, 32, 116, 111, 111, 32, 109, 97, 110, 121, 32, 111, 117, 116, 99, 111, 109, 101, 115])]))
def laid_loop_example_g00345_impl_errNoFuel {H : Type} : DataW H := .iface "*errors.errorString" (.ptr (.agg [.lit (.string [116, 104, 101, 114, 101, 32, 105, 115, 32, 110, 111, 32, 102, 117, 101, 108, 32, 102, 111, 114, 32, 97, 110, 111, 116, 104, 101, 114, 32, 110, 111, 100, 101])]))

/-- 'laws.FnEval': WHATEVER THE INPUT: true; the input reads as it did. -/
def fnEvalSpec : ChangeSpec := { name := "fnEval", vars := ["loop.example/g00345/impl.errNoFuel", "loop.example/g00345/impl.errManyOuts", "loop.example/g00345/impl.errKind", "loop.example/g00345/impl.errNotRight"], fn := fun _ => fun
  | [d, g1, g2, g3, g4] => { results := [.lit (.bool true)], args := [d], vars := [g1, g2, g3, g4] }
  | _ => none }
def fnEvalRow : OpenClaim := { program := "ytdjddneidbddpaagreatdoor", sum := "83e38ad22a3c029e5f3a0ed5d0af05282813c229e13e52922a870bc9a3a4910b", func := "loop.example/g00345/laws.FnEval", spec := "fnEval", inPlace := ["internal/bytealg.abigen_runtime_cmpstring", "internal/reflectlite.TypeOf", "internal/reflectlite.ValueOf", "(internal/reflectlite.Value).Type", "(internal/reflectlite.Value).IsNil", "(internal/reflectlite.Value).Elem", "(internal/reflectlite.Value).Set"], unfollowed := true, recurses := true, named := ["loop.example/g00345/impl.errNoFuel", "loop.example/g00345/impl.errManyOuts", "loop.example/g00345/impl.errKind", "loop.example/g00345/impl.errNotRight", "errors.errorType"], ifaces := true, apart := false, laid := [("errors.errorType", laid_errors_errorType), ("loop.example/g00345/impl.errKind", laid_loop_example_g00345_impl_errKind), ("loop.example/g00345/impl.errNotRight", laid_loop_example_g00345_impl_errNotRight), ("loop.example/g00345/impl.errManyOuts", laid_loop_example_g00345_impl_errManyOuts), ("loop.example/g00345/impl.errNoFuel", laid_loop_example_g00345_impl_errNoFuel)] }
def FnEvalSaid : Prop := fnEvalRow.holds Tryz.pinned (OpenSpec.ofChange fnEvalSpec)

/-- ITS FALSE NEIGHBOUR: 'it returns false'. Refute it at one input. -/
def fnEvalWrong : ChangeSpec := { name := "fnEval", vars := ["loop.example/g00345/impl.errNoFuel", "loop.example/g00345/impl.errManyOuts", "loop.example/g00345/impl.errKind", "loop.example/g00345/impl.errNotRight"], fn := fun _ => fun
  | [d, g1, g2, g3, g4] => { results := [.lit (.bool false)], args := [d], vars := [g1, g2, g3, g4] }
  | _ => none }
def FnEvalWrongFalsely : Prop := fnEvalRow.holds Tryz.pinned (OpenSpec.ofChange fnEvalWrong)

/-- 'laws.FnExactEval': WHATEVER THE INPUT: true; the input reads as it did. -/
def fnExactEvalSpec : ChangeSpec := { name := "fnExactEval", vars := ["loop.example/g00345/impl.errNoFuel", "loop.example/g00345/impl.errManyOuts", "loop.example/g00345/impl.errKind", "loop.example/g00345/impl.errNotRight"], fn := fun _ => fun
  | [d1, d2, d3, g1, g2, g3, g4] => { results := [.lit (.bool true)], args := [d1, d2, d3], vars := [g1, g2, g3, g4] }
  | _ => none }
def fnExactEvalRow : OpenClaim := { program := "ytdjddneidbddpaagreatdoor", sum := "83e38ad22a3c029e5f3a0ed5d0af05282813c229e13e52922a870bc9a3a4910b", func := "loop.example/g00345/laws.FnExactEval", spec := "fnExactEval", inPlace := ["internal/bytealg.abigen_runtime_cmpstring", "internal/reflectlite.TypeOf", "internal/reflectlite.ValueOf", "(internal/reflectlite.Value).Type", "(internal/reflectlite.Value).IsNil", "(internal/reflectlite.Value).Elem", "(internal/reflectlite.Value).Set"], unfollowed := true, recurses := true, named := ["loop.example/g00345/impl.errNoFuel", "loop.example/g00345/impl.errManyOuts", "loop.example/g00345/impl.errKind", "loop.example/g00345/impl.errNotRight", "errors.errorType"], ifaces := true, apart := false, laid := [("errors.errorType", laid_errors_errorType), ("loop.example/g00345/impl.errKind", laid_loop_example_g00345_impl_errKind), ("loop.example/g00345/impl.errNotRight", laid_loop_example_g00345_impl_errNotRight), ("loop.example/g00345/impl.errManyOuts", laid_loop_example_g00345_impl_errManyOuts), ("loop.example/g00345/impl.errNoFuel", laid_loop_example_g00345_impl_errNoFuel)] }
def FnExactEvalSaid : Prop := fnExactEvalRow.holds Tryz.pinned (OpenSpec.ofChange fnExactEvalSpec)

/-- ITS FALSE NEIGHBOUR: 'it returns false'. Refute it at one input. -/
def fnExactEvalWrong : ChangeSpec := { name := "fnExactEval", vars := ["loop.example/g00345/impl.errNoFuel", "loop.example/g00345/impl.errManyOuts", "loop.example/g00345/impl.errKind", "loop.example/g00345/impl.errNotRight"], fn := fun _ => fun
  | [d1, d2, d3, g1, g2, g3, g4] => { results := [.lit (.bool false)], args := [d1, d2, d3], vars := [g1, g2, g3, g4] }
  | _ => none }
def FnExactEvalWrongFalsely : Prop := fnExactEvalRow.holds Tryz.pinned (OpenSpec.ofChange fnExactEvalWrong)

/- THE SECOND FORM. 'bulk': how many values and letters a reading holds, each counted each time it is reached (what is shared counts as often as it is met; a slice's spare places count too). A statement '..UptoSaid' is the law's where the arguments, and the package variables that the reading takes, are together of bulk at most 1048576: NARROWER than '..Said'. Prove '..Said' where nothing that the law and all that it calls make is longer than what came in: it says more and counts as full. Else prove '..UptoSaid'. A law counts once. -/
mutual
def uptoBulk {H : Type} : DataW H → Nat
  | .lit (.string bytes) => bytes.length + 1
  | .lit _ => 1
  | .nil => 1
  | .ptr d => uptoBulk d + 1
  | .slice elems spare => uptoBulkAll elems + uptoBulkAll spare + 1
  | .agg parts => uptoBulkAll parts + 1
  | .iface _ d => uptoBulk d + 1
  | .map entries => uptoBulkEntries entries + 1
  | .held _ => 1
def uptoBulkAll {H : Type} : List (DataW H) → Nat
  | [] => 0
  | d :: r => uptoBulk d + uptoBulkAll r
def uptoBulkEntries {H : Type} : List (Lit × DataW H) → Nat
  | [] => 0
  | x :: r => uptoBulkEntry x + uptoBulkEntries r
def uptoBulkEntry {H : Type} : Lit × DataW H → Nat
  | (.string bytes, d) => bytes.length + uptoBulk d + 1
  | (_, d) => uptoBulk d + 1
 end
def uptoSmall : (H : Type) → List (DataW H) → Bool := fun _ ds => decide (uptoBulkAll ds ≤ 1048576)
def OpenSpec.upto (s : _root_.Go.ChangeSpec) : _root_.Go.OpenSpec := { _root_.Go.OpenSpec.ofChange s with cond := some uptoSmall }

/-- 'laws.FnEval', WHERE WHAT IT READS IS OF BULK AT MOST 1048576: true; the input reads as it did. -/
def fnEvalUptoRow : OpenClaim := { program := "ytdjddneidbddpaagreatdoor", sum := "83e38ad22a3c029e5f3a0ed5d0af05282813c229e13e52922a870bc9a3a4910b", func := "loop.example/g00345/laws.FnEval", spec := "fnEval", inPlace := ["internal/bytealg.abigen_runtime_cmpstring", "internal/reflectlite.TypeOf", "internal/reflectlite.ValueOf", "(internal/reflectlite.Value).Type", "(internal/reflectlite.Value).IsNil", "(internal/reflectlite.Value).Elem", "(internal/reflectlite.Value).Set"], unfollowed := true, recurses := true, named := ["loop.example/g00345/impl.errNoFuel", "loop.example/g00345/impl.errManyOuts", "loop.example/g00345/impl.errKind", "loop.example/g00345/impl.errNotRight", "errors.errorType"], ifaces := true, apart := false, laid := [("errors.errorType", laid_errors_errorType), ("loop.example/g00345/impl.errKind", laid_loop_example_g00345_impl_errKind), ("loop.example/g00345/impl.errNotRight", laid_loop_example_g00345_impl_errNotRight), ("loop.example/g00345/impl.errManyOuts", laid_loop_example_g00345_impl_errManyOuts), ("loop.example/g00345/impl.errNoFuel", laid_loop_example_g00345_impl_errNoFuel)], narrowed := true }
def FnEvalUptoSaid : Prop := fnEvalUptoRow.holds Tryz.pinned (OpenSpec.upto fnEvalSpec)

/-- 'laws.FnExactEval', WHERE WHAT IT READS IS OF BULK AT MOST 1048576: true; the input reads as it did. -/
def fnExactEvalUptoRow : OpenClaim := { program := "ytdjddneidbddpaagreatdoor", sum := "83e38ad22a3c029e5f3a0ed5d0af05282813c229e13e52922a870bc9a3a4910b", func := "loop.example/g00345/laws.FnExactEval", spec := "fnExactEval", inPlace := ["internal/bytealg.abigen_runtime_cmpstring", "internal/reflectlite.TypeOf", "internal/reflectlite.ValueOf", "(internal/reflectlite.Value).Type", "(internal/reflectlite.Value).IsNil", "(internal/reflectlite.Value).Elem", "(internal/reflectlite.Value).Set"], unfollowed := true, recurses := true, named := ["loop.example/g00345/impl.errNoFuel", "loop.example/g00345/impl.errManyOuts", "loop.example/g00345/impl.errKind", "loop.example/g00345/impl.errNotRight", "errors.errorType"], ifaces := true, apart := false, laid := [("errors.errorType", laid_errors_errorType), ("loop.example/g00345/impl.errKind", laid_loop_example_g00345_impl_errKind), ("loop.example/g00345/impl.errNotRight", laid_loop_example_g00345_impl_errNotRight), ("loop.example/g00345/impl.errManyOuts", laid_loop_example_g00345_impl_errManyOuts), ("loop.example/g00345/impl.errNoFuel", laid_loop_example_g00345_impl_errNoFuel)], narrowed := true }
def FnExactEvalUptoSaid : Prop := fnExactEvalUptoRow.holds Tryz.pinned (OpenSpec.upto fnExactEvalSpec)

end Rows
end Go.Proofs.YtdjddneidbddpaaGreatDoor
