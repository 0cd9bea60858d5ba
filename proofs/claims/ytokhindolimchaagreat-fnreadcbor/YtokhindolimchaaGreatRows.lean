/-
  No cell of these rows narrows 'for every input' (looked for: loops, veiled, ifaces, maps, wideKeys, modest, calm, conditions, laid).
  DERIVED. THE GIVEN ROWS OF THIS SEAT. 3 by the template 'for every input the law returns true; each argument reads behind the call as it read before'; 0 by the template 'total and deterministic' (their statements: YtokhindolimchaaGreatTotals.lean).
  GIVEN WITH THE SEED: the statements are not yours to turn. If you find one false, say at which input.
  Laid BY PROGRAM, IN A SANDBOX (cutbox-rows.mjs): the forced cells as the released guide's own fill.sh prints them over the translation 611301b85684c8ec… (all of the seat's roots in one cut). By AI agents, Wed Nov 11 2026. No macro, syntax, notation, axiom, sorry.
-/
import Derived.Test.YtokhindolimchaaGreatChecked
import GoSem.Claim
import GoSem.ClaimJoined
import GoSem.ClaimMapViews
import Derived.JoinedTies
import Derived.KernelRfl
namespace Go.Proofs.YtokhindolimchaaGreat
/- THE CELL 'sum', in the pinned program and in every row, IS THE sha256 OF THE DUMP (.gsa) THAT YtokhindolimchaaGreatProg.lean LOADS. Nothing in Lean hashes anything: it is a label: what it is worth is what the hold of that sum in a sandbox is worth. -/
noncomputable def Tryz.pinned : Pinned := { name := "ytokhindolimchaagreat", sum := "611301b85684c8ecce4e2fdb5c2ce7bc782afa78046c989916c16ca8da819f26", checked := Tryz.checked }
namespace Rows
def none {H : Type} : Left H := { results := [], args := [] }

/-- 'laws.FnReadCbor': WHATEVER THE INPUT: true; the input reads as it did. -/
def fnReadCborSpec : ChangeSpec := { name := "fnReadCbor", fn := fun _ => fun
  | [d] => { results := [.lit (.bool true)], args := [d] }
  | _ => none }
def fnReadCborRow : OpenClaim := { program := "ytokhindolimchaagreat", sum := "611301b85684c8ecce4e2fdb5c2ce7bc782afa78046c989916c16ca8da819f26", func := "loop.example/g00345/laws.FnReadCbor", spec := "fnReadCbor", inPlace := ["internal/bytealg.abigen_runtime_cmpstring", "internal/abi.NoEscape"], unfollowed := true, recurses := true, apart := false }
def FnReadCborSaid : Prop := fnReadCborRow.holds Tryz.pinned (OpenSpec.ofChange fnReadCborSpec)

/-- ITS FALSE NEIGHBOUR: 'it returns false'. Refute it at one input. -/
def fnReadCborWrong : ChangeSpec := { name := "fnReadCbor", fn := fun _ => fun
  | [d] => { results := [.lit (.bool false)], args := [d] }
  | _ => none }
def FnReadCborWrongFalsely : Prop := fnReadCborRow.holds Tryz.pinned (OpenSpec.ofChange fnReadCborWrong)

/-- 'laws.FnPack': WHATEVER THE INPUT: true; the input reads as it did. -/
def fnPackSpec : ChangeSpec := { name := "fnPack", fn := fun _ => fun
  | [d] => { results := [.lit (.bool true)], args := [d] }
  | _ => none }
def fnPackRow : OpenClaim := { program := "ytokhindolimchaagreat", sum := "611301b85684c8ecce4e2fdb5c2ce7bc782afa78046c989916c16ca8da819f26", func := "loop.example/g00345/laws.FnPack", spec := "fnPack", inPlace := ["internal/abi.NoEscape", "internal/bytealg.abigen_runtime_cmpstring"], unfollowed := true, recurses := true, apart := false }
def FnPackSaid : Prop := fnPackRow.holds Tryz.pinned (OpenSpec.ofChange fnPackSpec)

/-- ITS FALSE NEIGHBOUR: 'it returns false'. Refute it at one input. -/
def fnPackWrong : ChangeSpec := { name := "fnPack", fn := fun _ => fun
  | [d] => { results := [.lit (.bool false)], args := [d] }
  | _ => none }
def FnPackWrongFalsely : Prop := fnPackRow.holds Tryz.pinned (OpenSpec.ofChange fnPackWrong)

/-- 'laws.FnReadPack': WHATEVER THE INPUT: true; the input reads as it did. -/
def fnReadPackSpec : ChangeSpec := { name := "fnReadPack", fn := fun _ => fun
  | [d] => { results := [.lit (.bool true)], args := [d] }
  | _ => none }
def fnReadPackRow : OpenClaim := { program := "ytokhindolimchaagreat", sum := "611301b85684c8ecce4e2fdb5c2ce7bc782afa78046c989916c16ca8da819f26", func := "loop.example/g00345/laws.FnReadPack", spec := "fnReadPack", inPlace := ["internal/bytealg.abigen_runtime_cmpstring", "internal/abi.NoEscape"], unfollowed := true, recurses := true, apart := false }
def FnReadPackSaid : Prop := fnReadPackRow.holds Tryz.pinned (OpenSpec.ofChange fnReadPackSpec)

/-- ITS FALSE NEIGHBOUR: 'it returns false'. Refute it at one input. -/
def fnReadPackWrong : ChangeSpec := { name := "fnReadPack", fn := fun _ => fun
  | [d] => { results := [.lit (.bool false)], args := [d] }
  | _ => none }
def FnReadPackWrongFalsely : Prop := fnReadPackRow.holds Tryz.pinned (OpenSpec.ofChange fnReadPackWrong)

/- THE SECOND FORM. 'bulk': how many values and letters a reading holds, each counted each time it is reached (what is shared counts as often as it is met; a slice's spare places count too). A statement '..UptoSaid' is the law's where the arguments, and the package variables that the reading takes, are together of bulk at most 1048576: NARROWER than '..Said'. Prove '..Said' where nothing that the law and all that it calls make is longer than what came in: it says more and counts as full. Else prove '..UptoSaid'. A law counts once. -/
mutual
def uptoBulk {H : Type} : DataW H → Nat
  | .lit (.string bytes) => bytes.length + 1
  | .lit _ => 1
  | .nil => 1
  | .ptr d => uptoBulk d + 1
  | .slice elems spare => uptoBulkAll elems + uptoBulkAll spare + 1
  | .agg parts => uptoBulkAll parts + 1
  | .iface _ d => uptoBulk d + 1
  | .map entries => uptoBulkEntries entries + 1
  | .held _ => 1
def uptoBulkAll {H : Type} : List (DataW H) → Nat
  | [] => 0
  | d :: r => uptoBulk d + uptoBulkAll r
def uptoBulkEntries {H : Type} : List (Lit × DataW H) → Nat
  | [] => 0
  | x :: r => uptoBulkEntry x + uptoBulkEntries r
def uptoBulkEntry {H : Type} : Lit × DataW H → Nat
  | (.string bytes, d) => bytes.length + uptoBulk d + 1
  | (_, d) => uptoBulk d + 1
 end
def uptoSmall : (H : Type) → List (DataW H) → Bool := fun _ ds => decide (uptoBulkAll ds ≤ 1048576)
def OpenSpec.upto (s : _root_.Go.ChangeSpec) : _root_.Go.OpenSpec := { _root_.Go.OpenSpec.ofChange s with cond := some uptoSmall }

/-- 'laws.FnReadCbor', WHERE WHAT IT READS IS OF BULK AT MOST 1048576: true; the input reads as it did. -/
def fnReadCborUptoRow : OpenClaim := { program := "ytokhindolimchaagreat", sum := "611301b85684c8ecce4e2fdb5c2ce7bc782afa78046c989916c16ca8da819f26", func := "loop.example/g00345/laws.FnReadCbor", spec := "fnReadCbor", inPlace := ["internal/bytealg.abigen_runtime_cmpstring", "internal/abi.NoEscape"], unfollowed := true, recurses := true, apart := false, narrowed := true }
def FnReadCborUptoSaid : Prop := fnReadCborUptoRow.holds Tryz.pinned (OpenSpec.upto fnReadCborSpec)

/-- 'laws.FnPack', WHERE WHAT IT READS IS OF BULK AT MOST 1048576: true; the input reads as it did. -/
def fnPackUptoRow : OpenClaim := { program := "ytokhindolimchaagreat", sum := "611301b85684c8ecce4e2fdb5c2ce7bc782afa78046c989916c16ca8da819f26", func := "loop.example/g00345/laws.FnPack", spec := "fnPack", inPlace := ["internal/abi.NoEscape", "internal/bytealg.abigen_runtime_cmpstring"], unfollowed := true, recurses := true, apart := false, narrowed := true }
def FnPackUptoSaid : Prop := fnPackUptoRow.holds Tryz.pinned (OpenSpec.upto fnPackSpec)

/-- 'laws.FnReadPack', WHERE WHAT IT READS IS OF BULK AT MOST 1048576: true; the input reads as it did. -/
def fnReadPackUptoRow : OpenClaim := { program := "ytokhindolimchaagreat", sum := "611301b85684c8ecce4e2fdb5c2ce7bc782afa78046c989916c16ca8da819f26", func := "loop.example/g00345/laws.FnReadPack", spec := "fnReadPack", inPlace := ["internal/bytealg.abigen_runtime_cmpstring", "internal/abi.NoEscape"], unfollowed := true, recurses := true, apart := false, narrowed := true }
def FnReadPackUptoSaid : Prop := fnReadPackUptoRow.holds Tryz.pinned (OpenSpec.upto fnReadPackSpec)

end Rows
end Go.Proofs.YtokhindolimchaaGreat
