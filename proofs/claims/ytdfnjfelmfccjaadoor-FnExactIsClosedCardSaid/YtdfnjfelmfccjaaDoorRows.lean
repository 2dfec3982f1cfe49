/-
  NARROWER THAN 'FOR EVERY INPUT', by the rows' own cells (each row's printed sentence says how): FnExactFreeVars: loops, laid · FnExactIsClosed: loops, laid · FnExactLevelsOk: loops, laid · FnExactIsPlain: loops, laid · FnExactIsGenerated: loops, laid · FnExactHighestLevel: loops, laid.
  DERIVED. THE GIVEN ROWS OF THIS SEAT. 6 by the template 'for every input the law returns true; each argument reads behind the call as it read before'; 0 by the template 'total and deterministic' (their statements: YtdfnjfelmfccjaaDoorTotals.lean).
  GIVEN WITH THE SEED: the statements are not yours to turn. If you find one false, say at which input.
  Laid BY PROGRAM, IN A SANDBOX (cutbox-rows.mjs): the forced cells as the released guide's own fill.sh prints them over the translation 87ea7335a511a2a0… (all of the seat's roots in one cut). By AI agents, Wed Nov 11 2026. No macro, syntax, notation, axiom, sorry.
-/
import Derived.Test.YtdfnjfelmfccjaaDoorChecked
import GoSem.Claim
import GoSem.ClaimJoined
import GoSem.ClaimMapViews
import Derived.JoinedTies
import Derived.KernelRfl
namespace Go.Proofs.YtdfnjfelmfccjaaDoor
/- THE CELL 'sum', in the pinned program and in every row, IS THE sha256 OF THE DUMP (.gsa) THAT YtdfnjfelmfccjaaDoorProg.lean LOADS. Nothing in Lean hashes anything: it is a label: what it is worth is what the hold of that sum in a sandbox is worth. -/
noncomputable def Tryd.pinned : Pinned := { name := "ytdfnjfelmfccjaadoor", sum := "87ea7335a511a2a04cadb372a9f41b1c4967d01e0a07fdecf61f1073e321d15f", checked := Tryd.checked }
namespace Rows
def none {H : Type} : Left H := { results := [], args := [] }

/- WHAT THE LISTED PACKAGE-LEVEL VARIABLES READ AS WHEN THE CALL BEGINS. Each datum BY PROGRAM (the guide's laid-datum.mjs) off the statement by which the dump's own 'gosem.cut.vars' lays the variable. In a bare row this is a premise. The card (YtdfnjfelmfccjaaDoorCards.lean) ties it to the program's text. -/
def laid_loop_example_g00589_impl_kindArity {H : Type} : DataW H := .agg [.lit (.int .i64 0), .lit (.int .i64 0), .lit (.int .i64 0), .lit (.int .i64 0), .lit (.int .i64 0), .lit (.int .i64 3), .lit (.int .i64 1), .lit (.int .i64 2), .lit (.int .i64 2), .lit (.int .i64 1), .lit (.int .i64 1), .lit (.int .i64 1), .lit (.int .i64 1), .lit (.int .i64 1)]

/-- 'laws.FnExactFreeVars': WHATEVER THE INPUT: true; the input reads as it did. -/
def fnExactFreeVarsSpec : ChangeSpec := { name := "fnExactFreeVars", vars := ["loop.example/g00589/impl.kindArity"], fn := fun _ => fun
  | [d, g1] => { results := [.lit (.bool true)], args := [d], vars := [g1] }
  | _ => none }
def fnExactFreeVarsRow : OpenClaim := { program := "ytdfnjfelmfccjaadoor", sum := "87ea7335a511a2a04cadb372a9f41b1c4967d01e0a07fdecf61f1073e321d15f", func := "loop.example/g00589/laws.FnExactFreeVars", spec := "fnExactFreeVars", unfollowed := true, recurses := true, named := ["loop.example/g00589/impl.kindArity"], loops := true, apart := false, laid := [("loop.example/g00589/impl.kindArity", laid_loop_example_g00589_impl_kindArity)] }
def FnExactFreeVarsSaid : Prop := fnExactFreeVarsRow.holds Tryd.pinned (OpenSpec.ofChange fnExactFreeVarsSpec)

/-- ITS FALSE NEIGHBOUR: 'it returns false'. Refute it at one input. -/
def fnExactFreeVarsWrong : ChangeSpec := { name := "fnExactFreeVars", vars := ["loop.example/g00589/impl.kindArity"], fn := fun _ => fun
  | [d, g1] => { results := [.lit (.bool false)], args := [d], vars := [g1] }
  | _ => none }
def FnExactFreeVarsWrongFalsely : Prop := fnExactFreeVarsRow.holds Tryd.pinned (OpenSpec.ofChange fnExactFreeVarsWrong)

/-- 'laws.FnExactIsClosed': WHATEVER THE INPUT: true; the input reads as it did. -/
def fnExactIsClosedSpec : ChangeSpec := { name := "fnExactIsClosed", vars := ["loop.example/g00589/impl.kindArity"], fn := fun _ => fun
  | [d, g1] => { results := [.lit (.bool true)], args := [d], vars := [g1] }
  | _ => none }
def fnExactIsClosedRow : OpenClaim := { program := "ytdfnjfelmfccjaadoor", sum := "87ea7335a511a2a04cadb372a9f41b1c4967d01e0a07fdecf61f1073e321d15f", func := "loop.example/g00589/laws.FnExactIsClosed", spec := "fnExactIsClosed", unfollowed := true, recurses := true, named := ["loop.example/g00589/impl.kindArity"], loops := true, apart := false, laid := [("loop.example/g00589/impl.kindArity", laid_loop_example_g00589_impl_kindArity)] }
def FnExactIsClosedSaid : Prop := fnExactIsClosedRow.holds Tryd.pinned (OpenSpec.ofChange fnExactIsClosedSpec)

/-- ITS FALSE NEIGHBOUR: 'it returns false'. Refute it at one input. -/
def fnExactIsClosedWrong : ChangeSpec := { name := "fnExactIsClosed", vars := ["loop.example/g00589/impl.kindArity"], fn := fun _ => fun
  | [d, g1] => { results := [.lit (.bool false)], args := [d], vars := [g1] }
  | _ => none }
def FnExactIsClosedWrongFalsely : Prop := fnExactIsClosedRow.holds Tryd.pinned (OpenSpec.ofChange fnExactIsClosedWrong)

/-- 'laws.FnExactLevelsOk': WHATEVER THE INPUT: true; the input reads as it did. -/
def fnExactLevelsOkSpec : ChangeSpec := { name := "fnExactLevelsOk", vars := ["loop.example/g00589/impl.kindArity"], fn := fun _ => fun
  | [d1, d2, g1] => { results := [.lit (.bool true)], args := [d1, d2], vars := [g1] }
  | _ => none }
def fnExactLevelsOkRow : OpenClaim := { program := "ytdfnjfelmfccjaadoor", sum := "87ea7335a511a2a04cadb372a9f41b1c4967d01e0a07fdecf61f1073e321d15f", func := "loop.example/g00589/laws.FnExactLevelsOk", spec := "fnExactLevelsOk", unfollowed := true, recurses := true, named := ["loop.example/g00589/impl.kindArity"], loops := true, apart := false, laid := [("loop.example/g00589/impl.kindArity", laid_loop_example_g00589_impl_kindArity)] }
def FnExactLevelsOkSaid : Prop := fnExactLevelsOkRow.holds Tryd.pinned (OpenSpec.ofChange fnExactLevelsOkSpec)

/-- ITS FALSE NEIGHBOUR: 'it returns false'. Refute it at one input. -/
def fnExactLevelsOkWrong : ChangeSpec := { name := "fnExactLevelsOk", vars := ["loop.example/g00589/impl.kindArity"], fn := fun _ => fun
  | [d1, d2, g1] => { results := [.lit (.bool false)], args := [d1, d2], vars := [g1] }
  | _ => none }
def FnExactLevelsOkWrongFalsely : Prop := fnExactLevelsOkRow.holds Tryd.pinned (OpenSpec.ofChange fnExactLevelsOkWrong)

/-- 'laws.FnExactIsPlain': WHATEVER THE INPUT: true; the input reads as it did. -/
def fnExactIsPlainSpec : ChangeSpec := { name := "fnExactIsPlain", vars := ["loop.example/g00589/impl.kindArity"], fn := fun _ => fun
  | [d, g1] => { results := [.lit (.bool true)], args := [d], vars := [g1] }
  | _ => none }
def fnExactIsPlainRow : OpenClaim := { program := "ytdfnjfelmfccjaadoor", sum := "87ea7335a511a2a04cadb372a9f41b1c4967d01e0a07fdecf61f1073e321d15f", func := "loop.example/g00589/laws.FnExactIsPlain", spec := "fnExactIsPlain", unfollowed := true, recurses := true, named := ["loop.example/g00589/impl.kindArity"], loops := true, apart := false, laid := [("loop.example/g00589/impl.kindArity", laid_loop_example_g00589_impl_kindArity)] }
def FnExactIsPlainSaid : Prop := fnExactIsPlainRow.holds Tryd.pinned (OpenSpec.ofChange fnExactIsPlainSpec)

/-- ITS FALSE NEIGHBOUR: 'it returns false'. Refute it at one input. -/
def fnExactIsPlainWrong : ChangeSpec := { name := "fnExactIsPlain", vars := ["loop.example/g00589/impl.kindArity"], fn := fun _ => fun
  | [d, g1] => { results := [.lit (.bool false)], args := [d], vars := [g1] }
  | _ => none }
def FnExactIsPlainWrongFalsely : Prop := fnExactIsPlainRow.holds Tryd.pinned (OpenSpec.ofChange fnExactIsPlainWrong)

/-- 'laws.FnExactIsGenerated': WHATEVER THE INPUT: true; the input reads as it did. -/
def fnExactIsGeneratedSpec : ChangeSpec := { name := "fnExactIsGenerated", vars := ["loop.example/g00589/impl.kindArity"], fn := fun _ => fun
  | [d1, d2, g1] => { results := [.lit (.bool true)], args := [d1, d2], vars := [g1] }
  | _ => none }
def fnExactIsGeneratedRow : OpenClaim := { program := "ytdfnjfelmfccjaadoor", sum := "87ea7335a511a2a04cadb372a9f41b1c4967d01e0a07fdecf61f1073e321d15f", func := "loop.example/g00589/laws.FnExactIsGenerated", spec := "fnExactIsGenerated", unfollowed := true, recurses := true, named := ["loop.example/g00589/impl.kindArity"], loops := true, apart := false, laid := [("loop.example/g00589/impl.kindArity", laid_loop_example_g00589_impl_kindArity)] }
def FnExactIsGeneratedSaid : Prop := fnExactIsGeneratedRow.holds Tryd.pinned (OpenSpec.ofChange fnExactIsGeneratedSpec)

/-- ITS FALSE NEIGHBOUR: 'it returns false'. Refute it at one input. -/
def fnExactIsGeneratedWrong : ChangeSpec := { name := "fnExactIsGenerated", vars := ["loop.example/g00589/impl.kindArity"], fn := fun _ => fun
  | [d1, d2, g1] => { results := [.lit (.bool false)], args := [d1, d2], vars := [g1] }
  | _ => none }
def FnExactIsGeneratedWrongFalsely : Prop := fnExactIsGeneratedRow.holds Tryd.pinned (OpenSpec.ofChange fnExactIsGeneratedWrong)

/-- 'laws.FnExactHighestLevel': WHATEVER THE INPUT: true; the input reads as it did. -/
def fnExactHighestLevelSpec : ChangeSpec := { name := "fnExactHighestLevel", vars := ["loop.example/g00589/impl.kindArity"], fn := fun _ => fun
  | [d, g1] => { results := [.lit (.bool true)], args := [d], vars := [g1] }
  | _ => none }
def fnExactHighestLevelRow : OpenClaim := { program := "ytdfnjfelmfccjaadoor", sum := "87ea7335a511a2a04cadb372a9f41b1c4967d01e0a07fdecf61f1073e321d15f", func := "loop.example/g00589/laws.FnExactHighestLevel", spec := "fnExactHighestLevel", unfollowed := true, recurses := true, named := ["loop.example/g00589/impl.kindArity"], loops := true, apart := false, laid := [("loop.example/g00589/impl.kindArity", laid_loop_example_g00589_impl_kindArity)] }
def FnExactHighestLevelSaid : Prop := fnExactHighestLevelRow.holds Tryd.pinned (OpenSpec.ofChange fnExactHighestLevelSpec)

/-- ITS FALSE NEIGHBOUR: 'it returns false'. Refute it at one input. -/
def fnExactHighestLevelWrong : ChangeSpec := { name := "fnExactHighestLevel", vars := ["loop.example/g00589/impl.kindArity"], fn := fun _ => fun
  | [d, g1] => { results := [.lit (.bool false)], args := [d], vars := [g1] }
  | _ => none }
def FnExactHighestLevelWrongFalsely : Prop := fnExactHighestLevelRow.holds Tryd.pinned (OpenSpec.ofChange fnExactHighestLevelWrong)

/- THE SECOND FORM. 'bulk': how many values and letters a reading holds, each counted each time it is reached (what is shared counts as often as it is met; a slice's spare places count too). A statement '..UptoSaid' is the law's where the arguments, and the package variables that the reading takes, are together of bulk at most 1048576: NARROWER than '..Said'. Prove '..Said' where nothing that the law and all that it calls make is longer than what came in: it says more and counts as full. Else prove '..UptoSaid'. A law counts once. -/
mutual
def uptoBulk {H : Type} : DataW H → Nat
  | .lit (.string bytes) => bytes.length + 1
  | .lit _ => 1
  | .nil => 1
  | .ptr d => uptoBulk d + 1
  | .slice elems spare => uptoBulkAll elems + uptoBulkAll spare + 1
  | .agg parts => uptoBulkAll parts + 1
  | .iface _ d => uptoBulk d + 1
  | .map entries => uptoBulkEntries entries + 1
  | .held _ => 1
def uptoBulkAll {H : Type} : List (DataW H) → Nat
  | [] => 0
  | d :: r => uptoBulk d + uptoBulkAll r
def uptoBulkEntries {H : Type} : List (Lit × DataW H) → Nat
  | [] => 0
  | x :: r => uptoBulkEntry x + uptoBulkEntries r
def uptoBulkEntry {H : Type} : Lit × DataW H → Nat
  | (.string bytes, d) => bytes.length + uptoBulk d + 1
  | (_, d) => uptoBulk d + 1
 end
def uptoSmall : (H : Type) → List (DataW H) → Bool := fun _ ds => decide (uptoBulkAll ds ≤ 1048576)
def OpenSpec.upto (s : _root_.Go.ChangeSpec) : _root_.Go.OpenSpec := { _root_.Go.OpenSpec.ofChange s with cond := some uptoSmall }

/-- 'laws.FnExactFreeVars', WHERE WHAT IT READS IS OF BULK AT MOST 1048576: true; the input reads as it did. -/
def fnExactFreeVarsUptoRow : OpenClaim := { program := "ytdfnjfelmfccjaadoor", sum := "87ea7335a511a2a04cadb372a9f41b1c4967d01e0a07fdecf61f1073e321d15f", func := "loop.example/g00589/laws.FnExactFreeVars", spec := "fnExactFreeVars", unfollowed := true, recurses := true, named := ["loop.example/g00589/impl.kindArity"], loops := true, apart := false, laid := [("loop.example/g00589/impl.kindArity", laid_loop_example_g00589_impl_kindArity)], narrowed := true }
def FnExactFreeVarsUptoSaid : Prop := fnExactFreeVarsUptoRow.holds Tryd.pinned (OpenSpec.upto fnExactFreeVarsSpec)

/-- 'laws.FnExactIsClosed', WHERE WHAT IT READS IS OF BULK AT MOST 1048576: true; the input reads as it did. -/
def fnExactIsClosedUptoRow : OpenClaim := { program := "ytdfnjfelmfccjaadoor", sum := "87ea7335a511a2a04cadb372a9f41b1c4967d01e0a07fdecf61f1073e321d15f", func := "loop.example/g00589/laws.FnExactIsClosed", spec := "fnExactIsClosed", unfollowed := true, recurses := true, named := ["loop.example/g00589/impl.kindArity"], loops := true, apart := false, laid := [("loop.example/g00589/impl.kindArity", laid_loop_example_g00589_impl_kindArity)], narrowed := true }
def FnExactIsClosedUptoSaid : Prop := fnExactIsClosedUptoRow.holds Tryd.pinned (OpenSpec.upto fnExactIsClosedSpec)

/-- 'laws.FnExactLevelsOk', WHERE WHAT IT READS IS OF BULK AT MOST 1048576: true; the input reads as it did. -/
def fnExactLevelsOkUptoRow : OpenClaim := { program := "ytdfnjfelmfccjaadoor", sum := "87ea7335a511a2a04cadb372a9f41b1c4967d01e0a07fdecf61f1073e321d15f", func := "loop.example/g00589/laws.FnExactLevelsOk", spec := "fnExactLevelsOk", unfollowed := true, recurses := true, named := ["loop.example/g00589/impl.kindArity"], loops := true, apart := false, laid := [("loop.example/g00589/impl.kindArity", laid_loop_example_g00589_impl_kindArity)], narrowed := true }
def FnExactLevelsOkUptoSaid : Prop := fnExactLevelsOkUptoRow.holds Tryd.pinned (OpenSpec.upto fnExactLevelsOkSpec)

/-- 'laws.FnExactIsPlain', WHERE WHAT IT READS IS OF BULK AT MOST 1048576: true; the input reads as it did. -/
def fnExactIsPlainUptoRow : OpenClaim := { program := "ytdfnjfelmfccjaadoor", sum := "87ea7335a511a2a04cadb372a9f41b1c4967d01e0a07fdecf61f1073e321d15f", func := "loop.example/g00589/laws.FnExactIsPlain", spec := "fnExactIsPlain", unfollowed := true, recurses := true, named := ["loop.example/g00589/impl.kindArity"], loops := true, apart := false, laid := [("loop.example/g00589/impl.kindArity", laid_loop_example_g00589_impl_kindArity)], narrowed := true }
def FnExactIsPlainUptoSaid : Prop := fnExactIsPlainUptoRow.holds Tryd.pinned (OpenSpec.upto fnExactIsPlainSpec)

/-- 'laws.FnExactIsGenerated', WHERE WHAT IT READS IS OF BULK AT MOST 1048576: true; the input reads as it did. -/
def fnExactIsGeneratedUptoRow : OpenClaim := { program := "ytdfnjfelmfccjaadoor", sum := "87ea7335a511a2a04cadb372a9f41b1c4967d01e0a07fdecf61f1073e321d15f", func := "loop.example/g00589/laws.FnExactIsGenerated", spec := "fnExactIsGenerated", unfollowed := true, recurses := true, named := ["loop.example/g00589/impl.kindArity"], loops := true, apart := false, laid := [("loop.example/g00589/impl.kindArity", laid_loop_example_g00589_impl_kindArity)], narrowed := true }
def FnExactIsGeneratedUptoSaid : Prop := fnExactIsGeneratedUptoRow.holds Tryd.pinned (OpenSpec.upto fnExactIsGeneratedSpec)

/-- 'laws.FnExactHighestLevel', WHERE WHAT IT READS IS OF BULK AT MOST 1048576: true; the input reads as it did. -/
def fnExactHighestLevelUptoRow : OpenClaim := { program := "ytdfnjfelmfccjaadoor", sum := "87ea7335a511a2a04cadb372a9f41b1c4967d01e0a07fdecf61f1073e321d15f", func := "loop.example/g00589/laws.FnExactHighestLevel", spec := "fnExactHighestLevel", unfollowed := true, recurses := true, named := ["loop.example/g00589/impl.kindArity"], loops := true, apart := false, laid := [("loop.example/g00589/impl.kindArity", laid_loop_example_g00589_impl_kindArity)], narrowed := true }
def FnExactHighestLevelUptoSaid : Prop := fnExactHighestLevelUptoRow.holds Tryd.pinned (OpenSpec.upto fnExactHighestLevelSpec)

end Rows
end Go.Proofs.YtdfnjfelmfccjaaDoor
