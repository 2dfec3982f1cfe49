/-
  NARROWER THAN 'FOR EVERY INPUT', by the rows' own cells (each row's printed sentence says how): FnExactLevelsOk: loops, laid · FnExactIsGenerated: loops, laid · FnExactHighestLevel: loops, laid · FnExactIsResult: loops, laid · FnExactIsOpen: loops, laid · FnExactCodePart: loops, laid · FnExactRuleName: laid.
  DERIVED. THE GIVEN ROWS OF THIS SEAT. 7 by the template 'for every input the law returns true; each argument reads behind the call as it read before'; 0 by the template 'total and deterministic' (their statements: YtfeijijeohfpgaaDoorTotals.lean).
  GIVEN WITH THE SEED: the statements are not yours to turn. If you find one false, say at which input.
  Laid BY PROGRAM, IN A SANDBOX (cutbox-rows.mjs): the forced cells as the released guide's own fill.sh prints them over the translation cb41662dcc2429fe… (all of the seat's roots in one cut). By AI agents, Wed Nov 11 2026. No macro, syntax, notation, axiom, sorry.
-/
import Derived.Test.YtfeijijeohfpgaaDoorChecked
import GoSem.Claim
import GoSem.ClaimJoined
import GoSem.ClaimMapViews
import Derived.JoinedTies
import Derived.KernelRfl
namespace Go.Proofs.YtfeijijeohfpgaaDoor
/- THE CELL 'sum', in the pinned program and in every row, IS THE sha256 OF THE DUMP (.gsa) THAT YtfeijijeohfpgaaDoorProg.lean LOADS. Nothing in Lean hashes anything: it is a label: what it is worth is what the hold of that sum in a sandbox is worth. -/
noncomputable def Tryd.pinned : Pinned := { name := "ytfeijijeohfpgaadoor", sum := "cb41662dcc2429fe9ace9a7fe5de4532fa5a570f6d4bfc05e71b9ed4fe990264", checked := Tryd.checked }
namespace Rows
def none {H : Type} : Left H := { results := [], args := [] }

/- WHAT THE LISTED PACKAGE-LEVEL VARIABLES READ AS WHEN THE CALL BEGINS. Each datum BY PROGRAM (the guide's laid-datum.mjs) off the statement by which the dump's own 'gosem.cut.vars' lays the variable. In a bare row this is a premise. The card (YtfeijijeohfpgaaDoorCards.lean) ties it to the program's text. -/
def laid_loop_example_g00589_impl_kindArity {H : Type} : DataW H := .agg [.lit (.int .i64 0), .lit (.int .i64 0), .lit (.int .i64 0), .lit (.int .i64 0), .lit (.int .i64 0), .lit (.int .i64 3), .lit (.int .i64 1), .lit (.int .i64 2), .lit (.int .i64 2), .lit (.int .i64 1), .lit (.int .i64 1), .lit (.int .i64 1), .lit (.int .i64 1), .lit (.int .i64 1)]
def laid_loop_example_g00589_impl_ruleNames {H : Type} : DataW H := .agg [.lit (.string [110, 111, 110, 101]), .lit (.string [111, 112]), .lit (.string [105, 102]), .lit (.string [97, 112, 112]), .lit (.string [114, 101, 99]), .lit (.string [108, 101, 116]), .lit (.string [115, 112, 108, 105, 99, 101]), .lit (.string [114, 117, 110]), .lit (.string [108, 105, 102, 116])]

/-- 'laws.FnExactLevelsOk': WHATEVER THE INPUT: true; the input reads as it did. -/
def fnExactLevelsOkSpec : ChangeSpec := { name := "fnExactLevelsOk", vars := ["loop.example/g00589/impl.kindArity"], fn := fun _ => fun
  | [d1, d2, g1] => { results := [.lit (.bool true)], args := [d1, d2], vars := [g1] }
  | _ => none }
def fnExactLevelsOkRow : OpenClaim := { program := "ytfeijijeohfpgaadoor", sum := "cb41662dcc2429fe9ace9a7fe5de4532fa5a570f6d4bfc05e71b9ed4fe990264", func := "loop.example/g00589/laws.FnExactLevelsOk", spec := "fnExactLevelsOk", unfollowed := true, recurses := true, named := ["loop.example/g00589/impl.kindArity"], loops := true, apart := false, laid := [("loop.example/g00589/impl.kindArity", laid_loop_example_g00589_impl_kindArity)] }
def FnExactLevelsOkSaid : Prop := fnExactLevelsOkRow.holds Tryd.pinned (OpenSpec.ofChange fnExactLevelsOkSpec)

/-- ITS FALSE NEIGHBOUR: 'it returns false'. Refute it at one input. -/
def fnExactLevelsOkWrong : ChangeSpec := { name := "fnExactLevelsOk", vars := ["loop.example/g00589/impl.kindArity"], fn := fun _ => fun
  | [d1, d2, g1] => { results := [.lit (.bool false)], args := [d1, d2], vars := [g1] }
  | _ => none }
def FnExactLevelsOkWrongFalsely : Prop := fnExactLevelsOkRow.holds Tryd.pinned (OpenSpec.ofChange fnExactLevelsOkWrong)

/-- 'laws.FnExactIsGenerated': WHATEVER THE INPUT: true; the input reads as it did. -/
def fnExactIsGeneratedSpec : ChangeSpec := { name := "fnExactIsGenerated", vars := ["loop.example/g00589/impl.kindArity"], fn := fun _ => fun
  | [d1, d2, g1] => { results := [.lit (.bool true)], args := [d1, d2], vars := [g1] }
  | _ => none }
def fnExactIsGeneratedRow : OpenClaim := { program := "ytfeijijeohfpgaadoor", sum := "cb41662dcc2429fe9ace9a7fe5de4532fa5a570f6d4bfc05e71b9ed4fe990264", func := "loop.example/g00589/laws.FnExactIsGenerated", spec := "fnExactIsGenerated", unfollowed := true, recurses := true, named := ["loop.example/g00589/impl.kindArity"], loops := true, apart := false, laid := [("loop.example/g00589/impl.kindArity", laid_loop_example_g00589_impl_kindArity)] }
def FnExactIsGeneratedSaid : Prop := fnExactIsGeneratedRow.holds Tryd.pinned (OpenSpec.ofChange fnExactIsGeneratedSpec)

/-- ITS FALSE NEIGHBOUR: 'it returns false'. Refute it at one input. -/
def fnExactIsGeneratedWrong : ChangeSpec := { name := "fnExactIsGenerated", vars := ["loop.example/g00589/impl.kindArity"], fn := fun _ => fun
  | [d1, d2, g1] => { results := [.lit (.bool false)], args := [d1, d2], vars := [g1] }
  | _ => none }
def FnExactIsGeneratedWrongFalsely : Prop := fnExactIsGeneratedRow.holds Tryd.pinned (OpenSpec.ofChange fnExactIsGeneratedWrong)

/-- 'laws.FnExactHighestLevel': WHATEVER THE INPUT: true; the input reads as it did. -/
def fnExactHighestLevelSpec : ChangeSpec := { name := "fnExactHighestLevel", vars := ["loop.example/g00589/impl.kindArity"], fn := fun _ => fun
  | [d, g1] => { results := [.lit (.bool true)], args := [d], vars := [g1] }
  | _ => none }
def fnExactHighestLevelRow : OpenClaim := { program := "ytfeijijeohfpgaadoor", sum := "cb41662dcc2429fe9ace9a7fe5de4532fa5a570f6d4bfc05e71b9ed4fe990264", func := "loop.example/g00589/laws.FnExactHighestLevel", spec := "fnExactHighestLevel", unfollowed := true, recurses := true, named := ["loop.example/g00589/impl.kindArity"], loops := true, apart := false, laid := [("loop.example/g00589/impl.kindArity", laid_loop_example_g00589_impl_kindArity)] }
def FnExactHighestLevelSaid : Prop := fnExactHighestLevelRow.holds Tryd.pinned (OpenSpec.ofChange fnExactHighestLevelSpec)

/-- ITS FALSE NEIGHBOUR: 'it returns false'. Refute it at one input. -/
def fnExactHighestLevelWrong : ChangeSpec := { name := "fnExactHighestLevel", vars := ["loop.example/g00589/impl.kindArity"], fn := fun _ => fun
  | [d, g1] => { results := [.lit (.bool false)], args := [d], vars := [g1] }
  | _ => none }
def FnExactHighestLevelWrongFalsely : Prop := fnExactHighestLevelRow.holds Tryd.pinned (OpenSpec.ofChange fnExactHighestLevelWrong)

/-- 'laws.FnExactIsResult': WHATEVER THE INPUT: true; the input reads as it did. -/
def fnExactIsResultSpec : ChangeSpec := { name := "fnExactIsResult", vars := ["loop.example/g00589/impl.kindArity"], fn := fun _ => fun
  | [d, g1] => { results := [.lit (.bool true)], args := [d], vars := [g1] }
  | _ => none }
def fnExactIsResultRow : OpenClaim := { program := "ytfeijijeohfpgaadoor", sum := "cb41662dcc2429fe9ace9a7fe5de4532fa5a570f6d4bfc05e71b9ed4fe990264", func := "loop.example/g00589/laws.FnExactIsResult", spec := "fnExactIsResult", unfollowed := true, recurses := true, named := ["loop.example/g00589/impl.kindArity"], loops := true, apart := false, laid := [("loop.example/g00589/impl.kindArity", laid_loop_example_g00589_impl_kindArity)] }
def FnExactIsResultSaid : Prop := fnExactIsResultRow.holds Tryd.pinned (OpenSpec.ofChange fnExactIsResultSpec)

/-- ITS FALSE NEIGHBOUR: 'it returns false'. Refute it at one input. -/
def fnExactIsResultWrong : ChangeSpec := { name := "fnExactIsResult", vars := ["loop.example/g00589/impl.kindArity"], fn := fun _ => fun
  | [d, g1] => { results := [.lit (.bool false)], args := [d], vars := [g1] }
  | _ => none }
def FnExactIsResultWrongFalsely : Prop := fnExactIsResultRow.holds Tryd.pinned (OpenSpec.ofChange fnExactIsResultWrong)

/-- 'laws.FnExactIsOpen': WHATEVER THE INPUT: true; the input reads as it did. -/
def fnExactIsOpenSpec : ChangeSpec := { name := "fnExactIsOpen", vars := ["loop.example/g00589/impl.kindArity"], fn := fun _ => fun
  | [d, g1] => { results := [.lit (.bool true)], args := [d], vars := [g1] }
  | _ => none }
def fnExactIsOpenRow : OpenClaim := { program := "ytfeijijeohfpgaadoor", sum := "cb41662dcc2429fe9ace9a7fe5de4532fa5a570f6d4bfc05e71b9ed4fe990264", func := "loop.example/g00589/laws.FnExactIsOpen", spec := "fnExactIsOpen", unfollowed := true, recurses := true, named := ["loop.example/g00589/impl.kindArity"], loops := true, apart := false, laid := [("loop.example/g00589/impl.kindArity", laid_loop_example_g00589_impl_kindArity)] }
def FnExactIsOpenSaid : Prop := fnExactIsOpenRow.holds Tryd.pinned (OpenSpec.ofChange fnExactIsOpenSpec)

/-- ITS FALSE NEIGHBOUR: 'it returns false'. Refute it at one input. -/
def fnExactIsOpenWrong : ChangeSpec := { name := "fnExactIsOpen", vars := ["loop.example/g00589/impl.kindArity"], fn := fun _ => fun
  | [d, g1] => { results := [.lit (.bool false)], args := [d], vars := [g1] }
  | _ => none }
def FnExactIsOpenWrongFalsely : Prop := fnExactIsOpenRow.holds Tryd.pinned (OpenSpec.ofChange fnExactIsOpenWrong)

/-- 'laws.FnExactCodePart': WHATEVER THE INPUT: true; the input reads as it did. -/
def fnExactCodePartSpec : ChangeSpec := { name := "fnExactCodePart", vars := ["loop.example/g00589/impl.kindArity"], fn := fun _ => fun
  | [d, g1] => { results := [.lit (.bool true)], args := [d], vars := [g1] }
  | _ => none }
def fnExactCodePartRow : OpenClaim := { program := "ytfeijijeohfpgaadoor", sum := "cb41662dcc2429fe9ace9a7fe5de4532fa5a570f6d4bfc05e71b9ed4fe990264", func := "loop.example/g00589/laws.FnExactCodePart", spec := "fnExactCodePart", unfollowed := true, recurses := true, named := ["loop.example/g00589/impl.kindArity"], loops := true, apart := false, laid := [("loop.example/g00589/impl.kindArity", laid_loop_example_g00589_impl_kindArity)] }
def FnExactCodePartSaid : Prop := fnExactCodePartRow.holds Tryd.pinned (OpenSpec.ofChange fnExactCodePartSpec)

/-- ITS FALSE NEIGHBOUR: 'it returns false'. Refute it at one input. -/
def fnExactCodePartWrong : ChangeSpec := { name := "fnExactCodePart", vars := ["loop.example/g00589/impl.kindArity"], fn := fun _ => fun
  | [d, g1] => { results := [.lit (.bool false)], args := [d], vars := [g1] }
  | _ => none }
def FnExactCodePartWrongFalsely : Prop := fnExactCodePartRow.holds Tryd.pinned (OpenSpec.ofChange fnExactCodePartWrong)

/-- 'laws.FnExactRuleName': WHATEVER THE INPUT: true; the input reads as it did. -/
def fnExactRuleNameSpec : ChangeSpec := { name := "fnExactRuleName", vars := ["loop.example/g00589/impl.ruleNames"], fn := fun _ => fun
  | [d, g1] => { results := [.lit (.bool true)], args := [d], vars := [g1] }
  | _ => none }
def fnExactRuleNameRow : OpenClaim := { program := "ytfeijijeohfpgaadoor", sum := "cb41662dcc2429fe9ace9a7fe5de4532fa5a570f6d4bfc05e71b9ed4fe990264", func := "loop.example/g00589/laws.FnExactRuleName", spec := "fnExactRuleName", named := ["loop.example/g00589/impl.ruleNames"], apart := false, laid := [("loop.example/g00589/impl.ruleNames", laid_loop_example_g00589_impl_ruleNames)] }
def FnExactRuleNameSaid : Prop := fnExactRuleNameRow.holds Tryd.pinned (OpenSpec.ofChange fnExactRuleNameSpec)

/-- ITS FALSE NEIGHBOUR: 'it returns false'. Refute it at one input. -/
def fnExactRuleNameWrong : ChangeSpec := { name := "fnExactRuleName", vars := ["loop.example/g00589/impl.ruleNames"], fn := fun _ => fun
  | [d, g1] => { results := [.lit (.bool false)], args := [d], vars := [g1] }
  | _ => none }
def FnExactRuleNameWrongFalsely : Prop := fnExactRuleNameRow.holds Tryd.pinned (OpenSpec.ofChange fnExactRuleNameWrong)

/- THE SECOND FORM. 'bulk': how many values and letters a reading holds, each counted each time it is reached (what is shared counts as often as it is met; a slice's spare places count too). A statement '..UptoSaid' is the law's where the arguments, and the package variables that the reading takes, are together of bulk at most 1048576: NARROWER than '..Said'. Prove '..Said' where nothing that the law and all that it calls make is longer than what came in: it says more and counts as full. Else prove '..UptoSaid'. A law counts once. -/
mutual
def uptoBulk {H : Type} : DataW H → Nat
  | .lit (.string bytes) => bytes.length + 1
  | .lit _ => 1
  | .nil => 1
  | .ptr d => uptoBulk d + 1
  | .slice elems spare => uptoBulkAll elems + uptoBulkAll spare + 1
  | .agg parts => uptoBulkAll parts + 1
  | .iface _ d => uptoBulk d + 1
  | .map entries => uptoBulkEntries entries + 1
  | .held _ => 1
def uptoBulkAll {H : Type} : List (DataW H) → Nat
  | [] => 0
  | d :: r => uptoBulk d + uptoBulkAll r
def uptoBulkEntries {H : Type} : List (Lit × DataW H) → Nat
  | [] => 0
  | x :: r => uptoBulkEntry x + uptoBulkEntries r
def uptoBulkEntry {H : Type} : Lit × DataW H → Nat
  | (.string bytes, d) => bytes.length + uptoBulk d + 1
  | (_, d) => uptoBulk d + 1
 end
def uptoSmall : (H : Type) → List (DataW H) → Bool := fun _ ds => decide (uptoBulkAll ds ≤ 1048576)
def OpenSpec.upto (s : _root_.Go.ChangeSpec) : _root_.Go.OpenSpec := { _root_.Go.OpenSpec.ofChange s with cond := some uptoSmall }

/-- 'laws.FnExactLevelsOk', WHERE WHAT IT READS IS OF BULK AT MOST 1048576: true; the input reads as it did. -/
def fnExactLevelsOkUptoRow : OpenClaim := { program := "ytfeijijeohfpgaadoor", sum := "cb41662dcc2429fe9ace9a7fe5de4532fa5a570f6d4bfc05e71b9ed4fe990264", func := "loop.example/g00589/laws.FnExactLevelsOk", spec := "fnExactLevelsOk", unfollowed := true, recurses := true, named := ["loop.example/g00589/impl.kindArity"], loops := true, apart := false, laid := [("loop.example/g00589/impl.kindArity", laid_loop_example_g00589_impl_kindArity)], narrowed := true }
def FnExactLevelsOkUptoSaid : Prop := fnExactLevelsOkUptoRow.holds Tryd.pinned (OpenSpec.upto fnExactLevelsOkSpec)

/-- 'laws.FnExactIsGenerated', WHERE WHAT IT READS IS OF BULK AT MOST 1048576: true; the input reads as it did. -/
def fnExactIsGeneratedUptoRow : OpenClaim := { program := "ytfeijijeohfpgaadoor", sum := "cb41662dcc2429fe9ace9a7fe5de4532fa5a570f6d4bfc05e71b9ed4fe990264", func := "loop.example/g00589/laws.FnExactIsGenerated", spec := "fnExactIsGenerated", unfollowed := true, recurses := true, named := ["loop.example/g00589/impl.kindArity"], loops := true, apart := false, laid := [("loop.example/g00589/impl.kindArity", laid_loop_example_g00589_impl_kindArity)], narrowed := true }
def FnExactIsGeneratedUptoSaid : Prop := fnExactIsGeneratedUptoRow.holds Tryd.pinned (OpenSpec.upto fnExactIsGeneratedSpec)

/-- 'laws.FnExactHighestLevel', WHERE WHAT IT READS IS OF BULK AT MOST 1048576: true; the input reads as it did. -/
def fnExactHighestLevelUptoRow : OpenClaim := { program := "ytfeijijeohfpgaadoor", sum := "cb41662dcc2429fe9ace9a7fe5de4532fa5a570f6d4bfc05e71b9ed4fe990264", func := "loop.example/g00589/laws.FnExactHighestLevel", spec := "fnExactHighestLevel", unfollowed := true, recurses := true, named := ["loop.example/g00589/impl.kindArity"], loops := true, apart := false, laid := [("loop.example/g00589/impl.kindArity", laid_loop_example_g00589_impl_kindArity)], narrowed := true }
def FnExactHighestLevelUptoSaid : Prop := fnExactHighestLevelUptoRow.holds Tryd.pinned (OpenSpec.upto fnExactHighestLevelSpec)

/-- 'laws.FnExactIsResult', WHERE WHAT IT READS IS OF BULK AT MOST 1048576: true; the input reads as it did. -/
def fnExactIsResultUptoRow : OpenClaim := { program := "ytfeijijeohfpgaadoor", sum := "cb41662dcc2429fe9ace9a7fe5de4532fa5a570f6d4bfc05e71b9ed4fe990264", func := "loop.example/g00589/laws.FnExactIsResult", spec := "fnExactIsResult", unfollowed := true, recurses := true, named := ["loop.example/g00589/impl.kindArity"], loops := true, apart := false, laid := [("loop.example/g00589/impl.kindArity", laid_loop_example_g00589_impl_kindArity)], narrowed := true }
def FnExactIsResultUptoSaid : Prop := fnExactIsResultUptoRow.holds Tryd.pinned (OpenSpec.upto fnExactIsResultSpec)

/-- 'laws.FnExactIsOpen', WHERE WHAT IT READS IS OF BULK AT MOST 1048576: true; the input reads as it did. -/
def fnExactIsOpenUptoRow : OpenClaim := { program := "ytfeijijeohfpgaadoor", sum := "cb41662dcc2429fe9ace9a7fe5de4532fa5a570f6d4bfc05e71b9ed4fe990264", func := "loop.example/g00589/laws.FnExactIsOpen", spec := "fnExactIsOpen", unfollowed := true, recurses := true, named := ["loop.example/g00589/impl.kindArity"], loops := true, apart := false, laid := [("loop.example/g00589/impl.kindArity", laid_loop_example_g00589_impl_kindArity)], narrowed := true }
def FnExactIsOpenUptoSaid : Prop := fnExactIsOpenUptoRow.holds Tryd.pinned (OpenSpec.upto fnExactIsOpenSpec)

/-- 'laws.FnExactCodePart', WHERE WHAT IT READS IS OF BULK AT MOST 1048576: true; the input reads as it did. -/
def fnExactCodePartUptoRow : OpenClaim := { program := "ytfeijijeohfpgaadoor", sum := "cb41662dcc2429fe9ace9a7fe5de4532fa5a570f6d4bfc05e71b9ed4fe990264", func := "loop.example/g00589/laws.FnExactCodePart", spec := "fnExactCodePart", unfollowed := true, recurses := true, named := ["loop.example/g00589/impl.kindArity"], loops := true, apart := false, laid := [("loop.example/g00589/impl.kindArity", laid_loop_example_g00589_impl_kindArity)], narrowed := true }
def FnExactCodePartUptoSaid : Prop := fnExactCodePartUptoRow.holds Tryd.pinned (OpenSpec.upto fnExactCodePartSpec)

/-- 'laws.FnExactRuleName', WHERE WHAT IT READS IS OF BULK AT MOST 1048576: true; the input reads as it did. -/
def fnExactRuleNameUptoRow : OpenClaim := { program := "ytfeijijeohfpgaadoor", sum := "cb41662dcc2429fe9ace9a7fe5de4532fa5a570f6d4bfc05e71b9ed4fe990264", func := "loop.example/g00589/laws.FnExactRuleName", spec := "fnExactRuleName", named := ["loop.example/g00589/impl.ruleNames"], apart := false, laid := [("loop.example/g00589/impl.ruleNames", laid_loop_example_g00589_impl_ruleNames)], narrowed := true }
def FnExactRuleNameUptoSaid : Prop := fnExactRuleNameUptoRow.holds Tryd.pinned (OpenSpec.upto fnExactRuleNameSpec)

end Rows
end Go.Proofs.YtfeijijeohfpgaaDoor
