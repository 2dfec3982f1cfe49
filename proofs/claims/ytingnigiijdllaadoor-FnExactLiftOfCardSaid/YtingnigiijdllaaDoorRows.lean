/-
  NARROWER THAN 'FOR EVERY INPUT', by the rows' own cells (each row's printed sentence says how): FnExactIsResult: loops, laid · FnExactIsOpen: loops, laid · FnExactCodePart: loops, laid · FnExactLiftOf: loops, laid · FnExactKindName: laid.
  DERIVED. THE GIVEN ROWS OF THIS SEAT. 5 by the template 'for every input the law returns true; each argument reads behind the call as it read before'; 0 by the template 'total and deterministic' (their statements: YtingnigiijdllaaDoorTotals.lean).
  GIVEN WITH THE SEED: the statements are not yours to turn. If you find one false, say at which input.
  Laid BY PROGRAM, IN A SANDBOX (cutbox-rows.mjs): the forced cells as the released guide's own fill.sh prints them over the translation b5ef2cc911bae87a… (all of the seat's roots in one cut). By AI agents, Wed Nov 11 2026. No macro, syntax, notation, axiom, sorry.
-/
import Derived.Test.YtingnigiijdllaaDoorChecked
import GoSem.Claim
import GoSem.ClaimJoined
import GoSem.ClaimMapViews
import Derived.JoinedTies
import Derived.KernelRfl
namespace Go.Proofs.YtingnigiijdllaaDoor
/- THE CELL 'sum', in the pinned program and in every row, IS THE sha256 OF THE DUMP (.gsa) THAT YtingnigiijdllaaDoorProg.lean LOADS. Nothing in Lean hashes anything: it is a label: what it is worth is what the hold of that sum in a sandbox is worth. -/
noncomputable def Tryd.pinned : Pinned := { name := "ytingnigiijdllaadoor", sum := "b5ef2cc911bae87ab94f7d7d8465db9b45b27ab62ebcecb48ca8c32cb7f3a831", checked := Tryd.checked }
namespace Rows
def none {H : Type} : Left H := { results := [], args := [] }

/- WHAT THE LISTED PACKAGE-LEVEL VARIABLES READ AS WHEN THE CALL BEGINS. Each datum BY PROGRAM (the guide's laid-datum.mjs) off the statement by which the dump's own 'gosem.cut.vars' lays the variable. In a bare row this is a premise. The card (YtingnigiijdllaaDoorCards.lean) ties it to the program's text. -/
def laid_loop_example_g00589_impl_kindArity {H : Type} : DataW H := .agg [.lit (.int .i64 0), .lit (.int .i64 0), .lit (.int .i64 0), .lit (.int .i64 0), .lit (.int .i64 0), .lit (.int .i64 3), .lit (.int .i64 1), .lit (.int .i64 2), .lit (.int .i64 2), .lit (.int .i64 1), .lit (.int .i64 1), .lit (.int .i64 1), .lit (.int .i64 1), .lit (.int .i64 1)]
def laid_loop_example_g00589_impl_kindNames {H : Type} : DataW H := .agg [.lit (.string []), .lit (.string [118, 97, 114]), .lit (.string [105, 110, 116]), .lit (.string [98, 111, 111, 108]), .lit (.string [111, 112]), .lit (.string [105, 102]), .lit (.string [108, 97, 109]), .lit (.string [97, 112, 112]), .lit (.string [108, 101, 116]), .lit (.string [114, 101, 99]), .lit (.string [113, 117, 111, 116, 101]), .lit (.string [115, 112, 108, 105, 99, 101]), .lit (.string [114, 117, 110]), .lit (.string [108, 105, 102, 116])]

/-- 'laws.FnExactIsResult': WHATEVER THE INPUT: true; the input reads as it did. -/
def fnExactIsResultSpec : ChangeSpec := { name := "fnExactIsResult", vars := ["loop.example/g00589/impl.kindArity"], fn := fun _ => fun
  | [d, g1] => { results := [.lit (.bool true)], args := [d], vars := [g1] }
  | _ => none }
def fnExactIsResultRow : OpenClaim := { program := "ytingnigiijdllaadoor", sum := "b5ef2cc911bae87ab94f7d7d8465db9b45b27ab62ebcecb48ca8c32cb7f3a831", func := "loop.example/g00589/laws.FnExactIsResult", spec := "fnExactIsResult", unfollowed := true, recurses := true, named := ["loop.example/g00589/impl.kindArity"], loops := true, apart := false, laid := [("loop.example/g00589/impl.kindArity", laid_loop_example_g00589_impl_kindArity)] }
def FnExactIsResultSaid : Prop := fnExactIsResultRow.holds Tryd.pinned (OpenSpec.ofChange fnExactIsResultSpec)

/-- ITS FALSE NEIGHBOUR: 'it returns false'. Refute it at one input. -/
def fnExactIsResultWrong : ChangeSpec := { name := "fnExactIsResult", vars := ["loop.example/g00589/impl.kindArity"], fn := fun _ => fun
  | [d, g1] => { results := [.lit (.bool false)], args := [d], vars := [g1] }
  | _ => none }
def FnExactIsResultWrongFalsely : Prop := fnExactIsResultRow.holds Tryd.pinned (OpenSpec.ofChange fnExactIsResultWrong)

/-- 'laws.FnExactIsOpen': WHATEVER THE INPUT: true; the input reads as it did. -/
def fnExactIsOpenSpec : ChangeSpec := { name := "fnExactIsOpen", vars := ["loop.example/g00589/impl.kindArity"], fn := fun _ => fun
  | [d, g1] => { results := [.lit (.bool true)], args := [d], vars := [g1] }
  | _ => none }
def fnExactIsOpenRow : OpenClaim := { program := "ytingnigiijdllaadoor", sum := "b5ef2cc911bae87ab94f7d7d8465db9b45b27ab62ebcecb48ca8c32cb7f3a831", func := "loop.example/g00589/laws.FnExactIsOpen", spec := "fnExactIsOpen", unfollowed := true, recurses := true, named := ["loop.example/g00589/impl.kindArity"], loops := true, apart := false, laid := [("loop.example/g00589/impl.kindArity", laid_loop_example_g00589_impl_kindArity)] }
def FnExactIsOpenSaid : Prop := fnExactIsOpenRow.holds Tryd.pinned (OpenSpec.ofChange fnExactIsOpenSpec)

/-- ITS FALSE NEIGHBOUR: 'it returns false'. Refute it at one input. -/
def fnExactIsOpenWrong : ChangeSpec := { name := "fnExactIsOpen", vars := ["loop.example/g00589/impl.kindArity"], fn := fun _ => fun
  | [d, g1] => { results := [.lit (.bool false)], args := [d], vars := [g1] }
  | _ => none }
def FnExactIsOpenWrongFalsely : Prop := fnExactIsOpenRow.holds Tryd.pinned (OpenSpec.ofChange fnExactIsOpenWrong)

/-- 'laws.FnExactCodePart': WHATEVER THE INPUT: true; the input reads as it did. -/
def fnExactCodePartSpec : ChangeSpec := { name := "fnExactCodePart", vars := ["loop.example/g00589/impl.kindArity"], fn := fun _ => fun
  | [d, g1] => { results := [.lit (.bool true)], args := [d], vars := [g1] }
  | _ => none }
def fnExactCodePartRow : OpenClaim := { program := "ytingnigiijdllaadoor", sum := "b5ef2cc911bae87ab94f7d7d8465db9b45b27ab62ebcecb48ca8c32cb7f3a831", func := "loop.example/g00589/laws.FnExactCodePart", spec := "fnExactCodePart", unfollowed := true, recurses := true, named := ["loop.example/g00589/impl.kindArity"], loops := true, apart := false, laid := [("loop.example/g00589/impl.kindArity", laid_loop_example_g00589_impl_kindArity)] }
def FnExactCodePartSaid : Prop := fnExactCodePartRow.holds Tryd.pinned (OpenSpec.ofChange fnExactCodePartSpec)

/-- ITS FALSE NEIGHBOUR: 'it returns false'. Refute it at one input. -/
def fnExactCodePartWrong : ChangeSpec := { name := "fnExactCodePart", vars := ["loop.example/g00589/impl.kindArity"], fn := fun _ => fun
  | [d, g1] => { results := [.lit (.bool false)], args := [d], vars := [g1] }
  | _ => none }
def FnExactCodePartWrongFalsely : Prop := fnExactCodePartRow.holds Tryd.pinned (OpenSpec.ofChange fnExactCodePartWrong)

/-- 'laws.FnExactLiftOf': WHATEVER THE INPUT: true; the input reads as it did. -/
def fnExactLiftOfSpec : ChangeSpec := { name := "fnExactLiftOf", vars := ["loop.example/g00589/impl.kindArity"], fn := fun _ => fun
  | [d, g1] => { results := [.lit (.bool true)], args := [d], vars := [g1] }
  | _ => none }
def fnExactLiftOfRow : OpenClaim := { program := "ytingnigiijdllaadoor", sum := "b5ef2cc911bae87ab94f7d7d8465db9b45b27ab62ebcecb48ca8c32cb7f3a831", func := "loop.example/g00589/laws.FnExactLiftOf", spec := "fnExactLiftOf", unfollowed := true, recurses := true, named := ["loop.example/g00589/impl.kindArity"], loops := true, apart := false, laid := [("loop.example/g00589/impl.kindArity", laid_loop_example_g00589_impl_kindArity)] }
def FnExactLiftOfSaid : Prop := fnExactLiftOfRow.holds Tryd.pinned (OpenSpec.ofChange fnExactLiftOfSpec)

/-- ITS FALSE NEIGHBOUR: 'it returns false'. Refute it at one input. -/
def fnExactLiftOfWrong : ChangeSpec := { name := "fnExactLiftOf", vars := ["loop.example/g00589/impl.kindArity"], fn := fun _ => fun
  | [d, g1] => { results := [.lit (.bool false)], args := [d], vars := [g1] }
  | _ => none }
def FnExactLiftOfWrongFalsely : Prop := fnExactLiftOfRow.holds Tryd.pinned (OpenSpec.ofChange fnExactLiftOfWrong)

/-- 'laws.FnExactKindName': WHATEVER THE INPUT: true; the input reads as it did. -/
def fnExactKindNameSpec : ChangeSpec := { name := "fnExactKindName", vars := ["loop.example/g00589/impl.kindNames"], fn := fun _ => fun
  | [d, g1] => { results := [.lit (.bool true)], args := [d], vars := [g1] }
  | _ => none }
def fnExactKindNameRow : OpenClaim := { program := "ytingnigiijdllaadoor", sum := "b5ef2cc911bae87ab94f7d7d8465db9b45b27ab62ebcecb48ca8c32cb7f3a831", func := "loop.example/g00589/laws.FnExactKindName", spec := "fnExactKindName", named := ["loop.example/g00589/impl.kindNames"], apart := false, laid := [("loop.example/g00589/impl.kindNames", laid_loop_example_g00589_impl_kindNames)] }
def FnExactKindNameSaid : Prop := fnExactKindNameRow.holds Tryd.pinned (OpenSpec.ofChange fnExactKindNameSpec)

/-- ITS FALSE NEIGHBOUR: 'it returns false'. Refute it at one input. -/
def fnExactKindNameWrong : ChangeSpec := { name := "fnExactKindName", vars := ["loop.example/g00589/impl.kindNames"], fn := fun _ => fun
  | [d, g1] => { results := [.lit (.bool false)], args := [d], vars := [g1] }
  | _ => none }
def FnExactKindNameWrongFalsely : Prop := fnExactKindNameRow.holds Tryd.pinned (OpenSpec.ofChange fnExactKindNameWrong)

/- THE SECOND FORM. 'bulk': how many values and letters a reading holds, each counted each time it is reached (what is shared counts as often as it is met; a slice's spare places count too). A statement '..UptoSaid' is the law's where the arguments, and the package variables that the reading takes, are together of bulk at most 1048576: NARROWER than '..Said'. Prove '..Said' where nothing that the law and all that it calls make is longer than what came in: it says more and counts as full. Else prove '..UptoSaid'. A law counts once. -/
mutual
def uptoBulk {H : Type} : DataW H → Nat
  | .lit (.string bytes) => bytes.length + 1
  | .lit _ => 1
  | .nil => 1
  | .ptr d => uptoBulk d + 1
  | .slice elems spare => uptoBulkAll elems + uptoBulkAll spare + 1
  | .agg parts => uptoBulkAll parts + 1
  | .iface _ d => uptoBulk d + 1
  | .map entries => uptoBulkEntries entries + 1
  | .held _ => 1
def uptoBulkAll {H : Type} : List (DataW H) → Nat
  | [] => 0
  | d :: r => uptoBulk d + uptoBulkAll r
def uptoBulkEntries {H : Type} : List (Lit × DataW H) → Nat
  | [] => 0
  | x :: r => uptoBulkEntry x + uptoBulkEntries r
def uptoBulkEntry {H : Type} : Lit × DataW H → Nat
  | (.string bytes, d) => bytes.length + uptoBulk d + 1
  | (_, d) => uptoBulk d + 1
 end
def uptoSmall : (H : Type) → List (DataW H) → Bool := fun _ ds => decide (uptoBulkAll ds ≤ 1048576)
def OpenSpec.upto (s : _root_.Go.ChangeSpec) : _root_.Go.OpenSpec := { _root_.Go.OpenSpec.ofChange s with cond := some uptoSmall }

/-- 'laws.FnExactIsResult', WHERE WHAT IT READS IS OF BULK AT MOST 1048576: true; the input reads as it did. -/
def fnExactIsResultUptoRow : OpenClaim := { program := "ytingnigiijdllaadoor", sum := "b5ef2cc911bae87ab94f7d7d8465db9b45b27ab62ebcecb48ca8c32cb7f3a831", func := "loop.example/g00589/laws.FnExactIsResult", spec := "fnExactIsResult", unfollowed := true, recurses := true, named := ["loop.example/g00589/impl.kindArity"], loops := true, apart := false, laid := [("loop.example/g00589/impl.kindArity", laid_loop_example_g00589_impl_kindArity)], narrowed := true }
def FnExactIsResultUptoSaid : Prop := fnExactIsResultUptoRow.holds Tryd.pinned (OpenSpec.upto fnExactIsResultSpec)

/-- 'laws.FnExactIsOpen', WHERE WHAT IT READS IS OF BULK AT MOST 1048576: true; the input reads as it did. -/
def fnExactIsOpenUptoRow : OpenClaim := { program := "ytingnigiijdllaadoor", sum := "b5ef2cc911bae87ab94f7d7d8465db9b45b27ab62ebcecb48ca8c32cb7f3a831", func := "loop.example/g00589/laws.FnExactIsOpen", spec := "fnExactIsOpen", unfollowed := true, recurses := true, named := ["loop.example/g00589/impl.kindArity"], loops := true, apart := false, laid := [("loop.example/g00589/impl.kindArity", laid_loop_example_g00589_impl_kindArity)], narrowed := true }
def FnExactIsOpenUptoSaid : Prop := fnExactIsOpenUptoRow.holds Tryd.pinned (OpenSpec.upto fnExactIsOpenSpec)

/-- 'laws.FnExactCodePart', WHERE WHAT IT READS IS OF BULK AT MOST 1048576: true; the input reads as it did. -/
def fnExactCodePartUptoRow : OpenClaim := { program := "ytingnigiijdllaadoor", sum := "b5ef2cc911bae87ab94f7d7d8465db9b45b27ab62ebcecb48ca8c32cb7f3a831", func := "loop.example/g00589/laws.FnExactCodePart", spec := "fnExactCodePart", unfollowed := true, recurses := true, named := ["loop.example/g00589/impl.kindArity"], loops := true, apart := false, laid := [("loop.example/g00589/impl.kindArity", laid_loop_example_g00589_impl_kindArity)], narrowed := true }
def FnExactCodePartUptoSaid : Prop := fnExactCodePartUptoRow.holds Tryd.pinned (OpenSpec.upto fnExactCodePartSpec)

/-- 'laws.FnExactLiftOf', WHERE WHAT IT READS IS OF BULK AT MOST 1048576: true; the input reads as it did. -/
def fnExactLiftOfUptoRow : OpenClaim := { program := "ytingnigiijdllaadoor", sum := "b5ef2cc911bae87ab94f7d7d8465db9b45b27ab62ebcecb48ca8c32cb7f3a831", func := "loop.example/g00589/laws.FnExactLiftOf", spec := "fnExactLiftOf", unfollowed := true, recurses := true, named := ["loop.example/g00589/impl.kindArity"], loops := true, apart := false, laid := [("loop.example/g00589/impl.kindArity", laid_loop_example_g00589_impl_kindArity)], narrowed := true }
def FnExactLiftOfUptoSaid : Prop := fnExactLiftOfUptoRow.holds Tryd.pinned (OpenSpec.upto fnExactLiftOfSpec)

/-- 'laws.FnExactKindName', WHERE WHAT IT READS IS OF BULK AT MOST 1048576: true; the input reads as it did. -/
def fnExactKindNameUptoRow : OpenClaim := { program := "ytingnigiijdllaadoor", sum := "b5ef2cc911bae87ab94f7d7d8465db9b45b27ab62ebcecb48ca8c32cb7f3a831", func := "loop.example/g00589/laws.FnExactKindName", spec := "fnExactKindName", named := ["loop.example/g00589/impl.kindNames"], apart := false, laid := [("loop.example/g00589/impl.kindNames", laid_loop_example_g00589_impl_kindNames)], narrowed := true }
def FnExactKindNameUptoSaid : Prop := fnExactKindNameUptoRow.holds Tryd.pinned (OpenSpec.upto fnExactKindNameSpec)

end Rows
end Go.Proofs.YtingnigiijdllaaDoor
