/-
  NARROWER THAN 'FOR EVERY INPUT', by the rows' own cells (each row's printed sentence says how): FnExactSizeOfType: loops · FnExactDepthOfType: loops · FnExactIsValidType: loops · FnExactEqualType: loops · FnExactIsPlainType: loops · FnExactFormatType: loops · FnExactSizeOf: loops · FnExactDepthOf: loops · FnExactEqualTerm: loops.
  DERIVED. THE GIVEN ROWS OF THIS SEAT. 13 by the template 'for every input the law returns true; each argument reads behind the call as it read before'; 0 by the template 'total and deterministic' (their statements: YtnciibngcaajgaaTotals.lean).
  GIVEN WITH THE SEED: the statements are not yours to turn. If you find one false, say at which input.
  Laid BY PROGRAM, IN A SANDBOX (cutbox-rows.mjs): the forced cells as the released guide's own fill.sh prints them over the translation 531573adba82ed9f… (all of the seat's roots in one cut). By AI agents, Wed Nov 11 2026. No macro, syntax, notation, axiom, sorry.
-/
import Derived.Test.YtnciibngcaajgaaChecked
import GoSem.Claim
import GoSem.ClaimJoined
import GoSem.ClaimMapViews
import Derived.JoinedTies
import Derived.KernelRfl
namespace Go.Proofs.Ytnciibngcaajgaa
/- THE CELL 'sum', in the pinned program and in every row, IS THE sha256 OF THE DUMP (.gsa) THAT YtnciibngcaajgaaProg.lean LOADS. Nothing in Lean hashes anything: it is a label: what it is worth is what the hold of that sum in a sandbox is worth. -/
noncomputable def Try.pinned : Pinned := { name := "ytnciibngcaajgaa", sum := "531573adba82ed9f070c6904c57b228f4c221b7d3902c32fe39a1e1762cdac22", checked := Try.checked }
namespace Rows
def none {H : Type} : Left H := { results := [], args := [] }

/-- 'laws.FnTypes': WHATEVER THE INPUT: true; the input reads as it did. -/
def fnTypesSpec : ChangeSpec := { name := "fnTypes", fn := fun _ => fun
  | [d] => { results := [.lit (.bool true)], args := [d] }
  | _ => none }
def fnTypesRow : OpenClaim := { program := "ytnciibngcaajgaa", sum := "531573adba82ed9f070c6904c57b228f4c221b7d3902c32fe39a1e1762cdac22", func := "loop.example/g00589/laws.FnTypes", spec := "fnTypes", unfollowed := true, recurses := true, apart := false }
def FnTypesSaid : Prop := fnTypesRow.holds Try.pinned (OpenSpec.ofChange fnTypesSpec)

/-- ITS FALSE NEIGHBOUR: 'it returns false'. Refute it at one input. -/
def fnTypesWrong : ChangeSpec := { name := "fnTypes", fn := fun _ => fun
  | [d] => { results := [.lit (.bool false)], args := [d] }
  | _ => none }
def FnTypesWrongFalsely : Prop := fnTypesRow.holds Try.pinned (OpenSpec.ofChange fnTypesWrong)

/-- 'laws.FnTypeText': WHATEVER THE INPUT: true; the input reads as it did. -/
def fnTypeTextSpec : ChangeSpec := { name := "fnTypeText", fn := fun _ => fun
  | [d] => { results := [.lit (.bool true)], args := [d] }
  | _ => none }
def fnTypeTextRow : OpenClaim := { program := "ytnciibngcaajgaa", sum := "531573adba82ed9f070c6904c57b228f4c221b7d3902c32fe39a1e1762cdac22", func := "loop.example/g00589/laws.FnTypeText", spec := "fnTypeText", unfollowed := true, recurses := true, apart := false }
def FnTypeTextSaid : Prop := fnTypeTextRow.holds Try.pinned (OpenSpec.ofChange fnTypeTextSpec)

/-- ITS FALSE NEIGHBOUR: 'it returns false'. Refute it at one input. -/
def fnTypeTextWrong : ChangeSpec := { name := "fnTypeText", fn := fun _ => fun
  | [d] => { results := [.lit (.bool false)], args := [d] }
  | _ => none }
def FnTypeTextWrongFalsely : Prop := fnTypeTextRow.holds Try.pinned (OpenSpec.ofChange fnTypeTextWrong)

/-- 'laws.FnExactSizeOfType': WHATEVER THE INPUT: true; the input reads as it did. -/
def fnExactSizeOfTypeSpec : ChangeSpec := { name := "fnExactSizeOfType", fn := fun _ => fun
  | [d] => { results := [.lit (.bool true)], args := [d] }
  | _ => none }
def fnExactSizeOfTypeRow : OpenClaim := { program := "ytnciibngcaajgaa", sum := "531573adba82ed9f070c6904c57b228f4c221b7d3902c32fe39a1e1762cdac22", func := "loop.example/g00589/laws.FnExactSizeOfType", spec := "fnExactSizeOfType", unfollowed := true, recurses := true, loops := true, apart := false }
def FnExactSizeOfTypeSaid : Prop := fnExactSizeOfTypeRow.holds Try.pinned (OpenSpec.ofChange fnExactSizeOfTypeSpec)

/-- ITS FALSE NEIGHBOUR: 'it returns false'. Refute it at one input. -/
def fnExactSizeOfTypeWrong : ChangeSpec := { name := "fnExactSizeOfType", fn := fun _ => fun
  | [d] => { results := [.lit (.bool false)], args := [d] }
  | _ => none }
def FnExactSizeOfTypeWrongFalsely : Prop := fnExactSizeOfTypeRow.holds Try.pinned (OpenSpec.ofChange fnExactSizeOfTypeWrong)

/-- 'laws.FnExactDepthOfType': WHATEVER THE INPUT: true; the input reads as it did. -/
def fnExactDepthOfTypeSpec : ChangeSpec := { name := "fnExactDepthOfType", fn := fun _ => fun
  | [d] => { results := [.lit (.bool true)], args := [d] }
  | _ => none }
def fnExactDepthOfTypeRow : OpenClaim := { program := "ytnciibngcaajgaa", sum := "531573adba82ed9f070c6904c57b228f4c221b7d3902c32fe39a1e1762cdac22", func := "loop.example/g00589/laws.FnExactDepthOfType", spec := "fnExactDepthOfType", unfollowed := true, recurses := true, loops := true, apart := false }
def FnExactDepthOfTypeSaid : Prop := fnExactDepthOfTypeRow.holds Try.pinned (OpenSpec.ofChange fnExactDepthOfTypeSpec)

/-- ITS FALSE NEIGHBOUR: 'it returns false'. Refute it at one input. -/
def fnExactDepthOfTypeWrong : ChangeSpec := { name := "fnExactDepthOfType", fn := fun _ => fun
  | [d] => { results := [.lit (.bool false)], args := [d] }
  | _ => none }
def FnExactDepthOfTypeWrongFalsely : Prop := fnExactDepthOfTypeRow.holds Try.pinned (OpenSpec.ofChange fnExactDepthOfTypeWrong)

/-- 'laws.FnExactIsValidType': WHATEVER THE INPUT: true; the input reads as it did. -/
def fnExactIsValidTypeSpec : ChangeSpec := { name := "fnExactIsValidType", fn := fun _ => fun
  | [d] => { results := [.lit (.bool true)], args := [d] }
  | _ => none }
def fnExactIsValidTypeRow : OpenClaim := { program := "ytnciibngcaajgaa", sum := "531573adba82ed9f070c6904c57b228f4c221b7d3902c32fe39a1e1762cdac22", func := "loop.example/g00589/laws.FnExactIsValidType", spec := "fnExactIsValidType", unfollowed := true, recurses := true, loops := true, apart := false }
def FnExactIsValidTypeSaid : Prop := fnExactIsValidTypeRow.holds Try.pinned (OpenSpec.ofChange fnExactIsValidTypeSpec)

/-- ITS FALSE NEIGHBOUR: 'it returns false'. Refute it at one input. -/
def fnExactIsValidTypeWrong : ChangeSpec := { name := "fnExactIsValidType", fn := fun _ => fun
  | [d] => { results := [.lit (.bool false)], args := [d] }
  | _ => none }
def FnExactIsValidTypeWrongFalsely : Prop := fnExactIsValidTypeRow.holds Try.pinned (OpenSpec.ofChange fnExactIsValidTypeWrong)

/-- 'laws.FnExactEqualType': WHATEVER THE INPUT: true; the input reads as it did. -/
def fnExactEqualTypeSpec : ChangeSpec := { name := "fnExactEqualType", fn := fun _ => fun
  | [d1, d2] => { results := [.lit (.bool true)], args := [d1, d2] }
  | _ => none }
def fnExactEqualTypeRow : OpenClaim := { program := "ytnciibngcaajgaa", sum := "531573adba82ed9f070c6904c57b228f4c221b7d3902c32fe39a1e1762cdac22", func := "loop.example/g00589/laws.FnExactEqualType", spec := "fnExactEqualType", unfollowed := true, recurses := true, loops := true, apart := false }
def FnExactEqualTypeSaid : Prop := fnExactEqualTypeRow.holds Try.pinned (OpenSpec.ofChange fnExactEqualTypeSpec)

/-- ITS FALSE NEIGHBOUR: 'it returns false'. Refute it at one input. -/
def fnExactEqualTypeWrong : ChangeSpec := { name := "fnExactEqualType", fn := fun _ => fun
  | [d1, d2] => { results := [.lit (.bool false)], args := [d1, d2] }
  | _ => none }
def FnExactEqualTypeWrongFalsely : Prop := fnExactEqualTypeRow.holds Try.pinned (OpenSpec.ofChange fnExactEqualTypeWrong)

/-- 'laws.FnExactIsPlainType': WHATEVER THE INPUT: true; the input reads as it did. -/
def fnExactIsPlainTypeSpec : ChangeSpec := { name := "fnExactIsPlainType", fn := fun _ => fun
  | [d] => { results := [.lit (.bool true)], args := [d] }
  | _ => none }
def fnExactIsPlainTypeRow : OpenClaim := { program := "ytnciibngcaajgaa", sum := "531573adba82ed9f070c6904c57b228f4c221b7d3902c32fe39a1e1762cdac22", func := "loop.example/g00589/laws.FnExactIsPlainType", spec := "fnExactIsPlainType", unfollowed := true, recurses := true, loops := true, apart := false }
def FnExactIsPlainTypeSaid : Prop := fnExactIsPlainTypeRow.holds Try.pinned (OpenSpec.ofChange fnExactIsPlainTypeSpec)

/-- ITS FALSE NEIGHBOUR: 'it returns false'. Refute it at one input. -/
def fnExactIsPlainTypeWrong : ChangeSpec := { name := "fnExactIsPlainType", fn := fun _ => fun
  | [d] => { results := [.lit (.bool false)], args := [d] }
  | _ => none }
def FnExactIsPlainTypeWrongFalsely : Prop := fnExactIsPlainTypeRow.holds Try.pinned (OpenSpec.ofChange fnExactIsPlainTypeWrong)

/-- 'laws.FnExactFormatType': WHATEVER THE INPUT: true; the input reads as it did. -/
def fnExactFormatTypeSpec : ChangeSpec := { name := "fnExactFormatType", fn := fun _ => fun
  | [d] => { results := [.lit (.bool true)], args := [d] }
  | _ => none }
def fnExactFormatTypeRow : OpenClaim := { program := "ytnciibngcaajgaa", sum := "531573adba82ed9f070c6904c57b228f4c221b7d3902c32fe39a1e1762cdac22", func := "loop.example/g00589/laws.FnExactFormatType", spec := "fnExactFormatType", unfollowed := true, recurses := true, loops := true, apart := false }
def FnExactFormatTypeSaid : Prop := fnExactFormatTypeRow.holds Try.pinned (OpenSpec.ofChange fnExactFormatTypeSpec)

/-- ITS FALSE NEIGHBOUR: 'it returns false'. Refute it at one input. -/
def fnExactFormatTypeWrong : ChangeSpec := { name := "fnExactFormatType", fn := fun _ => fun
  | [d] => { results := [.lit (.bool false)], args := [d] }
  | _ => none }
def FnExactFormatTypeWrongFalsely : Prop := fnExactFormatTypeRow.holds Try.pinned (OpenSpec.ofChange fnExactFormatTypeWrong)

/-- 'laws.FnExactParseType': WHATEVER THE INPUT: true; the input reads as it did. -/
def fnExactParseTypeSpec : ChangeSpec := { name := "fnExactParseType", fn := fun _ => fun
  | [d] => { results := [.lit (.bool true)], args := [d] }
  | _ => none }
def fnExactParseTypeRow : OpenClaim := { program := "ytnciibngcaajgaa", sum := "531573adba82ed9f070c6904c57b228f4c221b7d3902c32fe39a1e1762cdac22", func := "loop.example/g00589/laws.FnExactParseType", spec := "fnExactParseType", unfollowed := true, recurses := true, apart := false }
def FnExactParseTypeSaid : Prop := fnExactParseTypeRow.holds Try.pinned (OpenSpec.ofChange fnExactParseTypeSpec)

/-- ITS FALSE NEIGHBOUR: 'it returns false'. Refute it at one input. -/
def fnExactParseTypeWrong : ChangeSpec := { name := "fnExactParseType", fn := fun _ => fun
  | [d] => { results := [.lit (.bool false)], args := [d] }
  | _ => none }
def FnExactParseTypeWrongFalsely : Prop := fnExactParseTypeRow.holds Try.pinned (OpenSpec.ofChange fnExactParseTypeWrong)

/-- 'laws.FnExactOpArity': WHATEVER THE INPUT: true; the input reads as it did. -/
def fnExactOpAritySpec : ChangeSpec := { name := "fnExactOpArity", fn := fun _ => fun
  | [d] => { results := [.lit (.bool true)], args := [d] }
  | _ => none }
def fnExactOpArityRow : OpenClaim := { program := "ytnciibngcaajgaa", sum := "531573adba82ed9f070c6904c57b228f4c221b7d3902c32fe39a1e1762cdac22", func := "loop.example/g00589/laws.FnExactOpArity", spec := "fnExactOpArity", apart := false }
def FnExactOpAritySaid : Prop := fnExactOpArityRow.holds Try.pinned (OpenSpec.ofChange fnExactOpAritySpec)

/-- ITS FALSE NEIGHBOUR: 'it returns false'. Refute it at one input. -/
def fnExactOpArityWrong : ChangeSpec := { name := "fnExactOpArity", fn := fun _ => fun
  | [d] => { results := [.lit (.bool false)], args := [d] }
  | _ => none }
def FnExactOpArityWrongFalsely : Prop := fnExactOpArityRow.holds Try.pinned (OpenSpec.ofChange fnExactOpArityWrong)

/-- 'laws.FnExactSizeOf': WHATEVER THE INPUT: true; the input reads as it did. -/
def fnExactSizeOfSpec : ChangeSpec := { name := "fnExactSizeOf", fn := fun _ => fun
  | [d] => { results := [.lit (.bool true)], args := [d] }
  | _ => none }
def fnExactSizeOfRow : OpenClaim := { program := "ytnciibngcaajgaa", sum := "531573adba82ed9f070c6904c57b228f4c221b7d3902c32fe39a1e1762cdac22", func := "loop.example/g00589/laws.FnExactSizeOf", spec := "fnExactSizeOf", unfollowed := true, recurses := true, loops := true, apart := false }
def FnExactSizeOfSaid : Prop := fnExactSizeOfRow.holds Try.pinned (OpenSpec.ofChange fnExactSizeOfSpec)

/-- ITS FALSE NEIGHBOUR: 'it returns false'. Refute it at one input. -/
def fnExactSizeOfWrong : ChangeSpec := { name := "fnExactSizeOf", fn := fun _ => fun
  | [d] => { results := [.lit (.bool false)], args := [d] }
  | _ => none }
def FnExactSizeOfWrongFalsely : Prop := fnExactSizeOfRow.holds Try.pinned (OpenSpec.ofChange fnExactSizeOfWrong)

/-- 'laws.FnExactDepthOf': WHATEVER THE INPUT: true; the input reads as it did. -/
def fnExactDepthOfSpec : ChangeSpec := { name := "fnExactDepthOf", fn := fun _ => fun
  | [d] => { results := [.lit (.bool true)], args := [d] }
  | _ => none }
def fnExactDepthOfRow : OpenClaim := { program := "ytnciibngcaajgaa", sum := "531573adba82ed9f070c6904c57b228f4c221b7d3902c32fe39a1e1762cdac22", func := "loop.example/g00589/laws.FnExactDepthOf", spec := "fnExactDepthOf", unfollowed := true, recurses := true, loops := true, apart := false }
def FnExactDepthOfSaid : Prop := fnExactDepthOfRow.holds Try.pinned (OpenSpec.ofChange fnExactDepthOfSpec)

/-- ITS FALSE NEIGHBOUR: 'it returns false'. Refute it at one input. -/
def fnExactDepthOfWrong : ChangeSpec := { name := "fnExactDepthOf", fn := fun _ => fun
  | [d] => { results := [.lit (.bool false)], args := [d] }
  | _ => none }
def FnExactDepthOfWrongFalsely : Prop := fnExactDepthOfRow.holds Try.pinned (OpenSpec.ofChange fnExactDepthOfWrong)

/-- 'laws.FnExactEqualTerm': WHATEVER THE INPUT: true; the input reads as it did. -/
def fnExactEqualTermSpec : ChangeSpec := { name := "fnExactEqualTerm", fn := fun _ => fun
  | [d1, d2] => { results := [.lit (.bool true)], args := [d1, d2] }
  | _ => none }
def fnExactEqualTermRow : OpenClaim := { program := "ytnciibngcaajgaa", sum := "531573adba82ed9f070c6904c57b228f4c221b7d3902c32fe39a1e1762cdac22", func := "loop.example/g00589/laws.FnExactEqualTerm", spec := "fnExactEqualTerm", unfollowed := true, recurses := true, loops := true, apart := false }
def FnExactEqualTermSaid : Prop := fnExactEqualTermRow.holds Try.pinned (OpenSpec.ofChange fnExactEqualTermSpec)

/-- ITS FALSE NEIGHBOUR: 'it returns false'. Refute it at one input. -/
def fnExactEqualTermWrong : ChangeSpec := { name := "fnExactEqualTerm", fn := fun _ => fun
  | [d1, d2] => { results := [.lit (.bool false)], args := [d1, d2] }
  | _ => none }
def FnExactEqualTermWrongFalsely : Prop := fnExactEqualTermRow.holds Try.pinned (OpenSpec.ofChange fnExactEqualTermWrong)

/- THE SECOND FORM. 'bulk': how many values and letters a reading holds, each counted each time it is reached (what is shared counts as often as it is met; a slice's spare places count too). A statement '..UptoSaid' is the law's where the arguments, and the package variables that the reading takes, are together of bulk at most 1048576: NARROWER than '..Said'. Prove '..Said' where nothing that the law and all that it calls make is longer than what came in: it says more and counts as full. Else prove '..UptoSaid'. A law counts once. -/
mutual
def uptoBulk {H : Type} : DataW H → Nat
  | .lit (.string bytes) => bytes.length + 1
  | .lit _ => 1
  | .nil => 1
  | .ptr d => uptoBulk d + 1
  | .slice elems spare => uptoBulkAll elems + uptoBulkAll spare + 1
  | .agg parts => uptoBulkAll parts + 1
  | .iface _ d => uptoBulk d + 1
  | .map entries => uptoBulkEntries entries + 1
  | .held _ => 1
def uptoBulkAll {H : Type} : List (DataW H) → Nat
  | [] => 0
  | d :: r => uptoBulk d + uptoBulkAll r
def uptoBulkEntries {H : Type} : List (Lit × DataW H) → Nat
  | [] => 0
  | x :: r => uptoBulkEntry x + uptoBulkEntries r
def uptoBulkEntry {H : Type} : Lit × DataW H → Nat
  | (.string bytes, d) => bytes.length + uptoBulk d + 1
  | (_, d) => uptoBulk d + 1
 end
def uptoSmall : (H : Type) → List (DataW H) → Bool := fun _ ds => decide (uptoBulkAll ds ≤ 1048576)
def OpenSpec.upto (s : _root_.Go.ChangeSpec) : _root_.Go.OpenSpec := { _root_.Go.OpenSpec.ofChange s with cond := some uptoSmall }

/-- 'laws.FnTypes', WHERE WHAT IT READS IS OF BULK AT MOST 1048576: true; the input reads as it did. -/
def fnTypesUptoRow : OpenClaim := { program := "ytnciibngcaajgaa", sum := "531573adba82ed9f070c6904c57b228f4c221b7d3902c32fe39a1e1762cdac22", func := "loop.example/g00589/laws.FnTypes", spec := "fnTypes", unfollowed := true, recurses := true, apart := false, narrowed := true }
def FnTypesUptoSaid : Prop := fnTypesUptoRow.holds Try.pinned (OpenSpec.upto fnTypesSpec)

/-- 'laws.FnTypeText', WHERE WHAT IT READS IS OF BULK AT MOST 1048576: true; the input reads as it did. -/
def fnTypeTextUptoRow : OpenClaim := { program := "ytnciibngcaajgaa", sum := "531573adba82ed9f070c6904c57b228f4c221b7d3902c32fe39a1e1762cdac22", func := "loop.example/g00589/laws.FnTypeText", spec := "fnTypeText", unfollowed := true, recurses := true, apart := false, narrowed := true }
def FnTypeTextUptoSaid : Prop := fnTypeTextUptoRow.holds Try.pinned (OpenSpec.upto fnTypeTextSpec)

/-- 'laws.FnExactSizeOfType', WHERE WHAT IT READS IS OF BULK AT MOST 1048576: true; the input reads as it did. -/
def fnExactSizeOfTypeUptoRow : OpenClaim := { program := "ytnciibngcaajgaa", sum := "531573adba82ed9f070c6904c57b228f4c221b7d3902c32fe39a1e1762cdac22", func := "loop.example/g00589/laws.FnExactSizeOfType", spec := "fnExactSizeOfType", unfollowed := true, recurses := true, loops := true, apart := false, narrowed := true }
def FnExactSizeOfTypeUptoSaid : Prop := fnExactSizeOfTypeUptoRow.holds Try.pinned (OpenSpec.upto fnExactSizeOfTypeSpec)

/-- 'laws.FnExactDepthOfType', WHERE WHAT IT READS IS OF BULK AT MOST 1048576: true; the input reads as it did. -/
def fnExactDepthOfTypeUptoRow : OpenClaim := { program := "ytnciibngcaajgaa", sum := "531573adba82ed9f070c6904c57b228f4c221b7d3902c32fe39a1e1762cdac22", func := "loop.example/g00589/laws.FnExactDepthOfType", spec := "fnExactDepthOfType", unfollowed := true, recurses := true, loops := true, apart := false, narrowed := true }
def FnExactDepthOfTypeUptoSaid : Prop := fnExactDepthOfTypeUptoRow.holds Try.pinned (OpenSpec.upto fnExactDepthOfTypeSpec)

/-- 'laws.FnExactIsValidType', WHERE WHAT IT READS IS OF BULK AT MOST 1048576: true; the input reads as it did. -/
def fnExactIsValidTypeUptoRow : OpenClaim := { program := "ytnciibngcaajgaa", sum := "531573adba82ed9f070c6904c57b228f4c221b7d3902c32fe39a1e1762cdac22", func := "loop.example/g00589/laws.FnExactIsValidType", spec := "fnExactIsValidType", unfollowed := true, recurses := true, loops := true, apart := false, narrowed := true }
def FnExactIsValidTypeUptoSaid : Prop := fnExactIsValidTypeUptoRow.holds Try.pinned (OpenSpec.upto fnExactIsValidTypeSpec)

/-- 'laws.FnExactEqualType', WHERE WHAT IT READS IS OF BULK AT MOST 1048576: true; the input reads as it did. -/
def fnExactEqualTypeUptoRow : OpenClaim := { program := "ytnciibngcaajgaa", sum := "531573adba82ed9f070c6904c57b228f4c221b7d3902c32fe39a1e1762cdac22", func := "loop.example/g00589/laws.FnExactEqualType", spec := "fnExactEqualType", unfollowed := true, recurses := true, loops := true, apart := false, narrowed := true }
def FnExactEqualTypeUptoSaid : Prop := fnExactEqualTypeUptoRow.holds Try.pinned (OpenSpec.upto fnExactEqualTypeSpec)

/-- 'laws.FnExactIsPlainType', WHERE WHAT IT READS IS OF BULK AT MOST 1048576: true; the input reads as it did. -/
def fnExactIsPlainTypeUptoRow : OpenClaim := { program := "ytnciibngcaajgaa", sum := "531573adba82ed9f070c6904c57b228f4c221b7d3902c32fe39a1e1762cdac22", func := "loop.example/g00589/laws.FnExactIsPlainType", spec := "fnExactIsPlainType", unfollowed := true, recurses := true, loops := true, apart := false, narrowed := true }
def FnExactIsPlainTypeUptoSaid : Prop := fnExactIsPlainTypeUptoRow.holds Try.pinned (OpenSpec.upto fnExactIsPlainTypeSpec)

/-- 'laws.FnExactFormatType', WHERE WHAT IT READS IS OF BULK AT MOST 1048576: true; the input reads as it did. -/
def fnExactFormatTypeUptoRow : OpenClaim := { program := "ytnciibngcaajgaa", sum := "531573adba82ed9f070c6904c57b228f4c221b7d3902c32fe39a1e1762cdac22", func := "loop.example/g00589/laws.FnExactFormatType", spec := "fnExactFormatType", unfollowed := true, recurses := true, loops := true, apart := false, narrowed := true }
def FnExactFormatTypeUptoSaid : Prop := fnExactFormatTypeUptoRow.holds Try.pinned (OpenSpec.upto fnExactFormatTypeSpec)

/-- 'laws.FnExactParseType', WHERE WHAT IT READS IS OF BULK AT MOST 1048576: true; the input reads as it did. -/
def fnExactParseTypeUptoRow : OpenClaim := { program := "ytnciibngcaajgaa", sum := "531573adba82ed9f070c6904c57b228f4c221b7d3902c32fe39a1e1762cdac22", func := "loop.example/g00589/laws.FnExactParseType", spec := "fnExactParseType", unfollowed := true, recurses := true, apart := false, narrowed := true }
def FnExactParseTypeUptoSaid : Prop := fnExactParseTypeUptoRow.holds Try.pinned (OpenSpec.upto fnExactParseTypeSpec)

/-- 'laws.FnExactOpArity', WHERE WHAT IT READS IS OF BULK AT MOST 1048576: true; the input reads as it did. -/
def fnExactOpArityUptoRow : OpenClaim := { program := "ytnciibngcaajgaa", sum := "531573adba82ed9f070c6904c57b228f4c221b7d3902c32fe39a1e1762cdac22", func := "loop.example/g00589/laws.FnExactOpArity", spec := "fnExactOpArity", apart := false, narrowed := true }
def FnExactOpArityUptoSaid : Prop := fnExactOpArityUptoRow.holds Try.pinned (OpenSpec.upto fnExactOpAritySpec)

/-- 'laws.FnExactSizeOf', WHERE WHAT IT READS IS OF BULK AT MOST 1048576: true; the input reads as it did. -/
def fnExactSizeOfUptoRow : OpenClaim := { program := "ytnciibngcaajgaa", sum := "531573adba82ed9f070c6904c57b228f4c221b7d3902c32fe39a1e1762cdac22", func := "loop.example/g00589/laws.FnExactSizeOf", spec := "fnExactSizeOf", unfollowed := true, recurses := true, loops := true, apart := false, narrowed := true }
def FnExactSizeOfUptoSaid : Prop := fnExactSizeOfUptoRow.holds Try.pinned (OpenSpec.upto fnExactSizeOfSpec)

/-- 'laws.FnExactDepthOf', WHERE WHAT IT READS IS OF BULK AT MOST 1048576: true; the input reads as it did. -/
def fnExactDepthOfUptoRow : OpenClaim := { program := "ytnciibngcaajgaa", sum := "531573adba82ed9f070c6904c57b228f4c221b7d3902c32fe39a1e1762cdac22", func := "loop.example/g00589/laws.FnExactDepthOf", spec := "fnExactDepthOf", unfollowed := true, recurses := true, loops := true, apart := false, narrowed := true }
def FnExactDepthOfUptoSaid : Prop := fnExactDepthOfUptoRow.holds Try.pinned (OpenSpec.upto fnExactDepthOfSpec)

/-- 'laws.FnExactEqualTerm', WHERE WHAT IT READS IS OF BULK AT MOST 1048576: true; the input reads as it did. -/
def fnExactEqualTermUptoRow : OpenClaim := { program := "ytnciibngcaajgaa", sum := "531573adba82ed9f070c6904c57b228f4c221b7d3902c32fe39a1e1762cdac22", func := "loop.example/g00589/laws.FnExactEqualTerm", spec := "fnExactEqualTerm", unfollowed := true, recurses := true, loops := true, apart := false, narrowed := true }
def FnExactEqualTermUptoSaid : Prop := fnExactEqualTermUptoRow.holds Try.pinned (OpenSpec.upto fnExactEqualTermSpec)

end Rows
end Go.Proofs.Ytnciibngcaajgaa
