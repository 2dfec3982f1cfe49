/-
  NARROWER THAN 'FOR EVERY INPUT', by the rows' own cells (each row's printed sentence says how): FnExactIsCtx: loops · FnExactSafeCtx: loops.
  DERIVED. THE GIVEN ROWS OF THIS SEAT. 2 by the template 'for every input the law returns true; each argument reads behind the call as it read before'; 0 by the template 'total and deterministic' (their statements: YteoeefmdfalnjaaTotals.lean).
  GIVEN WITH THE SEED: the statements are not yours to turn. If you find one false, say at which input.
  Laid BY PROGRAM, IN A SANDBOX (cutbox-rows.mjs): the forced cells as the released guide's own fill.sh prints them over the translation 162e53ac59d1711b… (all of the seat's roots in one cut). By AI agents, Wed Nov 11 2026. No macro, syntax, notation, axiom, sorry.
-/
import Derived.Test.YteoeefmdfalnjaaChecked
import GoSem.Claim
import GoSem.ClaimJoined
import GoSem.ClaimMapViews
import Derived.JoinedTies
import Derived.KernelRfl
namespace Go.Proofs.Yteoeefmdfalnjaa
/- THE CELL 'sum', in the pinned program and in every row, IS THE sha256 OF THE DUMP (.gsa) THAT YteoeefmdfalnjaaProg.lean LOADS. Nothing in Lean hashes anything: it is a label: what it is worth is what the hold of that sum in a sandbox is worth. -/
noncomputable def Try.pinned : Pinned := { name := "yteoeefmdfalnjaa", sum := "162e53ac59d1711be45438268f0de54e74586d68d5b2cbd0b6500866de24a63d", checked := Try.checked }
namespace Rows
def none {H : Type} : Left H := { results := [], args := [] }

/-- 'laws.FnExactIsCtx': WHATEVER THE INPUT: true; the input reads as it did. -/
def fnExactIsCtxSpec : ChangeSpec := { name := "fnExactIsCtx", fn := fun _ => fun
  | [d] => { results := [.lit (.bool true)], args := [d] }
  | _ => none }
def fnExactIsCtxRow : OpenClaim := { program := "yteoeefmdfalnjaa", sum := "162e53ac59d1711be45438268f0de54e74586d68d5b2cbd0b6500866de24a63d", func := "loop.example/g00589/laws.FnExactIsCtx", spec := "fnExactIsCtx", unfollowed := true, recurses := true, loops := true, apart := false }
def FnExactIsCtxSaid : Prop := fnExactIsCtxRow.holds Try.pinned (OpenSpec.ofChange fnExactIsCtxSpec)

/-- ITS FALSE NEIGHBOUR: 'it returns false'. Refute it at one input. -/
def fnExactIsCtxWrong : ChangeSpec := { name := "fnExactIsCtx", fn := fun _ => fun
  | [d] => { results := [.lit (.bool false)], args := [d] }
  | _ => none }
def FnExactIsCtxWrongFalsely : Prop := fnExactIsCtxRow.holds Try.pinned (OpenSpec.ofChange fnExactIsCtxWrong)

/-- 'laws.FnExactSafeCtx': WHATEVER THE INPUT: true; the input reads as it did. -/
def fnExactSafeCtxSpec : ChangeSpec := { name := "fnExactSafeCtx", fn := fun _ => fun
  | [d1, d2] => { results := [.lit (.bool true)], args := [d1, d2] }
  | _ => none }
def fnExactSafeCtxRow : OpenClaim := { program := "yteoeefmdfalnjaa", sum := "162e53ac59d1711be45438268f0de54e74586d68d5b2cbd0b6500866de24a63d", func := "loop.example/g00589/laws.FnExactSafeCtx", spec := "fnExactSafeCtx", unfollowed := true, recurses := true, loops := true, apart := false }
def FnExactSafeCtxSaid : Prop := fnExactSafeCtxRow.holds Try.pinned (OpenSpec.ofChange fnExactSafeCtxSpec)

/-- ITS FALSE NEIGHBOUR: 'it returns false'. Refute it at one input. -/
def fnExactSafeCtxWrong : ChangeSpec := { name := "fnExactSafeCtx", fn := fun _ => fun
  | [d1, d2] => { results := [.lit (.bool false)], args := [d1, d2] }
  | _ => none }
def FnExactSafeCtxWrongFalsely : Prop := fnExactSafeCtxRow.holds Try.pinned (OpenSpec.ofChange fnExactSafeCtxWrong)

/- THE SECOND FORM. 'bulk': how many values and letters a reading holds, each counted each time it is reached (what is shared counts as often as it is met; a slice's spare places count too). A statement '..UptoSaid' is the law's where the arguments, and the package variables that the reading takes, are together of bulk at most 1048576: NARROWER than '..Said'. Prove '..Said' where nothing that the law and all that it calls make is longer than what came in: it says more and counts as full. Else prove '..UptoSaid'. A law counts once. -/
mutual
def uptoBulk {H : Type} : DataW H → Nat
  | .lit (.string bytes) => bytes.length + 1
  | .lit _ => 1
  | .nil => 1
  | .ptr d => uptoBulk d + 1
  | .slice elems spare => uptoBulkAll elems + uptoBulkAll spare + 1
  | .agg parts => uptoBulkAll parts + 1
  | .iface _ d => uptoBulk d + 1
  | .map entries => uptoBulkEntries entries + 1
  | .held _ => 1
def uptoBulkAll {H : Type} : List (DataW H) → Nat
  | [] => 0
  | d :: r => uptoBulk d + uptoBulkAll r
def uptoBulkEntries {H : Type} : List (Lit × DataW H) → Nat
  | [] => 0
  | x :: r => uptoBulkEntry x + uptoBulkEntries r
def uptoBulkEntry {H : Type} : Lit × DataW H → Nat
  | (.string bytes, d) => bytes.length + uptoBulk d + 1
  | (_, d) => uptoBulk d + 1
 end
def uptoSmall : (H : Type) → List (DataW H) → Bool := fun _ ds => decide (uptoBulkAll ds ≤ 1048576)
def OpenSpec.upto (s : _root_.Go.ChangeSpec) : _root_.Go.OpenSpec := { _root_.Go.OpenSpec.ofChange s with cond := some uptoSmall }

/-- 'laws.FnExactIsCtx', WHERE WHAT IT READS IS OF BULK AT MOST 1048576: true; the input reads as it did. -/
def fnExactIsCtxUptoRow : OpenClaim := { program := "yteoeefmdfalnjaa", sum := "162e53ac59d1711be45438268f0de54e74586d68d5b2cbd0b6500866de24a63d", func := "loop.example/g00589/laws.FnExactIsCtx", spec := "fnExactIsCtx", unfollowed := true, recurses := true, loops := true, apart := false, narrowed := true }
def FnExactIsCtxUptoSaid : Prop := fnExactIsCtxUptoRow.holds Try.pinned (OpenSpec.upto fnExactIsCtxSpec)

/-- 'laws.FnExactSafeCtx', WHERE WHAT IT READS IS OF BULK AT MOST 1048576: true; the input reads as it did. -/
def fnExactSafeCtxUptoRow : OpenClaim := { program := "yteoeefmdfalnjaa", sum := "162e53ac59d1711be45438268f0de54e74586d68d5b2cbd0b6500866de24a63d", func := "loop.example/g00589/laws.FnExactSafeCtx", spec := "fnExactSafeCtx", unfollowed := true, recurses := true, loops := true, apart := false, narrowed := true }
def FnExactSafeCtxUptoSaid : Prop := fnExactSafeCtxUptoRow.holds Try.pinned (OpenSpec.upto fnExactSafeCtxSpec)

end Rows
end Go.Proofs.Yteoeefmdfalnjaa
