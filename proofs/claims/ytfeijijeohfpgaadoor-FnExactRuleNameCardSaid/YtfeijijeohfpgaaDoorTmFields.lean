/-
  The contract of the model's l5Fields: the fields of a node are those of its kind.
-/
import Derived.Test.YtfeijijeohfpgaaDoorTmFieldsSix
import Derived.Test.YtfeijijeohfpgaaDoorTmFieldsNine
import Derived.Test.YtfeijijeohfpgaaDoorTmFieldsOth
namespace Go.Proofs.YtfeijijeohfpgaaDoor
open Go Go.RowKit

theorem fieldsS_any {C : Nat → Prop} (t : Tm) (tp : Option Addr) (tc : Nat) (rp : Option Addr) (rc : Nat) (p : Option Addr) (c : Nat) (w : World) (hT : TM' w C t tp tc rp rc p c) (hn : t.wt ≤ 2097152) :
    Calls Tryd.prog 55 #[tmV t tp tc rp rc p c] w (Tells t.FieldsOk w) := by
  rcases (show t.kind = 6 ∨ t.kind = 9 ∨ (¬ t.kind = 6 ∧ ¬ t.kind = 9) by omega) with k | k | k
  · exact fieldsSSix t tp tc rp rc p c w hT hn k
  · exact fieldsSNine t tp tc rp rc p c w hT hn k
  · exact fieldsSOth t tp tc rp rc p c w hT hn k
end Go.Proofs.YtfeijijeohfpgaaDoor

