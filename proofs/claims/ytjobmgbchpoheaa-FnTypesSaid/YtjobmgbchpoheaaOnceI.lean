/-
  The contract of a draw that says yes once in n times.
-/
import Derived.Test.YtjobmgbchpoheaaDrawI
namespace Go.Proofs.Ytjobmgbchpoheaa
open Go Go.RowKit

def OnceRet (b : Nat) (w : World) (e : Ending) (w' : World) : Prop := ∃ x : Bool, e = .returned (.bool x) ∧ Cur w' b ∧ w.grownBy w' (some b)
set_option maxRecDepth 100000 in
set_option maxHeartbeats 1000000 in
theorem once_any (b : Nat) (n : Int) (w : World) (h1 : 1 ≤ n) (h2 : n ≤ 9223372036854775807) (hc : Cur w b) :
    Calls Try.prog 30 #[.pointer (some ⟨b, 0, none⟩), .int .i64 n] w (OnceRet b w) := by
  have HC := Lib.hid (below_any b n w h1 h2 hc)
  clear hc
  go_enter Try.func30, Try.ntmps30
  go_wp2_with fail
  refine HC.out.mono ?_
  rintro e w1 ⟨x, _, rfl, hc1, hg1⟩
  have HC1 := Lib.hid hc1
  have HG1 := Lib.hid hg1
  clear hc1 hg1
  go_wp2_with fail
  go_ret
  exact ⟨_, rfl, HC1.out, HG1.out⟩

def DrawsBool (b : Nat) (w : World) (e : Ending) (w' : World) : Prop := ∃ x : Bool, e = .returned (.bool x) ∧ Left b w w'
theorem once_left (b : Nat) (n : Int) (w : World) (h1 : 1 ≤ n) (h2 : n ≤ 9223372036854775807) (hc : Cur w b) :
    Calls Try.prog 30 #[.pointer (some ⟨b, 0, none⟩), .int .i64 n] w (DrawsBool b w) := by
  refine (once_any b n w h1 h2 hc).mono ?_
  rintro e w' ⟨x, rfl, hc', hg⟩
  exact ⟨x, rfl, left_of hc' hg hc.lt⟩
#print axioms once_any
end Go.Proofs.Ytjobmgbchpoheaa

