/-
  The contracts of the model's OpArity, l5Arity, l5Zero, l5Names: what a node of a term must be.
-/
import Derived.Test.YtfeijijeohfpgaaDoorTmSpec
import Derived.Test.YtfeijijeohfpgaaDoorIsName
namespace Go.Proofs.YtfeijijeohfpgaaDoor
open Go Go.RowKit

def opAr (l : List UInt8) : Int :=
  if l = [43] then 2 else if l = [45] then 2 else if l = [42] then 2 else if l = [61] then 2 else if l = [60] then 2 else if l = [38] then 2 else if l = [124] then 2 else if l = [33] then 1 else 0
theorem opAr_range (l : List UInt8) : 0 ≤ opAr l ∧ opAr l ≤ 2 := by
  unfold opAr
  repeat' split
  all_goals omega
/-- The number of parts of a node. -/
def arK (k o : Int) : Int :=
  if k = 1 then 0 else if k = 2 then 0 else if k = 3 then 0 else if k = 4 then o else if k = 6 then 1 else if k = 9 then 1 else if k = 10 then 1 else if k = 11 then 1 else if k = 12 then 1 else if k = 13 then 1 else if k = 7 then 2 else if k = 8 then 2 else if k = 5 then 3 else -1
def Tm.arity (t : Tm) : Int := arK t.kind (opAr t.name.toList)
theorem arK_range (k o : Int) (h : 0 ≤ o ∧ o ≤ 2) : -1 ≤ arK k o ∧ arK k o ≤ 3 := by
  unfold arK
  repeat' split
  all_goals omega

set_option maxRecDepth 100000 in
set_option maxHeartbeats 1000000 in
theorem opArS_any (s : ByteArray) (w : World) : Calls Tryd.prog 83 #[.string s] w fun e w' => e = .returned (.int .i64 (opAr s.toList)) ∧ w' = w := by
  go_enter Tryd.func83, Tryd.ntmps83
  go_wp2
  all_goals
    go_ret
    exact ⟨by unfold opAr; simp_all, rfl⟩

set_option maxRecDepth 100000 in
set_option maxHeartbeats 2000000 in
theorem arityS_any (t : Tm) (tp : Option Addr) (tc : Nat) (rp : Option Addr) (rc : Nat) (p : Option Addr) (c : Nat) (w : World) :
    Calls Tryd.prog 56 #[tmV t tp tc rp rc p c] w fun e w' => e = .returned (.int .i64 t.arity) ∧ Below w.heap.size w w' := by
  have HB := Lib.hid (al_below w (.cells (tmC t tp tc rp rc p c) 35))
  go_enter Tryd.func56, Tryd.ntmps56
  go_wp2_with (first | (go_at_call 83; refine (opArS_any _ _).mono ?_; rintro e w' ⟨rfl, rfl⟩))
  all_goals
    go_ret
    exact ⟨by unfold Tm.arity arK; simp_all, HB.out⟩

set_option maxRecDepth 100000 in
set_option maxHeartbeats 1000000 in
theorem zeroS_any (k : Int) (p : Option Addr) (n c : Nat) (w : World) : Calls Tryd.prog 81 #[.agg #[.int .i64 k, .slice p n c]] w (Tells (k = 0 ∧ n = 0) w) := by
  have HB := Lib.hid (al_below w (.cells #[.int .i64 k, .slice p n c] 32))
  go_enter Tryd.func81, Tryd.ntmps81
  by_cases hk : k = 0
  · subst hk
    go_wp2_with fail
    go_ret
    exact ⟨_, by simp, rfl, HB.out⟩
  · have hk1 : (k == 0) = false := by simpa using hk
    go_wp2_with fail
    go_ret
    exact ⟨_, by simp [hk], rfl, HB.out⟩

/-- The names are those that the kind asks for. -/
def Tm.namesOk (t : Tm) : Prop :=
  if t.kind = 4 then 0 < opAr t.name.toList ∧ t.other.toList = [] else if t.kind = 1 ∨ t.kind = 6 ∨ t.kind = 8 then Nm t.name ∧ t.other.toList = []
  else if t.kind = 9 then Nm t.name ∧ Nm t.other ∧ t.name ≠ t.other else t.name.toList = [] ∧ t.other.toList = []
theorem emp_cases (s : ByteArray) : (s.toList = [] ∧ s.toList.isEmpty = true) ∨ (¬ s.toList = [] ∧ s.toList.isEmpty = false) := by
  cases h : s.toList <;> simp
end Go.Proofs.YtfeijijeohfpgaaDoor

