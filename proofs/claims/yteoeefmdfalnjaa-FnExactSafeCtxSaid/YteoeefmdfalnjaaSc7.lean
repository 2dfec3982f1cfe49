/-
  Several texts of the proof in one (each says below what it holds): Kind Kind2 Erase SpecEq RangeT.
-/
import Derived.Test.YteoeefmdfalnjaaSc6
import Derived.Test.YteoeefmdfalnjaaSc1
import Derived.Test.YteoeefmdfalnjaaSc2
import Derived.RangeFuncKeeps
import Derived.RangeFuncLeaves
/- Kind: The contracts of the program's kinds of types: arity, kindOf, IsBase, isCode. -/
namespace Go.Proofs.Yteoeefmdfalnjaa
open Go Go.RowKit

theorem ar_int (w : World) : Calls Try.prog 66 #[.agg #[]] w fun e w' => e = .returned (.int .i64 0) ∧ Below w.heap.size w w' := by
  go_enter Try.func66, Try.ntmps66
  go_wp2
  go_ret
  exact ⟨rfl, (Below.refl _ _).alloc (Nat.le_refl _) _⟩
theorem ar_bool (w : World) : Calls Try.prog 67 #[.agg #[]] w fun e w' => e = .returned (.int .i64 0) ∧ Below w.heap.size w w' := by
  go_enter Try.func67, Try.ntmps67
  go_wp2
  go_ret
  exact ⟨rfl, (Below.refl _ _).alloc (Nat.le_refl _) _⟩
theorem ar_fun (w : World) : Calls Try.prog 68 #[.agg #[]] w fun e w' => e = .returned (.int .i64 2) ∧ Below w.heap.size w w' := by
  go_enter Try.func68, Try.ntmps68
  go_wp2
  go_ret
  exact ⟨rfl, (Below.refl _ _).alloc (Nat.le_refl _) _⟩
theorem ar_code (w : World) : Calls Try.prog 69 #[.agg #[]] w fun e w' => e = .returned (.int .i64 1) ∧ Below w.heap.size w w' := by
  go_enter Try.func69, Try.ntmps69
  go_wp2
  go_ret
  exact ⟨rfl, (Below.refl _ _).alloc (Nat.le_refl _) _⟩

theorem meth_int (w : World) : (method 204 74 (.agg #[]) "loop.example/g00589/impl.arity").run Try.prog w = .ok (66, .agg #[]) w := by kernel_rfl
theorem meth_bool (w : World) : (method 204 75 (.agg #[]) "loop.example/g00589/impl.arity").run Try.prog w = .ok (67, .agg #[]) w := by kernel_rfl
theorem meth_fun (w : World) : (method 204 76 (.agg #[]) "loop.example/g00589/impl.arity").run Try.prog w = .ok (68, .agg #[]) w := by kernel_rfl
theorem meth_code (w : World) : (method 204 77 (.agg #[]) "loop.example/g00589/impl.arity").run Try.prog w = .ok (69, .agg #[]) w := by kernel_rfl

/-- The kind's value, by the kind's number and the number of parts. -/
def kindV (k : Int) (n : Nat) : Value :=
  if k = 1 ∧ n = 0 then .iface 74 (.agg #[])
  else if k = 2 ∧ n = 0 then .iface 75 (.agg #[])
  else if k = 3 ∧ n = 2 then .iface 76 (.agg #[])
  else if k = 4 ∧ n = 1 then .iface 77 (.agg #[])
  else .nilIface

theorem keep1 {w W w1 : World} {p1 : Addr} {v1 : Value} (hb1 : Below W.heap.size W w1) (h : W.cell? p1 = some v1 ∧ Below w.heap.size w W) : w1.cell? p1 = some v1 ∧ Below w.heap.size w w1 :=
  ⟨(hb1.cell (World.block_lt_of_cell? W _ h.1)).trans h.1, h.2.trans (hb1.mono h.2.size)⟩

set_option maxRecDepth 100000 in
set_option maxHeartbeats 1000000 in
theorem kindOf_any (k : Int) (p : Option Addr) (n c : Nat) (w : World) (hn : n ≤ 9223372036854775807) :
    Calls Try.prog 37 #[.agg #[.int .i64 k, .slice p n c]] w fun e w' => e = .returned (kindV k n) ∧ Below w.heap.size w w' := by
  have HV := Lib.hid (fun v (h : kindV k n = v) (w' : World) (hb : Below w.heap.size w w') => (⟨by rw [h], hb⟩ : Ending.returned v = .returned (kindV k n) ∧ Below w.heap.size w w'))
  go_enter Try.func37, Try.ntmps37
  by_cases q1 : k = 1
  · subst q1
    have hm := meth_int
    have hB : Below w.heap.size w (w.alloc (Obj.cells #[.int .i64 1, .slice p n c] 41)) := (Below.refl w.heap.size w).alloc (Nat.le_refl _) _
    go_wp2_with fail
    go_region_held3 (fun w' => w'.cell? ⟨w.heap.size, 1, none⟩ = some (.slice p n c) ∧ Below w.heap.size w w')
      (first
        | (go_keep; done)
        | exact ⟨by simp [*], hB.drew⟩
        | exact keep1 hb1 (by assumption))
      (first | (go_at_call 66; refine (ar_int _).mono ?_; rintro e w1 ⟨rfl, hb1⟩))
    all_goals
      rename_i hH
      have HB := Lib.hid hH.2
      clear hH hb1 hB hm
      by_cases hz : n = 0
      · subst hz
        go_wp2_with fail
        go_ret
        exact HV.out _ (by simp [kindV]) _ HB.out
      · go_wp2_with fail
        go_ret
        exact HV.out _ (by simp [kindV, hz]) _ HB.out
  by_cases q2 : k = 2
  · subst q2
    have hm := meth_bool
    have hB : Below w.heap.size w (w.alloc (Obj.cells #[.int .i64 2, .slice p n c] 41)) := (Below.refl w.heap.size w).alloc (Nat.le_refl _) _
    go_wp2_with fail
    go_region_held3 (fun w' => w'.cell? ⟨w.heap.size, 1, none⟩ = some (.slice p n c) ∧ Below w.heap.size w w')
      (first
        | (go_keep; done)
        | exact ⟨by simp [*], hB.drew⟩
        | exact keep1 hb1 (by assumption))
      (first | (go_at_call 67; refine (ar_bool _).mono ?_; rintro e w1 ⟨rfl, hb1⟩))
    all_goals
      rename_i hH
      have HB := Lib.hid hH.2
      clear hH hb1 hB hm
      by_cases hz : n = 0
      · subst hz
        go_wp2_with fail
        go_ret
        exact HV.out _ (by simp [kindV]) _ HB.out
      · go_wp2_with fail
        go_ret
        exact HV.out _ (by simp [kindV, hz]) _ HB.out
  by_cases q3 : k = 3
  · subst q3
    have hm := meth_fun
    have hB : Below w.heap.size w (w.alloc (Obj.cells #[.int .i64 3, .slice p n c] 41)) := (Below.refl w.heap.size w).alloc (Nat.le_refl _) _
    go_wp2_with fail
    go_region_held3 (fun w' => w'.cell? ⟨w.heap.size, 1, none⟩ = some (.slice p n c) ∧ Below w.heap.size w w')
      (first
        | (go_keep; done)
        | exact ⟨by simp [*], hB.drew⟩
        | exact keep1 hb1 (by assumption))
      (first | (go_at_call 68; refine (ar_fun _).mono ?_; rintro e w1 ⟨rfl, hb1⟩))
    all_goals
      rename_i hH
      have HB := Lib.hid hH.2
      clear hH hb1 hB hm
      by_cases hz : n = 2
      · subst hz
        go_wp2_with fail
        go_ret
        exact HV.out _ (by simp [kindV]) _ HB.out
      · go_wp2_with fail
        go_ret
        exact HV.out _ (by simp [kindV, hz]) _ HB.out
  by_cases q4 : k = 4
  · subst q4
    have hm := meth_code
    have hB : Below w.heap.size w (w.alloc (Obj.cells #[.int .i64 4, .slice p n c] 41)) := (Below.refl w.heap.size w).alloc (Nat.le_refl _) _
    go_wp2_with fail
    go_region_held3 (fun w' => w'.cell? ⟨w.heap.size, 1, none⟩ = some (.slice p n c) ∧ Below w.heap.size w w')
      (first
        | (go_keep; done)
        | exact ⟨by simp [*], hB.drew⟩
        | exact keep1 hb1 (by assumption))
      (first | (go_at_call 69; refine (ar_code _).mono ?_; rintro e w1 ⟨rfl, hb1⟩))
    all_goals
      rename_i hH
      have HB := Lib.hid hH.2
      clear hH hb1 hB hm
      by_cases hz : n = 1
      · subst hz
        go_wp2_with fail
        go_ret
        exact HV.out _ (by simp [kindV]) _ HB.out
      · go_wp2_with fail
        go_ret
        exact HV.out _ (by simp [kindV, hz]) _ HB.out
  have hB := Lib.hid ((Below.refl w.heap.size w).alloc (Nat.le_refl _) (Obj.cells #[.int .i64 k, .slice p n c] 41))
  have t1 : (k == 1) = false := by simp [q1]
  have t2 : (k == 2) = false := by simp [q2]
  have t3 : (k == 3) = false := by simp [q3]
  have t4 : (k == 4) = false := by simp [q4]
  have hv := Lib.hid (show kindV k n = .nilIface by simp [kindV, q1, q2, q3, q4])
  clear q1 q2 q3 q4
  go_wp2_with fail
  go_region
  all_goals
    go_wp2_with fail
    go_ret
    exact HV.out _ hv.out _ hB.out.drew
end Go.Proofs.Yteoeefmdfalnjaa
/- Kind2: The contracts of the program's IsBase and isCode. -/
namespace Go.Proofs.Yteoeefmdfalnjaa
open Go Go.RowKit

theorem kindV_cases (k : Int) (n : Nat) : ((k = 1 ∧ n = 0) ∧ kindV k n = .iface 74 (.agg #[])) ∨ ((k = 2 ∧ n = 0) ∧ kindV k n = .iface 75 (.agg #[])) ∨
    ((k = 3 ∧ n = 2) ∧ kindV k n = .iface 76 (.agg #[])) ∨ ((k = 4 ∧ n = 1) ∧ kindV k n = .iface 77 (.agg #[])) ∨
    ((¬ (k = 1 ∧ n = 0) ∧ ¬ (k = 2 ∧ n = 0) ∧ ¬ (k = 3 ∧ n = 2) ∧ ¬ (k = 4 ∧ n = 1)) ∧ kindV k n = .nilIface) := by
  unfold kindV
  by_cases h1 : k = 1 ∧ n = 0
  · simp [h1]
  by_cases h2 : k = 2 ∧ n = 0
  · simp [h2]
  by_cases h3 : k = 3 ∧ n = 2
  · simp [h3]
  by_cases h4 : k = 4 ∧ n = 1
  · simp [h4]
  simp [h1, h2, h3, h4]

theorem as_int_int (w : World) : (Instr.typeAssert (.iface 74 (.agg #[])) 59 74 true).run Try.prog w = .ok (.tuple #[.agg #[], .bool true]) w := by kernel_rfl
theorem as_bool_int (w : World) : (Instr.typeAssert (.iface 75 (.agg #[])) 59 74 true).run Try.prog w = .ok (.tuple #[.agg #[], .bool false]) w := by kernel_rfl
theorem as_fun_int (w : World) : (Instr.typeAssert (.iface 76 (.agg #[])) 59 74 true).run Try.prog w = .ok (.tuple #[.agg #[], .bool false]) w := by kernel_rfl
theorem as_code_int (w : World) : (Instr.typeAssert (.iface 77 (.agg #[])) 59 74 true).run Try.prog w = .ok (.tuple #[.agg #[], .bool false]) w := by kernel_rfl
theorem as_nil_int (w : World) : (Instr.typeAssert .nilIface 59 74 true).run Try.prog w = .ok (.tuple #[.agg #[], .bool false]) w := by kernel_rfl
theorem as_int_bool (w : World) : (Instr.typeAssert (.iface 74 (.agg #[])) 59 75 true).run Try.prog w = .ok (.tuple #[.agg #[], .bool false]) w := by kernel_rfl
theorem as_bool_bool (w : World) : (Instr.typeAssert (.iface 75 (.agg #[])) 59 75 true).run Try.prog w = .ok (.tuple #[.agg #[], .bool true]) w := by kernel_rfl
theorem as_fun_bool (w : World) : (Instr.typeAssert (.iface 76 (.agg #[])) 59 75 true).run Try.prog w = .ok (.tuple #[.agg #[], .bool false]) w := by kernel_rfl
theorem as_code_bool (w : World) : (Instr.typeAssert (.iface 77 (.agg #[])) 59 75 true).run Try.prog w = .ok (.tuple #[.agg #[], .bool false]) w := by kernel_rfl
theorem as_nil_bool (w : World) : (Instr.typeAssert .nilIface 59 75 true).run Try.prog w = .ok (.tuple #[.agg #[], .bool false]) w := by kernel_rfl
theorem as_int_code (w : World) : (Instr.typeAssert (.iface 74 (.agg #[])) 59 77 true).run Try.prog w = .ok (.tuple #[.agg #[], .bool false]) w := by kernel_rfl
theorem as_bool_code (w : World) : (Instr.typeAssert (.iface 75 (.agg #[])) 59 77 true).run Try.prog w = .ok (.tuple #[.agg #[], .bool false]) w := by kernel_rfl
theorem as_fun_code (w : World) : (Instr.typeAssert (.iface 76 (.agg #[])) 59 77 true).run Try.prog w = .ok (.tuple #[.agg #[], .bool false]) w := by kernel_rfl
theorem as_code_code (w : World) : (Instr.typeAssert (.iface 77 (.agg #[])) 59 77 true).run Try.prog w = .ok (.tuple #[.agg #[], .bool true]) w := by kernel_rfl
theorem as_nil_code (w : World) : (Instr.typeAssert .nilIface 59 77 true).run Try.prog w = .ok (.tuple #[.agg #[], .bool false]) w := by kernel_rfl

theorem dec_t {P : Prop} [Decidable P] (h : P) : true = decide P := (decide_eq_true h).symm
theorem dec_f {P : Prop} [Decidable P] (h : ¬ P) : false = decide P := (decide_eq_false h).symm

def Ty.code (t : Ty) : Bool := decide (t.kind = 4 ∧ t.args.length = 1)

set_option maxRecDepth 100000 in
set_option maxHeartbeats 1000000 in
theorem baseI_any {C : Nat → Prop} {t : Ty} {v : Value} {w : World} (h : TT w C t v) :
    Calls Try.prog 41 #[v] w (BoolRet (fun r => r = t.base) w) := by
  obtain ⟨s, rfl, hS⟩ := h
  have hlen := hS.len
  obtain ⟨p, c, rfl⟩ := hS.form
  have HB0 := Lib.hid ((Below.refl w.heap.size w).alloc (Nat.le_refl _) (Obj.cells #[.int .i64 t.kind, .slice p t.args.length c] 41))
  have HV := Lib.hid (show t.base = decide ((t.kind = 1 ∨ t.kind = 2) ∧ t.args.length = 0) from rfl)
  clear hS
  go_enter Try.func41, Try.ntmps41
  go_wp2_with fail
  refine (kindOf_any t.kind p t.args.length c _ hlen).mono ?_
  rintro e w1 ⟨rfl, hb1⟩
  have HB1 := Lib.hid (HB0.out.trans (hb1.mono HB0.out.size))
  clear hb1
  rcases kindV_cases t.kind t.args.length with ⟨hc, hk⟩ | ⟨hc, hk⟩ | ⟨hc, hk⟩ | ⟨hc, hk⟩ | ⟨hc, hk⟩
  all_goals
    rw [hk]
    have HC := Lib.hid hc
    clear hc hk
    have s0 := as_int_int
    have s1 := as_bool_int
    have s2 := as_fun_int
    have s3 := as_code_int
    have s4 := as_nil_int
    have s5 := as_int_bool
    have s6 := as_bool_bool
    have s7 := as_fun_bool
    have s8 := as_code_bool
    have s9 := as_nil_bool
    go_wp2_with fail
    go_ret
    exact ⟨_, by have hc := HC.out; rw [HV.out]; first | exact dec_t (by omega) | exact dec_f (by omega), rfl, HB1.out⟩

end Go.Proofs.Yteoeefmdfalnjaa
/- Erase: Erasing: the figure; what waits while the program erases: places that are still to be filled, and what stands when they are. Of no walk. -/
namespace Go.Proofs.Yteoeefmdfalnjaa
open Go Go.RowKit

/-- A node over erased parts. -/
def eraseK (k : Int) (es : List Ty) : Ty := if k = 4 ∧ es.length = 1 then es.headD (.mk k []) else .mk k es
mutual
def Ty.erase : Ty → Ty
  | .mk k ts => eraseK k (eraseS ts)
def eraseS : List Ty → List Ty
  | [] => []
  | t :: ts => t.erase :: eraseS ts
end
theorem eraseS_map (ts : List Ty) : eraseS ts = ts.map Ty.erase := by
  induction ts with
  | nil => rfl
  | cons t ts ih => simp [eraseS, ih]
theorem erase_eq (t : Ty) : t.erase = eraseK t.kind (t.args.map Ty.erase) := by cases t; simp [Ty.erase, eraseS_map]
theorem erase_code {y : Ty} (h : y.code = true) : ∃ z, y.args = [z] ∧ y.erase = z.erase := by
  unfold Ty.code at h
  rw [decide_eq_true_eq] at h
  obtain ⟨h1, h2⟩ := h
  obtain ⟨z, hz⟩ := List.length_eq_one_iff.1 h2
  exact ⟨z, hz, by rw [erase_eq, hz]; simp [eraseK, h1]⟩
theorem erase_node {y : Ty} (h : y.code = false) : y.erase = .mk y.kind (y.args.map Ty.erase) := by
  unfold Ty.code at h
  rw [decide_eq_false_iff_not] at h
  rw [erase_eq, eraseK, if_neg (by rw [List.length_map]; exact h)]

theorem cell_of_blk' {w : World} {g : Nat} {cs : Array Value} {t : TypeId} {fr : Nat × Nat} (h : w.heap[g]? = some (.cells cs t fr)) {i : Nat} : w.cell? ⟨g, i, none⟩ = cs[i]? := by simp [World.cell?, h]

/-- A place that is to be filled with a type, erased: the type, the place. -/
structure Job where
  x : Ty
  b : Nat
  o : Nat
/-- The cell belongs to no place that waits. -/
def Free (st : List Job) (b o : Nat) : Prop := ∀ e ∈ st, ¬ (e.b = b ∧ (o = e.o ∨ o = e.o + 1))

/-- The places are filled: each holds its type erased, in rows that are newer than w and apart; of the tree's blocks U nothing else has turned. -/
structure Filled' (w w' : World) (U : Nat → Prop) (st : List Job) : Prop where
  size : w.heap.size ≤ w'.heap.size
  same : ∀ b, U b → ∀ o, Free st b o → w'.cell? ⟨b, o, none⟩ = w.cell? ⟨b, o, none⟩
  shape : ∀ b, U b → ∀ cur : Array Value, w.heap[b]? = some (.cells cur 41 (0, 0)) → ∃ cur' : Array Value, w'.heap[b]? = some (.cells cur' 41 (0, 0)) ∧ cur'.size = cur.size
  full : ∃ G : Nat → Nat → Prop, (∀ i e, st[i]? = some e → ∃ s, w'.cell? ⟨e.b, e.o, none⟩ = some (.int .i64 e.x.erase.kind) ∧ w'.cell? ⟨e.b, e.o + 1, none⟩ = some s ∧ OS w' e.x.erase.args s (G i)) ∧
    (∀ i z, i < st.length → G i z → w.heap.size ≤ z) ∧ (∀ i j z, i < st.length → j < st.length → i ≠ j → G i z → G j z → False)

/-- The root holds the whole. -/
def RootDone (w' : World) (R : Nat) (T : Ty) : Prop := ∃ s, w'.cell? ⟨R, 0, none⟩ = some (.int .i64 T.kind) ∧ w'.cell? ⟨R, 1, none⟩ = some s ∧ OS w' T.args s (fun b => R < b)

/-- The state: where all that waits is filled the root holds the whole. -/
structure EInv (w : World) (U : Nat → Prop) (st : List Job) (R : Nat) (T : Ty) : Prop where
  lt : ∀ b, U b → R ≤ b ∧ b < w.heap.size ∧ ∃ cur, w.heap[b]? = some (.cells cur 41 (0, 0))
  root : R < w.heap.size
  loc : ∀ e ∈ st, U e.b ∧ (∃ q, w.cell? ⟨e.b, e.o, none⟩ = some (.int .i64 q)) ∧ (∃ u, w.cell? ⟨e.b, e.o + 1, none⟩ = some u) ∧ e.o % 2 = 0
  apart : ∀ (i j : Nat) (e f : Job), st[i]? = some e → st[j]? = some f → i ≠ j → ¬ (e.b = f.b ∧ e.o = f.o)
  wand : ∀ w', Filled' w w' U st → RootDone w' R T

theorem EInv.start {w : World} {R : Nat} {t : Ty} (h : w.heap[R]? = some (.cells #[.int .i64 0, .slice none 0 0] 41 (0, 0))) : EInv w (fun b => b = R) [⟨t, R, 0⟩] R t.erase := by
  have hlt := (Array.getElem?_eq_some_iff.1 h).1
  refine ⟨fun b hb => by subst hb; exact ⟨Nat.le_refl _, hlt, _, h⟩, hlt, fun e he => ?_, fun i j e f hi hj hij => ?_, fun w' hf => ?_⟩
  · simp only [List.mem_singleton] at he
    subst he
    exact ⟨rfl, ⟨0, by simp [World.cell?, h]⟩, ⟨.slice none 0 0, by simp [World.cell?, h]⟩, rfl⟩
  · have h1 := (List.getElem?_eq_some_iff.1 hi).1
    have h2 := (List.getElem?_eq_some_iff.1 hj).1
    simp only [List.length_singleton] at h1 h2
    omega
  · obtain ⟨G, h1, h2, _⟩ := hf.full
    obtain ⟨s', e1, e2, e3⟩ := h1 0 _ rfl
    exact ⟨s', e1, e2, e3.mono (fun b hb => Nat.lt_of_lt_of_le hlt (h2 0 b (by simp) hb))⟩

theorem EInv.done {w : World} {U : Nat → Prop} {R : Nat} {T : Ty} (h : EInv w U [] R T) : RootDone w R T :=
  h.wand w ⟨Nat.le_refl _, fun _ _ _ _ => rfl, fun _ _ cur hc => ⟨cur, hc, rfl⟩, fun _ _ => False, fun i e hi => by simp at hi, fun i z hi => by simp at hi, fun i j z hi => by simp at hi⟩

theorem EInv.frame {w w2 : World} {U : Nat → Prop} {st : List Job} {R : Nat} {T : Ty} (h : EInv w U st R T) (hs : w.heap.size ≤ w2.heap.size) (hU : ∀ c, U c → w2.heap[c]? = w.heap[c]?) : EInv w2 U st R T := by
  have hc : ∀ c q, U c → w2.cell? ⟨c, q, none⟩ = w.cell? ⟨c, q, none⟩ := fun c q hc => World.cell?_of_block (hU c hc)
  refine ⟨fun b hb => ?_, Nat.lt_of_lt_of_le h.root hs, fun e he => ?_, h.apart, fun w' hf => h.wand w' ⟨Nat.le_trans hs hf.size, fun b hb o ho => (hf.same b hb o ho).trans (hc b o hb), fun b hb cur hcur => hf.shape b hb cur ((hU b hb).trans hcur), ?_⟩⟩
  · obtain ⟨h1, h2, cur, h3⟩ := h.lt b hb
    exact ⟨h1, Nat.lt_of_lt_of_le h2 hs, cur, (hU b hb).trans h3⟩
  · obtain ⟨h1, ⟨q, h2⟩, ⟨u, h3⟩, h4⟩ := h.loc e he
    exact ⟨h1, ⟨q, (hc _ _ h1).trans h2⟩, ⟨u, (hc _ _ h1).trans h3⟩, h4⟩
  · obtain ⟨G, g1, g2, g3⟩ := hf.full
    exact ⟨G, g1, fun i z hi hz => Nat.le_trans hs (g2 i z hi hz), g3⟩

/-- The new places in a row: one for each part. -/
def kidsOf (b : Nat) (ys : List Ty) : List Job := ys.mapIdx fun j y => ⟨y, b, j * 2⟩
theorem kidsOf_length (b : Nat) (ys : List Ty) : (kidsOf b ys).length = ys.length := by simp [kidsOf]
theorem kidsOf_at {b : Nat} {ys : List Ty} {j : Nat} {e : Job} (h : (kidsOf b ys)[j]? = some e) : ∃ y, ys[j]? = some y ∧ e = ⟨y, b, j * 2⟩ := by
  simp only [kidsOf, List.getElem?_mapIdx, Option.map_eq_some_iff] at h
  obtain ⟨y, h1, h2⟩ := h
  exact ⟨y, h1, h2.symm⟩
theorem kidsOf_get {b : Nat} {ys : List Ty} {j : Nat} {y : Ty} (h : ys[j]? = some y) : (kidsOf b ys)[j]? = some ⟨y, b, j * 2⟩ := by
  simp [kidsOf, List.getElem?_mapIdx, h]
theorem kidsOf_mem {b : Nat} {ys : List Ty} {e : Job} (h : e ∈ kidsOf b ys) : e.b = b ∧ e.o % 2 = 0 ∧ ∃ j y, ys[j]? = some y ∧ e = ⟨y, b, j * 2⟩ := by
  obtain ⟨j, hj⟩ := List.getElem?_of_mem h
  obtain ⟨y, hy, rfl⟩ := kidsOf_at hj
  exact ⟨rfl, by simp, j, y, hy, rfl⟩

section
variable {w wn : World} {U : Nat → Prop} {st0 : List Job} {x y : Ty} {b o R : Nat} {T : Ty}

/-- The place that is filled next is none of the others. -/
theorem EInv.other (h : EInv w U (st0 ++ [⟨x, b, o⟩]) R T) : Free st0 b o ∧ Free st0 b (o + 1) := by
  have key : ∀ q, q = o ∨ q = o + 1 → Free st0 b q := by
    intro q hq e he hh
    obtain ⟨i, hi⟩ := List.getElem?_of_mem he
    have hil := (List.getElem?_eq_some_iff.1 hi).1
    have h1 := h.apart i st0.length e ⟨x, b, o⟩ (by rw [List.getElem?_append_left hil]; exact hi) (by simp) (by omega)
    have h2 := (h.loc e (List.mem_append_left _ he)).2.2.2
    have h3 := (h.loc ⟨x, b, o⟩ (by simp)).2.2.2
    simp only at h3
    exact h1 ⟨hh.1, by simp only; omega⟩
  exact ⟨key o (Or.inl rfl), key (o + 1) (Or.inr rfl)⟩

/-- A place is filled with a row of places. -/
theorem EInv.node (h : EInv w U (st0 ++ [⟨x, b, o⟩]) R T) (hy : x.erase = .mk y.kind (y.args.map Ty.erase)) (hsz : w.heap.size ≤ wn.heap.size)
    (hsame : ∀ c, U c → ∀ q, ¬ (c = b ∧ (q = o ∨ q = o + 1)) → wn.cell? ⟨c, q, none⟩ = w.cell? ⟨c, q, none⟩)
    (hshape : ∀ c, U c → ∀ cur : Array Value, w.heap[c]? = some (.cells cur 41 (0, 0)) → ∃ cur' : Array Value, wn.heap[c]? = some (.cells cur' 41 (0, 0)) ∧ cur'.size = cur.size)
    (hk : wn.cell? ⟨b, o, none⟩ = some (.int .i64 y.kind)) {b' cc : Nat} {KK : Nat → Int} {SS0 : Nat → Value} (hb' : w.heap.size ≤ b') (hrow : Row wn b' y.args.length cc KK SS0) (hm : cc ≤ maxLen)
    (ha : wn.cell? ⟨b, o + 1, none⟩ = some (.slice (some ⟨b', 0, none⟩) y.args.length cc)) :
    EInv wn (fun c => U c ∨ c = b') (st0 ++ kidsOf b' y.args) R T := by
  obtain ⟨hf0, hf1⟩ := h.other
  have hUb : U b := (h.loc ⟨x, b, o⟩ (by simp)).1
  have hne : ∀ c, U c → c ≠ b' := fun c hc e => by have := (h.lt c hc).2.1; omega
  have hb'n := hrow.lt
  refine ⟨fun c hc => ?_, Nat.lt_of_lt_of_le h.root hsz, fun e he => ?_, fun i j e f hi hj hij hh => ?_, fun w' hf => h.wand w' ⟨Nat.le_trans hsz hf.size, fun c hc q hq => ?_, fun c hc cur hcur => ?_, ?_⟩⟩
  · rcases hc with hc | rfl
    · obtain ⟨h1, h2, cur, h3⟩ := h.lt c hc
      obtain ⟨cur', h4, _⟩ := hshape c hc cur h3
      exact ⟨h1, Nat.lt_of_lt_of_le h2 hsz, cur', h4⟩
    · obtain ⟨cur, h1, _⟩ := hrow
      exact ⟨by have := h.root; omega, hb'n, cur, h1⟩
  · rcases List.mem_append.1 he with he | he
    · obtain ⟨h1, ⟨q, h2⟩, ⟨u, h3⟩, h4⟩ := h.loc e (List.mem_append_left _ he)
      have hd : ¬ (e.b = b ∧ (e.o = o ∨ e.o = o + 1)) ∧ ¬ (e.b = b ∧ (e.o + 1 = o ∨ e.o + 1 = o + 1)) := by
        have g0 := hf0 e he
        have g1 := hf1 e he
        have h5 := (h.loc ⟨x, b, o⟩ (by simp)).2.2.2
        simp only at h5
        constructor <;> rintro ⟨e1, e2⟩ <;> omega
      exact ⟨Or.inl h1, ⟨q, (hsame _ h1 _ hd.1).trans h2⟩, ⟨u, (hsame _ h1 _ hd.2).trans h3⟩, h4⟩
    · obtain ⟨h1, h2, j, z, hz, rfl⟩ := kidsOf_mem he
      have hj := (List.getElem?_eq_some_iff.1 hz).1
      exact ⟨Or.inr rfl, ⟨_, hrow.kind hj⟩, ⟨_, hrow.args hj⟩, h2⟩
  · by_cases hi0 : i < st0.length
    · rw [List.getElem?_append_left hi0] at hi
      by_cases hj0 : j < st0.length
      · rw [List.getElem?_append_left hj0] at hj
        exact h.apart i j e f (by rw [List.getElem?_append_left hi0]; exact hi) (by rw [List.getElem?_append_left hj0]; exact hj) hij hh
      · rw [List.getElem?_append_right (by omega)] at hj
        obtain ⟨z, _, rfl⟩ := kidsOf_at hj
        exact hne _ (h.loc e (List.mem_append_left _ (List.mem_of_getElem? hi))).1 hh.1
    · rw [List.getElem?_append_right (by omega)] at hi
      obtain ⟨z, _, rfl⟩ := kidsOf_at hi
      by_cases hj0 : j < st0.length
      · rw [List.getElem?_append_left hj0] at hj
        exact hne _ (h.loc f (List.mem_append_left _ (List.mem_of_getElem? hj))).1 hh.1.symm
      · rw [List.getElem?_append_right (by omega)] at hj
        obtain ⟨z2, _, rfl⟩ := kidsOf_at hj
        have := hh.2
        simp only at this
        omega
  · rw [hf.same c (Or.inl hc) q (fun e he hh => ?_)]
    · exact hsame c hc q (fun hh => hq ⟨x, b, o⟩ (by simp) ⟨hh.1.symm, hh.2⟩)
    · rcases List.mem_append.1 he with he | he
      · exact hq e (List.mem_append_left _ he) hh
      · exact hne c hc ((kidsOf_mem he).1 ▸ hh.1).symm
  · obtain ⟨cur', h1, h2⟩ := hshape c hc cur hcur
    obtain ⟨cur'', h3, h4⟩ := hf.shape c (Or.inl hc) cur' h1
    exact ⟨cur'', h3, h4.trans h2⟩
  · obtain ⟨G, g1, g2, g3⟩ := hf.full
    have hlen : (st0 ++ kidsOf b' y.args).length = st0.length + y.args.length := by rw [List.length_append, kidsOf_length]
    have freeK : ∀ q, Free st0 b q → Free (st0 ++ kidsOf b' y.args) b q := fun q hq e he hh => by
      rcases List.mem_append.1 he with he | he
      · exact hq e he hh
      · exact hne b hUb ((kidsOf_mem he).1 ▸ hh.1).symm
    have kid : ∀ j z, y.args[j]? = some z → ∃ s, w'.cell? ⟨b', j * 2, none⟩ = some (.int .i64 z.erase.kind) ∧ w'.cell? ⟨b', j * 2 + 1, none⟩ = some s ∧ OS w' z.erase.args s (G (st0.length + j)) := by
      intro j z hz
      have := g1 (st0.length + j) ⟨z, b', j * 2⟩ (by rw [List.getElem?_append_right (by omega), show st0.length + j - st0.length = j by omega]; exact kidsOf_get hz)
      exact this
    obtain ⟨cur0, r1, r2, r3, _⟩ := hrow
    obtain ⟨cur', c1, c2⟩ := hf.shape b' (Or.inr rfl) cur0 r1
    classical
    let S : Nat → Value := fun j => if hj : j < y.args.length then Classical.choose (kid j y.args[j] (List.getElem?_eq_getElem hj)) else .slice none 0 0
    have hS : ∀ j z, y.args[j]? = some z → w'.cell? ⟨b', j * 2, none⟩ = some (.int .i64 z.erase.kind) ∧ w'.cell? ⟨b', j * 2 + 1, none⟩ = some (S j) ∧ OS w' z.erase.args (S j) (G (st0.length + j)) := by
      intro j z hz
      obtain ⟨hj, rfl⟩ := List.getElem?_eq_some_iff.1 hz
      have e : S j = Classical.choose (kid j y.args[j] (List.getElem?_eq_getElem hj)) := dif_pos hj
      rw [e]
      exact Classical.choose_spec (kid j y.args[j] (List.getElem?_eq_getElem hj))
    refine ⟨fun i => if i < st0.length then G i else fun z => z = b' ∨ ∃ j, j < y.args.length ∧ G (st0.length + j) z, fun i e hi => ?_, fun i z hi hz => ?_, fun i j z hi hj hij hz1 hz2 => ?_⟩
    · by_cases hi0 : i < st0.length
      · simp only [if_pos hi0]
        rw [List.getElem?_append_left hi0] at hi
        exact g1 i e (by rw [List.getElem?_append_left hi0]; exact hi)
      · simp only [if_neg hi0]
        rw [List.getElem?_append_right (by omega)] at hi
        have hi1 : i - st0.length = 0 := by
          have := (List.getElem?_eq_some_iff.1 hi).1
          simp at this
          omega
        rw [hi1] at hi
        simp at hi
        subst hi
        refine ⟨.slice (some ⟨b', 0, none⟩) y.args.length cc, ?_, ?_, ?_⟩
        · rw [hf.same b (Or.inl hUb) o (freeK o hf0), hk, hy]; rfl
        · rw [hf.same b (Or.inl hUb) (o + 1) (freeK _ hf1), ha]
        · rw [hy]
          have hl : (y.args.map Ty.erase).length = y.args.length := List.length_map _
          have key := OS.row (w := w') (ts := y.args.map Ty.erase) (b := b') (c := cc) (F := fun z => z = b' ∨ ∃ j, j < y.args.length ∧ G (st0.length + j) z)
            (fun j => ((y.args.map Ty.erase)[j]?.getD (.mk 0 [])).kind) S (fun j => G (st0.length + j)) ?_ hm (Or.inl rfl) (fun j z hz => by rw [hz]; rfl) (fun j z hz => ?_) (fun j z hj hz => ?_) (fun i j z hi hj hij h1 h2 => ?_)
          · rw [hl] at key
            exact key
          · refine ⟨cur', c1, by rw [c2, r2], by rw [hl]; exact r3, fun j hj => ?_⟩
            rw [hl] at hj
            obtain ⟨e1, e2, _⟩ := hS j _ (List.getElem?_eq_getElem hj)
            rw [cell_of_blk' c1] at e1 e2
            refine ⟨?_, e2⟩
            rw [e1]
            simp [hj]
          · rw [List.getElem?_map, Option.map_eq_some_iff] at hz
            obtain ⟨z', hz', rfl⟩ := hz
            exact (hS j z' hz').2.2
          · rw [hl] at hj
            have := g2 (st0.length + j) z (by omega) hz
            exact ⟨Or.inr ⟨j, hj, hz⟩, by omega⟩
          · rw [hl] at hi hj
            exact g3 _ _ z (by omega) (by omega) (by omega) h1 h2
    · by_cases hi0 : i < st0.length
      · simp only [if_pos hi0] at hz
        exact Nat.le_trans hsz (g2 i z (by omega) hz)
      · simp only [if_neg hi0] at hz
        rcases hz with rfl | ⟨j, hj, hz⟩
        · exact hb'
        · exact Nat.le_trans hsz (g2 _ z (by omega) hz)
    · rw [List.length_append, List.length_singleton] at hi hj
      by_cases hi0 : i < st0.length
      · simp only [if_pos hi0] at hz1
        have hj0 : j < st0.length ∨ j = st0.length := by omega
        rcases hj0 with hj0 | rfl
        · simp only [if_pos hj0] at hz2
          exact g3 i j z (by omega) (by omega) hij hz1 hz2
        · simp only [Nat.lt_irrefl, if_false] at hz2
          rcases hz2 with rfl | ⟨m, hm', hz2⟩
          · have := g2 i z (by omega) hz1
            omega
          · exact g3 i _ z (by omega) (by omega) (by omega) hz1 hz2
      · have hi1 : i = st0.length := by omega
        subst hi1
        simp only [Nat.lt_irrefl, if_false] at hz1
        have hj0 : j < st0.length := by omega
        simp only [if_pos hj0] at hz2
        rcases hz1 with rfl | ⟨m, hm', hz1⟩
        · have := g2 j z (by omega) hz2
          omega
        · exact g3 _ j z (by omega) (by omega) (by omega) hz1 hz2

/-- A place is filled with a type without parts. -/
theorem EInv.leaf (h : EInv w U (st0 ++ [⟨x, b, o⟩]) R T) (hy : x.erase = .mk y.kind []) (hsz : w.heap.size ≤ wn.heap.size)
    (hsame : ∀ c, U c → ∀ q, ¬ (c = b ∧ (q = o ∨ q = o + 1)) → wn.cell? ⟨c, q, none⟩ = w.cell? ⟨c, q, none⟩)
    (hshape : ∀ c, U c → ∀ cur : Array Value, w.heap[c]? = some (.cells cur 41 (0, 0)) → ∃ cur' : Array Value, wn.heap[c]? = some (.cells cur' 41 (0, 0)) ∧ cur'.size = cur.size)
    (hk : wn.cell? ⟨b, o, none⟩ = some (.int .i64 y.kind)) (ha : wn.cell? ⟨b, o + 1, none⟩ = some (.slice none 0 0)) : EInv wn U st0 R T := by
  obtain ⟨hf0, hf1⟩ := h.other
  have hUb : U b := (h.loc ⟨x, b, o⟩ (by simp)).1
  refine ⟨fun c hc => ?_, Nat.lt_of_lt_of_le h.root hsz, fun e he => ?_, fun i j e f hi hj hij => ?_, fun w' hf => h.wand w' ⟨Nat.le_trans hsz hf.size, fun c hc q hq => ?_, fun c hc cur hcur => ?_, ?_⟩⟩
  · obtain ⟨h1, h2, cur, h3⟩ := h.lt c hc
    obtain ⟨cur', h4, _⟩ := hshape c hc cur h3
    exact ⟨h1, Nat.lt_of_lt_of_le h2 hsz, cur', h4⟩
  · obtain ⟨h1, ⟨q, h2⟩, ⟨u, h3⟩, h4⟩ := h.loc e (List.mem_append_left _ he)
    have hd : ¬ (e.b = b ∧ (e.o = o ∨ e.o = o + 1)) ∧ ¬ (e.b = b ∧ (e.o + 1 = o ∨ e.o + 1 = o + 1)) := by
      have g0 := hf0 e he
      have g1 := hf1 e he
      have h5 := (h.loc ⟨x, b, o⟩ (by simp)).2.2.2
      simp only at h5
      constructor <;> rintro ⟨e1, e2⟩ <;> omega
    exact ⟨h1, ⟨q, (hsame _ h1 _ hd.1).trans h2⟩, ⟨u, (hsame _ h1 _ hd.2).trans h3⟩, h4⟩
  · have hi0 := (List.getElem?_eq_some_iff.1 hi).1
    have hj0 := (List.getElem?_eq_some_iff.1 hj).1
    exact h.apart i j e f (by rw [List.getElem?_append_left hi0]; exact hi) (by rw [List.getElem?_append_left hj0]; exact hj) hij
  · rw [hf.same c hc q (fun e he hh => hq e (List.mem_append_left _ he) hh)]
    exact hsame c hc q (fun hh => hq ⟨x, b, o⟩ (by simp) ⟨hh.1.symm, hh.2⟩)
  · obtain ⟨cur', h1, h2⟩ := hshape c hc cur hcur
    obtain ⟨cur'', h3, h4⟩ := hf.shape c hc cur' h1
    exact ⟨cur'', h3, h4.trans h2⟩
  · obtain ⟨G, g1, g2, g3⟩ := hf.full
    refine ⟨fun i => if i < st0.length then G i else fun _ => False, fun i e hi => ?_, fun i z hi hz => ?_, fun i j z hi hj hij hz1 hz2 => ?_⟩
    · by_cases hi0 : i < st0.length
      · simp only [if_pos hi0]
        rw [List.getElem?_append_left hi0] at hi
        exact g1 i e hi
      · simp only [if_neg hi0]
        rw [List.getElem?_append_right (by omega)] at hi
        have hi1 : i - st0.length = 0 := by
          have := (List.getElem?_eq_some_iff.1 hi).1
          simp at this
          omega
        rw [hi1] at hi
        simp at hi
        subst hi
        refine ⟨.slice none 0 0, ?_, ?_, ?_⟩
        · rw [hf.same b hUb o hf0, hk, hy]; rfl
        · rw [hf.same b hUb (o + 1) hf1, ha]
        · rw [hy]; exact .none _
    · by_cases hi0 : i < st0.length
      · simp only [if_pos hi0] at hz
        exact Nat.le_trans hsz (g2 i z hi0 hz)
      · simp only [if_neg hi0] at hz
    · by_cases hi0 : i < st0.length
      · by_cases hj0 : j < st0.length
        · simp only [if_pos hi0] at hz1
          simp only [if_pos hj0] at hz2
          exact g3 i j z hi0 hj0 hij hz1 hz2
        · simp only [if_neg hj0] at hz2
      · simp only [if_neg hi0] at hz1
end
end Go.Proofs.Yteoeefmdfalnjaa
/- SpecEq: The contract of the model's EqualType. -/
namespace Go.Proofs.Yteoeefmdfalnjaa
open Go Go.RowKit

theorem keep6 {w W w1 : World} {p1 p2 p3 p4 p5 p6 : Addr} {v1 v2 v3 v4 v5 v6 : Value} (hb1 : Below W.heap.size W w1) (h : W.cell? p1 = some v1 ∧ W.cell? p2 = some v2 ∧ W.cell? p3 = some v3 ∧ W.cell? p4 = some v4 ∧ W.cell? p5 = some v5 ∧ W.cell? p6 = some v6 ∧ Below w.heap.size w W) :
    w1.cell? p1 = some v1 ∧ w1.cell? p2 = some v2 ∧ w1.cell? p3 = some v3 ∧ w1.cell? p4 = some v4 ∧ w1.cell? p5 = some v5 ∧ w1.cell? p6 = some v6 ∧ Below w.heap.size w w1 := by
  have k : ∀ {p : Addr} {v : Value}, W.cell? p = some v → w1.cell? p = some v := fun h => (hb1.cell (World.block_lt_of_cell? W _ h)).trans h
  exact ⟨k h.1, k h.2.1, k h.2.2.1, k h.2.2.2.1, k h.2.2.2.2.1, k h.2.2.2.2.2.1, h.2.2.2.2.2.2.trans (hb1.mono h.2.2.2.2.2.2.size)⟩

end Go.Proofs.Yteoeefmdfalnjaa
/- RangeT: A range over an iterator that keeps memory of its own and reads what the caller laid: what iterator and body owe each other, and the loop's law. Of no program. -/
namespace Go.Proofs.Yteoeefmdfalnjaa
open Go Go.RowKit

/-- Every block but those of Cb is as it was. -/
def Holds (Cb : Nat → Prop) (w w' : World) : Prop := w.heap.size ≤ w'.heap.size ∧ ∀ b, b < w.heap.size → ¬ Cb b → w'.heap[b]? = w.heap[b]?
theorem Holds.refl (Cb : Nat → Prop) (w : World) : Holds Cb w w := ⟨Nat.le_refl _, fun _ _ _ => rfl⟩
theorem Holds.trans {Cb : Nat → Prop} {a b c : World} (h : Holds Cb a b) (k : Holds Cb b c) : Holds Cb a c :=
  ⟨Nat.le_trans h.1 k.1, fun i hi hc => (k.2 i (Nat.lt_of_lt_of_le hi h.1) hc).trans (h.2 i hi hc)⟩
theorem Holds.of_below {Cb : Nat → Prop} {w w' : World} (h : Below w.heap.size w w') : Holds Cb w w' := ⟨h.size, fun b hb _ => h.block b hb⟩
theorem Holds.setCell {Cb : Nat → Prop} {w w' : World} (h : Holds Cb w w') (p : Addr) (hp : Cb p.block) (v : Value) : Holds Cb w (w'.setCell p v) :=
  h.trans ⟨((Below.refl p.block w').setCell (Nat.le_refl _) v).size, fun b _ hc => Below.heap_setCell _ _ _ _ (fun e => hc (by rw [e]; exact hp))⟩

/-- What an iterator owes: each of 'all' comes in order, until the body says no. J: what the body keeps between two rounds; it does not mind what happens in blocks from the iterator's start on. -/
def SeqT {α β : Type} (F : Fence) (n : Nat) (P : Program) (g : Nat) (lb : Array Value) (encs : α → Array Value) (key : α → β) (Good : α → World → Prop) (Cb : Nat → Prop) (all : List β) (w : World) : Prop :=
  ∀ (l : Nat) (J Jx : List β → World → Prop) (W : World), Below w.heap.size w W → (∀ pre A B, J pre A → Below W.heap.size A B → J pre B) →
    (∀ pre x W1, J pre W1 → pre ++ [key x] <+: all → Good x W1 → YieldAt F (n - 1) P l (encs x) W1 fun e W' =>
      (e = .returned (.bool true) ∧ J (pre ++ [key x]) W' ∧ Holds Cb W1 W') ∨ (e = .returned (.bool false) ∧ Jx (pre ++ [key x]) W')) →
    J [] W →
    CallsIn F n P g (#[.func (.yield l) #[] #[]] ++ lb) W fun e W' => (∃ v, e = .returned v) ∧ (J all W' ∨ ∃ pre, pre <+: all ∧ Jx pre W')

/-- How a round's body may be left. -/
def postT {β : Type} (Cb : Nat → Prop) (I : List β → World → Prop) (Ix : Code → List β → World → Prop) (xs : List β) (W : World) : Exit → Act → World → Prop
  | .normal, _, W' => Holds Cb W W' ∧ I xs W'
  | .ret, _, W' => Holds Cb W W' ∧ Ix .ret xs W'
  | .exit id, _, W' => Holds Cb W W' ∧ Ix (.exit id) xs W'
  | .goto t, _, W' => Holds Cb W W' ∧ Ix (.goto t) xs W'
  | .panic _, _, _ => False
  | .outgrown, _, _ => False

theorem below_putObj (n : Nat) (W : World) (l : Nat) (o : Obj) (h : n ≤ l) : Below n W (W.putObj l o) :=
  ⟨rfl, rfl, rfl, by simp, fun k hk => World.putObj_heap_other (by omega)⟩

variable {F : Fence} {n : Nat} {P : Program}

/-- THE LOOP OVER SUCH AN ITERATOR. -/
theorem range_law {α β : Type} {g : Operand} {ps : Array Tmp} {assign body : Code} {Q : Exit → Act → World → Prop} {a : Act} {w : World}
    (hro : F.round = none) (h1 : 1 ≤ n) {gf : Nat} {lb : Array Value} (hg : a.eval g = .func (.func gf) #[] lb) (hFg : F.fn gf) (eg : ∀ args w, (callFunc gf args).run P w = .ok (.enter gf args) w)
    {encs : α → Array Value} {key : α → β} {Good : α → World → Prop} {Cb : Nat → Prop} {all : List β} (hseq : SeqT F (n - 1) P gf lb encs key Good Cb all w) (hps : ∀ x, (encs x).size = ps.size) (hCb : ∀ b, Cb b → b < w.heap.size)
    (I : List β → World → Prop) (Ix : Code → List β → World → Prop) (hI : ∀ pre A B, I pre A → Below w.heap.size A B → I pre B) (hIx : ∀ c pre A B, Ix c pre A → Below w.heap.size A B → Ix c pre B)
    (hG : ∀ x A B, Good x A → Below w.heap.size A B → Good x B) (h0 : I [] w)
    (Ax : α → Act → World → Prop) (hAx : ∀ x a' W l r o, Ax x a' W → W.heap[l]? = some (.loop r) → Ax x a' (W.putObj l o))
    (hassign : ∀ (l : Nat) (x : α) (W : World) (K : Act → World → Prop), Good x W → (∀ a' W', Below W.heap.size W W' → Ax x a' W' → K a' W') →
      assign.wpIn (F.inRound l) (n - 1 - 1) P (Exit.then K (fun _ _ _ => False)) { tmps := (ps.zip (encs x)).foldl (fun t (p, v) => t.setIfInBounds p v) a.tmps, defers := [] } W)
    (hbody : ∀ (l : Nat) (pre : List β) (x : α) (a' : Act) (W : World), I pre W → pre ++ [key x] <+: all → Good x W → Ax x a' W → body.wpIn (F.inRound l) (n - 1 - 1) P (postT Cb I Ix (pre ++ [key x]) W) a' W)
    (hdone : ∀ (D : Nat) (W : World), w.heap.size ≤ D → I all W → W.heap[D]? = some (.deferred (some [])) → Q .normal { a with defers := { target := .collected D, args := #[] } :: a.defers } W)
    (hstop : ∀ (D : Nat) (c : Code) (pre : List β) (W : World), w.heap.size ≤ D → pre <+: all → Ix c pre W → W.heap[D]? = some (.deferred (some [])) → c.wpIn F n P Q { a with defers := { target := .collected D, args := #[] } :: a.defers } W) :
    (Code.rangeFunc g ps assign body).wpIn F n P Q a w := by
  refine wpIn_rangeFunc (fun fn hfn => ?_)
  rw [hro]
  -- the record of the loop, in its three states
  let rec_ : LoopState → Option Code → Loop := fun st pe => { state := st, pending := pe, fn, tmps := a.tmps, params := ps, assign, body, defers := w.heap.size }
  let w1 := (w.alloc (.deferred (some []))).alloc (.loop (rec_ .ready none))
  have hs1 : w1.heap.size = w.heap.size + 2 := by simp [w1]
  have hb1 : Below w.heap.size w w1 := ((Below.refl _ w).alloc (Nat.le_refl _) _).alloc (by simp) _
  have hl1 : w1.heap[w.heap.size + 1]? = some (.loop (rec_ .ready none)) := by
    have := World.alloc_heap_new (w.alloc (.deferred (some []))) (.loop (rec_ .ready none))
    rwa [World.size_alloc] at this
  have hd1 : w1.heap[w.heap.size]? = some (.deferred (some [])) := (Below.heap_alloc _ _ _ (by simp)).trans (World.alloc_heap_new w _)
  refine ⟨w.heap.size + 1, [{ target := .collected w.heap.size, args := #[] }], w1, { target := .fn (.func gf) lb, args := #[.func (.yield (w.heap.size + 1)) #[] #[]] }, w1, gf,
    #[.func (.yield (w.heap.size + 1)) #[] #[]] ++ lb, w1, run_enterLoop_outer _ _ _ _ _, by simp only [resolve, hg]; simp [go_sem], fun f' hf' => by simp [Target.leads] at hf'; subst hf'; exact hFg, by simp [invoke, go_sem, eg], fun _ => h1, ?_⟩
  have still : ∀ {A B : World} {k : Nat} {o : Obj}, Below w1.heap.size A B → k < w1.heap.size → A.heap[k]? = some o → B.heap[k]? = some o := fun hb hk h => (hb.block _ hk).trans h
  refine (hseq (w.heap.size + 1)
    (fun pre W => I pre W ∧ W.heap[w.heap.size + 1]? = some (.loop (rec_ .ready none)) ∧ W.heap[w.heap.size]? = some (.deferred (some [])))
    (fun pre W => ∃ c, Ix c pre W ∧ W.heap[w.heap.size + 1]? = some (.loop (rec_ .done (some c))) ∧ W.heap[w.heap.size]? = some (.deferred (some [])))
    w1 hb1 (fun pre A B h hb => ⟨hI pre A B h.1 (hb.mono (by omega)), still hb (by omega) h.2.1, still hb (by omega) h.2.2⟩) ?_ ⟨hI _ _ _ h0 hb1, hl1, hd1⟩).mono ?_
  · -- one round
    rintro pre x W ⟨hi, hl, hd⟩ hpre hgood
    have hy := run_yield (P := P) (args := encs x) hl (hps x)
    refine ⟨fn, _, assign, body, hy, roundIn_of_wpIn hfn (hassign _ x W _ hgood (fun a' Wa hba hax => ?_))⟩
    have hlt : w.heap.size + 1 < W.heap.size := (Array.getElem?_eq_some_iff.1 hl).1
    have hla : Wa.heap[w.heap.size + 1]? = some (.loop (rec_ .ready none)) := (hba.block _ hlt).trans hl
    have hda : Wa.heap[w.heap.size]? = some (.deferred (some [])) := (hba.block _ (by omega)).trans hd
    refine ⟨_, run_beginRound hla rfl, ?_⟩
    have hlta : w.heap.size + 1 < Wa.heap.size := (Array.getElem?_eq_some_iff.1 hla).1
    let busy : Loop := { rec_ .ready none with state := .busy }
    let Wb := Wa.putObj (w.heap.size + 1) (.loop busy)
    have hbb : Below w.heap.size Wa Wb := below_putObj _ _ _ _ (by omega)
    have hlb : Wb.heap[w.heap.size + 1]? = some (.loop busy) := World.putObj_heap_same hlta
    have hdb : Wb.heap[w.heap.size]? = some (.deferred (some [])) := (World.putObj_heap_other (by omega)).trans hda
    have hbwb := (hba.mono (Nat.le_of_lt (by omega : w.heap.size < W.heap.size))).trans hbb
    refine wpIn_mono (hbody _ pre x a' Wb (hI _ _ _ hi hbwb) hpre (hG _ _ _ hgood hbwb) (hAx _ _ _ _ _ _ hax hla)) ?_
    have fin : ∀ (jump : Option Code) (W3 : World), Holds Cb Wb W3 →
        (Instr.endRound (w.heap.size + 1) jump).run P W3 = .ok (.bool jump.isNone) (W3.putObj (w.heap.size + 1) (.loop (rec_ (if jump.isNone then .ready else .done) jump))) ∧
        Below w.heap.size W3 (W3.putObj (w.heap.size + 1) (.loop (rec_ (if jump.isNone then .ready else .done) jump))) ∧
        (W3.putObj (w.heap.size + 1) (.loop (rec_ (if jump.isNone then .ready else .done) jump))).heap[w.heap.size + 1]? = some (.loop (rec_ (if jump.isNone then .ready else .done) jump)) ∧
        (W3.putObj (w.heap.size + 1) (.loop (rec_ (if jump.isNone then .ready else .done) jump))).heap[w.heap.size]? = some (.deferred (some [])) := fun jump W3 hk => by
      have hwb : Wb.heap.size = Wa.heap.size := by simp [Wb]
      have h3 : W3.heap[w.heap.size + 1]? = some (.loop busy) := (hk.2 _ (by omega) (fun hc => by have := hCb _ hc; omega)).trans hlb
      have hd3 : W3.heap[w.heap.size]? = some (.deferred (some [])) := (hk.2 _ (by omega) (fun hc => by have := hCb _ hc; omega)).trans hdb
      exact ⟨run_endRound (P := P) jump h3, below_putObj _ _ _ _ (by omega), World.putObj_heap_same (Array.getElem?_eq_some_iff.1 h3).1, (World.putObj_heap_other (by omega)).trans hd3⟩
    have whole : ∀ W3, Holds Cb Wb W3 → Holds Cb W (W3.putObj (w.heap.size + 1) (.loop (rec_ .ready none))) := fun W3 hk => by
      have hwb : Wb.heap.size = Wa.heap.size := by simp [Wb]
      have hsz := hba.size
      refine ⟨by have := hk.1; simp; omega, fun b hb hc => ?_⟩
      by_cases e : b = w.heap.size + 1
      · subst e
        rw [World.putObj_heap_same (by have := hk.1; omega)]; exact hl.symm
      · rw [World.putObj_heap_other e, hk.2 b (by omega) hc, World.putObj_heap_other e, hba.block b hb]
    rintro e a3 W3 hp
    cases e with
    | normal =>
      obtain ⟨hk, hi3⟩ := hp
      obtain ⟨hr, hb3, hl3, hd3⟩ := fin none W3 hk
      exact ⟨_, _, hr, .inl ⟨rfl, ⟨hI _ _ _ hi3 hb3, hl3, hd3⟩, whole W3 hk⟩⟩
    | ret =>
      obtain ⟨hk, hi3⟩ := hp
      obtain ⟨hr, hb3, hl3, hd3⟩ := fin (some .ret) W3 hk
      exact ⟨_, _, hr, .inr ⟨rfl, .ret, hIx _ _ _ _ hi3 hb3, hl3, hd3⟩⟩
    | exit id =>
      obtain ⟨hk, hi3⟩ := hp
      obtain ⟨hr, hb3, hl3, hd3⟩ := fin (some (.exit id)) W3 hk
      exact ⟨_, _, hr, .inr ⟨rfl, .exit id, hIx _ _ _ _ hi3 hb3, hl3, hd3⟩⟩
    | goto t =>
      obtain ⟨hk, hi3⟩ := hp
      obtain ⟨hr, hb3, hl3, hd3⟩ := fin (some (.goto t)) W3 hk
      exact ⟨_, _, hr, .inr ⟨rfl, .goto t, hIx _ _ _ _ hi3 hb3, hl3, hd3⟩⟩
    | panic ch => exact hp.elim
    | outgrown => exact hp.elim
  · -- the iterator has returned
    rintro e W2 ⟨⟨v, rfl⟩, (⟨hi, hl, hd⟩ | ⟨pre, hpre, c, hi, hl, hd⟩)⟩
    · exact ⟨none, _, run_endLoop (P := P) hl (by simp [rec_]), hdone _ _ (Nat.le_refl _) (hI _ _ _ hi (below_putObj _ _ _ _ (by omega))) ((World.putObj_heap_other (by omega)).trans hd)⟩
    · exact ⟨some c, _, run_endLoop (P := P) hl (by simp [rec_]), hstop _ c pre _ (Nat.le_refl _) hpre (hIx _ _ _ _ hi (below_putObj _ _ _ _ (by omega))) ((World.putObj_heap_other (by omega)).trans hd)⟩
end Go.Proofs.Yteoeefmdfalnjaa
