/-
  Several texts of the proof in one (each says below what it holds): SpecTy2 TmSpec Reduce Apply IsName TmNode SpecTy3 TmNode2 TmFields0 TmFieldsSix TmFieldsNine.
-/
import Derived.Test.YtdfnjfelmfccjaaDoorFvg3
import Derived.Test.YtdfnjfelmfccjaaDoorFvg2
import Derived.Test.YtdfnjfelmfccjaaDoorFvg1
import Derived.Test.YtdfnjfelmfccjaaDoorProg
import Derived.WalkSmall
import Derived.Laws.RangeAny
import Derived.LoopTactic
import Derived.Deep.RegionHeld3
/- SpecTy2: The contracts of the model's DepthOfType, l3Form, l3Left, l3Has: what they answer at a type in memory. -/
namespace Go.Proofs.YtdfnjfelmfccjaaDoor
open Go Go.RowKit


set_option maxRecDepth 100000 in
theorem max_any (a b : Int) (w : World) : Calls Tryd.prog 80 #[.int .i64 a, .int .i64 b] w fun e w' => e = .returned (.int .i64 (max a b)) ∧ w' = w := by
  go_enter Tryd.func80, Tryd.ntmps80
  by_cases h : b < a
  · go_wp2
    go_ret
    exact ⟨congrArg (fun z => Ending.returned (.int .i64 z)) (Int.max_eq_left (by omega)).symm, rfl⟩
  · go_wp2
    go_ret
    exact ⟨congrArg (fun z => Ending.returned (.int .i64 z)) (Int.max_eq_right (by omega)).symm, rfl⟩

theorem form_false {q : Int} {ts : List Ty} {k : Nat} (h : k < ts.length) (hf : ts[k].form = false) : (Ty.mk q ts).form = false := by
  have e : formS ts = false := by
    rw [← List.take_append_drop (k + 1) ts, formS_append, take_next h, formS_append]
    simp [formS, hf]
  simp [Ty.form, e]
theorem has_true {q u : Int} {ts : List Ty} {k : Nat} (h : k < ts.length) (hf : ts[k].has u = true) : (Ty.mk q ts).has u = true := by
  have e : hasS u ts = true := by
    rw [← List.take_append_drop (k + 1) ts, hasS_append, take_next h, hasS_append]
    simp [hasS, hf]
  simp [Ty.has, e]
theorem form_kind {q : Int} {ts : List Ty} {b : Bool} (h : formS ts = true) (hb : b = (if q = 1 ∨ q = 2 then ts.length == 0 else if q = 3 then ts.length == 2 else q == 4 && ts.length == 1)) : b = (Ty.mk q ts).form := by
  rw [Ty.form, h, hb, Bool.true_and]
theorem beq_0 (n : Nat) : ((n : Int) == 0) = (n == 0) := by rw [Bool.eq_iff_iff]; simp only [beq_iff_eq]; omega
theorem beq_decide (a b : Nat) : (a == b) = decide (a = b) := by rw [Bool.eq_iff_iff]; simp
theorem beq_1 (n : Nat) : ((n : Int) == 1) = (n == 1) := by rw [Bool.eq_iff_iff]; simp only [beq_iff_eq]; omega
theorem beq_2 (n : Nat) : ((n : Int) == 2) = (n == 2) := by rw [Bool.eq_iff_iff]; simp only [beq_iff_eq]; omega

/-- What is left of a bound behind n nodes; below 0: there were more. -/
def LeftEnds (left : Int) (n : Nat) (r : Int) : Prop := (0 ≤ r ∧ r + n = left) ∨ (r < 0 ∧ -1 ≤ r ∧ left < n) ∨ (r = -1 ∧ left = -1)
theorem LeftEnds.range {left : Int} {n : Nat} {r : Int} (h : LeftEnds left n r) (hl : -1 ≤ left) : -1 ≤ r ∧ r ≤ left := by
  unfold LeftEnds at h
  omega
theorem leftEnds_start {left : Int} (h : 0 ≤ left) : LeftEnds (left - 1) (nodesS ([] : List Ty)) (left - 1) := by
  unfold LeftEnds; simp only [nodesS]; omega
theorem LeftEnds.stop {left L : Int} {ts : List Ty} {k : Nat} (h : LeftEnds (left - 1) (nodesS (ts.take k)) L) (hn : L < 0) (_ : nodesS (ts.take (k + 1)) ≤ nodesS ts) : LeftEnds left (1 + nodesS ts) L := by
  have := nodesS_take_le ts k
  unfold LeftEnds at *; omega
theorem LeftEnds.next {left L r : Int} {n m : Nat} (h : LeftEnds (left - 1) n L) (hr : LeftEnds L m r) (h0 : 0 ≤ L) : LeftEnds (left - 1) (n + m) r := by
  unfold LeftEnds at *; omega
theorem LeftEnds.full {left L : Int} {n : Nat} (h : LeftEnds (left - 1) n L) : LeftEnds left (1 + n) L := by
  unfold LeftEnds at *; omega

set_option maxRecDepth 100000 in
set_option maxHeartbeats 1000000 in
theorem depth_any {w0 : World} {C : Nat → Prop} {ts : List Ty} {v : Value} (h : TS w0 C ts v) : ∀ (w : World) (q : Int), Stays C w0 w → nodesS ts ≤ 2097152 → Calls Tryd.prog 98 #[.agg #[.int .i64 q, v]] w (IntRet (fun r => r = ((1 + depthS ts : Nat) : Int)) w) := by
  refine TS.ind (motive := fun ts v => ∀ (w : World) (q : Int), Stays C w0 w → nodesS ts ≤ 2097152 → Calls Tryd.prog 98 #[.agg #[.int .i64 q, v]] w (IntRet (fun r => r = ((1 + depthS ts : Nat) : Int)) w)) ?_ h
  intro ts p c hl H w q hst hn
  have HH := Lib.hid H
  have HST := Lib.hid hst
  have hlen := nodesS_ge ts
  clear H hst
  go_enter Tryd.func98, Tryd.ntmps98
  go_wp2_with fail
  go_loopw [3, 4] (fun n i wr => ∃ (k : Nat), k ≤ ts.length ∧ i = .int .i64 k ∧ n = .int .i64 ((depthS (ts.take k) : Nat) : Int) ∧ Below (w.alloc (.cells #[.int .i64 q, .slice p ts.length c] 33)).heap.size (w.alloc (.cells #[.int .i64 q, .slice p ts.length c] 33)) wr) (fun _ i _ => ts.length - (intOf i).toNat)
  case atStart => exact ⟨0, Nat.zero_le _, rfl, by simp [depthS], Below.refl _ _⟩
  case round =>
    obtain ⟨k, hk, rfl, rfl, hbr⟩ := hrel
    have HB := Lib.hid hbr
    obtain ⟨d0, d1⟩ := box2 hbr
    clear hbr
    by_cases hlk : k < ts.length
    · obtain ⟨b, o, p', c', rfl, hcs, hT, hI⟩ := HH.out k _ (List.getElem?_eq_getElem hlk)
      have hsr := HST.out.trans (Stays.of_below (C := C) (below_box HB.out))
      obtain ⟨c1, c2⟩ := hcs wr hsr
      have n1 := nodesS_take_next ts k hlk
      have n2 := nodesS_take_le ts (k + 1)
      have n3 := ts[k].nodes_eq
      have m1 := depthS_at ts k hlk
      have m2 := depthS_take_next ts k hlk
      have m3 := depth_at ts[k]
      have b1 : depthS (ts.take k) ≤ 2097152 := by omega
      have b2 : 1 + depthS ts[k].args ≤ 2097152 := by omega
      have HM2 := Lib.hid m2
      have HM3 := Lib.hid m3
      clear m1 m2 m3
      have HC := Lib.hid (hI wr ts[k].kind hsr (by omega))
      have HN1 := Lib.hid n1
      have HN2 := Lib.hid n2
      have HN3 := Lib.hid n3
      clear hcs hT hI hsr n1 n2 n3
      go_wp2_with fail
      refine HC.out.mono ?_
      rintro e w1 ⟨r, hr, rfl, hb1⟩
      have HB1 := Lib.hid (HB.out.trans (hb1.mono HB.out.size))
      clear hb1
      subst hr
      go_wp2_with fail
      refine (max_any _ _ _).mono ?_
      rintro e w2 ⟨rfl, rfl⟩
      go_wp2_with fail
      go_roundw
      case rel => exact ⟨k + 1, by omega, by go_num, by have h1 := HM2.out; have h2 := HM3.out; rw [h1, h2]; go_num, HB1.out⟩
      case measure => simp [intOf]; omega
    · obtain rfl : k = ts.length := by omega
      rw [List.take_length]
      have b3 := depthS_nodes ts
      go_wp2_with fail
      go_ret
      exact ⟨_, rfl, by go_num, below_box HB.out⟩

set_option maxRecDepth 100000 in
set_option maxHeartbeats 1000000 in
theorem form_any {w0 : World} {C : Nat → Prop} {ts : List Ty} {v : Value} (h : TS w0 C ts v) : ∀ (w : World) (q : Int), Stays C w0 w → nodesS ts ≤ 2097152 → Calls Tryd.prog 99 #[.agg #[.int .i64 q, v]] w (BoolRet (fun r => r = (Ty.mk q ts).form) w) := by
  refine TS.ind (motive := fun ts v => ∀ (w : World) (q : Int), Stays C w0 w → nodesS ts ≤ 2097152 → Calls Tryd.prog 99 #[.agg #[.int .i64 q, v]] w (BoolRet (fun r => r = (Ty.mk q ts).form) w)) ?_ h
  intro ts p c hl H w q hst hn
  have HH := Lib.hid H
  have HST := Lib.hid hst
  have hlen := nodesS_ge ts
  clear H hst
  go_enter Tryd.func99, Tryd.ntmps99
  go_wp2_with fail
  go_loopw [3] (fun i wr => ∃ (k : Nat), k ≤ ts.length ∧ i = .int .i64 k ∧ formS (ts.take k) = true ∧ Below (w.alloc (.cells #[.int .i64 q, .slice p ts.length c] 33)).heap.size (w.alloc (.cells #[.int .i64 q, .slice p ts.length c] 33)) wr) (fun i _ => ts.length - (intOf i).toNat)
  case atStart => exact ⟨0, Nat.zero_le _, rfl, by simp [formS], Below.refl _ _⟩
  case round =>
    obtain ⟨k, hk, rfl, hfm, hbr⟩ := hrel
    have HB := Lib.hid hbr
    obtain ⟨d0, d1⟩ := box2 hbr
    clear hbr
    by_cases hlk : k < ts.length
    · obtain ⟨b, o, p', c', rfl, hcs, hT, hI⟩ := HH.out k _ (List.getElem?_eq_getElem hlk)
      have hsr := HST.out.trans (Stays.of_below (C := C) (below_box HB.out))
      obtain ⟨c1, c2⟩ := hcs wr hsr
      have n1 := nodesS_take_next ts k hlk
      have n2 := nodesS_take_le ts (k + 1)
      have n3 := ts[k].nodes_eq
      have HM := Lib.hid hfm
      clear hfm
      have HC := Lib.hid (hI wr ts[k].kind hsr (by omega))
      have HN1 := Lib.hid n1
      have HN2 := Lib.hid n2
      have HN3 := Lib.hid n3
      clear hcs hT hI hsr n1 n2 n3
      go_wp2_with fail
      refine HC.out.mono ?_
      rintro e w1 ⟨r, hr, rfl, hb1⟩
      have HB1 := Lib.hid (HB.out.trans (hb1.mono HB.out.size))
      clear hb1
      have HR := Lib.hid hr
      clear hr
      cases r with
      | true =>
        go_wp2_with fail
        go_roundw
        case rel => exact ⟨k + 1, by omega, by go_num, by rw [take_next hlk, formS_append, HM.out]; simpa [formS, ← Ty.eta] using HR.out.symm, HB1.out⟩
        case measure => simp [intOf]; omega
      | false =>
        go_wp2_with fail
        go_ret
        exact ⟨false, (form_false hlk (by rw [Ty.eta ts[k]]; exact HR.out.symm)).symm, rfl, below_box HB1.out⟩
    · obtain rfl : k = ts.length := by omega
      rw [List.take_length] at hfm
      have HM := Lib.hid hfm
      clear hfm
      by_cases q1 : q = 1
      · subst q1
        go_wp2_with fail
        go_ret
        exact ⟨_, form_kind HM.out (by simp [beq_0]), rfl, below_box HB.out⟩
      by_cases q2 : q = 2
      · subst q2
        go_wp2_with fail
        go_ret
        exact ⟨_, form_kind HM.out (by simp [beq_0]), rfl, below_box HB.out⟩
      by_cases q3 : q = 3
      · subst q3
        go_wp2_with fail
        go_ret
        exact ⟨_, form_kind HM.out (by simp [beq_2]), rfl, below_box HB.out⟩
      by_cases q4 : q = 4
      · subst q4
        go_wp2_with fail
        go_ret
        exact ⟨_, form_kind HM.out (by simp [beq_1]), rfl, below_box HB.out⟩
      go_wp2_with fail
      go_ret
      exact ⟨_, form_kind HM.out (by simp [q1, q2, q3, q4]), rfl, below_box HB.out⟩

set_option maxRecDepth 100000 in
set_option maxHeartbeats 1000000 in
theorem left_any {w0 : World} {C : Nat → Prop} {ts : List Ty} {v : Value} (h : TS w0 C ts v) : ∀ (w : World) (q : Int) (left : Int), Stays C w0 w → nodesS ts ≤ 2097152 → 0 ≤ left → left ≤ 2097152 → Calls Tryd.prog 97 #[.agg #[.int .i64 q, v], .int .i64 left] w (IntRet (LeftEnds left (1 + nodesS ts)) w) := by
  refine TS.ind (motive := fun ts v => ∀ (w : World) (q : Int) (left : Int), Stays C w0 w → nodesS ts ≤ 2097152 → 0 ≤ left → left ≤ 2097152 → Calls Tryd.prog 97 #[.agg #[.int .i64 q, v], .int .i64 left] w (IntRet (LeftEnds left (1 + nodesS ts)) w)) ?_ h
  intro ts p c hl H w q left hst hn h0 hL
  have HH := Lib.hid H
  have HST := Lib.hid hst
  have hlen := nodesS_ge ts
  clear H hst
  go_enter Tryd.func97, Tryd.ntmps97
  go_wp2_with fail
  go_loopw [1, 5] (fun l i wr => ∃ (k : Nat) (L : Int), k ≤ ts.length ∧ i = .int .i64 k ∧ l = .int .i64 L ∧ LeftEnds (left - 1) (nodesS (ts.take k)) L ∧ Below (w.alloc (.cells #[.int .i64 q, .slice p ts.length c] 33)).heap.size (w.alloc (.cells #[.int .i64 q, .slice p ts.length c] 33)) wr) (fun _ i _ => ts.length - (intOf i).toNat)
  case atStart => exact ⟨0, _, Nat.zero_le _, rfl, rfl, leftEnds_start h0, Below.refl _ _⟩
  case round =>
    obtain ⟨k, L, hk, rfl, rfl, hle, hbr⟩ := hrel
    have HB := Lib.hid hbr
    obtain ⟨d0, d1⟩ := box2 hbr
    clear hbr
    by_cases hlk : k < ts.length
    · obtain ⟨b, o, p', c', rfl, hcs, hT, hI⟩ := HH.out k _ (List.getElem?_eq_getElem hlk)
      have hsr := HST.out.trans (Stays.of_below (C := C) (below_box HB.out))
      obtain ⟨c1, c2⟩ := hcs wr hsr
      have n1 := nodesS_take_next ts k hlk
      have n2 := nodesS_take_le ts (k + 1)
      have n3 := ts[k].nodes_eq
      have HM := Lib.hid hle
      have hLr := hle.range (by omega)
      clear hle
      by_cases hneg : L < 0
      · clear hcs hT hI hsr n1 n3
        go_wp2_with fail
        go_ret
        exact ⟨_, HM.out.stop hneg n2, rfl, below_box HB.out⟩
      have HC := Lib.hid (hI wr ts[k].kind L hsr (by omega) (by omega) (by omega))
      have HN1 := Lib.hid n1
      have HN2 := Lib.hid n2
      have HN3 := Lib.hid n3
      clear hcs hT hI hsr n1 n2 n3
      go_wp2_with fail
      refine HC.out.mono ?_
      rintro e w1 ⟨r, hr, rfl, hb1⟩
      have HB1 := Lib.hid (HB.out.trans (hb1.mono HB.out.size))
      clear hb1
      have hr2 := hr.range (by omega)
      have HR := Lib.hid hr
      clear hr
      go_wp2_with fail
      go_roundw
      case rel => exact ⟨k + 1, r, by omega, by go_num, rfl, by rw [HN1.out, HN3.out]; exact HM.out.next HR.out (by omega), HB1.out⟩
      case measure => simp [intOf]; omega
    · obtain rfl : k = ts.length := by omega
      rw [List.take_length] at hle
      have HM := Lib.hid hle
      have hLr := hle.range (by omega)
      clear hle
      go_wp2_with fail
      go_ret
      exact ⟨_, HM.out.full, rfl, below_box HB.out⟩

set_option maxRecDepth 100000 in
set_option maxHeartbeats 1000000 in
theorem has_any {w0 : World} {C : Nat → Prop} {ts : List Ty} {v : Value} (h : TS w0 C ts v) : ∀ (w : World) (q : Int) (u : Int), Stays C w0 w → nodesS ts ≤ 2097152 → Calls Tryd.prog 76 #[.agg #[.int .i64 q, v], .int .i64 u] w (BoolRet (fun r => r = (Ty.mk q ts).has u) w) := by
  refine TS.ind (motive := fun ts v => ∀ (w : World) (q : Int) (u : Int), Stays C w0 w → nodesS ts ≤ 2097152 → Calls Tryd.prog 76 #[.agg #[.int .i64 q, v], .int .i64 u] w (BoolRet (fun r => r = (Ty.mk q ts).has u) w)) ?_ h
  intro ts p c hl H w q u hst hn
  have HH := Lib.hid H
  have HST := Lib.hid hst
  have hlen := nodesS_ge ts
  clear H hst
  go_enter Tryd.func76, Tryd.ntmps76
  go_wp2_with fail
  go_loopw [5] (fun i wr => ∃ (k : Nat), k ≤ ts.length ∧ i = .int .i64 k ∧ hasS u (ts.take k) = false ∧ Below (w.alloc (.cells #[.int .i64 q, .slice p ts.length c] 33)).heap.size (w.alloc (.cells #[.int .i64 q, .slice p ts.length c] 33)) wr) (fun i _ => ts.length - (intOf i).toNat)
  case atStart => exact ⟨0, Nat.zero_le _, rfl, by simp [hasS], Below.refl _ _⟩
  case round =>
    obtain ⟨k, hk, rfl, hfm, hbr⟩ := hrel
    have HB := Lib.hid hbr
    obtain ⟨d0, d1⟩ := box2 hbr
    clear hbr
    by_cases hlk : k < ts.length
    · obtain ⟨b, o, p', c', rfl, hcs, hT, hI⟩ := HH.out k _ (List.getElem?_eq_getElem hlk)
      have hsr := HST.out.trans (Stays.of_below (C := C) (below_box HB.out))
      obtain ⟨c1, c2⟩ := hcs wr hsr
      have n1 := nodesS_take_next ts k hlk
      have n2 := nodesS_take_le ts (k + 1)
      have n3 := ts[k].nodes_eq
      have HM := Lib.hid hfm
      clear hfm
      have HC := Lib.hid (hI wr ts[k].kind u hsr (by omega))
      have HN1 := Lib.hid n1
      have HN2 := Lib.hid n2
      have HN3 := Lib.hid n3
      clear hcs hT hI hsr n1 n2 n3
      go_wp2_with fail
      refine HC.out.mono ?_
      rintro e w1 ⟨r, hr, rfl, hb1⟩
      have HB1 := Lib.hid (HB.out.trans (hb1.mono HB.out.size))
      clear hb1
      have HR := Lib.hid hr
      clear hr
      cases r with
      | false =>
        go_wp2_with fail
        go_roundw
        case rel => exact ⟨k + 1, by omega, by go_num, by rw [take_next hlk, hasS_append, HM.out]; simpa [hasS, ← Ty.eta] using HR.out.symm, HB1.out⟩
        case measure => simp [intOf]; omega
      | true =>
        go_wp2_with fail
        go_ret
        exact ⟨true, (has_true hlk (by rw [Ty.eta ts[k]]; exact HR.out.symm)).symm, rfl, below_box HB1.out⟩
    · obtain rfl : k = ts.length := by omega
      rw [List.take_length] at hfm
      have HM := Lib.hid hfm
      clear hfm
      go_wp2_with fail
      go_ret
      exact ⟨_, by rw [Ty.has, HM.out, Bool.false_or], rfl, below_box HB.out⟩
end Go.Proofs.YtdfnjfelmfccjaaDoor
/- TmSpec: The contracts of the model's SizeOf, DepthOf, l5Left: what they answer at a term in memory. -/
namespace Go.Proofs.YtdfnjfelmfccjaaDoor
open Go Go.RowKit

mutual
def Tm.depth : Tm → Nat
  | .mk _ _ _ _ _ _ ts => 1 + depthM ts
def depthM : List Tm → Nat
  | [] => 0
  | t :: ts => max t.depth (depthM ts)
end
theorem Tm.depth_eq (t : Tm) : t.depth = 1 + depthM t.args := by cases t; simp [Tm.depth, Tm.args]
theorem depthM_append (a b : List Tm) : depthM (a ++ b) = max (depthM a) (depthM b) := by
  induction a with
  | nil => simp [depthM]
  | cons x a ih => simp only [List.cons_append, depthM, ih]; omega
theorem depthM_take (ts : List Tm) (k : Nat) (h : k < ts.length) : depthM (ts.take (k + 1)) = max (depthM (ts.take k)) ts[k].depth := by
  rw [tm_take_next h, depthM_append]; simp [depthM]
mutual
theorem depthM_nodes : ∀ ts : List Tm, depthM ts ≤ nodesM ts
  | [] => Nat.le_refl _
  | t :: ts => by
    have h1 := Tm.depth_nodes t
    have h2 := depthM_nodes ts
    simp only [depthM, nodesM]
    omega
theorem Tm.depth_nodes : ∀ t : Tm, t.depth ≤ t.nodes
  | .mk k a b n t r ts => by
    have := depthM_nodes ts
    simp only [Tm.depth, Tm.nodes]
    omega
end
theorem leftM_stop {left L : Int} {a n : Nat} (h : LeftEnds (left - 1) a L) (hn : L < 0) (ha : a ≤ n) : LeftEnds left (1 + n) L := by
  unfold LeftEnds at *; omega
theorem box_rest {w w' : World} {A : Array Value} {T : TypeId} (h : Below (w.alloc (.cells A T)).heap.size (w.alloc (.cells A T)) w') : Below w.heap.size w w' :=
  (al_below w _).trans (h.mono (by simp))


end Go.Proofs.YtdfnjfelmfccjaaDoor
/- Reduce: The contracts of Reduce, the program's and the model's: the remainder from 0 up to the modulus. -/
namespace Go.Proofs.YtdfnjfelmfccjaaDoor
open Go Go.RowKit

theorem tmod_cases (n : Int) : n.tmod 10007 = n % 10007 ∧ 0 ≤ n ∨ n.tmod 10007 = -((-n) % 10007) ∧ n < 0 := by
  by_cases h : 0 ≤ n
  · exact Or.inl ⟨Int.tmod_eq_emod_of_nonneg h, h⟩
  · refine Or.inr ⟨?_, by omega⟩
    have e : n = -(-n) := by omega
    rw [e, Int.neg_tmod, Int.tmod_eq_emod_of_nonneg (by omega)]
    simp
theorem red_I (n : Int) : (wrap64 (n.tmod 10007 + 10007)).tmod 10007 = n % 10007 := by
  have hw : wrap64 (n.tmod 10007 + 10007) = n.tmod 10007 + 10007 := by
    rcases tmod_cases n with ⟨h, _⟩ | ⟨h, _⟩ <;> · rw [h]; unfold wrap64; omega
  rw [hw, Int.tmod_eq_emod_of_nonneg (by rcases tmod_cases n with ⟨h, _⟩ | ⟨h, _⟩ <;> omega)]
  rcases tmod_cases n with ⟨h, _⟩ | ⟨h, _⟩ <;> omega
theorem red_S (n : Int) (h : n.tmod 10007 < 0) : wrap64 (n.tmod 10007 + 10007) = n % 10007 := by
  have hw : wrap64 (n.tmod 10007 + 10007) = n.tmod 10007 + 10007 := by
    rcases tmod_cases n with ⟨h, _⟩ | ⟨h, _⟩ <;> · rw [h]; unfold wrap64; omega
  rw [hw]
  rcases tmod_cases n with ⟨h, _⟩ | ⟨h, _⟩ <;> omega
theorem red_S0 (n : Int) (h : 0 ≤ n.tmod 10007) : n.tmod 10007 = n % 10007 := by
  rcases tmod_cases n with ⟨h, _⟩ | ⟨h, _⟩ <;> omega
theorem ret_int {a b : Int} (h : a = b) : Ending.returned (.int .i64 a) = Ending.returned (.int .i64 b) := by rw [h]

set_option maxHeartbeats 400000 in
theorem redI_any (n : Int) (w : World) :
    Calls Tryd.prog 73 #[.int .i64 n] w fun e w' => e = .returned (.int .i64 (n % 10007)) ∧ w' = w := by
  go_enter Tryd.func73, Tryd.ntmps73
  go_wp2
  go_ret
  exact ⟨ret_int (red_I n), rfl⟩

end Go.Proofs.YtdfnjfelmfccjaaDoor
/- Apply: The contracts of ApplyOp, the program's and the model's, and the walk of the law on it. -/
namespace Go.Proofs.YtdfnjfelmfccjaaDoor
open Go Go.RowKit

def bit (x : Bool) : Int := if x then 1 else 0
/-- What an operation gives at two numbers of the language. -/
def apOp (op : ByteArray) (a b : Int) : Int × Bool :=
  if op.toList == [43] then ((a + b) % 10007, true)
  else if op.toList == [45] then ((a - b) % 10007, true)
  else if op.toList == [42] then ((a * b) % 10007, true)
  else if op.toList == [61] then (bit (a == b), true)
  else if op.toList == [60] then (bit (decide (a < b)), true)
  else if op.toList == [38] then (bit (a == 1 && b == 1), true)
  else if op.toList == [124] then (bit (a == 1 || b == 1), true)
  else if op.toList == [33] then (bit (a == 0), true)
  else (0, false)
def ap (op : ByteArray) (a b : Int) : Int × Bool := if 0 ≤ a ∧ a < 10007 ∧ 0 ≤ b ∧ b < 10007 then apOp op a b else (0, false)
def pairOf (p : Int × Bool) : Value := .tuple #[.int .i64 p.1, .bool p.2]

theorem in_any (n lo hi : Int) (w : World) : Calls Tryd.prog 68 #[.int .i64 n, .int .i64 lo, .int .i64 hi] w fun e w' => e = .returned (.bool (decide (lo ≤ n ∧ n ≤ hi))) ∧ w' = w := by
  obtain ⟨r, hr⟩ : ∃ r, r = decide (lo ≤ n ∧ n ≤ hi) := ⟨_, rfl⟩
  rw [← hr]
  by_cases h : lo ≤ n
  · have e : decide (n ≤ hi) = r := by rw [hr]; simp [h]
    have t : decide (lo ≤ n) = true := by simpa using h
    have E := Lib.hid e
    clear e hr
    go_enter Tryd.func68, Tryd.ntmps68
    go_wp2
    go_ret
    exact ⟨by rw [← E.out]; rfl, rfl⟩
  · have e : false = r := by rw [hr]; simp [h]
    have t : decide (lo ≤ n) = false := by simpa using h
    subst e
    clear hr
    go_enter Tryd.func68, Tryd.ntmps68
    go_wp2
    go_ret
    exact ⟨rfl, rfl⟩

/-- One of the numbers of the language. -/
def Num (a : Int) : Prop := 0 ≤ a ∧ a < 10007
theorem redI_num (a : Int) (w : World) (h : Num a) : Calls Tryd.prog 73 #[.int .i64 a] w fun e w' => e = .returned (.int .i64 a) ∧ w' = w := by
  have h1 := redI_any a w
  rw [show a % 10007 = a from Int.emod_eq_of_lt h.1 h.2] at h1
  exact h1
theorem redI_not (a : Int) (w : World) (h : ¬ Num a) : Calls Tryd.prog 73 #[.int .i64 a] w fun e w' => ∃ r : Int, (a != r) = true ∧ e = .returned (.int .i64 r) ∧ w' = w :=
  (redI_any a w).mono fun e w' ⟨he, hw⟩ => ⟨a % 10007, by
    rw [bne_iff_ne]
    intro hc
    exact h ⟨by omega, by omega⟩, he, hw⟩

theorem mul_in {a b : Int} (ha : 0 ≤ a) (ha1 : a < 10007) (hb : 0 ≤ b) (hb1 : b < 10007) : wrap64 (a * b) = a * b := by
  have h1 := Int.mul_nonneg ha hb
  have h2 := Int.mul_le_mul (show a ≤ 10006 by omega) (show b ≤ 10006 by omega) hb (by decide)
  unfold wrap64
  omega

theorem in_num (a : Int) (w : World) (h : Num a) : Calls Tryd.prog 68 #[.int .i64 a, .int .i64 0, .int .i64 10006] w fun e w' => e = .returned (.bool true) ∧ w' = w := by
  have h1 := in_any a 0 10006 w
  rw [show decide (0 ≤ a ∧ a ≤ 10006) = true from decide_eq_true ⟨h.1, by have := h.2; omega⟩] at h1
  exact h1
theorem in_not (a : Int) (w : World) (h : ¬ Num a) : Calls Tryd.prog 68 #[.int .i64 a, .int .i64 0, .int .i64 10006] w fun e w' => e = .returned (.bool false) ∧ w' = w := by
  have h1 := in_any a 0 10006 w
  rw [show decide (0 ≤ a ∧ a ≤ 10006) = false from decide_eq_false (fun hc => h ⟨hc.1, by have := hc.2; omega⟩)] at h1
  exact h1

end Go.Proofs.YtdfnjfelmfccjaaDoor
/- IsName: The contracts of IsName, the program's and the model's, and the walk of the law on it. -/
namespace Go.Proofs.YtdfnjfelmfccjaaDoor
open Go Go.RowKit

/-- The k-th byte may stand there in a name. -/
def okAt (s : ByteArray) (k : Nat) : Prop := ∀ h : k < s.size, (97 ≤ (s[k]'h).toNat ∧ (s[k]'h).toNat ≤ 122) ∨ (1 ≤ k ∧ 48 ≤ (s[k]'h).toNat ∧ (s[k]'h).toNat ≤ 57)
def Res (s : ByteArray) : Prop := s.toList = [105, 102] ∨ s.toList = [108, 101, 116] ∨ s.toList = [108, 105, 102, 116] ∨ s.toList = [114, 101, 99] ∨ s.toList = [114, 117, 110]
structure Nm (s : ByteArray) : Prop where
  ok : ∀ k, okAt s k
  lo : 1 ≤ s.size
  hi : s.size ≤ 4
  free : ¬ Res s
def Tells (p : Prop) (w : World) (e : Ending) (w' : World) : Prop := ∃ r : Bool, (r = true ↔ p) ∧ e = .returned (.bool r) ∧ Below w.heap.size w w'
theorem tells_no {p : Prop} (h : ¬ p) : (false = true ↔ p) := ⟨fun hc => (by cases hc), fun hp => absurd hp h⟩
theorem tells_yes {p : Prop} (h : p) : (true = true ↔ p) := ⟨fun _ => h, fun _ => rfl⟩
theorem lst {a b : List UInt8} (h : (a == b) = true) : a = b := by simpa using h
theorem nlst {a b : List UInt8} (h : (a == b) = false) : a ≠ b := by simpa using h

set_option maxHeartbeats 400000 in
theorem res_any (s : ByteArray) (w : World) : Calls Tryd.prog 90 #[.string s] w (Tells (Res s) w) := by
  go_enter Tryd.func90, Tryd.ntmps90
  go_wp2
  all_goals
    go_ret
    first
    | exact ⟨true, tells_yes (by unfold Res; simp_all), rfl, Below.refl _ _⟩
    | exact ⟨false, tells_no (by unfold Res; simp_all), rfl, Below.refl _ _⟩

theorem res_0 {s : ByteArray} (h : s.toList = [105, 102]) : (s.toList == [105, 102]) = true ∧ (s.toList == [108, 101, 116]) = false ∧ (s.toList == [108, 105, 102, 116]) = false ∧ (s.toList == [114, 101, 99]) = false ∧ (s.toList == [114, 117, 110]) = false := by rw [h]; exact ⟨rfl, rfl, rfl, rfl, rfl⟩
theorem res_1 {s : ByteArray} (h : s.toList = [108, 101, 116]) : (s.toList == [105, 102]) = false ∧ (s.toList == [108, 101, 116]) = true ∧ (s.toList == [108, 105, 102, 116]) = false ∧ (s.toList == [114, 101, 99]) = false ∧ (s.toList == [114, 117, 110]) = false := by rw [h]; exact ⟨rfl, rfl, rfl, rfl, rfl⟩
theorem res_2 {s : ByteArray} (h : s.toList = [108, 105, 102, 116]) : (s.toList == [105, 102]) = false ∧ (s.toList == [108, 101, 116]) = false ∧ (s.toList == [108, 105, 102, 116]) = true ∧ (s.toList == [114, 101, 99]) = false ∧ (s.toList == [114, 117, 110]) = false := by rw [h]; exact ⟨rfl, rfl, rfl, rfl, rfl⟩
theorem res_3 {s : ByteArray} (h : s.toList = [114, 101, 99]) : (s.toList == [105, 102]) = false ∧ (s.toList == [108, 101, 116]) = false ∧ (s.toList == [108, 105, 102, 116]) = false ∧ (s.toList == [114, 101, 99]) = true ∧ (s.toList == [114, 117, 110]) = false := by rw [h]; exact ⟨rfl, rfl, rfl, rfl, rfl⟩
theorem res_4 {s : ByteArray} (h : s.toList = [114, 117, 110]) : (s.toList == [105, 102]) = false ∧ (s.toList == [108, 101, 116]) = false ∧ (s.toList == [108, 105, 102, 116]) = false ∧ (s.toList == [114, 101, 99]) = false ∧ (s.toList == [114, 117, 110]) = true := by rw [h]; exact ⟨rfl, rfl, rfl, rfl, rfl⟩
theorem res_no {s : ByteArray} (h : ¬ Res s) : (s.toList == [105, 102]) = false ∧ (s.toList == [108, 101, 116]) = false ∧ (s.toList == [108, 105, 102, 116]) = false ∧ (s.toList == [114, 101, 99]) = false ∧ (s.toList == [114, 117, 110]) = false := by
  unfold Res at h
  simp only [not_or] at h
  exact ⟨by simpa using h.1, by simpa using h.2.1, by simpa using h.2.2.1, by simpa using h.2.2.2.1, by simpa using h.2.2.2.2⟩
theorem at_zero {k : Nat} (h : k = 0) : ((k : Int) == 0) = true := by rw [h]; rfl
theorem at_more {k : Nat} (h : 1 ≤ k) : ((k : Int) == 0) = false := by rw [beq_eq_false_iff_ne]; omega
theorem ok_letter {s : ByteArray} {k : Nat} {hk : k < s.size} (h1 : 97 ≤ (s[k]'hk).toNat) (h2 : (s[k]'hk).toNat ≤ 122) : okAt s k := fun _ => Or.inl ⟨h1, h2⟩
theorem ok_digit {s : ByteArray} {k : Nat} {hk : k < s.size} (h0 : 1 ≤ k) (h1 : 48 ≤ (s[k]'hk).toNat) (h2 : (s[k]'hk).toNat ≤ 57) : okAt s k := fun _ => Or.inr ⟨h0, h1, h2⟩
theorem ok_bad {s : ByteArray} {k : Nat} {hk : k < s.size} (h1 : (s[k]'hk).toNat < 97 ∨ 122 < (s[k]'hk).toNat) (h2 : k = 0 ∨ (s[k]'hk).toNat < 48 ∨ 57 < (s[k]'hk).toNat) : ¬ Nm s := fun h => by
  have := h.ok k hk
  omega
theorem ok_next {s : ByteArray} {k : Nat} (h : ∀ j, j < k → okAt s j) (h1 : okAt s k) : ∀ j, j < k + 1 → okAt s j := fun j hj => by
  by_cases e : j = k
  · rw [e]; exact h1
  · exact h j (by omega)
theorem ok_end {s : ByteArray} {k : Nat} (h : ∀ j, j < k → okAt s j) (hk : s.size ≤ k) : ∀ j, okAt s j := fun j => by
  by_cases e : j < k
  · exact h j e
  · exact fun hj => absurd hj (by omega)

set_option maxRecDepth 100000 in
set_option maxHeartbeats 1000000 in
theorem nmS_any (s : ByteArray) (w : World) (hs : s.size ≤ 9223372036854775807) : Calls Tryd.prog 100 #[.string s] w (Tells (Nm s) w) := by
  go_enter Tryd.func100, Tryd.ntmps100
  go_wp2_with fail
  go_loop [3] (fun i => ∃ k : Nat, k ≤ s.size ∧ i = .int .i64 k ∧ Hid (∀ j, j < k → okAt s j)) (fun i => s.size - (intOf i).toNat)
  case atStart => exact ⟨0, Nat.zero_le _, rfl, Lib.hid (fun j hj => absurd hj (Nat.not_lt_zero j))⟩
  case round =>
    obtain ⟨k, hk, rfl, HK⟩ := hrel
    by_cases hlk : k < s.size
    · by_cases hlet : 97 ≤ s[k].toNat ∧ s[k].toNat ≤ 122
      · obtain ⟨l1, l2⟩ := hlet
        have HN := Lib.hid (ok_next HK.out (ok_letter l1 l2))
        go_wp2_with fail
        go_round
        case rel => exact ⟨k + 1, by omega, by go_num, HN⟩
        case measure => simp [intOf]; omega
      · by_cases hdig : 1 ≤ k ∧ 48 ≤ s[k].toNat ∧ s[k].toNat ≤ 57
        · obtain ⟨d0, d1, d2⟩ := hdig
          have HN := Lib.hid (ok_next HK.out (ok_digit d0 d1 d2))
          have t := at_more d0
          clear hlet
          go_wp2_with fail
          go_round
          case rel => exact ⟨k + 1, by omega, by go_num, HN⟩
          case measure => simp [intOf]; omega
        · have HN := Lib.hid (ok_bad (s := s) (k := k) (hk := hlk) (by omega) (by omega))
          rcases (show s[k].toNat < 97 ∨ 122 < s[k].toNat by omega) with b1 | b1
          all_goals rcases (show k = 0 ∨ (1 ≤ k ∧ s[k].toNat < 48) ∨ (1 ≤ k ∧ 57 < s[k].toNat) by omega) with b2 | ⟨b2, b3⟩ | ⟨b2, b3⟩
          all_goals clear hdig hlet
          · subst b2
            have t2 : decide ((97 : Int) ≤ (s[0].toNat : Int)) = false := by simp; omega
            go_wp2_with fail
            go_ret
            exact ⟨false, tells_no HN.out, rfl, Below.refl _ _⟩
          · have t := at_more b2
            have t2 : decide ((97 : Int) ≤ (s[k].toNat : Int)) = false := by simp; omega
            go_wp2_with fail
            go_ret
            exact ⟨false, tells_no HN.out, rfl, Below.refl _ _⟩
          · have t := at_more b2
            have t2 : decide ((97 : Int) ≤ (s[k].toNat : Int)) = false := by simp; omega
            go_wp2_with fail
            go_ret
            exact ⟨false, tells_no HN.out, rfl, Below.refl _ _⟩
          · subst b2
            have t2 : decide ((s[0].toNat : Int) ≤ 122) = false := by simp; omega
            go_wp2_with fail
            go_ret
            exact ⟨false, tells_no HN.out, rfl, Below.refl _ _⟩
          · exfalso; omega
          · have t := at_more b2
            have t2 : decide ((s[k].toNat : Int) ≤ 122) = false := by simp; omega
            go_wp2_with fail
            go_ret
            exact ⟨false, tells_no HN.out, rfl, Below.refl _ _⟩
    · obtain rfl : k = s.size := by omega
      have HN := Lib.hid (ok_end HK.out (Nat.le_refl _))
      go_wp2_with fail
      refine (in_any _ _ _ _).mono ?_
      rintro e w1 ⟨rfl, rfl⟩
      by_cases hsz : 1 ≤ s.size ∧ s.size ≤ 4
      · have t : decide (1 ≤ (s.size : Int) ∧ (s.size : Int) ≤ 4) = true := decide_eq_true (by omega)
        rw [t]
        clear t
        by_cases hres : Res s
        · have HX := Lib.hid (show ¬ Nm s from fun h => h.free hres)
          rcases hres with h | h | h | h | h
          · obtain ⟨t1, t2, t3, t4, t5⟩ := res_0 h
            clear h
            go_wp2_with fail
            go_ret
            exact ⟨false, tells_no HX.out, rfl, Below.refl _ _⟩
          · obtain ⟨t1, t2, t3, t4, t5⟩ := res_1 h
            clear h
            go_wp2_with fail
            go_ret
            exact ⟨false, tells_no HX.out, rfl, Below.refl _ _⟩
          · obtain ⟨t1, t2, t3, t4, t5⟩ := res_2 h
            clear h
            go_wp2_with fail
            go_ret
            exact ⟨false, tells_no HX.out, rfl, Below.refl _ _⟩
          · obtain ⟨t1, t2, t3, t4, t5⟩ := res_3 h
            clear h
            go_wp2_with fail
            go_ret
            exact ⟨false, tells_no HX.out, rfl, Below.refl _ _⟩
          · obtain ⟨t1, t2, t3, t4, t5⟩ := res_4 h
            clear h
            go_wp2_with fail
            go_ret
            exact ⟨false, tells_no HX.out, rfl, Below.refl _ _⟩
        · have HX := Lib.hid (show Nm s from ⟨HN.out, hsz.1, hsz.2, hres⟩)
          obtain ⟨t1, t2, t3, t4, t5⟩ := res_no hres
          clear hres
          go_wp2_with fail
          go_ret
          exact ⟨true, tells_yes HX.out, rfl, Below.refl _ _⟩
      · have t : decide (1 ≤ (s.size : Int) ∧ (s.size : Int) ≤ 4) = false := decide_eq_false (by omega)
        rw [t]
        clear t
        have HZ := Lib.hid (show ¬ Nm s from fun h => hsz ⟨h.lo, h.hi⟩)
        clear hsz
        go_wp2_with fail
        go_ret
        exact ⟨false, tells_no HZ.out, rfl, Below.refl _ _⟩
end Go.Proofs.YtdfnjfelmfccjaaDoor
/- TmNode: The contracts of the model's OpArity, l5Arity, l5Zero, l5Names: what a node of a term must be. -/
namespace Go.Proofs.YtdfnjfelmfccjaaDoor
open Go Go.RowKit

def opAr (l : List UInt8) : Int :=
  if l = [43] then 2 else if l = [45] then 2 else if l = [42] then 2 else if l = [61] then 2 else if l = [60] then 2 else if l = [38] then 2 else if l = [124] then 2 else if l = [33] then 1 else 0
theorem opAr_range (l : List UInt8) : 0 ≤ opAr l ∧ opAr l ≤ 2 := by
  unfold opAr
  repeat' split
  all_goals omega
/-- The number of parts of a node. -/
def arK (k o : Int) : Int :=
  if k = 1 then 0 else if k = 2 then 0 else if k = 3 then 0 else if k = 4 then o else if k = 6 then 1 else if k = 9 then 1 else if k = 10 then 1 else if k = 11 then 1 else if k = 12 then 1 else if k = 13 then 1 else if k = 7 then 2 else if k = 8 then 2 else if k = 5 then 3 else -1
def Tm.arity (t : Tm) : Int := arK t.kind (opAr t.name.toList)
theorem arK_range (k o : Int) (h : 0 ≤ o ∧ o ≤ 2) : -1 ≤ arK k o ∧ arK k o ≤ 3 := by
  unfold arK
  repeat' split
  all_goals omega

set_option maxRecDepth 100000 in
set_option maxHeartbeats 1000000 in
theorem opArS_any (s : ByteArray) (w : World) : Calls Tryd.prog 88 #[.string s] w fun e w' => e = .returned (.int .i64 (opAr s.toList)) ∧ w' = w := by
  go_enter Tryd.func88, Tryd.ntmps88
  go_wp2
  all_goals
    go_ret
    exact ⟨by unfold opAr; simp_all, rfl⟩

set_option maxRecDepth 100000 in
set_option maxHeartbeats 2000000 in
theorem arityS_any (t : Tm) (tp : Option Addr) (tc : Nat) (rp : Option Addr) (rc : Nat) (p : Option Addr) (c : Nat) (w : World) :
    Calls Tryd.prog 67 #[tmV t tp tc rp rc p c] w fun e w' => e = .returned (.int .i64 t.arity) ∧ Below w.heap.size w w' := by
  have HB := Lib.hid (al_below w (.cells (tmC t tp tc rp rc p c) 36))
  go_enter Tryd.func67, Tryd.ntmps67
  go_wp2_with (first | (go_at_call 88; refine (opArS_any _ _).mono ?_; rintro e w' ⟨rfl, rfl⟩))
  all_goals
    go_ret
    exact ⟨by unfold Tm.arity arK; simp_all, HB.out⟩

set_option maxRecDepth 100000 in
set_option maxHeartbeats 1000000 in
theorem zeroS_any (k : Int) (p : Option Addr) (n c : Nat) (w : World) : Calls Tryd.prog 86 #[.agg #[.int .i64 k, .slice p n c]] w (Tells (k = 0 ∧ n = 0) w) := by
  have HB := Lib.hid (al_below w (.cells #[.int .i64 k, .slice p n c] 33))
  go_enter Tryd.func86, Tryd.ntmps86
  by_cases hk : k = 0
  · subst hk
    go_wp2_with fail
    go_ret
    exact ⟨_, by simp, rfl, HB.out⟩
  · have hk1 : (k == 0) = false := by simpa using hk
    go_wp2_with fail
    go_ret
    exact ⟨_, by simp [hk], rfl, HB.out⟩

/-- The names are those that the kind asks for. -/
def Tm.namesOk (t : Tm) : Prop :=
  if t.kind = 4 then 0 < opAr t.name.toList ∧ t.other.toList = [] else if t.kind = 1 ∨ t.kind = 6 ∨ t.kind = 8 then Nm t.name ∧ t.other.toList = []
  else if t.kind = 9 then Nm t.name ∧ Nm t.other ∧ t.name ≠ t.other else t.name.toList = [] ∧ t.other.toList = []
theorem emp_cases (s : ByteArray) : (s.toList = [] ∧ s.toList.isEmpty = true) ∨ (¬ s.toList = [] ∧ s.toList.isEmpty = false) := by
  cases h : s.toList <;> simp
end Go.Proofs.YtdfnjfelmfccjaaDoor
/- SpecTy3: The contracts of the model's IsValidType, IsBase, IsPlainType. -/
namespace Go.Proofs.YtdfnjfelmfccjaaDoor
open Go Go.RowKit

def Ty.valid (t : Ty) : Bool := decide (t.nodes ≤ 30) && decide (t.depth ≤ 8) && t.form
def Ty.base (t : Ty) : Bool := decide ((t.kind = 1 ∨ t.kind = 2) ∧ t.args.length = 0)
def Ty.plain (t : Ty) : Bool := t.valid && !t.has 4

set_option maxRecDepth 100000 in
set_option maxHeartbeats 1000000 in
theorem valid_any {C : Nat → Prop} {t : Ty} {v : Value} {w : World} (h : TT w C t v) (hn : nodesS t.args ≤ 2097152) :
    Calls Tryd.prog 85 #[v] w (BoolRet (fun r => r = t.valid) w) := by
  obtain ⟨s, rfl, hS⟩ := h
  obtain ⟨p, c, rfl⟩ := hS.form
  have hb0 := (Below.refl w.heap.size w).alloc (Nat.le_refl _) (Obj.cells #[.int .i64 t.kind, .slice p t.args.length c] 33)
  have HB0 := Lib.hid hb0
  have HL := Lib.hid (left_any hS _ t.kind 30 (.of_below hb0) hn (by omega) (by omega))
  have HD := Lib.hid (fun w' (hw : Below w.heap.size w w') => depth_any hS w' t.kind (.of_below hw) hn)
  have HF := Lib.hid (fun w' (hw : Below w.heap.size w w') => form_any hS w' t.kind (.of_below hw) hn)
  have hdn := depthS_nodes t.args
  clear hS hb0
  have HV := Lib.hid (show t.valid = (decide (1 + nodesS t.args ≤ 30) && decide (1 + depthS t.args ≤ 8) && (Ty.mk t.kind t.args).form) by rw [Ty.valid, Ty.nodes_eq, depth_at, ← Ty.eta])
  go_enter Tryd.func85, Tryd.ntmps85
  go_wp2_with fail
  refine HL.out.mono ?_
  rintro e w1 ⟨r, hr, rfl, hb1⟩
  obtain ⟨c0, c1⟩ := box2 hb1
  have HB1 := Lib.hid (HB0.out.trans (hb1.mono HB0.out.size))
  have HR := Lib.hid hr
  have hrr := hr.range (by omega)
  by_cases h0 : 0 ≤ r
  · have hn30 : 1 + nodesS t.args ≤ 30 := by unfold LeftEnds at hr; omega
    clear hr hb1
    go_wp2_with fail
    refine (HD.out w1 HB1.out).mono ?_
    rintro e w2 ⟨d, rfl, rfl, hb2⟩
    have c20 := (hb2.cell (World.block_lt_of_cell? w1 _ c0)).trans c0
    have c21 := (hb2.cell (World.block_lt_of_cell? w1 _ c1)).trans c1
    have HB2 := Lib.hid (HB1.out.trans (hb2.mono HB1.out.size))
    clear hb2 c0 c1
    by_cases h8 : 1 + depthS t.args ≤ 8
    · go_wp2_with fail
      refine (HF.out w2 HB2.out).mono ?_
      rintro e w3 ⟨f, hf, rfl, hb3⟩
      have HB3 := Lib.hid (HB2.out.trans (hb3.mono HB2.out.size))
      have HFF := Lib.hid hf
      clear hf hb3
      go_wp2_with fail
      go_ret
      exact ⟨_, by rw [HV.out, ← HFF.out]; simp [hn30, h8], rfl, HB3.out⟩
    · go_wp2_with fail
      go_ret
      exact ⟨_, by rw [HV.out]; simp [h8], rfl, HB2.out⟩
  · have hn30 : ¬ 1 + nodesS t.args ≤ 30 := by unfold LeftEnds at hr; omega
    clear hr hb1
    go_wp2_with fail
    go_ret
    exact ⟨_, by rw [HV.out]; simp [hn30], rfl, HB1.out⟩

theorem formS_cons (t : Ty) (ts : List Ty) : formS (t :: ts) = true ↔ t.form = true ∧ formS ts = true := by simp [formS]
theorem form_mk (k : Int) (ts : List Ty) : (Ty.mk k ts).form = true ↔ formS ts = true ∧ ((k = 1 ∨ k = 2) ∧ ts.length = 0 ∨ k = 3 ∧ ts.length = 2 ∨ k = 4 ∧ ts.length = 1) := by
  simp only [Ty.form, Bool.and_eq_true]
  refine and_congr Iff.rfl ?_
  split
  · next h => simp only [beq_iff_eq]; omega
  · split
    · next h => simp only [beq_iff_eq]; omega
    · simp only [Bool.and_eq_true, beq_iff_eq]; omega
theorem valid_iff (t : Ty) : t.valid = true ↔ t.nodes ≤ 30 ∧ t.depth ≤ 8 ∧ t.form = true := by simp [Ty.valid, and_assoc]
end Go.Proofs.YtdfnjfelmfccjaaDoor
/- TmNode2: The contracts of the model's l5Names and l5Fields. -/
namespace Go.Proofs.YtdfnjfelmfccjaaDoor
open Go Go.RowKit

theorem emp_iff (s : ByteArray) : s.toList.isEmpty = true ↔ s.toList = [] := by simp
theorem b_and {a b : Prop} {x y : Bool} (hx : x = true ↔ a) (hy : y = true ↔ b) : ((x && y) = true ↔ a ∧ b) := by rw [Bool.and_eq_true, hx, hy]
theorem b_not {a : Prop} {x : Bool} (hx : x = true ↔ a) : ((!x) = true ↔ ¬ a) := by rw [Bool.not_eq_true', ← Bool.not_eq_true, hx]
theorem names_4 {t : Tm} (h : t.kind = 4) : t.namesOk ↔ 0 < opAr t.name.toList ∧ t.other.toList = [] := by rw [Tm.namesOk, if_pos h]
theorem names_1 {t : Tm} (h4 : ¬ t.kind = 4) (h : t.kind = 1 ∨ t.kind = 6 ∨ t.kind = 8) : t.namesOk ↔ Nm t.name ∧ t.other.toList = [] := by rw [Tm.namesOk, if_neg h4, if_pos h]
theorem names_9 {t : Tm} (h4 : ¬ t.kind = 4) (h1 : ¬ (t.kind = 1 ∨ t.kind = 6 ∨ t.kind = 8)) (h : t.kind = 9) : t.namesOk ↔ Nm t.name ∧ Nm t.other ∧ t.name ≠ t.other := by rw [Tm.namesOk, if_neg h4, if_neg h1, if_pos h]
theorem names_0 {t : Tm} (h4 : ¬ t.kind = 4) (h1 : ¬ (t.kind = 1 ∨ t.kind = 6 ∨ t.kind = 8)) (h : ¬ t.kind = 9) : t.namesOk ↔ t.name.toList = [] ∧ t.other.toList = [] := by rw [Tm.namesOk, if_neg h4, if_neg h1, if_neg h]
theorem lit_t {p : Prop} (h : p) : (true = true ↔ p) := ⟨fun _ => h, fun _ => rfl⟩
theorem lit_f {p : Prop} (h : ¬ p) : (false = true ↔ p) := ⟨fun e => (by cases e), fun e => absurd e h⟩

set_option maxRecDepth 100000 in
set_option maxHeartbeats 2000000 in
theorem namesS_any (t : Tm) (tp : Option Addr) (tc : Nat) (rp : Option Addr) (rc : Nat) (p : Option Addr) (c : Nat) (w : World) (h1 : t.name.size ≤ 9223372036854775807) (h2 : t.other.size ≤ 9223372036854775807) :
    Calls Tryd.prog 87 #[tmV t tp tc rp rc p c] w (Tells t.namesOk w) := by
  have HB := Lib.hid (al_below w (.cells (tmC t tp tc rp rc p c) 36))
  have HX := Lib.hid (Bx9.new w t tp tc rp rc p c 36)
  have HNM := Lib.hid (nmS_any t.name (w.alloc (.cells (tmC t tp tc rp rc p c) 36)) h1)
  have HNO := Lib.hid (fun W => nmS_any t.other W h2)
  have HAR := Lib.hid (opAr_range t.name.toList)
  cases hb : t.other.toList.isEmpty
  all_goals
    cases hd : t.name.toList.isEmpty
  all_goals
    have HE := Lib.hid (emp_iff t.other)
    have HN := Lib.hid (emp_iff t.name)
    rw [hb] at HE
    rw [hd] at HN
    go_enter Tryd.func87, Tryd.ntmps87
    by_cases k4 : t.kind = 4
    · have a4 : 4 ≤ t.kind := by omega
      have b4 : t.kind ≤ 4 := by omega
      have HK := Lib.hid k4
      clear k4
      by_cases ha : 0 < opAr t.name.toList
      all_goals
        go_wp2_with (first | (go_at_call 88; refine (opArS_any _ _).mono ?_; rintro e w' ⟨rfl, rfl⟩))
        go_ret
        refine ⟨_, ?_, rfl, HB.out⟩
        have h2 := HE.out
        simp only [true_iff, false_iff, Bool.false_eq_true] at h2
        rw [names_4 HK.out]
        simp [ha, h2]
    have HK4 := Lib.hid k4
    by_cases k1 : t.kind = 1 ∨ t.kind = 6 ∨ t.kind = 8
    · have HK := Lib.hid k1
      rcases k1 with k | k | k
      all_goals
        have ak := Int.le_of_eq k
        have bk := Int.le_of_eq k.symm
        clear k k4
        go_wp2_with fail
        refine HNM.out.mono ?_
        rintro e w1 ⟨r, hr, rfl, hb1⟩
        have HR := Lib.hid hr
        have HB1 := Lib.hid (HB.out.trans (hb1.mono HB.out.size))
        obtain ⟨g0, g1, g2, g3, g4, g5, g6, g7, g8⟩ := HX.out.keep hb1
        clear hr hb1
        cases r
        all_goals
          go_wp2_with fail
          go_ret
          refine ⟨_, ?_, rfl, HB1.out⟩
          have h1 := HR.out
          have h2 := HE.out
          simp only [true_iff, false_iff, Bool.false_eq_true] at h1 h2
          rw [names_1 HK4.out HK.out]
          simp [h1, h2]
    have HK1 := Lib.hid k1
    have m1 : ¬ t.kind = 1 := fun e => k1 (Or.inl e)
    have m6 : ¬ t.kind = 6 := fun e => k1 (Or.inr (Or.inl e))
    have m8 : ¬ t.kind = 8 := fun e => k1 (Or.inr (Or.inr e))
    clear k1
    by_cases k9 : t.kind = 9
    · have a9 := Int.le_of_eq k9
      have b9 := Int.le_of_eq k9.symm
      have HK := Lib.hid k9
      clear k9 k4 m1 m6 m8
      go_wp2_with fail
      refine HNM.out.mono ?_
      rintro e w1 ⟨r, hr, rfl, hb1⟩
      have HR := Lib.hid hr
      have HB1 := Lib.hid (HB.out.trans (hb1.mono HB.out.size))
      have HX1 := Lib.hid (HX.out.keep hb1)
      obtain ⟨g0, g1, g2, g3, g4, g5, g6, g7, g8⟩ := HX.out.keep hb1
      clear hr hb1
      cases r
      · go_wp2_with fail
        go_ret
        refine ⟨_, ?_, rfl, HB1.out⟩
        have h1 := HR.out
        simp only [false_iff, Bool.false_eq_true] at h1
        rw [names_9 HK4.out HK1.out HK.out]
        simp [h1]
      · go_wp2_with fail
        refine (HNO.out w1).mono ?_
        rintro e w2 ⟨r2, hr2, rfl, hb2⟩
        have HR2 := Lib.hid hr2
        have HB2 := Lib.hid (HB1.out.trans (hb2.mono HB1.out.size))
        clear g0 g1 g2 g3 g4 g5 g6 g7 g8
        obtain ⟨g0, g1, g2, g3, g4, g5, g6, g7, g8⟩ := HX1.out.keep hb2
        clear hr2 hb2
        by_cases hq : t.name = t.other
        · have hq1 := str_yes hq
          have HQ := Lib.hid hq
          clear hq
          cases r2
          all_goals
            go_wp2_with fail
            go_ret
            refine ⟨_, ?_, rfl, HB2.out⟩
            have h3 := HQ.out
            rw [names_9 HK4.out HK1.out HK.out]
            simp [h3]
        · have hq1 := str_no hq
          have HQ := Lib.hid hq
          clear hq
          cases r2
          all_goals
            go_wp2_with fail
            go_ret
            refine ⟨_, ?_, rfl, HB2.out⟩
            have h1 := HR.out
            have h2 := HR2.out
            have h3 := HQ.out
            simp only [true_iff, false_iff, Bool.false_eq_true] at h1 h2
            rw [names_9 HK4.out HK1.out HK.out]
            simp [h1, h2, h3]
    · have HK := Lib.hid k9
      go_wp2_with fail
      go_ret
      refine ⟨_, ?_, rfl, HB.out⟩
      have h1 := HN.out
      have h2 := HE.out
      simp only [true_iff, false_iff, Bool.false_eq_true] at h1 h2
      rw [names_0 HK4.out HK1.out HK.out]
      simp [h1, h2]
end Go.Proofs.YtdfnjfelmfccjaaDoor
/- TmFields0: The contract of the model's l5Fields: the fields of a node are those of its kind. -/
namespace Go.Proofs.YtdfnjfelmfccjaaDoor
open Go Go.RowKit

def zeroT (t : Ty) : Prop := t.kind = 0 ∧ t.args.length = 0
def Tm.most (t : Tm) : Int := if t.kind = 2 then 10006 else if t.kind = 3 then 1 else 0
structure Tm.FieldsOk (t : Tm) : Prop where
  ty1 : (t.kind = 6 ∨ t.kind = 9) ↔ t.ty.valid = true
  ty2 : (t.kind = 6 ∨ t.kind = 9) ∨ zeroT t.ty
  res1 : t.kind = 9 ↔ t.res.valid = true
  res2 : t.kind = 9 ∨ zeroT t.res
  n : 0 ≤ t.n ∧ t.n ≤ t.most
  names : t.namesOk
theorem valid_lit {C : Nat → Prop} {t : Ty} {v : Value} {w : World} (h : TT w C t v) (hn : nodesS t.args ≤ 2097152) (b : Bool) (hb : t.valid = b) :
    Calls Tryd.prog 85 #[v] w fun e w' => e = .returned (.bool b) ∧ Below w.heap.size w w' := by
  refine (valid_any h hn).mono ?_
  rintro e w' ⟨r, hr, rfl, hw⟩
  exact ⟨by rw [hr, hb], hw⟩
theorem zlit {p : Prop} {a b : Bool} (h : a = true ↔ p) (h' : b = true ↔ p) : a = b := by
  cases a <;> cases b <;> simp_all
theorem keepR {w W w1 : World} {p1 p2 p3 : Addr} {v1 v2 v3 : Value} (hb1 : Below W.heap.size W w1) (h : W.cell? p1 = some v1 ∧ W.cell? p2 = some v2 ∧ W.cell? p3 = some v3 ∧ Below w.heap.size w W) :
    w1.cell? p1 = some v1 ∧ w1.cell? p2 = some v2 ∧ w1.cell? p3 = some v3 ∧ Below w.heap.size w w1 := by
  have k : ∀ {p : Addr} {v : Value}, W.cell? p = some v → w1.cell? p = some v := fun {p v} hp => (hb1.cell (World.block_lt_of_cell? W _ hp)).trans hp
  exact ⟨k h.1, k h.2.1, k h.2.2.1, h.2.2.2.trans (hb1.mono h.2.2.2.size)⟩
theorem zeroS_yes {k : Int} {p : Option Addr} {n c : Nat} (h : k = 0 ∧ n = 0) (w : World) : Calls Tryd.prog 86 #[.agg #[.int .i64 k, .slice p n c]] w fun e w' => e = .returned (.bool true) ∧ Below w.heap.size w w' := by
  refine (zeroS_any k p n c w).mono ?_
  rintro e w' ⟨r, hr, rfl, hw⟩
  exact ⟨by rw [hr.2 h], hw⟩
theorem zeroS_no {k : Int} {p : Option Addr} {n c : Nat} (h : ¬ (k = 0 ∧ n = 0)) (w : World) : Calls Tryd.prog 86 #[.agg #[.int .i64 k, .slice p n c]] w fun e w' => e = .returned (.bool false) ∧ Below w.heap.size w w' := by
  refine (zeroS_any k p n c w).mono ?_
  rintro e w' ⟨r, hr, rfl, hw⟩
  exact ⟨by rw [Bool.eq_false_iff.2 (fun e => h (hr.1 e))], hw⟩

end Go.Proofs.YtdfnjfelmfccjaaDoor
/- TmFieldsSix: The contract of the model's l5Fields: one sort of kinds. -/
namespace Go.Proofs.YtdfnjfelmfccjaaDoor
open Go Go.RowKit

set_option maxRecDepth 100000 in
set_option maxHeartbeats 8000000 in
theorem fieldsSSix {C : Nat → Prop} (t : Tm) (tp : Option Addr) (tc : Nat) (rp : Option Addr) (rc : Nat) (p : Option Addr) (c : Nat) (w : World) (hT : TM' w C t tp tc rp rc p c) (hn : t.wt ≤ 2097152) (k : t.kind = 6) :
    Calls Tryd.prog 66 #[tmV t tp tc rp rc p c] w (Tells t.FieldsOk w) := by
  have hw := t.wt_eq
  have n1 : nodesS t.ty.args ≤ 2097152 := by omega
  have n2 : nodesS t.res.args ≤ 2097152 := by omega
  have HB := Lib.hid (al_below w (.cells (tmC t tp tc rp rc p c) 36))
  have HX := Lib.hid (Bx9.new w t tp tc rp rc p c 36)
  have HTY := Lib.hid (fun (W : World) (hW : Below w.heap.size w W) => (⟨_, rfl, hT.ty.keep hW⟩ : TT W C t.ty (.agg #[.int .i64 t.ty.kind, .slice tp t.ty.args.length tc])))
  have HRS := Lib.hid (fun (W : World) (hW : Below w.heap.size w W) => (⟨_, rfl, hT.res.keep hW⟩ : TT W C t.res (.agg #[.int .i64 t.res.kind, .slice rp t.res.args.length rc])))
  have HNM := Lib.hid (fun W => namesS_any t tp tc rp rc p c W (by omega) (by omega))
  clear hT hw hn
  cases hvt : t.ty.valid
  all_goals
    cases hvr : t.res.valid
  all_goals
    have HVT := Lib.hid hvt
    have HVR0 := Lib.hid hvr
    have HVTC := Lib.hid (fun W hW => valid_lit (HTY.out W hW) n1 _ HVT.out)
    have HVRC := Lib.hid (fun W hW => valid_lit (HRS.out W hW) n2 _ HVR0.out)
    clear hvt hvr
  all_goals
    go_enter Tryd.func66, Tryd.ntmps66
  · have HK := Lib.hid k
    have ka := Int.le_of_eq k
    have kb := Int.le_of_eq k.symm
    have e9 : (t.kind == 9) = false := by simp [k]
    have n9 : (t.kind != 9) = true := by simp [k]
    have e6 : (t.kind == 6) = true := by simp [k]
    clear k ka kb
    go_wp2_with fail
    refine (HVTC.out _ HB.out).mono ?_
    rintro e w1 ⟨rfl, hb1⟩
    have HB1 := Lib.hid (HB.out.trans (hb1.mono HB.out.size))
    have HX1 := Lib.hid (HX.out.keep hb1)
    obtain ⟨g0, g1, g2, g3, g4, g5, g6, g7, g8⟩ := HX.out.keep hb1
    clear hb1
    go_wp2_with fail
    go_ret
    exact ⟨_, lit_f (fun h => by have := h.ty1.1 (Or.inl HK.out); rw [HVT.out] at this; cases this), rfl, HB1.out⟩
  · have HK := Lib.hid k
    have ka := Int.le_of_eq k
    have kb := Int.le_of_eq k.symm
    have e9 : (t.kind == 9) = false := by simp [k]
    have n9 : (t.kind != 9) = true := by simp [k]
    have e6 : (t.kind == 6) = true := by simp [k]
    clear k ka kb
    go_wp2_with fail
    refine (HVTC.out _ HB.out).mono ?_
    rintro e w1 ⟨rfl, hb1⟩
    have HB1 := Lib.hid (HB.out.trans (hb1.mono HB.out.size))
    have HX1 := Lib.hid (HX.out.keep hb1)
    obtain ⟨g0, g1, g2, g3, g4, g5, g6, g7, g8⟩ := HX.out.keep hb1
    clear hb1
    go_wp2_with fail
    go_ret
    exact ⟨_, lit_f (fun h => by have := h.ty1.1 (Or.inl HK.out); rw [HVT.out] at this; cases this), rfl, HB1.out⟩
  · have HK := Lib.hid k
    have ka := Int.le_of_eq k
    have kb := Int.le_of_eq k.symm
    have e9 : (t.kind == 9) = false := by simp [k]
    have n9 : (t.kind != 9) = true := by simp [k]
    have e6 : (t.kind == 6) = true := by simp [k]
    clear k ka kb
    go_wp2_with fail
    refine (HVTC.out _ HB.out).mono ?_
    rintro e w1 ⟨rfl, hb1⟩
    have HB1 := Lib.hid (HB.out.trans (hb1.mono HB.out.size))
    have HX1 := Lib.hid (HX.out.keep hb1)
    obtain ⟨g0, g1, g2, g3, g4, g5, g6, g7, g8⟩ := HX.out.keep hb1
    clear hb1
    have HVR := Lib.hid (HVRC.out w1.drew HB1.out.drew)
    by_cases z2 : t.res.kind = 0 ∧ t.res.args.length = 0
    · have HZ2 := Lib.hid z2
      have HZC := Lib.hid (fun W => zeroS_yes (p := rp) (c := rc) z2 W)
      clear z2
      go_wp2_with fail
      go_region_held3 (fun w' => w'.cell? ⟨w.heap.size, 0, none⟩ = some (.int .i64 t.kind) ∧ w'.cell? ⟨w.heap.size, 6, none⟩ = some (.int .i64 t.res.kind) ∧ w'.cell? ⟨w.heap.size, 7, none⟩ = some (.slice rp t.res.args.length rc) ∧ Below w.heap.size w w')
        (first
          | (go_keep; done)
          | exact ⟨g0, g6, g7, HB1.out.drew⟩
          | exact keepR hb6 (by assumption)
          | exact keepR hb5 (by assumption))
        (first
          | (go_at_call 85; refine HVR.out.mono ?_; rintro e w5 ⟨rfl, hb5⟩)
          | (go_at_call 86; refine (HZC.out _).mono ?_; rintro e w6 ⟨rfl, hb6⟩))
      rename_i hH
      clear hH
      have hbd : Below w1.heap.size w1 _ := ((Below.refl _ _).drew.trans hb5).trans (hb6.mono (by have := hb5.size; exact this))
      have HBW := Lib.hid (HB1.out.trans (hbd.mono HB1.out.size))
      clear g0 g1 g2 g3 g4 g5 g6 g7 g8
      obtain ⟨g0, g1, g2, g3, g4, g5, g6, g7, g8⟩ := HX1.out.keep hbd
      clear hbd hb5 hb6
      by_cases hin : 0 ≤ t.n ∧ t.n ≤ 0
      · have hd : decide (0 ≤ t.n ∧ t.n ≤ 0) = true := decide_eq_true hin
        have HIN := Lib.hid hin
        clear hin
        go_wp2_with fail
        refine (in_any _ _ _ _).mono ?_
        rintro e w' ⟨rfl, rfl⟩
        go_wp2_with fail
        refine (HNM.out _).mono ?_
        rintro e w9 ⟨r, hr, rfl, hb9⟩
        have HR9 := Lib.hid hr
        have HB9 := Lib.hid (HBW.out.trans (hb9.mono HBW.out.size))
        clear hr hb9
        go_wp2_with fail
        go_ret
        exact ⟨_, HR9.out.trans ⟨fun h => ⟨⟨fun _ => HVT.out, fun _ => Or.inl HK.out⟩, Or.inl (Or.inl HK.out), ⟨(fun e => by have := HK.out; omega), fun e => by rw [HVR0.out] at e; cases e⟩, Or.inr HZ2.out, by rw [Tm.most, if_neg (by have := HK.out; omega), if_neg (by have := HK.out; omega)]; exact HIN.out, h⟩, fun h => h.names⟩, rfl, HB9.out⟩
      · have hd : decide (0 ≤ t.n ∧ t.n ≤ 0) = false := decide_eq_false hin
        have HIN := Lib.hid hin
        clear hin
        go_wp2_with fail
        refine (in_any _ _ _ _).mono ?_
        rintro e w' ⟨rfl, rfl⟩
        go_wp2_with fail
        go_ret
        exact ⟨_, lit_f (fun h => HIN.out (by have := h.n; rwa [Tm.most, if_neg (by have := HK.out; omega), if_neg (by have := HK.out; omega)] at this)), rfl, HBW.out⟩
    · have HZ2 := Lib.hid z2
      have HZC := Lib.hid (fun W => zeroS_no (p := rp) (c := rc) z2 W)
      clear z2
      go_wp2_with fail
      go_region_held3 (fun w' => w'.cell? ⟨w.heap.size, 0, none⟩ = some (.int .i64 t.kind) ∧ w'.cell? ⟨w.heap.size, 6, none⟩ = some (.int .i64 t.res.kind) ∧ w'.cell? ⟨w.heap.size, 7, none⟩ = some (.slice rp t.res.args.length rc) ∧ Below w.heap.size w w')
        (first
          | (go_keep; done)
          | exact ⟨g0, g6, g7, HB1.out.drew⟩
          | exact keepR hb6 (by assumption)
          | exact keepR hb5 (by assumption))
        (first
          | (go_at_call 85; refine HVR.out.mono ?_; rintro e w5 ⟨rfl, hb5⟩)
          | (go_at_call 86; refine (HZC.out _).mono ?_; rintro e w6 ⟨rfl, hb6⟩))
      rename_i hH
      clear hH
      have hbd : Below w1.heap.size w1 _ := ((Below.refl _ _).drew.trans hb5).trans (hb6.mono (by have := hb5.size; exact this))
      have HBW := Lib.hid (HB1.out.trans (hbd.mono HB1.out.size))
      clear g0 g1 g2 g3 g4 g5 g6 g7 g8
      obtain ⟨g0, g1, g2, g3, g4, g5, g6, g7, g8⟩ := HX1.out.keep hbd
      clear hbd hb5 hb6
      go_wp2_with fail
      go_ret
      exact ⟨_, lit_f (fun h => h.res2.elim (fun e => by have := HK.out; omega) HZ2.out), rfl, HBW.out⟩
  · have HK := Lib.hid k
    have ka := Int.le_of_eq k
    have kb := Int.le_of_eq k.symm
    have e9 : (t.kind == 9) = false := by simp [k]
    have n9 : (t.kind != 9) = true := by simp [k]
    have e6 : (t.kind == 6) = true := by simp [k]
    clear k ka kb
    go_wp2_with fail
    refine (HVTC.out _ HB.out).mono ?_
    rintro e w1 ⟨rfl, hb1⟩
    have HB1 := Lib.hid (HB.out.trans (hb1.mono HB.out.size))
    have HX1 := Lib.hid (HX.out.keep hb1)
    obtain ⟨g0, g1, g2, g3, g4, g5, g6, g7, g8⟩ := HX.out.keep hb1
    clear hb1
    have HVR := Lib.hid (HVRC.out w1.drew HB1.out.drew)
    go_wp2_with fail
    refine wp_region_noPanic ?_
    refine wp_region_held_drew (S := (fun w' => w'.cell? ⟨w.heap.size, 0, none⟩ = some (.int .i64 t.kind) ∧ w'.cell? ⟨w.heap.size, 6, none⟩ = some (.int .i64 t.res.kind) ∧ w'.cell? ⟨w.heap.size, 7, none⟩ = some (.slice rp t.res.args.length rc) ∧ Below w.heap.size w w')) (by kernel_rfl) ?_ (fun hHeld => ?_)
    · try dsimp only
      exact ⟨g0, g6, g7, HB1.out.drew⟩
    refine wpAnyH_take (i := 0) (oi := ({ dst := some 28, op := Op.fieldAddr 36 (Operand.tmp 1) 0, type := 0, pos := "l05_term.go:67", after := #[], guard := none } : Oper)) (v := ?_) rfl (by kernel_rfl) (by kernel_rfl) (by kernel_rfl) (fun _ _ _ h => h) (Or.inl ⟨by rfl, ?_⟩) (by assumption) ?_
    rotate_left
    · intro w hSw
      try dsimp only at hSw
      go_simp
      try with_reducible rfl
    try simp only [Act.put, List.setIfInBounds_toArray, List.set_cons_zero, List.set_cons_succ]
    refine wpAnyH_take (i := 1) (oi := ({ dst := some 29, op := Op.load 3 (Operand.tmp 28), type := 3, pos := "l05_term.go:67", after := #[{ on := 0, ground := Ground.data }], guard := none } : Oper)) (v := ?_) rfl (by kernel_rfl) (by kernel_rfl) (by kernel_rfl) (fun _ _ _ h => h) (Or.inl ⟨by rfl, ?_⟩) (by assumption) ?_
    rotate_left
    · intro w hSw
      try dsimp only at hSw
      go_simp
      try with_reducible rfl
    try simp only [Act.put, List.setIfInBounds_toArray, List.set_cons_zero, List.set_cons_succ]
    refine wpAnyH_take (i := 2) (oi := ({ dst := some 30, op := Op.binOp BinOp.eql 3 (Operand.tmp 29) (Operand.const (Value.int IntKind.i64 9)) 3, type := 4, pos := "l05_term.go:67", after := #[{ on := 1, ground := Ground.data }], guard := none } : Oper)) (v := ?_) rfl (by kernel_rfl) (by kernel_rfl) (by kernel_rfl) (fun _ _ _ h => h) (Or.inl ⟨by rfl, ?_⟩) (by assumption) ?_
    rotate_left
    · intro w hSw
      try dsimp only at hSw
      go_simp
      try with_reducible rfl
    try simp only [Act.put, List.setIfInBounds_toArray, List.set_cons_zero, List.set_cons_succ]
    refine wpAnyH_take (i := 3) (oi := ({ dst := some 31, op := Op.fieldAddr 36 (Operand.tmp 1) 5, type := 0, pos := "l05_term.go:67", after := #[], guard := none } : Oper)) (v := ?_) rfl (by kernel_rfl) (by kernel_rfl) (by kernel_rfl) (fun _ _ _ h => h) (Or.inl ⟨by rfl, ?_⟩) (by assumption) ?_
    rotate_left
    · intro w hSw
      try dsimp only at hSw
      go_simp
      try with_reducible rfl
    try simp only [Act.put, List.setIfInBounds_toArray, List.set_cons_zero, List.set_cons_succ]
    refine wpAnyH_take (i := 4) (oi := ({ dst := some 32, op := Op.load 33 (Operand.tmp 31), type := 33, pos := "l05_term.go:67", after := #[{ on := 3, ground := Ground.data }], guard := none } : Oper)) (v := ?_) rfl (by kernel_rfl) (by kernel_rfl) (by kernel_rfl) (fun _ _ _ h => h) (Or.inl ⟨by rfl, ?_⟩) (by assumption) ?_
    rotate_left
    · intro w hSw
      try dsimp only at hSw
      go_simp
      try with_reducible rfl
    try simp only [Act.put, List.setIfInBounds_toArray, List.set_cons_zero, List.set_cons_succ]
    refine wpAnyH_ready (rs := [5]) (by kernel_rfl) (by simp) ?_
    refine AllReadyH.cons (o := ({ dst := some 33, op := Op.call { callee := Callee.value (Operand.func 85), args := #[Operand.tmp 32], argTypes := #[33] }, type := 4, pos := "l05_term.go:67", after := #[{ on := 4, ground := Ground.data }], guard := none } : Oper)) rfl (fun K hK => ?_) AllReadyH.nil
    go_simp
    (go_at_call 85; refine HVR.out.mono ?_; rintro e w5 ⟨rfl, hb5⟩)
    refine hK.out _ _ ?_ (fun hHeld1 => ?_)
    · try dsimp only
      exact keepR hb5 (by assumption)
    clear hK K
    try simp only [Act.put, List.setIfInBounds_toArray, List.set_cons_zero, List.set_cons_succ]
    refine wpAnyH_take (i := 6) (oi := ({ dst := some 34, op := Op.binOp BinOp.neq 4 (Operand.tmp 30) (Operand.tmp 33) 4, type := 4, pos := "l05_term.go:67", after := #[{ on := 2, ground := Ground.data }, { on := 5, ground := Ground.data }], guard := none } : Oper)) (v := ?_) rfl (by kernel_rfl) (by kernel_rfl) (by kernel_rfl) (fun _ _ _ h => h) (Or.inl ⟨by rfl, ?_⟩) (by assumption) ?_
    rotate_left
    · intro w hSw
      try dsimp only at hSw
      go_simp
      try with_reducible rfl
    try simp only [Act.put, List.setIfInBounds_toArray, List.set_cons_zero, List.set_cons_succ]
    refine wpAnyH_take (i := 7) (oi := ({ dst := some 35, op := Op.move (Operand.tmp 34), type := 4, pos := "l05_term.go:67", after := #[{ on := 6, ground := Ground.data }, { on := 5, ground := Ground.chain }], guard := none } : Oper)) (v := ?_) rfl (by kernel_rfl) (by kernel_rfl) (by kernel_rfl) (fun _ _ _ h => h) (Or.inl ⟨by rfl, ?_⟩) (by assumption) ?_
    rotate_left
    · intro w hSw
      try dsimp only at hSw
      go_simp
      try with_reducible rfl
    try simp only [Act.put, List.setIfInBounds_toArray, List.set_cons_zero, List.set_cons_succ]
    refine wpAnyH_take (i := 8) (oi := ({ dst := some 36, op := Op.fieldAddr 36 (Operand.tmp 1) 0, type := 0, pos := "l05_term.go:67", after := #[{ on := 7, ground := Ground.guard }], guard := some (7, false) } : Oper)) (v := undef) rfl (by kernel_rfl) (by kernel_rfl) (by kernel_rfl) (fun _ _ _ h => h) (Or.inr ⟨by rfl, rfl⟩) (by assumption) ?_
    try simp only [Act.put, List.setIfInBounds_toArray, List.set_cons_zero, List.set_cons_succ]
    refine wpAnyH_take (i := 9) (oi := ({ dst := some 37, op := Op.load 3 (Operand.tmp 36), type := 3, pos := "l05_term.go:67", after := #[{ on := 8, ground := Ground.data }, { on := 7, ground := Ground.guard }], guard := some (7, false) } : Oper)) (v := undef) rfl (by kernel_rfl) (by kernel_rfl) (by kernel_rfl) (fun _ _ _ h => h) (Or.inr ⟨by rfl, rfl⟩) (by assumption) ?_
    try simp only [Act.put, List.setIfInBounds_toArray, List.set_cons_zero, List.set_cons_succ]
    refine wpAnyH_take (i := 10) (oi := ({ dst := some 38, op := Op.binOp BinOp.neq 3 (Operand.tmp 37) (Operand.const (Value.int IntKind.i64 9)) 3, type := 4, pos := "l05_term.go:67", after := #[{ on := 9, ground := Ground.data }, { on := 7, ground := Ground.guard }], guard := some (7, false) } : Oper)) (v := undef) rfl (by kernel_rfl) (by kernel_rfl) (by kernel_rfl) (fun _ _ _ h => h) (Or.inr ⟨by rfl, rfl⟩) (by assumption) ?_
    try simp only [Act.put, List.setIfInBounds_toArray, List.set_cons_zero, List.set_cons_succ]
    refine wpAnyH_take (i := 11) (oi := ({ dst := some 39, op := Op.move (Operand.tmp 38), type := 4, pos := "l05_term.go:67", after := #[{ on := 10, ground := Ground.data }, { on := 7, ground := Ground.chain }, { on := 7, ground := Ground.guard }], guard := some (7, false) } : Oper)) (v := undef) rfl (by kernel_rfl) (by kernel_rfl) (by kernel_rfl) (fun _ _ _ h => h) (Or.inr ⟨by rfl, rfl⟩) (by assumption) ?_
    try simp only [Act.put, List.setIfInBounds_toArray, List.set_cons_zero, List.set_cons_succ]
    refine wpAnyH_take (i := 12) (oi := ({ dst := some 40, op := Op.fieldAddr 36 (Operand.tmp 1) 5, type := 0, pos := "l05_term.go:67", after := #[{ on := 11, ground := Ground.guard }], guard := some (11, true) } : Oper)) (v := undef) rfl (by kernel_rfl) (by kernel_rfl) (by kernel_rfl) (fun _ _ _ h => h) (Or.inr ⟨by rfl, rfl⟩) (by assumption) ?_
    try simp only [Act.put, List.setIfInBounds_toArray, List.set_cons_zero, List.set_cons_succ]
    refine wpAnyH_take (i := 13) (oi := ({ dst := some 41, op := Op.load 33 (Operand.tmp 40), type := 33, pos := "l05_term.go:67", after := #[{ on := 12, ground := Ground.data }, { on := 11, ground := Ground.guard }], guard := some (11, true) } : Oper)) (v := undef) rfl (by kernel_rfl) (by kernel_rfl) (by kernel_rfl) (fun _ _ _ h => h) (Or.inr ⟨by rfl, rfl⟩) (by assumption) ?_
    try simp only [Act.put, List.setIfInBounds_toArray, List.set_cons_zero, List.set_cons_succ]
    refine wpAnyH_take (i := 14) (oi := ({ dst := some 42, op := Op.call { callee := Callee.value (Operand.func 86), args := #[Operand.tmp 41], argTypes := #[33] }, type := 4, pos := "l05_term.go:67", after := #[{ on := 13, ground := Ground.data }, { on := 11, ground := Ground.chain }, { on := 11, ground := Ground.guard }], guard := some (11, true) } : Oper)) (v := undef) rfl (by kernel_rfl) (by kernel_rfl) (by kernel_rfl) (fun _ _ _ h => h) (Or.inr ⟨by rfl, rfl⟩) (by assumption) ?_
    try simp only [Act.put, List.setIfInBounds_toArray, List.set_cons_zero, List.set_cons_succ]
    refine wpAnyH_take (i := 15) (oi := ({ dst := some 43, op := Op.unOp UnOp.not 4 (Operand.tmp 42), type := 4, pos := "l05_term.go:67", after := #[{ on := 14, ground := Ground.data }, { on := 11, ground := Ground.guard }], guard := some (11, true) } : Oper)) (v := undef) rfl (by kernel_rfl) (by kernel_rfl) (by kernel_rfl) (fun _ _ _ h => h) (Or.inr ⟨by rfl, rfl⟩) (by assumption) ?_
    try simp only [Act.put, List.setIfInBounds_toArray, List.set_cons_zero, List.set_cons_succ]
    refine wpAnyH_take (i := 16) (oi := ({ dst := some 44, op := Op.pick (Operand.tmp 39) (Operand.tmp 43) (Operand.const (Value.bool false)), type := 4, pos := "l05_term.go:67", after := #[{ on := 11, ground := Ground.data }, { on := 15, ground := Ground.data }, { on := 7, ground := Ground.guard }], guard := some (7, false) } : Oper)) (v := undef) rfl (by kernel_rfl) (by kernel_rfl) (by kernel_rfl) (fun _ _ _ h => h) (Or.inr ⟨by rfl, rfl⟩) (by assumption) ?_
    try simp only [Act.put, List.setIfInBounds_toArray, List.set_cons_zero, List.set_cons_succ]
    refine wpAnyH_take (i := 17) (oi := ({ dst := some 45, op := Op.pick (Operand.tmp 35) (Operand.const (Value.bool true)) (Operand.tmp 44), type := 4, pos := "l05_term.go:67", after := #[{ on := 7, ground := Ground.data }, { on := 16, ground := Ground.data }], guard := none } : Oper)) (v := ?_) rfl (by kernel_rfl) (by kernel_rfl) (by kernel_rfl) (fun _ _ _ h => h) (Or.inl ⟨by rfl, ?_⟩) (by assumption) ?_
    rotate_left
    · intro w hSw
      try dsimp only at hSw
      go_simp
      try with_reducible rfl
    try simp only [Act.put, List.setIfInBounds_toArray, List.set_cons_zero, List.set_cons_succ]
    refine wpAnyH_done (by kernel_rfl) ?_ _
    refine NoPanic.normal ?_
    clear hHeld hHeld1
    have HBW := Lib.hid (HB1.out.trans (((Below.refl _ _).drew.trans hb5).mono HB1.out.size))
    clear hb5
    go_wp2_with fail
    go_ret
    exact ⟨_, lit_f (fun h => by have := h.res1.2 HVR0.out; have := HK.out; omega), rfl, HBW.out⟩
end Go.Proofs.YtdfnjfelmfccjaaDoor
/- TmFieldsNine: The contract of the model's l5Fields: one sort of kinds. -/
namespace Go.Proofs.YtdfnjfelmfccjaaDoor
open Go Go.RowKit

set_option maxRecDepth 100000 in
set_option maxHeartbeats 8000000 in
theorem fieldsSNine {C : Nat → Prop} (t : Tm) (tp : Option Addr) (tc : Nat) (rp : Option Addr) (rc : Nat) (p : Option Addr) (c : Nat) (w : World) (hT : TM' w C t tp tc rp rc p c) (hn : t.wt ≤ 2097152) (k : t.kind = 9) :
    Calls Tryd.prog 66 #[tmV t tp tc rp rc p c] w (Tells t.FieldsOk w) := by
  have hw := t.wt_eq
  have n1 : nodesS t.ty.args ≤ 2097152 := by omega
  have n2 : nodesS t.res.args ≤ 2097152 := by omega
  have HB := Lib.hid (al_below w (.cells (tmC t tp tc rp rc p c) 36))
  have HX := Lib.hid (Bx9.new w t tp tc rp rc p c 36)
  have HTY := Lib.hid (fun (W : World) (hW : Below w.heap.size w W) => (⟨_, rfl, hT.ty.keep hW⟩ : TT W C t.ty (.agg #[.int .i64 t.ty.kind, .slice tp t.ty.args.length tc])))
  have HRS := Lib.hid (fun (W : World) (hW : Below w.heap.size w W) => (⟨_, rfl, hT.res.keep hW⟩ : TT W C t.res (.agg #[.int .i64 t.res.kind, .slice rp t.res.args.length rc])))
  have HNM := Lib.hid (fun W => namesS_any t tp tc rp rc p c W (by omega) (by omega))
  clear hT hw hn
  cases hvt : t.ty.valid
  all_goals
    cases hvr : t.res.valid
  all_goals
    have HVT := Lib.hid hvt
    have HVR0 := Lib.hid hvr
    have HVTC := Lib.hid (fun W hW => valid_lit (HTY.out W hW) n1 _ HVT.out)
    have HVRC := Lib.hid (fun W hW => valid_lit (HRS.out W hW) n2 _ HVR0.out)
    clear hvt hvr
  all_goals
    go_enter Tryd.func66, Tryd.ntmps66
  · have HK := Lib.hid k
    have ka := Int.le_of_eq k
    have kb := Int.le_of_eq k.symm
    have e9 : (t.kind == 9) = true := by simp [k]
    have n9 : (t.kind != 9) = false := by simp [k]
    have e6 : (t.kind == 6) = false := by simp [k]
    clear k ka kb
    go_wp2_with fail
    refine (HVTC.out _ HB.out).mono ?_
    rintro e w1 ⟨rfl, hb1⟩
    have HB1 := Lib.hid (HB.out.trans (hb1.mono HB.out.size))
    have HX1 := Lib.hid (HX.out.keep hb1)
    obtain ⟨g0, g1, g2, g3, g4, g5, g6, g7, g8⟩ := HX.out.keep hb1
    clear hb1
    go_wp2_with fail
    go_ret
    exact ⟨_, lit_f (fun h => by have := h.ty1.1 (Or.inr HK.out); rw [HVT.out] at this; cases this), rfl, HB1.out⟩
  · have HK := Lib.hid k
    have ka := Int.le_of_eq k
    have kb := Int.le_of_eq k.symm
    have e9 : (t.kind == 9) = true := by simp [k]
    have n9 : (t.kind != 9) = false := by simp [k]
    have e6 : (t.kind == 6) = false := by simp [k]
    clear k ka kb
    go_wp2_with fail
    refine (HVTC.out _ HB.out).mono ?_
    rintro e w1 ⟨rfl, hb1⟩
    have HB1 := Lib.hid (HB.out.trans (hb1.mono HB.out.size))
    have HX1 := Lib.hid (HX.out.keep hb1)
    obtain ⟨g0, g1, g2, g3, g4, g5, g6, g7, g8⟩ := HX.out.keep hb1
    clear hb1
    go_wp2_with fail
    go_ret
    exact ⟨_, lit_f (fun h => by have := h.ty1.1 (Or.inr HK.out); rw [HVT.out] at this; cases this), rfl, HB1.out⟩
  · have HK := Lib.hid k
    have ka := Int.le_of_eq k
    have kb := Int.le_of_eq k.symm
    have e9 : (t.kind == 9) = true := by simp [k]
    have n9 : (t.kind != 9) = false := by simp [k]
    have e6 : (t.kind == 6) = false := by simp [k]
    clear k ka kb
    go_wp2_with fail
    refine (HVTC.out _ HB.out).mono ?_
    rintro e w1 ⟨rfl, hb1⟩
    have HB1 := Lib.hid (HB.out.trans (hb1.mono HB.out.size))
    have HX1 := Lib.hid (HX.out.keep hb1)
    obtain ⟨g0, g1, g2, g3, g4, g5, g6, g7, g8⟩ := HX.out.keep hb1
    clear hb1
    have HVR := Lib.hid (HVRC.out w1.drew HB1.out.drew)
    go_wp2_with fail
    refine wp_region_noPanic ?_
    refine wp_region_held_drew (S := (fun w' => w'.cell? ⟨w.heap.size, 0, none⟩ = some (.int .i64 t.kind) ∧ w'.cell? ⟨w.heap.size, 6, none⟩ = some (.int .i64 t.res.kind) ∧ w'.cell? ⟨w.heap.size, 7, none⟩ = some (.slice rp t.res.args.length rc) ∧ Below w.heap.size w w')) (by kernel_rfl) ?_ (fun hHeld => ?_)
    · try dsimp only
      exact ⟨g0, g6, g7, HB1.out.drew⟩
    refine wpAnyH_take (i := 0) (oi := ({ dst := some 28, op := Op.fieldAddr 36 (Operand.tmp 1) 0, type := 0, pos := "l05_term.go:67", after := #[], guard := none } : Oper)) (v := ?_) rfl (by kernel_rfl) (by kernel_rfl) (by kernel_rfl) (fun _ _ _ h => h) (Or.inl ⟨by rfl, ?_⟩) (by assumption) ?_
    rotate_left
    · intro w hSw
      try dsimp only at hSw
      go_simp
      try with_reducible rfl
    try simp only [Act.put, List.setIfInBounds_toArray, List.set_cons_zero, List.set_cons_succ]
    refine wpAnyH_take (i := 1) (oi := ({ dst := some 29, op := Op.load 3 (Operand.tmp 28), type := 3, pos := "l05_term.go:67", after := #[{ on := 0, ground := Ground.data }], guard := none } : Oper)) (v := ?_) rfl (by kernel_rfl) (by kernel_rfl) (by kernel_rfl) (fun _ _ _ h => h) (Or.inl ⟨by rfl, ?_⟩) (by assumption) ?_
    rotate_left
    · intro w hSw
      try dsimp only at hSw
      go_simp
      try with_reducible rfl
    try simp only [Act.put, List.setIfInBounds_toArray, List.set_cons_zero, List.set_cons_succ]
    refine wpAnyH_take (i := 2) (oi := ({ dst := some 30, op := Op.binOp BinOp.eql 3 (Operand.tmp 29) (Operand.const (Value.int IntKind.i64 9)) 3, type := 4, pos := "l05_term.go:67", after := #[{ on := 1, ground := Ground.data }], guard := none } : Oper)) (v := ?_) rfl (by kernel_rfl) (by kernel_rfl) (by kernel_rfl) (fun _ _ _ h => h) (Or.inl ⟨by rfl, ?_⟩) (by assumption) ?_
    rotate_left
    · intro w hSw
      try dsimp only at hSw
      go_simp
      try with_reducible rfl
    try simp only [Act.put, List.setIfInBounds_toArray, List.set_cons_zero, List.set_cons_succ]
    refine wpAnyH_take (i := 3) (oi := ({ dst := some 31, op := Op.fieldAddr 36 (Operand.tmp 1) 5, type := 0, pos := "l05_term.go:67", after := #[], guard := none } : Oper)) (v := ?_) rfl (by kernel_rfl) (by kernel_rfl) (by kernel_rfl) (fun _ _ _ h => h) (Or.inl ⟨by rfl, ?_⟩) (by assumption) ?_
    rotate_left
    · intro w hSw
      try dsimp only at hSw
      go_simp
      try with_reducible rfl
    try simp only [Act.put, List.setIfInBounds_toArray, List.set_cons_zero, List.set_cons_succ]
    refine wpAnyH_take (i := 4) (oi := ({ dst := some 32, op := Op.load 33 (Operand.tmp 31), type := 33, pos := "l05_term.go:67", after := #[{ on := 3, ground := Ground.data }], guard := none } : Oper)) (v := ?_) rfl (by kernel_rfl) (by kernel_rfl) (by kernel_rfl) (fun _ _ _ h => h) (Or.inl ⟨by rfl, ?_⟩) (by assumption) ?_
    rotate_left
    · intro w hSw
      try dsimp only at hSw
      go_simp
      try with_reducible rfl
    try simp only [Act.put, List.setIfInBounds_toArray, List.set_cons_zero, List.set_cons_succ]
    refine wpAnyH_ready (rs := [5]) (by kernel_rfl) (by simp) ?_
    refine AllReadyH.cons (o := ({ dst := some 33, op := Op.call { callee := Callee.value (Operand.func 85), args := #[Operand.tmp 32], argTypes := #[33] }, type := 4, pos := "l05_term.go:67", after := #[{ on := 4, ground := Ground.data }], guard := none } : Oper)) rfl (fun K hK => ?_) AllReadyH.nil
    go_simp
    (go_at_call 85; refine HVR.out.mono ?_; rintro e w5 ⟨rfl, hb5⟩)
    refine hK.out _ _ ?_ (fun hHeld1 => ?_)
    · try dsimp only
      exact keepR hb5 (by assumption)
    clear hK K
    try simp only [Act.put, List.setIfInBounds_toArray, List.set_cons_zero, List.set_cons_succ]
    refine wpAnyH_take (i := 6) (oi := ({ dst := some 34, op := Op.binOp BinOp.neq 4 (Operand.tmp 30) (Operand.tmp 33) 4, type := 4, pos := "l05_term.go:67", after := #[{ on := 2, ground := Ground.data }, { on := 5, ground := Ground.data }], guard := none } : Oper)) (v := ?_) rfl (by kernel_rfl) (by kernel_rfl) (by kernel_rfl) (fun _ _ _ h => h) (Or.inl ⟨by rfl, ?_⟩) (by assumption) ?_
    rotate_left
    · intro w hSw
      try dsimp only at hSw
      go_simp
      try with_reducible rfl
    try simp only [Act.put, List.setIfInBounds_toArray, List.set_cons_zero, List.set_cons_succ]
    refine wpAnyH_take (i := 7) (oi := ({ dst := some 35, op := Op.move (Operand.tmp 34), type := 4, pos := "l05_term.go:67", after := #[{ on := 6, ground := Ground.data }, { on := 5, ground := Ground.chain }], guard := none } : Oper)) (v := ?_) rfl (by kernel_rfl) (by kernel_rfl) (by kernel_rfl) (fun _ _ _ h => h) (Or.inl ⟨by rfl, ?_⟩) (by assumption) ?_
    rotate_left
    · intro w hSw
      try dsimp only at hSw
      go_simp
      try with_reducible rfl
    try simp only [Act.put, List.setIfInBounds_toArray, List.set_cons_zero, List.set_cons_succ]
    refine wpAnyH_take (i := 8) (oi := ({ dst := some 36, op := Op.fieldAddr 36 (Operand.tmp 1) 0, type := 0, pos := "l05_term.go:67", after := #[{ on := 7, ground := Ground.guard }], guard := some (7, false) } : Oper)) (v := undef) rfl (by kernel_rfl) (by kernel_rfl) (by kernel_rfl) (fun _ _ _ h => h) (Or.inr ⟨by rfl, rfl⟩) (by assumption) ?_
    try simp only [Act.put, List.setIfInBounds_toArray, List.set_cons_zero, List.set_cons_succ]
    refine wpAnyH_take (i := 9) (oi := ({ dst := some 37, op := Op.load 3 (Operand.tmp 36), type := 3, pos := "l05_term.go:67", after := #[{ on := 8, ground := Ground.data }, { on := 7, ground := Ground.guard }], guard := some (7, false) } : Oper)) (v := undef) rfl (by kernel_rfl) (by kernel_rfl) (by kernel_rfl) (fun _ _ _ h => h) (Or.inr ⟨by rfl, rfl⟩) (by assumption) ?_
    try simp only [Act.put, List.setIfInBounds_toArray, List.set_cons_zero, List.set_cons_succ]
    refine wpAnyH_take (i := 10) (oi := ({ dst := some 38, op := Op.binOp BinOp.neq 3 (Operand.tmp 37) (Operand.const (Value.int IntKind.i64 9)) 3, type := 4, pos := "l05_term.go:67", after := #[{ on := 9, ground := Ground.data }, { on := 7, ground := Ground.guard }], guard := some (7, false) } : Oper)) (v := undef) rfl (by kernel_rfl) (by kernel_rfl) (by kernel_rfl) (fun _ _ _ h => h) (Or.inr ⟨by rfl, rfl⟩) (by assumption) ?_
    try simp only [Act.put, List.setIfInBounds_toArray, List.set_cons_zero, List.set_cons_succ]
    refine wpAnyH_take (i := 11) (oi := ({ dst := some 39, op := Op.move (Operand.tmp 38), type := 4, pos := "l05_term.go:67", after := #[{ on := 10, ground := Ground.data }, { on := 7, ground := Ground.chain }, { on := 7, ground := Ground.guard }], guard := some (7, false) } : Oper)) (v := undef) rfl (by kernel_rfl) (by kernel_rfl) (by kernel_rfl) (fun _ _ _ h => h) (Or.inr ⟨by rfl, rfl⟩) (by assumption) ?_
    try simp only [Act.put, List.setIfInBounds_toArray, List.set_cons_zero, List.set_cons_succ]
    refine wpAnyH_take (i := 12) (oi := ({ dst := some 40, op := Op.fieldAddr 36 (Operand.tmp 1) 5, type := 0, pos := "l05_term.go:67", after := #[{ on := 11, ground := Ground.guard }], guard := some (11, true) } : Oper)) (v := undef) rfl (by kernel_rfl) (by kernel_rfl) (by kernel_rfl) (fun _ _ _ h => h) (Or.inr ⟨by rfl, rfl⟩) (by assumption) ?_
    try simp only [Act.put, List.setIfInBounds_toArray, List.set_cons_zero, List.set_cons_succ]
    refine wpAnyH_take (i := 13) (oi := ({ dst := some 41, op := Op.load 33 (Operand.tmp 40), type := 33, pos := "l05_term.go:67", after := #[{ on := 12, ground := Ground.data }, { on := 11, ground := Ground.guard }], guard := some (11, true) } : Oper)) (v := undef) rfl (by kernel_rfl) (by kernel_rfl) (by kernel_rfl) (fun _ _ _ h => h) (Or.inr ⟨by rfl, rfl⟩) (by assumption) ?_
    try simp only [Act.put, List.setIfInBounds_toArray, List.set_cons_zero, List.set_cons_succ]
    refine wpAnyH_take (i := 14) (oi := ({ dst := some 42, op := Op.call { callee := Callee.value (Operand.func 86), args := #[Operand.tmp 41], argTypes := #[33] }, type := 4, pos := "l05_term.go:67", after := #[{ on := 13, ground := Ground.data }, { on := 11, ground := Ground.chain }, { on := 11, ground := Ground.guard }], guard := some (11, true) } : Oper)) (v := undef) rfl (by kernel_rfl) (by kernel_rfl) (by kernel_rfl) (fun _ _ _ h => h) (Or.inr ⟨by rfl, rfl⟩) (by assumption) ?_
    try simp only [Act.put, List.setIfInBounds_toArray, List.set_cons_zero, List.set_cons_succ]
    refine wpAnyH_take (i := 15) (oi := ({ dst := some 43, op := Op.unOp UnOp.not 4 (Operand.tmp 42), type := 4, pos := "l05_term.go:67", after := #[{ on := 14, ground := Ground.data }, { on := 11, ground := Ground.guard }], guard := some (11, true) } : Oper)) (v := undef) rfl (by kernel_rfl) (by kernel_rfl) (by kernel_rfl) (fun _ _ _ h => h) (Or.inr ⟨by rfl, rfl⟩) (by assumption) ?_
    try simp only [Act.put, List.setIfInBounds_toArray, List.set_cons_zero, List.set_cons_succ]
    refine wpAnyH_take (i := 16) (oi := ({ dst := some 44, op := Op.pick (Operand.tmp 39) (Operand.tmp 43) (Operand.const (Value.bool false)), type := 4, pos := "l05_term.go:67", after := #[{ on := 11, ground := Ground.data }, { on := 15, ground := Ground.data }, { on := 7, ground := Ground.guard }], guard := some (7, false) } : Oper)) (v := undef) rfl (by kernel_rfl) (by kernel_rfl) (by kernel_rfl) (fun _ _ _ h => h) (Or.inr ⟨by rfl, rfl⟩) (by assumption) ?_
    try simp only [Act.put, List.setIfInBounds_toArray, List.set_cons_zero, List.set_cons_succ]
    refine wpAnyH_take (i := 17) (oi := ({ dst := some 45, op := Op.pick (Operand.tmp 35) (Operand.const (Value.bool true)) (Operand.tmp 44), type := 4, pos := "l05_term.go:67", after := #[{ on := 7, ground := Ground.data }, { on := 16, ground := Ground.data }], guard := none } : Oper)) (v := ?_) rfl (by kernel_rfl) (by kernel_rfl) (by kernel_rfl) (fun _ _ _ h => h) (Or.inl ⟨by rfl, ?_⟩) (by assumption) ?_
    rotate_left
    · intro w hSw
      try dsimp only at hSw
      go_simp
      try with_reducible rfl
    try simp only [Act.put, List.setIfInBounds_toArray, List.set_cons_zero, List.set_cons_succ]
    refine wpAnyH_done (by kernel_rfl) ?_ _
    refine NoPanic.normal ?_
    clear hHeld hHeld1
    have HBW := Lib.hid (HB1.out.trans (((Below.refl _ _).drew.trans hb5).mono HB1.out.size))
    clear hb5
    go_wp2_with fail
    go_ret
    exact ⟨_, lit_f (fun h => by have := h.res1.1 HK.out; rw [HVR0.out] at this; cases this), rfl, HBW.out⟩
  · have HK := Lib.hid k
    have ka := Int.le_of_eq k
    have kb := Int.le_of_eq k.symm
    have e9 : (t.kind == 9) = true := by simp [k]
    have n9 : (t.kind != 9) = false := by simp [k]
    have e6 : (t.kind == 6) = false := by simp [k]
    clear k ka kb
    go_wp2_with fail
    refine (HVTC.out _ HB.out).mono ?_
    rintro e w1 ⟨rfl, hb1⟩
    have HB1 := Lib.hid (HB.out.trans (hb1.mono HB.out.size))
    have HX1 := Lib.hid (HX.out.keep hb1)
    obtain ⟨g0, g1, g2, g3, g4, g5, g6, g7, g8⟩ := HX.out.keep hb1
    clear hb1
    have HVR := Lib.hid (HVRC.out w1.drew HB1.out.drew)
    go_wp2_with fail
    refine wp_region_noPanic ?_
    refine wp_region_held_drew (S := (fun w' => w'.cell? ⟨w.heap.size, 0, none⟩ = some (.int .i64 t.kind) ∧ w'.cell? ⟨w.heap.size, 6, none⟩ = some (.int .i64 t.res.kind) ∧ w'.cell? ⟨w.heap.size, 7, none⟩ = some (.slice rp t.res.args.length rc) ∧ Below w.heap.size w w')) (by kernel_rfl) ?_ (fun hHeld => ?_)
    · try dsimp only
      exact ⟨g0, g6, g7, HB1.out.drew⟩
    refine wpAnyH_take (i := 0) (oi := ({ dst := some 28, op := Op.fieldAddr 36 (Operand.tmp 1) 0, type := 0, pos := "l05_term.go:67", after := #[], guard := none } : Oper)) (v := ?_) rfl (by kernel_rfl) (by kernel_rfl) (by kernel_rfl) (fun _ _ _ h => h) (Or.inl ⟨by rfl, ?_⟩) (by assumption) ?_
    rotate_left
    · intro w hSw
      try dsimp only at hSw
      go_simp
      try with_reducible rfl
    try simp only [Act.put, List.setIfInBounds_toArray, List.set_cons_zero, List.set_cons_succ]
    refine wpAnyH_take (i := 1) (oi := ({ dst := some 29, op := Op.load 3 (Operand.tmp 28), type := 3, pos := "l05_term.go:67", after := #[{ on := 0, ground := Ground.data }], guard := none } : Oper)) (v := ?_) rfl (by kernel_rfl) (by kernel_rfl) (by kernel_rfl) (fun _ _ _ h => h) (Or.inl ⟨by rfl, ?_⟩) (by assumption) ?_
    rotate_left
    · intro w hSw
      try dsimp only at hSw
      go_simp
      try with_reducible rfl
    try simp only [Act.put, List.setIfInBounds_toArray, List.set_cons_zero, List.set_cons_succ]
    refine wpAnyH_take (i := 2) (oi := ({ dst := some 30, op := Op.binOp BinOp.eql 3 (Operand.tmp 29) (Operand.const (Value.int IntKind.i64 9)) 3, type := 4, pos := "l05_term.go:67", after := #[{ on := 1, ground := Ground.data }], guard := none } : Oper)) (v := ?_) rfl (by kernel_rfl) (by kernel_rfl) (by kernel_rfl) (fun _ _ _ h => h) (Or.inl ⟨by rfl, ?_⟩) (by assumption) ?_
    rotate_left
    · intro w hSw
      try dsimp only at hSw
      go_simp
      try with_reducible rfl
    try simp only [Act.put, List.setIfInBounds_toArray, List.set_cons_zero, List.set_cons_succ]
    refine wpAnyH_take (i := 3) (oi := ({ dst := some 31, op := Op.fieldAddr 36 (Operand.tmp 1) 5, type := 0, pos := "l05_term.go:67", after := #[], guard := none } : Oper)) (v := ?_) rfl (by kernel_rfl) (by kernel_rfl) (by kernel_rfl) (fun _ _ _ h => h) (Or.inl ⟨by rfl, ?_⟩) (by assumption) ?_
    rotate_left
    · intro w hSw
      try dsimp only at hSw
      go_simp
      try with_reducible rfl
    try simp only [Act.put, List.setIfInBounds_toArray, List.set_cons_zero, List.set_cons_succ]
    refine wpAnyH_take (i := 4) (oi := ({ dst := some 32, op := Op.load 33 (Operand.tmp 31), type := 33, pos := "l05_term.go:67", after := #[{ on := 3, ground := Ground.data }], guard := none } : Oper)) (v := ?_) rfl (by kernel_rfl) (by kernel_rfl) (by kernel_rfl) (fun _ _ _ h => h) (Or.inl ⟨by rfl, ?_⟩) (by assumption) ?_
    rotate_left
    · intro w hSw
      try dsimp only at hSw
      go_simp
      try with_reducible rfl
    try simp only [Act.put, List.setIfInBounds_toArray, List.set_cons_zero, List.set_cons_succ]
    refine wpAnyH_ready (rs := [5]) (by kernel_rfl) (by simp) ?_
    refine AllReadyH.cons (o := ({ dst := some 33, op := Op.call { callee := Callee.value (Operand.func 85), args := #[Operand.tmp 32], argTypes := #[33] }, type := 4, pos := "l05_term.go:67", after := #[{ on := 4, ground := Ground.data }], guard := none } : Oper)) rfl (fun K hK => ?_) AllReadyH.nil
    go_simp
    (go_at_call 85; refine HVR.out.mono ?_; rintro e w5 ⟨rfl, hb5⟩)
    refine hK.out _ _ ?_ (fun hHeld1 => ?_)
    · try dsimp only
      exact keepR hb5 (by assumption)
    clear hK K
    try simp only [Act.put, List.setIfInBounds_toArray, List.set_cons_zero, List.set_cons_succ]
    refine wpAnyH_take (i := 6) (oi := ({ dst := some 34, op := Op.binOp BinOp.neq 4 (Operand.tmp 30) (Operand.tmp 33) 4, type := 4, pos := "l05_term.go:67", after := #[{ on := 2, ground := Ground.data }, { on := 5, ground := Ground.data }], guard := none } : Oper)) (v := ?_) rfl (by kernel_rfl) (by kernel_rfl) (by kernel_rfl) (fun _ _ _ h => h) (Or.inl ⟨by rfl, ?_⟩) (by assumption) ?_
    rotate_left
    · intro w hSw
      try dsimp only at hSw
      go_simp
      try with_reducible rfl
    try simp only [Act.put, List.setIfInBounds_toArray, List.set_cons_zero, List.set_cons_succ]
    refine wpAnyH_take (i := 7) (oi := ({ dst := some 35, op := Op.move (Operand.tmp 34), type := 4, pos := "l05_term.go:67", after := #[{ on := 6, ground := Ground.data }, { on := 5, ground := Ground.chain }], guard := none } : Oper)) (v := ?_) rfl (by kernel_rfl) (by kernel_rfl) (by kernel_rfl) (fun _ _ _ h => h) (Or.inl ⟨by rfl, ?_⟩) (by assumption) ?_
    rotate_left
    · intro w hSw
      try dsimp only at hSw
      go_simp
      try with_reducible rfl
    try simp only [Act.put, List.setIfInBounds_toArray, List.set_cons_zero, List.set_cons_succ]
    refine wpAnyH_take (i := 8) (oi := ({ dst := some 36, op := Op.fieldAddr 36 (Operand.tmp 1) 0, type := 0, pos := "l05_term.go:67", after := #[{ on := 7, ground := Ground.guard }], guard := some (7, false) } : Oper)) (v := ?_) rfl (by kernel_rfl) (by kernel_rfl) (by kernel_rfl) (fun _ _ _ h => h) (Or.inl ⟨by rfl, ?_⟩) (by assumption) ?_
    rotate_left
    · intro w hSw
      try dsimp only at hSw
      go_simp
      try with_reducible rfl
    try simp only [Act.put, List.setIfInBounds_toArray, List.set_cons_zero, List.set_cons_succ]
    refine wpAnyH_take (i := 9) (oi := ({ dst := some 37, op := Op.load 3 (Operand.tmp 36), type := 3, pos := "l05_term.go:67", after := #[{ on := 8, ground := Ground.data }, { on := 7, ground := Ground.guard }], guard := some (7, false) } : Oper)) (v := ?_) rfl (by kernel_rfl) (by kernel_rfl) (by kernel_rfl) (fun _ _ _ h => h) (Or.inl ⟨by rfl, ?_⟩) (by assumption) ?_
    rotate_left
    · intro w hSw
      try dsimp only at hSw
      go_simp
      try with_reducible rfl
    try simp only [Act.put, List.setIfInBounds_toArray, List.set_cons_zero, List.set_cons_succ]
    refine wpAnyH_take (i := 10) (oi := ({ dst := some 38, op := Op.binOp BinOp.neq 3 (Operand.tmp 37) (Operand.const (Value.int IntKind.i64 9)) 3, type := 4, pos := "l05_term.go:67", after := #[{ on := 9, ground := Ground.data }, { on := 7, ground := Ground.guard }], guard := some (7, false) } : Oper)) (v := ?_) rfl (by kernel_rfl) (by kernel_rfl) (by kernel_rfl) (fun _ _ _ h => h) (Or.inl ⟨by rfl, ?_⟩) (by assumption) ?_
    rotate_left
    · intro w hSw
      try dsimp only at hSw
      go_simp
      try with_reducible rfl
    try simp only [Act.put, List.setIfInBounds_toArray, List.set_cons_zero, List.set_cons_succ]
    refine wpAnyH_take (i := 11) (oi := ({ dst := some 39, op := Op.move (Operand.tmp 38), type := 4, pos := "l05_term.go:67", after := #[{ on := 10, ground := Ground.data }, { on := 7, ground := Ground.chain }, { on := 7, ground := Ground.guard }], guard := some (7, false) } : Oper)) (v := ?_) rfl (by kernel_rfl) (by kernel_rfl) (by kernel_rfl) (fun _ _ _ h => h) (Or.inl ⟨by rfl, ?_⟩) (by assumption) ?_
    rotate_left
    · intro w hSw
      try dsimp only at hSw
      go_simp
      try with_reducible rfl
    try simp only [Act.put, List.setIfInBounds_toArray, List.set_cons_zero, List.set_cons_succ]
    refine wpAnyH_take (i := 12) (oi := ({ dst := some 40, op := Op.fieldAddr 36 (Operand.tmp 1) 5, type := 0, pos := "l05_term.go:67", after := #[{ on := 11, ground := Ground.guard }], guard := some (11, true) } : Oper)) (v := undef) rfl (by kernel_rfl) (by kernel_rfl) (by kernel_rfl) (fun _ _ _ h => h) (Or.inr ⟨by rfl, rfl⟩) (by assumption) ?_
    try simp only [Act.put, List.setIfInBounds_toArray, List.set_cons_zero, List.set_cons_succ]
    refine wpAnyH_take (i := 13) (oi := ({ dst := some 41, op := Op.load 33 (Operand.tmp 40), type := 33, pos := "l05_term.go:67", after := #[{ on := 12, ground := Ground.data }, { on := 11, ground := Ground.guard }], guard := some (11, true) } : Oper)) (v := undef) rfl (by kernel_rfl) (by kernel_rfl) (by kernel_rfl) (fun _ _ _ h => h) (Or.inr ⟨by rfl, rfl⟩) (by assumption) ?_
    try simp only [Act.put, List.setIfInBounds_toArray, List.set_cons_zero, List.set_cons_succ]
    refine wpAnyH_take (i := 14) (oi := ({ dst := some 42, op := Op.call { callee := Callee.value (Operand.func 86), args := #[Operand.tmp 41], argTypes := #[33] }, type := 4, pos := "l05_term.go:67", after := #[{ on := 13, ground := Ground.data }, { on := 11, ground := Ground.chain }, { on := 11, ground := Ground.guard }], guard := some (11, true) } : Oper)) (v := undef) rfl (by kernel_rfl) (by kernel_rfl) (by kernel_rfl) (fun _ _ _ h => h) (Or.inr ⟨by rfl, rfl⟩) (by assumption) ?_
    try simp only [Act.put, List.setIfInBounds_toArray, List.set_cons_zero, List.set_cons_succ]
    refine wpAnyH_take (i := 15) (oi := ({ dst := some 43, op := Op.unOp UnOp.not 4 (Operand.tmp 42), type := 4, pos := "l05_term.go:67", after := #[{ on := 14, ground := Ground.data }, { on := 11, ground := Ground.guard }], guard := some (11, true) } : Oper)) (v := undef) rfl (by kernel_rfl) (by kernel_rfl) (by kernel_rfl) (fun _ _ _ h => h) (Or.inr ⟨by rfl, rfl⟩) (by assumption) ?_
    try simp only [Act.put, List.setIfInBounds_toArray, List.set_cons_zero, List.set_cons_succ]
    refine wpAnyH_take (i := 16) (oi := ({ dst := some 44, op := Op.pick (Operand.tmp 39) (Operand.tmp 43) (Operand.const (Value.bool false)), type := 4, pos := "l05_term.go:67", after := #[{ on := 11, ground := Ground.data }, { on := 15, ground := Ground.data }, { on := 7, ground := Ground.guard }], guard := some (7, false) } : Oper)) (v := ?_) rfl (by kernel_rfl) (by kernel_rfl) (by kernel_rfl) (fun _ _ _ h => h) (Or.inl ⟨by rfl, ?_⟩) (by assumption) ?_
    rotate_left
    · intro w hSw
      try dsimp only at hSw
      go_simp
      try with_reducible rfl
    try simp only [Act.put, List.setIfInBounds_toArray, List.set_cons_zero, List.set_cons_succ]
    refine wpAnyH_take (i := 17) (oi := ({ dst := some 45, op := Op.pick (Operand.tmp 35) (Operand.const (Value.bool true)) (Operand.tmp 44), type := 4, pos := "l05_term.go:67", after := #[{ on := 7, ground := Ground.data }, { on := 16, ground := Ground.data }], guard := none } : Oper)) (v := ?_) rfl (by kernel_rfl) (by kernel_rfl) (by kernel_rfl) (fun _ _ _ h => h) (Or.inl ⟨by rfl, ?_⟩) (by assumption) ?_
    rotate_left
    · intro w hSw
      try dsimp only at hSw
      go_simp
      try with_reducible rfl
    try simp only [Act.put, List.setIfInBounds_toArray, List.set_cons_zero, List.set_cons_succ]
    refine wpAnyH_done (by kernel_rfl) ?_ _
    refine NoPanic.normal ?_
    clear hHeld hHeld1
    have hbd : Below w1.heap.size w1 _ := (Below.refl _ _).drew.trans hb5
    have HBW := Lib.hid (HB1.out.trans (hbd.mono HB1.out.size))
    clear g0 g1 g2 g3 g4 g5 g6 g7 g8
    obtain ⟨g0, g1, g2, g3, g4, g5, g6, g7, g8⟩ := HX1.out.keep hbd
    clear hbd hb5
    by_cases hin : 0 ≤ t.n ∧ t.n ≤ 0
    · have hd : decide (0 ≤ t.n ∧ t.n ≤ 0) = true := decide_eq_true hin
      have HIN := Lib.hid hin
      clear hin
      go_wp2_with fail
      refine (in_any _ _ _ _).mono ?_
      rintro e w' ⟨rfl, rfl⟩
      go_wp2_with fail
      refine (HNM.out _).mono ?_
      rintro e w9 ⟨r, hr, rfl, hb9⟩
      have HR9 := Lib.hid hr
      have HB9 := Lib.hid (HBW.out.trans (hb9.mono HBW.out.size))
      clear hr hb9
      go_wp2_with fail
      go_ret
      exact ⟨_, HR9.out.trans ⟨fun h => ⟨⟨fun _ => HVT.out, fun _ => Or.inr HK.out⟩, Or.inl (Or.inr HK.out), ⟨fun _ => HVR0.out, fun _ => HK.out⟩, Or.inl HK.out, by rw [Tm.most, if_neg (by have := HK.out; omega), if_neg (by have := HK.out; omega)]; exact HIN.out, h⟩, fun h => h.names⟩, rfl, HB9.out⟩
    · have hd : decide (0 ≤ t.n ∧ t.n ≤ 0) = false := decide_eq_false hin
      have HIN := Lib.hid hin
      clear hin
      go_wp2_with fail
      refine (in_any _ _ _ _).mono ?_
      rintro e w' ⟨rfl, rfl⟩
      go_wp2_with fail
      go_ret
      exact ⟨_, lit_f (fun h => HIN.out (by have := h.n; rwa [Tm.most, if_neg (by have := HK.out; omega), if_neg (by have := HK.out; omega)] at this)), rfl, HBW.out⟩
end Go.Proofs.YtdfnjfelmfccjaaDoor
