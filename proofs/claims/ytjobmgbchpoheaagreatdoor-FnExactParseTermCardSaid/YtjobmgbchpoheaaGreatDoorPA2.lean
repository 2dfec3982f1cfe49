/-
  Several texts of the proof in one (each says below what it holds): SpecTy2 SpecTy3 TyText And Cur RdrS.
-/
import Derived.Test.YtjobmgbchpoheaaGreatDoorPA1
import Derived.WalkKit
import Derived.Laws.Bits128
import Derived.Test.YtjobmgbchpoheaaGreatDoorProg
import Derived.WalkSmall
import Derived.Laws.OwnMore
import Derived.Deep.QuietTactic
import Derived.BigQuiet
namespace Go.Proofs.YtjobmgbchpoheaaGreatDoor
open Go Go.RowKit


set_option maxRecDepth 100000 in
theorem max_any (a b : Int) (w : World) : Calls Tryz.prog 63 #[.int .i64 a, .int .i64 b] w fun e w' => e = .returned (.int .i64 (max a b)) ∧ w' = w := by
  go_enter Tryz.func63, Tryz.ntmps63
  by_cases h : b < a
  · go_wp2
    go_ret
    exact ⟨congrArg (fun z => Ending.returned (.int .i64 z)) (Int.max_eq_left (by omega)).symm, rfl⟩
  · go_wp2
    go_ret
    exact ⟨congrArg (fun z => Ending.returned (.int .i64 z)) (Int.max_eq_right (by omega)).symm, rfl⟩

theorem form_false {q : Int} {ts : List Ty} {k : Nat} (h : k < ts.length) (hf : ts[k].form = false) : (Ty.mk q ts).form = false := by
  have e : formS ts = false := by
    rw [← List.take_append_drop (k + 1) ts, formS_append, take_next h, formS_append]
    simp [formS, hf]
  simp [Ty.form, e]
theorem form_kind {q : Int} {ts : List Ty} {b : Bool} (h : formS ts = true) (hb : b = (if q = 1 ∨ q = 2 then ts.length == 0 else if q = 3 then ts.length == 2 else q == 4 && ts.length == 1)) : b = (Ty.mk q ts).form := by
  rw [Ty.form, h, hb, Bool.true_and]
theorem beq_0 (n : Nat) : ((n : Int) == 0) = (n == 0) := by rw [Bool.eq_iff_iff]; simp only [beq_iff_eq]; omega
theorem beq_1 (n : Nat) : ((n : Int) == 1) = (n == 1) := by rw [Bool.eq_iff_iff]; simp only [beq_iff_eq]; omega
theorem beq_2 (n : Nat) : ((n : Int) == 2) = (n == 2) := by rw [Bool.eq_iff_iff]; simp only [beq_iff_eq]; omega
def LeftEnds (left : Int) (n : Nat) (r : Int) : Prop := (0 ≤ r ∧ r + n = left) ∨ (r < 0 ∧ -1 ≤ r ∧ left < n) ∨ (r = -1 ∧ left = -1)
theorem LeftEnds.range {left : Int} {n : Nat} {r : Int} (h : LeftEnds left n r) (hl : -1 ≤ left) : -1 ≤ r ∧ r ≤ left := by
  unfold LeftEnds at h
  omega
theorem leftEnds_start {left : Int} (h : 0 ≤ left) : LeftEnds (left - 1) (nodesS ([] : List Ty)) (left - 1) := by
  unfold LeftEnds; simp only [nodesS]; omega
theorem LeftEnds.stop {left L : Int} {ts : List Ty} {k : Nat} (h : LeftEnds (left - 1) (nodesS (ts.take k)) L) (hn : L < 0) (_ : nodesS (ts.take (k + 1)) ≤ nodesS ts) : LeftEnds left (1 + nodesS ts) L := by
  have := nodesS_take_le ts k
  unfold LeftEnds at *; omega
theorem LeftEnds.next {left L r : Int} {n m : Nat} (h : LeftEnds (left - 1) n L) (hr : LeftEnds L m r) (h0 : 0 ≤ L) : LeftEnds (left - 1) (n + m) r := by
  unfold LeftEnds at *; omega
theorem LeftEnds.full {left L : Int} {n : Nat} (h : LeftEnds (left - 1) n L) : LeftEnds left (1 + n) L := by
  unfold LeftEnds at *; omega

set_option maxRecDepth 100000 in
set_option maxHeartbeats 1000000 in
theorem depth_any {w0 : World} {C : Nat → Prop} {ts : List Ty} {v : Value} (h : TS w0 C ts v) : ∀ (w : World) (q : Int), Stays C w0 w → nodesS ts ≤ 2097152 → Calls Tryz.prog 136 #[.agg #[.int .i64 q, v]] w (IntRet (fun r => r = ((1 + depthS ts : Nat) : Int)) w) := by
  refine TS.ind (motive := fun ts v => ∀ (w : World) (q : Int), Stays C w0 w → nodesS ts ≤ 2097152 → Calls Tryz.prog 136 #[.agg #[.int .i64 q, v]] w (IntRet (fun r => r = ((1 + depthS ts : Nat) : Int)) w)) ?_ h
  intro ts p c hl H w q hst hn
  have HH := Lib.hid H
  have HST := Lib.hid hst
  have hlen := nodesS_ge ts
  clear H hst
  go_enter Tryz.func136, Tryz.ntmps136
  go_wp2_with fail
  go_loopw [3, 4] (fun n i wr => ∃ (k : Nat), k ≤ ts.length ∧ i = .int .i64 k ∧ n = .int .i64 ((depthS (ts.take k) : Nat) : Int) ∧ Below (w.alloc (.cells #[.int .i64 q, .slice p ts.length c] 26)).heap.size (w.alloc (.cells #[.int .i64 q, .slice p ts.length c] 26)) wr) (fun _ i _ => ts.length - (intOf i).toNat)
  case atStart => exact ⟨0, Nat.zero_le _, rfl, by simp [depthS], Below.refl _ _⟩
  case round =>
    obtain ⟨k, hk, rfl, rfl, hbr⟩ := hrel
    have HB := Lib.hid hbr
    obtain ⟨d0, d1⟩ := box2 hbr
    clear hbr
    by_cases hlk : k < ts.length
    · obtain ⟨b, o, p', c', rfl, hcs, hT, hI⟩ := HH.out k _ (List.getElem?_eq_getElem hlk)
      have hsr := HST.out.trans (Stays.of_below (C := C) (below_box HB.out))
      obtain ⟨c1, c2⟩ := hcs wr hsr
      have n1 := nodesS_take_next ts k hlk
      have n2 := nodesS_take_le ts (k + 1)
      have n3 := ts[k].nodes_eq
      have m1 := depthS_at ts k hlk
      have m2 := depthS_take_next ts k hlk
      have m3 := depth_at ts[k]
      have b1 : depthS (ts.take k) ≤ 2097152 := by omega
      have b2 : 1 + depthS ts[k].args ≤ 2097152 := by omega
      have HM2 := Lib.hid m2
      have HM3 := Lib.hid m3
      clear m1 m2 m3
      have HC := Lib.hid (hI wr ts[k].kind hsr (by omega))
      have HN1 := Lib.hid n1
      have HN2 := Lib.hid n2
      have HN3 := Lib.hid n3
      clear hcs hT hI hsr n1 n2 n3
      go_wp2_with fail
      refine HC.out.mono ?_
      rintro e w1 ⟨r, hr, rfl, hb1⟩
      have HB1 := Lib.hid (HB.out.trans (hb1.mono HB.out.size))
      clear hb1
      subst hr
      go_wp2_with fail
      refine (max_any _ _ _).mono ?_
      rintro e w2 ⟨rfl, rfl⟩
      go_wp2_with fail
      go_roundw
      case rel => exact ⟨k + 1, by omega, by go_num, by have h1 := HM2.out; have h2 := HM3.out; rw [h1, h2]; go_num, HB1.out⟩
      case measure => simp [intOf]; omega
    · obtain rfl : k = ts.length := by omega
      rw [List.take_length]
      have b3 := depthS_nodes ts
      go_wp2_with fail
      go_ret
      exact ⟨_, rfl, by go_num, below_box HB.out⟩

set_option maxRecDepth 100000 in
set_option maxHeartbeats 1000000 in
theorem form_any {w0 : World} {C : Nat → Prop} {ts : List Ty} {v : Value} (h : TS w0 C ts v) : ∀ (w : World) (q : Int), Stays C w0 w → nodesS ts ≤ 2097152 → Calls Tryz.prog 137 #[.agg #[.int .i64 q, v]] w (BoolRet (fun r => r = (Ty.mk q ts).form) w) := by
  refine TS.ind (motive := fun ts v => ∀ (w : World) (q : Int), Stays C w0 w → nodesS ts ≤ 2097152 → Calls Tryz.prog 137 #[.agg #[.int .i64 q, v]] w (BoolRet (fun r => r = (Ty.mk q ts).form) w)) ?_ h
  intro ts p c hl H w q hst hn
  have HH := Lib.hid H
  have HST := Lib.hid hst
  have hlen := nodesS_ge ts
  clear H hst
  go_enter Tryz.func137, Tryz.ntmps137
  go_wp2_with fail
  go_loopw [3] (fun i wr => ∃ (k : Nat), k ≤ ts.length ∧ i = .int .i64 k ∧ formS (ts.take k) = true ∧ Below (w.alloc (.cells #[.int .i64 q, .slice p ts.length c] 26)).heap.size (w.alloc (.cells #[.int .i64 q, .slice p ts.length c] 26)) wr) (fun i _ => ts.length - (intOf i).toNat)
  case atStart => exact ⟨0, Nat.zero_le _, rfl, by simp [formS], Below.refl _ _⟩
  case round =>
    obtain ⟨k, hk, rfl, hfm, hbr⟩ := hrel
    have HB := Lib.hid hbr
    obtain ⟨d0, d1⟩ := box2 hbr
    clear hbr
    by_cases hlk : k < ts.length
    · obtain ⟨b, o, p', c', rfl, hcs, hT, hI⟩ := HH.out k _ (List.getElem?_eq_getElem hlk)
      have hsr := HST.out.trans (Stays.of_below (C := C) (below_box HB.out))
      obtain ⟨c1, c2⟩ := hcs wr hsr
      have n1 := nodesS_take_next ts k hlk
      have n2 := nodesS_take_le ts (k + 1)
      have n3 := ts[k].nodes_eq
      have HM := Lib.hid hfm
      clear hfm
      have HC := Lib.hid (hI wr ts[k].kind hsr (by omega))
      have HN1 := Lib.hid n1
      have HN2 := Lib.hid n2
      have HN3 := Lib.hid n3
      clear hcs hT hI hsr n1 n2 n3
      go_wp2_with fail
      refine HC.out.mono ?_
      rintro e w1 ⟨r, hr, rfl, hb1⟩
      have HB1 := Lib.hid (HB.out.trans (hb1.mono HB.out.size))
      clear hb1
      have HR := Lib.hid hr
      clear hr
      cases r with
      | true =>
        go_wp2_with fail
        go_roundw
        case rel => exact ⟨k + 1, by omega, by go_num, by rw [take_next hlk, formS_append, HM.out]; simpa [formS, ← Ty.eta] using HR.out.symm, HB1.out⟩
        case measure => simp [intOf]; omega
      | false =>
        go_wp2_with fail
        go_ret
        exact ⟨false, (form_false hlk (by rw [Ty.eta ts[k]]; exact HR.out.symm)).symm, rfl, below_box HB1.out⟩
    · obtain rfl : k = ts.length := by omega
      rw [List.take_length] at hfm
      have HM := Lib.hid hfm
      clear hfm
      by_cases q1 : q = 1
      · subst q1
        go_wp2_with fail
        go_ret
        exact ⟨_, form_kind HM.out (by simp [beq_0]), rfl, below_box HB.out⟩
      by_cases q2 : q = 2
      · subst q2
        go_wp2_with fail
        go_ret
        exact ⟨_, form_kind HM.out (by simp [beq_0]), rfl, below_box HB.out⟩
      by_cases q3 : q = 3
      · subst q3
        go_wp2_with fail
        go_ret
        exact ⟨_, form_kind HM.out (by simp [beq_2]), rfl, below_box HB.out⟩
      by_cases q4 : q = 4
      · subst q4
        go_wp2_with fail
        go_ret
        exact ⟨_, form_kind HM.out (by simp [beq_1]), rfl, below_box HB.out⟩
      go_wp2_with fail
      go_ret
      exact ⟨_, form_kind HM.out (by simp [q1, q2, q3, q4]), rfl, below_box HB.out⟩

set_option maxRecDepth 100000 in
set_option maxHeartbeats 1000000 in
theorem left_any {w0 : World} {C : Nat → Prop} {ts : List Ty} {v : Value} (h : TS w0 C ts v) : ∀ (w : World) (q : Int) (left : Int), Stays C w0 w → nodesS ts ≤ 2097152 → 0 ≤ left → left ≤ 2097152 → Calls Tryz.prog 135 #[.agg #[.int .i64 q, v], .int .i64 left] w (IntRet (LeftEnds left (1 + nodesS ts)) w) := by
  refine TS.ind (motive := fun ts v => ∀ (w : World) (q : Int) (left : Int), Stays C w0 w → nodesS ts ≤ 2097152 → 0 ≤ left → left ≤ 2097152 → Calls Tryz.prog 135 #[.agg #[.int .i64 q, v], .int .i64 left] w (IntRet (LeftEnds left (1 + nodesS ts)) w)) ?_ h
  intro ts p c hl H w q left hst hn h0 hL
  have HH := Lib.hid H
  have HST := Lib.hid hst
  have hlen := nodesS_ge ts
  clear H hst
  go_enter Tryz.func135, Tryz.ntmps135
  go_wp2_with fail
  go_loopw [1, 5] (fun l i wr => ∃ (k : Nat) (L : Int), k ≤ ts.length ∧ i = .int .i64 k ∧ l = .int .i64 L ∧ LeftEnds (left - 1) (nodesS (ts.take k)) L ∧ Below (w.alloc (.cells #[.int .i64 q, .slice p ts.length c] 26)).heap.size (w.alloc (.cells #[.int .i64 q, .slice p ts.length c] 26)) wr) (fun _ i _ => ts.length - (intOf i).toNat)
  case atStart => exact ⟨0, _, Nat.zero_le _, rfl, rfl, leftEnds_start h0, Below.refl _ _⟩
  case round =>
    obtain ⟨k, L, hk, rfl, rfl, hle, hbr⟩ := hrel
    have HB := Lib.hid hbr
    obtain ⟨d0, d1⟩ := box2 hbr
    clear hbr
    by_cases hlk : k < ts.length
    · obtain ⟨b, o, p', c', rfl, hcs, hT, hI⟩ := HH.out k _ (List.getElem?_eq_getElem hlk)
      have hsr := HST.out.trans (Stays.of_below (C := C) (below_box HB.out))
      obtain ⟨c1, c2⟩ := hcs wr hsr
      have n1 := nodesS_take_next ts k hlk
      have n2 := nodesS_take_le ts (k + 1)
      have n3 := ts[k].nodes_eq
      have HM := Lib.hid hle
      have hLr := hle.range (by omega)
      clear hle
      by_cases hneg : L < 0
      · clear hcs hT hI hsr n1 n3
        go_wp2_with fail
        go_ret
        exact ⟨_, HM.out.stop hneg n2, rfl, below_box HB.out⟩
      have HC := Lib.hid (hI wr ts[k].kind L hsr (by omega) (by omega) (by omega))
      have HN1 := Lib.hid n1
      have HN2 := Lib.hid n2
      have HN3 := Lib.hid n3
      clear hcs hT hI hsr n1 n2 n3
      go_wp2_with fail
      refine HC.out.mono ?_
      rintro e w1 ⟨r, hr, rfl, hb1⟩
      have HB1 := Lib.hid (HB.out.trans (hb1.mono HB.out.size))
      clear hb1
      have hr2 := hr.range (by omega)
      have HR := Lib.hid hr
      clear hr
      go_wp2_with fail
      go_roundw
      case rel => exact ⟨k + 1, r, by omega, by go_num, rfl, by rw [HN1.out, HN3.out]; exact HM.out.next HR.out (by omega), HB1.out⟩
      case measure => simp [intOf]; omega
    · obtain rfl : k = ts.length := by omega
      rw [List.take_length] at hle
      have HM := Lib.hid hle
      have hLr := hle.range (by omega)
      clear hle
      go_wp2_with fail
      go_ret
      exact ⟨_, HM.out.full, rfl, below_box HB.out⟩

end Go.Proofs.YtjobmgbchpoheaaGreatDoor
namespace Go.Proofs.YtjobmgbchpoheaaGreatDoor
open Go Go.RowKit

def Ty.valid (t : Ty) : Bool := decide (t.nodes ≤ 30) && decide (t.depth ≤ 8) && t.form
def Ty.base (t : Ty) : Bool := decide ((t.kind = 1 ∨ t.kind = 2) ∧ t.args.length = 0)
def Ty.plain (t : Ty) : Bool := t.valid && !t.has 4

set_option maxRecDepth 100000 in
set_option maxHeartbeats 1000000 in
theorem valid_any {C : Nat → Prop} {t : Ty} {v : Value} {w : World} (h : TT w C t v) (hn : nodesS t.args ≤ 2097152) :
    Calls Tryz.prog 104 #[v] w (BoolRet (fun r => r = t.valid) w) := by
  obtain ⟨s, rfl, hS⟩ := h
  obtain ⟨p, c, rfl⟩ := hS.form
  have hb0 := (Below.refl w.heap.size w).alloc (Nat.le_refl _) (Obj.cells #[.int .i64 t.kind, .slice p t.args.length c] 26)
  have HB0 := Lib.hid hb0
  have HL := Lib.hid (left_any hS _ t.kind 30 (.of_below hb0) hn (by omega) (by omega))
  have HD := Lib.hid (fun w' (hw : Below w.heap.size w w') => depth_any hS w' t.kind (.of_below hw) hn)
  have HF := Lib.hid (fun w' (hw : Below w.heap.size w w') => form_any hS w' t.kind (.of_below hw) hn)
  have hdn := depthS_nodes t.args
  clear hS hb0
  have HV := Lib.hid (show t.valid = (decide (1 + nodesS t.args ≤ 30) && decide (1 + depthS t.args ≤ 8) && (Ty.mk t.kind t.args).form) by rw [Ty.valid, Ty.nodes_eq, depth_at, ← Ty.eta])
  go_enter Tryz.func104, Tryz.ntmps104
  go_wp2_with fail
  refine HL.out.mono ?_
  rintro e w1 ⟨r, hr, rfl, hb1⟩
  obtain ⟨c0, c1⟩ := box2 hb1
  have HB1 := Lib.hid (HB0.out.trans (hb1.mono HB0.out.size))
  have HR := Lib.hid hr
  have hrr := hr.range (by omega)
  by_cases h0 : 0 ≤ r
  · have hn30 : 1 + nodesS t.args ≤ 30 := by unfold LeftEnds at hr; omega
    clear hr hb1
    go_wp2_with fail
    refine (HD.out w1 HB1.out).mono ?_
    rintro e w2 ⟨d, rfl, rfl, hb2⟩
    have c20 := (hb2.cell (World.block_lt_of_cell? w1 _ c0)).trans c0
    have c21 := (hb2.cell (World.block_lt_of_cell? w1 _ c1)).trans c1
    have HB2 := Lib.hid (HB1.out.trans (hb2.mono HB1.out.size))
    clear hb2 c0 c1
    by_cases h8 : 1 + depthS t.args ≤ 8
    · go_wp2_with fail
      refine (HF.out w2 HB2.out).mono ?_
      rintro e w3 ⟨f, hf, rfl, hb3⟩
      have HB3 := Lib.hid (HB2.out.trans (hb3.mono HB2.out.size))
      have HFF := Lib.hid hf
      clear hf hb3
      go_wp2_with fail
      go_ret
      exact ⟨_, by rw [HV.out, ← HFF.out]; simp [hn30, h8], rfl, HB3.out⟩
    · go_wp2_with fail
      go_ret
      exact ⟨_, by rw [HV.out]; simp [h8], rfl, HB2.out⟩
  · have hn30 : ¬ 1 + nodesS t.args ≤ 30 := by unfold LeftEnds at hr; omega
    clear hr hb1
    go_wp2_with fail
    go_ret
    exact ⟨_, by rw [HV.out]; simp [hn30], rfl, HB1.out⟩

theorem formS_cons (t : Ty) (ts : List Ty) : formS (t :: ts) = true ↔ t.form = true ∧ formS ts = true := by simp [formS]
theorem form_mk (k : Int) (ts : List Ty) : (Ty.mk k ts).form = true ↔ formS ts = true ∧ ((k = 1 ∨ k = 2) ∧ ts.length = 0 ∨ k = 3 ∧ ts.length = 2 ∨ k = 4 ∧ ts.length = 1) := by
  simp only [Ty.form, Bool.and_eq_true]
  refine and_congr Iff.rfl ?_
  split
  · next h => simp only [beq_iff_eq]; omega
  · split
    · next h => simp only [beq_iff_eq]; omega
    · simp only [Bool.and_eq_true, beq_iff_eq]; omega
theorem valid_iff (t : Ty) : t.valid = true ↔ t.nodes ≤ 30 ∧ t.depth ≤ 8 ∧ t.form = true := by simp [Ty.valid, and_assoc]
end Go.Proofs.YtjobmgbchpoheaaGreatDoor
namespace Go.Proofs.YtjobmgbchpoheaaGreatDoor
open Go Go.RowKit

def textK (k : Int) (xs : List (List UInt8)) : List UInt8 :=
  if k = 1 then [73] else if k = 2 then [66] else if k = 3 then 40 :: (xs.getD 0 [] ++ 62 :: (xs.getD 1 [] ++ [41])) else 60 :: (xs.getD 0 [] ++ [62])
mutual
def Ty.text : Ty → List UInt8
  | .mk k ts => textK k (textS ts)
def textS : List Ty → List (List UInt8)
  | [] => []
  | t :: ts => t.text :: textS ts
end
theorem text_fun (a b : Ty) : (Ty.mk 3 [a, b]).text = 40 :: (a.text ++ 62 :: (b.text ++ [41])) := by simp [Ty.text, textS, textK]
theorem text_code (a : Ty) : (Ty.mk 4 [a]).text = 60 :: (a.text ++ [62]) := by simp [Ty.text, textS, textK]
theorem text_int (ts : List Ty) : (Ty.mk 1 ts).text = [73] := by simp [Ty.text, textK]
theorem text_bool (ts : List Ty) : (Ty.mk 2 ts).text = [66] := by simp [Ty.text, textK]
theorem form_cases {t : Ty} (h : t.form = true) : t = .mk 1 [] ∨ t = .mk 2 [] ∨ (∃ a b, t = .mk 3 [a, b] ∧ a.form = true ∧ b.form = true) ∨ ∃ a, t = .mk 4 [a] ∧ a.form = true := by
  obtain ⟨k, ts⟩ := t
  obtain ⟨h1, h2⟩ := (form_mk k ts).1 h
  rcases h2 with ⟨hk, hl⟩ | ⟨rfl, hl⟩ | ⟨rfl, hl⟩
  · obtain rfl := List.eq_nil_of_length_eq_zero hl
    rcases hk with rfl | rfl
    · exact Or.inl rfl
    · exact Or.inr (Or.inl rfl)
  · obtain ⟨a, b, rfl⟩ : ∃ a b, ts = [a, b] := by
      match ts, hl with
      | [a, b], _ => exact ⟨a, b, rfl⟩
    simp only [formS_cons] at h1
    exact Or.inr (Or.inr (Or.inl ⟨a, b, rfl, h1.1, h1.2.1⟩))
  · obtain ⟨a, rfl⟩ := List.length_eq_one_iff.1 hl
    simp only [formS_cons] at h1
    exact Or.inr (Or.inr (Or.inr ⟨a, rfl, h1.1⟩))

theorem text_le : ∀ (n : Nat) (t : Ty), t.nodes ≤ n → t.form = true → t.text.length ≤ 3 * t.nodes
  | 0, t, hn, _ => by rw [t.nodes_eq] at hn; omega
  | n + 1, t, hn, h => by
    rcases form_cases h with rfl | rfl | ⟨a, b, rfl, ha, hb⟩ | ⟨a, rfl, ha⟩
    · simp [text_int, Ty.nodes, nodesS]
    · simp [text_bool, Ty.nodes, nodesS]
    · simp only [Ty.nodes, nodesS] at hn
      have h1 := text_le n a (by omega) ha
      have h2 := text_le n b (by omega) hb
      rw [text_fun]
      simp only [List.length_cons, List.length_append, List.length_nil, Ty.nodes, nodesS]
      omega
    · simp only [Ty.nodes, nodesS] at hn
      have h1 := text_le n a (by omega) ha
      rw [text_code]
      simp only [List.length_cons, List.length_append, List.length_nil, Ty.nodes, nodesS]
      omega
def ptys (f : Nat → Option (Ty × Nat)) (s : List UInt8) : List UInt8 → Nat → Option (List Ty × Nat)
  | [], i => some ([], i)
  | e :: es, i => match f i with
    | none => none
    | some (t, j) => if s[j]? = some e then (ptys f s es (j + 1)).map (fun r => (t :: r.1, r.2)) else none
def pty (s : List UInt8) : Nat → Nat → Option (Ty × Nat)
  | 0, _ => none
  | k + 1, i =>
    if s[i]? = some 73 then some (.mk 1 [], i + 1)
    else if s[i]? = some 66 then some (.mk 2 [], i + 1)
    else if s[i]? = some 40 then (ptys (pty s k) s [62, 41] (i + 1)).map fun r => (.mk 3 r.1, r.2)
    else if s[i]? = some 60 then (ptys (pty s k) s [62] (i + 1)).map fun r => (.mk 4 r.1, r.2)
    else none

theorem ptys_append (f : Nat → Option (Ty × Nat)) (s a b : List UInt8) (i : Nat) :
    ptys f s (a ++ b) i = (ptys f s a i).bind fun r => (ptys f s b r.2).map fun q => (r.1 ++ q.1, q.2) := by
  induction a generalizing i with
  | nil => simp only [List.nil_append, ptys, Option.bind_some]; cases ptys f s b i <;> rfl
  | cons e a ih =>
    simp only [List.cons_append, ptys]
    cases hf : f i with
    | none => rfl
    | some r =>
      obtain ⟨t, j⟩ := r
      dsimp only
      by_cases he : s[j]? = some e
      · rw [if_pos he, if_pos he, ih]
        cases ptys f s a (j + 1) with
        | none => rfl
        | some q =>
          simp only [Option.bind_some, Option.map_some]
          cases ptys f s b q.2 <;> rfl
      · rw [if_neg he, if_neg he]; rfl
theorem ptys_none {f : Nat → Option (Ty × Nat)} {s es : List UInt8} {i j : Nat} (h : ptys f s (es.take j) i = none) : ptys f s es i = none := by
  rw [← List.take_append_drop j es, ptys_append, h]; rfl
theorem ptys_snoc {f : Nat → Option (Ty × Nat)} {s es : List UInt8} {i n : Nat} {ts : List Ty} (h : ptys f s es i = some (ts, n)) (e : UInt8) :
    ptys f s (es ++ [e]) i = match f n with
      | none => none
      | some (t, j) => if s[j]? = some e then some (ts ++ [t], j + 1) else none := by
  rw [ptys_append, h]
  simp only [Option.bind_some, ptys]
  cases f n with
  | none => rfl
  | some r => obtain ⟨t, j⟩ := r; dsimp only; by_cases he : s[j]? = some e <;> simp [he]
structure Good (s : List UInt8) (k i : Nat) (t : Ty) (j : Nat) : Prop where
  lt : i < j
  le : j ≤ s.length
  depth : t.depth ≤ k
  nodes : t.nodes + 1 ≤ 2 ^ k
  form : t.form = true
  text : s.drop i = t.text ++ s.drop j
theorem drop_at {s : List UInt8} {i : Nat} {c : UInt8} (h : s[i]? = some c) : s.drop i = c :: s.drop (i + 1) ∧ i < s.length := by
  obtain ⟨h1, rfl⟩ := List.getElem?_eq_some_iff.1 h
  exact ⟨List.drop_eq_getElem_cons h1, h1⟩
theorem two_pow_pos (k : Nat) : 1 ≤ 2 ^ k := Nat.one_le_two_pow
theorem pty_good (s : List UInt8) : ∀ (k i : Nat) (t : Ty) (j : Nat), pty s k i = some (t, j) → Good s k i t j
  | 0, i, t, j, h => by cases h
  | k + 1, i, t, j, h => by
    have hp := two_pow_pos k
    unfold pty at h
    split at h
    · next hc =>
      obtain ⟨h1, h2⟩ := drop_at hc
      simp only [Option.some.injEq, Prod.mk.injEq] at h
      obtain ⟨rfl, rfl⟩ := h
      exact ⟨by omega, by omega, by simp [Ty.depth, depthS], by simp only [Ty.nodes, nodesS, Nat.pow_succ]; omega, by decide, by rw [h1, text_int]; rfl⟩
    · split at h
      · next hc =>
        obtain ⟨h1, h2⟩ := drop_at hc
        simp only [Option.some.injEq, Prod.mk.injEq] at h
        obtain ⟨rfl, rfl⟩ := h
        exact ⟨by omega, by omega, by simp [Ty.depth, depthS], by simp only [Ty.nodes, nodesS, Nat.pow_succ]; omega, by decide, by rw [h1, text_bool]; rfl⟩
      · split at h
        · next hc =>
          obtain ⟨h1, h2⟩ := drop_at hc
          simp only [ptys] at h
          cases ha : pty s k (i + 1) with
          | none => rw [ha] at h; cases h
          | some r =>
            obtain ⟨a, i1⟩ := r
            have ga := pty_good s k _ _ _ ha
            rw [ha] at h
            dsimp only at h
            split at h
            · next hc1 =>
              obtain ⟨h3, h4⟩ := drop_at hc1
              cases hb : pty s k (i1 + 1) with
              | none => rw [hb] at h; cases h
              | some r =>
                obtain ⟨b, i2⟩ := r
                have gb := pty_good s k _ _ _ hb
                rw [hb] at h
                dsimp only at h
                split at h
                · next hc2 =>
                  obtain ⟨h5, h6⟩ := drop_at hc2
                  simp only [Option.map_some, Option.some.injEq, Prod.mk.injEq] at h
                  obtain ⟨rfl, rfl⟩ := h
                  have := ga.lt
                  have := gb.lt
                  have := ga.nodes
                  have := gb.nodes
                  have := ga.depth
                  have := gb.depth
                  refine ⟨by omega, by omega, by simp only [Ty.depth, depthS]; omega, by simp only [Ty.nodes, nodesS, Nat.pow_succ]; omega, ?_, ?_⟩
                  · rw [form_mk]
                    simp [formS, ga.form, gb.form]
                  · rw [h1, ga.text, h3, gb.text, h5, text_fun]
                    simp
                · cases h
            · cases h
        · split at h
          · next hc =>
            obtain ⟨h1, h2⟩ := drop_at hc
            simp only [ptys] at h
            cases ha : pty s k (i + 1) with
            | none => rw [ha] at h; cases h
            | some r =>
              obtain ⟨a, i1⟩ := r
              have ga := pty_good s k _ _ _ ha
              rw [ha] at h
              dsimp only at h
              split at h
              · next hc1 =>
                obtain ⟨h3, h4⟩ := drop_at hc1
                simp only [Option.map_some, Option.some.injEq, Prod.mk.injEq] at h
                obtain ⟨rfl, rfl⟩ := h
                have := ga.lt
                have := ga.nodes
                have := ga.depth
                refine ⟨by omega, by omega, by simp only [Ty.depth, depthS]; omega, by simp only [Ty.nodes, nodesS, Nat.pow_succ]; omega, ?_, ?_⟩
                · rw [form_mk]
                  simp [formS, ga.form]
                · rw [h1, ga.text, h3, text_code]
                  simp
              · cases h
          · cases h

theorem drop_more {s x r : List UInt8} {i : Nat} {c : UInt8} (h : s.drop i = x ++ c :: r) : s[i + x.length]? = some c ∧ s.drop (i + x.length + 1) = r := by
  constructor
  · rw [← List.getElem?_drop, h]; simp
  · rw [Nat.add_assoc, ← List.drop_drop, h]
    have : (x ++ c :: r).drop (x.length + 1) = (c :: r).drop 1 := by rw [List.drop_append]; simp
    rw [this]; rfl
theorem pty_text (s : List UInt8) : ∀ (k : Nat) (t : Ty) (i : Nat) (r : List UInt8), t.form = true → t.depth ≤ k → s.drop i = t.text ++ r → pty s k i = some (t, i + t.text.length)
  | 0, t, i, r, _, hd, _ => by rw [depth_at] at hd; omega
  | k + 1, t, i, r, hf, hd, hs => by
    unfold pty
    rcases form_cases hf with rfl | rfl | ⟨a, b, rfl, ha, hb⟩ | ⟨a, rfl, ha⟩
    · rw [text_int] at hs
      have h1 := (drop_more (x := []) (by simpa using hs)).1
      simp only [List.length_nil, Nat.add_zero] at h1
      rw [if_pos h1, text_int]; rfl
    · rw [text_bool] at hs
      have h1 := (drop_more (x := []) (by simpa using hs)).1
      simp only [List.length_nil, Nat.add_zero] at h1
      rw [if_neg (by rw [h1]; decide), if_pos h1, text_bool]; rfl
    · rw [text_fun] at hs
      have h1 := drop_more (x := []) (i := i) (c := 40) (r := a.text ++ 62 :: (b.text ++ 41 :: r)) (by simpa using hs)
      simp only [List.length_nil, Nat.add_zero] at h1
      simp only [Ty.depth, depthS] at hd
      have h2 := pty_text s k a (i + 1) _ ha (by omega) h1.2
      have h3 := drop_more h1.2
      have h4 := pty_text s k b (i + 1 + a.text.length + 1) _ hb (by omega) h3.2
      have h5 := drop_more h3.2
      rw [if_neg (by rw [h1.1]; decide), if_neg (by rw [h1.1]; decide), if_pos h1.1]
      simp only [ptys, h2, h3.1, h4, h5.1, if_true, Option.map_some, text_fun, List.length_cons, List.length_append, List.length_nil]
      congr 2
      omega
    · rw [text_code] at hs
      have h1 := drop_more (x := []) (i := i) (c := 60) (r := a.text ++ 62 :: r) (by simpa using hs)
      simp only [List.length_nil, Nat.add_zero] at h1
      simp only [Ty.depth, depthS] at hd
      have h2 := pty_text s k a (i + 1) _ ha (by omega) h1.2
      have h3 := drop_more h1.2
      rw [if_neg (by rw [h1.1]; decide), if_neg (by rw [h1.1]; decide), if_neg (by rw [h1.1]; decide), if_pos h1.1]
      simp only [ptys, h2, h3.1, if_true, Option.map_some, text_code, List.length_cons, List.length_append, List.length_nil]
      congr 2
      omega
def fmtT (t : Ty) : List UInt8 := if t.valid then t.text else []
def parseT (s : List UInt8) : Option Ty := match pty s 8 0 with
  | none => none
  | some (t, j) => if j = s.length ∧ t.valid = true then some t else none
end Go.Proofs.YtjobmgbchpoheaaGreatDoor
namespace Go.Proofs.YtjobmgbchpoheaaGreatDoor
open Go
end Go.Proofs.YtjobmgbchpoheaaGreatDoor
namespace Go.Proofs.YtjobmgbchpoheaaGreatDoor
open Go Go.RowKit
def CodeAt (w : World) (b : Nat) (v : Value) (len : Nat) : Prop :=
  ((∃ a cap, v = .slice a 0 cap) ∧ len = 0) ∨
  ∃ cb co cap, v = .slice (some ⟨cb, co, none⟩) len cap ∧ cb < b ∧ len ≤ 9223372036854775807 ∧ ∀ j, j < len → ∃ n : Int, 0 ≤ n ∧ n ≤ 255 ∧ w.cell? ⟨cb, co + j, none⟩ = some (.int .u8 n)
def Cur (w : World) (b : Nat) : Prop := ∃ (v : Value) (len i : Nat) (h : Int), w.heap[b]? = some (.cells #[v, .int .i64 i, .int .i64 h] 81 (0, 0)) ∧ CodeAt w b v len ∧ i ≤ len
def ByteRet (b : Nat) (w : World) (e : Ending) (w' : World) : Prop := ∃ x : Int, e = .returned (.int .i64 x) ∧ 0 ≤ x ∧ x ≤ 255 ∧ Cur w' b ∧ w.grownBy w' (some b)

theorem grownBy_trans {a b c : World} {row : Option Nat} (h : a.grownBy b row) (k : b.grownBy c row) : a.grownBy c row :=
  ⟨k.os.trans h.os, k.tape.trans h.tape, k.output.trans h.output, Nat.le_trans h.size k.size, fun j hj hr => (k.block j (Nat.lt_of_lt_of_le hj h.size) hr).trans (h.block j hj hr)⟩
theorem grownBy_drewN {a b : World} {row : Option Nat} (h : a.grownBy b row) (n : Nat) : a.grownBy (b.drewN n) row := ⟨h.os, h.tape, h.output, h.size, h.block⟩
end Go.Proofs.YtjobmgbchpoheaaGreatDoor
namespace Go.Proofs.YtjobmgbchpoheaaGreatDoor
open Go Go.RowKit
def Rd (w : World) (R : Nat) (s : ByteArray) (i : Nat) (bad : Bool) : Prop := w.heap[R]? = some (.cells #[.string s, .int .i64 i, .bool bad] 67 (0, 0))
theorem Rd.cells {w : World} {R : Nat} {s : ByteArray} {i : Nat} {bad : Bool} (h : Rd w R s i bad) :
    w.cell? ⟨R, 0, none⟩ = some (.string s) ∧ w.cell? ⟨R, 1, none⟩ = some (.int .i64 i) ∧ w.cell? ⟨R, 2, none⟩ = some (.bool bad) ∧ w.frozen? ⟨R, 1, none⟩ = false ∧ w.frozen? ⟨R, 2, none⟩ = false :=
  ⟨by rw [cell_of_row w R 0 _ _ _ h]; rfl, by rw [cell_of_row w R 1 _ _ _ h]; rfl, by rw [cell_of_row w R 2 _ _ _ h]; rfl, frozen_of_row w R 1 _ _ h, frozen_of_row w R 2 _ _ h⟩
theorem Rd.lt {w : World} {R : Nat} {s : ByteArray} {i : Nat} {bad : Bool} (h : Rd w R s i bad) : R < w.heap.size := (Array.getElem?_eq_some_iff.1 h).1
theorem Rd.drew {w : World} {R : Nat} {s : ByteArray} {i : Nat} {bad : Bool} (h : Rd w R s i bad) (n : Nat) : Rd (w.drewN n) R s i bad := h
theorem grown_refl (w : World) (r : Option Nat) : w.grownBy w r := ⟨rfl, rfl, rfl, Nat.le_refl _, fun _ _ _ => rfl⟩
theorem Rd.at {w : World} {R : Nat} {s : ByteArray} {i : Nat} {bad : Bool} (h : Rd w R s i bad) (j : Nat) : Rd (w.setCell ⟨R, 1, none⟩ (.int .i64 j)) R s j bad ∧ w.grownBy (w.setCell ⟨R, 1, none⟩ (.int .i64 j)) (some R) :=
  ⟨heap_setCell_same w R 1 _ _ _ h, ⟨rfl, rfl, rfl, by simp, fun k _ hk => heap_setCell_other w ⟨R, 1, none⟩ k _ (fun e => hk (by simp [e]))⟩⟩
theorem Rd.set {w : World} {R : Nat} {s : ByteArray} {i : Nat} {bad : Bool} (h : Rd w R s i bad) (b : Bool) : Rd (w.setCell ⟨R, 2, none⟩ (.bool b)) R s i b ∧ w.grownBy (w.setCell ⟨R, 2, none⟩ (.bool b)) (some R) :=
  ⟨heap_setCell_same w R 2 _ _ _ h, ⟨rfl, rfl, rfl, by simp, fun k _ hk => heap_setCell_other w ⟨R, 2, none⟩ k _ (fun e => hk (by simp [e]))⟩⟩

theorem one_byte {s : ByteArray} {i : Nat} (h : i < s.size) : (s.extract i (i + 1)).toList = [s[i]] := by
  have h1 : i < s.data.toList.length := by simpa using h
  rw [ByteArray.toList_eq, ByteArray.data_extract, Array.toList_extract, List.extract_eq_take_drop]
  rw [show i + 1 - i = 1 by omega, List.drop_eq_getElem_cons h1, List.take_succ_cons, List.take_zero, Array.getElem_toList]
  rfl
theorem at_byte {s : ByteArray} {i : Nat} (h : i < s.size) : s.data.toList[i]? = some s[i] := by
  rw [List.getElem?_eq_getElem (by simpa using h), Array.getElem_toList]; rfl
theorem at_none {s : ByteArray} {i : Nat} (h : ¬ i < s.size) : s.data.toList[i]? = none := List.getElem?_eq_none (by simpa using h)
def TakeRet (R : Nat) (s : ByteArray) (i : Nat) (bad : Bool) (c : UInt8) (w : World) (e : Ending) (w' : World) : Prop :=
  ∃ b : Bool, (b = true ↔ bad = false ∧ s.data.toList[i]? = some c) ∧ e = .returned (.bool b) ∧ Rd w' R s (if b then i + 1 else i) bad ∧ w.grownBy w' (some R)
theorem take_yes {R : Nat} {s : ByteArray} {i : Nat} {c : UInt8} {w w1 : World} (h : Rd w1 R s i false) (hc : s.data.toList[i]? = some c) (hg : w.grownBy w1 (some R)) :
    TakeRet R s i false c w (.returned (.bool true)) (w1.setCell ⟨R, 1, none⟩ (.int .i64 ((i : Int) + 1))) := by
  have := h.at (i + 1)
  rw [show ((i : Int) + 1) = ((i + 1 : Nat) : Int) by omega]
  exact ⟨true, ⟨fun _ => ⟨rfl, hc⟩, fun _ => rfl⟩, rfl, this.1, grownBy_trans hg this.2⟩
theorem take_no {R : Nat} {s : ByteArray} {i : Nat} {bad : Bool} {c : UInt8} {w w1 : World} (h : Rd w1 R s i bad) (hc : ¬ (bad = false ∧ s.data.toList[i]? = some c)) (hg : w.grownBy w1 (some R)) :
    TakeRet R s i bad c w (.returned (.bool false)) w1 :=
  ⟨false, ⟨fun h => (by cases h), fun h => absurd h hc⟩, rfl, h, hg⟩

set_option maxRecDepth 100000 in
set_option maxHeartbeats 1000000 in
theorem take_bad (R : Nat) (s : ByteArray) (i : Nat) (c : UInt8) (w : World) (hr : Rd w R s i true) :
    Calls Tryz.prog 71 #[.pointer (some ⟨R, 0, none⟩), .string ⟨#[c]⟩] w (TakeRet R s i true c w) := by
  obtain ⟨c0, c1, c2, z1, z2⟩ := hr.cells
  have HR := Lib.hid hr
  clear hr
  go_enter Tryz.func71, Tryz.ntmps71
  go_wp2_with fail
  go_quiet (fail)
  go_wp2_with fail
  go_ret
  exact take_no (HR.out.drew _) (by simp) (grownBy_drewN (grown_refl _ _) _)

set_option maxRecDepth 100000 in
set_option maxHeartbeats 1000000 in
theorem take_end (R : Nat) (s : ByteArray) (i : Nat) (c : UInt8) (w : World) (hs : s.size ≤ 1073741824) (hi : i ≤ s.size) (hlt : ¬ i < s.size) (hr : Rd w R s i false) :
    Calls Tryz.prog 71 #[.pointer (some ⟨R, 0, none⟩), .string ⟨#[c]⟩] w (TakeRet R s i false c w) := by
  obtain ⟨c0, c1, c2, z1, z2⟩ := hr.cells
  have HR := Lib.hid hr
  clear hr
  have hw : IntKind.i64.wrap ((i : Int) + 1) = (i : Int) + 1 := IntWalk.i64_in _ (by omega)
  have h1 : decide ((s.size : Int) < (i : Int) + 1) = true := decide_eq_true (by omega)
  go_enter Tryz.func71, Tryz.ntmps71
  go_wp2_with fail
  go_quiet (fail)
  go_wp2_with fail
  go_ret
  exact take_no (HR.out.drew _) (by rw [at_none hlt]; simp) (grownBy_drewN (grown_refl _ _) _)

set_option maxRecDepth 100000 in
set_option maxHeartbeats 1000000 in
theorem take_at (R : Nat) (s : ByteArray) (i : Nat) (c : UInt8) (w : World) (hs : s.size ≤ 1073741824) (hlt : i < s.size) (hr : Rd w R s i false) :
    Calls Tryz.prog 71 #[.pointer (some ⟨R, 0, none⟩), .string ⟨#[c]⟩] w (TakeRet R s i false c w) := by
  obtain ⟨c0, c1, c2, z1, z2⟩ := hr.cells
  have HR := Lib.hid hr
  clear hr
  have h0 : (0 : Int) ≤ (i : Int) := by omega
  have hw : IntKind.i64.wrap ((i : Int) + 1) = (i : Int) + 1 := IntWalk.i64_in _ (by omega)
  have h1 : decide ((s.size : Int) < (i : Int) + 1) = false := decide_eq_false (by omega)
  have h2 : (i : Int) + 1 ≤ (s.size : Int) := by omega
  have HX := Lib.hid (one_byte hlt)
  by_cases hc : s[i] = c
  · have he : ((s.extract i (i + 1)).toList == [c]) = true := by rw [HX.out, hc]; simp
    go_enter Tryz.func71, Tryz.ntmps71
    go_wp2_with fail
    go_quiet (fail)
    go_wp2_with fail
    go_ret
    exact take_yes (HR.out.drew _) (by rw [at_byte hlt, hc]) (grownBy_drewN (grown_refl _ _) _)
  · have he : ((s.extract i (i + 1)).toList == [c]) = false := by rw [HX.out]; simpa using hc
    go_enter Tryz.func71, Tryz.ntmps71
    go_wp2_with fail
    go_quiet (fail)
    go_wp2_with fail
    go_ret
    exact take_no (HR.out.drew _) (by rw [at_byte hlt]; simpa using hc) (grownBy_drewN (grown_refl _ _) _)
theorem take_any (R : Nat) (s : ByteArray) (i : Nat) (bad : Bool) (c : UInt8) (w : World) (hs : s.size ≤ 1073741824) (hi : i ≤ s.size) (hr : Rd w R s i bad) :
    Calls Tryz.prog 71 #[.pointer (some ⟨R, 0, none⟩), .string ⟨#[c]⟩] w (TakeRet R s i bad c w) := by
  cases bad
  · by_cases hlt : i < s.size
    · exact take_at R s i c w hs hlt hr
    · exact take_end R s i c w hs hi hlt hr
  · exact take_bad R s i c w hr
end Go.Proofs.YtjobmgbchpoheaaGreatDoor
