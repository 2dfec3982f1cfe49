/-
  The contract of the laws' markTypeS, markType: every node of a tree of the call's own is numbered, nothing else turns; of heldTypeS, heldType: the numbers are found again.
-/
import Derived.Test.YtjobmgbchpoheaaTySz
import Derived.Test.YtjobmgbchpoheaaTyInd
import Derived.Test.YtjobmgbchpoheaaTyCopy
namespace Go.Proofs.Ytjobmgbchpoheaa
open Go Go.RowKit

mutual
def Ty.mark : Nat → Ty → Ty
  | k, .mk _ ts => .mk k (markS (k + 1) ts)
def markS : Nat → List Ty → List Ty
  | _, [] => []
  | k, t :: ts => t.mark k :: markS (k + t.nodes) ts
end
theorem mark_kind (k : Nat) (t : Ty) : (t.mark k).kind = k := by cases t; rfl
theorem mark_args (k : Nat) (t : Ty) : (t.mark k).args = markS (k + 1) t.args := by cases t; rfl
theorem markS_at (ts : List Ty) : ∀ (k j : Nat), (markS k ts)[j]? = (ts[j]?).map (fun x => x.mark (k + nodesS (ts.take j))) := by
  induction ts with
  | nil => intro k j; simp [markS]
  | cons t ts ih =>
    intro k j
    cases j with
    | zero => simp [markS, nodesS]
    | succ j => simp only [markS, List.getElem?_cons_succ, ih, List.take_succ_cons, nodesS, Nat.add_assoc]
theorem markS_length (ts : List Ty) : ∀ k : Nat, (markS k ts).length = ts.length := by
  induction ts with
  | nil => intro k; rfl
  | cons t ts ih => intro k; simp [markS, ih]

/-- Nothing turns but in the blocks of F. -/
structure But (F : Nat → Prop) (w w' : World) : Prop where
  size : w.heap.size ≤ w'.heap.size
  kept : ∀ b, b < w.heap.size → ¬ F b → w'.heap[b]? = w.heap[b]?
  below : ∀ base, base ≤ w.heap.size → (∀ b, F b → base ≤ b) → Below base w w'
theorem But.refl (F : Nat → Prop) (w : World) : But F w w := ⟨Nat.le_refl _, fun _ _ _ => rfl, fun base _ _ => Below.refl base w⟩
theorem But.trans {F : Nat → Prop} {a b c : World} (h : But F a b) (k : But F b c) : But F a c :=
  ⟨Nat.le_trans h.size k.size, fun x hx hn => (k.kept x (Nat.lt_of_lt_of_le hx h.size) hn).trans (h.kept x hx hn), fun base hb hF => (h.below base hb hF).trans (k.below base (Nat.le_trans hb h.size) hF)⟩
theorem But.mono {F F' : Nat → Prop} {a b : World} (h : But F a b) (hF : ∀ x, F x → F' x) : But F' a b :=
  ⟨h.size, fun x hx hn => h.kept x hx (fun e => hn (hF x e)), fun base hb hF' => h.below base hb (fun x hx => hF' x (hF x hx))⟩
theorem But.set {F : Nat → Prop} {a w : World} (h : But F a w) {b : Nat} (hb : F b) (o : Nat) (v : Value) : But F a (w.setCell ⟨b, o, none⟩ v) :=
  ⟨by have := h.size; simpa [World.setCell] using this, fun x hx hn => (Below.heap_setCell _ _ _ _ (fun e => hn (by rw [show x = b from e]; exact hb))).trans (h.kept x hx hn), fun base h1 h2 => (h.below base h1 h2).setCell (p := ⟨b, o, none⟩) (h2 b hb) v⟩
theorem But.stays {F G : Nat → Prop} {w w' : World} (h : But F w w') (hd : ∀ x, F x → G x → False) : Stays G w w' := ⟨h.size, fun b hb hl => h.kept b hl (fun e => hd b e hb)⟩

/-- j of a row's types are numbered, from k on. -/
structure MInv (w0 w wr : World) (k : Nat) (ts : List Ty) (b c : Nat) (K : Nat → Int) (S : Nat → Value) (G : Nat → Nat → Prop) (F : Nat → Prop) (j : Nat) : Prop where
  row : Row wr b ts.length c (fun i => if i < j then ((k + nodesS (ts.take i) : Nat) : Int) else K i) S
  done : ∀ i x, i < j → ts[i]? = some x → OS wr (markS (k + nodesS (ts.take i) + 1) x.args) (S i) (G i)
  rest : ∀ i, j ≤ i → i < ts.length → Stays (G i) w0 wr
  but : But F w wr

theorem MInv.next {w0 w wr w2 : World} {k : Nat} {ts : List Ty} {b c : Nat} {K : Nat → Int} {S : Nat → Value} {G : Nat → Nat → Prop} {F : Nat → Prop} {j q : Nat} (h : MInv w0 w wr k ts b c K S G F j)
    (hF : F b) (hG : ∀ j x, j < ts.length → G j x → F x ∧ x ≠ b) (hd : ∀ i j x, i < ts.length → j < ts.length → i ≠ j → G i x → G j x → False) (hj : j < ts.length) (hq : q = k + nodesS (ts.take j))
    (hO : OS w2 (markS (q + 1) ts[j].args) (S j) (G j)) (hB : But (G j) (wr.setCell ⟨b, j * 2, none⟩ (.int .i64 q)) w2) : MInv w0 w w2 k ts b c K S G F (j + 1) := by
  have hrow1 := h.row.setKind j q
  have hbut1 : But F w (wr.setCell ⟨b, j * 2, none⟩ (.int .i64 q)) := h.but.set hF _ _
  have st : ∀ i, i < ts.length → i ≠ j → Stays (G i) wr w2 := fun i hi hne => (setCell_stays wr b (j * 2) (.int .i64 q) (G i) (fun e => (hG i b hi e).2 rfl)).trans (hB.stays (fun x h1 h2 => hd i j x hi hj hne h2 h1))
  refine ⟨?_, fun i x hi hx => ?_, fun i h1 h2 => (h.rest i (by omega) h2).trans (st i h2 (by omega)), hbut1.trans (hB.mono (fun x hx => (hG j x hj hx).1))⟩
  · refine (hrow1.of_block (hB.kept b hrow1.lt (fun e => (hG j b hj e).2 rfl))).congr (fun i hi => ?_) (fun i _ => rfl)
    by_cases e : i = j
    · subst e
      simp [hq]
    · simp only [if_neg e]
      by_cases e2 : i < j
      · rw [if_pos e2, if_pos (by omega)]
      · rw [if_neg e2, if_neg (by omega)]
  · by_cases e : i = j
    · subst e
      rw [List.getElem?_eq_getElem hj] at hx
      obtain rfl := Option.some.inj hx
      rw [← hq]
      exact hO
    · exact (h.done i x (by omega) hx).stays (st i (List.getElem?_eq_some_iff.1 hx).1 e)
theorem MInv.all {w0 w wr : World} {k : Nat} {ts : List Ty} {b c : Nat} {K : Nat → Int} {S : Nat → Value} {G : Nat → Nat → Prop} {F : Nat → Prop} (h : MInv w0 w wr k ts b c K S G F ts.length)
    (hF : F b) (hG : ∀ j x, j < ts.length → G j x → F x ∧ x ≠ b) (hd : ∀ i j x, i < ts.length → j < ts.length → i ≠ j → G i x → G j x → False) (hm : c ≤ maxLen) : OS wr (markS k ts) (.slice (some ⟨b, 0, none⟩) ts.length c) F := by
  have hl := markS_length ts k
  have at_ : ∀ j x, (markS k ts)[j]? = some x → ∃ y : Ty, ts[j]? = some y ∧ x = y.mark (k + nodesS (ts.take j)) := fun j x hj => by
    rw [markS_at, Option.map_eq_some_iff] at hj
    obtain ⟨y, h1, h2⟩ := hj
    exact ⟨y, h1, h2.symm⟩
  have key := OS.row (w := wr) (ts := markS k ts) (b := b) (c := c) (F := F) (fun i => if i < ts.length then ((k + nodesS (ts.take i) : Nat) : Int) else K i) S G (by rw [hl]; exact h.row) hm hF
    (fun j x hj => by
      obtain ⟨y, h1, rfl⟩ := at_ j x hj
      rw [if_pos (List.getElem?_eq_some_iff.1 h1).1, mark_kind])
    (fun j x hj => by
      obtain ⟨y, h1, rfl⟩ := at_ j x hj
      rw [mark_args]
      exact h.done j y (List.getElem?_eq_some_iff.1 h1).1 h1)
    (by rw [hl]; exact hG) (by rw [hl]; exact hd)
  rw [hl] at key
  exact key

def Marked' (ts : List Ty) (v : Value) (F : Nat → Prop) (k : Nat) (w : World) (e : Ending) (w' : World) : Prop :=
  e = .returned (.int .i64 ((k + nodesS ts : Nat) : Int)) ∧ OS w' (markS k ts) v F ∧ But F w w'

set_option maxRecDepth 100000 in
set_option maxHeartbeats 1000000 in
theorem markS_any {w0 : World} {F : Nat → Prop} {ts : List Ty} {v : Value} (h : OS w0 ts v F) : ∀ (w : World) (k : Nat), Stays F w0 w → k + nodesS ts ≤ 1099511627776 →
    Calls Try.prog 49 #[v, .int .i64 k] w (Marked' ts v F k w) := by
  induction h with
  | none F =>
    intro w k hst hn
    go_enter Try.func49, Try.ntmps49
    go_wp2_with fail
    go_loopw [1, 5] (fun q i wr => q = .int .i64 k ∧ i = .int .i64 0 ∧ wr = w) (fun _ _ _ => 0)
    case atStart => exact ⟨rfl, rfl, rfl⟩
    case round =>
      obtain ⟨rfl, rfl, rfl⟩ := hrel
      go_wp2_with fail
      go_ret
      exact ⟨by simp [nodesS], .none F, But.refl F _⟩
  | @row ts b c F K S G hrow hm hF hk hr hG hd ih =>
    intro w k hst hn
    have hlen := nodesS_ge ts
    have HIH := Lib.hid ih
    have HFORM := Lib.hid (fun j x (hj : ts[j]? = some x) => (hr j x hj).form)
    have HG := Lib.hid hG
    have HD := Lib.hid hd
    have HM := Lib.hid hm
    have HF := Lib.hid hF
    have H0 := Lib.hid (⟨(hrow.of_block (hst.2 _ hF hrow.lt)).congr (fun i hi => by simp) (fun i _ => rfl), fun i x hi => by omega, fun i _ hi => ⟨hst.1, fun x hx hl => hst.2 x (hG i x hi hx).1 hl⟩, But.refl F w⟩ : MInv w0 w w k ts b c K S G F 0)
    clear ih hr hG hd hm hF hrow hk hst
    go_enter Try.func49, Try.ntmps49
    go_wp2_with fail
    go_loopw [1, 5] (fun q i wr => ∃ (j n : Nat), j ≤ ts.length ∧ i = .int .i64 j ∧ q = .int .i64 n ∧ n = k + nodesS (ts.take j) ∧ MInv w0 w wr k ts b c K S G F j) (fun _ i _ => ts.length - (intOf i).toNat)
    case atStart => exact ⟨0, k, Nat.zero_le _, rfl, rfl, by simp [nodesS], H0.out⟩
    case round =>
      obtain ⟨j, n, hj, rfl, rfl, hn2, hinv⟩ := hrel
      have HI := Lib.hid hinv
      have HN := Lib.hid hn2
      have hnb : n ≤ 1099511627776 := by have := nodesS_take_le ts j; omega
      clear hinv hn2
      by_cases hlj : j < ts.length
      · obtain ⟨p', c', hf⟩ := HFORM.out j _ (List.getElem?_eq_getElem hlj)
        have k0 := HI.out.row.kind hlj
        have k1 := HI.out.row.args hlj
        have kz := HI.out.row.frozen
        have hs1 := (HI.out.row.setKind j n).args hlj
        have hq := nodesS_at ts j hlj
        have hq2 := nodesS_take ts j hlj
        have hq3 := nodesS_take_le ts (j + 1)
        have hC := HIH.out j _ (List.getElem?_eq_getElem hlj) (wr.setCell ⟨b, j * 2, none⟩ (.int .i64 n)) (n + 1) ((HI.out.rest j (Nat.le_refl _) hlj).trans (setCell_stays _ _ _ _ _ (fun e => (HG.out j b hlj e).2 rfl))) (by have := HN.out; omega)
        have HQ2 := Lib.hid hq2
        have HFF := Lib.hid hf
        rw [hf] at hC hs1
        have HC := Lib.hid hC
        have i0 : (0 : Int) ≤ (j : Int) := Int.natCast_nonneg _
        have i1 : (j : Int) < (ts.length : Int) := by omega
        clear hC hf hq hq2 hq3 k1
        go_wp2_with fail
        refine HC.out.mono ?_
        rintro e w2 ⟨rfl, hO, hB⟩
        have HO := Lib.hid hO
        have HB := Lib.hid hB
        clear hO hB hs1 k0 kz
        go_wp2_with fail
        go_roundw
        case rel =>
          refine ⟨j + 1, n + 1 + nodesS ts[j].args, by omega, by go_num, rfl, by have := HQ2.out; have := HN.out; omega, HI.out.next HF.out HG.out HD.out hlj HN.out ?_ HB.out⟩
          rw [HFF.out]
          exact HO.out
        case measure => simp [intOf]; omega
      · obtain rfl : j = ts.length := by omega
        go_wp2_with fail
        go_ret
        have h1 := HN.out
        rw [List.take_length] at h1
        subst h1
        exact ⟨rfl, HI.out.all HF.out HG.out HD.out HM.out, HI.out.but⟩
set_option maxRecDepth 100000 in
set_option maxHeartbeats 1000000 in
/-- THE LAWS' markType. -/
theorem markT_any {F : Nat → Prop} {t : Ty} {v : Value} {w : World} (h : OT w t v F) (k : Nat) (hn : k + nodesS t.args ≤ 1099511627776) :
    Calls Try.prog 23 #[v, .int .i64 k] w (fun e w' => e = .returned (.int .i64 ((k + nodesS t.args : Nat) : Int)) ∧ OT w' (.mk t.kind (markS k t.args)) v F ∧ ∃ w1, Below w.heap.size w w1 ∧ But F w1 w') := by
  obtain ⟨s, rfl, h⟩ := h
  obtain ⟨p, c, rfl⟩ := h.form
  have hb := (Below.refl w.heap.size w).alloc (Nat.le_refl _) (Obj.cells #[.int .i64 t.kind, .slice p t.args.length c] 26)
  have HC := Lib.hid (markS_any h _ k (Stays.of_below hb) hn)
  have HB := Lib.hid hb
  clear hb
  go_enter Try.func23, Try.ntmps23
  go_wp2_with fail
  refine HC.out.mono ?_
  rintro e w1 ⟨rfl, hO, hB⟩
  have HO := Lib.hid hO
  have HBT := Lib.hid hB
  clear hO hB
  go_wp2_with fail
  go_ret
  exact ⟨rfl, ⟨_, rfl, HO.out⟩, _, HB.out, HBT.out⟩

set_option maxRecDepth 100000 in
set_option maxHeartbeats 1000000 in
/-- THE LAWS' heldTypeS. -/
theorem heldS_any {w0 : World} {C : Nat → Prop} {us : List Ty} {v : Value} (h : TS w0 C us v) : ∀ (w : World) (k : Nat) (ts : List Ty), us = markS k ts → Stays C w0 w → k + nodesS ts ≤ 1099511627776 →
    Calls Try.prog 50 #[v, .int .i64 k] w (IntRet (fun r => r = ((k + nodesS ts : Nat) : Int)) w) := by
  refine TS.ind (motive := fun us v => ∀ (w : World) (k : Nat) (ts : List Ty), us = markS k ts → Stays C w0 w → k + nodesS ts ≤ 1099511627776 →
    Calls Try.prog 50 #[v, .int .i64 k] w (IntRet (fun r => r = ((k + nodesS ts : Nat) : Int)) w)) ?_ h
  intro us p c hl H w k ts hu hst hn
  have hlu : us.length = ts.length := by rw [hu, markS_length]
  have hlen := nodesS_ge ts
  rw [hlu] at hl ⊢
  have HH := Lib.hid H
  have HST := Lib.hid hst
  have HU := Lib.hid (fun j (hj : j < ts.length) => show us[j]? = some (ts[j].mark (k + nodesS (ts.take j))) by rw [hu, markS_at, List.getElem?_eq_getElem hj]; rfl)
  clear H hst hu
  go_enter Try.func50, Try.ntmps50
  go_wp2_with fail
  go_loopw [1, 5] (fun q i wr => ∃ (j n : Nat), j ≤ ts.length ∧ i = .int .i64 j ∧ q = .int .i64 n ∧ n = k + nodesS (ts.take j) ∧ Below w.heap.size w wr) (fun _ i _ => ts.length - (intOf i).toNat)
  case atStart => exact ⟨0, k, Nat.zero_le _, rfl, rfl, by simp [nodesS], Below.refl _ _⟩
  case round =>
    obtain ⟨j, n, hj, rfl, rfl, hn2, hbr⟩ := hrel
    have HN := Lib.hid hn2
    have HB := Lib.hid hbr
    have hnb : n ≤ 1099511627776 := by have := nodesS_take_le ts j; omega
    clear hn2 hbr
    by_cases hlj : j < ts.length
    · obtain ⟨b, o, p', c', rfl, hcs, hT, hI⟩ := HH.out j _ (HU.out j hlj)
      obtain ⟨f1, f2⟩ := hcs wr (HST.out.trans (Stays.of_below HB.out))
      have hq2 := nodesS_take ts j hlj
      have hq3 := nodesS_take_le ts (j + 1)
      have hC := hI wr (n + 1) ts[j].args (by rw [mark_args, HN.out]) (HST.out.trans (Stays.of_below HB.out)) (by have := HN.out; omega)
      rw [mark_kind, ← HN.out] at f1
      have HC := Lib.hid hC
      have HQ2 := Lib.hid hq2
      have i0 : (0 : Int) ≤ (j : Int) := Int.natCast_nonneg _
      have i1 : (j : Int) < (ts.length : Int) := by omega
      clear hcs hT hI hC hq2
      go_wp2_with fail
      refine HC.out.mono ?_
      rintro e w1 ⟨r, rfl, rfl, hb1⟩
      have HB1 := Lib.hid (HB.out.trans (hb1.mono HB.out.size))
      have hnn : ¬ (((n + 1 + nodesS ts[j].args : Nat) : Int) < 0) := by omega
      clear hb1 f1 f2
      go_wp2_with fail
      go_roundw
      case rel => exact ⟨j + 1, n + 1 + nodesS ts[j].args, by omega, by go_num, rfl, by have := HQ2.out; have := HN.out; omega, HB1.out⟩
      case measure => simp [intOf]; omega
    · obtain rfl : j = ts.length := by omega
      have h1 := HN.out
      rw [List.take_length] at h1
      have H1 := Lib.hid h1
      clear h1
      go_wp2_with fail
      go_ret
      exact ⟨_, by rw [H1.out], rfl, HB.out⟩
set_option maxRecDepth 100000 in
set_option maxHeartbeats 1000000 in
/-- THE LAWS' heldType. -/
theorem heldT_any {C : Nat → Prop} {t : Ty} {v : Value} {w : World} {k : Nat} {ts : List Ty} (h : TT w C t v) (ht : t.args = markS k ts) (hn : k + nodesS ts ≤ 1099511627776) :
    Calls Try.prog 24 #[v, .int .i64 k] w (IntRet (fun r => r = ((k + nodesS ts : Nat) : Int)) w) := by
  obtain ⟨s, rfl, h⟩ := h
  obtain ⟨p, c, rfl⟩ := h.form
  have hb := (Below.refl w.heap.size w).alloc (Nat.le_refl _) (Obj.cells #[.int .i64 t.kind, .slice p t.args.length c] 26)
  have HC := Lib.hid (heldS_any h _ k ts ht (Stays.of_below hb) hn)
  have HB := Lib.hid hb
  clear hb ht
  go_enter Try.func24, Try.ntmps24
  go_wp2_with fail
  refine HC.out.mono ?_
  rintro e w1 ⟨r, hr, rfl, hb1⟩
  have HB1 := Lib.hid (HB.out.trans (hb1.mono HB.out.size))
  have hnn : ¬ (r < 0) := by rw [hr]; omega
  have HR := Lib.hid hr
  clear hb1 hr
  go_wp2_with fail
  go_ret
  exact ⟨_, HR.out, rfl, HB1.out⟩
#print axioms markT_any
#print axioms heldT_any
end Go.Proofs.Ytjobmgbchpoheaa

