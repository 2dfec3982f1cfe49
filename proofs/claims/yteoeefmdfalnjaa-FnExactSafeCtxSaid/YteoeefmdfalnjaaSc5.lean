/-
  Several texts of the proof in one (each says below what it holds): TyMark Num Put Strs Mark MarkD CxMark.
-/
import Derived.Test.YteoeefmdfalnjaaSc1
import Derived.Test.YteoeefmdfalnjaaSc2
import Derived.Test.YteoeefmdfalnjaaSc3
import Derived.Test.YteoeefmdfalnjaaSc4
import Derived.Lib.ItoaNum
import Derived.Lib.AtoiAll
import Derived.OwnWalk
import Derived.Below
import Derived.Test.YteoeefmdfalnjaaProg
import Derived.WalkSmall
import Derived.Deep.RegionHeld3
import Derived.Lib.SmallJoins
/- TyMark: The contract of the laws' markTypeS, markType: every node of a tree of the call's own is numbered, nothing else turns; of heldTypeS, heldType: the numbers are found again. -/
namespace Go.Proofs.Yteoeefmdfalnjaa
open Go Go.RowKit

mutual
def Ty.mark : Nat → Ty → Ty
  | k, .mk _ ts => .mk k (markS (k + 1) ts)
def markS : Nat → List Ty → List Ty
  | _, [] => []
  | k, t :: ts => t.mark k :: markS (k + t.nodes) ts
end
theorem mark_kind (k : Nat) (t : Ty) : (t.mark k).kind = k := by cases t; rfl
theorem mark_args (k : Nat) (t : Ty) : (t.mark k).args = markS (k + 1) t.args := by cases t; rfl
theorem markS_at (ts : List Ty) : ∀ (k j : Nat), (markS k ts)[j]? = (ts[j]?).map (fun x => x.mark (k + nodesS (ts.take j))) := by
  induction ts with
  | nil => intro k j; simp [markS]
  | cons t ts ih =>
    intro k j
    cases j with
    | zero => simp [markS, nodesS]
    | succ j => simp only [markS, List.getElem?_cons_succ, ih, List.take_succ_cons, nodesS, Nat.add_assoc]
theorem markS_length (ts : List Ty) : ∀ k : Nat, (markS k ts).length = ts.length := by
  induction ts with
  | nil => intro k; rfl
  | cons t ts ih => intro k; simp [markS, ih]

/-- Nothing turns but in the blocks of F. -/
structure But (F : Nat → Prop) (w w' : World) : Prop where
  size : w.heap.size ≤ w'.heap.size
  kept : ∀ b, b < w.heap.size → ¬ F b → w'.heap[b]? = w.heap[b]?
  below : ∀ base, base ≤ w.heap.size → (∀ b, F b → base ≤ b) → Below base w w'
theorem But.refl (F : Nat → Prop) (w : World) : But F w w := ⟨Nat.le_refl _, fun _ _ _ => rfl, fun base _ _ => Below.refl base w⟩
theorem But.trans {F : Nat → Prop} {a b c : World} (h : But F a b) (k : But F b c) : But F a c :=
  ⟨Nat.le_trans h.size k.size, fun x hx hn => (k.kept x (Nat.lt_of_lt_of_le hx h.size) hn).trans (h.kept x hx hn), fun base hb hF => (h.below base hb hF).trans (k.below base (Nat.le_trans hb h.size) hF)⟩
theorem But.mono {F F' : Nat → Prop} {a b : World} (h : But F a b) (hF : ∀ x, F x → F' x) : But F' a b :=
  ⟨h.size, fun x hx hn => h.kept x hx (fun e => hn (hF x e)), fun base hb hF' => h.below base hb (fun x hx => hF' x (hF x hx))⟩
theorem But.set {F : Nat → Prop} {a w : World} (h : But F a w) {b : Nat} (hb : F b) (o : Nat) (v : Value) : But F a (w.setCell ⟨b, o, none⟩ v) :=
  ⟨by have := h.size; simpa [World.setCell] using this, fun x hx hn => (Below.heap_setCell _ _ _ _ (fun e => hn (by rw [show x = b from e]; exact hb))).trans (h.kept x hx hn), fun base h1 h2 => (h.below base h1 h2).setCell (p := ⟨b, o, none⟩) (h2 b hb) v⟩
theorem But.stays {F G : Nat → Prop} {w w' : World} (h : But F w w') (hd : ∀ x, F x → G x → False) : Stays G w w' := ⟨h.size, fun b hb hl => h.kept b hl (fun e => hd b e hb)⟩

/-- j of a row's types are numbered, from k on. -/
structure MInv (w0 w wr : World) (k : Nat) (ts : List Ty) (b c : Nat) (K : Nat → Int) (S : Nat → Value) (G : Nat → Nat → Prop) (F : Nat → Prop) (j : Nat) : Prop where
  row : Row wr b ts.length c (fun i => if i < j then ((k + nodesS (ts.take i) : Nat) : Int) else K i) S
  done : ∀ i x, i < j → ts[i]? = some x → OS wr (markS (k + nodesS (ts.take i) + 1) x.args) (S i) (G i)
  rest : ∀ i, j ≤ i → i < ts.length → Stays (G i) w0 wr
  but : But F w wr

theorem MInv.next {w0 w wr w2 : World} {k : Nat} {ts : List Ty} {b c : Nat} {K : Nat → Int} {S : Nat → Value} {G : Nat → Nat → Prop} {F : Nat → Prop} {j q : Nat} (h : MInv w0 w wr k ts b c K S G F j)
    (hF : F b) (hG : ∀ j x, j < ts.length → G j x → F x ∧ x ≠ b) (hd : ∀ i j x, i < ts.length → j < ts.length → i ≠ j → G i x → G j x → False) (hj : j < ts.length) (hq : q = k + nodesS (ts.take j))
    (hO : OS w2 (markS (q + 1) ts[j].args) (S j) (G j)) (hB : But (G j) (wr.setCell ⟨b, j * 2, none⟩ (.int .i64 q)) w2) : MInv w0 w w2 k ts b c K S G F (j + 1) := by
  have hrow1 := h.row.setKind j q
  have hbut1 : But F w (wr.setCell ⟨b, j * 2, none⟩ (.int .i64 q)) := h.but.set hF _ _
  have st : ∀ i, i < ts.length → i ≠ j → Stays (G i) wr w2 := fun i hi hne => (setCell_stays wr b (j * 2) (.int .i64 q) (G i) (fun e => (hG i b hi e).2 rfl)).trans (hB.stays (fun x h1 h2 => hd i j x hi hj hne h2 h1))
  refine ⟨?_, fun i x hi hx => ?_, fun i h1 h2 => (h.rest i (by omega) h2).trans (st i h2 (by omega)), hbut1.trans (hB.mono (fun x hx => (hG j x hj hx).1))⟩
  · refine (hrow1.of_block (hB.kept b hrow1.lt (fun e => (hG j b hj e).2 rfl))).congr (fun i hi => ?_) (fun i _ => rfl)
    by_cases e : i = j
    · subst e
      simp [hq]
    · simp only [if_neg e]
      by_cases e2 : i < j
      · rw [if_pos e2, if_pos (by omega)]
      · rw [if_neg e2, if_neg (by omega)]
  · by_cases e : i = j
    · subst e
      rw [List.getElem?_eq_getElem hj] at hx
      obtain rfl := Option.some.inj hx
      rw [← hq]
      exact hO
    · exact (h.done i x (by omega) hx).stays (st i (List.getElem?_eq_some_iff.1 hx).1 e)
theorem MInv.all {w0 w wr : World} {k : Nat} {ts : List Ty} {b c : Nat} {K : Nat → Int} {S : Nat → Value} {G : Nat → Nat → Prop} {F : Nat → Prop} (h : MInv w0 w wr k ts b c K S G F ts.length)
    (hF : F b) (hG : ∀ j x, j < ts.length → G j x → F x ∧ x ≠ b) (hd : ∀ i j x, i < ts.length → j < ts.length → i ≠ j → G i x → G j x → False) (hm : c ≤ maxLen) : OS wr (markS k ts) (.slice (some ⟨b, 0, none⟩) ts.length c) F := by
  have hl := markS_length ts k
  have at_ : ∀ j x, (markS k ts)[j]? = some x → ∃ y : Ty, ts[j]? = some y ∧ x = y.mark (k + nodesS (ts.take j)) := fun j x hj => by
    rw [markS_at, Option.map_eq_some_iff] at hj
    obtain ⟨y, h1, h2⟩ := hj
    exact ⟨y, h1, h2.symm⟩
  have key := OS.row (w := wr) (ts := markS k ts) (b := b) (c := c) (F := F) (fun i => if i < ts.length then ((k + nodesS (ts.take i) : Nat) : Int) else K i) S G (by rw [hl]; exact h.row) hm hF
    (fun j x hj => by
      obtain ⟨y, h1, rfl⟩ := at_ j x hj
      rw [if_pos (List.getElem?_eq_some_iff.1 h1).1, mark_kind])
    (fun j x hj => by
      obtain ⟨y, h1, rfl⟩ := at_ j x hj
      rw [mark_args]
      exact h.done j y (List.getElem?_eq_some_iff.1 h1).1 h1)
    (by rw [hl]; exact hG) (by rw [hl]; exact hd)
  rw [hl] at key
  exact key

def Marked' (ts : List Ty) (v : Value) (F : Nat → Prop) (k : Nat) (w : World) (e : Ending) (w' : World) : Prop :=
  e = .returned (.int .i64 ((k + nodesS ts : Nat) : Int)) ∧ OS w' (markS k ts) v F ∧ But F w w'

set_option maxRecDepth 100000 in
set_option maxHeartbeats 1000000 in
theorem markS_any {w0 : World} {F : Nat → Prop} {ts : List Ty} {v : Value} (h : OS w0 ts v F) : ∀ (w : World) (k : Nat), Stays F w0 w → k + nodesS ts ≤ 1099511627776 →
    Calls Try.prog 28 #[v, .int .i64 k] w (Marked' ts v F k w) := by
  induction h with
  | none F =>
    intro w k hst hn
    go_enter Try.func28, Try.ntmps28
    go_wp2_with fail
    go_loopw [1, 5] (fun q i wr => q = .int .i64 k ∧ i = .int .i64 0 ∧ wr = w) (fun _ _ _ => 0)
    case atStart => exact ⟨rfl, rfl, rfl⟩
    case round =>
      obtain ⟨rfl, rfl, rfl⟩ := hrel
      go_wp2_with fail
      go_ret
      exact ⟨by simp [nodesS], .none F, But.refl F _⟩
  | @row ts b c F K S G hrow hm hF hk hr hG hd ih =>
    intro w k hst hn
    have hlen := nodesS_ge ts
    have HIH := Lib.hid ih
    have HFORM := Lib.hid (fun j x (hj : ts[j]? = some x) => (hr j x hj).form)
    have HG := Lib.hid hG
    have HD := Lib.hid hd
    have HM := Lib.hid hm
    have HF := Lib.hid hF
    have H0 := Lib.hid (⟨(hrow.of_block (hst.2 _ hF hrow.lt)).congr (fun i hi => by simp) (fun i _ => rfl), fun i x hi => by omega, fun i _ hi => ⟨hst.1, fun x hx hl => hst.2 x (hG i x hi hx).1 hl⟩, But.refl F w⟩ : MInv w0 w w k ts b c K S G F 0)
    clear ih hr hG hd hm hF hrow hk hst
    go_enter Try.func28, Try.ntmps28
    go_wp2_with fail
    go_loopw [1, 5] (fun q i wr => ∃ (j n : Nat), j ≤ ts.length ∧ i = .int .i64 j ∧ q = .int .i64 n ∧ n = k + nodesS (ts.take j) ∧ MInv w0 w wr k ts b c K S G F j) (fun _ i _ => ts.length - (intOf i).toNat)
    case atStart => exact ⟨0, k, Nat.zero_le _, rfl, rfl, by simp [nodesS], H0.out⟩
    case round =>
      obtain ⟨j, n, hj, rfl, rfl, hn2, hinv⟩ := hrel
      have HI := Lib.hid hinv
      have HN := Lib.hid hn2
      have hnb : n ≤ 1099511627776 := by have := nodesS_take_le ts j; omega
      clear hinv hn2
      by_cases hlj : j < ts.length
      · obtain ⟨p', c', hf⟩ := HFORM.out j _ (List.getElem?_eq_getElem hlj)
        have k0 := HI.out.row.kind hlj
        have k1 := HI.out.row.args hlj
        have kz := HI.out.row.frozen
        have hs1 := (HI.out.row.setKind j n).args hlj
        have hq := nodesS_at ts j hlj
        have hq2 := nodesS_take ts j hlj
        have hq3 := nodesS_take_le ts (j + 1)
        have hC := HIH.out j _ (List.getElem?_eq_getElem hlj) (wr.setCell ⟨b, j * 2, none⟩ (.int .i64 n)) (n + 1) ((HI.out.rest j (Nat.le_refl _) hlj).trans (setCell_stays _ _ _ _ _ (fun e => (HG.out j b hlj e).2 rfl))) (by have := HN.out; omega)
        have HQ2 := Lib.hid hq2
        have HFF := Lib.hid hf
        rw [hf] at hC hs1
        have HC := Lib.hid hC
        have i0 : (0 : Int) ≤ (j : Int) := Int.natCast_nonneg _
        have i1 : (j : Int) < (ts.length : Int) := by omega
        clear hC hf hq hq2 hq3 k1
        go_wp2_with fail
        refine HC.out.mono ?_
        rintro e w2 ⟨rfl, hO, hB⟩
        have HO := Lib.hid hO
        have HB := Lib.hid hB
        clear hO hB hs1 k0 kz
        go_wp2_with fail
        go_roundw
        case rel =>
          refine ⟨j + 1, n + 1 + nodesS ts[j].args, by omega, by go_num, rfl, by have := HQ2.out; have := HN.out; omega, HI.out.next HF.out HG.out HD.out hlj HN.out ?_ HB.out⟩
          rw [HFF.out]
          exact HO.out
        case measure => simp [intOf]; omega
      · obtain rfl : j = ts.length := by omega
        go_wp2_with fail
        go_ret
        have h1 := HN.out
        rw [List.take_length] at h1
        subst h1
        exact ⟨rfl, HI.out.all HF.out HG.out HD.out HM.out, HI.out.but⟩
set_option maxRecDepth 100000 in
set_option maxHeartbeats 1000000 in
/-- THE LAWS' heldTypeS. -/
theorem heldS_any {w0 : World} {C : Nat → Prop} {us : List Ty} {v : Value} (h : TS w0 C us v) : ∀ (w : World) (k : Nat) (ts : List Ty), us = markS k ts → Stays C w0 w → k + nodesS ts ≤ 1099511627776 →
    Calls Try.prog 29 #[v, .int .i64 k] w (IntRet (fun r => r = ((k + nodesS ts : Nat) : Int)) w) := by
  refine TS.ind (motive := fun us v => ∀ (w : World) (k : Nat) (ts : List Ty), us = markS k ts → Stays C w0 w → k + nodesS ts ≤ 1099511627776 →
    Calls Try.prog 29 #[v, .int .i64 k] w (IntRet (fun r => r = ((k + nodesS ts : Nat) : Int)) w)) ?_ h
  intro us p c hl H w k ts hu hst hn
  have hlu : us.length = ts.length := by rw [hu, markS_length]
  have hlen := nodesS_ge ts
  rw [hlu] at hl ⊢
  have HH := Lib.hid H
  have HST := Lib.hid hst
  have HU := Lib.hid (fun j (hj : j < ts.length) => show us[j]? = some (ts[j].mark (k + nodesS (ts.take j))) by rw [hu, markS_at, List.getElem?_eq_getElem hj]; rfl)
  clear H hst hu
  go_enter Try.func29, Try.ntmps29
  go_wp2_with fail
  go_loopw [1, 5] (fun q i wr => ∃ (j n : Nat), j ≤ ts.length ∧ i = .int .i64 j ∧ q = .int .i64 n ∧ n = k + nodesS (ts.take j) ∧ Below w.heap.size w wr) (fun _ i _ => ts.length - (intOf i).toNat)
  case atStart => exact ⟨0, k, Nat.zero_le _, rfl, rfl, by simp [nodesS], Below.refl _ _⟩
  case round =>
    obtain ⟨j, n, hj, rfl, rfl, hn2, hbr⟩ := hrel
    have HN := Lib.hid hn2
    have HB := Lib.hid hbr
    have hnb : n ≤ 1099511627776 := by have := nodesS_take_le ts j; omega
    clear hn2 hbr
    by_cases hlj : j < ts.length
    · obtain ⟨b, o, p', c', rfl, hcs, hT, hI⟩ := HH.out j _ (HU.out j hlj)
      obtain ⟨f1, f2⟩ := hcs wr (HST.out.trans (Stays.of_below HB.out))
      have hq2 := nodesS_take ts j hlj
      have hq3 := nodesS_take_le ts (j + 1)
      have hC := hI wr (n + 1) ts[j].args (by rw [mark_args, HN.out]) (HST.out.trans (Stays.of_below HB.out)) (by have := HN.out; omega)
      rw [mark_kind, ← HN.out] at f1
      have HC := Lib.hid hC
      have HQ2 := Lib.hid hq2
      have i0 : (0 : Int) ≤ (j : Int) := Int.natCast_nonneg _
      have i1 : (j : Int) < (ts.length : Int) := by omega
      clear hcs hT hI hC hq2
      go_wp2_with fail
      refine HC.out.mono ?_
      rintro e w1 ⟨r, rfl, rfl, hb1⟩
      have HB1 := Lib.hid (HB.out.trans (hb1.mono HB.out.size))
      have hnn : ¬ (((n + 1 + nodesS ts[j].args : Nat) : Int) < 0) := by omega
      clear hb1 f1 f2
      go_wp2_with fail
      go_roundw
      case rel => exact ⟨j + 1, n + 1 + nodesS ts[j].args, by omega, by go_num, rfl, by have := HQ2.out; have := HN.out; omega, HB1.out⟩
      case measure => simp [intOf]; omega
    · obtain rfl : j = ts.length := by omega
      have h1 := HN.out
      rw [List.take_length] at h1
      have H1 := Lib.hid h1
      clear h1
      go_wp2_with fail
      go_ret
      exact ⟨_, by rw [H1.out], rfl, HB.out⟩
end Go.Proofs.Yteoeefmdfalnjaa
/- Num: Plain facts about decimal numerals, of no program: how digits are gathered, what a numeral's bytes are, reading back what was written. -/
namespace Go.Proofs.Yteoeefmdfalnjaa
open Go

/-- The digits of m, none for 0. -/
def dec (m : Nat) : List UInt8 := if m = 0 then [] else Lib.decDigits m

theorem dec_zero : dec 0 = [] := rfl
theorem dec_pos {m : Nat} (h : 1 ≤ m) : dec m = Lib.decDigits m := by unfold dec; rw [if_neg (by omega)]
theorem dec_step {m : Nat} (h : 1 ≤ m) : dec (m / 10) ++ [UInt8.ofNat (48 + m % 10)] = dec m := by
  rw [dec_pos h, Lib.decDigits]
  by_cases hm : m < 10
  · rw [dif_pos hm, show m / 10 = 0 by omega, dec_zero, Nat.mod_eq_of_lt hm]; rfl
  · rw [dif_neg hm, dec_pos (by omega)]
theorem dec_put {m : Nat} (h : 1 ≤ m) {l r : List UInt8} (hl : dec m ++ l = r) : dec (m / 10) ++ (UInt8.ofNat (48 + m % 10) :: l) = r := by
  rw [← hl, ← dec_step h, List.append_assoc]; rfl

theorem nDigits_le : ∀ (k u : Nat), 1 ≤ k → u < 10 ^ k → Lib.nDigits u ≤ k
  | 0, _, h, _ => by omega
  | k + 1, u, _, h => by
    by_cases hu : u < 10
    · rw [Lib.nDigits_small hu]; omega
    · rw [Lib.nDigits_big hu]
      have h1 : 1 ≤ k := by
        cases k with
        | zero => simp at h; omega
        | succ k => omega
      have := nDigits_le k (u / 10) h1 (by rw [Nat.pow_succ] at h; omega)
      omega
theorem lt_of_nDigits_le {k u : Nat} (h : Lib.nDigits u ≤ k) : u < 10 ^ k :=
  Nat.lt_of_lt_of_le (Lib.lt_pow_nDigits u) (Nat.pow_le_pow_right (by decide) h)
theorem dec_length_le {u : Nat} (h : u ≤ 9223372036854775808) : (Lib.decDigits u).length ≤ 19 := by
  rw [Lib.decDigits_length]; exact nDigits_le 19 u (by decide) (by simp only [Nat.reducePow]; omega)
theorem itoa_length_le {n : Int} (h0 : -9223372036854775808 ≤ n) (h1 : n ≤ 9223372036854775807) : (Lib.itoa n).length ≤ 20 := by
  unfold Lib.itoa
  split
  · have := dec_length_le (u := n.natAbs) (by omega)
    simp only [List.length_cons]; omega
  · have := dec_length_le (u := n.toNat) (by omega)
    omega

end Go.Proofs.Yteoeefmdfalnjaa
/- Put: Small facts of no program: a digit put in front of the digits that are there. -/
namespace Go.Proofs.Yteoeefmdfalnjaa
open Go Go.RowKit

theorem ret_str {a b : List UInt8} (h : a = b) : Ending.returned (.string ⟨a.toArray⟩) = Ending.returned (.string ⟨b.toArray⟩) := by rw [h]
theorem rel_put (m : Nat) (h : ¬ m = 0) {l r : List UInt8} (hl : dec m ++ l = r) :
    Value.string ((⟨#[48 + UInt8.ofNat (m % 10)]⟩ : ByteArray) ++ ⟨l.toArray⟩) = Value.string ⟨(UInt8.ofNat (48 + m % 10) :: l).toArray⟩ ∧ dec (m / 10) ++ (UInt8.ofNat (48 + m % 10) :: l) = r := by
  refine ⟨?_, dec_put (by omega) hl⟩
  rw [str_cons, UInt8.ofNat_add]; rfl

end Go.Proofs.Yteoeefmdfalnjaa
/- Strs: Slices of strings, of no program: what a slice holds, and that it holds it in every later world; a slice that a call made itself. -/
namespace Go.Proofs.Yteoeefmdfalnjaa
open Go Go.RowKit

/-- The strings' bytes. -/
def bs (xs : List ByteArray) : List (List UInt8) := xs.map (·.data.toList)
theorem bs_inj {a b : List ByteArray} (h : bs a = bs b) : a = b := by
  induction a generalizing b with
  | nil =>
    cases b with
    | nil => rfl
    | cons y b => simp [bs] at h
  | cons x a ih =>
    cases b with
    | nil => simp [bs] at h
    | cons y b =>
      simp only [bs, List.map_cons, List.cons.injEq] at h
      rw [ih h.2]
      obtain ⟨⟨x⟩⟩ := x
      obtain ⟨⟨y⟩⟩ := y
      rw [show x = y from h.1]

/-- The slice v holds just the strings xs. -/
def SS (w : World) (v : Value) (xs : List ByteArray) : Prop :=
  (xs = [] ∧ ∃ a c, v = .slice a 0 c) ∨
  (1 ≤ xs.length ∧ ∃ b o c, v = .slice (some ⟨b, o, none⟩) xs.length c ∧ xs.length ≤ c ∧ b < w.heap.size ∧ ∀ j x, xs[j]? = some x → w.cell? ⟨b, o + j, none⟩ = some (.string x))

theorem SS.below {w w' : World} {v : Value} {xs : List ByteArray} (h : SS w v xs) (hb : Below w.heap.size w w') : SS w' v xs := by
  rcases h with h | ⟨h1, b, o, c, rfl, hc, hlt, hcell⟩
  · exact Or.inl h
  · exact Or.inr ⟨h1, b, o, c, rfl, hc, Nat.lt_of_lt_of_le hlt hb.size, fun j x hj => (hb.cell (p := ⟨b, o + j, none⟩) hlt).trans (hcell j x hj)⟩

/-- A row of the call's own stands in every later world. -/
theorem ownsRow_below {w w' : World} {base : Nat} {e : TypeId} {size n : Nat} {v : Value} {xs : List Value} (h : w.ownsRow base e size v n xs) (hb : Below w.heap.size w w') : w'.ownsRow base e size v n xs := by
  refine ⟨h.1, ?_⟩
  rcases h.2 with h0 | ⟨g, cap, cur, rfl, hg, hblk, h1, h2, h3, h4⟩
  · exact Or.inl h0
  · refine Or.inr ⟨g, cap, cur, rfl, hg, ?_, h1, h2, h3, h4⟩
    have hlt : g < w.heap.size := by
      rcases Nat.lt_or_ge g w.heap.size with h' | h'
      · exact h'
      · rw [Array.getElem?_eq_none h'] at hblk; cases hblk
    rw [hb.block g hlt]; exact hblk

theorem ownsRow_mono {w : World} {base base' : Nat} {e : TypeId} {size n : Nat} {v : Value} {xs : List Value} (h : w.ownsRow base e size v n xs) (hb : base' ≤ base) : w.ownsRow base' e size v n xs := by
  refine ⟨h.1, ?_⟩
  rcases h.2 with h0 | ⟨g, cap, cur, rfl, hg, h'⟩
  · exact Or.inl h0
  · exact Or.inr ⟨g, cap, cur, rfl, Nat.le_trans hb hg, h'⟩

/-- A row of the call's own, as a slice of strings. -/
theorem SS_of_row {w : World} {base : Nat} {e : TypeId} {n : Nat} {v : Value} {xs : List ByteArray} (h : w.ownsRow base e 1 v n (xs.map Value.string)) : SS w v xs := by
  have hn : xs.length = n := by simpa using h.1
  rcases h.2 with ⟨rfl, h0⟩ | ⟨g, cap, cur, rfl, hg, hblk, h1, h2, h3, h4⟩
  · exact Or.inl ⟨List.eq_nil_of_length_eq_zero (by omega), _, _, rfl⟩
  · by_cases hz : n = 0
    · subst hz
      exact Or.inl ⟨List.eq_nil_of_length_eq_zero hn, _, _, rfl⟩
    · have hlt : g < w.heap.size := by
        rcases Nat.lt_or_ge g w.heap.size with h' | h'
        · exact h'
        · rw [Array.getElem?_eq_none h'] at hblk; cases hblk
      refine Or.inr ⟨by omega, g, 0, cap, by rw [hn], by omega, hlt, fun j x hj => ?_⟩
      have hj1 : j < n := by
        have := (List.getElem?_eq_some_iff.1 hj).1
        omega
      rw [Nat.zero_add, World.ownsRow.cellAt (xs := xs.map Value.string) (cap := cap) (n := n) h j (by omega), List.getElem?_map, hj]
      rfl
end Go.Proofs.Yteoeefmdfalnjaa
/- Mark: The contracts of the laws' marks: the text of a mark, marking a slice of strings that is the call's own, finding the marks again. -/
namespace Go.Proofs.Yteoeefmdfalnjaa
open Go Go.RowKit

/-- The text of mark k. -/
def mk (k : Nat) : ByteArray := ⟨(109 :: Lib.decDigits k).toArray⟩
/-- The marks from k on. -/
def marks (k n : Nat) : List ByteArray := (List.range n).map fun j => mk (k + j)
theorem marks_length (k n : Nat) : (marks k n).length = n := by simp [marks]
theorem marks_at (k n j : Nat) (h : j < n) : (marks k n)[j]? = some (mk (k + j)) := by simp [marks, h]

theorem ret_mark {a b : List UInt8} (h : a = b) : Ending.returned (.string ((⟨#[109]⟩ : ByteArray) ++ ⟨a.toArray⟩)) = Ending.returned (.string ⟨(109 :: b).toArray⟩) := by rw [h, str_cons]

set_option maxRecDepth 100000 in
set_option maxHeartbeats 400000 in
theorem markText_any (N : Nat) (h1 : 1 ≤ N) (h2 : N ≤ 9223372036854775807) (w : World) :
    Calls Try.prog 27 #[.int .i64 N] w fun e w' => e = .returned (.string (mk N)) ∧ Below w.heap.size w w' := by
  have t1 : decide ((N : Int) ≤ 0) = false := by simp; omega
  go_enter Try.func27, Try.ntmps27
  go_wp2
  go_loopw [0, 3] (fun n out wr => ∃ (m : Nat) (l : List UInt8), m ≤ N ∧ n = .int .i64 m ∧ out = .string ⟨l.toArray⟩ ∧ dec m ++ l = Lib.decDigits N ∧ Below w.heap.size w wr) (fun n _ _ => (intOf n).toNat)
  case atStart => exact ⟨N, [], Nat.le_refl _, rfl, rfl, by rw [dec_pos h1, List.append_nil], Below.refl _ _⟩
  case round =>
    obtain ⟨m, l, hm, rfl, rfl, hl, hb⟩ := hrel
    have hll : l.length ≤ 19 := by
      have e := congrArg List.length hl
      rw [List.length_append] at e
      have := dec_length_le (u := N) (by omega)
      omega
    have HL := Lib.hid hl
    clear hl
    by_cases hz : m = 0
    · subst hz
      go_wp2
      go_ret
      have e := HL.out
      rw [dec_zero, List.nil_append] at e
      exact ⟨ret_mark e, hb⟩
    · have t3 : decide (0 < (m : Int)) = true := by simp; omega
      have kc := run_string_byte (P := Try.prog) wr 69 9 5 (48 + (m : Int) % 10) (by omega) (by omega) Try.underlying69 Try.underlying5 Try.underlying9
      go_wp2
      go_roundw
      case rel => exact ⟨m / 10, _, by omega, by go_num, (rel_put m hz HL.out).1, (rel_put m hz HL.out).2, hb.alloc hb.size _⟩
      case measure => simp [intOf]; omega

/-- The first j of a slice marked, the rest as it was. -/
def Marked (xs : List ByteArray) (k j : Nat) : List Value := (marks k j).map Value.string ++ (xs.drop j).map Value.string
theorem marked_zero (xs : List ByteArray) (k : Nat) : Marked xs k 0 = xs.map Value.string := by simp [Marked, marks]
theorem marked_all (xs : List ByteArray) (k : Nat) : Marked xs k xs.length = (marks k xs.length).map Value.string := by simp [Marked]
theorem marked_at (xs : List ByteArray) (k j : Nat) (h : j < xs.length) : (Marked xs k j)[j]? = some (.string xs[j]) := by
  unfold Marked
  rw [List.getElem?_append_right (by rw [List.length_map, marks_length]; omega), List.length_map, marks_length, Nat.sub_self, List.getElem?_map, List.getElem?_drop, Nat.add_zero, List.getElem?_eq_getElem h]
  rfl
theorem marked_step (xs : List ByteArray) (k j : Nat) (h : j < xs.length) : (Marked xs k j).set j (.string (mk (k + j))) = Marked xs k (j + 1) := by
  have e : marks k (j + 1) = marks k j ++ [mk (k + j)] := by simp [marks, List.range_succ]
  unfold Marked
  rw [e, List.set_append_right _ _ (by rw [List.length_map, marks_length]; omega), List.length_map, marks_length, Nat.sub_self, List.drop_eq_getElem_cons h, List.map_cons, List.set_cons_zero, List.map_append, List.append_assoc]
  rfl

theorem keep_both {w W w1 : World} {p : Addr} {v : Value} (hb1 : Below W.heap.size W w1) (h : W.cell? p = some v ∧ Below w.heap.size w W) : w1.cell? p = some v ∧ Below w.heap.size w w1 :=
  ⟨(hb1.cell (World.block_lt_of_cell? W p h.1)).trans h.1, h.2.trans (hb1.mono h.2.size)⟩

end Go.Proofs.Yteoeefmdfalnjaa
/- MarkD: Marking a row of structs of the call's own, cell by cell: what is done, what is left. -/
namespace Go.Proofs.Yteoeefmdfalnjaa
open Go Go.RowKit

/-- What cell i holds when it is marked: a slice stays where it was. -/
def cellD (V : Nat → Value) (es : List D) (i : Nat) : Value := match es[i]? with
  | some (.cell u) => u
  | _ => V i
/-- m cells of a row of structs are turned into es, the others are as they were. -/
structure MInvD (w0 w wr : World) (T : TypeId) (N b L : Nat) (V : Nat → Value) (G : Nat → Nat → Prop) (F : Nat → Prop) (es : List D) (m : Nat) : Prop where
  blk : ∃ cur : Array Value, wr.heap[b]? = some (.cells cur T (0, 0)) ∧ cur.size = L ∧ ∀ i, i < N → cur[i]? = some (if i < m then cellD V es i else V i)
  done : ∀ i d, i < m → es[i]? = some d → DO wr d (cellD V es i) (G i)
  rest : ∀ i, m ≤ i → i < N → Stays (G i) w0 wr
  but : But F w wr
section
variable {w0 w wr w2 : World} {T : TypeId} {N b L : Nat} {V : Nat → Value} {G : Nat → Nat → Prop} {F : Nat → Prop} {es : List D} {m : Nat}
theorem MInvD.lt (h : MInvD w0 w wr T N b L V G F es m) : b < wr.heap.size := by
  obtain ⟨cur, hb, _, _⟩ := h.blk
  exact blk_lt hb
theorem MInvD.cell (h : MInvD w0 w wr T N b L V G F es m) {i : Nat} (hi : i < N) : wr.cell? ⟨b, i, none⟩ = some (if i < m then cellD V es i else V i) := by
  obtain ⟨cur, hb, _, hc⟩ := h.blk
  rw [cell_of_blk hb]
  exact hc i hi
theorem MInvD.frozen (h : MInvD w0 w wr T N b L V G F es m) (i : Nat) : wr.frozen? ⟨b, i, none⟩ = false := by
  obtain ⟨cur, hb, _, _⟩ := h.blk
  exact unfrozen_of_blk hb i
theorem MInvD.below (h : MInvD w0 w wr T N b L V G F es m) (hb : Below wr.heap.size wr w2) : MInvD w0 w w2 T N b L V G F es m := by
  obtain ⟨cur, h1, h2, h3⟩ := h.blk
  exact ⟨⟨cur, (hb.block b (blk_lt h1)).trans h1, h2, h3⟩, fun i d hi hd => (h.done i d hi hd).keep hb, fun i h1 h2 => (h.rest i h1 h2).trans (.of_below hb),
    ⟨Nat.le_trans h.but.size hb.size, fun x hx hn => (hb.block x (Nat.lt_of_lt_of_le hx h.but.size)).trans (h.but.kept x hx hn), fun base h1 h2 => (h.but.below base h1 h2).trans (hb.mono (Nat.le_trans h1 h.but.size))⟩⟩
/-- The next cell is written. -/
theorem MInvD.set (h : MInvD w0 w wr T N b L V G F es m) (hF : F b) (hG : ∀ i z, i < N → G i z → F z ∧ z ≠ b) (hm : m < N) (hL : N ≤ L) {u : Value} (he : es[m]? = some (.cell u)) : MInvD w0 w (wr.setCell ⟨b, m, none⟩ u) T N b L V G F es (m + 1) := by
  obtain ⟨cur, h1, h2, h3⟩ := h.blk
  have st : ∀ i, i < N → Stays (G i) wr (wr.setCell ⟨b, m, none⟩ u) := fun i hi => setCell_stays wr b m u (G i) (fun e => (hG i b hi e).2 rfl)
  have hu : cellD V es m = u := by unfold cellD; rw [he]
  refine ⟨⟨cur.setIfInBounds m u, Go.Joins.block_setCell h1 _, by simpa using h2, fun i hi => ?_⟩, fun i d hi hd => ?_, fun i a1 a2 => (h.rest i (by omega) a2).trans (st i a2), h.but.set hF _ _⟩
  · rw [Array.getElem?_setIfInBounds]
    by_cases e : m = i
    · subst e
      rw [if_pos rfl, if_pos (by omega), if_pos (by omega), hu]
    · rw [if_neg e, h3 i hi]
      by_cases e2 : i < m
      · rw [if_pos e2, if_pos (by omega)]
      · rw [if_neg e2, if_neg (by omega)]
  · by_cases e : i = m
    · subst e
      rw [he] at hd
      obtain rfl := Option.some.inj hd
      rw [hu]
      exact .cell _ _
    · exact (h.done i d (by omega) hd).stays (st i (by omega))
/-- The next cell is a slice, whose rows have been turned. -/
theorem MInvD.call (h : MInvD w0 w wr T N b L V G F es m) (hG : ∀ i z, i < N → G i z → F z ∧ z ≠ b) (hd : ∀ i j z, i < N → j < N → i ≠ j → G i z → G j z → False) (hm : m < N) {d : D} (he : es[m]? = some d) (hv : cellD V es m = V m)
    (hO : DO w2 d (V m) (G m)) (hB : But (G m) wr w2) : MInvD w0 w w2 T N b L V G F es (m + 1) := by
  obtain ⟨cur, h1, h2, h3⟩ := h.blk
  have st : ∀ i, i < N → i ≠ m → Stays (G i) wr w2 := fun i hi hne => hB.stays (fun x h1 h2 => hd m i x hm hi (fun e => hne e.symm) h1 h2)
  refine ⟨⟨cur, (hB.kept b (blk_lt h1) (fun e => (hG m b hm e).2 rfl)).trans h1, h2, fun i hi => ?_⟩, fun i x hi hx => ?_, fun i a1 a2 => (h.rest i (by omega) a2).trans (st i a2 (by omega)), h.but.trans (hB.mono (fun x hx => (hG m x hm hx).1))⟩
  · rw [h3 i hi]
    by_cases e : i = m
    · subst e
      rw [if_neg (by omega), if_pos (by omega), hv]
    · by_cases e2 : i < m
      · rw [if_pos e2, if_pos (by omega)]
      · rw [if_neg e2, if_neg (by omega)]
  · by_cases e : i = m
    · subst e
      rw [he] at hx
      obtain rfl := Option.some.inj hx
      rw [hv]
      exact hO
    · exact (h.done i x (by omega) hx).stays (st i (by omega) e)
theorem MInvD.all {k n c : Nat} (h : MInvD w0 w wr T (n * k) b (c * k) V G F es (n * k)) (hF : F b) (hl : es.length = n * k) (hn : n ≤ c) (hm : c ≤ maxLen) (hG : ∀ i z, i < n * k → G i z → F z ∧ z ≠ b)
    (hd : ∀ i j z, i < n * k → j < n * k → i ≠ j → G i z → G j z → False) : DO wr (.rows T k n es) (.slice (some ⟨b, 0, none⟩) n c) F := by
  obtain ⟨cur, h1, h2, h3⟩ := h.blk
  exact .rows cur (cellD V es) G h1 h2 hn hm hl hF (fun i hi => by rw [h3 i hi, if_pos hi]) (fun i d hi => h.done i d (ds_lt hi hl) hi) hG hd
end

theorem cellD_slice {V : Nat → Value} {es : List D} {i : Nat} {T : TypeId} {k n : Nat} {ds : List D} (h : es[i]? = some (.rows T k n ds)) : cellD V es i = V i := by
  unfold cellD
  rw [h]
theorem But.of_below {F : Nat → Prop} {w w' : World} (h : Below w.heap.size w w') : But F w w' :=
  ⟨h.size, fun x hx _ => h.block x hx, fun _ hb _ => h.mono hb⟩
theorem keep_bothM {w W w1 : World} {p : Addr} {v : Value} (hb1 : Below W.heap.size W w1) (h : W.cell? p = some v ∧ Below w.heap.size w W) : w1.cell? p = some v ∧ Below w.heap.size w w1 :=
  ⟨(hb1.cell (World.block_lt_of_cell? W p h.1)).trans h.1, h.2.trans (hb1.mono h.2.size)⟩
/-- The laws' markTypeS at data. -/
theorem markD_any {w0 : World} {F : Nat → Prop} {ts : List Ty} {v : Value} (h : DO w0 (tyD ts) v F) (w : World) (k : Nat) (hs : Stays F w0 w) (hn : k + nodesS ts ≤ 1099511627776) :
    Calls Try.prog 28 #[v, .int .i64 k] w fun e w' => e = .returned (.int .i64 ((k + nodesS ts : Nat) : Int)) ∧ DO w' (tyD (markS k ts)) v F ∧ But F w w' :=
  (markS_any (DO.os _ (Nat.le_refl _) h) w k hs hn).mono fun _ _ ⟨h1, h2, h3⟩ => ⟨h1, h2.dO, h3⟩
end Go.Proofs.Yteoeefmdfalnjaa
/- CxMark: The contracts of the laws' markTypingS: every cell of a context of the call's own is numbered, nothing else turns; of heldTypingS: the numbers are found again. -/
namespace Go.Proofs.Yteoeefmdfalnjaa
open Go Go.RowKit

/-- The numbers that a typing takes; that typings take. -/
def Tg.cnt (x : Tg) : Nat := 3 + nodesS x.ty.args
def cntC : List Tg → Nat
  | [] => 0
  | x :: L => x.cnt + cntC L
theorem cntC_append (a b : List Tg) : cntC (a ++ b) = cntC a + cntC b := by
  induction a with
  | nil => simp [cntC]
  | cons x a ih => simp only [List.cons_append, cntC, ih]; omega
theorem cntC_take (L : List Tg) (k : Nat) (h : k < L.length) : cntC (L.take (k + 1)) = cntC (L.take k) + L[k].cnt := by
  rw [cx_take_next h, cntC_append]; simp [cntC]
theorem cntC_take_le (L : List Tg) (k : Nat) : cntC (L.take k) ≤ cntC L := by
  have h := cntC_append (L.take k) (L.drop k)
  rw [List.take_append_drop] at h
  omega
theorem cntC_ge (L : List Tg) : L.length ≤ cntC L := by
  induction L with
  | nil => simp
  | cons a L ih => simp only [List.length_cons, cntC, Tg.cnt]; omega
theorem cntC_wt (L : List Tg) : cntC L ≤ 3 * wtC L := by
  induction L with
  | nil => simp [cntC]
  | cons a L ih => simp only [cntC, wtC, Tg.cnt, Tg.wt]; omega
def Tg.mark (k : Nat) (x : Tg) : Tg := ⟨Go.Proofs.Yteoeefmdfalnjaa.mk k, .mk ((k + 1 : Nat) : Int) (markS (k + 2) x.ty.args), ((k + 2 + nodesS x.ty.args : Nat) : Int)⟩
def markC : Nat → List Tg → List Tg
  | _, [] => []
  | k, x :: L => x.mark k :: markC (k + x.cnt) L
theorem markC_at (L : List Tg) : ∀ (k j : Nat), (markC k L)[j]? = (L[j]?).map (fun x => x.mark (k + cntC (L.take j))) := by
  induction L with
  | nil => intro k j; simp [markC]
  | cons t L ih =>
    intro k j
    cases j with
    | zero => simp [markC, cntC]
    | succ j => simp only [markC, List.getElem?_cons_succ, ih, List.take_succ_cons, cntC, Nat.add_assoc]
theorem markC_length (L : List Tg) : ∀ k : Nat, (markC k L).length = L.length := by
  induction L with
  | nil => intro k; rfl
  | cons t L ih => intro k; simp [markC, ih]
theorem markC_get (L : List Tg) (k j : Nat) (h : j < L.length) : (markC k L)[j]'(by rw [markC_length]; exact h) = L[j].mark (k + cntC (L.take j)) := by
  have := markC_at L k j
  rw [List.getElem?_eq_getElem h, List.getElem?_eq_getElem (by rw [markC_length]; exact h)] at this
  simpa using this
theorem marked4 (L : List Tg) (k j n : Nat) (h : j < L.length) (hn : n = k + cntC (L.take j)) :
    (flatCx (markC k L))[j * 4]? = some (.cell (.string (mk n))) ∧ (flatCx (markC k L))[j * 4 + 1]? = some (.cell (.int .i64 ((n : Int) + 1))) ∧
    (flatCx (markC k L))[j * 4 + 2]? = some (tyD (markS (n + 2) L[j].ty.args)) ∧ (flatCx (markC k L))[j * 4 + 3]? = some (.cell (.int .i64 ((n + 2 + nodesS L[j].ty.args : Nat) : Int))) := by
  have key : ∀ i, i < 4 → (flatCx (markC k L))[j * 4 + i]? = ((L[j].mark n).ds)[i]? := fun i hi => by
    rw [flatCx_at _ j i (by rw [markC_length]; exact h) hi, markC_get L k j h, hn]
  rw [show ((n : Int) + 1) = ((n + 1 : Nat) : Int) by omega]
  exact ⟨key 0 (by omega), key 1 (by omega), key 2 (by omega), key 3 (by omega)⟩

def MarkedC (L : List Tg) (v : Value) (F : Nat → Prop) (k : Nat) (w : World) (e : Ending) (w' : World) : Prop :=
  e = .returned (.int .i64 ((k + cntC L : Nat) : Int)) ∧ DO w' (cxD (markC k L)) v F ∧ But F w w'
set_option maxRecDepth 100000 in
set_option maxHeartbeats 8000000 in
theorem markCS_row {w : World} {F : Nat → Prop} {L : List Tg} {b c : Nat} {V : Nat → Value} {G : Nat → Nat → Prop} (cur : Array Value) (hblk : w.heap[b]? = some (.cells cur 43 (0, 0))) (hsz : cur.size = c * 4) (hnc : L.length ≤ c) (hm : c ≤ maxLen)
    (hF : F b) (hv : ∀ i, i < L.length * 4 → cur[i]? = some (V i)) (hr : ∀ i d, (flatCx L)[i]? = some d → DO w d (V i) (G i)) (hG : ∀ i z, i < L.length * 4 → G i z → F z ∧ z ≠ b)
    (hd : ∀ i j z, i < L.length * 4 → j < L.length * 4 → i ≠ j → G i z → G j z → False) (k : Nat) (hk : 1 ≤ k) (hn : k + cntC L ≤ 1099511627776) :
    Calls Try.prog 12 #[.slice (some ⟨b, 0, none⟩) L.length c, .int .i64 k] w (MarkedC L (.slice (some ⟨b, 0, none⟩) L.length c) F k w) := by
  have hlen := cntC_ge L
  have hTY : ∀ (j : Nat) (hj : j < L.length), DO w (tyD L[j].ty.args) (V (j * 4 + 2)) (G (j * 4 + 2)) := fun j hj => hr _ _ (by rw [flatCx_at L j 2 hj (by omega)]; rfl)
  have HTY := Lib.hid hTY
  have HG := Lib.hid hG
  have HD := Lib.hid hd
  have HM := Lib.hid hm
  have HNC := Lib.hid hnc
  have HF := Lib.hid hF
  have HL := Lib.hid (show (flatCx (markC k L)).length = L.length * 4 by rw [flatCx_len, markC_length])
  have HCL := Lib.hid (show L.length * 4 ≤ c * 4 by omega)
  have H0 : Hid (MInvD w w w 43 (L.length * 4) b (c * 4) V G F (flatCx (markC k L)) 0) := Lib.hid ⟨⟨cur, hblk, hsz, fun i hi => by rw [if_neg (by omega)]; exact hv i hi⟩, fun i d hi => by omega, fun i _ hi => Stays.refl _ _, But.refl F w⟩
  clear hr hG hd hm hF hv hblk hsz hnc hTY
  go_enter Try.func12, Try.ntmps12
  go_wp2_with fail
  go_loopw [1, 5] (fun q i wr => ∃ (j n : Nat), j ≤ L.length ∧ i = .int .i64 j ∧ q = .int .i64 n ∧ n = k + cntC (L.take j) ∧ MInvD w w wr 43 (L.length * 4) b (c * 4) V G F (flatCx (markC k L)) (j * 4)) (fun _ i _ => L.length - (intOf i).toNat)
  case atStart => exact ⟨0, k, Nat.zero_le _, rfl, rfl, by simp [cntC], by rw [Nat.zero_mul]; exact H0.out⟩
  case round =>
    obtain ⟨j, n, hj, rfl, rfl, hn2, hinv⟩ := hrel
    have HI := Lib.hid hinv
    have HN := Lib.hid hn2
    have hnb : n ≤ 1099511627776 := by have := cntC_take_le L j; omega
    clear hinv hn2
    by_cases hlj : j < L.length
    · have hj9 : j * 4 + 4 ≤ L.length * 4 := by omega
      have HJ9 := Lib.hid hj9
      obtain ⟨e0, e1, e2, e3⟩ := marked4 L k j n hlj HN.out
      have hc2 := cntC_take L j hlj
      have hc3 := cntC_take_le L (j + 1)
      have hcq : L[j].cnt = 3 + nodesS L[j].ty.args := rfl
      have HC2 := Lib.hid hc2
      have HCQ := Lib.hid hcq
      have hn1 : 1 ≤ n := by have := HN.out; omega
      have hbnd : n + 3 + nodesS L[j].ty.args ≤ 1099511627776 := by have := HN.out; omega
      clear hc2 hc3 hcq
      obtain ⟨p2, c2, f2⟩ := (HTY.out j hlj).form
      have F2 := Lib.hid f2
      have E0 := Lib.hid e0
      have E1 := Lib.hid e1
      have E2 := Lib.hid e2
      have E3 := Lib.hid e3
      clear f2 e0 e1 e2 e3
      have i0 : (0 : Int) ≤ (j : Int) := Int.natCast_nonneg _
      have i1 : (j : Int) < (L.length : Int) := by omega
      have HC1 := Lib.hid (markText_any n hn1 (by omega) wr)
      go_wp2_with fail
      refine HC1.out.mono ?_
      rintro e w1 ⟨rfl, hb1⟩
      have HI1b := Lib.hid (HI.out.below hb1)
      clear hb1
      have c1 := HI1b.out.cell (i := j * 4) (by omega)
      have kz := HI1b.out.frozen
      have hI1 : MInvD w w (w1.setCell ⟨b, j * 4, none⟩ (.string (mk n))) 43 (L.length * 4) b (c * 4) V G F (flatCx (markC k L)) (j * 4 + 1) := HI1b.out.set HF.out HG.out (by omega) HCL.out E0.out
      have hI2 : MInvD w w ((w1.setCell ⟨b, j * 4, none⟩ (.string (mk n))).setCell ⟨b, j * 4 + 1, none⟩ (.int .i64 ((n : Int) + 1))) 43 (L.length * 4) b (c * 4) V G F (flatCx (markC k L)) (j * 4 + 2) := hI1.set HF.out HG.out (by omega) HCL.out E1.out
      have c2a := HI1b.out.cell (i := j * 4 + 1) (by omega)
      have c2b := HI1b.out.cell (i := j * 4 + 2) (by omega)
      rw [if_neg (by omega), F2.out] at c2b
      have hC5 := markD_any (HTY.out j hlj) _ (n + 2) (hI2.rest (j * 4 + 2) (by omega) (by omega)) (by omega)
      rw [F2.out, show ((n + 2 : Nat) : Int) = (n : Int) + 1 + 1 by omega] at hC5
      have HC5 := Lib.hid hC5
      have HI5 := Lib.hid hI2
      clear hI1 hI2 hC5
      go_wp2_with fail
      refine HC5.out.mono ?_
      rintro e w3 ⟨rfl, ho3, hb3⟩
      rw [← F2.out] at ho3
      have HI6 := Lib.hid (HI5.out.call HG.out HD.out (by omega) E2.out (cellD_slice E2.out) ho3 hb3)
      clear c1 c2a c2b kz ho3 hb3
      have HI7 := Lib.hid (HI6.out.set HF.out HG.out (by omega) HCL.out E3.out)
      have c6 := HI6.out.cell (i := j * 4 + 3) (by omega)
      have kz := HI6.out.frozen
      go_wp2_with fail
      go_roundw
      case rel =>
        refine ⟨j + 1, n + 3 + nodesS L[j].ty.args, by omega, by go_num, by congr 1; omega, by have := HC2.out; have := HCQ.out; have := HN.out; omega, ?_⟩
        rw [show (j + 1) * 4 = j * 4 + 3 + 1 by omega]
        exact HI7.out
      case measure => simp [intOf]; omega
    · obtain rfl : j = L.length := by omega
      go_wp2_with fail
      go_ret
      have h1 := HN.out
      rw [List.take_length] at h1
      subst h1
      refine ⟨rfl, ?_, HI.out.but⟩
      have key := HI.out.all HF.out HL.out HNC.out HM.out HG.out HD.out
      show DO wr (.rows 43 4 (markC k L).length (flatCx (markC k L))) _ F
      rw [markC_length]
      exact key
set_option maxRecDepth 100000 in
theorem markCS_nil (F : Nat → Prop) (w : World) (k : Nat) : Calls Try.prog 12 #[.slice none 0 0, .int .i64 k] w (MarkedC [] (.slice none 0 0) F k w) := by
  go_enter Try.func12, Try.ntmps12
  go_wp2_with fail
  go_loopw [1, 5] (fun q i wr => q = .int .i64 k ∧ i = .int .i64 0 ∧ wr = w) (fun _ _ _ => 0)
  case atStart => exact ⟨rfl, rfl, rfl⟩
  case round =>
    obtain ⟨rfl, rfl, rfl⟩ := hrel
    go_wp2_with fail
    go_ret
    exact ⟨by simp [cntC], .nil _ _ F, But.refl F _⟩
/-- THE LAWS' markTypingS. -/
theorem markCS_any {F : Nat → Prop} {L : List Tg} {v : Value} {w : World} (h : DO w (cxD L) v F) (k : Nat) (hk : 1 ≤ k) (hn : k + cntC L ≤ 1099511627776) :
    Calls Try.prog 12 #[v, .int .i64 k] w (MarkedC L v F k w) := by
  rcases h.inv with ⟨h0, _, rfl⟩ | ⟨b, c, cur, V, G, rfl, hblk, hsz, hnc, hm, hl, hF, hv, hr, hG, hd⟩
  · obtain rfl := List.eq_nil_of_length_eq_zero h0
    exact markCS_nil F w k
  · exact markCS_row cur hblk hsz hnc hm hF hv hr hG hd k hk hn
set_option maxRecDepth 100000 in
set_option maxHeartbeats 8000000 in
/-- THE LAWS' heldTypingS. -/
theorem heldCS_any {C : Nat → Prop} {M : List Tg} {v : Value} {w : World} (h : DM w C (cxD M) v) (k : Nat) (L : List Tg) (hu : M = markC k L) (hk : 1 ≤ k) (hn : k + cntC L ≤ 1099511627776) :
    Calls Try.prog 13 #[v, .int .i64 k] w (IntRet (fun r => r = ((k + cntC L : Nat) : Int)) w) := by
  obtain ⟨q, d, rfl⟩ := h.form
  have hlu : M.length = L.length := by rw [hu, markC_length]
  have hl := h.len.1
  have hlen := cntC_ge L
  have HH := Lib.hid h
  have HLU := Lib.hid hlu
  have HU := Lib.hid (fun j (hj : j < M.length) (hj2 : j < L.length) => show M[j] = L[j].mark (k + cntC (L.take j)) by
    subst hu
    exact markC_get L k j hj2)
  rw [hlu] at hl ⊢
  clear h hu hlu
  go_enter Try.func13, Try.ntmps13
  go_wp2_with fail
  go_loopw [1, 5] (fun q i wr => ∃ (j n : Nat), j ≤ L.length ∧ i = .int .i64 j ∧ q = .int .i64 n ∧ n = k + cntC (L.take j) ∧ Below w.heap.size w wr) (fun _ i _ => L.length - (intOf i).toNat)
  case atStart => exact ⟨0, k, Nat.zero_le _, rfl, rfl, by simp [cntC], Below.refl _ _⟩
  case round =>
    obtain ⟨j, n, hj, rfl, rfl, hn2, hbr⟩ := hrel
    have HN := Lib.hid hn2
    have HB := Lib.hid hbr
    have hnb : n ≤ 1099511627776 := by have := cntC_take_le L j; omega
    clear hn2 hbr
    by_cases hlj : j < L.length
    · have hju : j < M.length := by rw [HLU.out]; exact hlj
      obtain ⟨b, o, p, c, rfl, hC, hb, h4, hT⟩ := cx_part HH.out j hju
      have hx := HU.out j hju hlj
      rw [← HN.out] at hx
      have hxm : M[j] = ⟨mk n, .mk ((n + 1 : Nat) : Int) (markS (n + 2) L[j].ty.args), ((n + 2 + nodesS L[j].ty.args : Nat) : Int)⟩ := hx
      obtain ⟨x, hxx⟩ : ∃ x, M[j] = x := ⟨_, rfl⟩
      rw [hxx] at h4 hT hxm
      subst hxm
      have H4 := Lib.hid h4
      have HT := Lib.hid hT
      have hc2 := cntC_take L j hlj
      have hc3 := cntC_take_le L (j + 1)
      have hcq : L[j].cnt = 3 + nodesS L[j].ty.args := rfl
      have HC2 := Lib.hid hc2
      have HCQ := Lib.hid hcq
      have hn1 : 1 ≤ n := by have := HN.out; omega
      have hbnd : n + 3 + nodesS L[j].ty.args ≤ 1099511627776 := by have := HN.out; omega
      have i0 : (0 : Int) ≤ (j : Int) := Int.natCast_nonneg _
      have i1 : (j : Int) < (L.length : Int) := by omega
      clear hx hxx hc2 hc3 hcq hT h4 hC
      obtain ⟨g0, g1, g2, g3⟩ := H4.out wr (.of_below HB.out)
      simp only [Ty.kind_mk, Ty.args_mk] at g0 g1 g2 g3
      clear g1 g2 g3
      go_wp2_with fail
      go_region_held3 (fun w' => w'.cell? ⟨b, o + j * 4, none⟩ = some (.string (mk n)) ∧ Below w.heap.size w w')
        (first
          | (go_keep; done)
          | exact ⟨by simp [*], HB.out.trans ((Below.refl _ _).drew.mono HB.out.size)⟩
          | exact keep_bothM hb1 (by assumption))
        (first | (go_at_call 27; refine (markText_any n hn1 (by omega) _).mono ?_; rintro e w1 ⟨rfl, hb1⟩))
      rename_i hH
      have HB1 := Lib.hid hH.2
      clear hH hb1 g0
      obtain ⟨g0, g1, g2, g3⟩ := H4.out _ (.of_below HB1.out)
      simp only [Ty.kind_mk, Ty.args_mk] at g0 g1 g2 g3
      clear g0 g3
      rw [show ((n + 1 : Nat) : Int) = (n : Int) + 1 by omega] at g1
      have hC5 := heldS_any HT.out w1 (n + 2) L[j].ty.args rfl (.of_below HB1.out) (by omega)
      simp only [Ty.args_mk] at hC5
      rw [show ((n + 2 : Nat) : Int) = (n : Int) + 1 + 1 by omega] at hC5
      have HC5 := Lib.hid hC5
      clear hC5
      go_wp2_with fail
      refine HC5.out.mono ?_
      rintro e w3 ⟨r, rfl, rfl, hb3⟩
      have HB3 := Lib.hid (HB1.out.trans (hb3.mono HB1.out.size))
      have hnn : ¬ (((n + 2 + nodesS L[j].ty.args : Nat) : Int) < 0) := by omega
      clear g1 g2
      obtain ⟨g0, g1, g2, g3⟩ := H4.out _ (.of_below HB3.out)
      simp only [Ty.kind_mk, Ty.args_mk] at g0 g1 g2 g3
      clear g0 g1 g2 hb3
      go_wp2_with fail
      go_roundw
      case rel => exact ⟨j + 1, n + 3 + nodesS L[j].ty.args, by omega, by go_num, by congr 1; omega, by have := HC2.out; have := HCQ.out; have := HN.out; omega, HB3.out⟩
      case measure => simp [intOf]; omega
    · obtain rfl : j = L.length := by omega
      have h1 := HN.out
      rw [List.take_length] at h1
      have H1 := Lib.hid h1
      clear h1
      go_wp2_with fail
      go_ret
      exact ⟨_, by rw [H1.out], rfl, HB.out⟩
#print axioms markCS_any
#print axioms heldCS_any
end Go.Proofs.Yteoeefmdfalnjaa
