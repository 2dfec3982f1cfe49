/-
  Several texts of the proof in one (each says below what it holds): Num Read TmParse TmValid TmComp TmRead Shelf Put Fmt ImplFmt Scan Rdm SpecParse Catch Must RdI1 RdO RdW OwnApp ParI TypI SizesT WithinT ValidT TextS ParseS ParseI RdI3 TextI.
-/
import Derived.Test.YtfeijijeohfpgaaGreatDoorLv7
import Derived.Test.YtfeijijeohfpgaaGreatDoorLv2
import Derived.Test.YtfeijijeohfpgaaGreatDoorLv1
import Derived.Test.YtfeijijeohfpgaaGreatDoorLv5
import Derived.Test.YtfeijijeohfpgaaGreatDoorLv3
import Derived.Test.YtfeijijeohfpgaaGreatDoorLv4
import Derived.Lib.ItoaNum
import Derived.Lib.AtoiAll
import Derived.Shelf.Strconv.Itoa0
import Derived.Sort.Grow
import Derived.Shelf.LaysC
import Derived.Shelf.Strings.OnBuilder
import Derived.Shelf.Strconv.Itoa1
import Derived.Shelf.LaysM
import Derived.Shelf.Strconv.Itoa2
import Derived.Shelf.Strconv.Itoa3
import Derived.Test.YtfeijijeohfpgaaGreatDoorProg
import Derived.WalkSmall
import Derived.Lib.Strings
import Derived.Defers
import Derived.Recover
import Derived.Shelf.Strconv.ErrVarAll
import Derived.Shelf.Strings.SlTrimAscii
import Derived.Lib.SmallJoins
import Derived.RegionTactic
import Derived.ChangeAlike
import Derived.Laws.EntriesVeiled
set_option linter.unusedVariables false
set_option linter.unusedSimpArgs false
namespace Go.Proofs.YtfeijijeohfpgaaGreatDoor
open Go
def dec (m : Nat) : List UInt8 := if m = 0 then [] else Lib.decDigits m

theorem dec_zero : dec 0 = [] := rfl
theorem dec_pos {m : Nat} (h : 1 ≤ m) : dec m = Lib.decDigits m := by unfold dec; rw [if_neg (by omega)]
theorem dec_step {m : Nat} (h : 1 ≤ m) : dec (m / 10) ++ [UInt8.ofNat (48 + m % 10)] = dec m := by
  rw [dec_pos h, Lib.decDigits]
  by_cases hm : m < 10
  · rw [dif_pos hm, show m / 10 = 0 by omega, dec_zero, Nat.mod_eq_of_lt hm]; rfl
  · rw [dif_neg hm, dec_pos (by omega)]
theorem dec_put {m : Nat} (h : 1 ≤ m) {l r : List UInt8} (hl : dec m ++ l = r) : dec (m / 10) ++ (UInt8.ofNat (48 + m % 10) :: l) = r := by
  rw [← hl, ← dec_step h, List.append_assoc]; rfl

theorem nDigits_le : ∀ (k u : Nat), 1 ≤ k → u < 10 ^ k → Lib.nDigits u ≤ k
  | 0, _, h, _ => by omega
  | k + 1, u, _, h => by
    by_cases hu : u < 10
    · rw [Lib.nDigits_small hu]; omega
    · rw [Lib.nDigits_big hu]
      have h1 : 1 ≤ k := by
        cases k with
        | zero => simp at h; omega
        | succ k => omega
      have := nDigits_le k (u / 10) h1 (by rw [Nat.pow_succ] at h; omega)
      omega
theorem dec_length_le {u : Nat} (h : u ≤ 9223372036854775808) : (Lib.decDigits u).length ≤ 19 := by
  rw [Lib.decDigits_length]; exact nDigits_le 19 u (by decide) (by simp only [Nat.reducePow]; omega)
end Go.Proofs.YtfeijijeohfpgaaGreatDoor
namespace Go.Proofs.YtfeijijeohfpgaaGreatDoor
open Go
def rdA (acc : Nat) (l : List UInt8) : Nat := l.foldl (fun a c => 10 * a + (c.toNat - 48)) acc
def isDig (c : UInt8) : Prop := 48 ≤ c.toNat ∧ c.toNat ≤ 57
instance (c : UInt8) : Decidable (isDig c) := by unfold isDig; infer_instance

theorem rdA_nil (a : Nat) : rdA a [] = a := by simp only [rdA, List.foldl_nil]
theorem rdA_cons (a : Nat) (c : UInt8) (l : List UInt8) : rdA a (c :: l) = rdA (10 * a + (c.toNat - 48)) l := by simp only [rdA, List.foldl_cons]
theorem rdA_snoc (a : Nat) (c : UInt8) (l : List UInt8) : rdA a (l ++ [c]) = 10 * rdA a l + (c.toNat - 48) := by
  simp only [rdA, List.foldl_append, List.foldl_cons, List.foldl_nil]
theorem rdA_lt (l : List UInt8) (h : ∀ c ∈ l, isDig c) : rdA 0 l < 10 ^ l.length := by
  suffices H : ∀ (l : List UInt8) (a : Nat), (∀ c ∈ l, isDig c) → rdA a l < (a + 1) * 10 ^ l.length by
    have := H l 0 h
    simpa using this
  intro l
  induction l with
  | nil => intro a _; simp [rdA_nil]
  | cons c l ih =>
    intro a h
    rw [rdA_cons, List.length_cons, Nat.pow_succ]
    have hc := h c (List.mem_cons_self ..)
    unfold isDig at hc
    have h1 := ih (10 * a + (c.toNat - 48)) (fun x hx => h x (List.mem_cons_of_mem _ hx))
    have h2 : (10 * a + (c.toNat - 48) + 1) * 10 ^ l.length ≤ ((a + 1) * 10) * 10 ^ l.length := Nat.mul_le_mul_right _ (by omega)
    have h3 : (a + 1) * (10 ^ l.length * 10) = ((a + 1) * 10) * 10 ^ l.length := by
      rw [Nat.mul_comm (10 ^ l.length) 10, Nat.mul_assoc]
    omega

theorem dig_toNat {k : Nat} (h : k < 10) : (UInt8.ofNat (48 + k)).toNat = 48 + k := by simp; omega
theorem dec_digs (u : Nat) : ∀ c ∈ Lib.decDigits u, isDig c := by
  induction u using Nat.strongRecOn with
  | _ u ih =>
    intro c hc
    rw [Lib.decDigits] at hc
    by_cases hu : u < 10
    · rw [dif_pos hu] at hc
      have e : c = UInt8.ofNat (48 + u) := by simpa using hc
      subst e
      unfold isDig
      rw [dig_toNat hu]; omega
    · rw [dif_neg hu] at hc
      rcases List.mem_append.1 hc with h | h
      · exact ih (u / 10) (by omega) c h
      · have e : c = UInt8.ofNat (48 + u % 10) := List.mem_singleton.1 h
        subst e
        unfold isDig
        rw [dig_toNat (by omega)]; omega
theorem rdA_dec (u : Nat) : rdA 0 (Lib.decDigits u) = u := by
  induction u using Nat.strongRecOn with
  | _ u ih =>
    rw [Lib.decDigits]
    by_cases hu : u < 10
    · rw [dif_pos hu, rdA_cons, rdA_nil, dig_toNat hu]; omega
    · rw [dif_neg hu, rdA_snoc, ih (u / 10) (by omega), dig_toNat (by omega)]; omega
theorem dec_ne_nil (u : Nat) : Lib.decDigits u ≠ [] := by
  intro h
  have := Lib.decDigits_length u
  rw [h] at this
  have := Lib.nDigits_pos u
  simp at *
  omega
def rd (l : List UInt8) : Int := if l.head? = some 45 then -(rdA 0 l.tail : Int) else rdA 0 l

theorem dec_head (u : Nat) : (Lib.decDigits u).head? ≠ some 45 := by
  intro h
  have := dec_digs u 45 (List.mem_of_mem_head? h)
  unfold isDig at this
  exact absurd this (by decide)
theorem rd_itoa (n : Int) : rd (Lib.itoa n) = n := by
  unfold Lib.itoa
  by_cases hn : n < 0
  · rw [if_pos hn]
    unfold rd
    rw [if_pos (List.head?_cons ..), List.tail_cons, rdA_dec]; omega
  · rw [if_neg hn]
    unfold rd
    rw [if_neg (dec_head _), rdA_dec]; omega
def okNum (lo hi : Int) (l : List UInt8) : Bool := decide (lo ≤ rd l ∧ rd l ≤ hi ∧ Lib.itoa (rd l) = l)
theorem okNum_yes {lo hi : Int} {l : List UInt8} (h : okNum lo hi l = true) : lo ≤ rd l ∧ rd l ≤ hi ∧ Lib.itoa (rd l) = l := of_decide_eq_true h
theorem okNum_mk {lo hi n : Int} {l : List UInt8} (h : Lib.itoa n = l) (h0 : lo ≤ n) (h1 : n ≤ hi) : okNum lo hi l = true := by
  unfold okNum
  rw [← h, rd_itoa]
  exact decide_eq_true ⟨h0, h1, rfl⟩

end Go.Proofs.YtfeijijeohfpgaaGreatDoor
namespace Go.Proofs.YtfeijijeohfpgaaGreatDoor
open Go Go.RowKit

def mkT (k : Int) (a : List UInt8) (n : Int) (ts : List Tm) : Tm := .mk k ⟨a.toArray⟩ E0 n Z0 Z0 ts
def isW (c : UInt8) : Bool := (decide (48 ≤ c.toNat) && decide (c.toNat ≤ 57)) || (decide (97 ≤ c.toNat) && decide (c.toNat ≤ 122))
def word (s : List UInt8) (i : Nat) : List UInt8 := (s.drop i).takeWhile isW
def pre (q s : List UInt8) (i : Nat) : Bool := q.isPrefixOf (s.drop i)
def kLet : List UInt8 := [108, 101, 116, 32]
def kRec : List UInt8 := [114, 101, 99, 32]
def kIf : List UInt8 := [105, 102, 32]
def kRun : List UInt8 := [114, 117, 110, 32]
def kLift : List UInt8 := [108, 105, 102, 116, 32]
def pts (f : Nat → Option (Tm × Nat)) (s : List UInt8) : List UInt8 → Nat → Option (List Tm × Nat)
  | [], i => some ([], i)
  | e :: es, i => match f i with
    | none => none
    | some (t, j) => if s[j]? = some e then (pts f s es (j + 1)).map (fun r => (t :: r.1, r.2)) else none
def pRest (s : List UInt8) (f : Nat → Option (Tm × Nat)) (x : Tm) (j : Nat) : Option (Tm × Nat) :=
  if s[j]? = some 32 then (pts f s [41] (j + 1)).map fun r => (mkT 7 [] 0 (x :: r.1), r.2)
  else match s[j]? with
    | none => none
    | some c => if opAr [c] = 2 then (pts f s [41] (j + 1)).map fun r => (mkT 4 [c] 0 (x :: r.1), r.2) else none
def pLam (s : List UInt8) (f : Nat → Option (Tm × Nat)) (i : Nat) : Option (Tm × Nat) :=
  if s[i + (word s i).length]? = some 58 then
    match pty s 8 (i + (word s i).length + 1) with
    | none => none
    | some (ty, j) => if s[j]? = some 46 then (pts f s [41] (j + 1)).map fun r => (.mk 6 ⟨(word s i).toArray⟩ E0 0 ty Z0 r.1, r.2) else none
  else none
def pLet (s : List UInt8) (f : Nat → Option (Tm × Nat)) (i : Nat) : Option (Tm × Nat) :=
  if s[i + (word s i).length]? = some 61 then (pts f s [32, 41] (i + (word s i).length + 1)).map fun r => (mkT 8 (word s i) 0 r.1, r.2) else none
def pRec2 (s : List UInt8) (f : Nat → Option (Tm × Nat)) (a : List UInt8) (i : Nat) : Option (Tm × Nat) :=
  if s[i + (word s i).length]? = some 58 then
    match pty s 8 (i + (word s i).length + 1) with
    | none => none
    | some (ty, j) => if s[j]? = some 62 then
        match pty s 8 (j + 1) with
        | none => none
        | some (res, j2) => if s[j2]? = some 46 then (pts f s [41] (j2 + 1)).map fun r => (.mk 9 ⟨a.toArray⟩ ⟨(word s i).toArray⟩ 0 ty res r.1, r.2) else none
      else none
  else none
def pRec (s : List UInt8) (f : Nat → Option (Tm × Nat)) (i : Nat) : Option (Tm × Nat) :=
  if s[i + (word s i).length]? = some 32 then pRec2 s f (word s i) (i + (word s i).length + 1) else none
def pOpen (s : List UInt8) (f : Nat → Option (Tm × Nat)) (i : Nat) : Option (Tm × Nat) :=
  if pre [92] s i then pLam s f (i + 1)
  else if pre kLet s i then pLet s f (i + 4)
  else if pre kRec s i then pRec s f (i + 4)
  else if pre kIf s i then (pts f s [32, 32, 41] (i + 3)).map fun r => (mkT 5 [] 0 r.1, r.2)
  else if pre kRun s i then (pts f s [41] (i + 4)).map fun r => (mkT 12 [] 0 r.1, r.2)
  else if pre kLift s i then (pts f s [41] (i + 5)).map fun r => (mkT 13 [] 0 r.1, r.2)
  else if pre [33] s i then (pts f s [41] (i + 1)).map fun r => (mkT 4 [33] 0 r.1, r.2)
  else match f i with
    | none => none
    | some (x, j) => pRest s f x j
def pTm (s : List UInt8) : Nat → Nat → Option (Tm × Nat)
  | 0, _ => none
  | D + 1, i =>
    if s.length ≤ i then none
    else if pre [35, 116] s i then some (mkT 3 [] 1 [], i + 2)
    else if pre [35, 102] s i then some (mkT 3 [] 0 [], i + 2)
    else if pre [126] s i then (pTm s D (i + 1)).map fun r => (mkT 11 [] 0 [r.1], r.2)
    else if pre [60] s i then (pts (pTm s D) s [62] (i + 1)).map fun r => (mkT 10 [] 0 r.1, r.2)
    else if pre [40] s i then pOpen s (pTm s D) (i + 1)
    else if ((s[i]?).map fun c => decide (48 ≤ c.toNat) && decide (c.toNat ≤ 57)) = some true then
      if okNum 0 999999 (word s i) then some (mkT 2 [] (rd (word s i)) [], i + (word s i).length) else none
    else some (mkT 1 (word s i) 0 [], i + (word s i).length)
def Stop (r : List UInt8) : Prop := ∀ c, r.head? = some c → isW c = false
theorem back (a : ByteArray) : (⟨a.data.toList.toArray⟩ : ByteArray) = a := rfl
theorem t_var (a : ByteArray) : (Tm.mk 1 a E0 0 Z0 Z0 []).text = a.data.toList := by simp [Tm.text, txN]
theorem t_int (n : Int) : (Tm.mk 2 E0 E0 n Z0 Z0 []).text = Lib.itoa n := by simp [Tm.text, txN]
theorem t_bool (n : Int) : (Tm.mk 3 E0 E0 n Z0 Z0 []).text = [35, if n = 1 then 116 else 102] := by simp [Tm.text, txN]
theorem t_op1 (a : ByteArray) (x : Tm) : (Tm.mk 4 a E0 0 Z0 Z0 [x]).text = 40 :: 33 :: (x.text ++ [41]) := by simp [Tm.text, txN, textsM, hd]
theorem t_op2 (a : ByteArray) (x y : Tm) : (Tm.mk 4 a E0 0 Z0 Z0 [x, y]).text = 40 :: (x.text ++ (a.data.toList ++ (y.text ++ [41]))) := by simp [Tm.text, txN, textsM, hd]
theorem join2 (x y : List UInt8) : Lib.join [x, y] [32] = x ++ 32 :: y := by rw [Lib.join_cons]; simp [Lib.joinTail]
theorem join3 (x y z : List UInt8) : Lib.join [x, y, z] [32] = x ++ 32 :: (y ++ 32 :: z) := by rw [Lib.join_cons]; simp [Lib.joinTail]
theorem t_cond (x y z : Tm) : (Tm.mk 5 E0 E0 0 Z0 Z0 [x, y, z]).text = 40 :: 105 :: 102 :: 32 :: (x.text ++ 32 :: (y.text ++ 32 :: (z.text ++ [41]))) := by simp [Tm.text, txN, textsM, join3]
theorem t_lam (a : ByteArray) (ty : Ty) (x : Tm) : (Tm.mk 6 a E0 0 ty Z0 [x]).text = 40 :: 92 :: (a.data.toList ++ 58 :: (ty.text ++ 46 :: (x.text ++ [41]))) := by simp [Tm.text, txN, textsM, hd]
theorem t_app (x y : Tm) : (Tm.mk 7 E0 E0 0 Z0 Z0 [x, y]).text = 40 :: (x.text ++ 32 :: (y.text ++ [41])) := by simp [Tm.text, txN, textsM, join2]
theorem t_bind (a : ByteArray) (x y : Tm) : (Tm.mk 8 a E0 0 Z0 Z0 [x, y]).text = 40 :: 108 :: 101 :: 116 :: 32 :: (a.data.toList ++ 61 :: (x.text ++ 32 :: (y.text ++ [41]))) := by simp [Tm.text, txN, textsM, join2]
theorem t_fix (a b : ByteArray) (ty res : Ty) (x : Tm) : (Tm.mk 9 a b 0 ty res [x]).text = 40 :: 114 :: 101 :: 99 :: 32 :: (a.data.toList ++ 32 :: (b.data.toList ++ 58 :: (ty.text ++ 62 :: (res.text ++ 46 :: (x.text ++ [41]))))) := by simp [Tm.text, txN, textsM, hd]
theorem t_quote (x : Tm) : (Tm.mk 10 E0 E0 0 Z0 Z0 [x]).text = 60 :: (x.text ++ [62]) := by simp [Tm.text, txN, textsM, hd]
theorem t_splice (x : Tm) : (Tm.mk 11 E0 E0 0 Z0 Z0 [x]).text = 126 :: x.text := by simp [Tm.text, txN, textsM, hd]
theorem t_run (x : Tm) : (Tm.mk 12 E0 E0 0 Z0 Z0 [x]).text = 40 :: 114 :: 117 :: 110 :: 32 :: (x.text ++ [41]) := by simp [Tm.text, txN, textsM, hd]
theorem t_lift (x : Tm) : (Tm.mk 13 E0 E0 0 Z0 Z0 [x]).text = 40 :: 108 :: 105 :: 102 :: 116 :: 32 :: (x.text ++ [41]) := by simp [Tm.text, txN, textsM, hd]
end Go.Proofs.YtfeijijeohfpgaaGreatDoor
namespace Go.Proofs.YtfeijijeohfpgaaGreatDoor
open Go Go.RowKit

def Tm.Valid (t : Tm) : Prop := t.nodes ≤ 80 ∧ t.depth ≤ 20 ∧ t.IsT

set_option maxRecDepth 100000 in
set_option maxHeartbeats 2000000 in
theorem validM_any {C : Nat → Prop} {t : Tm} {v : Value} {w : World} (h : TM w C t v) (hn : t.wt ≤ 2097152) :
    Calls Tryz.prog 75 #[v] w (Tells t.Valid w) := by
  obtain ⟨tp, tc, rp, rc, p, c, rfl, hT⟩ := h
  have HT := Lib.hid hT
  have HX := Lib.hid (Bx9.new w t tp tc rp rc p c 29)
  have HB := Lib.hid (al_below w (.cells (tmC t tp tc rp rc p c) 29))
  have HN := Lib.hid hn
  have hdn := t.depth_nodes
  have hnw := t.nodes_wt
  clear hT
  go_enter Tryz.func75, Tryz.ntmps75
  go_wp2_with fail
  refine (leftM_any _ _ 80 (Nat.le_refl _) (HT.out.stays (.of_below HB.out)) HN.out (by omega) (by omega)).mono ?_
  rintro e w1 ⟨r, hr, rfl, hb1⟩
  have hrg := hr.range (by omega)
  have HR := Lib.hid hr
  have HB1 := Lib.hid (HB.out.trans (hb1.mono HB.out.size))
  have HX1 := Lib.hid (HX.out.keep hb1)
  obtain ⟨g0, g1, g2, g3, g4, g5, g6, g7, g8⟩ := HX.out.keep hb1
  clear hb1 hr
  by_cases h0 : 0 ≤ r
  · have HZ := Lib.hid (show t.nodes ≤ 80 by have := HR.out; unfold LeftEnds at this; omega)
    have hd0 : decide (0 ≤ r) = true := decide_eq_true h0
    go_wp2_with fail
    refine (depthM_any _ _ (Nat.le_refl _) (HT.out.stays (.of_below HB1.out)) HN.out).mono ?_
    rintro e w2 ⟨d, rfl, rfl, hb2⟩
    have HB2 := Lib.hid (HB1.out.trans (hb2.mono HB1.out.size))
    clear g0 g1 g2 g3 g4 g5 g6 g7 g8
    obtain ⟨g0, g1, g2, g3, g4, g5, g6, g7, g8⟩ := HX1.out.keep hb2
    clear hb2
    by_cases h2 : t.depth ≤ 20
    · have hd2 : decide ((t.depth : Int) ≤ 20) = true := decide_eq_true (by omega)
      go_wp2_with fail
      refine (isTM_any _ _ (Nat.le_refl _) (HT.out.stays (.of_below HB2.out)) HN.out).mono ?_
      rintro e w3 ⟨b, hb, rfl, hb3⟩
      have HB3 := Lib.hid (HB2.out.trans (hb3.mono HB2.out.size))
      have HI := Lib.hid hb
      clear hb hb3
      go_wp2_with fail
      go_ret
      exact ⟨_, HI.out.trans ⟨fun h => ⟨HZ.out, h2, h⟩, fun h => h.2.2⟩, rfl, HB3.out⟩
    · have hd2 : decide ((t.depth : Int) ≤ 20) = false := decide_eq_false (by omega)
      go_wp2_with fail
      go_ret
      exact ⟨_, lit_f (fun h => h2 h.2.1), rfl, HB2.out⟩
  · have HZ := Lib.hid (show ¬ t.nodes ≤ 80 by have := HR.out; unfold LeftEnds at this; omega)
    have hd0 : decide (0 ≤ r) = false := decide_eq_false h0
    go_wp2_with fail
    go_ret
    exact ⟨_, lit_f (fun h => HZ.out h.1), rfl, HB1.out⟩
end Go.Proofs.YtfeijijeohfpgaaGreatDoor
namespace Go.Proofs.YtfeijijeohfpgaaGreatDoor
open Go Go.RowKit

theorem mk_nil (k n : Int) (ts : List Tm) : mkT k [] n ts = .mk k E0 E0 n Z0 Z0 ts := rfl
theorem mk_name (k n : Int) (a : ByteArray) (ts : List Tm) : mkT k a.data.toList n ts = .mk k a E0 n Z0 Z0 ts := rfl
end Go.Proofs.YtfeijijeohfpgaaGreatDoor
namespace Go.Proofs.YtfeijijeohfpgaaGreatDoor
open Go Go.RowKit

def wd (l : List UInt8) : List UInt8 := l.takeWhile isW
def wrest (l : List UInt8) : List UInt8 := l.dropWhile isW
def cut (q l : List UInt8) : List UInt8 := if q.isPrefixOf l then l.drop q.length else l
def sgN (k : Int) (a o : List UInt8) (n : Int) (ty res : Ty) : List (List UInt8) :=
  if k = 1 then [a]
  else if k = 2 then [Lib.itoa n]
  else if k = 3 then [[35, if n = 0 then 102 else 116]]
  else if k = 4 then (if opAr a = 1 then [40 :: a, [41]] else [[40], a, [41]])
  else if k = 5 then [[40, 105, 102, 32], [32], [32], [41]]
  else if k = 6 then [40 :: 92 :: (a ++ 58 :: (fmtT ty ++ [46])), [41]]
  else if k = 7 then [[40], [32], [41]]
  else if k = 8 then [40 :: 108 :: 101 :: 116 :: 32 :: (a ++ [61]), [32], [41]]
  else if k = 9 then [40 :: 114 :: 101 :: 99 :: 32 :: (a ++ 32 :: (o ++ 58 :: (fmtT ty ++ 62 :: (fmtT res ++ [46])))), [41]]
  else if k = 10 then [[60], [62]]
  else if k = 11 then [[126], []]
  else if k = 12 then [[40, 114, 117, 110, 32], [41]]
  else [[40, 108, 105, 102, 116, 32], [41]]
def sg (e : Tm) : List (List UInt8) := sgN e.kind e.name.data.toList e.other.data.toList e.n e.ty e.res
abbrev RdF := Nat → List UInt8 → Tm → Nat → List UInt8 → Prop
abbrev zeroM : Tm := .mk 0 E0 E0 0 Z0 Z0 []
def withM (e : Tm) (ts : List Tm) : Tm := .mk e.kind e.name e.other e.n e.ty e.res ts
def rdArgs (F : RdF) : List (List UInt8) → Nat → List UInt8 → List Tm → Nat → List UInt8 → Prop
  | [], k, l, ts, k', l' => ts = [] ∧ k' = k ∧ l' = l
  | q :: qs, k, l, ts, k', l' => ∃ t k1 l1 ts', F k l t k1 l1 ∧ rdArgs F qs k1 (cut q l1) ts' k' l' ∧ ts = t :: ts'
def rdW (F : RdF) (e : Tm) : RdF := fun k l t k' l' => ∃ ts, rdArgs F (sg e).tail k l ts k' l' ∧ t = withM e ts
def rdTy (q l : List UInt8) (ty : Ty) (l' : List UInt8) : Prop := (∃ j, pty l 8 0 = some (ty, j) ∧ l' = cut q (l.drop j)) ∨ (pty l 8 0 = none ∧ ty.args = [] ∧ ∃ j, l' = cut q (l.drop j))
abbrev eFalse : Tm := .mk 3 E0 E0 0 Z0 Z0 []
abbrev eTrue : Tm := .mk 3 E0 E0 1 Z0 Z0 []
abbrev eQuote : Tm := .mk 10 E0 E0 0 Z0 Z0 []
abbrev eSplice : Tm := .mk 11 E0 E0 0 Z0 Z0 []
abbrev eNot : Tm := .mk 4 ⟨#[33]⟩ E0 0 Z0 Z0 []
abbrev eIf : Tm := .mk 5 E0 E0 0 Z0 Z0 []
abbrev eRun : Tm := .mk 12 E0 E0 0 Z0 Z0 []
abbrev eLift : Tm := .mk 13 E0 E0 0 Z0 Z0 []
abbrev eLet (a : List UInt8) : Tm := .mk 8 ⟨a.toArray⟩ E0 0 Z0 Z0 []
abbrev eLam (a : List UInt8) (ty : Ty) : Tm := .mk 6 ⟨a.toArray⟩ E0 0 ty Z0 []
abbrev eRec (a b : List UInt8) (ty res : Ty) : Tm := .mk 9 ⟨a.toArray⟩ ⟨b.toArray⟩ 0 ty res []
def rdLet (F : RdF) : RdF := fun k l => rdW F (eLet (wd l)) k (cut [61] (wrest l))
def rdLam (F : RdF) : RdF := fun k l t k' l' => ∃ ty l1, rdTy [46] (cut [58] (wrest l)) ty l1 ∧ rdW F (eLam (wd l) ty) k l1 t k' l'
def rdRec (F : RdF) : RdF := fun k l t k' l' => ∃ m ty l1 res l2, m = cut [32] (wrest l) ∧ rdTy [62] (cut [58] (wrest m)) ty l1 ∧ rdTy [46] l1 res l2 ∧ rdW F (eRec (wd l) (wd m) ty res) k l2 t k' l'
def pairM (s : List UInt8) (x y : Tm) : Tm := if s = [32] then .mk 7 E0 E0 0 Z0 Z0 [x, y] else .mk 4 ⟨s.toArray⟩ E0 0 Z0 Z0 [x, y]
def rdPair (F : RdF) : RdF := fun k l t k' l' => ∃ x k1 l1 y l3, F k l x k1 l1 ∧ F k1 (cut (l1.take 1) l1) y k' l3 ∧ l' = cut [41] l3 ∧ t = pairM (l1.take 1) x y
def forms : List (List UInt8 × (RdF → RdF)) :=
  [([35, 102], fun F => rdW F eFalse), ([35, 116], fun F => rdW F eTrue), ([60], fun F => rdW F eQuote), ([126], fun F => rdW F eSplice), ([40, 33], fun F => rdW F eNot), ([40, 105, 102, 32], fun F => rdW F eIf),
   ([40, 114, 117, 110, 32], fun F => rdW F eRun), ([40, 108, 105, 102, 116, 32], fun F => rdW F eLift), ([40, 108, 101, 116, 32], rdLet), ([40, 114, 101, 99, 32], rdRec), ([40, 92], rdLam), ([40], rdPair)]
theorem wt0 (k : Int) (a b : ByteArray) (n : Int) (ty res : Ty) (ts : List Tm) : (Tm.mk k a b n ty res ts).wt = a.size + b.size + nodesS ty.args + nodesS res.args + wtS ts := rfl
theorem bsz (l : List UInt8) : (⟨l.toArray⟩ : ByteArray).size = l.length := by
  show l.toArray.size = _
  simp
theorem z0 : nodesS Z0.args = 0 := rfl
theorem e0sz : E0.size = 0 := rfl
end Go.Proofs.YtfeijijeohfpgaaGreatDoor
namespace Go.Proofs
open Go.Shelf
end Go.Proofs
namespace Go.Proofs.YtfeijijeohfpgaaGreatDoor
open Go Go.RowKit

theorem ret_str {a b : List UInt8} (h : a = b) : Ending.returned (.string ⟨a.toArray⟩) = Ending.returned (.string ⟨b.toArray⟩) := by rw [h]
theorem rel_put (m : Nat) (h : ¬ m = 0) {l r : List UInt8} (hl : dec m ++ l = r) :
    Value.string ((⟨#[48 + UInt8.ofNat (m % 10)]⟩ : ByteArray) ++ ⟨l.toArray⟩) = Value.string ⟨(UInt8.ofNat (48 + m % 10) :: l).toArray⟩ ∧ dec (m / 10) ++ (UInt8.ofNat (48 + m % 10) :: l) = r := by
  refine ⟨?_, dec_put (by omega) hl⟩
  rw [str_cons, UInt8.ofNat_add]; rfl

end Go.Proofs.YtfeijijeohfpgaaGreatDoor
namespace Go.Proofs.YtfeijijeohfpgaaGreatDoor
open Go Go.RowKit

set_option maxRecDepth 100000 in
set_option maxHeartbeats 400000 in
theorem fmt_pos (N : Nat) (h1 : 1 ≤ N) (h2 : N ≤ 9223372036854775807) (w : World) :
    Calls Tryz.prog 237 #[.int .i64 N] w fun e w' => e = .returned (.string ⟨(Lib.decDigits N).toArray⟩) ∧ Below w.heap.size w w' := by
  have t1 : ((N : Int) == 0) = false := by rw [beq_eq_false_iff_ne]; omega
  have t2 : decide ((N : Int) < 0) = false := by simp
  go_enter Tryz.func237, Tryz.ntmps237
  go_wp2
  go_loopw [0, 4] (fun n out wr => ∃ (m : Nat) (l : List UInt8), m ≤ N ∧ n = .int .i64 m ∧ out = .string ⟨l.toArray⟩ ∧ dec m ++ l = Lib.decDigits N ∧ Below w.heap.size w wr) (fun n _ _ => (intOf n).toNat)
  case atStart => exact ⟨N, [], Nat.le_refl _, rfl, rfl, by rw [dec_pos h1, List.append_nil], Below.refl _ _⟩
  case round =>
    obtain ⟨m, l, hm, rfl, rfl, hl, hb⟩ := hrel
    have hll : l.length ≤ 19 := by
      have e := congrArg List.length hl
      rw [List.length_append] at e
      have := dec_length_le (u := N) (by omega)
      omega
    have HL := Lib.hid hl
    clear hl
    by_cases hz : m = 0
    · subst hz
      go_wp2
      go_ret
      have e := HL.out
      rw [dec_zero, List.nil_append] at e
      exact ⟨ret_str e, hb⟩
    · have t3 : ((m : Int) != 0) = true := by rw [bne_iff_ne]; omega
      have kc := run_string_byte (P := Tryz.prog) wr 22 9 5 (48 + (m : Int) % 10) (by omega) (by omega) Tryz.underlying22 Tryz.underlying5 Tryz.underlying9
      go_wp2
      go_roundw
      case rel => exact ⟨m / 10, _, by omega, by go_num, (rel_put m hz HL.out).1, (rel_put m hz HL.out).2, hb.alloc hb.size _⟩
      case measure => simp [intOf]; omega

theorem rel_put0 (m : Nat) (h : ¬ m = 0) (hd : m % 10 = 0) {l r : List UInt8} (hl : dec m ++ l = r) :
    Value.string ((⟨#[UInt8.ofNat (48 + -((m : Int) % 10)).toNat]⟩ : ByteArray) ++ ⟨l.toArray⟩) = Value.string ⟨(UInt8.ofNat (48 + m % 10) :: l).toArray⟩ ∧ dec (m / 10) ++ (UInt8.ofNat (48 + m % 10) :: l) = r := by
  refine ⟨?_, dec_put (by omega) hl⟩
  rw [str_cons, show (48 + -((m : Int) % 10)).toNat = 48 + m % 10 by omega]
theorem ret_minus {a b : List UInt8} (h : a = b) : Ending.returned (.string ((⟨#[45]⟩ : ByteArray) ++ ⟨a.toArray⟩)) = Ending.returned (.string ⟨(45 :: b).toArray⟩) := by rw [h, str_cons]

set_option maxRecDepth 100000 in
set_option maxHeartbeats 400000 in
theorem fmt_neg (N : Nat) (h1 : 1 ≤ N) (h2 : N ≤ 9223372036854775808) (w : World) :
    Calls Tryz.prog 237 #[.int .i64 (-(N : Int))] w fun e w' => e = .returned (.string ⟨(45 :: Lib.decDigits N).toArray⟩) ∧ Below w.heap.size w w' := by
  have t1 : ((-(N : Int)) == 0) = false := by rw [beq_eq_false_iff_ne]; omega
  have t2 : decide (0 < N) = true := by simp; omega
  go_enter Tryz.func237, Tryz.ntmps237
  go_wp2
  go_loopw [0, 4] (fun n out wr => ∃ (m : Nat) (l : List UInt8), m ≤ N ∧ n = .int .i64 (-(m : Int)) ∧ out = .string ⟨l.toArray⟩ ∧ dec m ++ l = Lib.decDigits N ∧ Below w.heap.size w wr) (fun n _ _ => (-(intOf n)).toNat)
  case atStart => exact ⟨N, [], Nat.le_refl _, rfl, rfl, by rw [dec_pos h1, List.append_nil], Below.refl _ _⟩
  case round =>
    obtain ⟨m, l, hm, rfl, rfl, hl, hb⟩ := hrel
    have hll : l.length ≤ 19 := by
      have e := congrArg List.length hl
      rw [List.length_append] at e
      have := dec_length_le (u := N) (by omega)
      omega
    have HL := Lib.hid hl
    clear hl
    by_cases hz : m = 0
    · subst hz
      go_wp2
      go_ret
      have e := HL.out
      rw [dec_zero, List.nil_append] at e
      exact ⟨ret_minus e, hb⟩
    · have t3 : ((-(m : Int)) != 0) = true := by rw [bne_iff_ne]; omega
      by_cases hd : m % 10 = 0
      · have kc := run_string_byte (P := Tryz.prog) wr 22 9 5 (48 + -((m : Int) % 10)) (by omega) (by omega) Tryz.underlying22 Tryz.underlying5 Tryz.underlying9
        go_wp2
        go_roundw
        case rel => exact ⟨m / 10, _, by omega, by go_num, (rel_put0 m hz hd HL.out).1, (rel_put0 m hz hd HL.out).2, hb.alloc hb.size _⟩
        case measure => simp [intOf]; omega
      · have kc := run_string_byte (P := Tryz.prog) wr 22 9 5 (48 + (m : Int) % 10) (by omega) (by omega) Tryz.underlying22 Tryz.underlying5 Tryz.underlying9
        go_wp2
        go_roundw
        case rel => exact ⟨m / 10, _, by omega, by go_num, (rel_put m hz HL.out).1, (rel_put m hz HL.out).2, hb.alloc hb.size _⟩
        case measure => simp [intOf]; omega

set_option maxHeartbeats 400000 in
theorem fmt_zero (w : World) :
    Calls Tryz.prog 237 #[.int .i64 0] w fun e w' => e = .returned (.string ⟨(Lib.decDigits 0).toArray⟩) ∧ Below w.heap.size w w' := by
  have e : Lib.decDigits 0 = [48] := by rw [Lib.decDigits]; rfl
  have E := Lib.hid e
  clear e
  go_enter Tryz.func237, Tryz.ntmps237
  go_wp2
  go_ret
  exact ⟨by rw [E.out]; rfl, Below.refl _ _⟩
theorem fmt_any (n : Int) (h0 : -9223372036854775808 ≤ n) (h1 : n ≤ 9223372036854775807) (w : World) :
    Calls Tryz.prog 237 #[.int .i64 n] w fun e w' => e = .returned (.string ⟨(Lib.itoa n).toArray⟩) ∧ Below w.heap.size w w' := by
  unfold Lib.itoa
  by_cases hn : n < 0
  · rw [if_pos hn]
    have h := fmt_neg n.natAbs (by omega) (by omega) w
    rw [show (-(n.natAbs : Int)) = n by omega] at h
    exact h
  · rw [if_neg hn]
    by_cases hz : n = 0
    · subst hz; exact fmt_zero w
    · have h := fmt_pos n.toNat (by omega) (by omega) w
      rw [show ((n.toNat : Nat) : Int) = n by omega] at h
      exact h
end Go.Proofs.YtfeijijeohfpgaaGreatDoor
namespace Go.Proofs.YtfeijijeohfpgaaGreatDoor
open Go Go.RowKit

end Go.Proofs.YtfeijijeohfpgaaGreatDoor
namespace Go.Proofs.YtfeijijeohfpgaaGreatDoor
open Go
def Tl (neg : Bool) (l t : List UInt8) : Prop := if neg then l = 45 :: t else l = t ∧ l.head? ≠ some 45
def sgnd (neg : Bool) (N : Nat) : Int := if neg then -(N : Int) else N

theorem tl_itoa {neg : Bool} {l t : List UInt8} (h : Tl neg l t) {n : Int} (e : Lib.itoa n = l) : Lib.decDigits n.natAbs = t ∧ n = sgnd neg n.natAbs := by
  unfold Lib.itoa at e
  cases neg with
  | true =>
    simp only [Tl, if_true] at h
    subst h
    by_cases hn : n < 0
    · rw [if_pos hn] at e
      injection e with _ e
      refine ⟨e, ?_⟩
      simp only [sgnd, if_true]; omega
    · rw [if_neg hn] at e
      have := dec_head n.toNat
      rw [e] at this
      exact absurd (List.head?_cons ..) this
  | false =>
    simp only [Tl, Bool.false_eq_true, if_false] at h
    obtain ⟨rfl, h⟩ := h
    by_cases hn : n < 0
    · rw [if_pos hn] at e
      rw [← e] at h
      exact absurd (List.head?_cons ..) h
    · rw [if_neg hn] at e
      have hz : n.natAbs = n.toNat := by omega
      rw [hz]
      refine ⟨e, ?_⟩
      simp only [sgnd, Bool.false_eq_true, if_false]; omega
def ReadOut (l : List UInt8) (m : Nat) (e : Ending) : Prop :=
  (∃ n : Int, e = .returned (.tuple #[.int .i64 n, .bool true]) ∧ Lib.itoa n = l ∧ n.natAbs < 10 ^ m) ∨
  (e = .returned (.tuple #[.int .i64 0, .bool false]) ∧ ∀ n : Int, n.natAbs < 10 ^ m → Lib.itoa n ≠ l)

theorem out_nil {m : Nat} {l : List UInt8} (hl : l = []) : ReadOut l m (.returned (.tuple #[.int .i64 0, .bool false])) := by
  refine Or.inr ⟨rfl, fun n _ e => ?_⟩
  rw [hl] at e
  unfold Lib.itoa at e
  split at e
  · cases e
  · exact dec_ne_nil _ e
theorem out_size {neg : Bool} {m : Nat} {l t : List UInt8} (h : Tl neg l t) (hm : 1 ≤ m) (hl : t.length < 1 ∨ m < t.length) : ReadOut l m (.returned (.tuple #[.int .i64 0, .bool false])) := by
  refine Or.inr ⟨rfl, fun n hn e => ?_⟩
  have h1 := (tl_itoa h e).1
  have h2 := Lib.decDigits_length n.natAbs
  have h3 := Lib.nDigits_pos n.natAbs
  have h4 := nDigits_le m n.natAbs hm hn
  rw [h1] at h2
  omega
theorem out_char {neg : Bool} {m : Nat} {l t : List UInt8} (h : Tl neg l t) {c : UInt8} (hc : c ∈ t) (hd : ¬ isDig c) : ReadOut l m (.returned (.tuple #[.int .i64 0, .bool false])) := by
  refine Or.inr ⟨rfl, fun n _ e => ?_⟩
  have h1 := (tl_itoa h e).1
  rw [← h1] at hc
  exact hd (dec_digs _ c hc)
theorem out_ne {neg : Bool} {m : Nat} {l t : List UInt8} (h : Tl neg l t) (hne : ¬ Lib.itoa (sgnd neg (rdA 0 t)) = l) : ReadOut l m (.returned (.tuple #[.int .i64 0, .bool false])) := by
  refine Or.inr ⟨rfl, fun n _ e => hne ?_⟩
  have h1 := tl_itoa h e
  have h2 : rdA 0 t = n.natAbs := by rw [← h1.1, rdA_dec]
  rw [h2, ← h1.2]; exact e
theorem out_eq {neg : Bool} {m : Nat} {l t : List UInt8} (hd : ∀ c ∈ t, isDig c) (hm : t.length ≤ m) (he : Lib.itoa (sgnd neg (rdA 0 t)) = l) : ReadOut l m (.returned (.tuple #[.int .i64 (sgnd neg (rdA 0 t)), .bool true])) := by
  refine Or.inl ⟨_, rfl, he, ?_⟩
  have h1 := rdA_lt t hd
  have h2 : 10 ^ t.length ≤ 10 ^ m := Nat.pow_le_pow_right (by decide) hm
  have h3 : (sgnd neg (rdA 0 t)).natAbs = rdA 0 t := by unfold sgnd; split <;> omega
  omega

theorem take_snoc (s : ByteArray) (k : Nat) (h : k < s.size) : s.data.toList.take (k + 1) = s.data.toList.take k ++ [s[k]] := by
  rw [List.take_succ_eq_append_getElem (by simpa using h)]; rfl
theorem mem_bytes (s : ByteArray) (k : Nat) (h : k < s.size) : s[k] ∈ s.data.toList := by
  have : s[k] = s.data.toList[k]'(by simpa using h) := rfl
  rw [this]; exact List.getElem_mem _
def Spelt (l : List UInt8) (k N : Nat) : Prop := N = rdA 0 (l.take k) ∧ ∀ c ∈ l.take k, isDig c
theorem spelt_zero (l : List UInt8) : Spelt l 0 0 := ⟨by rw [List.take_zero, rdA_nil], fun c hc => by simp at hc⟩
theorem spelt_bd {l : List UInt8} {k N : Nat} (h : Spelt l k N) (hk : k ≤ 17) : (N : Int) ≤ 100000000000000000 := by
  have h1 := rdA_lt (l.take k) h.2
  rw [← h.1] at h1
  have h2 : 10 ^ (l.take k).length ≤ 10 ^ 17 := Nat.pow_le_pow_right (by decide) (by have := List.length_take_le k l; omega)
  simp only [Nat.reducePow] at h2
  omega
theorem spelt_step {s : ByteArray} {k N : Nat} (h : Spelt s.data.toList k N) (hk : k < s.size) (hd : isDig s[k]) : Spelt s.data.toList (k + 1) (10 * N + (s[k].toNat - 48)) := by
  refine ⟨?_, ?_⟩
  · rw [take_snoc s k hk, rdA_snoc, ← h.1]
  · rw [take_snoc s k hk]
    intro c hc
    rcases List.mem_append.1 hc with hc | hc
    · exact h.2 c hc
    · rw [List.mem_singleton.1 hc]; exact hd
theorem spelt_all {l : List UInt8} {k N : Nat} (h : Spelt l k N) (hk : l.length ≤ k) : rdA 0 l = N ∧ ∀ c ∈ l, isDig c := by
  unfold Spelt at h
  rw [List.take_of_length_le hk] at h
  exact ⟨h.1.symm, h.2⟩
theorem size_len (s : ByteArray) : s.data.toList.length = s.size := by simp
theorem tl_neg {s : ByteArray} (hlt : 0 < s.size) (h : ((s[0].toNat : Int) == 45) = true) : Tl true s.data.toList (s.extract 1 s.size).data.toList := by
  have h0 : s[0] = 45 := by
    have : s[0].toNat = 45 := by have := beq_iff_eq.1 h; omega
    exact UInt8.toNat_inj.1 this
  clear h
  simp only [Tl, if_true]
  rw [Lib.extract_data, Lib.size_eq]
  obtain ⟨⟨l⟩⟩ := s
  cases l with
  | nil => exact absurd hlt (by decide)
  | cons c r =>
    have e : c = 45 := h0
    rw [e]
    simp
theorem tl_pos {s : ByteArray} (hlt : 0 < s.size) (h : ((s[0].toNat : Int) == 45) = false) : Tl false s.data.toList s.data.toList := by
  have h0 : s[0].toNat ≠ 45 := by have := beq_eq_false_iff_ne.1 h; omega
  clear h
  simp only [Tl, Bool.false_eq_true, if_false, true_and]
  obtain ⟨⟨l⟩⟩ := s
  cases l with
  | nil => exact absurd hlt (by decide)
  | cons c r =>
    have e : c.toNat ≠ 45 := h0
    intro hh
    have e2 : c = 45 := by simpa using hh
    rw [e2] at e
    exact e rfl
end Go.Proofs.YtfeijijeohfpgaaGreatDoor
namespace Go.Proofs.YtfeijijeohfpgaaGreatDoor
open Go Go.RowKit

set_option maxRecDepth 100000 in
set_option maxHeartbeats 1000000 in
theorem read_pos (s : ByteArray) (most : Int) (hm1 : most ≤ 17) (w : World) (h1 : 1 ≤ (s.size : Int)) (h2 : (s.size : Int) ≤ most)
    (hlt : 0 < s.size) (h45 : ((s[0].toNat : Int) == 45) = false) :
    Calls Tryz.prog 246 #[.string s, .int .i64 most] w fun e w' => ReadOut s.data.toList most.toNat e ∧ Below w.heap.size w w' := by
  have HT := Lib.hid (tl_pos hlt h45)
  have hbyte : ∀ (c : UInt8), 48 ≤ (c.toNat : Int) ∧ (c.toNat : Int) ≤ 57 → isDig c := fun c h => by unfold isDig; omega
  have HB := Lib.hid hbyte
  clear hbyte
  go_enter Tryz.func246, Tryz.ntmps246
  go_wp2_with fail
  go_loop [8, 9] (fun n i => ∃ k N : Nat, k ≤ s.size ∧ i = .int .i64 k ∧ n = .int .i64 N ∧ Spelt s.data.toList k N) (fun _ i => s.size - (intOf i).toNat)
  case atStart => exact ⟨0, 0, Nat.zero_le _, rfl, rfl, spelt_zero _⟩
  case round =>
    obtain ⟨k, N, hk, rfl, rfl, hsp⟩ := hrel
    have HS := Lib.hid hsp
    have hbd : (N : Int) ≤ 100000000000000000 := spelt_bd hsp (by omega)
    clear hsp
    by_cases hlk : k < s.size
    · have hkt : k < s.size := by omega
      by_cases hd : isDig s[k]
      · have d1 : 48 ≤ (s[k].toNat : Int) := by unfold isDig at hd; omega
        have d2 : (s[k].toNat : Int) ≤ 57 := by unfold isDig at hd; omega
        have HD := Lib.hid hd
        clear hd
        go_wp2_with fail
        go_round
        case rel => exact ⟨k + 1, 10 * N + (s[k].toNat - 48), by omega, by go_num, by go_num, spelt_step HS.out hkt HD.out⟩
        case measure => simp [intOf]; omega
      · have HD := Lib.hid hd
        clear hd
        go_wp2_with fail
        · go_ret2
          exact ⟨out_char HT.out (mem_bytes _ k hkt) HD.out, Below.refl _ _⟩
        · exact absurd (HB.out _ (by assumption)) HD.out
        · go_ret2
          exact ⟨out_char HT.out (mem_bytes _ k hkt) HD.out, Below.refl _ _⟩
    · have hall := spelt_all HS.out (show s.data.toList.length ≤ k by rw [size_len]; omega)
      have HA := Lib.hid hall.1
      have HC := Lib.hid hall.2
      clear hall HS
      by_cases heq : Lib.itoa (sgnd false N) = s.data.toList
      · have hbe : (Lib.itoa (N : Int) == s.toList) = true := by rw [beq_iff_eq, Lib.toList_data]; exact heq
        have HE := Lib.hid heq
        clear heq
        go_wp2_with (go_at_call 237; refine (fmt_any _ (by omega) (by omega) _).mono ?_; rintro e w1 ⟨rfl, hb1⟩)
        go_ret2
        have ho := out_eq (neg := false) (m := most.toNat) (l := s.data.toList) HC.out (by rw [size_len]; omega) (by rw [HA.out]; exact HE.out)
        rw [HA.out] at ho
        exact ⟨ho, hb1⟩
      · have hbe : (Lib.itoa (N : Int) == s.toList) = false := by rw [beq_eq_false_iff_ne, Lib.toList_data]; exact heq
        have HE := Lib.hid heq
        clear heq
        go_wp2_with (go_at_call 237; refine (fmt_any _ (by omega) (by omega) _).mono ?_; rintro e w1 ⟨rfl, hb1⟩)
        go_ret2
        exact ⟨out_ne HT.out (by rw [HA.out]; exact HE.out), hb1⟩

set_option maxRecDepth 100000 in
set_option maxHeartbeats 1000000 in
theorem read_neg (s : ByteArray) (most : Int) (hm1 : most ≤ 17) (w : World) (h1 : 1 ≤ ((s.size - 1 : Nat) : Int)) (h2 : ((s.size - 1 : Nat) : Int) ≤ most)
    (hlt : 0 < s.size) (h45 : ((s[0].toNat : Int) == 45) = true) :
    Calls Tryz.prog 246 #[.string s, .int .i64 most] w fun e w' => ReadOut s.data.toList most.toNat e ∧ Below w.heap.size w w' := by
  have HT := Lib.hid (tl_neg hlt h45)
  have hbyte : ∀ (c : UInt8), 48 ≤ (c.toNat : Int) ∧ (c.toNat : Int) ≤ 57 → isDig c := fun c h => by unfold isDig; omega
  have HB := Lib.hid hbyte
  clear hbyte
  go_enter Tryz.func246, Tryz.ntmps246
  go_wp2_with fail
  go_loop [8, 9] (fun n i => ∃ k N : Nat, k ≤ s.size - 1 ∧ i = .int .i64 k ∧ n = .int .i64 N ∧ Spelt (s.extract 1 s.size).data.toList k N) (fun _ i => s.size - (intOf i).toNat)
  case atStart => exact ⟨0, 0, Nat.zero_le _, rfl, rfl, spelt_zero _⟩
  case round =>
    obtain ⟨k, N, hk, rfl, rfl, hsp⟩ := hrel
    have HS := Lib.hid hsp
    have hbd : (N : Int) ≤ 100000000000000000 := spelt_bd hsp (by omega)
    clear hsp
    by_cases hlk : k < s.size - 1
    · have hkt : k < (s.extract 1 s.size).size := by simp; omega
      by_cases hd : isDig (s.extract 1 s.size)[k]
      · have d1 : 48 ≤ ((s.extract 1 s.size)[k].toNat : Int) := by unfold isDig at hd; omega
        have d2 : ((s.extract 1 s.size)[k].toNat : Int) ≤ 57 := by unfold isDig at hd; omega
        have HD := Lib.hid hd
        clear hd
        go_wp2_with fail
        go_round
        case rel => exact ⟨k + 1, 10 * N + ((s.extract 1 s.size)[k].toNat - 48), by omega, by go_num, by go_num, spelt_step HS.out hkt HD.out⟩
        case measure => simp [intOf]; omega
      · have HD := Lib.hid hd
        clear hd
        go_wp2_with fail
        · go_ret2
          exact ⟨out_char HT.out (mem_bytes _ k hkt) HD.out, Below.refl _ _⟩
        · exact absurd (HB.out _ (by assumption)) HD.out
        · go_ret2
          exact ⟨out_char HT.out (mem_bytes _ k hkt) HD.out, Below.refl _ _⟩
    · have hall := spelt_all HS.out (show (s.extract 1 s.size).data.toList.length ≤ k by rw [size_len]; simp; omega)
      have HA := Lib.hid hall.1
      have HC := Lib.hid hall.2
      clear hall HS
      by_cases heq : Lib.itoa (sgnd true N) = s.data.toList
      · have hbe : (Lib.itoa (-(N : Int)) == s.toList) = true := by rw [beq_iff_eq, Lib.toList_data]; exact heq
        have HE := Lib.hid heq
        clear heq
        go_wp2_with (go_at_call 237; refine (fmt_any _ (by omega) (by omega) _).mono ?_; rintro e w1 ⟨rfl, hb1⟩)
        go_ret2
        have ho := out_eq (neg := true) (m := most.toNat) (l := s.data.toList) HC.out (by rw [size_len]; simp; omega) (by rw [HA.out]; exact HE.out)
        rw [HA.out] at ho
        exact ⟨ho, hb1⟩
      · have hbe : (Lib.itoa (-(N : Int)) == s.toList) = false := by rw [beq_eq_false_iff_ne, Lib.toList_data]; exact heq
        have HE := Lib.hid heq
        clear heq
        go_wp2_with (go_at_call 237; refine (fmt_any _ (by omega) (by omega) _).mono ?_; rintro e w1 ⟨rfl, hb1⟩)
        go_ret2
        exact ⟨out_ne HT.out (by rw [HA.out]; exact HE.out), hb1⟩

set_option maxRecDepth 100000 in
set_option maxHeartbeats 400000 in
theorem read_none (s : ByteArray) (most : Int) (w : World) (h0 : s.size = 0) :
    Calls Tryz.prog 246 #[.string s, .int .i64 most] w fun e w' => ReadOut s.data.toList most.toNat e ∧ Below w.heap.size w w' := by
  have hl : s.data.toList = [] := by rw [← List.length_eq_zero_iff, size_len]; exact h0
  have hs : s = ⟨#[]⟩ := by
    obtain ⟨⟨l⟩⟩ := s
    have e : l = [] := hl
    rw [e]
  subst hs
  clear h0 hl
  go_enter Tryz.func246, Tryz.ntmps246
  go_wp2_with fail
  go_ret2
  exact ⟨out_nil rfl, Below.refl _ _⟩

set_option maxRecDepth 100000 in
set_option maxHeartbeats 400000 in
theorem read_size_pos (s : ByteArray) (most : Int) (hm0 : 1 ≤ most) (w : World) (hlt : 0 < s.size) (hs : s.size ≤ maxLen) (h2 : most < (s.size : Int))
    (h45 : ((s[0].toNat : Int) == 45) = false) :
    Calls Tryz.prog 246 #[.string s, .int .i64 most] w fun e w' => ReadOut s.data.toList most.toNat e ∧ Below w.heap.size w w' := by
  have HT := Lib.hid (tl_pos hlt h45)
  unfold maxLen at hs
  go_enter Tryz.func246, Tryz.ntmps246
  go_wp2_with fail
  go_ret2
  exact ⟨out_size HT.out (by omega) (by rw [size_len]; omega), Below.refl _ _⟩

set_option maxRecDepth 100000 in
set_option maxHeartbeats 400000 in
theorem read_size_neg (s : ByteArray) (most : Int) (hm0 : 1 ≤ most) (w : World) (hlt : 0 < s.size) (hs : s.size ≤ maxLen) (h2 : ((s.size - 1 : Nat) : Int) < 1 ∨ most < ((s.size - 1 : Nat) : Int))
    (h45 : ((s[0].toNat : Int) == 45) = true) :
    Calls Tryz.prog 246 #[.string s, .int .i64 most] w fun e w' => ReadOut s.data.toList most.toNat e ∧ Below w.heap.size w w' := by
  have HT := Lib.hid (tl_neg hlt h45)
  unfold maxLen at hs
  rcases h2 with h2 | h2
  all_goals
    go_enter Tryz.func246, Tryz.ntmps246
    go_wp2_with fail
    all_goals go_ret2
    all_goals exact ⟨out_size HT.out (by omega) (by rw [size_len]; simp; omega), Below.refl _ _⟩
theorem read_any (s : ByteArray) (most : Int) (hm0 : 1 ≤ most) (hm1 : most ≤ 17) (w : World) (hs : s.size ≤ maxLen) :
    Calls Tryz.prog 246 #[.string s, .int .i64 most] w fun e w' => ReadOut s.data.toList most.toNat e ∧ Below w.heap.size w w' := by
  by_cases h0 : s.size = 0
  · exact read_none s most w h0
  · have hlt : 0 < s.size := by omega
    cases h45 : ((s[0].toNat : Int) == 45) with
    | false =>
      by_cases hz : most < (s.size : Int)
      · exact read_size_pos s most hm0 w hlt hs hz h45
      · exact read_pos s most hm1 w (by omega) (by omega) hlt h45
    | true =>
      by_cases hz : ((s.size - 1 : Nat) : Int) < 1 ∨ most < ((s.size - 1 : Nat) : Int)
      · exact read_size_neg s most hm0 w hlt hs hz h45
      · exact read_neg s most hm1 w (by omega) (by omega) hlt h45
end Go.Proofs.YtfeijijeohfpgaaGreatDoor
namespace Go.Proofs.YtfeijijeohfpgaaGreatDoor
open Go Go.RowKit

theorem itoa_inj {a b : Int} (h : Lib.itoa a = Lib.itoa b) : a = b := by rw [← rd_itoa a, h, rd_itoa]

theorem read_yes (s : ByteArray) (most n : Int) (hm0 : 1 ≤ most) (hm1 : most ≤ 17) (w : World) (hs : s.size ≤ maxLen) (hn : Lib.itoa n = s.data.toList) (hb : n.natAbs < 10 ^ most.toNat) :
    Calls Tryz.prog 246 #[.string s, .int .i64 most] w fun e w' => e = .returned (.tuple #[.int .i64 n, .bool true]) ∧ Below w.heap.size w w' := by
  refine (read_any s most hm0 hm1 w hs).mono ?_
  rintro e w' ⟨h | h, hw⟩
  · obtain ⟨m, rfl, he, _⟩ := h
    rw [itoa_inj (he.trans hn.symm)]
    exact ⟨rfl, hw⟩
  · exact absurd hn (h.2 n hb)
theorem read_no (s : ByteArray) (most : Int) (hm0 : 1 ≤ most) (hm1 : most ≤ 17) (w : World) (hs : s.size ≤ maxLen) (hn : ∀ n : Int, n.natAbs < 10 ^ most.toNat → Lib.itoa n ≠ s.data.toList) :
    Calls Tryz.prog 246 #[.string s, .int .i64 most] w fun e w' => e = .returned (.tuple #[.int .i64 0, .bool false]) ∧ Below w.heap.size w w' := by
  refine (read_any s most hm0 hm1 w hs).mono ?_
  rintro e w' ⟨h | h, hw⟩
  · obtain ⟨m, rfl, he, hb⟩ := h
    exact absurd he (hn m hb)
  · exact ⟨h.1, hw⟩
def numOut (lo hi : Int) (l : List UInt8) : Value := if okNum lo hi l then .tuple #[.int .i64 (rd l), .bool true] else .tuple #[.int .i64 0, .bool false]
theorem numOut_yes {lo hi n : Int} {l : List UInt8} (h : Lib.itoa n = l) (h0 : lo ≤ n) (h1 : n ≤ hi) : numOut lo hi l = .tuple #[.int .i64 n, .bool true] := by
  unfold numOut
  rw [okNum_mk h h0 h1, if_pos rfl, ← h, rd_itoa]
theorem numOut_no {lo hi : Int} {l : List UInt8} (h : ∀ n : Int, lo ≤ n → n ≤ hi → Lib.itoa n ≠ l) : numOut lo hi l = .tuple #[.int .i64 0, .bool false] := by
  unfold numOut
  cases e : okNum lo hi l with
  | false => rfl
  | true =>
    have := okNum_yes e
    exact absurd this.2.2 (h _ this.1 this.2.1)

set_option maxHeartbeats 400000 in
theorem specNumber_any (s : ByteArray) (w : World) (hs : s.size ≤ maxLen) :
    Calls Tryz.prog 236 #[.string s] w fun e w' => e = .returned (numOut 0 999999 s.data.toList) ∧ Below w.heap.size w w' := by
  by_cases h : ∃ n : Int, n.natAbs < 10 ^ 6 ∧ Lib.itoa n = s.data.toList
  · obtain ⟨n, hb, hn⟩ := h
    by_cases h0 : n < 0
    · rw [numOut_no (fun m hm0 _ he => by have := itoa_inj (he.trans hn.symm); omega)]
      have HC := Lib.hid (read_yes s 6 n (by decide) (by decide) w hs hn hb)
      clear hn hb hs
      go_enter Tryz.func236, Tryz.ntmps236
      go_wp2_with (go_at_call 246; refine HC.out.mono ?_; rintro e w1 ⟨rfl, hb1⟩)
      go_ret2
      exact ⟨rfl, hb1⟩
    · rw [numOut_yes hn (by omega) (by omega)]
      have HC := Lib.hid (read_yes s 6 n (by decide) (by decide) w hs hn hb)
      clear hn hb hs
      go_enter Tryz.func236, Tryz.ntmps236
      go_wp2_with (go_at_call 246; refine HC.out.mono ?_; rintro e w1 ⟨rfl, hb1⟩)
      go_ret2
      exact ⟨rfl, hb1⟩
  · have hn : ∀ n : Int, n.natAbs < 10 ^ 6 → Lib.itoa n ≠ s.data.toList := fun n hb he => h ⟨n, hb, he⟩
    rw [numOut_no (fun n h0 h1 => hn n (by omega))]
    have HC := Lib.hid (read_no s 6 (by decide) (by decide) w hs hn)
    clear hn h hs
    go_enter Tryz.func236, Tryz.ntmps236
    go_wp2_with (go_at_call 246; refine HC.out.mono ?_; rintro e w1 ⟨rfl, hb1⟩)
    go_ret2
    exact ⟨rfl, hb1⟩
end Go.Proofs.YtfeijijeohfpgaaGreatDoor
namespace Go.Proofs.YtfeijijeohfpgaaGreatDoor
open Go Go.RowKit

end Go.Proofs.YtfeijijeohfpgaaGreatDoor
namespace Go.Proofs.YtfeijijeohfpgaaGreatDoor
open Go Go.RowKit

end Go.Proofs.YtfeijijeohfpgaaGreatDoor
namespace Go.Proofs.YtfeijijeohfpgaaGreatDoor
open Go Go.RowKit

theorem gb_below {W W' : World} (hb : Below W.heap.size W W') (r : Option Nat) : W.grownBy W' r := ⟨hb.os, hb.tape, hb.output, hb.size, fun k hk _ => hb.block k hk⟩
theorem gb_drew {w W : World} {r : Option Nat} (h : w.grownBy W r) : w.grownBy W.drew r := ⟨h.os, h.tape, h.output, h.size, h.block⟩
theorem gb_more {w w1 w2 : World} {r : Option Nat} {D : Nat} (h : w.grownBy w1 r) (hD : w.heap.size ≤ D) (hb : Below D w1 w2) : w.grownBy w2 r :=
  ⟨hb.os.trans h.os, hb.tape.trans h.tape, hb.output.trans h.output, Nat.le_trans h.size hb.size, fun k hk hne => (hb.block k (by omega)).trans (h.block k hk hne)⟩
namespace Rdr
variable {R FB : Nat} {E : Nat → Nat} {l l' : List UInt8} {k k' : Nat} {W W' : World}
end Rdr

abbrev bx (l : List UInt8) : ByteArray := ⟨l.toArray⟩
theorem pre_take {q l : List UInt8} (h : q.length ≤ l.length) : q.isPrefixOf l = (l.take q.length == q) := by
  rw [Bool.eq_iff_iff, List.isPrefixOf_iff_prefix, beq_iff_eq]
  constructor
  · rintro ⟨r, rfl⟩; simp
  · intro e; rw [← e]; exact List.take_prefix _ _
abbrev Small (l : List UInt8) : Prop := l.length ≤ 1048576
end Go.Proofs.YtfeijijeohfpgaaGreatDoor
namespace Go.Proofs.YtfeijijeohfpgaaGreatDoor
open Go Go.RowKit
def RdO (w : World) (R : Nat) (s : ByteArray) : Option Nat → Prop
  | some i => i ≤ s.size ∧ Rd w R s i false
  | none => ∃ i, i ≤ s.size ∧ Rd w R s i true
theorem pre_len {q s : List UInt8} {i : Nat} (h : pre q s i = true) (hi : i ≤ s.length) : i + q.length ≤ s.length := by
  unfold pre at h
  have := (List.isPrefixOf_iff_prefix.1 h).length_le
  rw [List.length_drop] at this
  omega
theorem pre_ext {q : List UInt8} {s : ByteArray} {i : Nat} (h : i + q.length ≤ s.size) : pre q s.data.toList i = ((s.extract i (i + q.length)).toList == q) := by
  have h1 : i + q.length ≤ s.data.toList.length := by simpa using h
  unfold pre
  rw [pre_take (by rw [List.length_drop]; omega), ByteArray.toList_eq, ByteArray.data_extract, Array.toList_extract, List.extract_eq_take_drop]
  rw [show i + q.length - i = q.length by omega]
theorem pre_out {q s : List UInt8} {i : Nat} (hi : i ≤ s.length) (h : ¬ i + q.length ≤ s.length) : pre q s i = false := by
  rw [Bool.eq_false_iff]
  exact fun e => h (pre_len e hi)
def TakeS (R : Nat) (s : ByteArray) (q : List UInt8) (i : Nat) (w : World) (e : Ending) (w' : World) : Prop :=
  e = .returned (.bool (pre q s.data.toList i)) ∧ Rd w' R s (if pre q s.data.toList i then i + q.length else i) false ∧ w.grownBy w' (some R)
set_option maxRecDepth 100000 in
set_option maxHeartbeats 1000000 in
theorem takeS_bad (R : Nat) (s : ByteArray) (q : List UInt8) (i : Nat) (w : World) (hr : Rd w R s i true) :
    Calls Tryz.prog 207 #[.pointer (some ⟨R, 0, none⟩), .string (bx q)] w fun e w' => e = .returned (.bool false) ∧ Rd w' R s i true ∧ w.grownBy w' (some R) := by
  obtain ⟨c0, c1, c2, z1, z2⟩ := hr.cells
  have HR := Lib.hid hr
  clear hr
  go_enter Tryz.func207, Tryz.ntmps207
  go_wp2_with fail
  go_quiet (fail)
  go_wp2_with fail
  go_ret
  exact ⟨rfl, HR.out.drew _, grownBy_drewN (grown_refl _ _) _⟩
set_option maxRecDepth 100000 in
set_option maxHeartbeats 1000000 in
theorem takeS_end (R : Nat) (s : ByteArray) (q : List UInt8) (i : Nat) (w : World) (hs : s.size ≤ 1073741824) (hq : q.length ≤ 1000) (hi : i ≤ s.size) (hlt : ¬ i + q.length ≤ s.size) (hr : Rd w R s i false) :
    Calls Tryz.prog 207 #[.pointer (some ⟨R, 0, none⟩), .string (bx q)] w (TakeS R s q i w) := by
  obtain ⟨c0, c1, c2, z1, z2⟩ := hr.cells
  have HR := Lib.hid hr
  clear hr
  have hw : IntKind.i64.wrap ((i : Int) + (q.length : Int)) = (i : Int) + (q.length : Int) := IntWalk.i64_in _ (by omega)
  have h1 : decide ((s.size : Int) < (i : Int) + (q.length : Int)) = true := decide_eq_true (by omega)
  have HP := Lib.hid (pre_out (q := q) (s := s.data.toList) (i := i) (by simpa using hi) (by simpa using hlt))
  go_enter Tryz.func207, Tryz.ntmps207
  go_wp2_with fail
  go_quiet (fail)
  go_wp2_with fail
  go_ret
  exact ⟨by rw [HP.out]; rfl, by rw [HP.out]; exact HR.out.drew _, grownBy_drewN (grown_refl _ _) _⟩
set_option maxRecDepth 100000 in
set_option maxHeartbeats 1000000 in
theorem takeS_at (R : Nat) (s : ByteArray) (q : List UInt8) (i : Nat) (w : World) (hs : s.size ≤ 1073741824) (hlt : i + q.length ≤ s.size) (hr : Rd w R s i false) :
    Calls Tryz.prog 207 #[.pointer (some ⟨R, 0, none⟩), .string (bx q)] w (TakeS R s q i w) := by
  obtain ⟨c0, c1, c2, z1, z2⟩ := hr.cells
  have HR := Lib.hid hr
  clear hr
  have h0 : (0 : Int) ≤ (i : Int) := by omega
  have hw : IntKind.i64.wrap ((i : Int) + (q.length : Int)) = (i : Int) + (q.length : Int) := IntWalk.i64_in _ (by omega)
  have h1 : decide ((s.size : Int) < (i : Int) + (q.length : Int)) = false := decide_eq_false (by omega)
  have h2 : (i : Int) + (q.length : Int) ≤ (s.size : Int) := by omega
  have h3 : (i : Int) ≤ (i : Int) + (q.length : Int) := by omega
  have HX := Lib.hid (pre_ext hlt)
  obtain ⟨b, hb⟩ : ∃ b, ((s.extract i (i + q.length)).toList == q) = b := ⟨_, rfl⟩
  rw [hb] at HX
  have hn : ((i : Int) + (q.length : Int)).toNat = i + q.length := by omega
  cases b
  · go_enter Tryz.func207, Tryz.ntmps207
    go_wp2_with fail
    go_quiet (fail)
    go_wp2_with fail
    go_ret
    exact ⟨by rw [HX.out]; rfl, by rw [HX.out]; exact HR.out.drew _, grownBy_drewN (grown_refl _ _) _⟩
  · go_enter Tryz.func207, Tryz.ntmps207
    go_wp2_with fail
    go_quiet (fail)
    go_wp2_with fail
    go_ret
    refine ⟨by rw [HX.out]; rfl, ?_⟩
    rw [HX.out]
    rw [show ((i : Int) + (q.length : Int)) = ((i + q.length : Nat) : Int) by omega]
    exact ⟨((HR.out.drew _).at (i + q.length)).1, grownBy_trans (grownBy_drewN (grown_refl _ _) _) ((HR.out.drew _).at (i + q.length)).2⟩
def takes (q s : List UInt8) : Option Nat → Bool
  | some i => pre q s i
  | none => false
def takeO (q s : List UInt8) : Option Nat → Option Nat
  | some i => some (if pre q s i then i + q.length else i)
  | none => none
def mustO (q s : List UInt8) : Option Nat → Option Nat
  | some i => if pre q s i then some (i + q.length) else none
  | none => none
theorem takeO_any (q : List UInt8) (hq : q.length ≤ 1000) {R : Nat} {s : ByteArray} {o : Option Nat} {w : World} (hs : s.size ≤ 1073741824) (hr : RdO w R s o) :
    Calls Tryz.prog 207 #[.pointer (some ⟨R, 0, none⟩), .string (bx q)] w fun e w' => e = .returned (.bool (takes q s.data.toList o)) ∧ RdO w' R s (takeO q s.data.toList o) ∧ w.grownBy w' (some R) := by
  cases o with
  | none =>
    obtain ⟨i, hi, hr⟩ := hr
    refine (takeS_bad R s q i w hr).mono ?_
    rintro e w' ⟨rfl, h1, h2⟩
    exact ⟨rfl, ⟨i, hi, h1⟩, h2⟩
  | some i =>
    obtain ⟨hi, hr⟩ := hr
    have hT : Calls Tryz.prog 207 #[.pointer (some ⟨R, 0, none⟩), .string (bx q)] w (TakeS R s q i w) := by
      by_cases h : i + q.length ≤ s.size
      · exact takeS_at R s q i w hs h hr
      · exact takeS_end R s q i w hs hq hi h hr
    refine hT.mono ?_
    rintro e w' ⟨rfl, h1, h2⟩
    refine ⟨rfl, ⟨?_, h1⟩, h2⟩
    split
    · rename_i hp
      have := pre_len hp (by simpa using hi)
      simpa using this
    · exact hi
theorem RdO.cells {w : World} {R : Nat} {s : ByteArray} {o : Option Nat} (h : RdO w R s o) : ∃ i, i ≤ s.size ∧ Rd w R s i o.isNone := by
  cases o with
  | none => exact h
  | some i => exact ⟨i, h⟩
set_option maxRecDepth 100000 in
set_option maxHeartbeats 1000000 in
theorem mustO_any (q : List UInt8) (hq : q.length ≤ 1000) {R : Nat} {s : ByteArray} {o : Option Nat} {w : World} (hs : s.size ≤ 1073741824) (hr : RdO w R s o) :
    Calls Tryz.prog 208 #[.pointer (some ⟨R, 0, none⟩), .string (bx q)] w fun e w' => e = .returned (.tuple #[]) ∧ RdO w' R s (mustO q s.data.toList o) ∧ w.grownBy w' (some R) := by
  cases o with
  | none =>
    obtain ⟨i, hi, hr⟩ := hr
    obtain ⟨c0, c1, c2, z1, z2⟩ := hr.cells
    have HR := Lib.hid hr
    clear hr
    go_enter Tryz.func208, Tryz.ntmps208
    go_wp2_with fail
    go_end0
    exact ⟨rfl, ⟨i, hi, (HR.out.set true).1⟩, (HR.out.set true).2⟩
  | some i =>
    obtain ⟨hi, hr⟩ := hr
    obtain ⟨c0, c1, c2, z1, z2⟩ := hr.cells
    have hc := takeO_any q hq hs (o := some i) ⟨hi, hr⟩
    clear hr
    simp only [takes, takeO] at hc
    have HLE := Lib.hid hi
    obtain ⟨b, hb⟩ : ∃ b, pre q s.data.toList i = b := ⟨_, rfl⟩
    rw [hb] at hc
    have HC := Lib.hid hc
    clear hc
    have HB := Lib.hid hb
    clear hi hb
    go_enter Tryz.func208, Tryz.ntmps208
    go_wp2_with fail
    refine HC.out.mono ?_
    rintro e w1 ⟨rfl, ⟨hi1, hr1⟩, hg1⟩
    clear c0 c1 c2 z1 z2
    obtain ⟨c0, c1, c2, z1, z2⟩ := hr1.cells
    have HR := Lib.hid hr1
    have HG := Lib.hid hg1
    have HI := Lib.hid hi1
    clear hr1 hg1 hi1
    cases b
    · go_wp2_with fail
      go_end0
      refine ⟨rfl, ?_, grownBy_trans HG.out (HR.out.set true).2⟩
      rw [show mustO q s.data.toList (some i) = none by simp [mustO, HB.out]]
      exact ⟨i, HLE.out, (HR.out.set true).1⟩
    · go_wp2_with fail
      go_end0
      refine ⟨rfl, ?_, grownBy_trans HG.out (HR.out.set false).2⟩
      rw [show mustO q s.data.toList (some i) = some (i + q.length) by simp [mustO, HB.out]]
      exact ⟨HI.out, (HR.out.set false).1⟩
end Go.Proofs.YtfeijijeohfpgaaGreatDoor
namespace Go.Proofs.YtfeijijeohfpgaaGreatDoor
open Go Go.RowKit

theorem word_in {s : List UInt8} {i j : Nat} (h0 : i ≤ j) (h1 : j < i + (word s i).length) : ∃ c, s[j]? = some c ∧ isW c = true := by
  unfold word at h1
  have h2 : j - i < ((s.drop i).takeWhile isW).length := by omega
  have h3 : ((s.drop i).takeWhile isW)[j - i]? = some (((s.drop i).takeWhile isW)[j - i]) := List.getElem?_eq_getElem h2
  refine ⟨((s.drop i).takeWhile isW)[j - i], ?_, ?_⟩
  · have h4 := List.takeWhile_prefix isW (l := s.drop i)
    obtain ⟨r, hr⟩ := h4
    have h5 : (s.drop i)[j - i]? = some (((s.drop i).takeWhile isW)[j - i]) := by
      conv => lhs; rw [← hr]
      rw [List.getElem?_append_left h2, h3]
    rw [List.getElem?_drop] at h5
    rwa [show i + (j - i) = j by omega] at h5
  · exact List.all_eq_true.1 (List.all_takeWhile (p := isW) (l := s.drop i)) _ (List.getElem_mem h2)
theorem word_end {s : List UInt8} {i : Nat} {c : UInt8} (h : s[i + (word s i).length]? = some c) : isW c = false := by
  have h2 : (s.drop i).takeWhile isW ++ (s.drop i).dropWhile isW = s.drop i := List.takeWhile_append_dropWhile
  have h3 : (s.drop i)[((s.drop i).takeWhile isW).length]? = some c := by rw [List.getElem?_drop]; exact h
  rw [← h2] at h3
  rw [List.getElem?_append_right (by simp)] at h3
  rw [h2, Nat.sub_self] at h3
  have h4 := List.head?_dropWhile_not isW (s.drop i)
  rw [show ((s.drop i).dropWhile isW).head? = some c by rw [← h3]; cases ((s.drop i).dropWhile isW) <;> rfl] at h4
  exact h4
theorem isW_cases {c : UInt8} (h : isW c = true) : (48 ≤ c.toNat ∧ c.toNat ≤ 57) ∨ (97 ≤ c.toNat ∧ c.toNat ≤ 122) := by
  simpa [isW] using h
theorem isW_not {c : UInt8} (h : isW c = false) : c.toNat < 48 ∨ (57 < c.toNat ∧ c.toNat < 97) ∨ 122 < c.toNat := by
  have : ¬ ((48 ≤ c.toNat ∧ c.toNat ≤ 57) ∨ (97 ≤ c.toNat ∧ c.toNat ≤ 122)) := fun h2 => by
    have : isW c = true := by simpa [isW] using h2
    rw [h] at this; cases this
  omega
theorem word_le {s : List UInt8} {i : Nat} (hi : i ≤ s.length) : i + (word s i).length ≤ s.length := by
  have h := (List.takeWhile_prefix isW (l := s.drop i)).length_le
  rw [List.length_drop] at h
  unfold word
  omega
def atOf (W : World) (R : Nat) : Nat := match W.cell? ⟨R, 1, none⟩ with
  | some (.int _ n) => n.toNat
  | _ => 0
theorem Rd.atOf {W : World} {R : Nat} {s : ByteArray} {j : Nat} {bad : Bool} (h : Rd W R s j bad) : atOf W R = j := by
  unfold Go.Proofs.YtfeijijeohfpgaaGreatDoor.atOf
  rw [h.cells.2.1]
  simp
set_option maxRecDepth 100000 in
set_option maxHeartbeats 1000000 in
theorem wordS_any (R : Nat) (s : ByteArray) (i : Nat) (bad : Bool) (w : World) (hs : s.size ≤ 1073741824) (hi : i ≤ s.size) (hr : Rd w R s i bad) :
    Calls Tryz.prog 211 #[.pointer (some ⟨R, 0, none⟩)] w fun e w' => e = .returned (.string (bx (word s.data.toList i))) ∧ Rd w' R s (i + (word s.data.toList i).length) bad ∧ w.grownBy w' (some R) := by
  obtain ⟨c0, c1, c2, z1, z2⟩ := hr.cells
  have HR := Lib.hid hr
  have HLE := Lib.hid hi
  have HWL := Lib.hid (word_le (s := s.data.toList) (i := i) (by simpa using hi))
  clear hr hi
  go_enter Tryz.func211, Tryz.ntmps211
  go_wp2_with fail
  go_loopw [] (fun wr => ∃ j, i ≤ j ∧ j ≤ i + (word s.data.toList i).length ∧ Rd wr R s j bad ∧ w.grownBy wr (some R)) (fun wr => s.size - atOf wr R)
  case atStart => exact ⟨i, Nat.le_refl _, Nat.le_add_right _ _, HR.out, grown_refl _ _⟩
  case round =>
    obtain ⟨j, hij, hjl, hrj, hgj⟩ := hrel
    clear c0 c1 c2 z1 z2
    obtain ⟨c0, c1, c2, z1, z2⟩ := hrj.cells
    have HRJ := Lib.hid hrj
    have HGJ := Lib.hid hgj
    have HJ := Lib.hid (And.intro hij hjl)
    clear hrj hgj
    by_cases hlt : j < i + (word s.data.toList i).length
    · obtain ⟨c, hc, hw⟩ := word_in hij hlt
      have hjs : j < s.size := by have := HWL.out; simp at this; omega
      have hsj : s[j] = c := by
        have := at_byte hjs
        rw [hc] at this
        simpa using this.symm
      have hbc := isW_cases hw
      rw [← hsj] at hbc
      have j0 : (0 : Int) ≤ (j : Int) := by omega
      have j1 : (j : Int) < (s.size : Int) := by omega
      have j2 : (j : Int) + 1 ≤ 9223372036854775807 := by omega
      have hd1 : decide ((j : Int) < (s.size : Int)) = true := decide_eq_true j1
      clear hc hw hsj
      rcases hbc with ⟨b1, b2⟩ | ⟨b1, b2⟩
      · have p48 : decide ((48 : Int) ≤ (s[j].toNat : Int)) = true := by simp; omega
        have p57 : decide ((s[j].toNat : Int) ≤ 57) = true := by simp; omega
        go_wp2_with fail
        go_quiet (fail)
        go_wp2_with fail
        go_roundw
        case rel =>
          rw [show ((j : Int) + 1) = ((j + 1 : Nat) : Int) by omega]
          exact ⟨j + 1, by have := HJ.out.1; omega, by omega, ((HRJ.out.drew _).at (j + 1)).1, grownBy_trans (grownBy_drewN HGJ.out _) ((HRJ.out.drew _).at (j + 1)).2⟩
        case measure =>
          rw [show ((j : Int) + 1) = ((j + 1 : Nat) : Int) by omega, ((HRJ.out.drew _).at (j + 1)).1.atOf, HRJ.out.atOf]
          omega
      · have p48 : decide ((48 : Int) ≤ (s[j].toNat : Int)) = true := by simp; omega
        have p57 : decide ((s[j].toNat : Int) ≤ 57) = false := by simp; omega
        have p97 : decide ((97 : Int) ≤ (s[j].toNat : Int)) = true := by simp; omega
        have p122 : decide ((s[j].toNat : Int) ≤ 122) = true := by simp; omega
        go_wp2_with fail
        go_quiet (fail)
        go_wp2_with fail
        go_roundw
        case rel =>
          rw [show ((j : Int) + 1) = ((j + 1 : Nat) : Int) by omega]
          exact ⟨j + 1, by have := HJ.out.1; omega, by omega, ((HRJ.out.drew _).at (j + 1)).1, grownBy_trans (grownBy_drewN HGJ.out _) ((HRJ.out.drew _).at (j + 1)).2⟩
        case measure =>
          rw [show ((j : Int) + 1) = ((j + 1 : Nat) : Int) by omega, ((HRJ.out.drew _).at (j + 1)).1.atOf, HRJ.out.atOf]
          omega
    · obtain rfl : j = i + (word s.data.toList i).length := by omega
      obtain ⟨j, hj⟩ : ∃ j, i + (word s.data.toList i).length = j := ⟨_, rfl⟩
      rw [hj] at HRJ c1
      have hex : s.extract i j = bx (word s.data.toList i) := by
        rw [← hj]
        apply ByteArray.ext
        rw [ByteArray.data_extract]
        apply Array.ext'
        rw [Array.toList_extract, List.extract_eq_take_drop]
        rw [show i + (word s.data.toList i).length - i = (word s.data.toList i).length by omega]
        have h4 := List.takeWhile_prefix isW (l := s.data.toList.drop i)
        show _ = word s.data.toList i
        exact (List.prefix_iff_eq_take.1 h4).symm
      have HEX := Lib.hid hex
      have HJE := Lib.hid hj
      rw [hj]
      have hjw : j ≤ s.size := by have := HWL.out; rw [hj] at this; simpa using this
      have hij' : i ≤ j := by omega
      have j0 : (0 : Int) ≤ (j : Int) := by omega
      have k0 : (0 : Int) ≤ (i : Int) := by omega
      have k1 : (i : Int) ≤ (j : Int) := by omega
      have k2 : (j : Int) ≤ (s.size : Int) := by omega
      by_cases hlj : j < s.size
      · have hbc := isW_not (word_end (s := s.data.toList) (i := i) (c := s[j]) (by rw [hj]; exact at_byte hlj))
        have j1 : (j : Int) < (s.size : Int) := by omega
        have hd1 : decide ((j : Int) < (s.size : Int)) = true := decide_eq_true j1
        clear hex hj hij hjl hlt
        rcases hbc with b1 | ⟨b1, b2⟩ | b1
        · have p48 : decide ((48 : Int) ≤ (s[j].toNat : Int)) = false := by simp; omega
          have p97 : decide ((97 : Int) ≤ (s[j].toNat : Int)) = false := by simp; omega
          go_wp2_with fail
          go_quiet (fail)
          go_wp2_with fail
          go_quiet (fail)
          go_wp2_with fail
          go_ret
          refine ⟨by rw [HEX.out]; rfl, ?_, grownBy_drewN (grownBy_drewN HGJ.out _) _⟩
          exact HJE.out.symm ▸ (HRJ.out.drew _).drew _
        · have p48 : decide ((48 : Int) ≤ (s[j].toNat : Int)) = true := by simp; omega
          have p57 : decide ((s[j].toNat : Int) ≤ 57) = false := by simp; omega
          have p97 : decide ((97 : Int) ≤ (s[j].toNat : Int)) = false := by simp; omega
          go_wp2_with fail
          go_quiet (fail)
          go_wp2_with fail
          go_quiet (fail)
          go_wp2_with fail
          go_ret
          refine ⟨by rw [HEX.out]; rfl, ?_, grownBy_drewN (grownBy_drewN HGJ.out _) _⟩
          exact HJE.out.symm ▸ (HRJ.out.drew _).drew _
        · have p48 : decide ((48 : Int) ≤ (s[j].toNat : Int)) = true := by simp; omega
          have p57 : decide ((s[j].toNat : Int) ≤ 57) = false := by simp; omega
          have p97 : decide ((97 : Int) ≤ (s[j].toNat : Int)) = true := by simp; omega
          have p122 : decide ((s[j].toNat : Int) ≤ 122) = false := by simp; omega
          go_wp2_with fail
          go_quiet (fail)
          go_wp2_with fail
          go_quiet (fail)
          go_wp2_with fail
          go_ret
          refine ⟨by rw [HEX.out]; rfl, ?_, grownBy_drewN (grownBy_drewN HGJ.out _) _⟩
          exact HJE.out.symm ▸ (HRJ.out.drew _).drew _
      · have hd1 : decide ((j : Int) < (s.size : Int)) = false := by simp; omega
        clear hex hj hij hjl hlt
        go_wp2_with fail
        go_quiet (fail)
        go_wp2_with fail
        go_quiet (fail)
        go_wp2_with fail
        go_ret
        refine ⟨by rw [HEX.out]; rfl, ?_, grownBy_drewN (grownBy_drewN HGJ.out _) _⟩
        exact HJE.out.symm ▸ (HRJ.out.drew _).drew _
def wordO (s : List UInt8) : Option Nat → Option Nat
  | some i => some (i + (word s i).length)
  | none => none
theorem wordO_any {R : Nat} {s : ByteArray} {o : Option Nat} {w : World} (hs : s.size ≤ 1073741824) (hr : RdO w R s o) :
    Calls Tryz.prog 211 #[.pointer (some ⟨R, 0, none⟩)] w fun e w' => ∃ a : List UInt8, e = .returned (.string (bx a)) ∧ a.length ≤ s.size ∧ (∀ i, o = some i → a = word s.data.toList i) ∧ RdO w' R s (wordO s.data.toList o) ∧ w.grownBy w' (some R) := by
  obtain ⟨i, hi, h⟩ := hr.cells
  refine (wordS_any R s i _ w hs hi h).mono ?_
  rintro e w' ⟨rfl, h1, h2⟩
  have hl := word_le (s := s.data.toList) (i := i) (by simpa using hi)
  have hl2 : i + (word s.data.toList i).length ≤ s.size := by simpa using hl
  cases o with
  | none => exact ⟨_, rfl, by omega, (fun j hj => by cases hj), ⟨_, hl2, h1⟩, h2⟩
  | some k =>
    have hk : i = k := by
      have := hr.2.cells.2.1
      rw [h.cells.2.1] at this
      have := Option.some.inj this
      injection this with _ h3
      omega
    subst hk
    exact ⟨_, rfl, by omega, (fun j hj => by cases hj; rfl), ⟨hl2, h1⟩, h2⟩
end Go.Proofs.YtfeijijeohfpgaaGreatDoor
namespace Go.Proofs.YtfeijijeohfpgaaGreatDoor
open Go Go.RowKit

end Go.Proofs.YtfeijijeohfpgaaGreatDoor
namespace Go.Proofs.YtfeijijeohfpgaaGreatDoor
open Go Go.RowKit

namespace Cl
variable {B i : Nat} {s : ByteArray} {W W' : World}
end Cl

end Go.Proofs.YtfeijijeohfpgaaGreatDoor
namespace Go.Proofs.YtfeijijeohfpgaaGreatDoor
open Go Go.RowKit

end Go.Proofs.YtfeijijeohfpgaaGreatDoor
namespace Go.Proofs.YtfeijijeohfpgaaGreatDoor
open Go Go.RowKit

section
variable {w W W' : World} {B i j k : Nat} {s : ByteArray}
end

end Go.Proofs.YtfeijijeohfpgaaGreatDoor
namespace Go.Proofs.YtfeijijeohfpgaaGreatDoor
open Go Go.RowKit Go.Shelf
attribute [local go_sem] Oper.semAt_some

theorem nstaysT {w w' : World} {C : Nat → Prop} {t : Ty} {v : Value} (h : NT w C t v) (hs : Stays C w w') : NT w' C t v := by
  obtain ⟨s, hv, h⟩ := h
  exact ⟨s, hv, h.stays hs⟩
abbrev encNT (x : Ty × Value × Nat) : Array Value := #[x.2.1, .int .i64 (x.2.2 : Nat)]
abbrev keyNT (x : Ty × Value × Nat) : Ty × Nat := (x.1, x.2.2)
abbrev GoodNT (C : Nat → Prop) (x : Ty × Value × Nat) (W : World) : Prop := NT W C x.1 x.2.1
structure IterT (w : World) (t : Ty) (p : Option Addr) (c : Nat) (Bt Bp : Nat) : Prop where
  bt : w.heap[Bt]? = some (.cells #[.int .i64 t.kind, .slice p t.args.length c] 26 (0, 0))
  bp : w.heap[Bp]? = some (.cells #[.func (.func 124) #[] #[]] 141 (0, 0))
  node : TS' w (· < w.heap.size) t p c
abbrev iterT (Bt Bp : Nat) : Value := .func (.func 213) #[] #[.pointer (some ⟨Bt, 0, none⟩), .pointer (some ⟨Bp, 0, none⟩)]

theorem nodesT_seq {w wl : World} {t : Ty} {p : Option Addr} {c : Nat} {Bt Bp : Nat} (h : IterT w t p c Bt Bp) (hn : t.nodes ≤ 2097153) (hb : Below w.heap.size w wl) (Cb : Nat → Prop) (hCb : ∀ b, Cb b → w.heap.size ≤ b ∧ b < wl.heap.size) :
    SeqT Fence.wide 1 Tryz.prog 213 #[.pointer (some ⟨Bt, 0, none⟩), .pointer (some ⟨Bp, 0, none⟩)] encNT keyNT (GoodNT (· < w.heap.size)) Cb (walkT t 1) wl := by
  intro l J Jx W hbW hJ hY hJ0
  have hbt := (Array.getElem?_eq_some_iff.1 h.bt).1
  have hbp := (Array.getElem?_eq_some_iff.1 h.bp).1
  have hbb : Below w.heap.size w W := hb.trans (hbW.mono hb.size)
  exact nodesT_it l Bt Bp t p c Cb (· < w.heap.size) W J Jx ((hbb.block _ hbt).trans h.bt) ((hbb.block _ hbp).trans h.bp) (h.node.stays (.of_below hbb)) hn
    (fun b hc => Nat.lt_of_lt_of_le (hCb b hc).2 hbW.size) (fun b hc => ⟨fun h2 => by have := (hCb b h2).1; omega, Nat.lt_of_lt_of_le hc hbb.size⟩) hbp hJ (fun pre x v d W1 h1 h2 h3 => hY pre (x, v, d) W1 h1 h2 h3) hJ0
theorem nodesT_seq2 {w wl : World} {C : Nat → Prop} {t : Ty} {p : Option Addr} {c : Nat} {Bt Bp : Nat} (h : IterT w t p c Bt Bp) (hT : TS' w C t p c) (hn : t.nodes ≤ 2097153) (hb : Below w.heap.size w wl) (Cb : Nat → Prop) (hCb : ∀ b, Cb b → b < wl.heap.size) (hC : ∀ b, C b → ¬ Cb b ∧ b < w.heap.size) (hp : C Bp) :
    SeqT Fence.wide 1 Tryz.prog 213 #[.pointer (some ⟨Bt, 0, none⟩), .pointer (some ⟨Bp, 0, none⟩)] encNT keyNT (GoodNT C) Cb (walkT t 1) wl := by
  intro l J Jx W hbW hJ hY hJ0
  have hbt := (Array.getElem?_eq_some_iff.1 h.bt).1
  have hbp := (Array.getElem?_eq_some_iff.1 h.bp).1
  have hbb : Below w.heap.size w W := hb.trans (hbW.mono hb.size)
  exact nodesT_it l Bt Bp t p c Cb C W J Jx ((hbb.block _ hbt).trans h.bt) ((hbb.block _ hbp).trans h.bp) (hT.stays (.of_below hbb)) hn
    (fun b hc => Nat.lt_of_lt_of_le (hCb b hc) hbW.size) (fun b hc => ⟨(hC b hc).1, Nat.lt_of_lt_of_le (hC b hc).2 hbb.size⟩) hp hJ (fun pre x v d W1 h1 h2 h3 => hY pre (x, v, d) W1 h1 h2 h3) hJ0

theorem goodT_keep {C : Nat → Prop} {n : Nat} (hC : ∀ b, C b → b < n) (x : Ty × Value × Nat) (A B : World) (h : GoodNT C x A) (hb : Below n A B) : GoodNT C x B :=
  nstaysT h ⟨hb.size, fun b hc _ => hb.block b (hC b hc)⟩

def MakesIterT (t : Ty) (p : Option Addr) (c : Nat) (w : World) (e : Ending) (w' : World) : Prop := ∃ Bt Bp, e = .returned (iterT Bt Bp) ∧ IterT w' t p c Bt Bp ∧ Below w.heap.size w w' ∧ w.heap.size ≤ Bt ∧ w.heap.size ≤ Bp
set_option maxRecDepth 100000 in
theorem tnT_any {C : Nat → Prop} {t : Ty} {p : Option Addr} {c : Nat} {w : World} (h : TS' w C t p c) : Calls Tryz.prog 160 #[.agg #[.int .i64 t.kind, .slice p t.args.length c]] w (MakesIterT t p c w) := by
  have HT := Lib.hid (h.mono (C' := (· < w.heap.size)) (fun _ _ hl => hl))
  clear h
  go_enter Tryz.func160, Tryz.ntmps160
  go_wp2
  obtain ⟨wl, hwl, hsz, hbl, _, k1, k2⟩ := box_new3 w #[.int .i64 t.kind, .slice p t.args.length c] #[.int .i64 t.kind, .slice p t.args.length c] #[.func (.func 124) #[] #[]] 26 26 141
  rw [hwl]
  go_ret
  exact ⟨_, _, rfl, ⟨k1, k2, (HT.out.stays (.of_below hbl)).mono (fun z hz _ => by omega)⟩, hbl, by omega, by omega⟩

theorem walkT_pre {pre : List (Ty × Nat)} {t : Ty} (h : pre <+: walkT t 1) (hn : t.nodes ≤ 2097153) : pre.length ≤ 2097153 := by
  have h1 := h.length_le
  rw [walkT_length] at h1
  omega
def maxdT : List (Ty × Nat) → Nat
  | [] => 0
  | e :: l => max e.2 (maxdT l)
theorem maxdT_append (a b : List (Ty × Nat)) : maxdT (a ++ b) = max (maxdT a) (maxdT b) := by
  induction a with
  | nil => simp [maxdT]
  | cons e a ih => simp only [List.cons_append, maxdT, ih]; omega
theorem maxdT_snoc (a : List (Ty × Nat)) (e : Ty × Nat) : maxdT (a ++ [e]) = max (maxdT a) e.2 := by rw [maxdT_append]; simp [maxdT]
theorem maxdT_prefix {a b : List (Ty × Nat)} (h : a <+: b) : maxdT a ≤ maxdT b := by
  obtain ⟨c, rfl⟩ := h
  rw [maxdT_append]
  omega
theorem maxdT_le {l : List (Ty × Nat)} {n : Nat} : maxdT l ≤ n ↔ ∀ e ∈ l, e.2 ≤ n := by
  induction l with
  | nil => simp [maxdT]
  | cons e l ih =>
    rw [List.forall_mem_cons, ← ih]
    simp only [maxdT]
    omega
mutual
theorem maxdT_walk : ∀ (t : Ty) (d : Nat), maxdT (walkT t d) + 1 = d + t.depth
  | .mk k ts, d => by
    have h := maxdT_walkS ts d
    simp only [walkT, maxdT, Ty.depth]
    omega
theorem maxdT_walkS : ∀ (ts : List Ty) (d : Nat), max d (maxdT (walkST ts (d + 1))) = d + depthS ts
  | [], d => by simp [walkST, maxdT, depthS]
  | t :: ts, d => by
    have h1 := maxdT_walkS ts d
    have h2 := maxdT_walk t (d + 1)
    simp only [walkST, maxdT_append, depthS]
    omega
end

end Go.Proofs.YtfeijijeohfpgaaGreatDoor
namespace Go.Proofs.YtfeijijeohfpgaaGreatDoor
open Go Go.RowKit Go.Shelf
attribute [local go_sem] Oper.semAt_some
def SoFarT (ok : Ty → Bool) (ms md : Nat) (pre : List (Ty × Nat)) : Prop := (∀ e ∈ pre, ok e.1 = true ∧ e.2 ≤ md) ∧ pre.length ≤ ms
theorem soFarT_nil (ok : Ty → Bool) (ms md : Nat) : SoFarT ok ms md [] := ⟨by simp, by simp⟩
theorem SoFarT.next {ok : Ty → Bool} {ms md : Nat} {pre : List (Ty × Nat)} {x : Ty} {d : Nat} (h : SoFarT ok ms md pre) (h1 : ok x = true) (h2 : d ≤ md) (h3 : pre.length + 1 ≤ ms) : SoFarT ok ms md (pre ++ [(x, d)]) := by
  refine ⟨fun e he => ?_, by rw [List.length_append, List.length_singleton]; exact h3⟩
  rcases List.mem_append.1 he with he | he
  · exact h.1 e he
  · simp only [List.mem_singleton] at he; subst he; exact ⟨h1, h2⟩
theorem SoFarT.not {ok : Ty → Bool} {ms md : Nat} {t x : Ty} {d : Nat} {pre : List (Ty × Nat)} (h : pre ++ [(x, d)] <+: walkT t 1) (hb : ¬ (ok x = true ∧ d ≤ md ∧ pre.length + 1 ≤ ms)) : ¬ ((∀ e ∈ walkT t 1, ok e.1 = true ∧ e.2 ≤ md) ∧ t.nodes ≤ ms) := by
  rintro ⟨h1, h2⟩
  obtain ⟨h3, h4⟩ := h1 (x, d) (h.subset (by simp))
  have h5 := h.length_le
  rw [walkT_length, List.length_append, List.length_singleton] at h5
  exact hb ⟨h3, h4, by omega⟩

set_option maxRecDepth 100000 in
set_option maxHeartbeats 2000000 in
theorem withinT_any {t : Ty} {p : Option Addr} {c : Nat} {Bt Bp : Nat} {w : World} (h : IterT w t p c Bt Bp) (hn : t.nodes ≤ 2097153) (pf : FuncId) (ok : Ty → Bool) (ms md : Nat) (hpe : ∀ args w, (callFunc pf args).run Tryz.prog w = .ok (.enter pf args) w)
    (hp : ∀ (x : Ty) (v : Value) (d : Nat) (W : World), (x, d) ∈ walkT t 1 → NT W (· < w.heap.size) x v → Below w.heap.size w W → Calls Tryz.prog pf #[v] W (BoolRet (fun b => b = ok x) W)) :
    Calls Tryz.prog 159 #[iterT Bt Bp, .func (.func pf) #[] #[], .int .i64 (ms : Nat), .int .i64 (md : Nat)] w (BoolRet (fun r => r = true ↔ (∀ e ∈ walkT t 1, ok e.1 = true ∧ e.2 ≤ md) ∧ t.nodes ≤ ms) w) := by
  have HI := Lib.hid h
  have HPF := Lib.hid hp
  have HPE := Lib.hid hpe
  clear h hp hpe
  refine (callsIn_wide (n := 2)).1 ?_
  refine callsIn_of_wp_marks Tryz.func159 rfl trivial ?_ rfl
  simp only [Tryz.ntmps159, List.size_toArray, List.length_cons, List.length_nil, Nat.reduceAdd, Nat.reduceSub, Array.replicate_succ, Array.replicate_zero, List.push_toArray, List.append_toArray, List.nil_append, List.cons_append]
  gi_wp2_with fail
  obtain ⟨wl, hwl, hsz, hbl, k0, k1, k2, k3, k4⟩ := box_new5 w #[.func (.func pf) #[] #[]] #[.int .i64 (ms : Nat)] #[.int .i64 (md : Nat)] #[.bool false] #[.int .i64 0] 119 3 3 4 3
  rw [hwl]
  refine range_law (F := Fence.wide) (n := 2) rfl (by omega) (gf := 213) (lb := #[.pointer (some ⟨Bt, 0, none⟩), .pointer (some ⟨Bp, 0, none⟩)]) rfl trivial (enters_of Tryz.func213 (by kernel_rfl) rfl)
    (nodesT_seq HI.out hn hbl (fun b => b = w.heap.size + 3 ∨ b = w.heap.size + 4) (fun b h => by omega)) (fun _ => rfl) (fun b h => by omega)
    (fun pre W => W.heap[w.heap.size]? = some (.cells #[.func (.func pf) #[] #[]] 119 (0, 0)) ∧ W.heap[w.heap.size + 1]? = some (.cells #[.int .i64 (ms : Nat)] 3 (0, 0)) ∧ W.heap[w.heap.size + 1 + 1]? = some (.cells #[.int .i64 (md : Nat)] 3 (0, 0)) ∧
      W.heap[w.heap.size + 1 + 1 + 1]? = some (.cells #[.bool false] 4 (0, 0)) ∧ W.heap[w.heap.size + 1 + 1 + 1 + 1]? = some (.cells #[.int .i64 (pre.length : Nat)] 3 (0, 0)) ∧ SoFarT ok ms md pre ∧ Below w.heap.size w W)
    (fun j pre W => j = .ret ∧ W.cell? ⟨w.heap.size + 1 + 1 + 1, 0, none⟩ = some (.bool false) ∧ ¬ ((∀ e ∈ walkT t 1, ok e.1 = true ∧ e.2 ≤ md) ∧ t.nodes ≤ ms) ∧ Below w.heap.size w W)
    (fun pre A B h hb => ⟨(hb.block _ (by omega)).trans h.1, (hb.block _ (by omega)).trans h.2.1, (hb.block _ (by omega)).trans h.2.2.1, (hb.block _ (by omega)).trans h.2.2.2.1, (hb.block _ (by omega)).trans h.2.2.2.2.1, h.2.2.2.2.2.1, h.2.2.2.2.2.2.trans (hb.mono (by omega))⟩)
    (fun j pre A B h hb => ⟨h.1, (hb.cell (by show w.heap.size + 1 + 1 + 1 < _; omega)).trans h.2.1, h.2.2.1, h.2.2.2.trans (hb.mono (by omega))⟩)
    (goodT_keep (fun b h => by omega)) ⟨k0, k1, k2, k3, k4, soFarT_nil ok ms md, hbl⟩
    (fun x a' W => ∃ bx, W.heap[bx]? = some (.cells x.2.1.cells 26 (0, 0)) ∧ a' = { tmps := #[iterT Bt Bp, .func (.func pf) #[] #[], .int .i64 (ms : Nat), .int .i64 (md : Nat), undef, .pointer (some ⟨w.heap.size, 0, none⟩), .pointer (some ⟨w.heap.size + 1, 0, none⟩), .pointer (some ⟨w.heap.size + 1 + 1, 0, none⟩), .pointer (some ⟨w.heap.size + 1 + 1 + 1, 0, none⟩), .pointer (some ⟨w.heap.size + 1 + 1 + 1 + 1, 0, none⟩),
      .pointer (some ⟨bx, 0, none⟩), .int .i64 (x.2.2 : Nat), iterT Bt Bp, x.2.1, .int .i64 (x.2.2 : Nat), undef, undef, undef, undef, undef, undef, undef, undef, undef, undef, undef, undef, undef, undef, undef, undef], defers := [] })
    (fun x a' W l r o h hl => by
      obtain ⟨bx, h2, h3⟩ := h
      exact ⟨bx, (World.putObj_heap_other (fun e => by rw [e, hl] at h2; cases h2)).trans h2, h3⟩) ?assign ?body ?done ?stop
  case assign =>
    rintro l ⟨x, v, d⟩ W K hG hK
    have hG : TT W (· < w.heap.size) x v := hG
    obtain ⟨s', rfl, hG'⟩ := hG
    obtain ⟨p', c', rfl⟩ := hG'.form
    have HK := Lib.hid hK
    clear hK
    gi_wp2
    exact HK.out _ _ ((Below.refl _ _).alloc (Nat.le_refl _) _) ⟨W.heap.size, blk_new _ _, by simp⟩
  case body =>
    rintro l pre ⟨x, v, d⟩ a' W ⟨hf, hms', hmd', hr, hs, hso, hB⟩ hpre hG ⟨bx, hbx, rfl⟩
    have hpre : pre ++ [(x, d)] <+: walkT t 1 := hpre
    have hbx : W.heap[bx]? = some (.cells v.cells 26 (0, 0)) := hbx
    have hlen := walkT_pre hpre hn
    rw [List.length_append, List.length_singleton] at hlen
    have hd : d ≤ 2097153 := by
      have h1 := maxdT_prefix hpre
      have h2 := maxdT_walk t 1
      have h3 := t.depth_nodes
      rw [maxdT_snoc] at h1
      simp only at h1
      omega
    have hmem : (x, d) ∈ walkT t 1 := hpre.subset (by simp)
    have hG : TT W (· < w.heap.size) x v := hG
    obtain ⟨s', rfl, hG'⟩ := hG
    obtain ⟨p', c', rfl⟩ := hG'.form
    simp only [Value.cells] at hbx
    have s0 := cell_of_blk hs 0
    have sz := unfrozen_of_blk hs 0
    have f0 := cell_of_blk hf 0
    have x0 := cell_of_blk hbx 0
    have x1 := cell_of_blk hbx 1
    simp only [List.getElem?_toArray, List.getElem?_cons_zero, List.getElem?_cons_succ] at x0 x1
    simp only [List.getElem?_toArray, List.getElem?_cons_zero] at s0 f0
    let W1 := W.setCell ⟨w.heap.size + 1 + 1 + 1 + 1, 0, none⟩ (.int .i64 ((pre.length : Nat) + 1))
    have hne : bx ≠ w.heap.size + 1 + 1 + 1 + 1 := fun e => by rw [e, hs] at hbx; simp at hbx
    have hs1 : W1.heap[w.heap.size + 1 + 1 + 1 + 1]? = some (.cells #[.int .i64 ((pre.length : Nat) + 1)] 3 (0, 0)) := by
      rw [show W1 = W.setCell ⟨w.heap.size + 1 + 1 + 1 + 1, 0, none⟩ (.int .i64 ((pre.length : Nat) + 1)) from rfl, Go.Joins.block_setCell hs]; rfl
    have oth : ∀ b, b ≠ w.heap.size + 1 + 1 + 1 + 1 → W1.heap[b]? = W.heap[b]? := fun b hb => Below.heap_setCell _ _ _ _ hb
    have hH1 : Holds (fun b => b = w.heap.size + 3 ∨ b = w.heap.size + 4) W W1 := Holds.setCell (Holds.refl _ W) ⟨w.heap.size + 1 + 1 + 1 + 1, 0, none⟩ (Or.inr rfl) _
    have hB1 : Below w.heap.size w W1 := hB.setCell (p := ⟨w.heap.size + 1 + 1 + 1 + 1, 0, none⟩) (by show w.heap.size ≤ w.heap.size + 1 + 1 + 1 + 1; omega) _
    have hG1 : NT W1 (· < w.heap.size) x (.agg #[.int .i64 x.kind, .slice p' x.args.length c']) := nstaysT (ntT_mk hG') ⟨hH1.1, fun b hb _ => oth b (by omega)⟩
    have HC := Lib.hid (HPF.out x _ d W1 hmem hG1 hB1)
    have HF1 := Lib.hid ((oth _ (by omega)).trans hf)
    have HMS := Lib.hid ((oth _ (by omega)).trans hms')
    have HMD := Lib.hid ((oth _ (by omega)).trans hmd')
    have HR1 := Lib.hid ((oth _ (by omega)).trans hr)
    have HS1 := Lib.hid hs1
    have HH1 := Lib.hid hH1
    have HB1 := Lib.hid hB1
    have HSO := Lib.hid hso
    have HP := Lib.hid hpre
    have HMEM := Lib.hid hmem
    clear hs1 hH1 hB1 hso hpre hs hr hf hms' hmd' hbx hB k0 k1 k2 k3 k4 hG' hG1 hbl hwl oth hmem
    gi_wp2_with fail
    refine ⟨trivial, ?_⟩
    rw [HPE.out]
    refine ⟨(fun h => by cases h), ?_⟩
    refine (CallsIn.inRound l (callsIn_wide.2 HC.out)).mono ?_
    rintro e W2 ⟨b, hb, rfl, hb2⟩
    have l1 := (Array.getElem?_eq_some_iff.1 HS1.out).1
    have l2 := (Array.getElem?_eq_some_iff.1 HR1.out).1
    have l3 := (Array.getElem?_eq_some_iff.1 HMS.out).1
    have l4 := (Array.getElem?_eq_some_iff.1 HMD.out).1
    have l5 := (Array.getElem?_eq_some_iff.1 HF1.out).1
    have s2 := cell_of_blk ((hb2.block _ l1).trans HS1.out) 0
    have r2 := cell_of_blk ((hb2.block _ l2).trans HR1.out) 0
    have rz := unfrozen_of_blk ((hb2.block _ l2).trans HR1.out) 0
    have m2 := cell_of_blk ((hb2.block _ l3).trans HMS.out) 0
    have n2 := cell_of_blk ((hb2.block _ l4).trans HMD.out) 0
    simp only [List.getElem?_toArray, List.getElem?_cons_zero] at s2 r2 m2 n2
    have HF2 := Lib.hid ((hb2.block _ l5).trans HF1.out)
    have HMS2 := Lib.hid ((hb2.block _ l3).trans HMS.out)
    have HMD2 := Lib.hid ((hb2.block _ l4).trans HMD.out)
    have HS2 := Lib.hid ((hb2.block _ l1).trans HS1.out)
    have HR2 := Lib.hid ((hb2.block _ l2).trans HR1.out)
    have hH2 : Holds (fun b => b = w.heap.size + 3 ∨ b = w.heap.size + 4) W W2 := HH1.out.trans (.of_below hb2)
    have hB2 : Below w.heap.size w W2 := HB1.out.trans (hb2.mono HB1.out.size)
    have finR : ¬ (ok x = true ∧ d ≤ md ∧ pre.length + 1 ≤ ms) → Holds (fun b => b = w.heap.size + 3 ∨ b = w.heap.size + 4) W (W2.setCell ⟨w.heap.size + 1 + 1 + 1, 0, none⟩ (.bool false)) ∧
        ((W2.setCell ⟨w.heap.size + 1 + 1 + 1, 0, none⟩ (.bool false)).cell? ⟨w.heap.size + 1 + 1 + 1, 0, none⟩ = some (.bool false) ∧ ¬ ((∀ e ∈ walkT t 1, ok e.1 = true ∧ e.2 ≤ md) ∧ t.nodes ≤ ms) ∧ Below w.heap.size w (W2.setCell ⟨w.heap.size + 1 + 1 + 1, 0, none⟩ (.bool false))) := fun hv =>
      ⟨hH2.setCell ⟨w.heap.size + 1 + 1 + 1, 0, none⟩ (Or.inl rfl) _, World.cell?_setCell_same' _ _ _ (by rw [r2]; rfl), SoFarT.not HP.out hv, hB2.setCell (p := ⟨w.heap.size + 1 + 1 + 1, 0, none⟩) (by show w.heap.size ≤ w.heap.size + 1 + 1 + 1; omega) _⟩
    have finN : ok x = true → d ≤ md → pre.length + 1 ≤ ms → Holds (fun b => b = w.heap.size + 3 ∨ b = w.heap.size + 4) W W2 ∧
        (W2.heap[w.heap.size]? = some (.cells #[.func (.func pf) #[] #[]] 119 (0, 0)) ∧ W2.heap[w.heap.size + 1]? = some (.cells #[.int .i64 (ms : Nat)] 3 (0, 0)) ∧ W2.heap[w.heap.size + 1 + 1]? = some (.cells #[.int .i64 (md : Nat)] 3 (0, 0)) ∧
        W2.heap[w.heap.size + 1 + 1 + 1]? = some (.cells #[.bool false] 4 (0, 0)) ∧ W2.heap[w.heap.size + 1 + 1 + 1 + 1]? = some (.cells #[.int .i64 ((pre ++ [(x, d)]).length : Nat)] 3 (0, 0)) ∧ SoFarT ok ms md (pre ++ [(x, d)]) ∧ Below w.heap.size w W2) := fun h1 h2 h3 =>
      ⟨hH2, HF2.out, HMS2.out, HMD2.out, HR2.out, by rw [HS2.out, List.length_append, List.length_singleton]; rfl, HSO.out.next h1 h2 h3, hB2⟩
    have FR := Lib.hid finR
    have FN := Lib.hid finN
    have HBB := Lib.hid hb
    clear finR finN hH2 hB2 hb2 hb s0 sz f0 x0 x1 l1 l2 l3 l4 l5
    have d0 : (0 : Int) ≤ (d : Int) := Int.natCast_nonneg _
    cases b with
    | true =>
      by_cases h30 : (ms : Int) < (pre.length : Int) + 1
      · gi_wp2_with fail
        exact (fun h => ⟨h.1, rfl, h.2⟩) (FR.out (fun h => by omega))
      · by_cases h8 : (md : Int) < (d : Int)
        · gi_wp2_with fail
          exact (fun h => ⟨h.1, rfl, h.2⟩) (FR.out (fun h => by omega))
        · gi_wp2_with fail
          exact FN.out HBB.out.symm (by omega) (by omega)
    | false =>
      gi_wp2_with fail
      exact (fun h => ⟨h.1, rfl, h.2⟩) (FR.out (fun h => by have := HBB.out; rw [h.1] at this; exact absurd this (by decide)))
  case done =>
    rintro D W hD ⟨_, _, _, hr, _, hso, hB⟩ hK
    have r0 := cell_of_blk hr 0
    have rz := unfrozen_of_blk hr 0
    simp only [List.getElem?_toArray, List.getElem?_cons_zero] at r0
    have HV := Lib.hid (show (∀ e ∈ walkT t 1, ok e.1 = true ∧ e.2 ≤ md) ∧ t.nodes ≤ ms from ⟨hso.1, by have := hso.2; rwa [walkT_length] at this⟩)
    have HB := Lib.hid hB
    have HK := Lib.hid hK
    have hK' : (W.setCell ⟨w.heap.size + 1 + 1 + 1, 0, none⟩ (.bool true)).heap[D]? = some (.deferred (some [])) := (Below.heap_setCell _ _ _ _ (by show D ≠ w.heap.size + 1 + 1 + 1; omega)).trans hK
    clear hso hB hr hK k0 k1 k2 k3 k4 hbl hwl
    gi_wp2_with fail
    refine ⟨by simp, .inl ⟨_, _, rfl, run_takeDeferred hK', ?_⟩⟩
    have hc := (World.cell?_of_block (a := ⟨w.heap.size + 1 + 1 + 1, 0, none⟩) (w' := (W.setCell ⟨w.heap.size + 1 + 1 + 1, 0, none⟩ (.bool true)).putObj D (.deferred none)) (World.putObj_heap_other (by show w.heap.size + 1 + 1 + 1 ≠ D; omega))).trans (World.cell?_setCell_same' W ⟨w.heap.size + 1 + 1 + 1, 0, none⟩ (.bool true) (by rw [r0]; rfl))
    refine ⟨.bool true, ?_, _, ⟨fun _ => HV.out, fun _ => rfl⟩, rfl, (HB.out.setCell (p := ⟨w.heap.size + 1 + 1 + 1, 0, none⟩) (by show w.heap.size ≤ w.heap.size + 1 + 1 + 1; omega) _).trans (below_putObj _ _ _ _ (by omega))⟩
    rw [results_cell1 rfl]
    go_simp
  case stop =>
    rintro D c pre W hD hpre ⟨rfl, hr, hv, hB⟩ hK
    have HB := Lib.hid hB
    have HV := Lib.hid hv
    clear hv hB k0 k1 k2 k3 k4 hbl hwl
    gi_wp2_with fail
    refine ⟨by simp, .inl ⟨_, _, rfl, run_takeDeferred hK, ?_⟩⟩
    have hc := (World.cell?_of_block (a := ⟨w.heap.size + 1 + 1 + 1, 0, none⟩) (w' := W.putObj D (.deferred none)) (World.putObj_heap_other (by show w.heap.size + 1 + 1 + 1 ≠ D; omega))).trans hr
    refine ⟨.bool false, ?_, _, ⟨fun h => by simp at h, fun h => absurd h HV.out⟩, rfl, HB.out.trans (below_putObj _ _ _ _ (by omega))⟩
    rw [results_cell1 rfl]
    go_simp
end Go.Proofs.YtfeijijeohfpgaaGreatDoor
namespace Go.Proofs.YtfeijijeohfpgaaGreatDoor
open Go Go.RowKit Go.Shelf
attribute [local go_sem] Oper.semAt_some
def okK (x : Ty) : Bool := if x.kind = 1 ∨ x.kind = 2 then x.args.length == 0 else if x.kind = 3 then x.args.length == 2 else x.kind == 4 && x.args.length == 1
theorem form_at (t : Ty) : t.form = (formS t.args && okK t) := by cases t; rw [Ty.form]; rfl
mutual
theorem form_walk : ∀ (t : Ty) (d : Nat), t.form = true ↔ ∀ e ∈ walkT t d, okK e.1 = true
  | .mk k ts, d => by
    have h := form_walkST ts (d + 1)
    rw [form_at, Bool.and_eq_true]
    simp only [Ty.args_mk, walkT, List.forall_mem_cons, h]
    exact And.comm
theorem form_walkST : ∀ (ts : List Ty) (d : Nat), formS ts = true ↔ ∀ e ∈ walkST ts d, okK e.1 = true
  | [], d => by simp [formS, walkST]
  | t :: ts, d => by
    have h1 := form_walkST ts d
    have h2 := form_walk t d
    simp only [formS, walkST, Bool.and_eq_true, List.forall_mem_append, h1, h2]
end
theorem valid_walk (t : Ty) : t.valid = true ↔ (∀ e ∈ walkT t 1, okK e.1 = true ∧ e.2 ≤ 8) ∧ t.nodes ≤ 30 := by
  have h1 := form_walk t 1
  have h2 : t.depth ≤ 8 ↔ ∀ e ∈ walkT t 1, e.2 ≤ 8 := by
    rw [← maxdT_le]
    have := maxdT_walk t 1
    omega
  simp only [Ty.valid, Bool.and_eq_true, decide_eq_true_eq]
  rw [h1, h2]
  constructor
  · rintro ⟨⟨a, b⟩, c⟩
    exact ⟨fun e he => ⟨c e he, b e he⟩, a⟩
  · rintro ⟨a, b⟩
    exact ⟨⟨b, fun e he => (a e he).2⟩, fun e he => (a e he).1⟩
theorem okK_kind (x : Ty) : okK x = true ↔ (x.kind = 1 ∧ x.args.length = 0) ∨ (x.kind = 2 ∧ x.args.length = 0) ∨ (x.kind = 3 ∧ x.args.length = 2) ∨ (x.kind = 4 ∧ x.args.length = 1) := by
  unfold okK
  by_cases h1 : x.kind = 1 ∨ x.kind = 2
  · rw [if_pos h1]; simp only [beq_iff_eq]; omega
  · rw [if_neg h1]
    by_cases h3 : x.kind = 3
    · rw [if_pos h3]; simp only [beq_iff_eq]; omega
    · rw [if_neg h3]; simp only [Bool.and_eq_true, beq_iff_eq]; omega

set_option maxRecDepth 100000 in
theorem proper_any {C : Nat → Prop} {x : Ty} {v : Value} {w : World} (h : TT w C x v) : Calls Tryz.prog 157 #[v] w (BoolRet (fun b => b = okK x) w) := by
  obtain ⟨s, rfl, hS⟩ := h
  obtain ⟨p, c, rfl⟩ := hS.form
  have HL := Lib.hid hS.len
  have HOK := Lib.hid (okK_kind x)
  clear hS
  go_enter Tryz.func157, Tryz.ntmps157
  go_wp2_with fail
  refine (kindOf_any x.kind p x.args.length c _ HL.out).mono ?_
  rintro e w1 ⟨rfl, hb⟩
  have HB := Lib.hid hb
  clear hb
  rcases kindV_cases x.kind x.args.length with ⟨hc, hk⟩ | ⟨hc, hk⟩ | ⟨hc, hk⟩ | ⟨hc, hk⟩ | ⟨hc, hk⟩
  · rw [hk]
    have HO1 := Lib.hid (HOK.out.2 (by omega))
    clear hc hk
    go_wp2_with fail
    go_ret
    exact ⟨_, HO1.out.symm, rfl, ((Below.refl w.heap.size w).alloc (Nat.le_refl _) _).trans (HB.out.mono (by simp))⟩
  · rw [hk]
    have HO1 := Lib.hid (HOK.out.2 (by omega))
    clear hc hk
    go_wp2_with fail
    go_ret
    exact ⟨_, HO1.out.symm, rfl, ((Below.refl w.heap.size w).alloc (Nat.le_refl _) _).trans (HB.out.mono (by simp))⟩
  · rw [hk]
    have HO1 := Lib.hid (HOK.out.2 (by omega))
    clear hc hk
    go_wp2_with fail
    go_ret
    exact ⟨_, HO1.out.symm, rfl, ((Below.refl w.heap.size w).alloc (Nat.le_refl _) _).trans (HB.out.mono (by simp))⟩
  · rw [hk]
    have HO1 := Lib.hid (HOK.out.2 (by omega))
    clear hc hk
    go_wp2_with fail
    go_ret
    exact ⟨_, HO1.out.symm, rfl, ((Below.refl w.heap.size w).alloc (Nat.le_refl _) _).trans (HB.out.mono (by simp))⟩
  · rw [hk]
    have HO1 := Lib.hid (show okK x = false by cases h : okK x with | false => rfl | true => have := HOK.out.1 h; omega)
    clear hc hk
    go_wp2_with fail
    go_ret
    exact ⟨_, HO1.out.symm, rfl, ((Below.refl w.heap.size w).alloc (Nat.le_refl _) _).trans (HB.out.mono (by simp))⟩

set_option maxRecDepth 100000 in
theorem validI_any {C : Nat → Prop} {t : Ty} {v : Value} {w : World} (h : TT w C t v) (hn : nodesS t.args ≤ 2097152) :
    Calls Tryz.prog 107 #[v] w (BoolRet (fun r => r = t.valid) w) := by
  have hn' : t.nodes ≤ 2097153 := by have := t.nodes_eq; omega
  obtain ⟨s, rfl, hS⟩ := h
  obtain ⟨p, c, rfl⟩ := hS.form
  have HT := Lib.hid (fun (A : Array Value) (T : TypeId) => tnT_any (hS.stays (.of_below ((Below.refl w.heap.size w).alloc (Nat.le_refl _) (.cells A T)))))
  clear hS
  go_enter Tryz.func107, Tryz.ntmps107
  go_wp2_with fail
  refine (HT.out _ _).mono ?_
  rintro e w1 ⟨Bt, Bp, rfl, hI, hb, -⟩
  have HI := Lib.hid hI
  have HB := Lib.hid hb
  clear hI hb
  go_wp2_with fail
  refine (withinT_any HI.out hn' 157 okK 30 8 (enters_of Tryz.func157 (by kernel_rfl) rfl) (fun x v d W _ hx _ => proper_any hx)).mono ?_
  rintro e w2 ⟨r, hr, rfl, hb2⟩
  have HR := Lib.hid (show r = t.valid by
    have h1 := valid_walk t
    rw [← hr] at h1
    cases r <;> cases hv : t.valid <;> simp_all)
  have HB2 := Lib.hid hb2
  clear hr hb2
  go_wp2_with fail
  go_ret
  exact ⟨_, HR.out, rfl, (((Below.refl w.heap.size w).alloc (Nat.le_refl _) _).trans (HB.out.mono (by simp))).trans (HB2.out.mono (by have := HB.out.size; simp at this; omega))⟩
mutual
theorem has_walk (q : Int) : ∀ (t : Ty) (d : Nat), t.has q = true ↔ ∃ e ∈ walkT t d, e.1.kind = q
  | .mk k ts, d => by
    have h := has_walkST q ts (d + 1)
    simp only [Ty.has, Bool.or_eq_true, h, walkT, beq_iff_eq, List.mem_cons]
    constructor
    · rintro (⟨e, he, hk⟩ | hk)
      · exact ⟨e, Or.inr he, hk⟩
      · exact ⟨_, Or.inl rfl, hk⟩
    · rintro ⟨e, rfl | he, hk⟩
      · exact Or.inr hk
      · exact Or.inl ⟨e, he, hk⟩
theorem has_walkST (q : Int) : ∀ (ts : List Ty) (d : Nat), hasS q ts = true ↔ ∃ e ∈ walkST ts d, e.1.kind = q
  | [], d => by simp [hasS, walkST]
  | t :: ts, d => by
    have h1 := has_walkST q ts d
    have h2 := has_walk q t d
    simp only [hasS, walkST, Bool.or_eq_true, List.mem_append, h1, h2]
    constructor
    · rintro (⟨e, he, hk⟩ | ⟨e, he, hk⟩)
      · exact ⟨e, Or.inl he, hk⟩
      · exact ⟨e, Or.inr he, hk⟩
    · rintro ⟨e, he | he, hk⟩
      · exact Or.inl ⟨e, he, hk⟩
      · exact Or.inr ⟨e, he, hk⟩
end
def NoCode (pre : List (Ty × Nat)) : Prop := ∀ e ∈ pre, e.1.code = false
theorem NoCode.next {pre : List (Ty × Nat)} {x : Ty} {d : Nat} (h : NoCode pre) (hx : x.code = false) : NoCode (pre ++ [(x, d)]) := by
  intro e he
  rcases List.mem_append.1 he with he | he
  · exact h e he
  · simp only [List.mem_singleton] at he; subst he; exact hx
theorem plain_of {t : Ty} (hv : t.valid = true) (h : NoCode (walkT t 1)) : t.plain = true := by
  rw [Ty.plain, hv, Bool.true_and, Bool.not_eq_true', Bool.eq_false_iff]
  intro hh
  obtain ⟨e, he, hk⟩ := (has_walk 4 t 1).1 hh
  have h1 := h e he
  have h2 := (okK_kind e.1).1 (((valid_walk t).1 hv).1 e he).1
  unfold Ty.code at h1
  rw [decide_eq_false_iff_not] at h1
  omega
theorem not_plain_at {t x : Ty} {d : Nat} {pre : List (Ty × Nat)} (h : pre ++ [(x, d)] <+: walkT t 1) (hx : x.code = true) : t.plain = false := by
  have hh : t.has 4 = true := (has_walk 4 t 1).2 ⟨(x, d), h.subset (by simp), by unfold Ty.code at hx; rw [decide_eq_true_eq] at hx; exact hx.1⟩
  rw [Ty.plain, hh]
  simp

end Go.Proofs.YtfeijijeohfpgaaGreatDoor
namespace Go.Proofs.YtfeijijeohfpgaaGreatDoor
open Go Go.RowKit

def StrRet (x : List UInt8) (w : World) (e : Ending) (w' : World) : Prop := e = .returned (.string ⟨x.toArray⟩) ∧ Below w.heap.size w w'
theorem cat_fun (a b : List UInt8) : (⟨#[40]⟩ : ByteArray) ++ ⟨a.toArray⟩ ++ ⟨#[62]⟩ ++ ⟨b.toArray⟩ ++ ⟨#[41]⟩ = ⟨(40 :: (a ++ 62 :: (b ++ [41]))).toArray⟩ := by
  apply ByteArray.ext
  simp
theorem cat_code (a : List UInt8) : (⟨#[60]⟩ : ByteArray) ++ ⟨a.toArray⟩ ++ ⟨#[62]⟩ = ⟨(60 :: (a ++ [62])).toArray⟩ := by
  apply ByteArray.ext
  simp
theorem keepS6 {w W w1 : World} {p1 p2 p3 p4 p5 : Addr} {v1 v2 v3 v4 v5 : Value} (hb1 : Below W.heap.size W w1) (h : W.cell? p1 = some v1 ∧ W.cell? p2 = some v2 ∧ W.cell? p3 = some v3 ∧ W.cell? p4 = some v4 ∧ W.cell? p5 = some v5 ∧ Below w.heap.size w W) :
    w1.cell? p1 = some v1 ∧ w1.cell? p2 = some v2 ∧ w1.cell? p3 = some v3 ∧ w1.cell? p4 = some v4 ∧ w1.cell? p5 = some v5 ∧ Below w.heap.size w w1 := by
  have k : ∀ {p : Addr} {v : Value}, W.cell? p = some v → w1.cell? p = some v := fun {p v} hp => (hb1.cell (World.block_lt_of_cell? W _ hp)).trans hp
  obtain ⟨h1, h2, h3, h4, h5, h6⟩ := h
  exact ⟨k h1, k h2, k h3, k h4, k h5, h6.trans (hb1.mono h6.size)⟩

set_option maxRecDepth 100000 in
set_option maxHeartbeats 1000000 in
theorem spText_any {w0 : World} {C : Nat → Prop} {ts : List Ty} {v : Value} (h : TS w0 C ts v) : ∀ (w : World) (q : Int), Stays C w0 w → nodesS ts ≤ 2097152 → (Ty.mk q ts).form = true →
    Calls Tryz.prog 248 #[.agg #[.int .i64 q, v]] w (StrRet (Ty.mk q ts).text w) := by
  refine TS.ind (motive := fun ts v => ∀ (w : World) (q : Int), Stays C w0 w → nodesS ts ≤ 2097152 → (Ty.mk q ts).form = true → Calls Tryz.prog 248 #[.agg #[.int .i64 q, v]] w (StrRet (Ty.mk q ts).text w)) ?_ h
  intro ts p c hl H w q hst hn hf
  have HH := Lib.hid H
  have HST := Lib.hid hst
  clear H hst
  have HB0 := Lib.hid ((alloc_below w (.cells #[.int .i64 q, .slice p ts.length c] 26)).drew)
  have HBA := Lib.hid (alloc_below w (.cells #[.int .i64 q, .slice p ts.length c] 26))
  rcases form_cases hf with hc | hc | ⟨a, b, hc, ha, hb⟩ | ⟨a, hc, ha⟩
  · cases hc
    rw [text_int]
    go_enter Tryz.func248, Tryz.ntmps248
    go_wp2_with fail
    go_ret
    exact ⟨rfl, HBA.out⟩
  · cases hc
    rw [text_bool]
    go_enter Tryz.func248, Tryz.ntmps248
    go_wp2_with fail
    go_ret
    exact ⟨rfl, HBA.out⟩
  · cases hc
    rw [text_fun]
    clear hf
    obtain ⟨b0, o, p1, c1, rfl, hcs1, hT1, hI1⟩ := HH.out 0 a rfl
    obtain ⟨b1, o1, p2, c2, hp2, hcs2, hT2, hI2⟩ := HH.out 1 b rfl
    simp only [Option.some.injEq, Addr.mk.injEq, and_true] at hp2
    obtain ⟨rfl, rfl⟩ := hp2
    have na : a.nodes ≤ 2097152 := by simp only [nodesS] at hn; omega
    have nb : b.nodes ≤ 2097152 := by simp only [nodesS] at hn; omega
    have la := text_le _ a (Nat.le_refl _) ha
    have lb := text_le _ b (Nat.le_refl _) hb
    have nA : nodesS a.args ≤ 2097152 := by rw [a.nodes_eq] at na; omega
    have nB : nodesS b.args ≤ 2097152 := by rw [b.nodes_eq] at nb; omega
    have HA := Lib.hid (fun (W : World) (hW : Below w.heap.size w W) => (hI1 W a.kind (HST.out.trans (.of_below hW)) nA (by rw [← a.eta]; exact ha)).mono (R' := fun e w' => e = .returned (.string ⟨a.text.toArray⟩) ∧ Below w.heap.size w w' ∧ Below W.heap.size W w')
      (by rintro e w' ⟨rfl, hb⟩; exact ⟨by rw [← a.eta], hW.trans (hb.mono hW.size), hb⟩))
    have HB := Lib.hid (fun (W : World) (hW : Below w.heap.size w W) => (hI2 W b.kind (HST.out.trans (.of_below hW)) nB (by rw [← b.eta]; exact hb)).mono (R' := fun e w' => e = .returned (.string ⟨b.text.toArray⟩) ∧ Below w.heap.size w w' ∧ Below W.heap.size W w')
      (by rintro e w' ⟨rfl, hb⟩; exact ⟨by rw [← b.eta], hW.trans (hb.mono hW.size), hb⟩))
    have g1 := hcs1 _ (HST.out.trans (.of_below HB0.out))
    have g2 := hcs2 _ (HST.out.trans (.of_below HB0.out))
    simp only [Nat.zero_mul, Nat.one_mul, Nat.add_zero, List.length_cons, List.length_nil, Nat.zero_add, Nat.reduceAdd] at g1 g2 HB0 HBA ⊢
    obtain ⟨g10, g11⟩ := g1
    obtain ⟨g20, g21⟩ := g2
    have LA := Lib.hid la
    have LB := Lib.hid lb
    have lat : a.text.length ≤ 6291456 := by omega
    have lbt : b.text.length ≤ 6291456 := by omega
    have x1 : ¬ 9223372036854775807 < 1 + a.text.length := by omega
    have x2 : ¬ 9223372036854775807 < 1 + a.text.length + 1 := by omega
    have x3 : ¬ 9223372036854775807 < 1 + a.text.length + 1 + b.text.length := by omega
    have x4 : ¬ 9223372036854775807 < 1 + a.text.length + 1 + b.text.length + 1 := by omega
    clear hcs1 hcs2 hT1 hT2 hI1 hI2 la lb na nb nA nB lat lbt
    go_enter Tryz.func248, Tryz.ntmps248
    go_wp2_with fail
    go_region_held3 (fun w' => w'.cell? ⟨w.heap.size, 1, none⟩ = some (.slice (some ⟨b0, o, none⟩) 2 c) ∧ w'.cell? ⟨b0, o, none⟩ = some (.int .i64 a.kind) ∧ w'.cell? ⟨b0, o + 1, none⟩ = some (.slice p1 a.args.length c1) ∧ w'.cell? ⟨b0, o + 2, none⟩ = some (.int .i64 b.kind) ∧ w'.cell? ⟨b0, o + 2 + 1, none⟩ = some (.slice p2 b.args.length c2) ∧ Below w.heap.size w w')
      (first
        | (go_keep; done)
        | exact ⟨by simp [*], by simp [*], by simp [*], by simp [*], by simp [*], HB0.out⟩
        | exact keepS6 hb1 (by assumption)
        | exact keepS6 hb2 (by assumption))
      (first
        | (go_at_call_of 248 (Value.agg #[.int .i64 a.kind, .slice p1 a.args.length c1]); (first | refine (HA.out _ HB0.out).mono ?_ | refine (HA.out _ hx2).mono ?_); rintro e w1 ⟨rfl, hx1, hb1⟩)
        | (go_at_call_of 248 (Value.agg #[.int .i64 b.kind, .slice p2 b.args.length c2]); (first | refine (HB.out _ HB0.out).mono ?_ | refine (HB.out _ hx1).mono ?_); rintro e w2 ⟨rfl, hx2, hb2⟩))
    go_wp2_with fail
    rename_i hH
    go_ret
    exact ⟨by rw [cat_fun]; rfl, hH.2.2.2.2.2⟩
  · cases hc
    rw [text_code]
    clear hf
    obtain ⟨b0, o, p1, c1, rfl, hcs1, hT1, hI1⟩ := HH.out 0 a rfl
    have na : a.nodes ≤ 2097152 := by simp only [nodesS] at hn; omega
    have la := text_le _ a (Nat.le_refl _) ha
    have nA : nodesS a.args ≤ 2097152 := by rw [a.nodes_eq] at na; omega
    have HA := Lib.hid (fun (W : World) (hW : Below w.heap.size w W) => (hI1 W a.kind (HST.out.trans (.of_below hW)) nA (by rw [← a.eta]; exact ha)).mono (R' := fun e w' => e = .returned (.string ⟨a.text.toArray⟩) ∧ Below w.heap.size w w')
      (by rintro e w' ⟨rfl, hb⟩; exact ⟨by rw [← a.eta], hW.trans (hb.mono hW.size)⟩))
    have g1 := hcs1 _ (HST.out.trans (.of_below HBA.out))
    simp only [Nat.zero_mul, Nat.add_zero, List.length_cons, List.length_nil, Nat.zero_add] at g1 HBA ⊢
    obtain ⟨g10, g11⟩ := g1
    have LA := Lib.hid la
    have lat : a.text.length ≤ 6291456 := by omega
    clear hcs1 hT1 hI1 la na nA
    go_enter Tryz.func248, Tryz.ntmps248
    go_wp2_with fail
    refine (HA.out _ HBA.out).mono ?_
    rintro e w1 ⟨rfl, hx1⟩
    have HX := Lib.hid hx1
    clear hx1
    go_wp2_with fail
    go_ret
    exact ⟨by rw [cat_code]; rfl, HX.out⟩

end Go.Proofs.YtfeijijeohfpgaaGreatDoor
namespace Go.Proofs.YtfeijijeohfpgaaGreatDoor
open Go Go.RowKit

end Go.Proofs.YtfeijijeohfpgaaGreatDoor
namespace Go.Proofs.YtfeijijeohfpgaaGreatDoor
open Go Go.RowKit

end Go.Proofs.YtfeijijeohfpgaaGreatDoor
namespace Go.Proofs.YtfeijijeohfpgaaGreatDoor
open Go Go.RowKit

end Go.Proofs.YtfeijijeohfpgaaGreatDoor
namespace Go.Proofs.YtfeijijeohfpgaaGreatDoor
open Go Go.RowKit

end Go.Proofs.YtfeijijeohfpgaaGreatDoor
namespace Go.Proofs.YtfeijijeohfpgaaGreatDoor
open Go Go.RowKit

end Go.Proofs.YtfeijijeohfpgaaGreatDoor
