/-
  Several texts of the proof in one (each says below what it holds): Read TmParse TmValid.
-/
import Derived.Test.YtjobmgbchpoheaaGreatDoorPB11
namespace Go.Proofs.YtjobmgbchpoheaaGreatDoor
open Go
def rdA (acc : Nat) (l : List UInt8) : Nat := l.foldl (fun a c => 10 * a + (c.toNat - 48)) acc
def isDig (c : UInt8) : Prop := 48 ≤ c.toNat ∧ c.toNat ≤ 57
instance (c : UInt8) : Decidable (isDig c) := by unfold isDig; infer_instance

theorem rdA_nil (a : Nat) : rdA a [] = a := by simp only [rdA, List.foldl_nil]
theorem rdA_cons (a : Nat) (c : UInt8) (l : List UInt8) : rdA a (c :: l) = rdA (10 * a + (c.toNat - 48)) l := by simp only [rdA, List.foldl_cons]
theorem rdA_snoc (a : Nat) (c : UInt8) (l : List UInt8) : rdA a (l ++ [c]) = 10 * rdA a l + (c.toNat - 48) := by
  simp only [rdA, List.foldl_append, List.foldl_cons, List.foldl_nil]
theorem le_rdA : ∀ (l : List UInt8) (a : Nat), a ≤ rdA a l
  | [], a => Nat.le_refl _
  | c :: l, a => by
    rw [rdA_cons]
    have := le_rdA l (10 * a + (c.toNat - 48))
    omega
theorem rdA_lt (l : List UInt8) (h : ∀ c ∈ l, isDig c) : rdA 0 l < 10 ^ l.length := by
  suffices H : ∀ (l : List UInt8) (a : Nat), (∀ c ∈ l, isDig c) → rdA a l < (a + 1) * 10 ^ l.length by
    have := H l 0 h
    simpa using this
  intro l
  induction l with
  | nil => intro a _; simp [rdA_nil]
  | cons c l ih =>
    intro a h
    rw [rdA_cons, List.length_cons, Nat.pow_succ]
    have hc := h c (List.mem_cons_self ..)
    unfold isDig at hc
    have h1 := ih (10 * a + (c.toNat - 48)) (fun x hx => h x (List.mem_cons_of_mem _ hx))
    have h2 : (10 * a + (c.toNat - 48) + 1) * 10 ^ l.length ≤ ((a + 1) * 10) * 10 ^ l.length := Nat.mul_le_mul_right _ (by omega)
    have h3 : (a + 1) * (10 ^ l.length * 10) = ((a + 1) * 10) * 10 ^ l.length := by
      rw [Nat.mul_comm (10 ^ l.length) 10, Nat.mul_assoc]
    omega

theorem dig_toNat {k : Nat} (h : k < 10) : (UInt8.ofNat (48 + k)).toNat = 48 + k := by simp; omega
theorem dec_digs (u : Nat) : ∀ c ∈ Lib.decDigits u, isDig c := by
  induction u using Nat.strongRecOn with
  | _ u ih =>
    intro c hc
    rw [Lib.decDigits] at hc
    by_cases hu : u < 10
    · rw [dif_pos hu] at hc
      have e : c = UInt8.ofNat (48 + u) := by simpa using hc
      subst e
      unfold isDig
      rw [dig_toNat hu]; omega
    · rw [dif_neg hu] at hc
      rcases List.mem_append.1 hc with h | h
      · exact ih (u / 10) (by omega) c h
      · have e : c = UInt8.ofNat (48 + u % 10) := List.mem_singleton.1 h
        subst e
        unfold isDig
        rw [dig_toNat (by omega)]; omega
theorem rdA_dec (u : Nat) : rdA 0 (Lib.decDigits u) = u := by
  induction u using Nat.strongRecOn with
  | _ u ih =>
    rw [Lib.decDigits]
    by_cases hu : u < 10
    · rw [dif_pos hu, rdA_cons, rdA_nil, dig_toNat hu]; omega
    · rw [dif_neg hu, rdA_snoc, ih (u / 10) (by omega), dig_toNat (by omega)]; omega
theorem dec_ne_nil (u : Nat) : Lib.decDigits u ≠ [] := by
  intro h
  have := Lib.decDigits_length u
  rw [h] at this
  have := Lib.nDigits_pos u
  simp at *
  omega
def rd (l : List UInt8) : Int := if l.head? = some 45 then -(rdA 0 l.tail : Int) else rdA 0 l

theorem dec_head (u : Nat) : (Lib.decDigits u).head? ≠ some 45 := by
  intro h
  have := dec_digs u 45 (List.mem_of_mem_head? h)
  unfold isDig at this
  exact absurd this (by decide)
theorem rd_itoa (n : Int) : rd (Lib.itoa n) = n := by
  unfold Lib.itoa
  by_cases hn : n < 0
  · rw [if_pos hn]
    unfold rd
    rw [if_pos (List.head?_cons ..), List.tail_cons, rdA_dec]; omega
  · rw [if_neg hn]
    unfold rd
    rw [if_neg (dec_head _), rdA_dec]; omega
def okNum (lo hi : Int) (l : List UInt8) : Bool := decide (lo ≤ rd l ∧ rd l ≤ hi ∧ Lib.itoa (rd l) = l)
theorem okNum_yes {lo hi : Int} {l : List UInt8} (h : okNum lo hi l = true) : lo ≤ rd l ∧ rd l ≤ hi ∧ Lib.itoa (rd l) = l := of_decide_eq_true h
theorem okNum_mk {lo hi n : Int} {l : List UInt8} (h : Lib.itoa n = l) (h0 : lo ≤ n) (h1 : n ≤ hi) : okNum lo hi l = true := by
  unfold okNum
  rw [← h, rd_itoa]
  exact decide_eq_true ⟨h0, h1, rfl⟩
theorem parse10_digs : ∀ (l : List UInt8) (a : Nat), (∀ c ∈ l, isDig c) → rdA a l < 18446744073709551616 → Lib.parseUint10 a l = .ok (rdA a l)
  | [], a, _, _ => rfl
  | c :: l, a, h, hlt => by
    rw [rdA_cons] at hlt ⊢
    have hc := h c (List.mem_cons_self ..)
    have h1 := le_rdA l (10 * a + (c.toNat - 48))
    unfold isDig at hc
    rw [Lib.parseUint10, if_pos hc, if_neg (by omega), if_neg (by omega), show a * 10 + (c.toNat - 48) = 10 * a + (c.toNat - 48) by omega]
    exact parse10_digs l _ (fun x hx => h x (List.mem_cons_of_mem _ hx)) hlt
theorem parseMag_dec {u : Nat} (h : u < 18446744073709551616) : Lib.parseMag (Lib.decDigits u) = .ok u := by
  unfold Lib.parseMag
  rw [if_neg (dec_ne_nil u), parse10_digs _ 0 (dec_digs u) (by rw [rdA_dec]; exact h), rdA_dec]
theorem atoi_itoa (n : Int) (h0 : -9223372036854775808 ≤ n) (h1 : n ≤ 9223372036854775807) : Lib.atoiAll (Lib.itoa n) = .ok n := by
  unfold Lib.itoa
  by_cases hn : n < 0
  · rw [if_pos hn]
    unfold Lib.atoiAll
    have e1 : (45 : UInt8).toNat = 45 := rfl
    simp only [e1, or_true, if_true, not_true_eq_false, false_and, if_false, true_and]
    rw [parseMag_dec (by omega)]
    dsimp only
    rw [if_neg (by omega)]
    congr 1
    omega
  · rw [if_neg hn]
    have hp := parseMag_dec (u := n.toNat) (by omega)
    have hne := dec_ne_nil n.toNat
    have hd := dec_digs n.toNat
    generalize Lib.decDigits n.toNat = d at *
    cases d with
    | nil => exact absurd rfl hne
    | cons c r =>
      have hc := hd c (List.mem_cons_self ..)
      unfold isDig at hc
      unfold Lib.atoiAll
      have a1 : ¬ c.toNat = 45 := by omega
      have a2 : ¬ c.toNat = 43 := by omega
      simp only [a1, a2, or_self, if_false, not_false_eq_true, true_and, false_and]
      rw [hp]
      dsimp only
      rw [if_neg (by omega)]
      congr 1
      omega
end Go.Proofs.YtjobmgbchpoheaaGreatDoor
namespace Go.Proofs.YtjobmgbchpoheaaGreatDoor
open Go Go.RowKit

def mkT (k : Int) (a : List UInt8) (n : Int) (ts : List Tm) : Tm := .mk k ⟨a.toArray⟩ E0 n Z0 Z0 ts
def isW (c : UInt8) : Bool := (decide (48 ≤ c.toNat) && decide (c.toNat ≤ 57)) || (decide (97 ≤ c.toNat) && decide (c.toNat ≤ 122))
def word (s : List UInt8) (i : Nat) : List UInt8 := (s.drop i).takeWhile isW
def pre (q s : List UInt8) (i : Nat) : Bool := q.isPrefixOf (s.drop i)
def kLet : List UInt8 := [108, 101, 116, 32]
def kRec : List UInt8 := [114, 101, 99, 32]
def kIf : List UInt8 := [105, 102, 32]
def kRun : List UInt8 := [114, 117, 110, 32]
def kLift : List UInt8 := [108, 105, 102, 116, 32]
def pts (f : Nat → Option (Tm × Nat)) (s : List UInt8) : List UInt8 → Nat → Option (List Tm × Nat)
  | [], i => some ([], i)
  | e :: es, i => match f i with
    | none => none
    | some (t, j) => if s[j]? = some e then (pts f s es (j + 1)).map (fun r => (t :: r.1, r.2)) else none
def pRest (s : List UInt8) (f : Nat → Option (Tm × Nat)) (x : Tm) (j : Nat) : Option (Tm × Nat) :=
  if s[j]? = some 32 then (pts f s [41] (j + 1)).map fun r => (mkT 7 [] 0 (x :: r.1), r.2)
  else match s[j]? with
    | none => none
    | some c => if opAr [c] = 2 then (pts f s [41] (j + 1)).map fun r => (mkT 4 [c] 0 (x :: r.1), r.2) else none
def pLam (s : List UInt8) (f : Nat → Option (Tm × Nat)) (i : Nat) : Option (Tm × Nat) :=
  if s[i + (word s i).length]? = some 58 then
    match pty s 8 (i + (word s i).length + 1) with
    | none => none
    | some (ty, j) => if s[j]? = some 46 then (pts f s [41] (j + 1)).map fun r => (.mk 6 ⟨(word s i).toArray⟩ E0 0 ty Z0 r.1, r.2) else none
  else none
def pLet (s : List UInt8) (f : Nat → Option (Tm × Nat)) (i : Nat) : Option (Tm × Nat) :=
  if s[i + (word s i).length]? = some 61 then (pts f s [32, 41] (i + (word s i).length + 1)).map fun r => (mkT 8 (word s i) 0 r.1, r.2) else none
def pRec2 (s : List UInt8) (f : Nat → Option (Tm × Nat)) (a : List UInt8) (i : Nat) : Option (Tm × Nat) :=
  if s[i + (word s i).length]? = some 58 then
    match pty s 8 (i + (word s i).length + 1) with
    | none => none
    | some (ty, j) => if s[j]? = some 62 then
        match pty s 8 (j + 1) with
        | none => none
        | some (res, j2) => if s[j2]? = some 46 then (pts f s [41] (j2 + 1)).map fun r => (.mk 9 ⟨a.toArray⟩ ⟨(word s i).toArray⟩ 0 ty res r.1, r.2) else none
      else none
  else none
def pRec (s : List UInt8) (f : Nat → Option (Tm × Nat)) (i : Nat) : Option (Tm × Nat) :=
  if s[i + (word s i).length]? = some 32 then pRec2 s f (word s i) (i + (word s i).length + 1) else none
def pOpen (s : List UInt8) (f : Nat → Option (Tm × Nat)) (i : Nat) : Option (Tm × Nat) :=
  if pre [92] s i then pLam s f (i + 1)
  else if pre kLet s i then pLet s f (i + 4)
  else if pre kRec s i then pRec s f (i + 4)
  else if pre kIf s i then (pts f s [32, 32, 41] (i + 3)).map fun r => (mkT 5 [] 0 r.1, r.2)
  else if pre kRun s i then (pts f s [41] (i + 4)).map fun r => (mkT 12 [] 0 r.1, r.2)
  else if pre kLift s i then (pts f s [41] (i + 5)).map fun r => (mkT 13 [] 0 r.1, r.2)
  else if pre [33] s i then (pts f s [41] (i + 1)).map fun r => (mkT 4 [33] 0 r.1, r.2)
  else match f i with
    | none => none
    | some (x, j) => pRest s f x j
def pTm (s : List UInt8) : Nat → Nat → Option (Tm × Nat)
  | 0, _ => none
  | D + 1, i =>
    if s.length ≤ i then none
    else if pre [35, 116] s i then some (mkT 3 [] 1 [], i + 2)
    else if pre [35, 102] s i then some (mkT 3 [] 0 [], i + 2)
    else if pre [126] s i then (pTm s D (i + 1)).map fun r => (mkT 11 [] 0 [r.1], r.2)
    else if pre [60] s i then (pts (pTm s D) s [62] (i + 1)).map fun r => (mkT 10 [] 0 r.1, r.2)
    else if pre [40] s i then pOpen s (pTm s D) (i + 1)
    else if ((s[i]?).map fun c => decide (48 ≤ c.toNat) && decide (c.toNat ≤ 57)) = some true then
      if okNum 0 999999 (word s i) then some (mkT 2 [] (rd (word s i)) [], i + (word s i).length) else none
    else some (mkT 1 (word s i) 0 [], i + (word s i).length)
def Stop (r : List UInt8) : Prop := ∀ c, r.head? = some c → isW c = false
theorem stop_cons {c : UInt8} {r : List UInt8} (h : isW c = false) : Stop (c :: r) := fun x hx => by simp at hx; rw [← hx]; exact h
theorem pre_yes {q s r : List UInt8} {i : Nat} (h : s.drop i = q ++ r) : pre q s i = true := by
  unfold pre
  rw [h, List.isPrefixOf_iff_prefix]
  exact List.prefix_append q r
theorem pre_head {q s r : List UInt8} {i : Nat} {c d : UInt8} (h : s.drop i = c :: r) (hcd : c ≠ d) : pre (d :: q) s i = false := by
  unfold pre
  rw [h]
  simp only [List.isPrefixOf, Bool.and_eq_false_imp, beq_iff_eq]
  exact fun e => absurd e.symm hcd
theorem drop_app {s x r : List UInt8} {i : Nat} (h : s.drop i = x ++ r) : s.drop (i + x.length) = r := by
  rw [← List.drop_drop, h]; simp
theorem word_at {s a r : List UInt8} {i : Nat} (h : s.drop i = a ++ r) (ha : ∀ c ∈ a, isW c = true) (hr : Stop r) : word s i = a := by
  unfold word
  rw [h, List.takeWhile_append_of_pos ha]
  cases r with
  | nil => simp
  | cons c r => simp [hr c rfl]
theorem back (a : ByteArray) : (⟨a.data.toList.toArray⟩ : ByteArray) = a := rfl
theorem nm_all {a : ByteArray} (h : Nm a) : ∀ c ∈ a.data.toList, isW c = true := by
  intro c hc
  obtain ⟨k, hk, rfl⟩ := List.getElem_of_mem hc
  have hk' : k < a.size := by simpa using hk
  have h1 := h.ok k hk'
  have h2 : a.data.toList[k] = a[k] := by rw [Array.getElem_toList]; rfl
  rw [h2]
  unfold isW
  rcases h1 with ⟨q1, q2⟩ | ⟨_, q1, q2⟩
  · simp [q1, q2]
  · simp [q1, q2]
theorem nm_head {a : ByteArray} (h : Nm a) : ∃ c l, a.data.toList = c :: l ∧ 97 ≤ c.toNat ∧ c.toNat ≤ 122 := by
  have h0 := h.lo
  have h1 := h.ok 0 (by omega)
  have h2 : 0 < a.data.toList.length := h0
  obtain ⟨c, l, hl⟩ := List.exists_cons_of_length_pos h2
  refine ⟨c, l, hl, ?_⟩
  have h3 : a.data.toList[0] = a[0] := by rw [Array.getElem_toList]; rfl
  have h4 : a.data.toList[0] = c := by simp [hl]
  rw [← h4, h3]
  rcases h1 with h1 | h1
  · exact h1
  · omega
theorem nm_free {a : ByteArray} (h : Nm a) : a.data.toList ≠ [105, 102] ∧ a.data.toList ≠ [108, 101, 116] ∧ a.data.toList ≠ [108, 105, 102, 116] ∧ a.data.toList ≠ [114, 101, 99] ∧ a.data.toList ≠ [114, 117, 110] := by
  have h1 := h.free
  unfold Res at h1
  rw [ByteArray.toList_eq] at h1
  simp only [not_or] at h1
  exact h1
theorem pre_word {q s : List UInt8} {i : Nat} (hq : ∀ c ∈ q, isW c = true) (h : pre (q ++ [32]) s i = true) : word s i = q := by
  unfold pre at h
  rw [List.isPrefixOf_iff_prefix] at h
  obtain ⟨r, hr⟩ := h
  exact word_at (r := 32 :: r) (by rw [← hr]; simp) hq (stop_cons (by decide))

theorem res {t t' : Tm} {j j' : Nat} (h : t = t') (hj : j = j') : some (t, j) = some (t', j') := by rw [h, hj]
theorem pts1 {f : Nat → Option (Tm × Nat)} {s : List UInt8} {e : UInt8} {i j : Nat} {x : Tm} (h1 : f i = some (x, j)) (h2 : s[j]? = some e) : pts f s [e] i = some ([x], j + 1) := by simp [pts, h1, h2]
theorem pts2 {f : Nat → Option (Tm × Nat)} {s : List UInt8} {e e2 : UInt8} {i j k : Nat} {x y : Tm} (h1 : f i = some (x, j)) (h2 : s[j]? = some e) (h3 : f (j + 1) = some (y, k)) (h4 : s[k]? = some e2) : pts f s [e, e2] i = some ([x, y], k + 1) := by simp [pts, h1, h2, h3, h4]
theorem pts3 {f : Nat → Option (Tm × Nat)} {s : List UInt8} {e e2 e3 : UInt8} {i j k l : Nat} {x y z : Tm} (h1 : f i = some (x, j)) (h2 : s[j]? = some e) (h3 : f (j + 1) = some (y, k)) (h4 : s[k]? = some e2) (h5 : f (k + 1) = some (z, l)) (h6 : s[l]? = some e3) :
    pts f s [e, e2, e3] i = some ([x, y, z], l + 1) := by simp [pts, h1, h2, h3, h4, h5, h6]
theorem t_var (a : ByteArray) : (Tm.mk 1 a E0 0 Z0 Z0 []).text = a.data.toList := by simp [Tm.text, txN]
theorem t_int (n : Int) : (Tm.mk 2 E0 E0 n Z0 Z0 []).text = Lib.itoa n := by simp [Tm.text, txN]
theorem t_bool (n : Int) : (Tm.mk 3 E0 E0 n Z0 Z0 []).text = [35, if n = 1 then 116 else 102] := by simp [Tm.text, txN]
theorem t_op1 (a : ByteArray) (x : Tm) : (Tm.mk 4 a E0 0 Z0 Z0 [x]).text = 40 :: 33 :: (x.text ++ [41]) := by simp [Tm.text, txN, textsM, hd]
theorem t_op2 (a : ByteArray) (x y : Tm) : (Tm.mk 4 a E0 0 Z0 Z0 [x, y]).text = 40 :: (x.text ++ (a.data.toList ++ (y.text ++ [41]))) := by simp [Tm.text, txN, textsM, hd]
theorem join2 (x y : List UInt8) : Lib.join [x, y] [32] = x ++ 32 :: y := by rw [Lib.join_cons]; simp [Lib.joinTail]
theorem join3 (x y z : List UInt8) : Lib.join [x, y, z] [32] = x ++ 32 :: (y ++ 32 :: z) := by rw [Lib.join_cons]; simp [Lib.joinTail]
theorem t_cond (x y z : Tm) : (Tm.mk 5 E0 E0 0 Z0 Z0 [x, y, z]).text = 40 :: 105 :: 102 :: 32 :: (x.text ++ 32 :: (y.text ++ 32 :: (z.text ++ [41]))) := by simp [Tm.text, txN, textsM, join3]
theorem t_lam (a : ByteArray) (ty : Ty) (x : Tm) : (Tm.mk 6 a E0 0 ty Z0 [x]).text = 40 :: 92 :: (a.data.toList ++ 58 :: (ty.text ++ 46 :: (x.text ++ [41]))) := by simp [Tm.text, txN, textsM, hd]
theorem t_app (x y : Tm) : (Tm.mk 7 E0 E0 0 Z0 Z0 [x, y]).text = 40 :: (x.text ++ 32 :: (y.text ++ [41])) := by simp [Tm.text, txN, textsM, join2]
theorem t_bind (a : ByteArray) (x y : Tm) : (Tm.mk 8 a E0 0 Z0 Z0 [x, y]).text = 40 :: 108 :: 101 :: 116 :: 32 :: (a.data.toList ++ 61 :: (x.text ++ 32 :: (y.text ++ [41]))) := by simp [Tm.text, txN, textsM, join2]
theorem t_fix (a b : ByteArray) (ty res : Ty) (x : Tm) : (Tm.mk 9 a b 0 ty res [x]).text = 40 :: 114 :: 101 :: 99 :: 32 :: (a.data.toList ++ 32 :: (b.data.toList ++ 58 :: (ty.text ++ 62 :: (res.text ++ 46 :: (x.text ++ [41]))))) := by simp [Tm.text, txN, textsM, hd]
theorem t_quote (x : Tm) : (Tm.mk 10 E0 E0 0 Z0 Z0 [x]).text = 60 :: (x.text ++ [62]) := by simp [Tm.text, txN, textsM, hd]
theorem t_splice (x : Tm) : (Tm.mk 11 E0 E0 0 Z0 Z0 [x]).text = 126 :: x.text := by simp [Tm.text, txN, textsM, hd]
theorem t_run (x : Tm) : (Tm.mk 12 E0 E0 0 Z0 Z0 [x]).text = 40 :: 114 :: 117 :: 110 :: 32 :: (x.text ++ [41]) := by simp [Tm.text, txN, textsM, hd]
theorem t_lift (x : Tm) : (Tm.mk 13 E0 E0 0 Z0 Z0 [x]).text = 40 :: 108 :: 105 :: 102 :: 116 :: 32 :: (x.text ++ [41]) := by simp [Tm.text, txN, textsM, hd]
theorem itoa_digs {n : Int} (h : 0 ≤ n) : (∀ c ∈ Lib.itoa n, isDig c) ∧ Lib.itoa n ≠ [] := by
  obtain ⟨u, rfl⟩ : ∃ u : Nat, n = (u : Int) := ⟨n.toNat, by omega⟩
  rw [Lib.itoa_nonneg]
  exact ⟨dec_digs u, dec_ne_nil u⟩
theorem dig_w {c : UInt8} (h : isDig c) : isW c = true := by
  unfold isW; simp [h.1, h.2]
theorem text_head {t : Tm} (h : Shape t) : ∃ c l, t.text = c :: l ∧ ((∃ a, Nm a ∧ t.text = a.data.toList ∧ 97 ≤ c.toNat) ∨ isDig c ∨ c = 35 ∨ c = 40 ∨ c = 60 ∨ c = 126) := by
  cases h with
  | var a h =>
    obtain ⟨c, l, hl, h1, _⟩ := nm_head h
    exact ⟨c, l, by rw [t_var, hl], Or.inl ⟨a, h, t_var a, h1⟩⟩
  | int n h0 h1 =>
    obtain ⟨h2, h3⟩ := itoa_digs h0
    obtain ⟨c, l, hl⟩ := List.exists_cons_of_ne_nil h3
    exact ⟨c, l, by rw [t_int, hl], Or.inr (Or.inl (h2 c (by rw [hl]; simp)))⟩
  | bool n h => exact ⟨_, _, t_bool n, by simp⟩
  | op1 a ha x hx => exact ⟨_, _, t_op1 a x, by simp⟩
  | op2 a c ha hc x y hx hy => exact ⟨_, _, t_op2 a x y, by simp⟩
  | cond x y z hx hy hz => exact ⟨_, _, t_cond x y z, by simp⟩
  | lam a h ty ht x hx => exact ⟨_, _, t_lam a ty x, by simp⟩
  | app x y hx hy => exact ⟨_, _, t_app x y, by simp⟩
  | bind a h x y hx hy => exact ⟨_, _, t_bind a x y, by simp⟩
  | fix a b ha hb hab ty res ht hr x hx => exact ⟨_, _, t_fix a b ty res x, by simp⟩
  | quote x hx => exact ⟨_, _, t_quote x, by simp⟩
  | splice x hx => exact ⟨_, _, t_splice x, by simp⟩
  | run x hx => exact ⟨_, _, t_run x, by simp⟩
  | lift x hx => exact ⟨_, _, t_lift x, by simp⟩
theorem ne_of_nat {c d : UInt8} (h : c.toNat ≠ d.toNat) : c ≠ d := fun e => h (by rw [e])
theorem kw_no {t : Tm} {s r : List UInt8} {i : Nat} (h : Shape t) (hs : s.drop i = t.text ++ r) (hr : Stop r) :
    pre [92] s i = false ∧ pre kLet s i = false ∧ pre kRec s i = false ∧ pre kIf s i = false ∧ pre kRun s i = false ∧ pre kLift s i = false ∧ pre [33] s i = false := by
  obtain ⟨c, l, hl, hc⟩ := text_head h
  have hd : s.drop i = c :: (l ++ r) := by rw [hs, hl]; rfl
  rcases hc with ⟨a, ha, hta, h97⟩ | hc
  · have hw : word s i = a.data.toList := word_at (by rw [hs, hta]) (nm_all ha) hr
    obtain ⟨f1, f2, f3, f4, f5⟩ := nm_free ha
    refine ⟨pre_head hd (ne_of_nat ?_), ?_, ?_, ?_, ?_, ?_, pre_head hd (ne_of_nat ?_)⟩
    · have : (92 : UInt8).toNat = 92 := rfl
      omega
    · rw [Bool.eq_false_iff]; exact fun e => f2 (hw.symm.trans (pre_word (q := [108, 101, 116]) (by decide) e))
    · rw [Bool.eq_false_iff]; exact fun e => f4 (hw.symm.trans (pre_word (q := [114, 101, 99]) (by decide) e))
    · rw [Bool.eq_false_iff]; exact fun e => f1 (hw.symm.trans (pre_word (q := [105, 102]) (by decide) e))
    · rw [Bool.eq_false_iff]; exact fun e => f5 (hw.symm.trans (pre_word (q := [114, 117, 110]) (by decide) e))
    · rw [Bool.eq_false_iff]; exact fun e => f3 (hw.symm.trans (pre_word (q := [108, 105, 102, 116]) (by decide) e))
    · have : (33 : UInt8).toNat = 33 := rfl
      omega
  · have key : c.toNat ≠ 92 ∧ c.toNat ≠ 108 ∧ c.toNat ≠ 114 ∧ c.toNat ≠ 105 ∧ c.toNat ≠ 33 := by
      rcases hc with ⟨h1, h2⟩ | rfl | rfl | rfl | rfl
      · omega
      all_goals decide
    obtain ⟨k1, k2, k3, k4, k5⟩ := key
    exact ⟨pre_head hd (ne_of_nat k1), pre_head hd (ne_of_nat k2), pre_head hd (ne_of_nat k3), pre_head hd (ne_of_nat k4), pre_head hd (ne_of_nat k3), pre_head hd (ne_of_nat k2), pre_head hd (ne_of_nat k5)⟩
end Go.Proofs.YtjobmgbchpoheaaGreatDoor
namespace Go.Proofs.YtjobmgbchpoheaaGreatDoor
open Go Go.RowKit

def Tm.Valid (t : Tm) : Prop := t.nodes ≤ 80 ∧ t.depth ≤ 20 ∧ t.IsT

set_option maxRecDepth 100000 in
set_option maxHeartbeats 2000000 in
theorem validM_any {C : Nat → Prop} {t : Tm} {v : Value} {w : World} (h : TM w C t v) (hn : t.wt ≤ 2097152) :
    Calls Tryz.prog 10 #[v] w (Tells t.Valid w) := by
  obtain ⟨tp, tc, rp, rc, p, c, rfl, hT⟩ := h
  have HT := Lib.hid hT
  have HX := Lib.hid (Bx9.new w t tp tc rp rc p c 29)
  have HB := Lib.hid (al_below w (.cells (tmC t tp tc rp rc p c) 29))
  have HN := Lib.hid hn
  have hdn := t.depth_nodes
  have hnw := t.nodes_wt
  clear hT
  go_enter Tryz.func10, Tryz.ntmps10
  go_wp2_with fail
  refine (leftM_any _ _ 80 (Nat.le_refl _) (HT.out.stays (.of_below HB.out)) HN.out (by omega) (by omega)).mono ?_
  rintro e w1 ⟨r, hr, rfl, hb1⟩
  have hrg := hr.range (by omega)
  have HR := Lib.hid hr
  have HB1 := Lib.hid (HB.out.trans (hb1.mono HB.out.size))
  have HX1 := Lib.hid (HX.out.keep hb1)
  obtain ⟨g0, g1, g2, g3, g4, g5, g6, g7, g8⟩ := HX.out.keep hb1
  clear hb1 hr
  by_cases h0 : 0 ≤ r
  · have HZ := Lib.hid (show t.nodes ≤ 80 by have := HR.out; unfold LeftEnds at this; omega)
    have hd0 : decide (0 ≤ r) = true := decide_eq_true h0
    go_wp2_with fail
    refine (depthM_any _ _ (Nat.le_refl _) (HT.out.stays (.of_below HB1.out)) HN.out).mono ?_
    rintro e w2 ⟨d, rfl, rfl, hb2⟩
    have HB2 := Lib.hid (HB1.out.trans (hb2.mono HB1.out.size))
    clear g0 g1 g2 g3 g4 g5 g6 g7 g8
    obtain ⟨g0, g1, g2, g3, g4, g5, g6, g7, g8⟩ := HX1.out.keep hb2
    clear hb2
    by_cases h2 : t.depth ≤ 20
    · have hd2 : decide ((t.depth : Int) ≤ 20) = true := decide_eq_true (by omega)
      go_wp2_with fail
      refine (isTM_any _ _ (Nat.le_refl _) (HT.out.stays (.of_below HB2.out)) HN.out).mono ?_
      rintro e w3 ⟨b, hb, rfl, hb3⟩
      have HB3 := Lib.hid (HB2.out.trans (hb3.mono HB2.out.size))
      have HI := Lib.hid hb
      clear hb hb3
      go_wp2_with fail
      go_ret
      exact ⟨_, HI.out.trans ⟨fun h => ⟨HZ.out, h2, h⟩, fun h => h.2.2⟩, rfl, HB3.out⟩
    · have hd2 : decide ((t.depth : Int) ≤ 20) = false := decide_eq_false (by omega)
      go_wp2_with fail
      go_ret
      exact ⟨_, lit_f (fun h => h2 h.2.1), rfl, HB2.out⟩
  · have HZ := Lib.hid (show ¬ t.nodes ≤ 80 by have := HR.out; unfold LeftEnds at this; omega)
    have hd0 : decide (0 ≤ r) = false := decide_eq_false h0
    go_wp2_with fail
    go_ret
    exact ⟨_, lit_f (fun h => HZ.out h.1), rfl, HB1.out⟩
end Go.Proofs.YtjobmgbchpoheaaGreatDoor
