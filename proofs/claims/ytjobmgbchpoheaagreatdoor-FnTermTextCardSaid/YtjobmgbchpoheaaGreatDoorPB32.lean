/-
  Several texts of the proof in one (each says below what it holds): TmRead2.
-/
import Derived.Test.YtjobmgbchpoheaaGreatDoorPB13
namespace Go.Proofs.YtjobmgbchpoheaaGreatDoor
open Go Go.RowKit

theorem rdForm_skip {F : RdF} {q : List UInt8} {R : RdF → RdF} {fs : List (List UInt8 × (RdF → RdF))} {k : Nat} {l : List UInt8} {t : Tm} {k' : Nat} {l' : List UInt8} (hq : q.isPrefixOf l = false) (h : rdForm F ((q, R) :: fs) k l t k' l') : rdForm F fs k l t k' l' := by
  unfold rdForm at h
  rwa [if_neg (by rw [hq]; decide)] at h
theorem rdForm_take {F : RdF} {q : List UInt8} {R : RdF → RdF} {fs : List (List UInt8 × (RdF → RdF))} {k : Nat} {l : List UInt8} {t : Tm} {k' : Nat} {l' : List UInt8} (hq : q.isPrefixOf l = true) (h : rdForm F ((q, R) :: fs) k l t k' l') : R F k (l.drop q.length) t k' l' := by
  unfold rdForm at h
  rwa [if_pos hq] at h
def tailT : List (List UInt8) → List Tm → List UInt8
  | q :: qs, x :: xs => x.text ++ (q ++ tailT qs xs)
  | _, _ => []
def Reads (F : RdF) (k0 : Nat) : Prop := ∀ (x : Tm) (k : Nat) (r : List UInt8) (t' : Tm) (k' : Nat) (l' : List UInt8), x.IsT → k + x.nodes ≤ 80 → k0 ≤ k → Stop r → F k (x.text ++ r) t' k' l' → t' = x ∧ k' = k + x.nodes ∧ l' = r
theorem args_text {F : RdF} {k0 : Nat} (st : Reads F k0) : ∀ (ts : List Tm) (qs : List (List UInt8)) (k : Nat) (r : List UInt8) (ts' : List Tm) (k' : Nat) (l' : List UInt8), qs.length = ts.length → (∀ x ∈ ts, x.IsT) → (∀ q ∈ qs, ∃ c, q = [c] ∧ isW c = false) →
    k + nodesM ts ≤ 80 → k0 ≤ k → rdArgs F qs k (tailT qs ts ++ r) ts' k' l' → ts' = ts ∧ k' = k + nodesM ts ∧ l' = r
  | [], [], k, r, ts', k', l', _, _, _, _, _, h => by
    obtain ⟨rfl, rfl, rfl⟩ := h
    exact ⟨rfl, by simp [nodesM], rfl⟩
  | x :: xs, q :: qs, k, r, ts', k', l', hl, hi, hq, hk, h0, h => by
    obtain ⟨t, k1, l1, ts1, h1, h2, rfl⟩ := h
    obtain ⟨c, rfl, hc⟩ := hq q (by simp)
    simp only [nodesM] at hk
    rw [tailT, List.append_assoc, List.append_assoc] at h1
    obtain ⟨rfl, rfl, rfl⟩ := st x k _ _ _ _ (hi x (by simp)) (by omega) h0 (stop_cons hc) h1
    change rdArgs F qs _ (cut [c] ([c] ++ (tailT qs xs ++ r))) _ _ _ at h2
    rw [cut_app] at h2
    obtain ⟨rfl, rfl, rfl⟩ := args_text st xs qs _ r _ _ _ (by simpa using hl) (fun y hy => hi y (by simp [hy])) (fun p hp => hq p (by simp [hp])) (by omega) (by omega) h2
    exact ⟨rfl, by simp only [nodesM]; omega, rfl⟩
theorem w_text {F : RdF} {k0 : Nat} (st : Reads F k0) (e : Tm) (ts : List Tm) (k : Nat) (r : List UInt8) (t' : Tm) (k' : Nat) (l' : List UInt8) (hl : (sg e).tail.length = ts.length) (hi : ∀ x ∈ ts, x.IsT) (hq : ∀ q ∈ (sg e).tail, ∃ c, q = [c] ∧ isW c = false)
    (hk : k + nodesM ts ≤ 80) (h0 : k0 ≤ k) (h : rdW F e k (tailT (sg e).tail ts ++ r) t' k' l') : t' = withM e ts ∧ k' = k + nodesM ts ∧ l' = r := by
  obtain ⟨ts', h1, rfl⟩ := h
  obtain ⟨rfl, rfl, rfl⟩ := args_text st ts _ k r _ _ _ hl hi hq hk h0 h1
  exact ⟨rfl, rfl, rfl⟩
theorem wd_app {a r : List UInt8} (ha : ∀ c ∈ a, isW c = true) (hr : Stop r) : wd (a ++ r) = a ∧ wrest (a ++ r) = r := by
  unfold wd wrest
  rw [List.takeWhile_append_of_pos ha, List.dropWhile_append_of_pos ha]
  cases r with
  | nil => simp
  | cons c r => simp [hr c rfl]
theorem ty_text {q r : List UInt8} {ty ty' : Ty} {l' : List UInt8} (hv : ty.valid = true) (h : rdTy q (ty.text ++ (q ++ r)) ty' l') : ty' = ty ∧ l' = r := by
  have hp := valid_text (s := ty.text ++ (q ++ r)) (r := q ++ r) (i := 0) hv rfl
  rw [Nat.zero_add] at hp
  rcases h with ⟨j, h1, rfl⟩ | ⟨h1, _⟩
  · rw [hp] at h1
    simp only [Option.some.injEq, Prod.mk.injEq] at h1
    obtain ⟨rfl, rfl⟩ := h1
    rw [List.drop_left, cut_app]
    exact ⟨rfl, rfl⟩
  · rw [hp] at h1; cases h1
theorem nm_word {a : ByteArray} (h : Nm a) : wordOf a.data.toList = .mk 1 a E0 0 Z0 Z0 [] := by
  obtain ⟨c, l, hl, h1, h2⟩ := nm_head h
  unfold wordOf
  rw [if_neg]
  intro ho
  obtain ⟨q0, _, q2⟩ := okNum_yes ho
  have hd := (itoa_digs q0).1 c (by rw [q2, hl]; simp)
  obtain ⟨d1, d2⟩ := hd
  omega
theorem num_word {n : Int} (h0 : 0 ≤ n) (h1 : n ≤ 10006) : wordOf (Lib.itoa n) = .mk 2 E0 E0 n Z0 Z0 [] := by
  unfold wordOf
  rw [if_pos (okNum_mk rfl h0 (by omega)), rd_itoa]
theorem head_word {F : RdF} {c : UInt8} {x : List UInt8} {k : Nat} {t : Tm} {k' : Nat} {l' : List UInt8} (h1 : c.toNat ≠ 35) (h2 : c.toNat ≠ 60) (h3 : c.toNat ≠ 126) (h4 : c.toNat ≠ 40) (h : rdForm F forms k (c :: x) t k' l') : rdWord k (c :: x) t k' l' := by
  have no : ∀ (d : UInt8) (q : List UInt8), c.toNat ≠ d.toNat → (d :: q).isPrefixOf (c :: x) = false := fun d q hd => by
    simp only [List.isPrefixOf, Bool.and_eq_false_imp, beq_iff_eq]
    exact fun e => absurd (congrArg UInt8.toNat e).symm hd
  unfold forms at h
  have h := rdForm_skip (no 35 _ h1) h
  have h := rdForm_skip (no 35 _ h1) h
  have h := rdForm_skip (no 60 _ h2) h
  have h := rdForm_skip (no 126 _ h3) h
  have h := rdForm_skip (no 40 _ h4) h
  have h := rdForm_skip (no 40 _ h4) h
  have h := rdForm_skip (no 40 _ h4) h
  have h := rdForm_skip (no 40 _ h4) h
  have h := rdForm_skip (no 40 _ h4) h
  have h := rdForm_skip (no 40 _ h4) h
  have h := rdForm_skip (no 40 _ h4) h
  have h := rdForm_skip (no 40 _ h4) h
  exact h
theorem paren_pair {F : RdF} {x : Tm} {L r : List UInt8} {k : Nat} {t : Tm} {k' : Nat} {l' : List UInt8} (hx : x.IsT) (hL : L = x.text ++ r) (hr : Stop r) (h : rdForm F forms k (40 :: L) t k' l') : rdPair F k L t k' l' := by
  obtain ⟨n1, n2, n3, n4, n5, n6, n7⟩ := kw_no (s := L) (i := 0) (shape hx) hL hr
  have up : ∀ (q : List UInt8), pre q L 0 = false → (40 :: q).isPrefixOf (40 :: L) = false := fun q hq => by
    unfold pre at hq
    simpa [List.isPrefixOf] using hq
  unfold forms at h
  have h := rdForm_skip (by rfl) h
  have h := rdForm_skip (by rfl) h
  have h := rdForm_skip (by rfl) h
  have h := rdForm_skip (by rfl) h
  have h := rdForm_skip (up _ n7) h
  have h := rdForm_skip (up _ n4) h
  have h := rdForm_skip (up _ n5) h
  have h := rdForm_skip (up _ n6) h
  have h := rdForm_skip (up _ n2) h
  have h := rdForm_skip (up _ n3) h
  have h := rdForm_skip (up _ n1) h
  exact rdForm_take (by rfl) h
theorem pair_text {F : RdF} {k0 : Nat} (st : Reads F k0) (x y : Tm) (c : UInt8) (k : Nat) (r : List UInt8) (t' : Tm) (k' : Nat) (l' : List UInt8) (hx : x.IsT) (hy : y.IsT) (hc : isW c = false) (hk : k + (x.nodes + y.nodes) ≤ 80) (h0 : k0 ≤ k)
    (h : rdPair F k (x.text ++ c :: (y.text ++ 41 :: r)) t' k' l') : t' = pairM [c] x y ∧ k' = k + (x.nodes + y.nodes) ∧ l' = r := by
  obtain ⟨x', k1, l1, y', l3, h1, h2, rfl, rfl⟩ := h
  obtain ⟨rfl, rfl, rfl⟩ := st x k _ _ _ _ hx (by omega) h0 (stop_cons hc) h1
  rw [show (c :: (y.text ++ 41 :: r)).take 1 = [c] from rfl, show cut [c] (c :: (y.text ++ 41 :: r)) = y.text ++ 41 :: r from cut_app [c] _] at h2
  obtain ⟨rfl, rfl, rfl⟩ := st y _ _ _ _ _ hy (by omega) (by omega) (stop_cons (by decide)) h2
  exact ⟨rfl, by omega, cut_app [41] r⟩
theorem nodesM1 (x : Tm) : nodesM [x] = x.nodes := by simp [nodesM]
theorem nodesM2 (x y : Tm) : nodesM [x, y] = x.nodes + y.nodes := by simp [nodesM]
theorem nodesM3 (x y z : Tm) : nodesM [x, y, z] = x.nodes + (y.nodes + z.nodes) := by simp [nodesM]
set_option maxRecDepth 10000 in
theorem rd_text : ∀ (D : Nat) (t : Tm) (k : Nat) (r : List UInt8) (t' : Tm) (k' : Nat) (l' : List UInt8), t.IsT → k + t.nodes ≤ 80 → 81 ≤ D + k → Stop r → RT D k (t.text ++ r) t' k' l' → t' = t ∧ k' = k + t.nodes ∧ l' = r
  | 0, t, k, r, t', k', l', _, hk, hD, _, _ => by omega
  | D + 1, t, k, r, t', k', l', hT, hk, hD, hr, h => by
    have hne := t.nodes_eq
    unfold RT at h
    rw [if_neg (by omega)] at h
    have st : Reads (RT D) (k + 1) := fun x k r t' k' l' hx h1 h2 hr h => rd_text D x k r t' k' l' hx h1 (by omega) hr h
    have hk1 : k + 1 + nodesM t.args ≤ 80 := by omega
    have sh := shape hT
    cases sh with
    | var a hn =>
      obtain ⟨c, l, hl, h1, h2⟩ := nm_head hn
      rw [t_var] at h
      have h3 := h
      rw [hl, List.cons_append] at h3
      have h4 := head_word (by omega) (by omega) (by omega) (by omega) h3
      rw [← List.cons_append, ← hl] at h4
      obtain ⟨rfl, rfl, rfl⟩ := h4
      obtain ⟨e1, e2⟩ := wd_app (nm_all hn) hr
      rw [e1, e2]
      exact ⟨nm_word hn, by rw [hne]; simp [Tm.args, nodesM], rfl⟩
    | int n h0 h1 =>
      obtain ⟨q1, q2⟩ := itoa_digs h0
      obtain ⟨c, l, hl⟩ := List.exists_cons_of_ne_nil q2
      obtain ⟨d1, d2⟩ := q1 c (by rw [hl]; simp)
      rw [t_int] at h
      have h3 := h
      rw [hl, List.cons_append] at h3
      have h4 := head_word (by omega) (by omega) (by omega) (by omega) h3
      rw [← List.cons_append, ← hl] at h4
      obtain ⟨rfl, rfl, rfl⟩ := h4
      obtain ⟨e1, e2⟩ := wd_app (fun c hc => dig_w (q1 c hc)) hr
      rw [e1, e2]
      exact ⟨num_word h0 h1, by rw [hne]; simp [Tm.args, nodesM], rfl⟩
    | bool n hb =>
      rw [t_bool] at h
      rcases hb with rfl | rfl
      · have h := rdForm_take (by rfl) h
        obtain ⟨ts, ⟨rfl, rfl, rfl⟩, rfl⟩ := h
        exact ⟨rfl, by rw [hne]; simp [Tm.args, nodesM], rfl⟩
      · have h := rdForm_skip (by rfl) h
        have h := rdForm_take (by rfl) h
        obtain ⟨ts, ⟨rfl, rfl, rfl⟩, rfl⟩ := h
        exact ⟨rfl, by rw [hne]; simp [Tm.args, nodesM], rfl⟩
    | splice x hx =>
      rw [t_splice] at h
      have h := rdForm_skip (by rfl) h
      have h := rdForm_skip (by rfl) h
      have h := rdForm_skip (by rfl) h
      have h := rdForm_take (by rfl) h
      obtain ⟨ts, ⟨t1, k1, l1, ts1, h1, ⟨rfl, rfl, rfl⟩, rfl⟩, rfl⟩ := h
      rw [show List.drop [(126 : UInt8)].length (126 :: x.text ++ r) = x.text ++ r from rfl] at h1
      have hk2 := hk1
      simp only [Tm.args, nodesM1] at hk2
      obtain ⟨rfl, rfl, rfl⟩ := st x (k + 1) r _ _ _ hx hk2 (Nat.le_refl _) hr h1
      exact ⟨rfl, by rw [hne]; simp only [Tm.args, nodesM1]; omega, by simp []⟩
    | quote x hx =>
      rw [t_quote] at h
      have h := rdForm_skip (by rfl) h
      have h := rdForm_skip (by rfl) h
      have h := rdForm_take (by rfl) h
      rw [show List.drop [(60 : UInt8)].length (60 :: (x.text ++ [62]) ++ r) = tailT (sg eQuote).tail [x] ++ r by simp [tailT, sg, sgN, Tm.kind]] at h
      obtain ⟨rfl, rfl, rfl⟩ := w_text st eQuote [x] (k + 1) r _ _ _ rfl (by simpa using hx) (by intro q hq; simp [sg, sgN, Tm.kind] at hq; exact ⟨62, hq, by decide⟩) hk1 (Nat.le_refl _) h
      exact ⟨rfl, by rw [hne]; simp only [Tm.args, nodesM1]; omega, rfl⟩
    | op1 a ha x hx =>
      have e : a = ⟨#[33]⟩ := by
        rw [ByteArray.toList_eq] at ha
        apply ByteArray.ext
        exact Array.toList_inj.1 ha
      subst e
      rw [t_op1] at h
      have h := rdForm_skip (by rfl) h
      have h := rdForm_skip (by rfl) h
      have h := rdForm_skip (by rfl) h
      have h := rdForm_skip (by rfl) h
      have h := rdForm_take (by rfl) h
      rw [show List.drop [(40 : UInt8), 33].length (40 :: 33 :: (x.text ++ [41]) ++ r) = tailT (sg eNot).tail [x] ++ r by simp [tailT, sg, sgN, Tm.kind, Tm.name, opAr]] at h
      obtain ⟨rfl, rfl, rfl⟩ := w_text st eNot [x] (k + 1) r _ _ _ (by simp [sg, sgN, Tm.kind, Tm.name, opAr]) (by simpa using hx) (by intro q hq; simp [sg, sgN, Tm.kind, Tm.name, opAr] at hq; exact ⟨41, hq, by decide⟩) hk1 (Nat.le_refl _) h
      exact ⟨rfl, by rw [hne]; simp only [Tm.args, nodesM1]; omega, rfl⟩
    | run x hx =>
      rw [t_run] at h
      have h := rdForm_skip (by rfl) h
      have h := rdForm_skip (by rfl) h
      have h := rdForm_skip (by rfl) h
      have h := rdForm_skip (by rfl) h
      have h := rdForm_skip (by rfl) h
      have h := rdForm_skip (by rfl) h
      have h := rdForm_take (by rfl) h
      rw [show List.drop [(40 : UInt8), 114, 117, 110, 32].length (40 :: 114 :: 117 :: 110 :: 32 :: (x.text ++ [41]) ++ r) = tailT (sg eRun).tail [x] ++ r by simp [tailT, sg, sgN, Tm.kind]] at h
      obtain ⟨rfl, rfl, rfl⟩ := w_text st eRun [x] (k + 1) r _ _ _ rfl (by simpa using hx) (by intro q hq; simp [sg, sgN, Tm.kind] at hq; exact ⟨41, hq, by decide⟩) hk1 (Nat.le_refl _) h
      exact ⟨rfl, by rw [hne]; simp only [Tm.args, nodesM1]; omega, rfl⟩
    | lift x hx =>
      rw [t_lift] at h
      have h := rdForm_skip (by rfl) h
      have h := rdForm_skip (by rfl) h
      have h := rdForm_skip (by rfl) h
      have h := rdForm_skip (by rfl) h
      have h := rdForm_skip (by rfl) h
      have h := rdForm_skip (by rfl) h
      have h := rdForm_skip (by rfl) h
      have h := rdForm_take (by rfl) h
      rw [show List.drop [(40 : UInt8), 108, 105, 102, 116, 32].length (40 :: 108 :: 105 :: 102 :: 116 :: 32 :: (x.text ++ [41]) ++ r) = tailT (sg eLift).tail [x] ++ r by simp [tailT, sg, sgN, Tm.kind]] at h
      obtain ⟨rfl, rfl, rfl⟩ := w_text st eLift [x] (k + 1) r _ _ _ rfl (by simpa using hx) (by intro q hq; simp [sg, sgN, Tm.kind] at hq; exact ⟨41, hq, by decide⟩) hk1 (Nat.le_refl _) h
      exact ⟨rfl, by rw [hne]; simp only [Tm.args, nodesM1]; omega, rfl⟩
    | cond x y z hx hy hz =>
      rw [t_cond] at h
      have h := rdForm_skip (by rfl) h
      have h := rdForm_skip (by rfl) h
      have h := rdForm_skip (by rfl) h
      have h := rdForm_skip (by rfl) h
      have h := rdForm_skip (by rfl) h
      have h := rdForm_take (by rfl) h
      rw [show List.drop [(40 : UInt8), 105, 102, 32].length (40 :: 105 :: 102 :: 32 :: (x.text ++ 32 :: (y.text ++ 32 :: (z.text ++ [41]))) ++ r) = tailT (sg eIf).tail [x, y, z] ++ r by simp [tailT, sg, sgN, Tm.kind]] at h
      obtain ⟨rfl, rfl, rfl⟩ := w_text st eIf [x, y, z] (k + 1) r _ _ _ rfl (by simpa using ⟨hx, hy, hz⟩) (by
        intro q hq
        simp [sg, sgN, Tm.kind] at hq
        rcases hq with rfl | rfl
        · exact ⟨32, rfl, by decide⟩
        · exact ⟨41, rfl, by decide⟩) hk1 (Nat.le_refl _) h
      exact ⟨rfl, by rw [hne]; simp only [Tm.args, nodesM3]; omega, rfl⟩
    | app x y hx hy =>
      rw [t_app] at h
      have h := paren_pair (L := x.text ++ 32 :: (y.text ++ 41 :: r)) hx rfl (stop_cons (by decide)) (by simpa using h)
      simp only [Tm.args, nodesM2] at hk1 hne
      obtain ⟨rfl, rfl, rfl⟩ := pair_text st x y 32 (k + 1) r _ _ _ hx hy (by decide) hk1 (Nat.le_refl _) h
      exact ⟨rfl, by rw [hne]; omega, rfl⟩
    | op2 a c ha hc x y hx hy =>
      obtain ⟨hc1, hc2⟩ := op_stop hc
      have had : a.data.toList = [c] := by rw [← ByteArray.toList_eq]; exact ha
      have e : a = ⟨#[c]⟩ := by
        apply ByteArray.ext
        exact Array.toList_inj.1 had
      rw [t_op2, had] at h
      have h := paren_pair (L := x.text ++ c :: (y.text ++ 41 :: r)) hx rfl (stop_cons hc1) (by simpa using h)
      simp only [Tm.args, nodesM2] at hk1 hne
      obtain ⟨rfl, rfl, rfl⟩ := pair_text st x y c (k + 1) r _ _ _ hx hy hc1 hk1 (Nat.le_refl _) h
      exact ⟨by unfold pairM; rw [if_neg (by simpa using hc2), e], by rw [hne]; omega, rfl⟩
    | bind a hn x y hx hy =>
      rw [t_bind] at h
      have h := rdForm_skip (by rfl) h
      have h := rdForm_skip (by rfl) h
      have h := rdForm_skip (by rfl) h
      have h := rdForm_skip (by rfl) h
      have h := rdForm_skip (by rfl) h
      have h := rdForm_skip (by rfl) h
      have h := rdForm_skip (by rfl) h
      have h := rdForm_skip (by rfl) h
      have h := rdForm_take (by rfl) h
      rw [show List.drop [(40 : UInt8), 108, 101, 116, 32].length (40 :: 108 :: 101 :: 116 :: 32 :: (a.data.toList ++ 61 :: (x.text ++ 32 :: (y.text ++ [41]))) ++ r) = a.data.toList ++ 61 :: (x.text ++ 32 :: (y.text ++ 41 :: r)) by simp] at h
      obtain ⟨e1, e2⟩ := wd_app (r := 61 :: (x.text ++ 32 :: (y.text ++ 41 :: r))) (nm_all hn) (stop_cons (by decide))
      unfold rdLet at h
      rw [e1, e2, show cut [61] (61 :: (x.text ++ 32 :: (y.text ++ 41 :: r))) = tailT (sg (eLet a.data.toList)).tail [x, y] ++ r by rw [show (61 :: (x.text ++ 32 :: (y.text ++ 41 :: r))) = [61] ++ (x.text ++ 32 :: (y.text ++ 41 :: r)) from rfl, cut_app]; simp [tailT, sg, sgN, Tm.kind]] at h
      obtain ⟨rfl, rfl, rfl⟩ := w_text st (eLet a.data.toList) [x, y] (k + 1) r _ _ _ rfl (by simpa using ⟨hx, hy⟩) (by
        intro q hq
        simp [sg, sgN, Tm.kind] at hq
        rcases hq with rfl | rfl
        · exact ⟨32, rfl, by decide⟩
        · exact ⟨41, rfl, by decide⟩) hk1 (Nat.le_refl _) h
      exact ⟨rfl, by rw [hne]; simp only [Tm.args, nodesM2]; omega, rfl⟩
    | lam a hn ty hv x hx =>
      rw [t_lam] at h
      have h := rdForm_skip (by rfl) h
      have h := rdForm_skip (by rfl) h
      have h := rdForm_skip (by rfl) h
      have h := rdForm_skip (by rfl) h
      have h := rdForm_skip (by rfl) h
      have h := rdForm_skip (by rfl) h
      have h := rdForm_skip (by rfl) h
      have h := rdForm_skip (by rfl) h
      have h := rdForm_skip (by rfl) h
      have h := rdForm_skip (by rfl) h
      have h := rdForm_take (by rfl) h
      rw [show List.drop [(40 : UInt8), 92].length (40 :: 92 :: (a.data.toList ++ 58 :: (ty.text ++ 46 :: (x.text ++ [41]))) ++ r) = a.data.toList ++ 58 :: (ty.text ++ 46 :: (x.text ++ 41 :: r)) by simp] at h
      obtain ⟨e1, e2⟩ := wd_app (r := 58 :: (ty.text ++ 46 :: (x.text ++ 41 :: r))) (nm_all hn) (stop_cons (by decide))
      unfold rdLam at h
      obtain ⟨ty', l1, h1, h2⟩ := h
      rw [e1] at h2
      rw [e2, show cut [58] (58 :: (ty.text ++ 46 :: (x.text ++ 41 :: r))) = ty.text ++ ([46] ++ (x.text ++ 41 :: r)) from cut_app [58] _] at h1
      obtain ⟨rfl, rfl⟩ := ty_text hv h1
      rw [show x.text ++ 41 :: r = tailT (sg (eLam a.data.toList ty')).tail [x] ++ r by simp [tailT, sg, sgN, Tm.kind]] at h2
      obtain ⟨rfl, rfl, rfl⟩ := w_text st (eLam a.data.toList ty') [x] (k + 1) r _ _ _ rfl (by simpa using hx) (by intro q hq; simp [sg, sgN, Tm.kind] at hq; exact ⟨41, hq, by decide⟩) hk1 (Nat.le_refl _) h2
      exact ⟨rfl, by rw [hne]; simp only [Tm.args, nodesM1]; omega, rfl⟩
    | fix a b ha hb hab ty res hv hv2 x hx =>
      rw [t_fix] at h
      have h := rdForm_skip (by rfl) h
      have h := rdForm_skip (by rfl) h
      have h := rdForm_skip (by rfl) h
      have h := rdForm_skip (by rfl) h
      have h := rdForm_skip (by rfl) h
      have h := rdForm_skip (by rfl) h
      have h := rdForm_skip (by rfl) h
      have h := rdForm_skip (by rfl) h
      have h := rdForm_skip (by rfl) h
      have h := rdForm_take (by rfl) h
      rw [show List.drop [(40 : UInt8), 114, 101, 99, 32].length (40 :: 114 :: 101 :: 99 :: 32 :: (a.data.toList ++ 32 :: (b.data.toList ++ 58 :: (ty.text ++ 62 :: (res.text ++ 46 :: (x.text ++ [41]))))) ++ r) = a.data.toList ++ 32 :: (b.data.toList ++ 58 :: (ty.text ++ 62 :: (res.text ++ 46 :: (x.text ++ 41 :: r)))) by simp] at h
      obtain ⟨e1, e2⟩ := wd_app (r := 32 :: (b.data.toList ++ 58 :: (ty.text ++ 62 :: (res.text ++ 46 :: (x.text ++ 41 :: r))))) (nm_all ha) (stop_cons (by decide))
      unfold rdRec at h
      obtain ⟨m, ty', l1, res', l2, rfl, h1, h2, h3⟩ := h
      obtain ⟨e3, e4⟩ := wd_app (r := 58 :: (ty.text ++ 62 :: (res.text ++ 46 :: (x.text ++ 41 :: r)))) (nm_all hb) (stop_cons (by decide))
      have e5 : cut [32] (wrest (a.data.toList ++ 32 :: (b.data.toList ++ 58 :: (ty.text ++ 62 :: (res.text ++ 46 :: (x.text ++ 41 :: r)))))) = b.data.toList ++ 58 :: (ty.text ++ 62 :: (res.text ++ 46 :: (x.text ++ 41 :: r))) := by rw [e2]; exact cut_app [32] _
      rw [e1, e5, e3] at h3
      rw [e5, e4, show cut [58] (58 :: (ty.text ++ 62 :: (res.text ++ 46 :: (x.text ++ 41 :: r)))) = ty.text ++ ([62] ++ (res.text ++ 46 :: (x.text ++ 41 :: r))) from cut_app [58] _] at h1
      obtain ⟨rfl, rfl⟩ := ty_text hv h1
      rw [show res.text ++ 46 :: (x.text ++ 41 :: r) = res.text ++ ([46] ++ (x.text ++ 41 :: r)) from rfl] at h2
      obtain ⟨rfl, rfl⟩ := ty_text hv2 h2
      rw [show x.text ++ 41 :: r = tailT (sg (eRec a.data.toList b.data.toList ty' res')).tail [x] ++ r by simp [tailT, sg, sgN, Tm.kind]] at h3
      obtain ⟨rfl, rfl, rfl⟩ := w_text st (eRec a.data.toList b.data.toList ty' res') [x] (k + 1) r _ _ _ rfl (by simpa using hx) (by intro q hq; simp [sg, sgN, Tm.kind] at hq; exact ⟨41, hq, by decide⟩) hk1 (Nat.le_refl _) h3
      exact ⟨rfl, by rw [hne]; simp only [Tm.args, nodesM1]; omega, rfl⟩
end Go.Proofs.YtjobmgbchpoheaaGreatDoor
