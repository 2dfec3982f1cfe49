/-
  Several texts of the proof in one (each says below what it holds): TmComp TmRead.
-/
import Derived.Test.YtjobmgbchpoheaaGreatDoorPB12
namespace Go.Proofs.YtjobmgbchpoheaaGreatDoor
open Go Go.RowKit

theorem drop_cons {s r : List UInt8} {i : Nat} {c : UInt8} (h : s.drop i = c :: r) : s[i]? = some c ∧ s.drop (i + 1) = r := by
  have := drop_more (x := []) (s := s) (i := i) (c := c) (r := r) h
  simpa using this
theorem depth1 (k : Int) (a b : ByteArray) (n : Int) (ty res : Ty) (x : Tm) : (Tm.mk k a b n ty res [x]).depth = 1 + x.depth := by simp [Tm.depth, depthM]
theorem depth2 (k : Int) (a b : ByteArray) (n : Int) (ty res : Ty) (x y : Tm) : (Tm.mk k a b n ty res [x, y]).depth = 1 + max x.depth y.depth := by simp [Tm.depth, depthM]
theorem depth3 (k : Int) (a b : ByteArray) (n : Int) (ty res : Ty) (x y z : Tm) : (Tm.mk k a b n ty res [x, y, z]).depth = 1 + max x.depth (max y.depth z.depth) := by simp [Tm.depth, depthM]
theorem valid_text {s r : List UInt8} {t : Ty} {i : Nat} (h : t.valid = true) (hs : s.drop i = t.text ++ r) : pty s 8 i = some (t, i + t.text.length) := by
  obtain ⟨_, h2, h3⟩ := (valid_iff t).1 h
  exact pty_text s 8 t i r h3 h2 hs
theorem mk_nil (k n : Int) (ts : List Tm) : mkT k [] n ts = .mk k E0 E0 n Z0 Z0 ts := rfl
theorem mk_name (k n : Int) (a : ByteArray) (ts : List Tm) : mkT k a.data.toList n ts = .mk k a E0 n Z0 Z0 ts := rfl
theorem mk_toList {a : ByteArray} {l : List UInt8} (k n : Int) (ts : List Tm) (h : a.toList = l) : mkT k l n ts = .mk k a E0 n Z0 Z0 ts := by
  rw [← h, ByteArray.toList_eq]; rfl
theorem op_stop {c : UInt8} (h : opAr [c] = 2) : isW c = false ∧ c ≠ 32 := by
  unfold opAr at h
  repeat' split at h
  all_goals first
    | (rename_i hh; simp only [List.cons.injEq, and_true] at hh; subst hh; decide)
    | omega
set_option maxRecDepth 10000 in
theorem pTm_text (s : List UInt8) : ∀ (D : Nat) (t : Tm) (i : Nat) (r : List UInt8), t.IsT → t.depth ≤ D → s.drop i = t.text ++ r → Stop r → pTm s D i = some (t, i + t.text.length)
  | 0, t, i, r, _, hd, _, _ => by rw [t.depth_eq] at hd; omega
  | D + 1, t, i, r, hT, hd, hs, hr => by
    have sh := shape hT
    have st : ∀ (x : Tm) (i : Nat) (e : UInt8) (r' : List UInt8), x.IsT → x.depth ≤ D → s.drop i = x.text ++ e :: r' → isW e = false → pTm s D i = some (x, i + x.text.length) ∧ s[i + x.text.length]? = some e ∧ s.drop (i + x.text.length + 1) = r' :=
      fun x i e r' hx hd hs he => ⟨pTm_text s D x i _ hx hd hs (stop_cons he), (drop_more hs).1, (drop_more hs).2⟩
    obtain ⟨c0, l0, hl0, hc0⟩ := text_head sh
    have hd0 : s.drop i = c0 :: (l0 ++ r) := by rw [hs, hl0]; rfl
    obtain ⟨hat, _⟩ := drop_cons hd0
    have hlt : ¬ s.length ≤ i := fun e => by rw [List.getElem?_eq_none e] at hat; cases hat
    rw [pTm, if_neg hlt]
    have no : ∀ {q : List UInt8} {d : UInt8}, c0.toNat ≠ d.toNat → pre (d :: q) s i = false := fun h => pre_head hd0 (ne_of_nat h)
    cases sh with
    | var a h =>
      obtain ⟨c, l, hl, h1, h2⟩ := nm_head h
      obtain rfl : c = c0 := by rw [t_var, hl] at hl0; exact (List.cons.inj hl0).1
      rw [if_neg (by rw [no (d := 35) (by simp; omega)]; decide)]
      rw [if_neg (by rw [no (d := 35) (by simp; omega)]; decide)]
      rw [if_neg (by rw [no (d := 126) (by simp; omega)]; decide)]
      rw [if_neg (by rw [no (d := 60) (by simp; omega)]; decide)]
      rw [if_neg (by rw [no (d := 40) (by simp; omega)]; decide)]
      have hw : word s i = a.data.toList := word_at (by rw [hs, t_var]) (nm_all h) hr
      rw [if_neg (by rw [hat]; simp; omega), hw, t_var]
      rfl
    | int n h0 h1 =>
      obtain ⟨h2, h3⟩ := itoa_digs h0
      have hc : isDig c0 := h2 c0 (by rw [t_int] at hl0; rw [hl0]; simp)
      obtain ⟨q1, q2⟩ := hc
      rw [if_neg (by rw [no (d := 35) (by simp; omega)]; decide)]
      rw [if_neg (by rw [no (d := 35) (by simp; omega)]; decide)]
      rw [if_neg (by rw [no (d := 126) (by simp; omega)]; decide)]
      rw [if_neg (by rw [no (d := 60) (by simp; omega)]; decide)]
      rw [if_neg (by rw [no (d := 40) (by simp; omega)]; decide)]
      have hw : word s i = Lib.itoa n := word_at (by rw [hs, t_int]) (fun c hc => dig_w (h2 c hc)) hr
      rw [if_pos (by rw [hat]; simp; omega), hw, if_pos (okNum_mk rfl h0 (by omega)), rd_itoa, t_int]
      rfl
    | bool n h =>
      rw [t_bool] at hs
      rcases h with rfl | rfl
      · have hp : pre [35, 116] s i = false := by
          unfold pre
          rw [hs]
          rfl
        rw [if_neg (by rw [hp]; decide), if_pos (pre_yes (r := r) (by rw [hs]; rfl)), t_bool]
        rfl
      · rw [if_pos (pre_yes (r := r) (by rw [hs]; rfl)), t_bool]
        rfl
    | splice x hx =>
      obtain rfl : c0 = 126 := by rw [t_splice] at hl0; exact (List.cons.inj hl0).1.symm
      rw [if_neg (by rw [no (d := 35) (by decide)]; decide)]
      rw [if_neg (by rw [no (d := 35) (by decide)]; decide)]
      rw [if_pos (pre_yes (q := [126]) hd0)]
      rw [t_splice] at hs
      rw [depth1] at hd
      obtain ⟨_, h2⟩ := drop_cons hs
      rw [pTm_text s D x (i + 1) r hx (by omega) h2 hr]
      exact res rfl (by rw [t_splice]; simp; omega)
    | quote x hx =>
      obtain rfl : c0 = 60 := by rw [t_quote] at hl0; exact (List.cons.inj hl0).1.symm
      rw [if_neg (by rw [no (d := 35) (by decide)]; decide)]
      rw [if_neg (by rw [no (d := 35) (by decide)]; decide)]
      rw [if_neg (by rw [no (d := 126) (by decide)]; decide)]
      rw [if_pos (pre_yes (q := [60]) hd0)]
      rw [t_quote] at hs
      rw [depth1] at hd
      obtain ⟨_, h2⟩ := drop_cons (c := 60) (r := x.text ++ 62 :: r) (by rw [hs]; simp)
      obtain ⟨h3, h4, _⟩ := st x (i + 1) 62 r hx (by omega) h2 (by decide)
      rw [pts1 h3 h4]
      exact res rfl (by rw [t_quote]; simp; omega)
    | op1 a ha x hx =>
      obtain rfl : c0 = 40 := by rw [t_op1] at hl0; exact (List.cons.inj hl0).1.symm
      rw [if_neg (by rw [no (d := 35) (by decide)]; decide)]
      rw [if_neg (by rw [no (d := 35) (by decide)]; decide)]
      rw [if_neg (by rw [no (d := 126) (by decide)]; decide)]
      rw [if_neg (by rw [no (d := 60) (by decide)]; decide)]
      rw [if_pos (pre_yes (q := [40]) hd0)]
      rw [t_op1] at hs
      obtain ⟨_, h2⟩ := drop_cons (c := 40) (r := 33 :: (x.text ++ 41 :: r)) (by rw [hs]; simp)
      unfold pOpen
      rw [if_neg (by rw [show pre [92] s (i + 1) = false from pre_head h2 (by decide)]; decide)]
      rw [if_neg (by rw [show pre kLet s (i + 1) = false from pre_head h2 (by decide)]; decide)]
      rw [if_neg (by rw [show pre kRec s (i + 1) = false from pre_head h2 (by decide)]; decide)]
      rw [if_neg (by rw [show pre kIf s (i + 1) = false from pre_head h2 (by decide)]; decide)]
      rw [if_neg (by rw [show pre kRun s (i + 1) = false from pre_head h2 (by decide)]; decide)]
      rw [if_neg (by rw [show pre kLift s (i + 1) = false from pre_head h2 (by decide)]; decide)]
      rw [if_pos (pre_yes (q := [33]) h2)]
      rw [depth1] at hd
      obtain ⟨_, h3⟩ := drop_cons h2
      obtain ⟨h4, h5, _⟩ := st x (i + 1 + 1) 41 r hx (by omega) h3 (by decide)
      rw [pts1 h4 h5]
      exact res (mk_toList _ _ _ ha) (by rw [t_op1]; simp; omega)
    | op2 a c ha hc x y hx hy =>
      obtain ⟨hc1, hc2⟩ := op_stop hc
      have had : a.data.toList = [c] := by rw [← ByteArray.toList_eq]; exact ha
      obtain rfl : c0 = 40 := by rw [t_op2] at hl0; exact (List.cons.inj hl0).1.symm
      rw [if_neg (by rw [no (d := 35) (by decide)]; decide)]
      rw [if_neg (by rw [no (d := 35) (by decide)]; decide)]
      rw [if_neg (by rw [no (d := 126) (by decide)]; decide)]
      rw [if_neg (by rw [no (d := 60) (by decide)]; decide)]
      rw [if_pos (pre_yes (q := [40]) hd0)]
      rw [t_op2, had] at hs
      obtain ⟨_, h2⟩ := drop_cons (c := 40) (r := x.text ++ c :: (y.text ++ 41 :: r)) (by rw [hs]; simp)
      unfold pOpen
      obtain ⟨n1, n2, n3, n4, n5, n6, n7⟩ := kw_no (shape hx) h2 (stop_cons hc1)
      rw [if_neg (by rw [n1]; decide)]
      rw [if_neg (by rw [n2]; decide)]
      rw [if_neg (by rw [n3]; decide)]
      rw [if_neg (by rw [n4]; decide)]
      rw [if_neg (by rw [n5]; decide)]
      rw [if_neg (by rw [n6]; decide)]
      rw [if_neg (by rw [n7]; decide)]
      rw [depth2] at hd
      obtain ⟨h3, h4, h5⟩ := st x (i + 1) c _ hx (by omega) h2 hc1
      obtain ⟨h6, h7, _⟩ := st y _ 41 r hy (by omega) h5 (by decide)
      rw [h3]
      unfold pRest
      dsimp only
      rw [if_neg (by rw [h4]; simpa using hc2), h4]
      dsimp only
      rw [if_pos hc, pts1 h6 h7]
      exact res (mk_toList _ _ _ ha) (by rw [t_op2, had]; simp; omega)
    | app x y hx hy =>
      obtain rfl : c0 = 40 := by rw [t_app] at hl0; exact (List.cons.inj hl0).1.symm
      rw [if_neg (by rw [no (d := 35) (by decide)]; decide)]
      rw [if_neg (by rw [no (d := 35) (by decide)]; decide)]
      rw [if_neg (by rw [no (d := 126) (by decide)]; decide)]
      rw [if_neg (by rw [no (d := 60) (by decide)]; decide)]
      rw [if_pos (pre_yes (q := [40]) hd0)]
      rw [t_app] at hs
      obtain ⟨_, h2⟩ := drop_cons (c := 40) (r := x.text ++ 32 :: (y.text ++ 41 :: r)) (by rw [hs]; simp)
      unfold pOpen
      obtain ⟨n1, n2, n3, n4, n5, n6, n7⟩ := kw_no (shape hx) h2 (stop_cons (by decide))
      rw [if_neg (by rw [n1]; decide)]
      rw [if_neg (by rw [n2]; decide)]
      rw [if_neg (by rw [n3]; decide)]
      rw [if_neg (by rw [n4]; decide)]
      rw [if_neg (by rw [n5]; decide)]
      rw [if_neg (by rw [n6]; decide)]
      rw [if_neg (by rw [n7]; decide)]
      rw [depth2] at hd
      obtain ⟨h3, h4, h5⟩ := st x (i + 1) 32 _ hx (by omega) h2 (by decide)
      obtain ⟨h6, h7, _⟩ := st y _ 41 r hy (by omega) h5 (by decide)
      rw [h3]
      unfold pRest
      dsimp only
      rw [if_pos h4, pts1 h6 h7]
      exact res rfl (by rw [t_app]; simp; omega)
    | cond x y z hx hy hz =>
      obtain rfl : c0 = 40 := by rw [t_cond] at hl0; exact (List.cons.inj hl0).1.symm
      rw [if_neg (by rw [no (d := 35) (by decide)]; decide)]
      rw [if_neg (by rw [no (d := 35) (by decide)]; decide)]
      rw [if_neg (by rw [no (d := 126) (by decide)]; decide)]
      rw [if_neg (by rw [no (d := 60) (by decide)]; decide)]
      rw [if_pos (pre_yes (q := [40]) hd0)]
      rw [t_cond] at hs
      obtain ⟨_, h2⟩ := drop_cons (c := 40) (r := 105 :: 102 :: 32 :: (x.text ++ 32 :: (y.text ++ 32 :: (z.text ++ 41 :: r)))) (by rw [hs]; simp)
      unfold pOpen
      rw [if_neg (by rw [show pre [92] s (i + 1) = false from pre_head h2 (by decide)]; decide)]
      rw [if_neg (by rw [show pre kLet s (i + 1) = false from pre_head h2 (by decide)]; decide)]
      rw [if_neg (by rw [show pre kRec s (i + 1) = false from pre_head h2 (by decide)]; decide)]
      have h3 : s.drop (i + 1 + 3) = (x.text ++ 32 :: (y.text ++ 32 :: (z.text ++ 41 :: r))) := drop_app (x := [105, 102, 32]) (by rw [h2]; rfl)
      rw [if_pos (pre_yes (q := kIf) (r := (x.text ++ 32 :: (y.text ++ 32 :: (z.text ++ 41 :: r)))) (by rw [h2]; rfl))]
      rw [depth3] at hd
      obtain ⟨a1, a2, a3⟩ := st x _ 32 _ hx (by omega) h3 (by decide)
      obtain ⟨a4, a5, a6⟩ := st y _ 32 _ hy (by omega) a3 (by decide)
      obtain ⟨a7, a8, _⟩ := st z _ 41 r hz (by omega) a6 (by decide)
      rw [pts3 a1 a2 a4 a5 a7 a8]
      exact res rfl (by rw [t_cond]; simp; omega)
    | run x hx =>
      obtain rfl : c0 = 40 := by rw [t_run] at hl0; exact (List.cons.inj hl0).1.symm
      rw [if_neg (by rw [no (d := 35) (by decide)]; decide)]
      rw [if_neg (by rw [no (d := 35) (by decide)]; decide)]
      rw [if_neg (by rw [no (d := 126) (by decide)]; decide)]
      rw [if_neg (by rw [no (d := 60) (by decide)]; decide)]
      rw [if_pos (pre_yes (q := [40]) hd0)]
      rw [t_run] at hs
      obtain ⟨_, h2⟩ := drop_cons (c := 40) (r := 114 :: 117 :: 110 :: 32 :: (x.text ++ 41 :: r)) (by rw [hs]; simp)
      unfold pOpen
      rw [if_neg (by rw [show pre [92] s (i + 1) = false from pre_head h2 (by decide)]; decide)]
      rw [if_neg (by rw [show pre kLet s (i + 1) = false from pre_head h2 (by decide)]; decide)]
      rw [if_neg (by rw [show pre kRec s (i + 1) = false from by unfold pre; rw [h2]; rfl]; decide)]
      rw [if_neg (by rw [show pre kIf s (i + 1) = false from pre_head h2 (by decide)]; decide)]
      have h3 : s.drop (i + 1 + 4) = (x.text ++ 41 :: r) := drop_app (x := [114, 117, 110, 32]) (by rw [h2]; rfl)
      rw [if_pos (pre_yes (q := kRun) (r := (x.text ++ 41 :: r)) (by rw [h2]; rfl))]
      rw [depth1] at hd
      obtain ⟨a1, a2, _⟩ := st x _ 41 r hx (by omega) h3 (by decide)
      rw [pts1 a1 a2]
      exact res rfl (by rw [t_run]; simp; omega)
    | lift x hx =>
      obtain rfl : c0 = 40 := by rw [t_lift] at hl0; exact (List.cons.inj hl0).1.symm
      rw [if_neg (by rw [no (d := 35) (by decide)]; decide)]
      rw [if_neg (by rw [no (d := 35) (by decide)]; decide)]
      rw [if_neg (by rw [no (d := 126) (by decide)]; decide)]
      rw [if_neg (by rw [no (d := 60) (by decide)]; decide)]
      rw [if_pos (pre_yes (q := [40]) hd0)]
      rw [t_lift] at hs
      obtain ⟨_, h2⟩ := drop_cons (c := 40) (r := 108 :: 105 :: 102 :: 116 :: 32 :: (x.text ++ 41 :: r)) (by rw [hs]; simp)
      unfold pOpen
      rw [if_neg (by rw [show pre [92] s (i + 1) = false from pre_head h2 (by decide)]; decide)]
      rw [if_neg (by rw [show pre kLet s (i + 1) = false from by unfold pre; rw [h2]; rfl]; decide)]
      rw [if_neg (by rw [show pre kRec s (i + 1) = false from pre_head h2 (by decide)]; decide)]
      rw [if_neg (by rw [show pre kIf s (i + 1) = false from pre_head h2 (by decide)]; decide)]
      rw [if_neg (by rw [show pre kRun s (i + 1) = false from pre_head h2 (by decide)]; decide)]
      have h3 : s.drop (i + 1 + 5) = (x.text ++ 41 :: r) := drop_app (x := [108, 105, 102, 116, 32]) (by rw [h2]; rfl)
      rw [if_pos (pre_yes (q := kLift) (r := (x.text ++ 41 :: r)) (by rw [h2]; rfl))]
      rw [depth1] at hd
      obtain ⟨a1, a2, _⟩ := st x _ 41 r hx (by omega) h3 (by decide)
      rw [pts1 a1 a2]
      exact res rfl (by rw [t_lift]; simp; omega)
    | bind a h x y hx hy =>
      obtain rfl : c0 = 40 := by rw [t_bind] at hl0; exact (List.cons.inj hl0).1.symm
      rw [if_neg (by rw [no (d := 35) (by decide)]; decide)]
      rw [if_neg (by rw [no (d := 35) (by decide)]; decide)]
      rw [if_neg (by rw [no (d := 126) (by decide)]; decide)]
      rw [if_neg (by rw [no (d := 60) (by decide)]; decide)]
      rw [if_pos (pre_yes (q := [40]) hd0)]
      rw [t_bind] at hs
      obtain ⟨_, h2⟩ := drop_cons (c := 40) (r := 108 :: 101 :: 116 :: 32 :: (a.data.toList ++ 61 :: (x.text ++ 32 :: (y.text ++ 41 :: r)))) (by rw [hs]; simp)
      unfold pOpen
      rw [if_neg (by rw [show pre [92] s (i + 1) = false from pre_head h2 (by decide)]; decide)]
      have h3 : s.drop (i + 1 + 4) = (a.data.toList ++ 61 :: (x.text ++ 32 :: (y.text ++ 41 :: r))) := drop_app (x := [108, 101, 116, 32]) (by rw [h2]; rfl)
      rw [if_pos (pre_yes (q := kLet) (r := (a.data.toList ++ 61 :: (x.text ++ 32 :: (y.text ++ 41 :: r)))) (by rw [h2]; rfl))]
      have hw : word s (i + 1 + 4) = a.data.toList := word_at h3 (nm_all h) (stop_cons (by decide))
      obtain ⟨b1, b2⟩ := drop_more h3
      unfold pLet
      rw [hw, if_pos b1]
      rw [depth2] at hd
      obtain ⟨a1, a2, a3⟩ := st x _ 32 _ hx (by omega) b2 (by decide)
      obtain ⟨a4, a5, _⟩ := st y _ 41 r hy (by omega) a3 (by decide)
      rw [pts2 a1 a2 a4 a5]
      exact res (mk_name _ _ a _) (by rw [t_bind]; simp; omega)
    | lam a h ty ht x hx =>
      obtain rfl : c0 = 40 := by rw [t_lam] at hl0; exact (List.cons.inj hl0).1.symm
      rw [if_neg (by rw [no (d := 35) (by decide)]; decide)]
      rw [if_neg (by rw [no (d := 35) (by decide)]; decide)]
      rw [if_neg (by rw [no (d := 126) (by decide)]; decide)]
      rw [if_neg (by rw [no (d := 60) (by decide)]; decide)]
      rw [if_pos (pre_yes (q := [40]) hd0)]
      rw [t_lam] at hs
      obtain ⟨_, h2⟩ := drop_cons (c := 40) (r := 92 :: (a.data.toList ++ 58 :: (ty.text ++ 46 :: (x.text ++ 41 :: r)))) (by rw [hs]; simp)
      unfold pOpen
      rw [if_pos (pre_yes (q := [92]) h2)]
      obtain ⟨_, h3⟩ := drop_cons h2
      have hw : word s (i + 1 + 1) = a.data.toList := word_at h3 (nm_all h) (stop_cons (by decide))
      obtain ⟨b1, b2⟩ := drop_more h3
      obtain ⟨b3, b4⟩ := drop_more b2
      unfold pLam
      rw [hw, if_pos b1, valid_text ht b2]
      dsimp only
      rw [if_pos b3]
      rw [depth1] at hd
      obtain ⟨a1, a2, _⟩ := st x _ 41 r hx (by omega) b4 (by decide)
      rw [pts1 a1 a2]
      exact res rfl (by rw [t_lam]; simp; omega)
    | fix a b ha hb hab ty res' ht hr' x hx =>
      obtain rfl : c0 = 40 := by rw [t_fix] at hl0; exact (List.cons.inj hl0).1.symm
      rw [if_neg (by rw [no (d := 35) (by decide)]; decide)]
      rw [if_neg (by rw [no (d := 35) (by decide)]; decide)]
      rw [if_neg (by rw [no (d := 126) (by decide)]; decide)]
      rw [if_neg (by rw [no (d := 60) (by decide)]; decide)]
      rw [if_pos (pre_yes (q := [40]) hd0)]
      rw [t_fix] at hs
      obtain ⟨_, h2⟩ := drop_cons (c := 40) (r := 114 :: 101 :: 99 :: 32 :: (a.data.toList ++ 32 :: (b.data.toList ++ 58 :: (ty.text ++ 62 :: (res'.text ++ 46 :: (x.text ++ 41 :: r)))))) (by rw [hs]; simp)
      unfold pOpen
      rw [if_neg (by rw [show pre [92] s (i + 1) = false from pre_head h2 (by decide)]; decide)]
      rw [if_neg (by rw [show pre kLet s (i + 1) = false from pre_head h2 (by decide)]; decide)]
      have h3 : s.drop (i + 1 + 4) = (a.data.toList ++ 32 :: (b.data.toList ++ 58 :: (ty.text ++ 62 :: (res'.text ++ 46 :: (x.text ++ 41 :: r))))) := drop_app (x := [114, 101, 99, 32]) (by rw [h2]; rfl)
      rw [if_pos (pre_yes (q := kRec) (r := (a.data.toList ++ 32 :: (b.data.toList ++ 58 :: (ty.text ++ 62 :: (res'.text ++ 46 :: (x.text ++ 41 :: r)))))) (by rw [h2]; rfl))]
      have hw : word s (i + 1 + 4) = a.data.toList := word_at h3 (nm_all ha) (stop_cons (by decide))
      obtain ⟨b1, b2⟩ := drop_more h3
      unfold pRec
      rw [hw, if_pos b1]
      have hw2 := word_at b2 (nm_all hb) (stop_cons (by decide))
      obtain ⟨b3, b4⟩ := drop_more b2
      obtain ⟨b5, b6⟩ := drop_more b4
      obtain ⟨b7, b8⟩ := drop_more b6
      unfold pRec2
      rw [hw2, if_pos b3, valid_text ht b4]
      dsimp only
      rw [if_pos b5, valid_text hr' b6]
      dsimp only
      rw [if_pos b7]
      rw [depth1] at hd
      obtain ⟨a1, a2, _⟩ := st x _ 41 r hx (by omega) b8 (by decide)
      rw [pts1 a1 a2]
      exact res rfl (by rw [t_fix]; simp; omega)
def parseM (s : List UInt8) (t : Tm) : Prop := t.Valid ∧ t.text = s
theorem parseM_pTm {s : List UInt8} {t : Tm} (h : parseM s t) : pTm s 20 0 = some (t, s.length) := by
  obtain ⟨⟨_, h2, h3⟩, rfl⟩ := h
  have := pTm_text t.text 20 t 0 [] h3 h2 (by simp) (fun c hc => by simp at hc)
  simpa using this
theorem parseM_one {s : List UInt8} {t u : Tm} (h : parseM s t) (h2 : parseM s u) : t = u := by
  have := (parseM_pTm h).symm.trans (parseM_pTm h2)
  simpa using this
end Go.Proofs.YtjobmgbchpoheaaGreatDoor
namespace Go.Proofs.YtjobmgbchpoheaaGreatDoor
open Go Go.RowKit

def wd (l : List UInt8) : List UInt8 := l.takeWhile isW
def wrest (l : List UInt8) : List UInt8 := l.dropWhile isW
theorem wd_wrest (l : List UInt8) : wd l ++ wrest l = l := List.takeWhile_append_dropWhile
theorem wd_len (l : List UInt8) : (wd l).length + (wrest l).length = l.length := by
  rw [← List.length_append, wd_wrest]
def cut (q l : List UInt8) : List UInt8 := if q.isPrefixOf l then l.drop q.length else l
theorem cut_app (q r : List UInt8) : cut q (q ++ r) = r := by
  unfold cut
  rw [if_pos (by rw [List.isPrefixOf_iff_prefix]; exact List.prefix_append q r), List.drop_left]
theorem cut_le (q l : List UInt8) : (cut q l).length ≤ l.length := by
  unfold cut
  split
  · rw [List.length_drop]; omega
  · exact Nat.le_refl _
def sgN (k : Int) (a o : List UInt8) (n : Int) (ty res : Ty) : List (List UInt8) :=
  if k = 1 then [a]
  else if k = 2 then [Lib.itoa n]
  else if k = 3 then [[35, if n = 0 then 102 else 116]]
  else if k = 4 then (if opAr a = 1 then [40 :: a, [41]] else [[40], a, [41]])
  else if k = 5 then [[40, 105, 102, 32], [32], [32], [41]]
  else if k = 6 then [40 :: 92 :: (a ++ 58 :: (fmtT ty ++ [46])), [41]]
  else if k = 7 then [[40], [32], [41]]
  else if k = 8 then [40 :: 108 :: 101 :: 116 :: 32 :: (a ++ [61]), [32], [41]]
  else if k = 9 then [40 :: 114 :: 101 :: 99 :: 32 :: (a ++ 32 :: (o ++ 58 :: (fmtT ty ++ 62 :: (fmtT res ++ [46])))), [41]]
  else if k = 10 then [[60], [62]]
  else if k = 11 then [[126], []]
  else if k = 12 then [[40, 114, 117, 110, 32], [41]]
  else [[40, 108, 105, 102, 116, 32], [41]]
def sg (e : Tm) : List (List UInt8) := sgN e.kind e.name.data.toList e.other.data.toList e.n e.ty e.res
def wv : List (List UInt8) → List Tm → List UInt8
  | s :: _, [] => s
  | s :: ss, t :: ts => s ++ (t.text ++ wv ss ts)
  | [], _ => []
theorem fmt_valid {t : Ty} (h : t.valid = true) : fmtT t = t.text := by unfold fmtT; rw [if_pos h]
theorem shape_sg {t : Tm} (h : Shape t) : t.text = wv (sg t) t.args ∧ (sg t).length = t.args.length + 1 ∧ ∀ x ∈ t.args, x.IsT := by
  cases h with
  | var a h => exact ⟨by rw [t_var]; simp [wv, sg, sgN, Tm.kind, Tm.name, Tm.args], by simp [sg, sgN, Tm.kind, Tm.args], by simp [Tm.args]⟩
  | int n h0 h1 => exact ⟨by rw [t_int]; simp [wv, sg, sgN, Tm.kind, Tm.n, Tm.args], by simp [sg, sgN, Tm.kind, Tm.args], by simp [Tm.args]⟩
  | bool n h =>
    refine ⟨?_, by simp [sg, sgN, Tm.kind, Tm.args], by simp [Tm.args]⟩
    rw [t_bool]
    rcases h with rfl | rfl <;> simp [wv, sg, sgN, Tm.kind, Tm.n, Tm.args]
  | op1 a ha x hx =>
    have had : a.data.toList = [33] := by rw [← ByteArray.toList_eq]; exact ha
    have e : sg (.mk 4 a E0 0 Z0 Z0 [x]) = [[40, 33], [41]] := by simp [sg, sgN, Tm.kind, Tm.name, had, opAr]
    exact ⟨by rw [t_op1, e]; simp [wv, Tm.args], by rw [e]; rfl, by simpa [Tm.args] using hx⟩
  | op2 a c ha hc x y hx hy =>
    have had : a.data.toList = [c] := by rw [← ByteArray.toList_eq]; exact ha
    have e : sg (.mk 4 a E0 0 Z0 Z0 [x, y]) = [[40], [c], [41]] := by simp [sg, sgN, Tm.kind, Tm.name, had, hc]
    exact ⟨by rw [t_op2, e, had]; simp [wv, Tm.args], by rw [e]; rfl, by simpa [Tm.args] using ⟨hx, hy⟩⟩
  | cond x y z hx hy hz => exact ⟨by rw [t_cond]; simp [wv, sg, sgN, Tm.kind, Tm.args], by simp [sg, sgN, Tm.kind, Tm.args], by simpa [Tm.args] using ⟨hx, hy, hz⟩⟩
  | lam a h ty ht x hx => exact ⟨by rw [t_lam]; simp [wv, sg, sgN, Tm.kind, Tm.args, Tm.name, Tm.ty, fmt_valid ht], by simp [sg, sgN, Tm.kind, Tm.args], by simpa [Tm.args] using hx⟩
  | app x y hx hy => exact ⟨by rw [t_app]; simp [wv, sg, sgN, Tm.kind, Tm.args], by simp [sg, sgN, Tm.kind, Tm.args], by simpa [Tm.args] using ⟨hx, hy⟩⟩
  | bind a h x y hx hy => exact ⟨by rw [t_bind]; simp [wv, sg, sgN, Tm.kind, Tm.args, Tm.name], by simp [sg, sgN, Tm.kind, Tm.args], by simpa [Tm.args] using ⟨hx, hy⟩⟩
  | fix a b ha hb hab ty res ht hr x hx => exact ⟨by rw [t_fix]; simp [wv, sg, sgN, Tm.kind, Tm.args, Tm.name, Tm.other, Tm.ty, Tm.res, fmt_valid ht, fmt_valid hr], by simp [sg, sgN, Tm.kind, Tm.args], by simpa [Tm.args] using hx⟩
  | quote x hx => exact ⟨by rw [t_quote]; simp [wv, sg, sgN, Tm.kind, Tm.args], by simp [sg, sgN, Tm.kind, Tm.args], by simpa [Tm.args] using hx⟩
  | splice x hx => exact ⟨by rw [t_splice]; simp [wv, sg, sgN, Tm.kind, Tm.args], by simp [sg, sgN, Tm.kind, Tm.args], by simpa [Tm.args] using hx⟩
  | run x hx => exact ⟨by rw [t_run]; simp [wv, sg, sgN, Tm.kind, Tm.args], by simp [sg, sgN, Tm.kind, Tm.args], by simpa [Tm.args] using hx⟩
  | lift x hx => exact ⟨by rw [t_lift]; simp [wv, sg, sgN, Tm.kind, Tm.args], by simp [sg, sgN, Tm.kind, Tm.args], by simpa [Tm.args] using hx⟩
abbrev RdF := Nat → List UInt8 → Tm → Nat → List UInt8 → Prop
abbrev zeroM : Tm := .mk 0 E0 E0 0 Z0 Z0 []
def withM (e : Tm) (ts : List Tm) : Tm := .mk e.kind e.name e.other e.n e.ty e.res ts
def rdArgs (F : RdF) : List (List UInt8) → Nat → List UInt8 → List Tm → Nat → List UInt8 → Prop
  | [], k, l, ts, k', l' => ts = [] ∧ k' = k ∧ l' = l
  | q :: qs, k, l, ts, k', l' => ∃ t k1 l1 ts', F k l t k1 l1 ∧ rdArgs F qs k1 (cut q l1) ts' k' l' ∧ ts = t :: ts'
theorem rdArgs_snoc {F : RdF} {q : List UInt8} : ∀ {qs : List (List UInt8)} {k : Nat} {l : List UInt8} {ts : List Tm} {k1 : Nat} {l1 : List UInt8} {t : Tm} {k2 : Nat} {l2 : List UInt8},
    rdArgs F qs k l ts k1 l1 → F k1 l1 t k2 l2 → rdArgs F (qs ++ [q]) k l (ts ++ [t]) k2 (cut q l2)
  | [], k, l, ts, k1, l1, t, k2, l2, h, hF => by
    obtain ⟨rfl, rfl, rfl⟩ := h
    exact ⟨t, k2, l2, [], hF, ⟨rfl, rfl, rfl⟩, rfl⟩
  | q0 :: qs, k, l, ts, k1, l1, t, k2, l2, h, hF => by
    obtain ⟨t0, k0, l0, ts', h0, h1, rfl⟩ := h
    exact ⟨t0, k0, l0, ts' ++ [t], h0, rdArgs_snoc h1 hF, rfl⟩
def rdW (F : RdF) (e : Tm) : RdF := fun k l t k' l' => ∃ ts, rdArgs F (sg e).tail k l ts k' l' ∧ t = withM e ts
def rdTy (q l : List UInt8) (ty : Ty) (l' : List UInt8) : Prop := (∃ j, pty l 8 0 = some (ty, j) ∧ l' = cut q (l.drop j)) ∨ (pty l 8 0 = none ∧ ty.args = [] ∧ ∃ j, l' = cut q (l.drop j))
abbrev eFalse : Tm := .mk 3 E0 E0 0 Z0 Z0 []
abbrev eTrue : Tm := .mk 3 E0 E0 1 Z0 Z0 []
abbrev eQuote : Tm := .mk 10 E0 E0 0 Z0 Z0 []
abbrev eSplice : Tm := .mk 11 E0 E0 0 Z0 Z0 []
abbrev eNot : Tm := .mk 4 ⟨#[33]⟩ E0 0 Z0 Z0 []
abbrev eIf : Tm := .mk 5 E0 E0 0 Z0 Z0 []
abbrev eRun : Tm := .mk 12 E0 E0 0 Z0 Z0 []
abbrev eLift : Tm := .mk 13 E0 E0 0 Z0 Z0 []
abbrev eLet (a : List UInt8) : Tm := .mk 8 ⟨a.toArray⟩ E0 0 Z0 Z0 []
abbrev eLam (a : List UInt8) (ty : Ty) : Tm := .mk 6 ⟨a.toArray⟩ E0 0 ty Z0 []
abbrev eRec (a b : List UInt8) (ty res : Ty) : Tm := .mk 9 ⟨a.toArray⟩ ⟨b.toArray⟩ 0 ty res []
def rdLet (F : RdF) : RdF := fun k l => rdW F (eLet (wd l)) k (cut [61] (wrest l))
def rdLam (F : RdF) : RdF := fun k l t k' l' => ∃ ty l1, rdTy [46] (cut [58] (wrest l)) ty l1 ∧ rdW F (eLam (wd l) ty) k l1 t k' l'
def rdRec (F : RdF) : RdF := fun k l t k' l' => ∃ m ty l1 res l2, m = cut [32] (wrest l) ∧ rdTy [62] (cut [58] (wrest m)) ty l1 ∧ rdTy [46] l1 res l2 ∧ rdW F (eRec (wd l) (wd m) ty res) k l2 t k' l'
def pairM (s : List UInt8) (x y : Tm) : Tm := if s = [32] then .mk 7 E0 E0 0 Z0 Z0 [x, y] else .mk 4 ⟨s.toArray⟩ E0 0 Z0 Z0 [x, y]
def rdPair (F : RdF) : RdF := fun k l t k' l' => ∃ x k1 l1 y l3, F k l x k1 l1 ∧ F k1 (cut (l1.take 1) l1) y k' l3 ∧ l' = cut [41] l3 ∧ t = pairM (l1.take 1) x y
def wordOf (a : List UInt8) : Tm := if okNum 0 999999 a then .mk 2 E0 E0 (rd a) Z0 Z0 [] else .mk 1 ⟨a.toArray⟩ E0 0 Z0 Z0 []
def rdWord : RdF := fun k l t k' l' => k' = k ∧ l' = wrest l ∧ t = wordOf (wd l)
def forms : List (List UInt8 × (RdF → RdF)) :=
  [([35, 102], fun F => rdW F eFalse), ([35, 116], fun F => rdW F eTrue), ([60], fun F => rdW F eQuote), ([126], fun F => rdW F eSplice), ([40, 33], fun F => rdW F eNot), ([40, 105, 102, 32], fun F => rdW F eIf),
   ([40, 114, 117, 110, 32], fun F => rdW F eRun), ([40, 108, 105, 102, 116, 32], fun F => rdW F eLift), ([40, 108, 101, 116, 32], rdLet), ([40, 114, 101, 99, 32], rdRec), ([40, 92], rdLam), ([40], rdPair)]
def rdForm (F : RdF) : List (List UInt8 × (RdF → RdF)) → RdF
  | [], k, l, t, k', l' => rdWord k l t k' l'
  | (q, R) :: fs, k, l, t, k', l' => if q.isPrefixOf l = true then R F k (l.drop q.length) t k' l' else rdForm F fs k l t k' l'
def RT : Nat → RdF
  | 0, k, l, t, k', l' => t = zeroM ∧ k' = k + 1 ∧ l' = l
  | D + 1, k, l, t, k', l' => if 80 ≤ k then (t = zeroM ∧ k' = k + 1 ∧ l' = l) else rdForm (RT D) forms (k + 1) l t k' l'
def Bd (F : RdF) : Prop := ∀ k l t k' l', F k l t k' l' → k + 1 ≤ k' ∧ k' - k ≤ 1 + 3 * (min k' 80 - min k 80) ∧ l'.length ≤ l.length ∧ 1 + t.wt + l'.length ≤ 1100 * (k' - k) + l.length
theorem rdTy_bd {q l l' : List UInt8} {ty : Ty} (h : rdTy q l ty l') : nodesS ty.args ≤ 512 ∧ l'.length ≤ l.length := by
  rcases h with ⟨j, hp, rfl⟩ | ⟨_, ha, j, rfl⟩
  · have hg := (pty_good _ _ _ _ _ hp).nodes
    rw [ty.nodes_eq] at hg
    refine ⟨by omega, ?_⟩
    have := cut_le q (l.drop j)
    rw [List.length_drop] at this
    omega
  · refine ⟨by rw [ha]; simp [nodesS], ?_⟩
    have := cut_le q (l.drop j)
    rw [List.length_drop] at this
    omega
theorem rdArgs_bd {F : RdF} (hF : Bd F) : ∀ {qs : List (List UInt8)} {k : Nat} {l : List UInt8} {ts : List Tm} {k' : Nat} {l' : List UInt8}, rdArgs F qs k l ts k' l' →
    k ≤ k' ∧ k' - k ≤ qs.length + 3 * (min k' 80 - min k 80) ∧ l'.length ≤ l.length ∧ wtS ts + l'.length ≤ 1100 * (k' - k) + l.length
  | [], k, l, ts, k', l', h => by
    obtain ⟨rfl, rfl, rfl⟩ := h
    simp [wtS]
  | q :: qs, k, l, ts, k', l', h => by
    obtain ⟨t, k1, l1, ts', h0, h1, rfl⟩ := h
    obtain ⟨a1, a2, a3, a4⟩ := hF _ _ _ _ _ h0
    obtain ⟨b1, b2, b3, b4⟩ := rdArgs_bd hF h1
    have hc := cut_le q l1
    simp only [List.length_cons, wtS]
    omega
def Bd1 (R : RdF) : Prop := ∀ k l t k' l', R k l t k' l' → k ≤ k' ∧ k' - k ≤ 3 + 3 * (min k' 80 - min k 80) ∧ l'.length ≤ l.length ∧ t.wt + l'.length ≤ 1100 * (k' - k) + 1024 + l.length + 1
theorem ite_len {α : Type} {c : Prop} [Decidable c] {a b : List α} {n : Nat} (ha : a.length ≤ n) (hb : b.length ≤ n) : (if c then a else b).length ≤ n := by
  split
  · exact ha
  · exact hb
theorem sg_tail (e : Tm) : (sg e).tail.length ≤ 3 := by
  have h : (sg e).length ≤ 4 := by
    unfold sg sgN
    repeat' apply ite_len
    all_goals simp
  rw [List.length_tail]
  omega
theorem rdW_bd {F : RdF} (hF : Bd F) {e : Tm} (he : e.args = []) {k : Nat} {l : List UInt8} {t : Tm} {k' : Nat} {l' : List UInt8} (h : rdW F e k l t k' l') :
    k ≤ k' ∧ k' - k ≤ 3 + 3 * (min k' 80 - min k 80) ∧ l'.length ≤ l.length ∧ t.wt + l'.length ≤ 1100 * (k' - k) + e.wt + l.length := by
  obtain ⟨ts, h1, rfl⟩ := h
  obtain ⟨a1, a2, a3, a4⟩ := rdArgs_bd hF h1
  have := sg_tail e
  rw [e.wt_eq, he]
  simp only [withM, Tm.wt, wtS]
  omega
theorem wt0 (k : Int) (a b : ByteArray) (n : Int) (ty res : Ty) (ts : List Tm) : (Tm.mk k a b n ty res ts).wt = a.size + b.size + nodesS ty.args + nodesS res.args + wtS ts := rfl
theorem bsz (l : List UInt8) : (⟨l.toArray⟩ : ByteArray).size = l.length := by
  show l.toArray.size = _
  simp
theorem z0 : nodesS Z0.args = 0 := rfl
theorem e0sz : E0.size = 0 := rfl
theorem forms_bd {F : RdF} (hF : Bd F) : ∀ f ∈ forms, Bd1 (f.2 F) := by
  have con : ∀ (e : Tm), e.args = [] → e.wt ≤ 1 → Bd1 (rdW F e) := fun e he h1 k l t k' l' h => by
    have := rdW_bd hF he h
    omega
  intro f hf
  simp only [forms, List.mem_cons, List.not_mem_nil, or_false] at hf
  rcases hf with rfl | rfl | rfl | rfl | rfl | rfl | rfl | rfl | rfl | rfl | rfl | rfl
  · exact con _ rfl (by decide)
  · exact con _ rfl (by decide)
  · exact con _ rfl (by decide)
  · exact con _ rfl (by decide)
  · exact con _ rfl (by decide)
  · exact con _ rfl (by decide)
  · exact con _ rfl (by decide)
  · exact con _ rfl (by decide)
  · intro k l t k' l' h
    have h1 := rdW_bd hF rfl h
    have h2 := cut_le [61] (wrest l)
    have h3 := wd_len l
    rw [wt0, bsz, z0, e0sz] at h1
    simp only [wtS] at h1
    omega
  · intro k l t k' l' h
    obtain ⟨m, ty, l1, res, l2, rfl, t1, t2, h⟩ := h
    have h1 := rdW_bd hF rfl h
    have h2 := cut_le [32] (wrest l)
    have h3 := wd_len l
    have h4 := wd_len (cut [32] (wrest l))
    have h5 := cut_le [58] (wrest (cut [32] (wrest l)))
    have h6 := rdTy_bd t1
    have h7 := rdTy_bd t2
    rw [wt0, bsz, bsz] at h1
    simp only [wtS] at h1
    omega
  · intro k l t k' l' h
    obtain ⟨ty, l1, t1, h⟩ := h
    have h1 := rdW_bd hF rfl h
    have h2 := cut_le [58] (wrest l)
    have h3 := wd_len l
    have h6 := rdTy_bd t1
    rw [wt0, bsz, z0, e0sz] at h1
    simp only [wtS] at h1
    omega
  · intro k l t k' l' h
    obtain ⟨x, k1, l1, y, l3, h1, h2, rfl, rfl⟩ := h
    obtain ⟨a1, a2, a3, a4⟩ := hF _ _ _ _ _ h1
    obtain ⟨b1, b2, b3, b4⟩ := hF _ _ _ _ _ h2
    have c1 := cut_le (l1.take 1) l1
    have c2 := cut_le [41] l3
    have c3 : (l1.take 1).length ≤ 1 := by rw [List.length_take]; omega
    unfold pairM
    split
    · rw [wt0, z0, e0sz]
      simp only [wtS]
      omega
    · rw [wt0, bsz, z0, e0sz]
      simp only [wtS]
      omega
theorem rdForm_bd {F : RdF} : ∀ (fs : List (List UInt8 × (RdF → RdF))), (∀ f ∈ fs, Bd1 (f.2 F)) → Bd1 (rdForm F fs)
  | [], _, k, l, t, k', l', h => by
    obtain ⟨rfl, rfl, rfl⟩ := h
    have h3 := wd_len l
    unfold wordOf
    split
    · rw [wt0, z0, e0sz]
      simp only [wtS]
      omega
    · rw [wt0, bsz, z0, e0sz]
      simp only [wtS]
      omega
  | (q, R) :: fs, hf, k, l, t, k', l', h => by
    unfold rdForm at h
    split at h
    · have := hf _ (List.mem_cons_self) _ _ _ _ _ h
      rw [List.length_drop] at this
      omega
    · exact rdForm_bd fs (fun f hf' => hf f (List.mem_cons_of_mem _ hf')) _ _ _ _ _ h
theorem RT_bd : ∀ D, Bd (RT D)
  | 0, k, l, t, k', l', h => by
    obtain ⟨rfl, rfl, rfl⟩ := h
    have : zeroM.wt = 0 := rfl
    omega
  | D + 1, k, l, t, k', l', h => by
    unfold RT at h
    split at h
    · obtain ⟨rfl, rfl, rfl⟩ := h
      have : zeroM.wt = 0 := rfl
      omega
    · have := rdForm_bd forms (forms_bd (RT_bd D)) _ _ _ _ _ h
      omega
theorem RT_top {D : Nat} {l : List UInt8} {t : Tm} {k' : Nat} {l' : List UInt8} (h : RT D 0 l t k' l') (hl : l.length ≤ 1048576) : t.wt ≤ 2097152 := by
  have := RT_bd D _ _ _ _ _ h
  omega
end Go.Proofs.YtjobmgbchpoheaaGreatDoor
