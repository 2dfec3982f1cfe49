/-
  Several texts of the proof in one (each says below what it holds): FreeQ OccB OccC FvI Sets UniteImpl FvJ FreeVarsLaw Frame FrameV IsClosedLaw.
-/
import Derived.Test.YtdfnjfelmfccjaaDoorFvg6
import Derived.Test.YtdfnjfelmfccjaaDoorFvg1
import Derived.Test.YtdfnjfelmfccjaaDoorFvg3
import Derived.Test.YtdfnjfelmfccjaaDoorFvg2
import Derived.Maps.OwnOps
import Derived.Maps.OwnSet
import Derived.Maps.Views
import Derived.Below
import Derived.Lib.SmallJoins
import Derived.ProofKit
import Derived.OpenShut
import Derived.Carry
import Derived.OpenVars
import Derived.ChangeVars
/- FreeQ: The walk over scoped parts, of no program: its depths, its sizes, the stack behind a part of it. -/
namespace Go.Proofs.YtdfnjfelmfccjaaDoor
open Go Go.RowKit

def stkQ (st : List (List ByteArray)) (pre : List QI) : List (List ByteArray) := pre.foldl (fun st x => pushQ st x.2.1 x.2.2) st
theorem stkQ_snoc (st : List (List ByteArray)) (pre : List QI) (x : QI) : stkQ st (pre ++ [x]) = pushQ (stkQ st pre) x.2.1 x.2.2 := by simp [stkQ]
def OkQ : List QI → List (List ByteArray) → Prop
  | [], _ => True
  | x :: r, st => 1 ≤ x.2.2 ∧ x.2.2 ≤ st.length + 1 ∧ OkQ r (pushQ st x.2.1 x.2.2)
theorem okQ_at : ∀ (pre : List QI) (x : QI) (r : List QI) (st : List (List ByteArray)), OkQ (pre ++ x :: r) st → 1 ≤ x.2.2 ∧ x.2.2 ≤ (stkQ st pre).length + 1
  | [], x, r, st, h => ⟨h.1, h.2.1⟩
  | y :: pre, x, r, st, h => okQ_at pre x r _ h.2.2
mutual
theorem ok_walk : ∀ (t : Tm) (nm : List ByteArray) (d : Nat) (st : List (List ByteArray)) (r : List QI), 1 ≤ d → d - 1 ≤ st.length → (∀ st' : List (List ByteArray), d - 1 ≤ st'.length → OkQ r st') → OkQ (walkQ t nm d ++ r) st
  | .mk k a o n t x ts, nm, d, st, r, h1, hd, hr => by
    have hl := pushQ_len (nm := nm) h1 hd
    rw [walkQ, List.cons_append]
    refine ⟨h1, by show d ≤ st.length + 1; omega, ?_⟩
    by_cases hk : k = 1
    · rw [if_pos hk, List.nil_append]
      exact hr _ (by show d - 1 ≤ (pushQ st nm d).length; omega)
    · rw [if_neg hk]
      exact ok_walkS _ 0 ts (d + 1) _ r (by omega) (by show d + 1 - 1 ≤ (pushQ st nm d).length; omega) (fun st' h => hr st' (by omega))
theorem ok_walkS : ∀ (b : Nat → List ByteArray) (k : Nat) (ts : List Tm) (d : Nat) (st : List (List ByteArray)) (r : List QI), 1 ≤ d → d - 1 ≤ st.length → (∀ st' : List (List ByteArray), d - 1 ≤ st'.length → OkQ r st') → OkQ (walkQS b k ts d ++ r) st
  | b, k, [], d, st, r, h1, hd, hr => by rw [walkQS, List.nil_append]; exact hr st hd
  | b, k, t :: ts, d, st, r, h1, hd, hr => by
    rw [walkQS, List.append_assoc]
    exact ok_walk t (b k) d st _ h1 hd (fun st' h => ok_walkS b (k + 1) ts d st' r h1 h hr)
end
theorem ok_all (t : Tm) : OkQ (walkQ t [] 1) [] := by
  have h := ok_walk t [] 1 [] [] (Nat.le_refl _) (Nat.zero_le _) (fun _ _ => trivial)
  rwa [List.append_nil] at h
theorem ok_pre {t : Tm} {pre : List QI} {x : QI} (h : pre ++ [x] <+: walkQ t [] 1) : 1 ≤ x.2.2 ∧ x.2.2 ≤ (stkQ [] pre).length + 1 := by
  obtain ⟨r, hr⟩ := h
  have h1 := ok_all t
  rw [← hr, List.append_assoc] at h1
  exact okQ_at pre x r [] h1
theorem bndAt_size (t : Tm) (k : Nat) {s : ByteArray} (hs : s ∈ t.bndAt k) : s.size ≤ t.wt := by
  have h1 := t.wt_eq
  unfold Tm.bndAt at hs
  split at hs
  · unfold Tm.bnd at hs
    have h2 : s = t.name ∨ s = t.other := by
      repeat' split at hs
      all_goals simp at hs
      all_goals first
        | exact Or.inl hs
        | exact hs
    rcases h2 with rfl | rfl <;> omega
  · simp at hs
mutual
theorem memQ : ∀ (t : Tm) (nm : List ByteArray) (d : Nat) (x : QI), x ∈ walkQ t nm d → x.1.wt ≤ t.wt ∧ ∀ s ∈ x.2.1, s ∈ nm ∨ s.size ≤ t.wt
  | .mk k a o n t u ts, nm, d, x, h => by
    rw [walkQ] at h
    rcases List.mem_cons.1 h with rfl | h
    · exact ⟨Nat.le_refl _, fun s hs => Or.inl hs⟩
    · split at h
      · simp at h
      · obtain ⟨h1, h2⟩ := memQS _ 0 ts (d + 1) x h
        have hw := (Tm.mk k a o n t u ts).wt_eq
        have hw2 : wtS ts ≤ (Tm.mk k a o n t u ts).wt := by rw [hw]; simp only [Tm.args]; omega
        exact ⟨Nat.le_trans h1 hw2, fun s hs => Or.inr ((h2 s hs).elim (fun ⟨i, hi⟩ => bndAt_size _ _ hi) (fun h => Nat.le_trans h hw2))⟩
theorem memQS : ∀ (b : Nat → List ByteArray) (k : Nat) (ts : List Tm) (d : Nat) (x : QI), x ∈ walkQS b k ts d → x.1.wt ≤ wtS ts ∧ ∀ s ∈ x.2.1, (∃ i, s ∈ b i) ∨ s.size ≤ wtS ts
  | b, k, [], d, x, h => by simp [walkQS] at h
  | b, k, t :: ts, d, x, h => by
    rw [walkQS] at h
    have hw : t.wt ≤ wtS (t :: ts) ∧ wtS ts ≤ wtS (t :: ts) := by simp only [wtS]; omega
    rcases List.mem_append.1 h with h | h
    · obtain ⟨h1, h2⟩ := memQ t (b k) d x h
      exact ⟨Nat.le_trans h1 hw.1, fun s hs => (h2 s hs).imp (fun h => ⟨k, h⟩) (fun h => Nat.le_trans h hw.1)⟩
    · obtain ⟨h1, h2⟩ := memQS b (k + 1) ts d x h
      exact ⟨Nat.le_trans h1 hw.2, fun s hs => (h2 s hs).imp id (fun h => Nat.le_trans h hw.2)⟩
end
theorem stkQ_mem : ∀ (pre : List QI) (st : List (List ByteArray)) (l : List ByteArray), l ∈ stkQ st pre → l ∈ st ∨ ∃ x ∈ pre, l = x.2.1
  | [], st, l, h => Or.inl h
  | y :: pre, st, l, h => by
    rcases stkQ_mem pre _ l h with h | ⟨x, h1, h2⟩
    · unfold pushQ at h
      rcases List.mem_append.1 h with h | h
      · exact Or.inl (List.mem_of_mem_take h)
      · exact Or.inr ⟨y, List.mem_cons_self .., by simpa using h⟩
    · exact Or.inr ⟨x, List.mem_cons_of_mem _ h1, h2⟩
theorem stkQ_len : ∀ (pre : List QI) (st : List (List ByteArray)), (stkQ st pre).length ≤ st.length + pre.length
  | [], st => Nat.le_refl _
  | y :: pre, st => by
    have h := stkQ_len pre (pushQ st y.2.1 y.2.2)
    have h2 : (pushQ st y.2.1 y.2.2).length ≤ st.length + 1 := by simp [pushQ]; omega
    show (stkQ (pushQ st y.2.1 y.2.2) pre).length ≤ _
    simp only [List.length_cons]
    omega
theorem stkQ_small {t : Tm} {pre : List QI} (h : pre <+: walkQ t [] 1) (hn : t.wt ≤ 2097152) : ∀ l ∈ stkQ [] pre, ∀ s ∈ l, s.size ≤ maxLen := fun l hl s hs => by
  rcases stkQ_mem pre [] l hl with h1 | ⟨x, h1, rfl⟩
  · simp at h1
  · rcases (memQ t [] 1 x (h.subset h1)).2 s hs with h2 | h2
    · simp at h2
    · unfold maxLen; omega
theorem foundQ_snoc : ∀ (pre : List QI) (r : List QI) (st : List (List ByteArray)), foundQ (pre ++ r) st = foundQ pre st ++ foundQ r (stkQ st pre)
  | [], r, st => by simp [foundQ, stkQ]
  | y :: pre, r, st => by
    rw [List.cons_append]
    simp only [foundQ]
    rw [foundQ_snoc pre r, List.append_assoc]
    rfl
end Go.Proofs.YtdfnjfelmfccjaaDoor
/- OccB: What the iterator over the free occurrences of a term's names knows between two rounds. -/
namespace Go.Proofs.YtdfnjfelmfccjaaDoor
open Go Go.RowKit Go.Shelf
attribute [local go_sem] Oper.semAt_some

/-- The scope, behind a part of the walk, in the midst of the memory of the one who asked for the names. -/
structure OccI (m : Nat) (Cx : Nat → Prop) (W : World) (l bs : Nat) (J : List ByteArray → (Nat → Prop) → (Nat → Prop) → World → Prop) (pre : List QI) (Bi Ni : Nat → Prop) (Wx : World) (Bs Bo No : Nat → Prop) (va : Value) (bm n : Nat) (f : ByteArray → Value) (xs : List Value) : Prop where
  split : ∀ z, Bi z ↔ Bs z ∨ Bo z
  apart : ∀ z, Bs z → ¬ Bo z ∧ W.heap.size < z
  names : ∀ z, Ni z → ¬ Bs z ∧ ¬ Bo z ∧ z < Wx.heap.size
  lt : ∀ z, Bi z → z < Wx.heap.size ∧ z ≠ W.heap.size
  none : ∀ z, ¬ No z
  ty : ∀ z, Bs z → ∀ cs fr, Wx.heap[z]? ≠ some (.cells cs 84 fr)
  sc : ScopeIs Wx bs (stkQ [] pre) (stkQ [] pre).flatten Bs Ni (4 * pre.length) va bm n f xs
  j : J (foundQ pre []) Bo No Wx
  yb : Wx.heap[W.heap.size]? = some (.cells #[.func (.yield l) #[] #[]] 74 (0, 0))
  size : m ≤ Wx.heap.size
  cb : ∀ z, Bs z → ¬ Cx z
theorem OccI.keep {Cx : Nat → Prop} {W A A' : World} {l bs : Nat} {J : List ByteArray → (Nat → Prop) → (Nat → Prop) → World → Prop} {pre : List QI} {Bi Ni Bs Bo No : Nat → Prop} {va : Value} {bm n m : Nat} {f : ByteArray → Value} {xs : List Value} (h : OccI m Cx W l bs J pre Bi Ni A Bs Bo No va bm n f xs) (hm : W.heap.size < m)
    (hJ : ∀ pre B N A A', J pre B N A → Keep W.heap.size (fun z => B z ∨ N z) A A' → J pre B N A') (hk : Keep m (fun z => Bi z ∨ Ni z) A A') : OccI m Cx W l bs J pre Bi Ni A' Bs Bo No va bm n f xs := by
  have hs := hk.1.size
  refine ⟨h.split, h.apart, fun z hz => ⟨(h.names z hz).1, (h.names z hz).2.1, Nat.lt_of_lt_of_le (h.names z hz).2.2 hs⟩, fun z hz => ⟨Nat.lt_of_lt_of_le (h.lt z hz).1 hs, (h.lt z hz).2⟩, h.none, fun z hz cs fr => ?_, h.sc.keep hs (fun b hb hl => hk.2 b (hb.imp (fun h2 => (h.split b).2 (Or.inl h2)) id) hl), hJ _ _ _ _ _ h.j (hk.mono (Nat.le_of_lt hm) (fun b hb => hb.elim (fun h2 => Or.inl ((h.split b).2 (Or.inr h2))) (fun h2 => absurd h2 (h.none b)))), (hk.1.block _ hm).trans h.yb, Nat.le_trans h.size hs, h.cb⟩
  have hb := (h.split z).2 (Or.inl hz)
  rw [hk.2 z (Or.inl hb) (h.lt z hb).1]
  exact h.ty z hz cs fr
theorem bndAt_len (t : Tm) (k : Nat) : (t.bndAt k).length ≤ 2 := by
  unfold Tm.bndAt
  split
  · exact bnd_len t
  · simp
mutual
theorem lenQ : ∀ (t : Tm) (nm : List ByteArray) (d : Nat) (x : QI), nm.length ≤ 2 → x ∈ walkQ t nm d → x.2.1.length ≤ 2
  | .mk k a o n t u ts, nm, d, x, hn, h => by
    rw [walkQ] at h
    rcases List.mem_cons.1 h with rfl | h
    · exact hn
    · split at h
      · simp at h
      · exact lenQS _ 0 ts (d + 1) x (bndAt_len _) h
theorem lenQS : ∀ (b : Nat → List ByteArray) (k : Nat) (ts : List Tm) (d : Nat) (x : QI), (∀ i, (b i).length ≤ 2) → x ∈ walkQS b k ts d → x.2.1.length ≤ 2
  | b, k, [], d, x, hb, h => by simp [walkQS] at h
  | b, k, t :: ts, d, x, hb, h => by
    rw [walkQS] at h
    rcases List.mem_append.1 h with h | h
    · exact lenQ t (b k) d x (hb k) h
    · exact lenQS b (k + 1) ts d x hb h
end
theorem TermAt.mono {w : World} {C C' : Nat → Prop} {t : Tm} {b o : Nat} (h : TermAt w C t b o) (hC : ∀ z, C z → C' z) : TermAt w C' t b o := by
  obtain ⟨tp, tc, rp, rc, p, c, h1, h2, h3, h4⟩ := h
  exact ⟨tp, tc, rp, rc, p, c, hC _ h1, h2, h3, h4.mono (fun z hz _ => hC z hz)⟩
def scB (bs bm : Nat) (va : Value) (f : ByteArray → Value) : Nat → Prop := fun z => z = bs ∨ z = bm ∨ va.ownBlock = some z ∨ ∃ s, (f s).ownBlock = some z
theorem ScopeIs.exact {w : World} {bs : Nat} {st : List (List ByteArray)} {fl : List ByteArray} {B N : Nat → Prop} {c : Nat} {va : Value} {bm n : Nat} {f : ByteArray → Value} {xs : List Value} (h : ScopeIs w bs st fl B N c va bm n f xs) :
    ScopeIs w bs st fl (scB bs bm va f) N c va bm n f xs ∧ (∀ z, scB bs bm va f z → B z) ∧ (∀ z, scB bs bm va f z → z < w.heap.size ∧ ∀ cs fr, w.heap[z]? ≠ some (.cells cs 84 fr)) := by
  refine ⟨⟨h.blk, h.own, h.nms, h.map, h.cnt, h.rows, h.apart, Or.inl rfl, Or.inr (Or.inl rfl), fun g hg => Or.inr (Or.inr (Or.inl hg)), fun s g hg => Or.inr (Or.inr (Or.inr ⟨s, hg⟩))⟩, fun z hz => ?_, fun z hz => ?_⟩
  · rcases hz with rfl | rfl | hz | ⟨s, hz⟩
    · exact h.inB.1
    · exact h.inB.2.1
    · exact h.inB.2.2.1 z hz
    · exact h.inB.2.2.2 s z hz
  · have fin : ∀ o, w.heap[z]? = some o → (∀ cs fr, o ≠ .cells cs 84 fr) → z < w.heap.size ∧ ∀ cs fr, w.heap[z]? ≠ some (.cells cs 84 fr) := fun o ho hne => ⟨(Array.getElem?_eq_some_iff.1 ho).1, fun cs fr e => hne cs fr (by rw [ho] at e; exact Option.some.inj e)⟩
    rcases hz with rfl | rfl | hz | ⟨s, hz⟩
    · exact fin _ h.blk (fun cs fr e => by simp at e)
    · obtain ⟨D, ⟨es, clock, hb0, _⟩, _⟩ := h.map
      exact fin _ hb0 (fun cs fr e => by cases e)
    · rcases h.own.2 with ⟨e1, _⟩ | ⟨g', cap', cur, e1, _, hblk, _⟩
      · rw [e1] at hz; cases hz
      · rw [e1] at hz
        simp only [Value.ownBlock, Option.some.injEq] at hz
        subst hz
        exact fin _ hblk (fun cs fr e => by simp at e)
    · obtain ⟨cs, hc⟩ := (h.rows s).lt hz
      exact fin _ hc (fun cs fr e => by simp at e)
theorem OccI.step {m : Nat} {Cx : Nat → Prop} {W Wx W2 W3 : World} {l bs : Nat} {J : List ByteArray → (Nat → Prop) → (Nat → Prop) → World → Prop} {pre : List QI} {x : QI} {B N Y Bs Bo No Bo' No' : Nat → Prop} {va va2 : Value} {bm n n2 : Nat} {f f2 : ByteArray → Value} {xs xs2 : List Value}
    (h : OccI m Cx W l bs J pre B N Wx Bs Bo No va bm n f xs) (hm : W.heap.size < m) (hCx : ∀ z, Cx z → z < m)
    (hsc : ScopeIs W2 bs (stkQ [] (pre ++ [x])) (stkQ [] (pre ++ [x])).flatten (fun b => Bs b ∨ Wx.heap.size ≤ b) (fun z => N z ∨ Y z) (4 * pre.length + 4) va2 bm n2 f2 xs2) (htu : Turns (fun b => Bs b ∨ Wx.heap.size ≤ b) Wx W2)
    (hY : ∀ z, Y z → ¬ B z ∧ z < Wx.heap.size) (hj : J (foundQ (pre ++ [x]) []) Bo' No' W3) (hno : ∀ z, ¬ No' z) (hgr : Grew Bo Bo' W2.heap.size W3.heap.size) (hh : Holds Bo W2 W3) :
    ∃ B' N', Grew B B' Wx.heap.size W3.heap.size ∧ (∀ z, N' z → N z ∨ Y z) ∧ Holds B Wx W3 ∧ ∃ (Bs Bo No : Nat → Prop) (va : Value) (n : Nat) (f : ByteArray → Value) (xs : List Value), OccI m Cx W l bs J (pre ++ [x]) B' N' W3 Bs Bo No va bm n f xs := by
  obtain ⟨hx1, hx2, hx3⟩ := hsc.exact
  have s1 := htu.size
  have s2 := hh.1
  have s0 := h.size
  have hBs : ∀ z, Bs z → B z := fun z hz => (h.split z).2 (Or.inl hz)
  have hBo : ∀ z, Bo z → B z := fun z hz => (h.split z).2 (Or.inr hz)
  have hold : Holds B Wx W3 := ⟨Nat.le_trans s1 s2, fun b hl hb => (hh.2 b (Nat.lt_of_lt_of_le hl s1) (fun e => hb (hBo b e))).trans (htu.kept b hl (fun e => e.elim (fun e => hb (hBs b e)) (fun e => by omega)))⟩
  have hgrew : Grew B (fun z => scB bs bm va2 f2 z ∨ Bo' z) Wx.heap.size W3.heap.size := by
    rintro b (hb | hb)
    · exact ⟨(hx2 b hb).imp (hBs b) id, Nat.lt_of_lt_of_le (hx3 b hb).1 s2⟩
    · obtain ⟨h1, h2⟩ := hgr b hb
      exact ⟨h1.imp (hBo b) (fun e => Nat.le_trans s1 e), h2⟩
  have hnb : ∀ z, scB bs bm va2 f2 z → ¬ Bo z := fun z hz hb => by
    rcases hx2 z hz with e | e
    · exact (h.apart z e).1 hb
    · have := (h.lt z (hBo z hb)).1; omega
  have hnn : ∀ z, N z ∨ Y z → ¬ B z ∧ z < Wx.heap.size := fun z hz => by
    rcases hz with hz | hz
    · exact ⟨fun e => ((h.split z).1 e).elim (h.names z hz).1 (h.names z hz).2.1, (h.names z hz).2.2⟩
    · exact hY z hz
  refine ⟨fun z => scB bs bm va2 f2 z ∨ Bo' z, fun z => N z ∨ Y z, hgrew, fun z hz => hz, hold, scB bs bm va2 f2, Bo', No', va2, n2, f2, xs2, ⟨fun _ => Iff.rfl, fun z hz => ⟨fun hb => ?_, ?_⟩, fun z hz => ⟨fun e => ?_, fun e => ?_, by have := (hnn z hz).2; omega⟩, fun z hz => ⟨(hgrew z hz).2, fun e => ?_⟩, hno, fun z hz cs fr => ?_, ?_, hj, ?_, by omega, fun z hz hc => ?_⟩⟩
  · rcases (hgr z hb).1 with e | e
    · exact hnb z hz e
    · have := (hx3 z hz).1; omega
  · rcases hx2 z hz with e | e
    · exact (h.apart z e).2
    · omega
  · rcases hx2 z e with e | e
    · exact (hnn z hz).1 (hBs z e)
    · have := (hnn z hz).2; omega
  · rcases (hgr z e).1 with e | e
    · exact (hnn z hz).1 (hBo z e)
    · have := (hnn z hz).2; omega
  · rcases (hgrew z hz).1 with e2 | e2
    · exact (h.lt z e2).2 e
    · omega
  · rw [hh.2 z (hx3 z hz).1 (hnb z hz)]
    exact (hx3 z hz).2 cs fr
  · refine (hx1.keep s2 (fun b hb hl => hh.2 b hl (fun e => ?_))).wide (fun _ h => h) (fun _ h => h) (by rw [List.length_append, List.length_singleton]; omega)
    rcases hb with hb | hb
    · exact hnb b hb e
    · exact (hnn b hb).1 (hBo b e)
  · exact (hold.2 W.heap.size (by omega) (fun e => (h.lt _ e).2 rfl)).trans h.yb
  · rcases hx2 z hz with e | e
    · exact h.cb z e hc
    · have := hCx z hc; omega
theorem OccI.stop {m : Nat} {Cx : Nat → Prop} {W Wx W2 W3 : World} {l bs : Nat} {J Jx : List ByteArray → (Nat → Prop) → (Nat → Prop) → World → Prop} {pre : List QI} {B N Y Bs Bo No Bo' No' : Nat → Prop} {va : Value} {bm n : Nat} {f : ByteArray → Value} {xs : List Value} {all q : List ByteArray}
    (h : OccI m Cx W l bs J pre B N Wx Bs Bo No va bm n f xs) (htu : Turns (fun b => Bs b ∨ Wx.heap.size ≤ b) Wx W2) (hgr : Grew Bo Bo' W2.heap.size W3.heap.size) (hh : Holds Bo W2 W3) (hno : ∀ z, ¬ No' z) (hq : q <+: all) (hj : Jx q Bo' No' W3) :
    ∃ B' N' : Nat → Prop, Grew B B' Wx.heap.size W3.heap.size ∧ (∀ z, N' z → N z ∨ Y z) ∧ Holds B Wx W3 ∧ ∃ (Bo No : Nat → Prop) (q : List ByteArray), q <+: all ∧ (∀ z, Bo z → B' z) ∧ (∀ z, ¬ No z) ∧ Jx q Bo No W3 := by
  have s1 := htu.size
  have s2 := hh.1
  refine ⟨Bo', fun _ => False, fun z hz => ?_, fun z hz => hz.elim, ⟨Nat.le_trans s1 s2, fun b hl hb => ?_⟩, Bo', No', q, hq, fun z hz => hz, hno, hj⟩
  · obtain ⟨h1, h2⟩ := hgr z hz
    exact ⟨h1.imp (fun e => (h.split z).2 (Or.inr e)) (fun e => Nat.le_trans s1 e), h2⟩
  · refine (hh.2 b (Nat.lt_of_lt_of_le hl s1) (fun e => hb ((h.split b).2 (Or.inr e)))).trans (htu.kept b hl (fun e => e.elim (fun e => hb ((h.split b).2 (Or.inl e))) (fun e => by omega)))
theorem scope_start {w : World} {bs bm : Nat} {N : Nat → Prop} (hb : w.heap[bs]? = some (.cells #[.slice none 0 0, .map (some bm)] 77 (0, 0))) (hm : MapV Tryd.prog 9 w bm 0 (.slice none 0 0) (fun _ => .slice none 0 0)) :
    ScopeIs w bs [] [] (fun z => z = bs ∨ z = bm) N 0 (.slice none 0 0) bm 0 (fun _ => .slice none 0 0) [] :=
  ⟨hb, World.ownsRow_nil w _ _ _, fun i nm v h1 _ => (by simp at h1), hm, (by simp), fun s => ⟨[], World.ownsRow_nil w _ _ _, fun y hy => (by simp at hy)⟩, fun _ _ g _ h _ => (by cases h), Or.inl rfl, Or.inr rfl, fun g h => (by cases h), fun _ g h => (by cases h)⟩
end Go.Proofs.YtdfnjfelmfccjaaDoor
/- OccC: The program's iterator over the free occurrences of a term's names. -/
namespace Go.Proofs.YtdfnjfelmfccjaaDoor
open Go Go.RowKit Go.Shelf
attribute [local go_sem] Oper.semAt_some

set_option maxRecDepth 100000 in
set_option maxHeartbeats 4000000 in
theorem occ_it (l Be : Nat) (t : Tm) (C B0 : Nat → Prop) (W : World) (J Jx : List ByteArray → (Nat → Prop) → (Nat → Prop) → World → Prop)
    (hT : TermAt W C t Be 0) (hn : t.wt ≤ 2097152) (hka : KA W) (hkc : C 0) (hC : ∀ b, C b → b < W.heap.size) (hCB : ∀ b, C b → ¬ B0 b) (hB0 : ∀ b, B0 b → b < W.heap.size)
    (hJ : ∀ pre B N A A', J pre B N A → Keep W.heap.size (fun z => B z ∨ N z) A A' → J pre B N A') (hJx : ∀ pre B N A A', Jx pre B N A → Keep W.heap.size (fun z => B z ∨ N z) A A' → Jx pre B N A')
    (hY : ∀ (pre : List ByteArray) (x : ByteArray) (Y B N : Nat → Prop) (W1 : World), J pre B N W1 → pre ++ [x] <+: t.occ [] → (∀ z : Nat, ¬ Y z) → YieldAt Fence.wide 1 Tryd.prog l #[.string x] W1 fun e W' =>
      ∃ B' N', Grew B B' W1.heap.size W'.heap.size ∧ (∀ z, N' z → N z ∨ Y z) ∧ ((e = .returned (.bool true) ∧ J (pre ++ [x]) B' N' W' ∧ Holds B W1 W') ∨ (e = .returned (.bool false) ∧ Jx (pre ++ [x]) B' N' W' ∧ Holds B W1 W')))
    (h0 : J [] B0 (fun _ => False) W) :
    CallsIn Fence.wide 2 Tryd.prog 58 #[.func (.yield l) #[] #[], .pointer (some ⟨Be, 0, none⟩)] W fun e W' =>
      (∃ v, e = .returned v) ∧ ((∃ B' N', J (t.occ []) B' N' W') ∨ ∃ pre B' N', pre <+: t.occ [] ∧ Jx pre B' N' W') := by
  have HLN : (walkQ t [] 1).length ≤ 2097153 := Nat.le_trans (walkQ_nodes t [] 1) (by have := t.nodes_wt; omega)
  have HT := Lib.hid hT
  have HY := Lib.hid hY
  have HJ := Lib.hid hJ
  have HJX := Lib.hid hJx
  have HJ0 := Lib.hid h0
  have HB0 := Lib.hid hB0
  have HC := Lib.hid hC
  have HCB := Lib.hid hCB
  have HN := Lib.hid hn
  have HKA := Lib.hid hka
  have HKC := Lib.hid hkc
  clear hT hY hJ hJx h0 hB0 hC hCB hn hka hkc
  refine callsIn_of_wp_marks Tryd.func58 rfl trivial ?_ rfl
  simp only [Tryd.ntmps58, List.size_toArray, List.length_cons, List.length_nil, Nat.reduceAdd, Nat.reduceSub, Array.replicate_succ, Array.replicate_zero, List.push_toArray, List.append_toArray, List.nil_append, List.cons_append]
  refine wpIn_wide.2 ?_
  go_wp2_with fail
  obtain ⟨wy, hwy, hsy, hby, ky⟩ := box_new W #[.func (.yield l) #[] #[]] 74
  rw [hwy]
  refine (newScope_any wy).mono ?_
  rintro e wa ⟨bm, rfl, hmap, hbm, hba⟩
  have HWY := Lib.hid (And.intro hsy (And.intro hby ky))
  have HMP := Lib.hid hmap
  have HBA := Lib.hid hba
  clear hwy hsy hby ky hmap hba
  go_wp2_with fail
  obtain ⟨wb, hwb, hsb, hbb, kb⟩ := box_new wa #[.slice none 0 0, .map (some bm)] 77
  rw [hwb]
  refine (nodesOfQ_any wb Be 0).mono ?_
  rintro e wc ⟨Bt, Bp, rfl, hit, hbt, hbp, hbc⟩
  have HWB := Lib.hid (And.intro hsb (And.intro hbb kb))
  have HIT := Lib.hid hit
  have HBC := Lib.hid hbc
  clear hwb hsb hbb kb hit hbc
  go_wp2_with fail
  obtain ⟨s1, b1, y1⟩ := HWY.out
  obtain ⟨s2, b2, k2⟩ := HWB.out
  have sa := HBA.out.size
  have sc := HBC.out.size
  have hbW : Below W.heap.size W wc := (b1.trans (HBA.out.mono (by omega))).trans ((b2.mono (by omega)).trans (HBC.out.mono (by omega)))
  have HBW := Lib.hid hbW
  have yc : wc.heap[W.heap.size]? = some (.cells #[.func (.yield l) #[] #[]] 74 (0, 0)) := (HBC.out.block _ (by omega)).trans ((b2.block _ (by omega)).trans ((HBA.out.block _ (by omega)).trans y1))
  have kc : wc.heap[wa.heap.size]? = some (.cells #[.slice none 0 0, .map (some bm)] 77 (0, 0)) := (HBC.out.block _ (by omega)).trans k2
  have hbml := HMP.out.lt
  have hmc := HMP.out.of_block (w' := wc) ((HBC.out.block _ (by omega)).trans (b2.block _ (by omega)))
  have hstart := scope_start (N := fun _ => False) kc hmc
  have HSTART := Lib.hid hstart
  have HYC := Lib.hid yc
  have HBM := Lib.hid hbml
  clear hbW yc kc hmc hstart y1 k2 b1 b2
  refine (wpIn_wide (n := 2)).1 ?_
  refine rangeD_law (F := Fence.wide) (n := 2) rfl (by omega) (gf := 81) (lb := #[.pointer (some ⟨Bt, 0, none⟩), .pointer (some ⟨Bp, 0, none⟩)]) rfl trivial (enters_of Tryd.func81 (by kernel_rfl) rfl)
    (B0 := fun z => (z = wa.heap.size ∨ z = bm) ∨ B0 z)
    (nodesQ_seq (C := fun z => C z ∨ z = Bp) HIT.out.1 HIT.out.2 ?hT HN.out (HKA.out.below HBW.out) (Or.inl HKC.out) (fun b hb => ?hC) (Or.inr rfl)) (fun _ => rfl) (fun b hb => ?hCB) (fun b hb => ?hC2) (fun b hb => ?hB0)
    (fun pre B N Wx => ∃ (Bs Bo No : Nat → Prop) (va : Value) (n : Nat) (f : ByteArray → Value) (xs : List Value), OccI wc.heap.size (fun z => C z ∨ z = Bp) W l wa.heap.size J pre B N Wx Bs Bo No va bm n f xs)
    (fun c pre B N Wx => c = .ret ∧ ∃ (Bo No : Nat → Prop) (q : List ByteArray), q <+: t.occ [] ∧ (∀ z, Bo z → B z) ∧ (∀ z, ¬ No z) ∧ Jx q Bo No Wx)
    ?hI ?hIx ?hG (fun pre B N A h z hz => by obtain ⟨Bs, Bo, No, va, n, f, xs, h⟩ := h; exact (h.lt z hz).1) (fun x Y A z hg hz => goodQ_cells hg hz) ?h0
    (fun x _ a' Wx => ∃ b4 : Nat, a' = { tmps := #[.func (.yield l) #[] #[], .pointer (some ⟨Be, 0, none⟩), .pointer (some ⟨W.heap.size, 0, none⟩), .pointer (some ⟨wa.heap.size, 0, none⟩), .pointer (some ⟨b4, 0, none⟩), .int .i64 (x.1.2.2 : Nat), .agg #[.slice none 0 0, .map (some bm)], .agg #[.pointer (some ⟨Be, 0, none⟩), .slice none 0 0], .func (.func 81) #[] #[.pointer (some ⟨Bt, 0, none⟩), .pointer (some ⟨Bp, 0, none⟩)], .agg #[.pointer (some ⟨x.2.1, x.2.2.1, none⟩), x.2.2.2], .int .i64 (x.1.2.2 : Nat), undef, undef, undef, undef, undef, undef, undef, undef, undef, undef, undef, undef, undef, undef, undef, undef, undef, undef, undef, undef, undef, undef, undef, undef, undef, undef, undef, undef], defers := [] } ∧ Wx.heap[b4]? = some (.cells #[.pointer (some ⟨x.2.1, x.2.2.1, none⟩), x.2.2.2] 84 (0, 0)))
    ?hAx ?assign ?body ?done ?stop
  case hT => exact (HT.out.stays (.of_below HBW.out)).mono (fun z hz => Or.inl hz)
  case hC =>
    rcases hb with hb | rfl
    · exact Nat.lt_of_lt_of_le (HC.out b hb) HBW.out.size
    · exact (Array.getElem?_eq_some_iff.1 HIT.out.2).1
  case hC2 =>
    rcases hb with hb | rfl
    · exact Nat.lt_of_lt_of_le (HC.out b hb) HBW.out.size
    · exact (Array.getElem?_eq_some_iff.1 HIT.out.2).1
  case hCB =>
    have hbm1 := HBM.out
    rintro ((rfl | rfl) | h)
    · rcases hb with hb | hb
      · have := HC.out _ hb; omega
      · omega
    · rcases hb with hb | hb
      · have := HC.out _ hb; omega
      · omega
    · rcases hb with hb | hb
      · exact HCB.out b hb h
      · have := HB0.out b h; omega
  case hB0 =>
    have hbm1 := HBM.out
    rcases hb with (rfl | rfl) | h
    · omega
    · omega
    · have := HB0.out b h; omega
  case hI =>
    rintro pre B N A A' ⟨Bs, Bo, No, va, n, f, xs, h⟩ hk
    exact ⟨Bs, Bo, No, va, n, f, xs, h.keep (by omega) HJ.out hk⟩
  case hIx =>
    rintro c pre B N A A' ⟨e, Bo, No, q, h1, h2, h3, h4⟩ hk
    exact ⟨e, Bo, No, q, h1, h2, h3, HJX.out _ _ _ _ _ h4 (hk.mono (by omega) (fun b hb => hb.elim (fun h => Or.inl (h2 b h)) (fun h => absurd h (h3 b))))⟩
  case hG =>
    intro x Y A A' l' r hl hg hr hA
    refine goodQ_loop hg hr hA (fun h => ?_)
    rcases h with h | h
    · have := HC.out _ h; omega
    · have := (Array.getElem?_eq_some_iff.1 HIT.out.2).1; omega
  case h0 =>
    have hbm1 := HBM.out
    obtain ⟨_, _, hty⟩ := HSTART.out.exact
    refine ⟨fun z => z = wa.heap.size ∨ z = bm, B0, fun _ => False, .slice none 0 0, 0, fun _ => .slice none 0 0, [], ⟨fun _ => Iff.rfl, fun z hz => ⟨fun h => ?_, ?_⟩, fun z hz => hz.elim, fun z hz => ⟨?_, ?_⟩, fun z hz => hz, fun z hz => (hty z (hz.imp id Or.inl)).2, HSTART.out, HJ.out _ _ _ _ _ HJ0.out (.of_below (Nat.le_refl _) HBW.out), HYC.out, Nat.le_refl _, fun z hz h => ?_⟩⟩
    · have := HB0.out z h
      rcases hz with rfl | rfl <;> omega
    · rcases hz with rfl | rfl <;> omega
    · rcases hz with (rfl | rfl) | h
      · omega
      · omega
      · have := HB0.out z h; omega
    · rcases hz with (rfl | rfl) | h
      · omega
      · omega
      · have := HB0.out z h; omega
    · rcases h with h | h
      · have := HC.out z h
        rcases hz with rfl | rfl <;> omega
      · rcases hz with rfl | rfl <;> omega
  case hAx =>
    rintro x _ a' Wx l' r o ⟨b4, e, h⟩ hl
    exact ⟨b4, e, (World.putObj_heap_other (by rintro rfl; rw [hl] at h; cases h)).trans h⟩
  case assign =>
    intro l' x Y Wx K hg hK
    obtain ⟨⟨xt, xn, xd⟩, xb, xo, sv⟩ := x
    obtain ⟨q, cp, rfl⟩ : ∃ q cp, sv = .slice q xn.length cp := by
      rcases hg.2.1 with ⟨e0, e⟩ | ⟨_, g, cap, e, _⟩
      · simp only at e0 e
        exact ⟨_, _, by rw [e, e0]; rfl⟩
      · exact ⟨_, _, e⟩
    gi_wp2
    exact hK _ _ ((Below.refl _ Wx).alloc (Nat.le_refl _) _) ⟨_, rfl, blk_new _ _⟩
  case done =>
    rintro D B N Wx hD hne ⟨Bs, Bo, No, va, n, f, xs, hI⟩ hK
    gi_wp2
    refine ⟨by simp, .inl ⟨_, _, rfl, run_takeDeferred hK, ?_⟩⟩
    refine ⟨_, results_none rfl _ _ _, ⟨_, rfl⟩, .inl ⟨Bo, No, ?_⟩⟩
    rw [← found_occ]
    exact HJ.out _ _ _ _ _ hI.j ⟨below_putObj _ _ _ _ (by omega), fun z hz _ => World.putObj_heap_other (hz.elim (fun h => hne z (Or.inl ((hI.split z).2 (Or.inr h)))) (fun h => absurd h (hI.none z)))⟩
  case stop =>
    rintro D c pre B N Wx hD hne hpre ⟨rfl, Bo, No, q, h1, h2, h3, h4⟩ hK
    gi_wp2
    refine ⟨by simp, .inl ⟨_, _, rfl, run_takeDeferred hK, ?_⟩⟩
    refine ⟨_, results_none rfl _ _ _, ⟨_, rfl⟩, .inr ⟨q, Bo, No, h1, ?_⟩⟩
    exact HJX.out _ _ _ _ _ h4 ⟨below_putObj _ _ _ _ (by omega), fun z hz _ => World.putObj_heap_other (hz.elim (fun h => hne z (Or.inl (h2 z h))) (fun h => absurd h (h3 z)))⟩
  case body =>
    rintro l' pre x _ a' Y B N Wx ⟨Bs, Bo, No, va, n, f, xs, hI⟩ hpre hg hYB _ ⟨b4, rfl, hb4⟩ ⟨r, hl⟩ hBl
    obtain ⟨⟨xt, xn, xd⟩, xb, xo, sv⟩ := x
    have hpre : pre ++ [(xt, xn, xd)] <+: walkQ t [] 1 := hpre
    have hb4 : Wx.heap[b4]? = some (.cells #[.pointer (some ⟨xb, xo, none⟩), sv] 84 (0, 0)) := hb4
    have hg1 : TermAt Wx (fun z => C z ∨ z = Bp) xt xb xo := hg.1
    have hg2 : NamesAt Wx Y xn sv := hg.2.1
    have hg3 : ∀ z, Y z → sv.ownBlock = some z := hg.2.2
    have hmem : (xt, xn, xd) ∈ walkQ t [] 1 := hpre.subset (by simp)
    have hwt := memQ t [] 1 _ hmem
    have hlen2 := lenQ t [] 1 _ (by simp) hmem
    have hok := ok_pre hpre
    have hplen : pre.length + 1 ≤ 2097153 := by
      have h1 := hpre.length_le
      have h2 := HLN
      rw [List.length_append, List.length_singleton] at h1
      omega
    have hYlt : ∀ z, Y z → z < Wx.heap.size := fun z hz => by
      have hv := hg3 z hz
      rcases hg2 with ⟨_, e⟩ | ⟨_, g, cap, e, _, h3, _⟩
      · rw [e] at hv; cases hv
      · rw [e] at hv
        simp only [Value.ownBlock, Option.some.injEq] at hv
        omega
    have hstl := stkQ_len pre []
    have hent := enter_any (w := Wx) (bs := wa.heap.size) (st := stkQ [] pre) (nm := xn) (B := Bs) (N := fun z => N z ∨ Y z) (c := 4 * pre.length) (va := va) (pt := .pointer (some ⟨xb, xo, none⟩)) (pv := sv) (bm := bm) (n := n) (d := xd) (f := f) (xs := xs)
      (hI.sc.wide (fun _ h => h) (fun _ h => Or.inl h) (Nat.le_refl _)) (hg2.mono (fun z hz _ => Or.inr hz)) (stkQ_small ⟨_, (List.append_assoc ..).symm.trans hpre.choose_spec⟩ HN.out)
      (fun s hs => by
        rcases hwt.2 s hs with h | h
        · simp at h
        · have := HN.out; unfold maxLen; omega)
      (fun z hz => by
        rcases hz with hz | hz
        · exact ⟨(hI.names z hz).1, (hI.names z hz).2.2⟩
        · exact ⟨fun h => hYB z hz ((hI.split z).2 (Or.inl h)), hYlt z hz⟩)
      (fun z hz => (hI.lt z ((hI.split z).2 (Or.inl hz))).1) (by omega) hok.1 hok.2 (by simp only [List.length_nil] at hstl; omega) hlen2
    have HENT := Lib.hid hent
    generalize hQx : postD B N Y _ _ _ Wx = Qx
    have HQX := Lib.hid hQx
    clear hQx
    have d0 := cell_of_blk hb4 0
    have d1 := cell_of_blk hb4 1
    simp only [List.getElem?_toArray, List.getElem?_cons_zero, List.getElem?_cons_succ] at d0 d1
    have HI := Lib.hid hI
    have HP := Lib.hid hpre
    have HG := Lib.hid (And.intro hg1 (And.intro hg2 hg3))
    have HB4 := Lib.hid hb4
    have HYB := Lib.hid hYB
    have HYL := Lib.hid hYlt
    have HW := Lib.hid hwt
    clear hent hI hpre hg hg1 hg2 hg3 hb4 hmem hwt hok hYB hYlt hstl hl
    gi_wp2_with fail
    refine ⟨trivial, rfl, ?_⟩
    refine (CallsIn.inRound l' (callsIn_wide.2 HENT.out)).mono ?_
    rintro e W2 ⟨⟨v, rfl⟩, va2, n2, f2, xs2, hsc2, htu⟩
    have hst : Stays (fun z => C z ∨ z = Bp) Wx W2 := ⟨htu.size, fun z hz hl => htu.kept z hl (fun h => by
      rcases h with h | h
      · exact HI.out.cb z h hz
      · omega)⟩
    obtain ⟨xp, xq, xr, xs0, xu, xv, hcx, hcl, h9, hTM⟩ := HG.out.1.stays hst
    have hb42 : W2.heap[b4]? = some (.cells #[.pointer (some ⟨xb, xo, none⟩), sv] 84 (0, 0)) := (htu.kept b4 (Array.getElem?_eq_some_iff.1 HB4.out).1 (fun h => by
      rcases h with h | h
      · exact HI.out.ty b4 h _ _ HB4.out
      · have := (Array.getElem?_eq_some_iff.1 HB4.out).1; omega)).trans HB4.out
    have e0 := cell_of_blk hb42 0
    have e1 := cell_of_blk hb42 1
    simp only [List.getElem?_toArray, List.getElem?_cons_zero, List.getElem?_cons_succ] at e0 e1
    have k9 := h9.kind
    have n9 := h9.name
    have HSC := Lib.hid hsc2
    have HTU := Lib.hid htu
    have HST := Lib.hid hst
    have H9 := Lib.hid h9
    have HB42 := Lib.hid hb42
    clear hsc2 htu hst h9 hb42 hTM d0 d1 hcx hcl
    have hsz := HI.out.size
    have hsub : ∀ z, Bs z ∨ Wx.heap.size ≤ z → W.heap.size ≤ z := fun z hz => hz.elim (fun h => Nat.le_of_lt (HI.out.apart z h).2) (fun h => by omega)
    have hbel : Below W.heap.size Wx W2.drew := (HTU.out.below W.heap.size (by omega) hsub).drew
    have hj0 : J (foundQ pre []) Bo No W2.drew := HJ.out _ _ _ _ _ HI.out.j ⟨hbel, fun z hz hl => HTU.out.kept z hl (fun e => by
      rcases hz with hz | hz
      · rcases e with e | e
        · exact (HI.out.apart z e).1 hz
        · omega
      · exact HI.out.none z hz)⟩
    have hCx : ∀ z, C z ∨ z = Bp → z < wc.heap.size := fun z hz => hz.elim (fun h => by have := HC.out z h; omega) (fun h => by rw [h]; exact (Array.getElem?_eq_some_iff.1 HIT.out.2).1)
    have hBoW : ∀ z, Bo z → z < W2.drew.heap.size := fun z hz => Nat.lt_of_lt_of_le (HI.out.lt z ((HI.out.split z).2 (Or.inr hz))).1 HTU.out.size
    have hend := fun (W3 : World) (Bo' No' : Nat → Prop) (h1 : J (foundQ (pre ++ [(xt, xn, xd)]) []) Bo' No' W3) (h2 : ∀ z, ¬ No' z) (h3 : Grew Bo Bo' W2.heap.size W3.heap.size) (h4 : Holds Bo W2 W3) =>
      OccI.step (W2 := W2) (W3 := W3) HI.out (by omega) hCx (by rw [stkQ_snoc]; exact HSC.out) HTU.out (fun z hz => ⟨HYB.out z hz, HYL.out z hz⟩) h1 h2 h3 h4
    have hnohit : foundQ [(xt, xn, xd)] (stkQ [] pre) = [] → ∀ a, Qx Exit.normal a W2.drew := fun h a => by
      rw [← HQX.out]
      exact hend W2.drew Bo No (by rw [foundQ_snoc, h, List.append_nil]; exact hj0) HI.out.none (Grew.refl hBoW) (Holds.refl _ _)
    have yb2 : W2.heap[W.heap.size]? = some (.cells #[.func (.yield l) #[] #[]] 74 (0, 0)) := (HTU.out.kept _ (by omega) (fun e => by
      rcases e with e | e
      · exact (HI.out.lt _ ((HI.out.split _).2 (Or.inl e))).2 rfl
      · omega)).trans HI.out.yb
    have yc0 := cell_of_blk yb2 0
    simp only [List.getElem?_toArray, List.getElem?_cons_zero] at yc0
    have HEND := Lib.hid hend
    have HNH := Lib.hid hnohit
    have HJ1 := Lib.hid hj0
    have HBOW := Lib.hid hBoW
    clear hend hnohit hj0 hBoW hCx hbel hsub yb2 hsz
    by_cases hk : xt.kind = 1
    · have q0 : (xt.kind == 1) = true := by simp [hk]
      have HK := Lib.hid hk
      clear hk
      have hfn : ∀ k, Fence.wide.fn k := fun _ => trivial
      have hfo : Tryd.prog.follows .mixedOrders = true := by kernel_rfl
      have hnz : xt.name.size ≤ maxLen := by
        have h1 : xt.wt ≤ t.wt := HW.out.1
        have h2 := xt.wt_eq
        have h3 := HN.out
        unfold maxLen
        omega
      have hpl := placeOf_any (HSC.out.keep (w' := W2.drew) (Nat.le_refl _) (fun _ _ _ => rfl)) xt.name hnz
      have HPL := Lib.hid hpl
      clear hpl hnz
      cases hb : hasN xt.name (stkQ [] (pre ++ [(xt, xn, xd)])).flatten with
      | true =>
        have hpl2 : Calls Tryd.prog 63 #[.pointer (some ⟨wa.heap.size, 0, none⟩), .string xt.name] W2.drew (fun e w' => (∃ p : Int, e = .returned (.int .i64 p) ∧ (p == 0) = false) ∧ w' = W2.drew) := HPL.out.mono (by
          rintro e w' ⟨⟨p, he, hp⟩, hw⟩
          refine ⟨⟨p, he, ?_⟩, hw⟩
          have h0 : ¬ p = 0 := fun h => by
            have h2 := hp.1 h
            rw [stkQ_snoc] at hb
            exact absurd (h2.symm.trans hb) (by simp)
          simp [h0])
        have HPL2 := Lib.hid hpl2
        rw [stkQ_snoc] at hb
        have HBD := Lib.hid hb
        clear hpl2 hb HPL
        gi_wp2_with fail
        gi_region_with_o (first | refine ⟨trivial, rfl, ?_⟩ | refine ⟨rfl, ?_⟩ | skip; refine (CallsIn.inRound l' (callsIn_wide.2 HPL2.out)).mono ?_; rintro e w1 ⟨⟨p, rfl, hp⟩, rfl⟩)
        all_goals
          gi_wp2_with fail
          exact HNH.out (by simp only [foundQ, hitQ, HBD.out]; simp) _
      | false =>
        rw [stkQ_snoc] at hb
        have hpl2 : Calls Tryd.prog 63 #[.pointer (some ⟨wa.heap.size, 0, none⟩), .string xt.name] W2.drew (fun e w' => e = .returned (.int .i64 0) ∧ w' = W2.drew) := HPL.out.mono (by
          rintro e w' ⟨⟨p, he, hp⟩, hw⟩
          rw [he, hp.2 hb]
          exact ⟨rfl, hw⟩)
        have HPL2 := Lib.hid hpl2
        have hhit : foundQ [(xt, xn, xd)] (stkQ [] pre) = [xt.name] := by simp only [foundQ, hitQ, hb, HK.out]; simp
        have hpocc : foundQ pre [] ++ [xt.name] <+: t.occ [] := by
          obtain ⟨r, hr⟩ := HP.out
          rw [← found_occ, ← hr, foundQ_snoc, foundQ_snoc, hhit]
          exact List.prefix_append _ _
        obtain ⟨fn, tmps, assign, body, hy, hR⟩ := YieldAt.any (b := 0) (HY.out (foundQ pre []) xt.name (fun _ => False) Bo No W2.drew HJ1.out hpocc (fun _ h => h)) l'
        have HR := Lib.hid hR
        have HHIT := Lib.hid hhit
        have HPO := Lib.hid hpocc
        clear hpl2 hb HPL hhit hpocc hR
        gi_wp2_with fail
        gi_region_with_o (first | ((first | refine ⟨trivial, rfl, ?_⟩ | refine ⟨rfl, ?_⟩ | skip); refine HR.out.mono ?_; rintro e W3 ⟨Bo', No', hgr3, hno3, hcase⟩; obtain ⟨bb, rfl, hcase2⟩ : ∃ bb : Bool, e = .returned (.bool bb) ∧ ((bb = true ∧ J (foundQ pre [] ++ [xt.name]) Bo' No' W3 ∧ Holds Bo W2.drew W3) ∨ (bb = false ∧ Jx (foundQ pre [] ++ [xt.name]) Bo' No' W3 ∧ Holds Bo W2.drew W3)) := hcase.elim (fun h => ⟨true, h.1, Or.inl ⟨rfl, h.2⟩⟩) (fun h => ⟨false, h.1, Or.inr ⟨rfl, h.2⟩⟩)) | ((first | refine ⟨trivial, rfl, ?_⟩ | refine ⟨rfl, ?_⟩ | skip); refine (CallsIn.inRound l' (callsIn_wide.2 HPL2.out)).mono ?_; rintro e w1 ⟨rfl, rfl⟩))
        all_goals
          have HCASE := Lib.hid (And.intro hgr3 (And.intro hno3 hcase2))
          clear hgr3 hno3 hcase2
          cases bb with
          | true =>
            gi_wp2_with fail
            rw [← HQX.out]
            obtain ⟨hg3, hn3, hc3⟩ := HCASE.out
            rcases hc3 with ⟨-, hj3, hh3⟩ | ⟨hf, _⟩
            · exact HEND.out W3 Bo' No' (by rw [foundQ_snoc, HHIT.out]; exact hj3) (fun z hz => (hn3 z hz).elim (HI.out.none z) id) hg3 hh3
            · cases hf
          | false =>
            gi_wp2_with fail
            rw [← HQX.out]
            obtain ⟨hg3, hn3, hc3⟩ := HCASE.out
            rcases hc3 with ⟨hf, _⟩ | ⟨-, hj3, hh3⟩
            · cases hf
            · obtain ⟨B', N', h1, h2, h3, h4⟩ := OccI.stop (W2 := W2) (Y := Y) HI.out HTU.out hg3 hh3 (fun z hz => (hn3 z hz).elim (HI.out.none z) id) HPO.out hj3
              exact ⟨B', N', h1, h2, h3, rfl, h4⟩
    · have q0 : (xt.kind == 1) = false := by simp [hk]
      have HK := Lib.hid hk
      clear hk
      have hfn : ∀ k, Fence.wide.fn k := fun _ => trivial
      have hfo : Tryd.prog.follows .mixedOrders = true := by kernel_rfl
      gi_wp2_with fail
      gi_region_o
      all_goals
        gi_wp2_with fail
        exact HNH.out (by simp [foundQ, hitQ, HK.out]) _
end Go.Proofs.YtdfnjfelmfccjaaDoor
/- FvI: freeOccurrences as a sequence; the contract of the program's IsClosed. -/
namespace Go.Proofs.YtdfnjfelmfccjaaDoor
open Go Go.RowKit Go.Shelf
attribute [local go_sem] Oper.semAt_some

abbrev iterO (Be : Nat) : Value := .func (.func 58) #[] #[.pointer (some ⟨Be, 0, none⟩)]
abbrev encO (x : ByteArray) : Array Value := #[.string x]
def GoodO (_ : ByteArray) (Y : Nat → Prop) (_ : World) : Prop := ∀ z, ¬ Y z
theorem occ_seq {w wl : World} {C : Nat → Prop} {t : Tm} {Be : Nat} (hT : TermAt w C t Be 0) (hn : t.wt ≤ 2097152) (hka : KA w) (hkc : C 0) (hb : Below w.heap.size w wl) (hC : ∀ b, C b → b < w.heap.size) :
    SeqD Fence.wide 2 Tryd.prog 58 #[.pointer (some ⟨Be, 0, none⟩)] encO id GoodO C (t.occ []) wl := by
  intro l J Jx B0 W hbW hCB hB0 hJ hJx hY h0
  have hbb : Below w.heap.size w W := hb.trans (hbW.mono hb.size)
  exact occ_it l Be t C B0 W J Jx (hT.stays (.of_below hbb)) hn (hka.below hbb) hkc (fun b hc => Nat.lt_of_lt_of_le (hC b hc) hbb.size) hCB hB0 hJ hJx (fun pre x Y B N W1 h1 h2 h3 => hY pre x Y B N W1 h1 h2 h3 (fun z hz => absurd hz (h3 z))) h0
set_option maxRecDepth 100000 in
theorem fo_any (t : Tm) (tp : Option Addr) (tc : Nat) (rp : Option Addr) (rc : Nat) (p : Option Addr) (c : Nat) (w : World) : Calls Tryd.prog 37 #[tmV t tp tc rp rc p c] w fun e w' =>
    ∃ Be, e = .returned (iterO Be) ∧ w'.heap[Be]? = some (.cells (tmC t tp tc rp rc p c) 36 (0, 0)) ∧ Below w.heap.size w w' ∧ w.heap.size ≤ Be := by
  go_enter Tryd.func37, Tryd.ntmps37
  go_wp2
  obtain ⟨wl, hwl, hsz, hbl, k1⟩ := box_new w (tmC t tp tc rp rc p c) 36
  rw [hwl]
  go_ret
  exact ⟨_, rfl, k1, hbl, Nat.le_refl _⟩
theorem termAt_blk {w : World} {C : Nat → Prop} {t : Tm} {tp : Option Addr} {tc : Nat} {rp : Option Addr} {rc : Nat} {p : Option Addr} {c : Nat} {Be : Nat} (h : w.heap[Be]? = some (.cells (tmC t tp tc rp rc p c) 36 (0, 0))) (hT : TM' w C t tp tc rp rc p c) (hC : C Be) : TermAt w C t Be 0 :=
  ⟨tp, tc, rp, rc, p, c, hC, (Array.getElem?_eq_some_iff.1 h).1, ⟨cell_of_blk h 0, cell_of_blk h 1, cell_of_blk h 2, cell_of_blk h 3, cell_of_blk h 4, cell_of_blk h 5, cell_of_blk h 6, cell_of_blk h 7, cell_of_blk h 8⟩, hT⟩

set_option maxRecDepth 100000 in
set_option maxHeartbeats 2000000 in
theorem closedI_any {C : Nat → Prop} {t : Tm} {v : Value} {w : World} (hka : KA w) (h : TM w C t v) (hn : t.wt ≤ 2097152) :
    Calls Tryd.prog 19 #[v] w (BoolRet (fun r => r = true ↔ t.fv = []) w) := by
  have HKA := Lib.hid (fun (w' : World) (hb : Below w.heap.size w w') => hka.below hb)
  have hkl := hka.2
  have HWT := Lib.hid hn
  clear hka hn
  obtain ⟨tp, tc, rp, rc, p, c, rfl, hT⟩ := h
  have HT := Lib.hid (hT.mono (C' := (· < w.heap.size)) (fun _ _ h => h))
  clear hT
  have hfv : t.fv = [] ↔ t.occ [] = [] := by
    rw [t.fv_occ]
    constructor
    · intro h
      cases ho : t.occ [] with
      | nil => rfl
      | cons x l =>
        have hm := (add_mem (x := x) (t.occ []) []).2 (Or.inr (by rw [ho]; simp))
        rw [h] at hm
        simp at hm
    · intro h; rw [h]; rfl
  have HFV := Lib.hid hfv
  clear hfv
  refine (callsIn_wide (n := 3)).1 ?_
  refine callsIn_of_wp_marks Tryd.func19 rfl trivial ?_ rfl
  simp only [Tryd.ntmps19, List.size_toArray, List.length_cons, List.length_nil, Nat.reduceAdd, Nat.reduceSub, Array.replicate_succ, Array.replicate_zero, List.push_toArray, List.append_toArray, List.nil_append, List.cons_append]
  gi_wp2_with fail
  obtain ⟨w0, hw0, hs0, hb0, hk0, hk1⟩ := box_new2 w (tmC t tp tc rp rc p c) #[.bool false] 36 4
  rw [hw0]
  refine ⟨trivial, ?_⟩
  refine (callsIn_wide.2 (fo_any t tp tc rp rc p c w0)).mono ?_
  rintro e wl ⟨Be, rfl, hI, hbw, hBe⟩
  have hsz := hbw.size
  have hbl : Below w.heap.size w wl := hb0.trans (hbw.mono hb0.size)
  have k1 : wl.heap[w.heap.size + 1]? = some (.cells #[.bool false] 4 (0, 0)) := (hbw.block _ (by omega)).trans hk1
  have HSL : TM' wl (fun b => b < w.heap.size ∨ b = Be) t tp tc rp rc p c := (HT.out.stays (.of_below hbl)).mono (fun z hz _ => Or.inl hz)
  have hel := (Array.getElem?_eq_some_iff.1 hI).1
  clear hk0 hk1 hb0 hw0
  gi_wp2_with fail
  refine rangeD_law (F := Fence.wide) (n := 3) rfl (by omega) (gf := 58) (lb := #[.pointer (some ⟨Be, 0, none⟩)]) rfl trivial (enters_of Tryd.func58 (by kernel_rfl) rfl)
    (B0 := fun b => b = w.heap.size + 1) (occ_seq (termAt_blk hI HSL (Or.inr rfl)) HWT.out (HKA.out wl hbl) (Or.inl hkl) (Below.refl _ _) (fun b h => by omega)) (fun _ => rfl) (fun b h h2 => by omega) (fun b h => by omega) (fun b h => by omega)
    (fun pre B N W => (∀ z, B z ↔ z = w.heap.size + 1) ∧ (∀ z, ¬ N z) ∧ W.heap[w.heap.size + 1]? = some (.cells #[.bool false] 4 (0, 0)) ∧ pre = [] ∧ Below w.heap.size w W)
    (fun j pre B N W => (∀ z, B z ↔ z = w.heap.size + 1) ∧ j = .ret ∧ W.cell? ⟨w.heap.size + 1, 0, none⟩ = some (.bool false) ∧ pre ≠ [] ∧ Below w.heap.size w W)
    (fun pre B N A A' h hk => ⟨h.1, h.2.1, (hk.1.block _ (by omega)).trans h.2.2.1, h.2.2.2.1, h.2.2.2.2.trans (hk.1.mono (by omega))⟩)
    (fun j pre B N A A' h hk => ⟨h.1, h.2.1, (hk.1.cell (by show w.heap.size + 1 < _; omega)).trans h.2.2.1, h.2.2.2.1, h.2.2.2.2.trans (hk.1.mono (by omega))⟩)
    (fun x Y A A' l r hl hg hr hA => hg) (fun pre B N A h z hz => by rw [(h.1 z).1 hz]; exact (Array.getElem?_eq_some_iff.1 h.2.2.1).1) (fun x Y A z hg hz => absurd hz (hg z)) ⟨fun _ => Iff.rfl, fun _ h => h, k1, rfl, hbl⟩
    (fun x s a' W => a' = { tmps := #[tmV t tp tc rp rc p c, .pointer (some ⟨w.heap.size, 0, none⟩), .pointer (some ⟨w.heap.size + 1, 0, none⟩), tmV t tp tc rp rc p c, iterO Be, .string x], defers := [] })
    (fun x s a' W l r o h hl => h) ?assign ?body ?done ?stop
  case assign =>
    rintro l x Y W K hG hK
    have HK := Lib.hid hK
    clear hK
    gi_wp2
    exact HK.out _ _ (Below.refl _ _) (by simp)
  case body =>
    rintro l pre x s a' Y B N W ⟨hBo, hNo, hr, rfl, hB⟩ hpre hG hYB hs rfl hlp hBl
    have r2 := cell_of_blk hr 0
    have rz := unfrozen_of_blk hr 0
    simp only [List.getElem?_toArray, List.getElem?_cons_zero] at r2
    have hcc := World.cell?_setCell_same' W ⟨w.heap.size + 1, 0, none⟩ (.bool false) (by rw [r2]; rfl)
    have HCC := Lib.hid hcc
    have HBO := Lib.hid hBo
    have HB := Lib.hid hB
    have HL := Lib.hid (Array.getElem?_eq_some_iff.1 hr).1
    clear hcc hBo hB hr hpre hG hYB hs hlp hBl k1 HSL hbl hbw hI hNo hel
    gi_wp2_with fail
    refine ⟨B, fun _ => False, Grew.refl (fun b hb => ?_), fun z hz => hz.elim, Holds.setCell (Holds.refl _ _) ⟨w.heap.size + 1, 0, none⟩ ((HBO.out _).2 rfl) _, HBO.out, rfl, HCC.out, by simp, HB.out.setCell (p := ⟨w.heap.size + 1, 0, none⟩) (by show w.heap.size ≤ w.heap.size + 1; omega) _⟩
    rw [(HBO.out b).1 hb]
    have := HL.out
    simpa [World.setCell] using this
  case done =>
    rintro D B N W hD hne ⟨hBo, hNo, hr, hso, hB⟩ hK
    have r0 := cell_of_blk hr 0
    have rz := unfrozen_of_blk hr 0
    simp only [List.getElem?_toArray, List.getElem?_cons_zero] at r0
    have HV := Lib.hid hso
    have HB := Lib.hid hB
    have hK' : (W.setCell ⟨w.heap.size + 1, 0, none⟩ (.bool true)).heap[D]? = some (.deferred (some [])) := (Below.heap_setCell _ _ _ _ (by show D ≠ w.heap.size + 1; omega)).trans hK
    clear hso hB hr hK k1 HSL hbl hbw hI hBo hNo hne hel
    gi_wp2_with fail
    refine ⟨by simp, .inl ⟨_, _, rfl, run_takeDeferred hK', ?_⟩⟩
    have hc := (World.cell?_of_block (a := ⟨w.heap.size + 1, 0, none⟩) (w' := (W.setCell ⟨w.heap.size + 1, 0, none⟩ (.bool true)).putObj D (.deferred none)) (World.putObj_heap_other (by show w.heap.size + 1 ≠ D; omega))).trans (World.cell?_setCell_same' W ⟨w.heap.size + 1, 0, none⟩ (.bool true) (by rw [r0]; rfl))
    refine ⟨.bool true, ?_, true, by simp only [true_iff]; exact HFV.out.2 HV.out, rfl, (HB.out.setCell (p := ⟨w.heap.size + 1, 0, none⟩) (by show w.heap.size ≤ w.heap.size + 1; omega) _).trans (below_putObj _ _ _ _ (by omega))⟩
    rw [results_cell1 rfl]
    go_simp
  case stop =>
    rintro D c pre B N W hD hne hpre ⟨hBo, rfl, hr, hv, hB⟩ hK
    have HB := Lib.hid hB
    have HV := Lib.hid (show t.occ [] ≠ [] from fun h => hv (by rw [h] at hpre; exact List.prefix_nil.1 hpre))
    clear hv hB k1 HSL hbl hbw hI hBo hne hel
    gi_wp2_with fail
    refine ⟨by simp, .inl ⟨_, _, rfl, run_takeDeferred hK, ?_⟩⟩
    have hc := (World.cell?_of_block (a := ⟨w.heap.size + 1, 0, none⟩) (w' := W.putObj D (.deferred none)) (World.putObj_heap_other (by show w.heap.size + 1 ≠ D; omega))).trans hr
    refine ⟨.bool false, ?_, false, by simp only [Bool.false_eq_true, false_iff]; exact fun h => HV.out (HFV.out.1 h), rfl, HB.out.trans (below_putObj _ _ _ _ (by omega))⟩
    rw [results_cell1 rfl]
    go_simp
#print axioms closedI_any
end Go.Proofs.YtdfnjfelmfccjaaDoor
/- Sets: A map from strings to bools that a call made itself, as a set, of no program: what a look-up gives, what a store leaves. -/
namespace Go.Proofs.YtdfnjfelmfccjaaDoor
open Go Go.RowKit Go.Maps Go.WideMaps

/-- Block b of w is a map that says true at just those strings at which p does (of at most n entries). -/
def SetIs (P : Program) (k e : TypeId) (w : World) (b n : Nat) (p : ByteArray → Bool) : Prop :=
  ∃ D : DataW Unit, w.ownsMap P k (plainElem P e) b n D ∧ ∀ s : ByteArray, s.size ≤ maxLen → D.atKey (.string s.data.toList) (.lit (.bool false)) = .lit (.bool (p s))

section
variable {P : Program} {k e : TypeId} {w : World} {b n : Nat} {p : ByteArray → Bool}

theorem setIs_made (w : World) (P : Program) (k e : TypeId) : SetIs P k e (w.alloc (.map #[] 0)) w.heap.size 0 (fun _ => false) :=
  ⟨.map [], World.ownsMap_made _ _ _ _, fun _ _ => rfl⟩
theorem SetIs.mono (h : SetIs P k e w b n p) {n' : Nat} (hn : n ≤ n') : SetIs P k e w b n' p := by
  obtain ⟨D, h1, h2⟩ := h
  exact ⟨D, h1.mono hn, h2⟩
theorem SetIs.congr (h : SetIs P k e w b n p) {p' : ByteArray → Bool} (hp : ∀ s, p s = p' s) : SetIs P k e w b n p' := by
  obtain ⟨D, h1, h2⟩ := h
  exact ⟨D, h1, fun s hs => by rw [h2 s hs, hp s]⟩
theorem SetIs.lt (h : SetIs P k e w b n p) : b < w.heap.size := by
  obtain ⟨D, h1, _⟩ := h
  exact h1.lt
theorem SetIs.kept {w' : World} {row : Option Nat} (h : SetIs P k e w b n p) (hg : w.grownBy w' row) (hne : some b ≠ row) : SetIs P k e w' b n p := by
  obtain ⟨D, h1, h2⟩ := h
  exact ⟨D, h1.kept hg hne, h2⟩
theorem SetIs.alloc (h : SetIs P k e w b n p) (o : Obj) : SetIs P k e (w.alloc o) b n p := by
  obtain ⟨D, h1, h2⟩ := h
  exact ⟨D, h1.alloc o, h2⟩
theorem SetIs.below {w' : World} (h : SetIs P k e w b n p) (hb : Below w.heap.size w w') : SetIs P k e w' b n p := by
  have hlt := h.lt
  obtain ⟨D, ⟨es, clock, hb0, F, hs, hD⟩, h2⟩ := h
  exact ⟨D, ⟨es, clock, (hb.block b hlt).trans hb0, F, hs, hD⟩, h2⟩

theorem SetIs.belowAt {w' : World} {B : Nat} (h : SetIs P k e w b n p) (hlt : b < B) (hb : Below B w w') : SetIs P k e w' b n p := by
  obtain ⟨D, ⟨es, clock, hb0, F, hs, hD⟩, h2⟩ := h
  exact ⟨D, ⟨es, clock, (hb.block b hlt).trans hb0, F, hs, hD⟩, h2⟩

/-- An element that reads as a bool IS that bool. -/
theorem plainElem_bool_inv {H : Type} (he : P.underlying e = some .bool) {v : Value} {z : DataW H × List MemPlace} (h : plainElem P e v = some z) : ∃ x, v = .bool x ∧ z = (.lit (.bool x), []) := by
  unfold plainElem at h
  rw [he] at h
  cases v <;> simp at h
  exact ⟨_, rfl, h.symm⟩

theorem SetIs.look {t : TypeId} (h : SetIs P k e w b n p) (K : Keyed P k) (hk : P.underlying k = some .string) (ht : P.underlying t = some (.map k e)) (he : P.underlying e = some .bool) (hz : (zeroValue e).run P w = .ok (.bool false) w)
    {s : ByteArray} (hs : s.size ≤ maxLen) : (Instr.lookup t (.map (some b)) (.string s) false).run P w = .ok (.bool (p s)) w := by
  obtain ⟨D, h1, h2⟩ := h
  obtain ⟨v, ps, hrun, hv⟩ := h1.lookup K ht hz (plainElem_bool he false) (keyOf_string_mk hk hs)
  obtain ⟨x, rfl, hx⟩ := plainElem_bool_inv he hv
  rw [h2 s hs] at hx
  simp only [Prod.mk.injEq, DataW.lit.injEq, Lit.bool.injEq] at hx
  rw [hrun, hx.1]

theorem isKey_string (l : List UInt8) : WideAt.IsKeyLit (.string l) := by simp [WideAt.IsKeyLit]

theorem SetIs.store {t : TypeId} (h : SetIs P k e w b n p) (K : Keyed P k) (hk : P.underlying k = some .string) (ht : P.underlying t = some (.map k e)) (he : P.underlying e = some .bool) (hn : n < maxLen)
    {s : ByteArray} (hs : s.size ≤ maxLen) : ∃ w', (Instr.mapUpdate t (.map (some b)) (.string s) (.bool true)).run P w = .ok () w' ∧ SetIs P k e w' b (n + 1) (fun x => decide (x = s) || p x) ∧ w.grownBy w' (some b) := by
  obtain ⟨D, h1, h2⟩ := h
  obtain ⟨w', hrun, hown, hg⟩ := h1.update K ht hn (keyOf_string_mk hk hs) (plainElem_bool he true)
  refine ⟨w', hrun, ⟨_, hown, fun x hx => ?_⟩, hg⟩
  by_cases hxs : x = s
  · subst hxs
    rw [atKey_put_same h1.isMap (isKey_string _)]
    simp
  · have hne : Lit.string x.data.toList ≠ Lit.string s.data.toList := by
      intro hc
      apply hxs
      obtain ⟨⟨x⟩⟩ := x
      obtain ⟨⟨s⟩⟩ := s
      rw [show x = s by simpa using hc]
    rw [atKey_put_other hne, h2 x hx]
    simp [hxs]
end

section
variable {P : Program} (w : World) {ops : Array Oper} {rest : List Oper} {o : Oper} {a : Act} {Q : Exit → Act → World → Prop}

/-- 'set[s]' at the operation. -/
theorem wpList_look_set (hg : o.guard = none) (m x : Operand) (t : TypeId) (hop : o.op = Op.lookup t m x false)
    (k e : TypeId) (K : Keyed P k) (hk : P.underlying k = some .string) (ht : P.underlying t = some (.map k e)) (he : P.underlying e = some .bool) (hz : (zeroValue e).run P w = .ok (.bool false) w) (b n : Nat) (p : ByteArray → Bool)
    (hm : a.eval m = .map (some b)) (hset : SetIs P k e w b n p) (s : ByteArray) (hx : a.eval x = .string s) (hs : s.size ≤ maxLen) (r : Bool) (hr : p s = r)
    (hK : wpList P ops Q rest (a.put o.dst (.bool r)) w) :
    wpList P ops Q (o :: rest) a w := by
  refine wpList_plain hg fun K' hK' => ?_
  have hrun := hset.look K hk ht he hz hs
  rw [hr] at hrun
  unfold Oper.wp
  simp [execOp, hop, hm, hx, hrun, Result.andThen]
  exact hK' _ _ hK

/-- 'set[s] = true' at the operation. -/
theorem wpList_store_set (hg : o.guard = none) (m x v : Operand) (t : TypeId) (hop : o.op = Op.mapUpdate t m x v)
    (k e : TypeId) (K : Keyed P k) (hk : P.underlying k = some .string) (ht : P.underlying t = some (.map k e)) (he : P.underlying e = some .bool) (b n : Nat) (p : ByteArray → Bool)
    (hm : a.eval m = .map (some b)) (hset : SetIs P k e w b n p) (hn : n < maxLen) (s : ByteArray) (hx : a.eval x = .string s) (hv : a.eval v = .bool true) (hs : s.size ≤ maxLen)
    (hK : ∀ w', SetIs P k e w' b (n + 1) (fun x => decide (x = s) || p x) → w.grownBy w' (some b) → wpList P ops Q rest (a.put o.dst undef) w') :
    wpList P ops Q (o :: rest) a w := by
  refine wpList_plain hg fun K' hK' => ?_
  obtain ⟨w', hrun, r1, r2⟩ := hset.store K hk ht he hn hs
  unfold Oper.wp
  simp [execOp, hop, hm, hx, hv, hrun, Result.andThen]
  exact hK' _ _ (hK w' r1 r2)
end
end Go.Proofs.YtdfnjfelmfccjaaDoor
/- UniteImpl: The contract of the program's UniteNames: the strings of both lists, each at its first place; what has been seen stands in a map. -/
namespace Go.Proofs.YtdfnjfelmfccjaaDoor
open Go Go.RowKit Go.Maps

theorem lawKey : Keyed Tryd.prog 9 := string_keyed Tryd.underlying9
theorem zeroBool (w : World) : (zeroValue 4).run Tryd.prog w = .ok (.bool false) w := by kernel_rfl

/-- The map at block b says of each string whether it is among acc. -/
def Seen (w : World) (b : Nat) (acc : List ByteArray) : Prop := SetIs Tryd.prog 9 4 w b acc.length (fun s => hasN s acc)
theorem seen_made (w : World) : Seen (w.alloc (.map #[] 0)) w.heap.size [] := setIs_made w _ _ _
theorem Seen.belowAt {w w' : World} {b B : Nat} {acc : List ByteArray} (h : Seen w b acc) (hlt : b < B) (hb : Below B w w') : Seen w' b acc := SetIs.belowAt h hlt hb
theorem Seen.next {w : World} {b : Nat} {acc : List ByteArray} {x : ByteArray} (h : SetIs Tryd.prog 9 4 w b (acc.length + 1) (fun s => decide (s = x) || hasN s acc)) : Seen w b (acc ++ [x]) := by
  unfold Seen
  rw [List.length_append]
  exact h.congr (fun s => hasN_snoc s acc x)

theorem Own.kept {w w' : World} {base g : Nat} {v : Value} {xs : List ByteArray} (h : Own w base v xs) (hlt : g < base) (hg : w.grownBy w' (some g)) : Own w' base v xs := by
  refine ⟨h.1, ?_⟩
  rcases h.2 with h0 | ⟨k, cap, cur, rfl, hk, hblk, h1, h2, h3, h4⟩
  · exact Or.inl h0
  · refine Or.inr ⟨k, cap, cur, rfl, hk, ?_, h1, h2, h3, h4⟩
    rw [hg.block k (h.lt k rfl).2 (by simp; omega)]; exact hblk

/-- What has been gathered of the first m lists. -/
def gath (a b : List ByteArray) : Nat → List ByteArray
  | 0 => []
  | 1 => add [] a
  | _ => un a b

/-- The state of the walk: what has been gathered, the map, the two lists in their literal. -/
structure US (w0 w : World) (va vb v : Value) (acc : List ByteArray) : Prop where
  own : Own w (w0.heap.size + 2) v acc
  seen : Seen w w0.heap.size acc
  c0 : w.cell? ⟨w0.heap.size + 1, 0, none⟩ = some va
  c1 : w.cell? ⟨w0.heap.size + 1, 1, none⟩ = some vb
  below : Below w0.heap.size w0 w
  size : w0.heap.size + 2 ≤ w.heap.size

theorem US.start (w0 : World) (va vb : Value) : US w0 ((w0.alloc (.map #[] 0)).alloc (.cells #[va, vb] 29)) va vb (.slice none 0 0) [] := by
  have e1 : (w0.alloc (.map #[] 0)).heap.size = w0.heap.size + 1 := by simp
  have hb := (Below.refl (w0.heap.size + 1) (w0.alloc (.map #[] 0))).alloc (by omega) (.cells #[va, vb] 29)
  refine ⟨own_nil _ _, (seen_made w0).belowAt (Nat.lt_succ_self _) hb, ?_, ?_, ((Below.refl _ w0).alloc (Nat.le_refl _) _).alloc (by omega) _, by simp⟩
  · rw [← e1]; exact World.cell?_alloc_mark _ _ _ _ _
  · rw [← e1]; exact World.cell?_alloc_mark _ _ _ _ _

/-- The m-th of the two lists. -/
theorem US.list {w0 w : World} {a b : List ByteArray} {p q : Option Addr} {c d : Nat} {v : Value} {acc : List ByteArray} (h : US w0 w (.slice p a.length c) (.slice q b.length d) v acc) (hA : At w0 p a) (hB : At w0 q b)
    (ha : a.length ≤ 1048576) (hb : b.length ≤ 1048576) (za : ∀ x ∈ a, x.size ≤ 1048576) (zb : ∀ x ∈ b, x.size ≤ 1048576) {m : Nat} (hm : m < 2) (hacc : acc = gath a b m) :
    ∃ (r : Option Addr) (k : Nat) (ys : List ByteArray), w.cell? ⟨w0.heap.size + 1, m, none⟩ = some (.slice r ys.length k) ∧ At w0 r ys ∧ ys.length ≤ 1048576 ∧ (∀ x ∈ ys, x.size ≤ 1048576) ∧ gath a b (m + 1) = add acc ys ∧ acc.length ≤ 1048576 := by
  have hm' : m = 0 ∨ m = 1 := by omega
  rcases hm' with rfl | rfl
  · exact ⟨p, c, a, h.c0, hA, ha, za, by rw [hacc]; rfl, by rw [hacc]; simp [gath]⟩
  · refine ⟨q, d, b, h.c1, hB, hb, zb, by rw [hacc]; rfl, ?_⟩
    rw [hacc]
    have := add_length a []
    simp only [List.length_nil, Nat.zero_add] at this
    simp only [gath]
    omega

/-- A string that has not been seen: the map is told, the string is put behind. -/
theorem US.told {w0 w w1 w2 : World} {va vb v v' : Value} {acc : List ByteArray} {x : ByteArray} (h : US w0 w va vb v acc)
    (hset : SetIs Tryd.prog 9 4 w1 w0.heap.size (acc.length + 1) (fun s => decide (s = x) || hasN s acc)) (hg : w.grownBy w1 (some w0.heap.size))
    (hown : Own w2 (w0.heap.size + 2) v' (acc ++ [x])) (hb : Below (w0.heap.size + 2) w1 w2) : US w0 w2 va vb v' (acc ++ [x]) := by
  have hs1 := hg.size
  have hs2 := hb.size
  have hs := h.size
  refine ⟨hown, (Seen.next hset).belowAt (by omega) hb, ?_, ?_, ?_, by omega⟩
  · exact (hb.cell (p := ⟨w0.heap.size + 1, 0, none⟩) (by simp)).trans (hg.cell h.c0 (by simp))
  · exact (hb.cell (p := ⟨w0.heap.size + 1, 1, none⟩) (by simp)).trans (hg.cell h.c1 (by simp))
  · exact (h.below.grown hg (by omega) (fun k hk => by cases hk; exact Nat.le_refl _)).trans (hb.mono (by omega))

set_option maxRecDepth 100000 in
set_option maxHeartbeats 2000000 in
theorem unI_at (a b : List ByteArray) (p q : Option Addr) (c d : Nat) (w : World) (ha : a.length ≤ 1048576) (hb : b.length ≤ 1048576) (za : ∀ x ∈ a, x.size ≤ 1048576) (zb : ∀ x ∈ b, x.size ≤ 1048576) (hA : At w p a) (hB : At w q b) :
    Calls Tryd.prog 35 #[.slice p a.length c, .slice q b.length d] w (NewS' (un a b) w) := by
  have HL := Lib.hid (fun (wx : World) (v : Value) (acc : List ByteArray) (m : Nat) (h : US w wx (.slice p a.length c) (.slice q b.length d) v acc) (hm : m < 2) (hacc : acc = gath a b m) => h.list hA hB ha hb za zb hm hacc)
  have hmm := @run_makeMap Tryd.prog
  clear hA hB za zb
  go_enter Tryd.func35, Tryd.ntmps35
  go_wp2_with fail
  go_loopw [5, 16] (fun v i wr => ∃ (m : Nat) (acc : List ByteArray), m ≤ 2 ∧ i = .int .i64 m ∧ Hid (acc = gath a b m) ∧ US w wr (.slice p a.length c) (.slice q b.length d) v acc) (fun _ i _ => 2 - (intOf i).toNat)
  case atStart => exact ⟨0, [], Nat.zero_le _, rfl, Lib.hid rfl, US.start _ _ _⟩
  case round =>
    obtain ⟨m, acc, hm, rfl, HAcc, hus⟩ := hrel
    have hsz := hus.size
    by_cases hlm : m < 2
    · obtain ⟨r, kk, ys, cy, hR, hyl, hyz, hgn, hal⟩ := HL.out wr _ acc m hus hlm HAcc.out
      have HG := Lib.hid hgn
      have HR := Lib.hid hR
      have HZ := Lib.hid hyz
      have HU := Lib.hid hus
      clear hgn hR hyz hus
      go_wp2_with fail
      go_loopw [5, 22] (fun v i wx => ∃ (j : Nat) (cur : List ByteArray), j ≤ ys.length ∧ i = .int .i64 j ∧ Hid (cur = add acc (ys.take j)) ∧ US w wx (.slice p a.length c) (.slice q b.length d) v cur) (fun _ i _ => ys.length - (intOf i).toNat)
      case atStart => exact ⟨0, acc, Nat.zero_le _, rfl, Lib.hid rfl, HU.out⟩
      case round =>
        clear HU cy hsz
        obtain ⟨j, cur, hj, rfl, HC, hus⟩ := hrel
        have hsz := hus.size
        by_cases hlj : j < ys.length
        · obtain ⟨b0, o0, rfl, hb0, c0⟩ := HR.out j _ (List.getElem?_eq_getElem hlj)
          have c1 := (hus.below.cell (p := ⟨b0, o0 + j, none⟩) hb0).trans c0
          clear c0
          have hys : ys[j].size ≤ maxLen := by
            have := HZ.out _ (List.getElem_mem hlj)
            unfold maxLen
            omega
          have hcl : cur.length ≤ 4194304 := by
            have := add_take_length acc ys j
            rw [← HC.out] at this
            omega
          have hcm : cur.length < maxLen := by unfold maxLen; omega
          have HST : Hid (add acc (ys.take (j + 1)) = addS cur ys[j]) := Lib.hid (by rw [add_step acc hlj, ← HC.out])
          have HS := Lib.hid hus.seen
          have HU := Lib.hid hus
          clear hus
          by_cases hin : ys[j] ∈ cur
          · have hh := hasN_in hin
            have HX := Lib.hid (addS_in hin)
            clear hin
            go_wp2_with (at_lookup; refine wpList_look_set _ rfl _ _ 71 rfl 9 4 lawKey Tryd.underlying9 Tryd.underlying71 Tryd.underlying4 (zeroBool _) w.heap.size _ _ rfl HS.out ys[j] rfl hys true hh ?_; go_frame)
            go_roundw
            case rel => exact ⟨j + 1, cur, by omega, by go_num, Lib.hid (by rw [HST.out, HX.out]), HU.out⟩
            case measure => simp [intOf]; omega
          · have hh := hasN_out hin
            have HX := Lib.hid (addS_out hin)
            clear hin
            go_wp2_with (first
              | (at_lookup; refine wpList_look_set _ rfl _ _ 71 rfl 9 4 lawKey Tryd.underlying9 Tryd.underlying71 Tryd.underlying4 (zeroBool _) w.heap.size _ _ rfl HS.out ys[j] rfl hys false hh ?_; go_frame)
              | (at_mapUpdate; refine wpList_store_set _ rfl _ _ _ 71 rfl 9 4 lawKey Tryd.underlying9 Tryd.underlying71 Tryd.underlying4 w.heap.size _ _ rfl HS.out hcm ys[j] rfl rfl hys ?_; intro w1 hset1 hg1; have HS1 := Lib.hid hset1; have HG1 := Lib.hid hg1; have HO1 := Lib.hid (HU.out.own.kept (by omega) hg1); have hs1 := hg1.size; clear hset1 hg1; go_frame)
              | (at_builtin; refine wpList_app_str rfl _ _ rfl (w.heap.size + 2) _ _ rfl HO1.out ys[j] rfl (by omega) (by omega) ?_; intro v' w2 hown2 hb2; go_frame))
            have HU2 := Lib.hid (HU.out.told HS1.out HG1.out hown2 hb2)
            clear hown2 hb2
            go_roundw
            case rel => exact ⟨j + 1, _, by omega, by go_num, Lib.hid (by rw [HST.out, HX.out]), HU2.out⟩
            case measure => simp [intOf]; omega
        · obtain rfl : j = ys.length := by omega
          have HN : Hid (cur = gath a b (m + 1)) := Lib.hid (by rw [HG.out, HC.out, List.take_length])
          have HU := Lib.hid hus
          clear hus
          go_wp2_with fail
          go_roundw
          case rel => exact ⟨m + 1, cur, by omega, by go_num, HN, HU.out⟩
          case measure => simp [intOf]; omega
    · obtain rfl : m = 2 := by omega
      have HO : Hid (Own wr w.heap.size u5 (un a b)) := Lib.hid (by have := HAcc.out; rw [← show acc = un a b from this]; exact ownsRow_mono hus.own (by omega))
      have HB := Lib.hid hus.below
      clear hus
      go_wp2_with fail
      go_ret
      exact ⟨_, rfl, HO.out, HB.out⟩

theorem unI_any (a b : List ByteArray) (u v : Value) (w : World) (ha : a.length ≤ 1048576) (hb : b.length ≤ 1048576) (za : ∀ x ∈ a, x.size ≤ 1048576) (zb : ∀ x ∈ b, x.size ≤ 1048576) (hA : SS w u a) (hB : SS w v b) :
    Calls Tryd.prog 35 #[u, v] w (NewS' (un a b) w) := by
  obtain ⟨p, c, rfl, hp⟩ := hA.at
  obtain ⟨q, d, rfl, hq⟩ := hB.at
  exact unI_at a b p q c d w ha hb za zb hp hq
#print axioms unI_any
end Go.Proofs.YtdfnjfelmfccjaaDoor
/- FvJ: Collect and AppendSeq over the iterator of free occurrences; the contract of the program's FreeVars. -/
namespace Go.Proofs.YtdfnjfelmfccjaaDoor
open Go Go.RowKit Go.Shelf
attribute [local go_sem] Oper.semAt_some

theorem own_keep {w w' : World} {base : Nat} {v : Value} {xs : List ByteArray} (h : Own w base v xs) (hb : ∀ z, v.ownBlock = some z → w'.heap[z]? = w.heap[z]?) : Own w' base v xs := by
  refine ⟨h.1, ?_⟩
  rcases h.2 with h0 | ⟨g, cap, cur, rfl, hg, hblk, r⟩
  · exact Or.inl h0
  · exact Or.inr ⟨g, cap, cur, rfl, hg, (hb g rfl).trans hblk, r⟩
theorem own_base {w : World} {base base' : Nat} {v : Value} {xs : List ByteArray} (h : Own w base v xs) (hb : base' ≤ base) : Own w base' v xs := by
  refine ⟨h.1, ?_⟩
  rcases h.2 with h0 | ⟨g, cap, cur, rfl, hg, r⟩
  · exact Or.inl h0
  · exact Or.inr ⟨g, cap, cur, rfl, Nat.le_trans hb hg, r⟩
theorem own_form {w : World} {base : Nat} {v : Value} {xs : List ByteArray} (h : Own w base v xs) : ∃ q c, v = .slice q xs.length c := by
  rcases h.2 with ⟨h0, h1⟩ | ⟨g, cap, cur, rfl, _⟩
  · exact ⟨none, 0, by rw [h0, h1]⟩
  · exact ⟨_, _, rfl⟩
mutual
theorem occ_len : ∀ (t : Tm) (env : List ByteArray), (t.occ env).length ≤ max 1 (nodesM t.args)
  | .mk k a o n t r ts, env => by
    rw [Tm.occ]
    by_cases hk : k = 1
    · rw [if_pos hk]
      split <;> simp <;> omega
    · rw [if_neg hk]
      have := occL_len (Tm.bndAt (.mk k a o n t r ts)) 0 ts env
      simp only [Tm.args]
      omega
theorem occL_len : ∀ (b : Nat → List ByteArray) (k : Nat) (ts : List Tm) (env : List ByteArray), (occL b k ts env).length ≤ nodesM ts
  | b, k, [], env => by simp [occL]
  | b, k, t :: ts, env => by
    have h1 := occ_len t (env ++ b k)
    have h2 := occL_len b (k + 1) ts env
    have h3 := t.nodes_eq
    simp only [occL, List.length_append, nodesM]
    omega
end
mutual
theorem occ_size : ∀ (t : Tm) (env : List ByteArray) (x : ByteArray), x ∈ t.occ env → x.size ≤ t.wt
  | .mk k a o n t r ts, env, x, h => by
    rw [Tm.occ] at h
    by_cases hk : k = 1
    · rw [if_pos hk] at h
      split at h
      · simp at h
      · simp only [List.mem_singleton] at h
        subst h
        simp only [Tm.wt]
        omega
    · rw [if_neg hk] at h
      have := occL_size _ 0 ts env x h
      simp only [Tm.wt]
      omega
theorem occL_size : ∀ (b : Nat → List ByteArray) (k : Nat) (ts : List Tm) (env : List ByteArray) (x : ByteArray), x ∈ occL b k ts env → x.size ≤ wtS ts
  | b, k, [], env, x, h => by simp [occL] at h
  | b, k, t :: ts, env, x, h => by
    rw [occL] at h
    simp only [wtS]
    rcases List.mem_append.1 h with h | h
    · have := occ_size t _ x h; omega
    · have := occL_size b (k + 1) ts env x h; omega
end

set_option maxRecDepth 100000 in
set_option maxHeartbeats 2000000 in
theorem appSeq_any {C : Nat → Prop} {t : Tm} {Be : Nat} {w : World} (hT : TermAt w C t Be 0) (hn : t.wt ≤ 2097152) (hka : KA w) (hkc : C 0) (hC : ∀ b, C b → b < w.heap.size) :
    Calls Tryd.prog 57 #[.slice none 0 0, iterO Be] w (NewS' (t.occ []) w) := by
  have hlen := occ_len t []
  have hnw := nodesM_wt t.args
  have hwe := t.wt_eq
  have HLN := Lib.hid (show (t.occ []).length ≤ 2097153 by omega)
  have HT := Lib.hid hT
  have HN := Lib.hid hn
  have HKA := Lib.hid hka
  have HKC := Lib.hid hkc
  have HC := Lib.hid hC
  clear hT hn hka hkc hC hlen hnw hwe
  obtain ⟨i0, hi, hz0, hz1, hz2⟩ := info_parts infoStr
  refine (callsIn_wide (n := 3)).1 ?_
  refine callsIn_of_wp_marks Tryd.func57 rfl trivial ?_ rfl
  simp only [Tryd.ntmps57, List.size_toArray, List.length_cons, List.length_nil, Nat.reduceAdd, Nat.reduceSub, Array.replicate_succ, Array.replicate_zero, List.push_toArray, List.append_toArray, List.nil_append, List.cons_append]
  gi_wp2_with fail
  obtain ⟨w0, hw0, hs0, hb0, hk0⟩ := box_new w #[.slice none 0 0] 29
  rw [hw0]
  clear hw0
  refine rangeD_law (F := Fence.wide) (n := 3) rfl (by omega) (gf := 58) (lb := #[.pointer (some ⟨Be, 0, none⟩)]) rfl trivial (enters_of Tryd.func58 (by kernel_rfl) rfl)
    (B0 := fun b => b = w.heap.size) (occ_seq HT.out HN.out HKA.out HKC.out hb0 HC.out) (fun _ => rfl) (fun b h h2 => by have := HC.out b h; omega) (fun b h => by have := HC.out b h; omega) (fun b h => by omega)
    (fun pre B N W => ∃ va, (∀ z, B z ↔ z = w.heap.size ∨ va.ownBlock = some z) ∧ (∀ z, ¬ N z) ∧ W.heap[w.heap.size]? = some (.cells #[va] 29 (0, 0)) ∧ Own W (w.heap.size + 1) va pre ∧ Below w.heap.size w W)
    (fun _ _ _ _ _ => False)
    (fun pre B N A A' h hk => by
      obtain ⟨va, h1, h2, h3, h4, h5⟩ := h
      refine ⟨va, h1, h2, (hk.1.block _ (by omega)).trans h3, own_keep h4 (fun z hz => hk.2 z (Or.inl ((h1 z).2 (Or.inr hz))) (h4.lt z hz).2), h5.trans (hk.1.mono (by omega))⟩)
    (fun _ _ _ _ _ _ h _ => h)
    (fun x Y A A' l r hl hg hr hA => hg) (fun pre B N A h z hz => by
      obtain ⟨va, h1, h2, h3, h4, h5⟩ := h
      rcases (h1 z).1 hz with rfl | hz
      · exact (Array.getElem?_eq_some_iff.1 h3).1
      · exact (h4.lt z hz).2) (fun x Y A z hg hz => absurd hz (hg z)) ⟨.slice none 0 0, fun z => by simp [Value.ownBlock], fun _ h => h, hk0, own_nil _ _, hb0⟩
    (fun x s a' W => a' = { tmps := #[.slice none 0 0, iterO Be, .pointer (some ⟨w.heap.size, 0, none⟩), undef, .slice none 0 0, .string x, iterO Be, .string x, undef, undef, undef, undef, undef], defers := [] })
    (fun x s a' W l r o h hl => h) ?assign ?body ?done ?stop
  case assign =>
    rintro l x Y W K hG hK
    have HK := Lib.hid hK
    clear hK
    gi_wp2
    exact HK.out _ _ (Below.refl _ _) (by simp)
  case body =>
    rintro l pre x s a' Y B N W ⟨va, hBo, hNo, hr, hown, hB⟩ hpre hG hYB hs rfl hlp hBl
    obtain ⟨q, c, rfl⟩ := own_form hown
    have hpl : pre.length + 1 ≤ 2097153 := by
      have h1 := hpre.length_le
      rw [List.length_append, List.length_singleton] at h1
      have h2 := HLN.out
      omega
    have r2 := cell_of_blk hr 0
    simp only [List.getElem?_toArray, List.getElem?_cons_zero] at r2
    have hrl := (Array.getElem?_eq_some_iff.1 hr).1
    have hneq : (Value.slice q pre.length c).ownBlock ≠ some w.heap.size := fun e => by have := (hown.lt _ e).1; omega
    have r3 := cell_of_blk (((al_below W (.cells #[.string x] 9)).block _ hrl).trans hr) 0
    simp only [List.getElem?_toArray, List.getElem?_cons_zero] at r3
    have HR := Lib.hid hr
    have HBO := Lib.hid hBo
    have HB := Lib.hid hB
    have HO := Lib.hid hown
    have HRL := Lib.hid hrl
    have HNE := Lib.hid hneq
    have HXL := Lib.hid (show w.heap.size + 1 ≤ W.heap.size by omega)
    clear hBo hB hr hpre hG hYB hs hlp hBl hNo hown hrl hneq hk0 hb0 hs0
    gi_wp2_with (gi_at_builtin; refine wpListIn_app1 (w0 := W) rfl _ _ rfl Tryd.underlying29 hi hz0 hz1 hz2 rfl (by decide) rfl HO.out _ rfl (by simp) rfl (fun u hu => by simp at hu; subst hu; rfl) (by unfold maxLen; omega) (by omega) HXL.out ?_; intro w' g2 cap2 hA; have f4 := cell_of_blk ((hA.kept _ HRL.out HNE.out).1.trans HR.out) 0; have z4 := unfrozen_of_blk ((hA.kept _ HRL.out HNE.out).1.trans HR.out) 0; simp only [List.getElem?_toArray, List.getElem?_cons_zero] at f4; have HA := Lib.hid hA; clear hA)
    have hA := HA.out
    have hcap := row_cap hA.own
    have e4 : (w'.setCell ⟨w.heap.size, 0, none⟩ (.slice (some ⟨g2, 0, none⟩) (pre.length + 1) cap2)).heap.size = w'.heap.size := by simp [World.setCell]
    have s3 := hA.size
    have hrl := HRL.out
    have hk1 := hA.kept _ HRL.out HNE.out
    have hg2 : (Value.slice q pre.length c).ownBlock = some g2 ∨ W.heap.size ≤ g2 := by
      rcases Nat.lt_or_ge g2 W.heap.size with hl | hl
      · by_cases e : (Value.slice q pre.length c).ownBlock = some g2
        · exact Or.inl e
        · exact absurd rfl (hA.kept g2 hl e).2
      · exact Or.inr hl
    have ho : ∀ z, z ≠ w.heap.size → (w'.setCell ⟨w.heap.size, 0, none⟩ (.slice (some ⟨g2, 0, none⟩) (pre.length + 1) cap2)).heap[z]? = w'.heap[z]? := fun z hz => Below.heap_setCell _ _ _ _ hz
    refine ⟨fun z => z = w.heap.size ∨ z = g2, fun _ => False, fun z hz => ?_, fun z hz => hz.elim, ⟨by omega, fun z hl hb => ?_⟩, .slice (some ⟨g2, 0, none⟩) (pre.length + 1) cap2, fun z => ?_, fun _ h => h, ?_, ?_, ?_⟩
    · rcases hz with rfl | rfl
      · exact ⟨Or.inl ((HBO.out _).2 (Or.inl rfl)), by omega⟩
      · exact ⟨hg2.imp (fun e => (HBO.out _).2 (Or.inr e)) id, by omega⟩
    · rw [ho z (fun e => hb ((HBO.out z).2 (Or.inl e)))]
      exact (hA.kept z hl (fun e => hb ((HBO.out z).2 (Or.inr e)))).1
    · simp only [Value.ownBlock, Option.some.injEq]
      exact or_congr Iff.rfl eq_comm
    · rw [Go.Joins.block_setCell (hk1.1.trans HR.out) _]
      rfl
    · have h1 := hA.own
      have h2 : Own w' (w.heap.size + 1) (.slice (some ⟨g2, 0, none⟩) (pre.length + 1) cap2) (pre ++ [x]) := by
        unfold Own
        rw [List.length_append, List.length_singleton, List.map_append]
        exact h1
      exact own_keep h2 (fun z hz => ho z (fun e => by
        simp only [Value.ownBlock, Option.some.injEq] at hz
        exact hk1.2 (hz.trans e)))
    · exact ((HB.out.trans (hA.below.mono (Nat.le_succ _)))).setCell (p := ⟨w.heap.size, 0, none⟩) (Nat.le_refl _) _
  case done =>
    rintro D B N W hD hne ⟨va, hBo, hNo, hr, hown, hB⟩ hK
    have r0 := cell_of_blk hr 0
    simp only [List.getElem?_toArray, List.getElem?_cons_zero] at r0
    have HB := Lib.hid hB
    have HO := Lib.hid hown
    have HBO := Lib.hid hBo
    have HNE := Lib.hid hne
    clear hB hr hBo hNo hne hown hk0 hb0
    gi_wp2_with fail
    refine ⟨by simp, .inl ⟨_, _, rfl, run_takeDeferred hK, ?_⟩⟩
    refine ⟨_, results_tmp rfl _ _ _, va, rfl, own_keep (own_base HO.out (Nat.le_succ _)) (fun z hz => World.putObj_heap_other (HNE.out z (Or.inl ((HBO.out z).2 (Or.inr hz))))), HB.out.trans (below_putObj _ _ _ _ (by omega))⟩
  case stop =>
    rintro D c pre B N W _ _ _ h _
    exact h.elim
#print axioms appSeq_any
set_option maxRecDepth 100000 in
theorem collect_any {C : Nat → Prop} {t : Tm} {Be : Nat} {w : World} (hT : TermAt w C t Be 0) (hn : t.wt ≤ 2097152) (hka : KA w) (hkc : C 0) (hC : ∀ b, C b → b < w.heap.size) :
    Calls Tryd.prog 36 #[iterO Be] w (NewS' (t.occ []) w) := by
  have HC := Lib.hid (appSeq_any hT hn hka hkc hC)
  clear hT hn hka hkc hC
  go_enter Tryd.func36, Tryd.ntmps36
  go_wp2_with fail
  refine HC.out.mono ?_
  rintro e w1 ⟨v, rfl, ho, hb⟩
  go_wp2_with fail
  go_ret
  exact ⟨v, rfl, ho, hb⟩
set_option maxRecDepth 100000 in
theorem fvI_any {C : Nat → Prop} {t : Tm} {v : Value} {w : World} (hka : KA w) (h : TM w C t v) (hn : t.wt ≤ 1048576) :
    Calls Tryd.prog 12 #[v] w (NewS' t.fv w) := by
  have hlen := occ_len t []
  have hnw := nodesM_wt t.args
  have hwe := t.wt_eq
  have HLN := Lib.hid (show (t.occ []).length ≤ 1048576 by omega)
  have HSZ := Lib.hid (show ∀ x ∈ t.occ [], x.size ≤ 1048576 from fun x hx => by have := occ_size t [] x hx; omega)
  have HKA := Lib.hid (fun (w' : World) (hb : Below w.heap.size w w') => hka.below hb)
  have hkl := hka.2
  have HN := Lib.hid (show t.wt ≤ 2097152 by omega)
  have HFV := Lib.hid (show un (t.occ []) [] = t.fv by rw [un_eq, List.append_nil, t.fv_occ])
  obtain ⟨tp, tc, rp, rc, p, c, rfl, hT⟩ := h
  have HT := Lib.hid (hT.mono (C' := (· < w.heap.size)) (fun _ _ h => h))
  have HB0 := Lib.hid (al_below w (.cells (tmC t tp tc rp rc p c) 36))
  obtain ⟨g0, g1, g2, g3, g4, g5, g6, g7, g8⟩ := Bx9.new w t tp tc rp rc p c 36
  clear hT hka hn hlen hnw hwe
  go_enter Tryd.func12, Tryd.ntmps12
  go_wp2_with fail
  refine (fo_any t tp tc rp rc p c _).mono ?_
  rintro e w1 ⟨Be, rfl, hI, hb1, hBe⟩
  have hb01 := HB0.out.trans (hb1.mono HB0.out.size)
  have HB1 := Lib.hid hb01
  have hel := (Array.getElem?_eq_some_iff.1 hI).1
  have hs1 := hb01.size
  have HC := Lib.hid (collect_any (C := fun b => b < w.heap.size ∨ b = Be) (termAt_blk hI ((HT.out.stays (.of_below hb01)).mono (fun z hz _ => Or.inl hz)) (Or.inr rfl)) HN.out (HKA.out w1 hb01) (Or.inl hkl) (fun b hb => by omega))
  clear hI hb1 hBe hb01 hel hs1 g0 g1 g2 g3 g4 g5 g6 g7 g8 hkl
  go_wp2_with fail
  refine HC.out.mono ?_
  rintro e w2 ⟨v2, rfl, ho2, hb2⟩
  have HB2 := Lib.hid (HB1.out.trans (hb2.mono HB1.out.size))
  have HU := Lib.hid (unI_any (t.occ []) [] v2 (.slice none 0 0) w2 HLN.out (by simp) HSZ.out (by simp) ho2.ss (own_nil w2 0).ss)
  clear ho2 hb2 HC
  go_wp2_with fail
  refine HU.out.mono ?_
  rintro e w3 ⟨v3, rfl, ho3, hb3⟩
  have HO3 := Lib.hid ho3
  have HB3 := Lib.hid hb3
  clear ho3 hb3 HU
  go_wp2_with fail
  go_ret
  refine ⟨v3, rfl, ?_, HB2.out.trans (HB3.out.mono HB2.out.size)⟩
  rw [← HFV.out]
  exact own_base HO3.out HB2.out.size
#print axioms fvI_any
end Go.Proofs.YtdfnjfelmfccjaaDoor
/- FreeVarsLaw: The walk of the law that FreeVars answers as its model does, and owns its answer (genfvl.py writes this text). -/
namespace Go.Proofs.YtdfnjfelmfccjaaDoor
open Go Go.RowKit

theorem own_but {F : Nat → Prop} {w w' : World} {base : Nat} {v : Value} {xs : List ByteArray} (h : Own w base v xs) (hb : But F w w') (hF : ∀ z, v.ownBlock = some z → ¬ F z) : Own w' base v xs :=
  own_keep h (fun z hz => hb.kept z (h.lt z hz).2 (hF z hz))

set_option maxRecDepth 100000 in
set_option maxHeartbeats 4000000 in
theorem lawFreeVars {C : Nat → Prop} (t : Tm) (v : Value) (w : World) (hka : KA w) (h : TM w C t v) (hf : t.fit) :
    Calls Tryd.prog 3 #[v] w fun e w' => e = .returned (.bool true) ∧ Below w.heap.size w w' := by
  have HKA := Lib.hid (fun (w' : World) (hb : Below w.heap.size w w') => hka.below hb)
  clear hka
  have HT := Lib.hid (fun w' (hb : Below w.heap.size w w') => h.keep hb)
  obtain ⟨tp, tc, rp, rc, p, c, rfl, _⟩ := h
  have HB0 := Lib.hid (al_below w (.cells (tmC t tp tc rp rc p c) 27))
  have HX0 := Lib.hid (Bx9.new w t tp tc rp rc p c 27)
  go_enter Tryd.func3, Tryd.ntmps3
  go_wp2_with fail
  refine (szM_any (HT.out _ HB0.out) hf 1048576 (by omega) (by omega)).mono ?_
  rintro e w1 ⟨r, hr, rfl, hb1⟩
  have HX1 := Lib.hid (HX0.out.keep hb1)
  have HB1 := Lib.hid (HB0.out.trans (hb1.mono HB0.out.size))
  have HR := Lib.hid hr
  clear hr hb1
  by_cases h0 : r < 0
  · go_wp2_with fail
    go_ret
    exact ⟨rfl, HB1.out⟩
  have hn : t.wt ≤ 1048576 := by have := HR.out; unfold SzEnds at this; omega
  have hol := occ_len t []
  have hnw := nodesM_wt t.args
  have hwe := t.wt_eq
  have hnn := t.nodes_wt
  have hnodes : t.nodes ≤ 1048577 := by omega
  obtain ⟨us, hus⟩ : ∃ us, us = t.fv := ⟨_, rfl⟩
  have hul : us.length ≤ 1048576 := by
    have h2 := add_length (t.occ []) []
    rw [hus, t.fv_occ]
    simp only [List.length_nil, Nat.zero_add] at h2
    omega
  have HU := Lib.hid hus
  clear hus hol hnw hwe hnn
  obtain ⟨n, hn1⟩ : ∃ n : Nat, 1 + t.cntT = n := ⟨_, rfl⟩
  have hcn := t.cntT_wt
  have hnb : n ≤ 1099511627776 := by omega
  have hnneg : ¬ ((n : Int) < 0) := by omega
  have HNN := Lib.hid hn1
  clear hn1 hcn
  obtain ⟨g0, g1, g2, g3, g4, g5, g6, g7, g8⟩ := HX1.out
  go_wp2_with fail
  refine (toM_any (HT.out _ HB1.out) hn).mono ?_
  rintro e w2 ⟨v1, rfl, ho1, hb2⟩
  have HO1 := Lib.hid ho1
  have HB2 := Lib.hid (HB1.out.trans (hb2.mono HB1.out.size))
  have HX2 := Lib.hid (HX1.out.keep hb2)
  obtain ⟨tp1, tc1, rp1, rc1, p1, c1, rfl, hT1⟩ := HO1.out.tm
  have HT1 := Lib.hid hT1
  clear ho1 hb2 hT1 g0 g1 g2 g3 g4 g5 g6 g7 g8
  go_wp2_with fail
  refine (fvS_any _ w2 (Nat.le_refl _) HT1.out hnodes).mono ?_
  rintro e w3 ⟨vw, rfl, how, hb3⟩
  rw [← HU.out] at how
  have HW3 := Lib.hid how
  have HB3 := Lib.hid (HB2.out.trans (hb3.mono HB2.out.size))
  have HX3 := Lib.hid (HX2.out.keep hb3)
  have HLX := Lib.hid HX3.out.lt
  clear hb3 how HT1
  obtain ⟨g0, g1, g2, g3, g4, g5, g6, g7, g8⟩ := HX3.out
  go_wp2_with fail
  refine (toM_any (HT.out _ HB3.out) hn).mono ?_
  rintro e w4 ⟨v2, rfl, ho2, hb4⟩
  have HW4 := Lib.hid (HW3.out.below hb4)
  have HA2 := Lib.hid (show ∀ z, vw.ownBlock = some z → z < w3.heap.size from fun z hz => (HW3.out.lt z hz).2)
  obtain ⟨tp2, tc2, rp2, rc2, p2, c2, rfl, hO2⟩ := ho2
  have HO2 := Lib.hid (show OMv w4 t (tmV t tp2 tc2 rp2 rc2 p2 c2) (fun g => w3.heap.size ≤ g ∧ g < w4.heap.size) from ⟨_, _, _, _, _, _, rfl, hO2⟩)
  have HB4 := Lib.hid (HB3.out.trans (hb4.mono HB3.out.size))
  have HX4 := Lib.hid (HX3.out.keep hb4)
  have HBX := Lib.hid (al_below w4 (.cells (tmC t tp2 tc2 rp2 rc2 p2 c2) 36))
  have HZ4 := Lib.hid (Bx9.new w4 t tp2 tc2 rp2 rc2 p2 c2 36)
  have HL34 := Lib.hid (And.intro HB3.out.size hb4.size)
  clear hb4 hO2 HW3 g0 g1 g2 g3 g4 g5 g6 g7 g8
  go_wp2_with fail
  refine (fvI_any (HKA.out _ (HB4.out.trans (HBX.out.mono HB4.out.size))) ((HO2.out.keep HBX.out).tm) hn).mono ?_
  rintro e w5 ⟨vg, rfl, hog, hb5⟩
  rw [← HU.out] at hog
  have HG5 := Lib.hid hog
  have HZ5 := Lib.hid (HZ4.out.keep hb5)
  have hbb := below_box hb5
  have HW5 := Lib.hid (HW4.out.below hbb)
  have HO5 := Lib.hid (HO2.out.keep hbb)
  have HAG := Lib.hid (show ∀ z, vg.ownBlock = some z → w4.heap.size + 1 ≤ z from fun z hz => by have := (hog.lt z hz).1; simpa using this)
  have HAP := Lib.hid (show ∀ g, vw.ownBlock = some g → vg.ownBlock ≠ some g from fun g hg hc => by have h1 := (HW4.out.lt g hg).2; have h2 := (hog.lt g hc).1; simp at h2; omega)
  have HB5 := Lib.hid (HB4.out.trans (hbb.mono HB4.out.size))
  have HX5 := Lib.hid (HX4.out.keep hbb)
  have HL5 := Lib.hid (show w4.heap.size + 1 ≤ w5.heap.size by have := hb5.size; simpa using this)
  clear hb5 hbb hog HW4 HO2 HX4 HX3 HX2 HX1 HX0 HZ4
  go_wp2_with fail
  refine (eqs_any us vg vw w5 (by omega) HG5.out.ss HW5.out.ss).mono ?_
  rintro e w5' ⟨rfl, hb5'⟩
  have HG6 := Lib.hid (HG5.out.below hb5')
  have HW6 := Lib.hid (HW5.out.below hb5')
  have HO6 := Lib.hid (HO5.out.keep hb5')
  have HB6 := Lib.hid (HB5.out.trans (hb5'.mono HB5.out.size))
  have HX6 := Lib.hid (HX5.out.keep hb5')
  have HZ6 := Lib.hid (HZ5.out.keep hb5')
  have HL6 := Lib.hid (Nat.le_trans HL5.out hb5'.size)
  clear hb5' HG5 HW5 HO5 HB5 HX5 HZ5 HL5
  obtain ⟨g0, g1, g2, g3, g4, g5, g6, g7, g8⟩ := HX6.out
  obtain ⟨d0, d1, d2, d3, d4, d5, d6, d7, d8⟩ := HZ6.out
  go_wp2_with fail
  go_region_held3 (fun w' => w'.cell? ⟨w.heap.size, 0, none⟩ = some (.int .i64 t.kind) ∧ w'.cell? ⟨w.heap.size, 1, none⟩ = some (.string t.name) ∧ w'.cell? ⟨w.heap.size, 2, none⟩ = some (.string t.other) ∧ w'.cell? ⟨w.heap.size, 3, none⟩ = some (.int .i64 t.n) ∧ w'.cell? ⟨w.heap.size, 4, none⟩ = some (.int .i64 t.ty.kind) ∧ w'.cell? ⟨w.heap.size, 5, none⟩ = some (.slice tp t.ty.args.length tc) ∧ w'.cell? ⟨w.heap.size, 6, none⟩ = some (.int .i64 t.res.kind) ∧ w'.cell? ⟨w.heap.size, 7, none⟩ = some (.slice rp t.res.args.length rc) ∧ w'.cell? ⟨w.heap.size, 8, none⟩ = some (.slice p t.args.length c) ∧ w'.cell? ⟨w4.heap.size, 0, none⟩ = some (.int .i64 t.kind) ∧ w'.cell? ⟨w4.heap.size, 1, none⟩ = some (.string t.name) ∧ w'.cell? ⟨w4.heap.size, 2, none⟩ = some (.string t.other) ∧ w'.cell? ⟨w4.heap.size, 3, none⟩ = some (.int .i64 t.n) ∧ w'.cell? ⟨w4.heap.size, 4, none⟩ = some (.int .i64 t.ty.kind) ∧ w'.cell? ⟨w4.heap.size, 5, none⟩ = some (.slice tp2 t.ty.args.length tc2) ∧ w'.cell? ⟨w4.heap.size, 6, none⟩ = some (.int .i64 t.res.kind) ∧ w'.cell? ⟨w4.heap.size, 7, none⟩ = some (.slice rp2 t.res.args.length rc2) ∧ w'.cell? ⟨w4.heap.size, 8, none⟩ = some (.slice p2 t.args.length c2) ∧ Below w5'.heap.size w5' w')
    (first
      | (go_keep; done)
      | exact ⟨g0, g1, g2, g3, g4, g5, g6, g7, g8, d0, d1, d2, d3, d4, d5, d6, d7, d8, (Below.refl _ _).drew⟩
      | exact keep18 hb8 (by assumption)
      | exact keep18 hb7 (by assumption))
    (first
      | (go_at_call 11; refine (toM_any (HT.out _ (HB6.out.trans (((Below.refl _ _).drew).mono HB6.out.size))) hn).mono ?_; rintro e w7 ⟨v3, rfl, ho3, hb7⟩)
      | (go_at_call 14; refine (eqM_any ((HO6.out.keep ((Below.refl _ _).drew.trans hb7)).tm) ho3.tm).mono ?_; rintro e w8 ⟨b8, he8, rfl, hb8⟩))
  rename_i hH
  have hb := hH.2.2.2.2.2.2.2.2.2.2.2.2.2.2.2.2.2.2
  have HG8 := Lib.hid (HG6.out.below hb)
  have HW8 := Lib.hid (HW6.out.below hb)
  have HO8 := Lib.hid (HO6.out.keep hb)
  have HB8 := Lib.hid (HB6.out.trans (hb.mono HB6.out.size))
  have HX8 := Lib.hid (HX6.out.keep hb)
  have HZ8 := Lib.hid (HZ6.out.keep hb)
  have HL8 := Lib.hid (Nat.le_trans HL6.out hb.size)
  obtain rfl : b8 = true := by simpa using he8
  clear hH hb he8 hb7 hb8 ho3 HG6 HW6 HO6 HB6 HX6 HZ6 HL6 g0 g1 g2 g3 g4 g5 g6 g7 g8 d0 d1 d2 d3 d4 d5 d6 d7 d8
  obtain ⟨d0, d1, d2, d3, d4, d5, d6, d7, d8⟩ := HZ8.out
  have hM := markTm_any HO8.out 1 (Nat.le_refl _) (by have := HNN.out; omega)
  rw [HNN.out] at hM
  have HM := Lib.hid (show Calls Tryd.prog 15 #[tmV t tp2 tc2 rp2 rc2 p2 c2, .int .i64 1] w8 _ from hM)
  clear hM
  go_wp2_with fail
  refine HM.out.mono ?_
  rintro e w9 ⟨rfl, -, hbt⟩
  have HG9 := Lib.hid (own_but HG8.out hbt (fun z hz hf => by have h1 := HAG.out z hz; omega))
  have HW9 := Lib.hid (own_but HW8.out hbt (fun z hz hf => by have h1 := HA2.out z hz; omega))
  have HB9 := Lib.hid (HB8.out.trans (hbt.below _ HB8.out.size (fun z hz => by have := HL34.out; omega)))
  have HX9 := Lib.hid (HX8.out.but hbt (fun hf => by have := HLX.out; omega))
  have HL9 := Lib.hid (Nat.le_trans HL8.out hbt.size)
  clear hbt HM HG8 HW8 HO8 HB8 HX8 HZ8 HL8 d0 d1 d2 d3 d4 d5 d6 d7 d8
  go_wp2_with fail
  refine (eqs_any us vg vw w9 (by omega) HG9.out.ss HW9.out.ss).mono ?_
  rintro e w10 ⟨rfl, hb⟩
  have HG10 := Lib.hid (HG9.out.below hb)
  have HW10 := Lib.hid (HW9.out.below hb)
  have HB10 := Lib.hid (HB9.out.trans (hb.mono HB9.out.size))
  have HX10 := Lib.hid (HX9.out.keep hb)
  have HL10 := Lib.hid (Nat.le_trans HL9.out hb.size)
  clear hb HG9 HW9 HB9 HX9 HL9
  go_wp2_with fail
  refine (mark_1 us vg w10 _ (by omega) HG10.out).mono ?_
  rintro e w11 ⟨rfl, hm, hb, hu⟩
  have HM11 := Lib.hid hm
  have HW11 := Lib.hid (HW10.out.but HAP.out hu)
  have HB11 := Lib.hid (HB10.out.trans (hb.mono (by have := HB4.out.size; simp; omega)))
  have HX11 := Lib.hid (HX10.out.at (hu.2 _ HX10.out.lt (fun hf => by have h1 := HAG.out _ hf; have := HB4.out.size; omega)))
  clear hb hu hm HG10 HW10 HB10 HX10
  go_wp2_with fail
  refine (held_1 us.length vg w11 (by omega) HM11.out).mono ?_
  rintro e w12 ⟨rfl, hb⟩
  have HM12 := Lib.hid (HM11.out.below hb)
  have HW12 := Lib.hid (HW11.out.below hb)
  have HB12 := Lib.hid (HB11.out.trans (hb.mono HB11.out.size))
  have HX12 := Lib.hid (HX11.out.keep hb)
  clear hb HM11 HW11 HB11 HX11
  obtain ⟨g0, g1, g2, g3, g4, g5, g6, g7, g8⟩ := HX12.out
  go_wp2_with fail
  refine (toM_any (HT.out _ HB12.out) hn).mono ?_
  rintro e w13 ⟨v4, rfl, ho4, hb⟩
  have HO13 := Lib.hid ho4
  have HM13 := Lib.hid (HM12.out.below hb)
  have HW13 := Lib.hid (HW12.out.below hb)
  have HB13 := Lib.hid (HB12.out.trans (hb.mono HB12.out.size))
  clear hb ho4 HM12 HW12 HB12 g0 g1 g2 g3 g4 g5 g6 g7 g8
  go_wp2_with fail
  refine (fvI_any (HKA.out _ HB13.out) HO13.out.tm hn).mono ?_
  rintro e w14 ⟨vh, rfl, hoh, hb⟩
  rw [← HU.out] at hoh
  have HH14 := Lib.hid hoh
  have HM14 := Lib.hid (HM13.out.below hb)
  have HW14 := Lib.hid (HW13.out.below hb)
  have HB14 := Lib.hid (HB13.out.trans (hb.mono HB13.out.size))
  clear hb hoh HM13 HW13 HB13
  go_wp2_with fail
  refine (eqs_any us vh vw w14 (by omega) HH14.out.ss HW14.out.ss).mono ?_
  rintro e w15 ⟨rfl, hb⟩
  have HM15 := Lib.hid (HM14.out.below hb)
  have HB15 := Lib.hid (HB14.out.trans (hb.mono HB14.out.size))
  clear hb HM14 HW14 HB14 HH14
  go_wp2_with fail
  refine (held_1 us.length vg w15 (by omega) HM15.out).mono ?_
  rintro e w16 ⟨rfl, hb⟩
  have HB16 := Lib.hid (HB15.out.trans (hb.mono HB15.out.size))
  clear hb
  go_wp2_with fail
  go_ret
  exact ⟨rfl, HB16.out⟩
#print axioms lawFreeVars
end Go.Proofs.YtdfnjfelmfccjaaDoor
/- Frame: THE FRAME OF A LAW, of no program: where a call returns true and leaves what was there as it was, the row's end is met: each argument reads as it read. -/
namespace Go.Proofs.YtdfnjfelmfccjaaDoor
open Go Go.ChangeShapes Go.WideShapes Go.ChangeAt Go.RowKit

section
variable {H : Type} {enc : TypeId × Value → H} {P : Program}

/-- Every argument reads behind the call as it read before. -/
theorem trodAll_below (hl : laidOutB P = true) {W W' : World} (hb : Below W.heap.size W W') : ∀ (ts : List TypeId) (vs : List Value) (ds : List (DataW H)) (ps : List MemPlace),
    (∀ t ∈ ts, P.readableRec t = true ∧ t < P.types.size) → DataW.TrodAll enc P W 0 (fun _ => true) true ts vs ds ps → (∀ x ∈ ps, x.block < W.heap.size) →
    DataW.TrodAll enc P W' 0 (fun b => decide (b < W.heap.size)) true ts vs ds ps
  | [], [], [], _, _, h, _ => h
  | t :: ts, v :: vs, d :: ds, ps, hr, h, hlt => by
    obtain ⟨p, q, h1, h2, rfl⟩ := h
    have ht := hr t (List.mem_cons_self ..)
    exact ⟨p, q, Below.trod hl ht.1 ht.2 h1 hb (fun x hx => hlt x (List.mem_append_left _ hx)), trodAll_below hl hb ts vs ds q (fun u hu => hr u (List.mem_cons_of_mem _ hu)) h2 (fun x hx => hlt x (List.mem_append_right _ hx)), rfl⟩
  | [], _ :: _, _, _, _, h, _ => h.elim
  | [], [], _ :: _, _, _, h, _ => h.elim
  | _ :: _, [], _, _, _, h, _ => h.elim
  | _ :: _, _ :: _, [], _, _, h, _ => h.elim

/-- The end of a law's row. -/
theorem law_post {f : Func} {s : ChangeSpec} {W W' : World} {args : Array Value} {ds gs : List (DataW H)} {before : List MemPlace} {tb : TypeId} (hl : laidOutB P = true)
    (hts : (f.params.toList.all fun t => P.readableRec t && decide (t < P.types.size)) = true) (hbool : P.underlying tb = some .bool) (hres : f.resultTypes = #[tb]) (hvars : s.vars = [])
    (hW : DataW.Whole enc P f.params.toList s.vars false W args.toList ds gs before) (hr : (s.fn H ds).results = [.lit (.bool true)]) (ha : (s.fn H ds).args = ds) (hv : (s.fn H ds).vars = [])
    (hb : Below W.heap.size W W') : s.post enc P f false true false false W args (.bool true) W' := by
  have hW0 := hW
  obtain ⟨p, q, hA, hV, rfl, hfz, _⟩ := hW
  rw [hvars] at hV
  obtain ⟨rfl, rfl⟩ := trodVars_none hV
  have hlt : ∀ x ∈ p, x.block < W.heap.size := fun x hx => hW0.lt x (List.mem_append_left _ hx)
  refine ⟨ds, [], p ++ [], [], p, [], hW0, ?_, ?_, ?_, hb.frame _, fun h => by cases h⟩
  · rw [List.append_nil, hr, hres]
    exact trodAll_mk1 (shut_bool hbool _)
  · rw [List.append_nil, ha]
    refine trodAll_below hl hb _ _ _ _ (fun t ht => ?_) hA hlt
    have := List.all_eq_true.1 hts t ht
    simp only [Bool.and_eq_true, decide_eq_true_eq] at this
    exact this
  · rw [List.append_nil, hv, hvars]
    rfl
end
end Go.Proofs.YtdfnjfelmfccjaaDoor
/- FrameV: The end of a law's row whose function names variables: they read behind the call as before. Of no program. -/
namespace Go.Proofs.YtdfnjfelmfccjaaDoor
open Go Go.ChangeShapes Go.WideShapes Go.ChangeAt Go.RowKit

section
variable {H : Type} {enc : TypeId × Value → H} {P : Program}

theorem law_postV {f : Func} {s : ChangeSpec} {W W' : World} {args : Array Value} {ds gs : List (DataW H)} {before : List MemPlace} {tb : TypeId} (hl : laidOutB P = true)
    (hts : (f.params.toList.all fun t => P.readableRec t && decide (t < P.types.size)) = true) (hbool : P.underlying tb = some .bool) (hres : f.resultTypes = #[tb]) (hvars : varsRowed P s.vars = true)
    (hW : DataW.Whole enc P f.params.toList s.vars false W args.toList ds gs before) (hr : (s.fn H (ds ++ gs)).results = [.lit (.bool true)]) (ha : (s.fn H (ds ++ gs)).args = ds) (hv : (s.fn H (ds ++ gs)).vars = gs)
    (hb : Below W.heap.size W W') : s.post enc P f false true false false W args (.bool true) W' := by
  have hW0 := hW
  obtain ⟨p, q, hA, hV, rfl, hfz, _⟩ := hW
  have hlt : ∀ x ∈ p, x.block < W.heap.size := fun x hx => hW0.lt x (List.mem_append_left _ hx)
  refine ⟨ds, gs, p ++ q, [], p, q, hW0, ?_, ?_, ?_, hb.frame _, fun h => by cases h⟩
  · rw [hr, hres]
    exact trodAll_mk1 (shut_bool hbool _)
  · rw [ha]
    refine trodAll_below hl hb _ _ _ _ (fun t ht => ?_) hA hlt
    have := List.all_eq_true.1 hts t ht
    simp only [Bool.and_eq_true, decide_eq_true_eq] at this
    exact this
  · rw [hv]
    exact Below.trodVars hl hb hvars hV
end
end Go.Proofs.YtdfnjfelmfccjaaDoor
/- IsClosedLaw: The walk of the law that IsClosed answers as its model does. -/
namespace Go.Proofs.YtdfnjfelmfccjaaDoor
open Go Go.RowKit

set_option maxRecDepth 100000 in
set_option maxHeartbeats 2000000 in
theorem lawIsClosed {C : Nat → Prop} (t : Tm) (v : Value) (w : World) (hka : KA w) (h : TM w C t v) (hf : t.fit) :
    Calls Tryd.prog 4 #[v] w fun e w' => e = .returned (.bool true) ∧ Below w.heap.size w w' := by
  have HKA := Lib.hid (fun (w' : World) (hb : Below w.heap.size w w') => hka.below hb)
  clear hka
  have HT := Lib.hid (fun w' (hb : Below w.heap.size w w') => h.keep hb)
  obtain ⟨tp, tc, rp, rc, p, c, rfl, _⟩ := h
  have HB0 := Lib.hid (al_below w (.cells (tmC t tp tc rp rc p c) 27))
  have HX0 := Lib.hid (Bx9.new w t tp tc rp rc p c 27)
  go_enter Tryd.func4, Tryd.ntmps4
  go_wp2_with fail
  refine (szM_any (HT.out _ HB0.out) hf 1048576 (by omega) (by omega)).mono ?_
  rintro e w1 ⟨r, hr, rfl, hb1⟩
  have HX1 := Lib.hid (HX0.out.keep hb1)
  have HB1 := Lib.hid (HB0.out.trans (hb1.mono HB0.out.size))
  have HR := Lib.hid hr
  clear hr hb1
  by_cases h0 : r < 0
  · go_wp2_with fail
    go_ret
    exact ⟨rfl, HB1.out⟩
  have hn : t.wt ≤ 1048576 := by have := HR.out; unfold SzEnds at this; omega
  have hn2 : t.wt ≤ 2097152 := by omega
  obtain ⟨g0, g1, g2, g3, g4, g5, g6, g7, g8⟩ := HX1.out
  go_wp2_with fail
  refine (toM_any (HT.out _ HB1.out) hn).mono ?_
  rintro e w2 ⟨v1, rfl, ho1, hb2⟩
  have HO1 := Lib.hid ho1
  have HB2 := Lib.hid (HB1.out.trans (hb2.mono HB1.out.size))
  have HX2 := Lib.hid (HX1.out.keep hb2)
  clear ho1 hb2 g0 g1 g2 g3 g4 g5 g6 g7 g8
  go_wp2_with fail
  refine (closedS_any HO1.out.tm (by have := t.nodes_wt; omega)).mono ?_
  rintro e w3 ⟨r1, hr1, rfl, hb3⟩
  have HB3 := Lib.hid (HB2.out.trans (hb3.mono HB2.out.size))
  have HX3 := Lib.hid (HX2.out.keep hb3)
  have HR1 := Lib.hid hr1
  clear hb3 hr1
  obtain ⟨g0, g1, g2, g3, g4, g5, g6, g7, g8⟩ := HX3.out
  go_wp2_with fail
  refine (toM_any (HT.out _ HB3.out) hn).mono ?_
  rintro e w4 ⟨v2, rfl, ho2, hb4⟩
  have HY := Lib.hid (fun w' (hb : Below w4.heap.size w4 w') => ho2.tm.keep hb)
  obtain ⟨tp2, tc2, rp2, rc2, p2, c2, rfl, _⟩ := ho2
  have HB4 := Lib.hid (HB3.out.trans (hb4.mono HB3.out.size))
  have HX4 := Lib.hid (HX3.out.keep hb4)
  have HBX := Lib.hid (al_below w4 (.cells (tmC t tp2 tc2 rp2 rc2 p2 c2) 36))
  have HZ4 := Lib.hid (Bx9.new w4 t tp2 tc2 rp2 rc2 p2 c2 36)
  clear hb4 g0 g1 g2 g3 g4 g5 g6 g7 g8
  go_wp2_with fail
  refine (closedI_any (HKA.out _ (HB4.out.trans (HBX.out.mono HB4.out.size))) (HY.out _ HBX.out) hn2).mono ?_
  rintro e w5 ⟨r2, hr2, rfl, hb5⟩
  have HZ5 := Lib.hid (HZ4.out.keep hb5)
  have hbb := below_box hb5
  have HB5 := Lib.hid (HB4.out.trans (hbb.mono HB4.out.size))
  have HX5 := Lib.hid (HX4.out.keep hbb)
  have HXB := Lib.hid hbb
  obtain rfl : r2 = r1 := by first | exact hr2.trans HR1.out.symm | exact Bool.eq_iff_iff.2 (hr2.trans HR1.out.symm) | exact hr2.one HR1.out
  clear hb5 hbb hr2 HR1
  obtain ⟨g0, g1, g2, g3, g4, g5, g6, g7, g8⟩ := HX5.out
  obtain ⟨d0, d1, d2, d3, d4, d5, d6, d7, d8⟩ := HZ5.out
  go_wp2_with fail
  go_region_held3 (fun w' => w'.cell? ⟨w.heap.size, 0, none⟩ = some (.int .i64 t.kind) ∧ w'.cell? ⟨w.heap.size, 1, none⟩ = some (.string t.name) ∧ w'.cell? ⟨w.heap.size, 2, none⟩ = some (.string t.other) ∧ w'.cell? ⟨w.heap.size, 3, none⟩ = some (.int .i64 t.n) ∧ w'.cell? ⟨w.heap.size, 4, none⟩ = some (.int .i64 t.ty.kind) ∧ w'.cell? ⟨w.heap.size, 5, none⟩ = some (.slice tp t.ty.args.length tc) ∧ w'.cell? ⟨w.heap.size, 6, none⟩ = some (.int .i64 t.res.kind) ∧ w'.cell? ⟨w.heap.size, 7, none⟩ = some (.slice rp t.res.args.length rc) ∧ w'.cell? ⟨w.heap.size, 8, none⟩ = some (.slice p t.args.length c) ∧ w'.cell? ⟨w4.heap.size, 0, none⟩ = some (.int .i64 t.kind) ∧ w'.cell? ⟨w4.heap.size, 1, none⟩ = some (.string t.name) ∧ w'.cell? ⟨w4.heap.size, 2, none⟩ = some (.string t.other) ∧ w'.cell? ⟨w4.heap.size, 3, none⟩ = some (.int .i64 t.n) ∧ w'.cell? ⟨w4.heap.size, 4, none⟩ = some (.int .i64 t.ty.kind) ∧ w'.cell? ⟨w4.heap.size, 5, none⟩ = some (.slice tp2 t.ty.args.length tc2) ∧ w'.cell? ⟨w4.heap.size, 6, none⟩ = some (.int .i64 t.res.kind) ∧ w'.cell? ⟨w4.heap.size, 7, none⟩ = some (.slice rp2 t.res.args.length rc2) ∧ w'.cell? ⟨w4.heap.size, 8, none⟩ = some (.slice p2 t.args.length c2) ∧ Below w5.heap.size w5 w')
    (first
      | (go_keep; done)
      | exact ⟨g0, g1, g2, g3, g4, g5, g6, g7, g8, d0, d1, d2, d3, d4, d5, d6, d7, d8, (Below.refl _ _).drew⟩
      | exact keep18 hb7 (by assumption)
      | exact keep18 hb6 (by assumption))
    (first
      | (go_at_call 11; refine (toM_any (HT.out _ (HB5.out.trans (((Below.refl _ _).drew).mono HB5.out.size))) hn).mono ?_; rintro e w6 ⟨v3, rfl, ho3, hb6⟩)
      | (go_at_call 14; refine (eqM_any (HY.out _ (HXB.out.trans (((Below.refl _ _).drew.trans hb6).mono HXB.out.size))) ho3.tm).mono ?_; rintro e w7 ⟨b7, he7, rfl, hb7⟩))
  rename_i hH
  have HBL := Lib.hid (HB5.out.trans (hH.2.2.2.2.2.2.2.2.2.2.2.2.2.2.2.2.2.2.mono HB5.out.size))
  obtain rfl : b7 = true := by simpa using he7
  clear hH
  go_wp2_with fail
  go_ret
  exact ⟨rfl, HBL.out⟩
end Go.Proofs.YtdfnjfelmfccjaaDoor
