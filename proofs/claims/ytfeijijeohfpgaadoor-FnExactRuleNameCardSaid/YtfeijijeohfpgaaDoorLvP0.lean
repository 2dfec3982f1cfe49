/-
  Levels, of no program: what the model asks of a term at a level; the nodes with their levels; the row of levels that a walk over the nodes keeps.
-/
import Derived.Test.YtfeijijeohfpgaaDoorSizesM
namespace Go.Proofs.YtfeijijeohfpgaaDoor
open Go Go.RowKit

/-- The level of the parts of a form of kind k at level n. -/
def nextL (k n : Int) : Int := if k = 10 then wrap64 (n + 1) else if k = 11 then wrap64 (n - 1) else n
mutual
/-- All parts have levels from 0 to 2. -/
def Tm.lvOk : Tm → Int → Prop
  | .mk k _ _ _ _ _ ts, n => (0 ≤ n ∧ n ≤ 2) ∧ lvOkS ts (nextL k n)
def lvOkS : List Tm → Int → Prop
  | [], _ => True
  | t :: ts, n => t.lvOk n ∧ lvOkS ts n
end
mutual
/-- No code, splice, run or lift, and no code in a type. -/
def Tm.pln : Tm → Prop
  | .mk k _ _ _ t r ts => plnS ts ∧ k < 10 ∧ t.has 4 = false ∧ r.has 4 = false
def plnS : List Tm → Prop
  | [] => True
  | t :: ts => t.pln ∧ plnS ts
end
mutual
/-- No splice stands at level 1. -/
def Tm.made : Tm → Int → Prop
  | .mk k _ _ _ _ _ ts, n => ¬ (k = 11 ∧ n = 1) ∧ madeS ts (nextL k n)
def madeS : List Tm → Int → Prop
  | [], _ => True
  | t :: ts, n => t.made n ∧ madeS ts n
end
mutual
def Tm.splices : Tm → Nat
  | .mk k _ _ _ _ _ ts => (if k = 11 then 1 else 0) + splicesS ts
def splicesS : List Tm → Nat
  | [] => 0
  | t :: ts => t.splices + splicesS ts
end
mutual
def Tm.high : Tm → Int → Int
  | .mk k _ _ _ _ _ ts, n => highS ts (nextL k n) n
def highS : List Tm → Int → Int → Int
  | [], _, m => m
  | t :: ts, n, m => highS ts n (max m (t.high n))
end
theorem Tm.lvOk_eq (t : Tm) (n : Int) : t.lvOk n ↔ (0 ≤ n ∧ n ≤ 2) ∧ lvOkS t.args (nextL t.kind n) := by cases t; simp only [Tm.lvOk, Tm.args, Tm.kind]
theorem Tm.pln_eq (t : Tm) : t.pln ↔ plnS t.args ∧ t.kind < 10 ∧ t.ty.has 4 = false ∧ t.res.has 4 = false := by cases t; simp only [Tm.pln, Tm.args, Tm.kind, Tm.ty, Tm.res]
theorem Tm.made_eq (t : Tm) (n : Int) : t.made n ↔ ¬ (t.kind = 11 ∧ n = 1) ∧ madeS t.args (nextL t.kind n) := by cases t; simp only [Tm.made, Tm.args, Tm.kind]
theorem Tm.splices_eq (t : Tm) : t.splices = (if t.kind = 11 then 1 else 0) + splicesS t.args := by cases t; rfl
theorem Tm.high_eq (t : Tm) (n : Int) : t.high n = highS t.args (nextL t.kind n) n := by cases t; simp only [Tm.high, Tm.args, Tm.kind]
theorem lvOkS_iff (ts : List Tm) (n : Int) : lvOkS ts n ↔ ∀ t ∈ ts, t.lvOk n := by
  induction ts with
  | nil => simp [lvOkS]
  | cons t ts ih => simp only [lvOkS, List.forall_mem_cons, ih]
theorem plnS_iff (ts : List Tm) : plnS ts ↔ ∀ t ∈ ts, t.pln := by
  induction ts with
  | nil => simp [plnS]
  | cons t ts ih => simp only [plnS, List.forall_mem_cons, ih]
theorem madeS_iff (ts : List Tm) (n : Int) : madeS ts n ↔ ∀ t ∈ ts, t.made n := by
  induction ts with
  | nil => simp [madeS]
  | cons t ts ih => simp only [madeS, List.forall_mem_cons, ih]
theorem splicesS_append (a b : List Tm) : splicesS (a ++ b) = splicesS a + splicesS b := by
  induction a with
  | nil => simp [splicesS]
  | cons t a ih => simp only [List.cons_append, splicesS, ih]; omega
theorem splicesS_take (ts : List Tm) (k : Nat) (h : k < ts.length) : splicesS (ts.take (k + 1)) = splicesS (ts.take k) + ts[k].splices := by
  rw [tm_take_next h, splicesS_append]; simp [splicesS]
theorem highS_append (a b : List Tm) (n m : Int) : highS (a ++ b) n m = highS b n (highS a n m) := by
  induction a generalizing m with
  | nil => rfl
  | cons t a ih => simp only [List.cons_append, highS, ih]
theorem highS_take (ts : List Tm) (n m : Int) (k : Nat) (h : k < ts.length) : highS (ts.take (k + 1)) n m = max (highS (ts.take k) n m) (ts[k].high n) := by
  rw [tm_take_next h, highS_append]; simp [highS]
/-- The first k parts are right. -/
theorem take_all {P : Tm → Prop} {ts : List Tm} {k : Nat} (h : k < ts.length) : (∀ t ∈ ts.take (k + 1), P t) ↔ (∀ t ∈ ts.take k, P t) ∧ P ts[k] := by
  rw [tm_take_next h]
  simp only [List.mem_append, List.mem_singleton]
  constructor
  · intro h1; exact ⟨fun t ht => h1 t (Or.inl ht), h1 _ (Or.inr rfl)⟩
  · rintro ⟨h1, h2⟩ t (ht | rfl)
    · exact h1 t ht
    · exact h2
mutual
theorem splicesS_nodes : ∀ ts : List Tm, splicesS ts ≤ nodesM ts
  | [] => Nat.le_refl _
  | t :: ts => by
    have h1 := Tm.splices_nodes t
    have h2 := splicesS_nodes ts
    simp only [splicesS, nodesM]
    omega
theorem Tm.splices_nodes : ∀ t : Tm, t.splices ≤ t.nodes
  | .mk k a b n t r ts => by
    have := splicesS_nodes ts
    simp only [Tm.splices, Tm.nodes]
    split <;> omega
end

mutual
/-- The nodes in order, each with its level. -/
def walkL : Tm → Int → List (Tm × Int)
  | .mk k a b n t r ts, l => (.mk k a b n t r ts, l) :: walkLS ts (nextL k l)
def walkLS : List Tm → Int → List (Tm × Int)
  | [], _ => []
  | t :: ts, l => walkL t l ++ walkLS ts l
end
mutual
theorem walkL_length : ∀ (t : Tm) (l : Int), (walkL t l).length = t.nodes
  | .mk k a b n t r ts, l => by simp only [walkL, List.length_cons, walkLS_length ts, Tm.nodes]; omega
theorem walkLS_length : ∀ (ts : List Tm) (l : Int), (walkLS ts l).length = nodesM ts
  | [], l => rfl
  | t :: ts, l => by simp only [walkLS, List.length_append, walkLS_length ts, walkL_length t, nodesM]
end
mutual
theorem lvOk_walk : ∀ (t : Tm) (l : Int), t.lvOk l ↔ ∀ e ∈ walkL t l, 0 ≤ e.2 ∧ e.2 ≤ 2
  | .mk k a b n t r ts, l => by
    rw [Tm.lvOk, lvOk_walkS ts, walkL, List.forall_mem_cons]
theorem lvOk_walkS : ∀ (ts : List Tm) (l : Int), lvOkS ts l ↔ ∀ e ∈ walkLS ts l, 0 ≤ e.2 ∧ e.2 ≤ 2
  | [], l => by simp [lvOkS, walkLS]
  | t :: ts, l => by
    have h1 := lvOk_walk t l
    have h2 := lvOk_walkS ts l
    simp only [lvOkS, walkLS, List.forall_mem_append, h1, h2]
end
mutual
theorem made_walk : ∀ (t : Tm) (l : Int), t.made l ↔ ∀ e ∈ walkL t l, ¬ (e.1.kind = 11 ∧ e.2 = 1)
  | .mk k a b n t r ts, l => by
    rw [Tm.made, made_walkS ts, walkL, List.forall_mem_cons]
    simp only [Tm.kind]
theorem made_walkS : ∀ (ts : List Tm) (l : Int), madeS ts l ↔ ∀ e ∈ walkLS ts l, ¬ (e.1.kind = 11 ∧ e.2 = 1)
  | [], l => by simp [madeS, walkLS]
  | t :: ts, l => by
    have h1 := made_walk t l
    have h2 := made_walkS ts l
    simp only [madeS, walkLS, List.forall_mem_append, h1, h2]
end
/-- The highest of some levels. -/
def topL (m : Int) (l : List (Tm × Int)) : Int := l.foldl (fun m e => max m e.2) m
theorem topL_append (m : Int) (a b : List (Tm × Int)) : topL m (a ++ b) = topL (topL m a) b := by simp [topL]
theorem topL_snoc (m : Int) (a : List (Tm × Int)) (e : Tm × Int) : topL m (a ++ [e]) = max (topL m a) e.2 := by simp [topL]
theorem topL_max (l : List (Tm × Int)) (m k : Int) : topL (max m k) l = max m (topL k l) := by
  induction l generalizing k with
  | nil => rfl
  | cons e l ih =>
    show topL (max (max m k) e.2) l = max m (topL (max k e.2) l)
    rw [← ih]; congr 1; omega
mutual
theorem high_walk : ∀ (t : Tm) (l m : Int), max m (t.high l) = topL m (walkL t l)
  | .mk k a b n t r ts, l, m => by
    rw [Tm.high, walkL]
    show _ = topL (max m l) (walkLS ts (nextL k l))
    rw [← high_walkS ts, highS_max]
theorem high_walkS : ∀ (ts : List Tm) (l m : Int), highS ts l m = topL m (walkLS ts l)
  | [], l, m => rfl
  | t :: ts, l, m => by
    have h1 := high_walk t l m
    have h2 := high_walkS ts l (max m (t.high l))
    rw [highS, walkLS, topL_append, ← h1, h2]
theorem highS_max : ∀ (ts : List Tm) (l m n : Int), highS ts l (max m n) = max m (highS ts l n)
  | [], l, m, n => rfl
  | t :: ts, l, m, n => by
    have h2 := highS_max ts l m (max n (t.high l))
    rw [highS, highS, ← h2]
    congr 1
    omega
end
theorem high_top (t : Tm) (h : 0 ≤ t.high 0) : t.high 0 = topL 0 (walkL t 0) := by
  rw [← high_walk]; omega
mutual
theorem high_ge : ∀ (t : Tm) (l : Int), l ≤ t.high l
  | .mk k a b n t r ts, l => by rw [Tm.high]; exact highS_ge ts _ l
theorem highS_ge : ∀ (ts : List Tm) (l m : Int), m ≤ highS ts l m
  | [], l, m => Int.le_refl _
  | t :: ts, l, m => by
    have := highS_ge ts l (max m (t.high l))
    rw [highS]; omega
end
theorem high_0 (t : Tm) : t.high 0 = topL 0 (walkL t 0) := high_top t (high_ge t 0)
mutual
theorem pln_walk : ∀ (t : Tm) (d : Nat), t.pln ↔ ∀ e ∈ walkM t d, e.1.kind < 10 ∧ e.1.ty.has 4 = false ∧ e.1.res.has 4 = false
  | .mk k a b n t r ts, d => by
    rw [Tm.pln, pln_walkS ts (d + 1), walkM, List.forall_mem_cons]
    simp only [Tm.kind, Tm.ty, Tm.res]
    exact And.comm
theorem pln_walkS : ∀ (ts : List Tm) (d : Nat), plnS ts ↔ ∀ e ∈ walkSM ts d, e.1.kind < 10 ∧ e.1.ty.has 4 = false ∧ e.1.res.has 4 = false
  | [], d => by simp [plnS, walkSM]
  | t :: ts, d => by
    have h1 := pln_walk t d
    have h2 := pln_walkS ts d
    simp only [plnS, walkSM, List.forall_mem_append, h1, h2]
end
/-- The splices so far. -/
def spl (l : List (Tm × Nat)) : Nat := (l.filter fun e => e.1.kind = 11).length
theorem spl_snoc (l : List (Tm × Nat)) (x : Tm) (d : Nat) : spl (l ++ [(x, d)]) = spl l + (if x.kind = 11 then 1 else 0) := by
  unfold spl
  rw [List.filter_append, List.length_append]
  congr 1
  by_cases h : x.kind = 11 <;> simp [h]
theorem spl_append (a b : List (Tm × Nat)) : spl (a ++ b) = spl a + spl b := by unfold spl; rw [List.filter_append, List.length_append]
theorem spl_le (l : List (Tm × Nat)) : spl l ≤ l.length := List.length_filter_le _ _
mutual
theorem splices_walk : ∀ (t : Tm) (d : Nat), t.splices = spl (walkM t d)
  | .mk k a b n t r ts, d => by
    have h := splices_walkS ts (d + 1)
    rw [Tm.splices, walkM, h]
    show _ = spl ([((.mk k a b n t r ts : Tm), d)] ++ walkSM ts (d + 1))
    rw [spl_append]
    have := spl_snoc [] (.mk k a b n t r ts) d
    rw [List.nil_append] at this
    rw [this]
    have e : spl [] = 0 := rfl
    rw [e, Nat.zero_add]
    rfl
theorem splices_walkS : ∀ (ts : List Tm) (d : Nat), splicesS ts = spl (walkSM ts d)
  | [], d => by simp [splicesS, walkSM, spl]
  | t :: ts, d => by
    have h1 := splices_walk t d
    have h2 := splices_walkS ts d
    rw [splicesS, walkSM, spl_append, ← h1, ← h2]
end

/-- The row of levels behind a node at depth d; behind some nodes. -/
def pushL (st : List Int) (t : Tm) (d : Nat) : List Int := st.take d ++ [nextL t.kind (st.getD (d - 1) 0)]
def stkL (st : List Int) (pre : List (Tm × Nat)) : List Int := pre.foldl (fun st x => pushL st x.1 x.2) st
theorem stkL_snoc (st : List Int) (pre : List (Tm × Nat)) (x : Tm) (d : Nat) : stkL st (pre ++ [(x, d)]) = pushL (stkL st pre) x d := by simp [stkL]
/-- The nodes with the levels that the row tells. -/
def lvs : List (Tm × Nat) → List Int → List (Tm × Int)
  | [], _ => []
  | (t, d) :: r, st => (t, st.getD (d - 1) 0) :: lvs r (pushL st t d)
theorem lvs_append : ∀ (a b : List (Tm × Nat)) (st : List Int), lvs (a ++ b) st = lvs a st ++ lvs b (stkL st a)
  | [], b, st => rfl
  | (t, d) :: a, b, st => by
    rw [List.cons_append, lvs, lvs, lvs_append a b, List.cons_append]
    rfl
theorem lvs_snoc (pre : List (Tm × Nat)) (x : Tm) (d : Nat) (st : List Int) : lvs (pre ++ [(x, d)]) st = lvs pre st ++ [(x, (stkL st pre).getD (d - 1) 0)] := by
  rw [lvs_append]; rfl
theorem pushL_len {st : List Int} {t : Tm} {d : Nat} (h : d ≤ st.length) : (pushL st t d).length = d + 1 := by
  simp only [pushL, List.length_append, List.length_take, List.length_singleton]; omega
theorem getD_take {st : List Int} {d j : Nat} (h : j < d) : (st.take d).getD j 0 = st.getD j 0 := by
  simp only [List.getD_eq_getElem?_getD, List.getElem?_take, h, if_true]
mutual
theorem lvs_walk : ∀ (t : Tm) (d : Nat) (st : List Int) (r : List (Tm × Nat)), 1 ≤ d → d ≤ st.length →
    ∃ st', st'.take d = st.take d ∧ d ≤ st'.length ∧ lvs (walkM t d ++ r) st = walkL t (st.getD (d - 1) 0) ++ lvs r st'
  | .mk k a b n t x ts, d, st, r, h1, hd => by
    have hl := pushL_len (t := .mk k a b n t x ts) hd
    have hp : (pushL st (.mk k a b n t x ts) d).take d = st.take d := by
      unfold pushL
      rw [List.take_append_of_le_length (by rw [List.length_take]; omega), List.take_take, Nat.min_self]
    have hg : (pushL st (.mk k a b n t x ts) d).getD d 0 = nextL k (st.getD (d - 1) 0) := by
      unfold pushL
      rw [List.getD_eq_getElem?_getD, List.getElem?_append_right (by rw [List.length_take]; omega), List.length_take, Nat.min_eq_left hd, Nat.sub_self]
      rfl
    obtain ⟨st', e1, e2, e3⟩ := lvs_walkS ts (d + 1) (pushL st (.mk k a b n t x ts) d) r (by omega) (by omega)
    refine ⟨st', ?_, by omega, ?_⟩
    · have := congrArg (List.take d) e1
      rw [List.take_take, List.take_take, Nat.min_eq_left (by omega)] at this
      rw [this, hp]
    · rw [walkM, walkL, List.cons_append, lvs, e3, Nat.add_sub_cancel, hg, List.cons_append]
theorem lvs_walkS : ∀ (ts : List Tm) (d : Nat) (st : List Int) (r : List (Tm × Nat)), 1 ≤ d → d ≤ st.length →
    ∃ st', st'.take d = st.take d ∧ d ≤ st'.length ∧ lvs (walkSM ts d ++ r) st = walkLS ts (st.getD (d - 1) 0) ++ lvs r st'
  | [], d, st, r, h1, hd => ⟨st, rfl, hd, by simp only [walkSM, walkLS, List.nil_append]⟩
  | t :: ts, d, st, r, h1, hd => by
    obtain ⟨st1, e1, e2, e3⟩ := lvs_walk t d st (walkSM ts d ++ r) h1 hd
    obtain ⟨st2, f1, f2, f3⟩ := lvs_walkS ts d st1 r h1 e2
    have hg : st1.getD (d - 1) 0 = st.getD (d - 1) 0 := by
      rw [← getD_take (d := d) (by omega), e1, getD_take (by omega)]
    refine ⟨st2, f1.trans e1, f2, ?_⟩
    rw [walkSM, walkLS, List.append_assoc, e3, f3, List.append_assoc, hg]
end
/-- The walk tells each node's level. -/
theorem lvs_all (t : Tm) (l : Int) : lvs (walkM t 1) [l] = walkL t l := by
  obtain ⟨st', _, _, h⟩ := lvs_walk t 1 [l] [] (Nat.le_refl _) (Nat.le_refl _)
  rw [List.append_nil] at h
  rw [h]
  simp [lvs]
/-- Every node's depth lies within the row. -/
def OkL : List (Tm × Nat) → Nat → Prop
  | [], _ => True
  | x :: r, m => 1 ≤ x.2 ∧ x.2 ≤ m ∧ OkL r (x.2 + 1)
mutual
theorem okL_walk : ∀ (t : Tm) (d m : Nat) (r : List (Tm × Nat)), 1 ≤ d → d ≤ m → (∀ m', d ≤ m' → OkL r m') → OkL (walkM t d ++ r) m
  | .mk k a b n t x ts, d, m, r, h1, hd, hr => by
    rw [walkM, List.cons_append]
    exact ⟨h1, hd, okL_walkS ts (d + 1) (d + 1) r (by omega) (Nat.le_refl _) (fun m' h => hr m' (by omega))⟩
theorem okL_walkS : ∀ (ts : List Tm) (d m : Nat) (r : List (Tm × Nat)), 1 ≤ d → d ≤ m → (∀ m', d ≤ m' → OkL r m') → OkL (walkSM ts d ++ r) m
  | [], d, m, r, h1, hd, hr => by rw [walkSM, List.nil_append]; exact hr m hd
  | t :: ts, d, m, r, h1, hd, hr => by
    rw [walkSM, List.append_assoc]
    exact okL_walk t d m _ h1 hd (fun m' h => okL_walkS ts d m' r h1 h hr)
end
theorem okL_at : ∀ (pre : List (Tm × Nat)) (x : Tm) (d : Nat) (r : List (Tm × Nat)) (st : List Int), OkL (pre ++ (x, d) :: r) st.length → 1 ≤ d ∧ d ≤ (stkL st pre).length
  | [], x, d, r, st, h => ⟨h.1, h.2.1⟩
  | (y, e) :: pre, x, d, r, st, h => by
    have h2 := h.2.2
    have hl := pushL_len (t := y) (d := e) (show e ≤ st.length from h.2.1)
    have h3 : OkL (pre ++ (x, d) :: r) (pushL st y e).length := by rw [hl]; exact h2
    exact okL_at pre x d r _ h3
theorem okL_pre {t : Tm} {l : Int} {pre : List (Tm × Nat)} {x : Tm} {d : Nat} (h : pre ++ [(x, d)] <+: walkM t 1) : 1 ≤ d ∧ d ≤ (stkL [l] pre).length := by
  obtain ⟨r, hr⟩ := h
  have h1 := okL_walk t 1 1 [] (Nat.le_refl _) (Nat.le_refl _) (fun _ _ => trivial)
  rw [List.append_nil, ← hr, List.append_assoc] at h1
  exact okL_at pre x d r [l] h1
theorem lvs_pre {t : Tm} {l : Int} {pre : List (Tm × Nat)} (h : pre <+: walkM t 1) : lvs pre [l] <+: walkL t l := by
  obtain ⟨r, hr⟩ := h
  rw [← lvs_all, ← hr, lvs_append]
  exact List.prefix_append _ _
/-- Depths are small. -/
theorem depth_pre {t : Tm} {x : Tm} {d : Nat} (h : (x, d) ∈ walkM t 1) (hn : t.nodes ≤ 2097153) : d ≤ 2097153 := by
  have h1 := maxdM_walk t 1
  have h2 := (maxdM_le (l := walkM t 1) (n := t.depth)).1 (by omega) _ h
  have h3 := t.depth_nodes
  simp only at h2
  omega
end Go.Proofs.YtfeijijeohfpgaaDoor

