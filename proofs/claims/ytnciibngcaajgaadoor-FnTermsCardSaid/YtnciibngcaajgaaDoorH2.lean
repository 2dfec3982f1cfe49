/-
  Several texts of the proof in one (each says below what it holds): Tm TmRow TySz TmSz TyEq.
-/
import Derived.Test.YtnciibngcaajgaaDoorH1
import Derived.Test.YtnciibngcaajgaaDoorProg
import Derived.Deep.RegionHeld3
/- Tm: Types and terms as data: the cells of each, flat; from the trees of types to data and back; terms in memory, the induction over them; what they weigh. -/
namespace Go.Proofs.YtnciibngcaajgaaDoor
open Go Go.RowKit

/-- Cells of structs, one behind the other. -/
theorem flat_at {α β : Type} (f : α → List β) (k : Nat) (hk : ∀ x, (f x).length = k) : ∀ (xs : List α) (j i : Nat), i < k → (xs.flatMap f)[j * k + i]? = (xs[j]?).bind fun x => (f x)[i]?
  | [], j, i, _ => by simp
  | x :: xs, 0, i, hi => by
    rw [Nat.zero_mul, Nat.zero_add, List.flatMap_cons, List.getElem?_append_left (by rw [hk]; exact hi)]; rfl
  | x :: xs, j + 1, i, hi => by
    have := flat_at f k hk xs j i hi
    rw [List.flatMap_cons, List.getElem?_append_right (by rw [hk, Nat.add_mul]; omega), hk, Nat.add_mul, Nat.one_mul, show j * k + k + i - k = j * k + i by omega, this]
    rfl
theorem flat_len {α β : Type} (f : α → List β) (k : Nat) (hk : ∀ x, (f x).length = k) (xs : List α) : (xs.flatMap f).length = xs.length * k := by
  induction xs with
  | nil => simp
  | cons x xs ih => rw [List.flatMap_cons, List.length_append, ih, hk, List.length_cons, Nat.add_mul]; omega

mutual
/-- The cells of a type; of types. -/
def Ty.ds : Ty → List D
  | .mk k ts => [.cell (.int .i64 k), .rows 26 2 ts.length (flatTy ts)]
def flatTy : List Ty → List D
  | [] => []
  | t :: ts => t.ds ++ flatTy ts
end
theorem Ty.ds_len (t : Ty) : t.ds.length = 2 := by cases t; rfl
theorem flatTy_eq (ts : List Ty) : flatTy ts = ts.flatMap Ty.ds := by
  induction ts with
  | nil => rfl
  | cons t ts ih => rw [flatTy, ih]; rfl
theorem flatTy_len (ts : List Ty) : (flatTy ts).length = ts.length * 2 := by rw [flatTy_eq, flat_len _ 2 Ty.ds_len]
theorem flatTy_at (ts : List Ty) (j : Nat) (h : j < ts.length) : (flatTy ts)[j * 2]? = some (.cell (.int .i64 ts[j].kind)) ∧ (flatTy ts)[j * 2 + 1]? = some (.rows 26 2 ts[j].args.length (flatTy ts[j].args)) := by
  have h0 := flat_at Ty.ds 2 Ty.ds_len ts j 0 (by omega)
  have h1 := flat_at Ty.ds 2 Ty.ds_len ts j 1 (by omega)
  rw [List.getElem?_eq_getElem h] at h0 h1
  rw [flatTy_eq]
  exact ⟨by rw [Nat.add_zero] at h0; rw [h0]; cases ts[j]; rfl, by rw [h1]; cases ts[j]; rfl⟩
theorem div2 {i n : Nat} (h : i < n * 2) : ∃ j, j < n ∧ (i = j * 2 ∨ i = j * 2 + 1) := ⟨i / 2, by omega, by omega⟩

/-- A slice of types as data. -/
abbrev tyD (ts : List Ty) : D := .rows 26 2 ts.length (flatTy ts)
theorem TS.dm {w : World} {C : Nat → Prop} {ts : List Ty} {v : Value} (h : TS w C ts v) : DM w C (tyD ts) v := by
  induction h with
  | nil a c => exact .nil _ _ a c
  | @cons ts b o c S h1 hc hm hC hb hk hs hr ih =>
    refine .rows (fun i => if i % 2 = 0 then .int .i64 ((ts[i / 2]?).map Ty.kind |>.getD 0) else S (i / 2)) h1 hc hm (flatTy_len ts) hC hb (fun i d hi => ?_) (fun i d hi => ?_)
    all_goals
      have hlt : i < ts.length * 2 := by rw [← flatTy_len]; exact (List.getElem?_eq_some_iff.1 hi).1
      obtain ⟨j, hj, e⟩ := div2 hlt
      have hx := List.getElem?_eq_getElem hj
      obtain ⟨f0, f1⟩ := flatTy_at ts j hj
    · rcases e with rfl | rfl
      · simp only [Nat.mul_mod_left, if_true, Nat.mul_div_cancel _ (by omega : 0 < 2), hx, Option.map_some, Option.getD_some]
        exact hk j _ hx
      · simp only [show (j * 2 + 1) % 2 = 1 by omega, show (j * 2 + 1) / 2 = j by omega, Nat.one_ne_zero, if_false]
        exact hs j _ hx
    · rcases e with rfl | rfl
      · simp only [Nat.mul_mod_left, if_true, Nat.mul_div_cancel _ (by omega : 0 < 2), hx, Option.map_some, Option.getD_some]
        rw [f0] at hi; cases hi
        exact .cell _
      · simp only [show (j * 2 + 1) % 2 = 1 by omega, show (j * 2 + 1) / 2 = j by omega, Nat.one_ne_zero, if_false]
        rw [f1] at hi; cases hi
        exact ih j _ hx
theorem DM.ts {w : World} {C : Nat → Prop} : ∀ (m : Nat) {ts : List Ty} {v : Value}, nodesS ts ≤ m → DM w C (tyD ts) v → TS w C ts v
  | m, [], v, _, h => by
    obtain ⟨a, c, rfl⟩ := h.form
    exact .nil a c
  | 0, t :: ts, v, hm, h => by simp only [nodesS, Ty.nodes_eq] at hm; omega
  | m + 1, t :: ts, v, hn, h => by
    have hne : (flatTy (t :: ts)).length = (t :: ts).length * 2 := flatTy_len _
    cases h with
    | @rows _ _ _ b o c _ V h1 hc hm hl hC hb hv hr =>
      refine .cons (fun j => V (j * 2 + 1)) h1 hc hm hC hb (fun j x hj => ?_) (fun j x hj => ?_) (fun j x hj => ?_)
      all_goals
        obtain ⟨hlt, rfl⟩ := List.getElem?_eq_some_iff.1 hj
        obtain ⟨f0, f1⟩ := flatTy_at (t :: ts) j hlt
      · have := (hr _ _ f0).val
        rw [hv _ _ f0, this]
      · exact hv _ _ f1
      · refine DM.ts m ?_ (hr _ _ f1)
        have := nodesS_at (t :: ts) j hlt
        omega
theorem OS.dO {w : World} {F : Nat → Prop} {ts : List Ty} {v : Value} (h : OS w ts v F) : DO w (tyD ts) v F := by
  induction h with
  | none F => exact .nil _ _ F
  | @row ts b c F K S G hrow hm hF hk hr hG hd ih =>
    obtain ⟨cur, hblk, hsz, hn, hat⟩ := hrow
    refine .rows cur (fun i => if i % 2 = 0 then .int .i64 (K (i / 2)) else S (i / 2)) (fun i z => i % 2 = 1 ∧ G (i / 2) z) hblk hsz hn hm (flatTy_len ts) hF (fun i hi => ?_) (fun i d hi => ?_) (fun i z hi hz => hG (i / 2) z (by omega) hz.2) (fun i j z hi hj hij h1 h2 => hd (i / 2) (j / 2) z (by omega) (by omega) (by omega) h1.2 h2.2)
    · obtain ⟨j, hj, e⟩ := div2 hi
      rcases e with rfl | rfl
      · simp only [Nat.mul_mod_left, if_true, Nat.mul_div_cancel _ (by omega : 0 < 2)]
        exact (hat j hj).1
      · simp only [show (j * 2 + 1) % 2 = 1 by omega, show (j * 2 + 1) / 2 = j by omega, Nat.one_ne_zero, if_false]
        exact (hat j hj).2
    · have hlt : i < ts.length * 2 := by rw [← flatTy_len]; exact (List.getElem?_eq_some_iff.1 hi).1
      obtain ⟨j, hj, e⟩ := div2 hlt
      have hx := List.getElem?_eq_getElem hj
      obtain ⟨f0, f1⟩ := flatTy_at ts j hj
      rcases e with rfl | rfl
      · rw [f0] at hi; cases hi
        simp only [Nat.mul_mod_left, if_true, Nat.mul_div_cancel _ (by omega : 0 < 2), hk j _ hx]
        exact .cell _ _
      · rw [f1] at hi; cases hi
        simp only [show (j * 2 + 1) % 2 = 1 by omega, show (j * 2 + 1) / 2 = j by omega, Nat.one_ne_zero, if_false]
        exact (ih j _ hx).mono (fun z hz => ⟨trivial, hz⟩)
theorem DO.os {w : World} : ∀ (m : Nat) {F : Nat → Prop} {ts : List Ty} {v : Value}, nodesS ts ≤ m → DO w (tyD ts) v F → OS w ts v F
  | m, F, ts, v, hn, h => by
    rcases h.inv with ⟨h0, _, rfl⟩ | ⟨b, c, cur, V, G, rfl, hblk, hsz, hnc, hm, hl, hF, hv, hr, hG, hd⟩
    · obtain rfl := List.eq_nil_of_length_eq_zero h0
      exact .none F
    · have hat : ∀ j, j < ts.length → cur[j * 2]? = some (.int .i64 ((ts[j]?).map Ty.kind |>.getD 0)) ∧ cur[j * 2 + 1]? = some (V (j * 2 + 1)) := fun j hj => by
        obtain ⟨f0, f1⟩ := flatTy_at ts j hj
        have h1 := hv (j * 2) (by omega)
        rw [(hr _ _ f0).val] at h1
        rw [List.getElem?_eq_getElem hj]
        exact ⟨h1, hv (j * 2 + 1) (by omega)⟩
      refine .row (fun j => (ts[j]?).map Ty.kind |>.getD 0) (fun j => V (j * 2 + 1)) (fun j => G (j * 2 + 1)) ⟨cur, hblk, hsz, hnc, hat⟩ hm hF (fun j x hj => by simp only [hj, Option.map_some, Option.getD_some]) (fun j x hj => ?_) (fun j z hj hz => hG _ z (by omega) hz) (fun i j z hi hj hij h1 h2 => hd _ _ z (by omega) (by omega) (by omega) h1 h2)
      obtain ⟨hlt, rfl⟩ := List.getElem?_eq_some_iff.1 hj
      have hle := nodesS_at ts j hlt
      match m, hn with
      | 0, hn => omega
      | m + 1, hn => exact DO.os m (by omega) (hr _ _ (flatTy_at ts j hlt).2)

inductive Tm where
  | mk (kind : Int) (name other : ByteArray) (n : Int) (ty res : Ty) (args : List Tm)
namespace Tm
def kind : Tm → Int | mk k _ _ _ _ _ _ => k
def name : Tm → ByteArray | mk _ a _ _ _ _ _ => a
def other : Tm → ByteArray | mk _ _ b _ _ _ _ => b
def n : Tm → Int | mk _ _ _ n _ _ _ => n
def ty : Tm → Ty | mk _ _ _ _ t _ _ => t
def res : Tm → Ty | mk _ _ _ _ _ r _ => r
def args : Tm → List Tm | mk _ _ _ _ _ _ ts => ts
end Tm
theorem Tm.eta (t : Tm) : t = .mk t.kind t.name t.other t.n t.ty t.res t.args := by cases t; rfl
theorem Tm.ext' {a b : Tm} (h1 : a.kind = b.kind) (h2 : a.name = b.name) (h3 : a.other = b.other) (h4 : a.n = b.n) (h5 : a.ty = b.ty) (h6 : a.res = b.res) (h7 : a.args = b.args) : a = b := by
  rw [a.eta, b.eta, h1, h2, h3, h4, h5, h6, h7]
mutual
/-- The cells of a term; of terms. -/
def Tm.ds : Tm → List D
  | .mk k a b n t r ts => [.cell (.int .i64 k), .cell (.string a), .cell (.string b), .cell (.int .i64 n), .cell (.int .i64 t.kind), tyD t.args, .cell (.int .i64 r.kind), tyD r.args, .rows 29 9 ts.length (flatTm ts)]
def flatTm : List Tm → List D
  | [] => []
  | t :: ts => t.ds ++ flatTm ts
end
/-- A slice of terms as data. -/
abbrev tmD (ts : List Tm) : D := .rows 29 9 ts.length (flatTm ts)
theorem Tm.ds_eq (x : Tm) : x.ds = [.cell (.int .i64 x.kind), .cell (.string x.name), .cell (.string x.other), .cell (.int .i64 x.n), .cell (.int .i64 x.ty.kind), tyD x.ty.args, .cell (.int .i64 x.res.kind), tyD x.res.args, tmD x.args] := by
  cases x; rfl
theorem Tm.ds_len (t : Tm) : t.ds.length = 9 := by cases t; rfl
theorem flatTm_eq (ts : List Tm) : flatTm ts = ts.flatMap Tm.ds := by
  induction ts with
  | nil => rfl
  | cons t ts ih => rw [flatTm, ih]; rfl
theorem flatTm_len (ts : List Tm) : (flatTm ts).length = ts.length * 9 := by rw [flatTm_eq, flat_len _ 9 Tm.ds_len]
theorem flatTm_at (ts : List Tm) (j i : Nat) (h : j < ts.length) (hi : i < 9) : (flatTm ts)[j * 9 + i]? = (ts[j].ds)[i]? := by
  rw [flatTm_eq, flat_at Tm.ds 9 Tm.ds_len ts j i hi, List.getElem?_eq_getElem h]; rfl
theorem flatTm_append (a b : List Tm) : flatTm (a ++ b) = flatTm a ++ flatTm b := by simp [flatTm_eq]

mutual
/-- The nodes of a term; what it weighs: the letters of its names, the nodes of its types, its parts. -/
def Tm.nodes : Tm → Nat
  | .mk _ _ _ _ _ _ ts => 1 + nodesM ts
def nodesM : List Tm → Nat
  | [] => 0
  | t :: ts => t.nodes + nodesM ts
end
mutual
def Tm.wt : Tm → Nat
  | .mk _ a b _ t r ts => a.size + b.size + nodesS t.args + nodesS r.args + wtS ts
def wtS : List Tm → Nat
  | [] => 0
  | t :: ts => 1 + t.wt + wtS ts
end
theorem Tm.nodes_eq (t : Tm) : t.nodes = 1 + nodesM t.args := by cases t; simp [Tm.nodes, Tm.args]
theorem Tm.wt_eq (t : Tm) : t.wt = t.name.size + t.other.size + nodesS t.ty.args + nodesS t.res.args + wtS t.args := by cases t; simp [Tm.wt, Tm.name, Tm.other, Tm.ty, Tm.res, Tm.args]
theorem nodesM_append (a b : List Tm) : nodesM (a ++ b) = nodesM a + nodesM b := by
  induction a with
  | nil => simp [nodesM]
  | cons x a ih => simp only [List.cons_append, nodesM, ih]; omega
theorem wtS_append (a b : List Tm) : wtS (a ++ b) = wtS a + wtS b := by
  induction a with
  | nil => simp [wtS]
  | cons x a ih => simp only [List.cons_append, wtS, ih]; omega
theorem tm_take_next {ts : List Tm} {k : Nat} (h : k < ts.length) : ts.take (k + 1) = ts.take k ++ [ts[k]] := by
  rw [List.take_add_one, List.getElem?_eq_getElem h]; rfl
theorem wtS_take (ts : List Tm) (k : Nat) (h : k < ts.length) : wtS (ts.take (k + 1)) = wtS (ts.take k) + (1 + ts[k].wt) := by
  rw [tm_take_next h, wtS_append]; simp [wtS]
theorem wtS_take_le (ts : List Tm) (k : Nat) : wtS (ts.take k) ≤ wtS ts := by
  have h := wtS_append (ts.take k) (ts.drop k)
  rw [List.take_append_drop] at h
  omega
theorem wtS_ge (ts : List Tm) : ts.length ≤ wtS ts := by
  induction ts with
  | nil => simp
  | cons a ts ih => simp only [List.length_cons, wtS]; omega
theorem wtS_at (ts : List Tm) (k : Nat) (h : k < ts.length) : 1 + ts[k].wt ≤ wtS ts := by
  have h1 := wtS_take ts k h
  have h2 := wtS_take_le ts (k + 1)
  omega
theorem nodesM_take (ts : List Tm) (k : Nat) (h : k < ts.length) : nodesM (ts.take (k + 1)) = nodesM (ts.take k) + ts[k].nodes := by
  rw [tm_take_next h, nodesM_append]; simp [nodesM]
theorem nodesM_take_le (ts : List Tm) (k : Nat) : nodesM (ts.take k) ≤ nodesM ts := by
  have h := nodesM_append (ts.take k) (ts.drop k)
  rw [List.take_append_drop] at h
  omega
theorem nodesM_at (ts : List Tm) (k : Nat) (h : k < ts.length) : ts[k].nodes ≤ nodesM ts := by
  have h1 := nodesM_take ts k h
  have h2 := nodesM_take_le ts (k + 1)
  omega
mutual
theorem nodesM_wt : ∀ ts : List Tm, nodesM ts ≤ wtS ts
  | [] => Nat.le_refl _
  | t :: ts => by
    have h1 := Tm.nodes_wt t
    have h2 := nodesM_wt ts
    simp only [nodesM, wtS]
    omega
theorem Tm.nodes_wt : ∀ t : Tm, t.nodes ≤ 1 + t.wt
  | .mk k a b n t r ts => by
    have := nodesM_wt ts
    simp only [Tm.nodes, Tm.wt]
    omega
end

/-- A struct value that is the term t. -/
abbrev tmV (t : Tm) (tp : Option Addr) (tc : Nat) (rp : Option Addr) (rc : Nat) (p : Option Addr) (c : Nat) : Value :=
  .agg #[.int .i64 t.kind, .string t.name, .string t.other, .int .i64 t.n, .int .i64 t.ty.kind, .slice tp t.ty.args.length tc, .int .i64 t.res.kind, .slice rp t.res.args.length rc, .slice p t.args.length c]
structure TM' (w : World) (C : Nat → Prop) (t : Tm) (tp : Option Addr) (tc : Nat) (rp : Option Addr) (rc : Nat) (p : Option Addr) (c : Nat) : Prop where
  ty : TS w C t.ty.args (.slice tp t.ty.args.length tc)
  res : TS w C t.res.args (.slice rp t.res.args.length rc)
  args : DM w C (tmD t.args) (.slice p t.args.length c)
def TM (w : World) (C : Nat → Prop) (t : Tm) (v : Value) : Prop := ∃ tp tc rp rc p c, v = tmV t tp tc rp rc p c ∧ TM' w C t tp tc rp rc p c
theorem TM'.stays {w w' : World} {C : Nat → Prop} {t : Tm} {tp rp p : Option Addr} {tc rc c : Nat} (h : TM' w C t tp tc rp rc p c) (hs : Stays C w w') : TM' w' C t tp tc rp rc p c := ⟨h.ty.stays hs, h.res.stays hs, h.args.stays hs⟩
theorem TM'.mono {w : World} {C C' : Nat → Prop} {t : Tm} {tp rp p : Option Addr} {tc rc c : Nat} (h : TM' w C t tp tc rp rc p c) (hC : ∀ b, C b → b < w.heap.size → C' b) : TM' w C' t tp tc rp rc p c := ⟨h.ty.mono hC, h.res.mono hC, h.args.mono hC⟩
theorem TM.stays {w w' : World} {C : Nat → Prop} {t : Tm} {v : Value} (h : TM w C t v) (hs : Stays C w w') : TM w' C t v := by
  obtain ⟨tp, tc, rp, rc, p, c, hv, h⟩ := h
  exact ⟨tp, tc, rp, rc, p, c, hv, h.stays hs⟩
theorem TM.keep {w w' : World} {C : Nat → Prop} {t : Tm} {v : Value} (h : TM w C t v) (hb : Below w.heap.size w w') : TM w' C t v := h.stays (.of_below hb)
theorem TM.mono {w : World} {C C' : Nat → Prop} {t : Tm} {v : Value} (h : TM w C t v) (hC : ∀ b, C b → b < w.heap.size → C' b) : TM w C' t v := by
  obtain ⟨tp, tc, rp, rc, p, c, hv, h⟩ := h
  exact ⟨tp, tc, rp, rc, p, c, hv, h.mono hC⟩

/-- The nine cells of one term of a slice of terms, in a world. -/
structure At9 (w : World) (b o : Nat) (t : Tm) (tp : Option Addr) (tc : Nat) (rp : Option Addr) (rc : Nat) (p : Option Addr) (c : Nat) : Prop where
  kind : w.cell? ⟨b, o, none⟩ = some (.int .i64 t.kind)
  name : w.cell? ⟨b, o + 1, none⟩ = some (.string t.name)
  other : w.cell? ⟨b, o + 2, none⟩ = some (.string t.other)
  n : w.cell? ⟨b, o + 3, none⟩ = some (.int .i64 t.n)
  tk : w.cell? ⟨b, o + 4, none⟩ = some (.int .i64 t.ty.kind)
  ta : w.cell? ⟨b, o + 5, none⟩ = some (.slice tp t.ty.args.length tc)
  rk : w.cell? ⟨b, o + 6, none⟩ = some (.int .i64 t.res.kind)
  ra : w.cell? ⟨b, o + 7, none⟩ = some (.slice rp t.res.args.length rc)
  args : w.cell? ⟨b, o + 8, none⟩ = some (.slice p t.args.length c)
/-- One term of a slice of terms: where it lies, in every world that keeps the blocks. -/
theorem tm_part {w0 : World} {C : Nat → Prop} {ts : List Tm} {q : Option Addr} {d : Nat} (h : DM w0 C (tmD ts) (.slice q ts.length d)) (j : Nat) (hj : j < ts.length) :
    ∃ (b o : Nat) (tp : Option Addr) (tc : Nat) (rp : Option Addr) (rc : Nat) (p : Option Addr) (c : Nat), q = some ⟨b, o, none⟩ ∧ C b ∧ b < w0.heap.size ∧ (∀ w', Stays C w0 w' → At9 w' b (o + j * 9) ts[j] tp tc rp rc p c) ∧ TM' w0 C ts[j] tp tc rp rc p c := by
  obtain ⟨b, o, V, rfl, hC, hb, hp⟩ := h.part (by rw [flatTm_len]; omega)
  have hx := ts[j].ds_eq
  have part : ∀ (i : Nat) (d : D), i < 9 → (ts[j].ds)[i]? = some d → DM w0 C d (V (j * 9 + i)) ∧ ∀ w', Stays C w0 w' → w'.cell? ⟨b, o + j * 9 + i, none⟩ = some (V (j * 9 + i)) := fun i d hi hd => by
    obtain ⟨h1, h2⟩ := hp (j * 9 + i) d (by rw [flatTm_at ts j i hj hi]; exact hd)
    exact ⟨h1, fun w' hw => by rw [Nat.add_assoc]; exact h2 w' hw⟩
  rw [hx] at part
  obtain ⟨a0, b0⟩ := part 0 _ (by omega) rfl
  obtain ⟨a1, b1⟩ := part 1 _ (by omega) rfl
  obtain ⟨a2, b2⟩ := part 2 _ (by omega) rfl
  obtain ⟨a3, b3⟩ := part 3 _ (by omega) rfl
  obtain ⟨a4, b4⟩ := part 4 _ (by omega) rfl
  obtain ⟨a5, b5⟩ := part 5 _ (by omega) rfl
  obtain ⟨a6, b6⟩ := part 6 _ (by omega) rfl
  obtain ⟨a7, b7⟩ := part 7 _ (by omega) rfl
  obtain ⟨a8, b8⟩ := part 8 _ (by omega) rfl
  rw [a0.val] at b0
  rw [a1.val] at b1
  rw [a2.val] at b2
  rw [a3.val] at b3
  rw [a4.val] at b4
  rw [a6.val] at b6
  obtain ⟨tp, tc, e5⟩ := a5.form
  obtain ⟨rp, rc, e7⟩ := a7.form
  obtain ⟨p, c, e8⟩ := a8.form
  rw [e5] at a5 b5
  rw [e7] at a7 b7
  rw [e8] at a8 b8
  exact ⟨b, o, tp, tc, rp, rc, p, c, rfl, hC, hb, fun w' hw => ⟨b0 w' hw, b1 w' hw, b2 w' hw, b3 w' hw, b4 w' hw, b5 w' hw, b6 w' hw, b7 w' hw, b8 w' hw⟩, a5.ts _ (Nat.le_refl _), a7.ts _ (Nat.le_refl _), a8⟩

/-- INDUCTION OVER TERMS IN MEMORY. -/
theorem tm_ind {w0 : World} {C : Nat → Prop} {motive : List Tm → Value → Prop}
    (step : ∀ (ts : List Tm) (q : Option Addr) (d : Nat), ts.length ≤ 9223372036854775807 →
      (∀ (j : Nat) (hj : j < ts.length), ∃ (b o : Nat) (tp : Option Addr) (tc : Nat) (rp : Option Addr) (rc : Nat) (p : Option Addr) (c : Nat), q = some ⟨b, o, none⟩ ∧ C b ∧ b < w0.heap.size ∧ (∀ w', Stays C w0 w' → At9 w' b (o + j * 9) ts[j] tp tc rp rc p c) ∧
        TM' w0 C ts[j] tp tc rp rc p c ∧ motive ts[j].args (.slice p ts[j].args.length c)) → motive ts (.slice q ts.length d)) :
    ∀ (m : Nat) {ts : List Tm} {v : Value}, nodesM ts ≤ m → DM w0 C (tmD ts) v → motive ts v
  | m, ts, v, hm, h => by
    obtain ⟨q, d, rfl⟩ := h.form
    refine step ts q d h.len.1 (fun j hj => ?_)
    obtain ⟨b, o, tp, tc, rp, rc, p, c, e, hC, hb, h9, hT⟩ := tm_part h j hj
    have hn := nodesM_at ts j hj
    rw [Tm.nodes_eq] at hn
    match m, hm with
    | 0, hm => omega
    | m + 1, hm => exact ⟨b, o, tp, tc, rp, rc, p, c, e, hC, hb, h9, hT, tm_ind step m (by omega) hT.args⟩
end Go.Proofs.YtnciibngcaajgaaDoor
/- TmRow: A slice of terms in a row of the call's own; a term whose parts lie in such a row. -/
namespace Go.Proofs.YtnciibngcaajgaaDoor
open Go Go.RowKit

/-- The row of the terms ts, its cells xs; it and what hangs on the cells lie in blocks of C; what hangs lies in other blocks than the row. -/
structure RowM (w : World) (base : Nat) (C : Nat → Prop) (v : Value) (ts : List Tm) (xs : List Value) : Prop where
  own : w.ownsRow base 29 9 v ts.length xs
  blk : ∀ g, v.ownBlock = some g → C g
  ms : MS w (fun z => C z ∧ v.ownBlock ≠ some z) (flatTm ts) xs
theorem own_base {w : World} {a b : Nat} {e : TypeId} {size n : Nat} {v : Value} {xs : List Value} (h : w.ownsRow b e size v n xs) (hab : a ≤ b) : w.ownsRow a e size v n xs := by
  refine ⟨h.1, ?_⟩
  rcases h.2 with h0 | ⟨g, cap, cur, rfl, hg, r⟩
  · exact Or.inl h0
  · exact Or.inr ⟨g, cap, cur, rfl, Nat.le_trans hab hg, r⟩
theorem RowM.start (w : World) (base : Nat) (C : Nat → Prop) : RowM w base C (.slice none 0 0) [] [] := ⟨World.ownsRow_nil _ _ _ _, fun g hg => by simp [Value.ownBlock] at hg, ⟨rfl, fun i d v hd _ => by simp [flatTm] at hd⟩⟩
theorem RowM.stays {w w' : World} {base : Nat} {C : Nat → Prop} {v : Value} {ts : List Tm} {xs : List Value} (h : RowM w base C v ts xs) (hs : Stays C w w') : RowM w' base C v ts xs := by
  have hb := h.blk
  refine ⟨⟨h.own.1, ?_⟩, hb, h.ms.stays (hs.mono (fun _ hz => hz.1))⟩
  rcases h.own.2 with h0 | ⟨g, cap, cur, rfl, hbg, hblk, r⟩
  · exact Or.inl h0
  · exact Or.inr ⟨g, cap, cur, rfl, hbg, (hs.2 g (hb g rfl) (Array.getElem?_eq_some_iff.1 hblk).1).trans hblk, r⟩
theorem RowM.base {w : World} {a b : Nat} {C C' : Nat → Prop} {v : Value} {ts : List Tm} {xs : List Value} (h : RowM w b C v ts xs) (hab : a ≤ b) (hC : ∀ z, C z → z < w.heap.size → C' z) : RowM w a C' v ts xs :=
  ⟨own_base h.own hab, fun g hg => hC g (h.blk g hg) (by
    rcases h.own.2 with ⟨rfl, _⟩ | ⟨g', cap, cur, rfl, hbg, hblk, r⟩
    · simp [Value.ownBlock] at hg
    · simp [Value.ownBlock] at hg
      subst hg
      exact (Array.getElem?_eq_some_iff.1 hblk).1), h.ms.mono (fun z hz hl => ⟨hC z hz.1 hl, hz.2⟩)⟩
theorem RowM.dm {w : World} {base : Nat} {C : Nat → Prop} {v : Value} {ts : List Tm} {xs : List Value} (h : RowM w base C v ts xs) : DM w C (tmD ts) v := by
  have hms := h.ms
  have hblkC := h.blk
  rcases h.own.2 with ⟨rfl, h0⟩ | ⟨g, cap, cur, rfl, hg, hblk, h1, h2, h3, h4⟩
  · obtain rfl := List.eq_nil_of_length_eq_zero h0
    exact .nil _ _ _ _
  · by_cases hz : ts.length = 0
    · obtain rfl := List.eq_nil_of_length_eq_zero hz
      exact .nil _ _ _ _
    · have hlt := (Array.getElem?_eq_some_iff.1 hblk).1
      have hl : (flatTm ts).length = ts.length * 9 := flatTm_len ts
      have hxs : xs.length = ts.length * 9 := by rw [← hl]; exact hms.1
      have at_ : ∀ i d, (flatTm ts)[i]? = some d → i < ts.length * 9 ∧ xs[i]? = some (xs[i]?.getD .nilIface) := fun i d hd => by
        have hi := (List.getElem?_eq_some_iff.1 hd).1
        rw [hl] at hi
        exact ⟨hi, by rw [List.getElem?_eq_getElem (by omega)]; rfl⟩
      exact DM.rows (fun i => xs[i]?.getD .nilIface) (by omega) (by omega) (by unfold maxLen at h2; omega) hl (hblkC g rfl) hlt
        (fun i d hd => by rw [Nat.zero_add, h.own.cellAt i (at_ i d hd).1]; exact (at_ i d hd).2)
        (fun i d hd => (hms.2 i d _ hd (at_ i d hd).2).mono (fun _ hz _ => hz.1))
/-- One term behind the others. -/
theorem RowM.app {w w' : World} {base g cap : Nat} {C : Nat → Prop} {v : Value} {ts : List Tm} {xs us : List Value} {x : Tm} (h : RowM w base C v ts xs) (hA : Appd w w' base 29 9 v ts.length xs us g cap) (hg : C g)
    (hx : MS w (fun z => C z ∧ v.ownBlock ≠ some z) x.ds us) : RowM w' base C (.slice (some ⟨g, 0, none⟩) (ts.length + 1) cap) (ts ++ [x]) (xs ++ us) := by
  have go : ∀ {d : D} {u : Value}, DM w (fun z => C z ∧ v.ownBlock ≠ some z) d u → DM w' (fun z => C z ∧ (Value.slice (some ⟨g, 0, none⟩) (ts.length + 1) cap).ownBlock ≠ some z) d u := fun {d u} hd => by
    refine ((hd.mono (C' := fun z => (C z ∧ v.ownBlock ≠ some z) ∧ z < w.heap.size) (fun _ hz hl => ⟨hz, hl⟩)).stays ⟨hA.size, fun z hz hl => (hA.kept z hl hz.1.2).1⟩).mono (fun z hz _ => ⟨hz.1.1, fun e => ?_⟩)
    have := (hA.kept z hz.2 hz.1.2).2
    simp [Value.ownBlock] at e
    omega
  refine ⟨by rw [List.length_append]; exact hA.own, fun g' hg' => by simp [Value.ownBlock] at hg'; exact hg' ▸ hg, ⟨?_, fun i d u hd hu => ?_⟩⟩
  · rw [flatTm_append, List.length_append, List.length_append, h.ms.1]
    have : (flatTm [x]).length = us.length := by rw [hx.1]; simp [flatTm]
    omega
  · have hf : flatTm [x] = x.ds := by simp [flatTm]
    rw [flatTm_append, hf] at hd
    by_cases hi : i < (flatTm ts).length
    · rw [List.getElem?_append_left hi] at hd
      rw [List.getElem?_append_left (by rw [h.ms.1]; exact hi)] at hu
      exact go (h.ms.2 i d u hd hu)
    · rw [List.getElem?_append_right (by omega)] at hd
      rw [List.getElem?_append_right (by rw [h.ms.1]; omega), h.ms.1] at hu
      exact go (hx.2 _ d u hd hu)

/-- A term whose parts lie in a row of the call's own, all in blocks of C. -/
structure NewTm (w : World) (base : Nat) (C : Nat → Prop) (t : Tm) (tp : Option Addr) (tc : Nat) (rp : Option Addr) (rc : Nat) (p : Option Addr) (c : Nat) (xs : List Value) : Prop where
  ty : TS w (fun z => C z ∧ (Value.slice p t.args.length c).ownBlock ≠ some z) t.ty.args (.slice tp t.ty.args.length tc)
  res : TS w (fun z => C z ∧ (Value.slice p t.args.length c).ownBlock ≠ some z) t.res.args (.slice rp t.res.args.length rc)
  row : RowM w base C (.slice p t.args.length c) t.args xs
theorem NewTm.tm {w : World} {base : Nat} {C : Nat → Prop} {t : Tm} {tp rp p : Option Addr} {tc rc c : Nat} {xs : List Value} (h : NewTm w base C t tp tc rp rc p c xs) : TM' w C t tp tc rp rc p c :=
  ⟨h.ty.mono (fun _ hz _ => hz.1), h.res.mono (fun _ hz _ => hz.1), h.row.dm⟩
theorem NewTm.stays {w w' : World} {base : Nat} {C : Nat → Prop} {t : Tm} {tp rp p : Option Addr} {tc rc c : Nat} {xs : List Value} (h : NewTm w base C t tp tc rp rc p c xs) (hs : Stays C w w') : NewTm w' base C t tp tc rp rc p c xs :=
  ⟨h.ty.stays (hs.mono (fun _ hz => hz.1)), h.res.stays (hs.mono (fun _ hz => hz.1)), h.row.stays hs⟩
theorem NewTm.base {w : World} {a b : Nat} {C C' : Nat → Prop} {t : Tm} {tp rp p : Option Addr} {tc rc c : Nat} {xs : List Value} (h : NewTm w b C t tp tc rp rc p c xs) (hab : a ≤ b) (hC : ∀ z, C z → z < w.heap.size → C' z) : NewTm w a C' t tp tc rp rc p c xs :=
  ⟨h.ty.mono (fun z hz hl => ⟨hC z hz.1 hl, hz.2⟩), h.res.mono (fun z hz hl => ⟨hC z hz.1 hl, hz.2⟩), h.row.base hab hC⟩
theorem TM'.ms {w : World} {C : Nat → Prop} {t : Tm} {tp rp p : Option Addr} {tc rc c : Nat} (h : TM' w C t tp tc rp rc p c) :
    MS w C t.ds [.int .i64 t.kind, .string t.name, .string t.other, .int .i64 t.n, .int .i64 t.ty.kind, .slice tp t.ty.args.length tc, .int .i64 t.res.kind, .slice rp t.res.args.length rc, .slice p t.args.length c] := by
  refine ⟨by rw [t.ds_len]; rfl, fun i d v hd hv => ?_⟩
  rw [t.ds_eq] at hd
  match i, hd, hv with
  | 0, hd, hv => cases hd; cases hv; exact .cell _
  | 1, hd, hv => cases hd; cases hv; exact .cell _
  | 2, hd, hv => cases hd; cases hv; exact .cell _
  | 3, hd, hv => cases hd; cases hv; exact .cell _
  | 4, hd, hv => cases hd; cases hv; exact .cell _
  | 5, hd, hv => cases hd; cases hv; exact h.ty.dm
  | 6, hd, hv => cases hd; cases hv; exact .cell _
  | 7, hd, hv => cases hd; cases hv; exact h.res.dm
  | 8, hd, hv => cases hd; cases hv; exact h.args
  | n + 9, hd, hv => simp at hv
end Go.Proofs.YtnciibngcaajgaaDoor
/- TySz: The contract of the laws' szTypeS and szType: what is left of a bound behind a type, or -1. -/
namespace Go.Proofs.YtnciibngcaajgaaDoor
open Go Go.RowKit

/-- How the count ends. -/
def SzEnds (left : Int) (n : Nat) (r : Int) : Prop := (0 ≤ r ∧ r + n = left) ∨ (r = -1 ∧ left < n)
theorem SzEnds.range {left : Int} {n : Nat} {r : Int} (h : SzEnds left n r) (hl : 0 ≤ left) : -1 ≤ r ∧ r ≤ left := by
  unfold SzEnds at h
  omega
def IntRet (P : Int → Prop) (w : World) (e : Ending) (w' : World) : Prop := ∃ n : Int, P n ∧ e = .returned (.int .i64 n) ∧ Below w.heap.size w w'

set_option maxRecDepth 100000 in
set_option maxHeartbeats 1000000 in
theorem szT_of (k : Int) (p : Option Addr) (l c : Nat) (n : Nat) (left : Int) (w : World) (h0 : 0 ≤ left)
    (h : ∀ w', Below w.heap.size w w' → Calls Tryd.prog 66 #[.slice p l c, .int .i64 left] w' (IntRet (SzEnds left n) w')) :
    Calls Tryd.prog 42 #[.agg #[.int .i64 k, .slice p l c], .int .i64 left] w (IntRet (SzEnds left n) w) := by
  have HH := Lib.hid h
  have HB := Lib.hid ((Below.refl w.heap.size w).alloc (Nat.le_refl _) (Obj.cells #[.int .i64 k, .slice p l c] 40))
  clear h
  go_enter Tryd.func42, Tryd.ntmps42
  go_wp2_with fail
  refine (HH.out _ HB.out).mono ?_
  rintro e w1 ⟨r, hr, rfl, hb1⟩
  have hrg := hr.range h0
  have HR := Lib.hid hr
  have HB1 := Lib.hid (HB.out.trans (hb1.mono HB.out.size))
  clear hr hb1
  by_cases hneg : r < 0
  · go_wp2_with fail
    go_ret
    exact ⟨_, by have := HR.out; unfold SzEnds at *; omega, rfl, HB1.out⟩
  · go_wp2_with fail
    go_ret
    exact ⟨_, HR.out, rfl, HB1.out⟩

/-- k types have been counted: L is left. -/
def LeftAt (left : Int) (ts : List Ty) (k : Nat) (L : Int) : Prop := L + ts.length + (nodesS (ts.take k) - k : Nat) = left

theorem nodesS_take_ge (ts : List Ty) (k : Nat) (h : k ≤ ts.length) : k ≤ nodesS (ts.take k) := by
  have := nodesS_ge (ts.take k)
  rw [List.length_take] at this
  omega
theorem leftAt_next {left : Int} {ts : List Ty} {k : Nat} {L r : Int} (h : LeftAt left ts k L) (hk : k < ts.length) (hr : SzEnds L (nodesS ts[k].args) r) (h0 : 0 ≤ r) : LeftAt left ts (k + 1) r := by
  have h1 := nodesS_take ts k hk
  have h2 := nodesS_take_ge ts k (Nat.le_of_lt hk)
  unfold LeftAt SzEnds at *
  omega
theorem leftAt_over {left : Int} {ts : List Ty} {k : Nat} {L r : Int} (h : LeftAt left ts k L) (hk : k < ts.length) (hr : SzEnds L (nodesS ts[k].args) r) (h0 : r < 0) : SzEnds left (nodesS ts) (-1) := by
  have h1 := nodesS_take ts k hk
  have h2 := nodesS_take_ge ts k (Nat.le_of_lt hk)
  have h3 := nodesS_append (ts.take (k + 1)) (ts.drop (k + 1))
  rw [List.take_append_drop] at h3
  have h4 := nodesS_ge (ts.drop (k + 1))
  rw [List.length_drop] at h4
  unfold LeftAt SzEnds at *
  omega
theorem leftAt_end {left : Int} {ts : List Ty} {L : Int} (h : LeftAt left ts ts.length L) (h0 : 0 ≤ L) : SzEnds left (nodesS ts) L := by
  have h2 := nodesS_ge ts
  unfold LeftAt at h
  rw [List.take_length] at h
  unfold SzEnds
  omega

set_option maxRecDepth 100000 in
set_option maxHeartbeats 1000000 in
theorem szS_any {w0 : World} {C : Nat → Prop} {ts : List Ty} {v : Value} (h : TS w0 C ts v) : ∀ (w : World) (left : Int), Stays C w0 w → 0 ≤ left → left ≤ 1048576 →
    Calls Tryd.prog 66 #[v, .int .i64 left] w (IntRet (SzEnds left (nodesS ts)) w) := by
  induction h with
  | nil a c =>
    intro w left hst h0 hl
    go_enter Tryd.func66, Tryd.ntmps66
    go_wp2_with fail
    go_loop [1, 5] (fun l i => l = .int .i64 left ∧ i = .int .i64 0) (fun _ _ => 0)
    case atStart => exact ⟨rfl, rfl⟩
    case round =>
      obtain ⟨rfl, rfl⟩ := hrel
      go_wp2_with fail
      go_ret
      exact ⟨_, Or.inl ⟨h0, by simp [nodesS]⟩, rfl, Below.refl _ _⟩
  | @cons ts b o c S h1 hc hm hC hb hk hs hr ih =>
    intro w left hst h0 hl
    have T := Lib.hid (TS.cons S h1 hc hm hC hb hk hs hr)
    have HIH := Lib.hid ih
    have HST := Lib.hid hst
    have HK := Lib.hid (fun j x (e : ts[j]? = some x) (w' : World) (hw : Stays C w0 w') => (World.cell?_of_block (w := w0) (a := ⟨b, o + j * 2, none⟩) (hw.2 b hC hb)).trans (hk j x e))
    have HS := Lib.hid (fun j x (e : ts[j]? = some x) (w' : World) (hw : Stays C w0 w') => (World.cell?_of_block (w := w0) (a := ⟨b, o + j * 2 + 1, none⟩) (hw.2 b hC hb)).trans (hs j x e))
    have HF := Lib.hid (fun j x (e : ts[j]? = some x) => (hr j x e).form)
    clear hk hs hr ih hst hC hb
    go_enter Tryd.func66, Tryd.ntmps66
    by_cases hbig : left - (ts.length : Int) < 0
    · go_wp2_with fail
      go_ret
      exact ⟨_, Or.inr ⟨rfl, by have := nodesS_ge ts; omega⟩, rfl, Below.refl _ _⟩
    · go_wp2_with fail
      go_loopw [1, 5] (fun l i wr => ∃ (k : Nat) (L : Int), k ≤ ts.length ∧ 0 ≤ L ∧ L ≤ left ∧ i = .int .i64 k ∧ l = .int .i64 L ∧ LeftAt left ts k L ∧ Below w.heap.size w wr) (fun _ i _ => ts.length - (intOf i).toNat)
      case atStart => exact ⟨0, _, Nat.zero_le _, by omega, by omega, rfl, rfl, by unfold LeftAt; simp [nodesS], Below.refl _ _⟩
      case round =>
        obtain ⟨k, L, hk, hL0, hL1, rfl, rfl, hat, hbr⟩ := hrel
        have HA := Lib.hid hat
        have HB := Lib.hid hbr
        have hst : Stays C w0 wr := HST.out.trans (.of_below hbr)
        have HSR := Lib.hid hst
        clear hat hbr hst
        by_cases hlk : k < ts.length
        · have e := List.getElem?_eq_getElem hlk
          have c1 := HK.out k _ e wr HSR.out
          have c2 := HS.out k _ e wr HSR.out
          obtain ⟨p, q, hf⟩ := HF.out k _ e
          rw [hf] at c2
          have HC := Lib.hid (szT_of ts[k].kind p _ q (nodesS ts[k].args) L wr hL0 (fun w' hw' => hf ▸ HIH.out k _ e w' L (HSR.out.trans (.of_below hw')) hL0 (by omega)))
          clear e
          go_wp2_with fail
          refine HC.out.mono ?_
          rintro e w1 ⟨r, hr, rfl, hb1⟩
          have hrg := hr.range hL0
          have HR := Lib.hid hr
          have HB1 := Lib.hid (HB.out.trans (hb1.mono HB.out.size))
          clear hr hb1
          by_cases hneg : r < 0
          · go_wp2_with fail
            go_ret
            exact ⟨_, leftAt_over HA.out hlk HR.out hneg, rfl, HB1.out⟩
          · go_wp2_with fail
            go_roundw
            case rel => exact ⟨k + 1, r, by omega, by omega, by omega, by go_num, rfl, leftAt_next HA.out hlk HR.out (by omega), HB1.out⟩
            case measure => simp [intOf]; omega
        · obtain rfl : k = ts.length := by omega
          go_wp2_with fail
          go_ret
          exact ⟨_, leftAt_end HA.out hL0, rfl, HB.out⟩
/-- THE LAWS' szType, AT EVERY TYPE. -/
theorem szT_any {C : Nat → Prop} {t : Ty} {v : Value} {w : World} (h : TT w C t v) (left : Int) (h0 : 0 ≤ left) (hl : left ≤ 1048576) :
    Calls Tryd.prog 42 #[v, .int .i64 left] w (IntRet (SzEnds left (nodesS t.args)) w) := by
  obtain ⟨s, rfl, h⟩ := h
  obtain ⟨p, c, rfl⟩ := h.form
  exact szT_of t.kind p _ c _ left w h0 (fun w' hb => szS_any h w' left (.of_below hb) h0 hl)
#print axioms szT_any
end Go.Proofs.YtnciibngcaajgaaDoor
/- TmSz: The contract of the laws' szTermS and szTerm: what is left of a bound behind a term, or -1. -/
namespace Go.Proofs.YtnciibngcaajgaaDoor
open Go Go.RowKit

mutual
/-- No name is longer than a string can be. -/
def Tm.fit : Tm → Prop
  | .mk _ a b _ _ _ ts => a.size ≤ 9223372036854775807 ∧ b.size ≤ 9223372036854775807 ∧ fitS ts
def fitS : List Tm → Prop
  | [] => True
  | t :: ts => t.fit ∧ fitS ts
end
theorem Tm.fit_eq (t : Tm) : t.fit ↔ t.name.size ≤ 9223372036854775807 ∧ t.other.size ≤ 9223372036854775807 ∧ fitS t.args := by cases t; simp [Tm.fit, Tm.name, Tm.other, Tm.args]
theorem fitS_at : ∀ (ts : List Tm) (j : Nat) (hj : j < ts.length), fitS ts → ts[j].fit
  | t :: ts, 0, _, h => h.1
  | t :: ts, j + 1, hj, h => fitS_at ts j (by simpa using hj) h.2
theorem fitS_of : ∀ (ts : List Tm), (∀ (j : Nat) (hj : j < ts.length), ts[j].fit) → fitS ts
  | [], _ => trivial
  | t :: ts, h => ⟨h 0 (by simp), fitS_of ts (fun j hj => h (j + 1) (by simpa using hj))⟩

/-- A term's box in a later world. -/
structure Bx9 (w : World) (b : Nat) (t : Tm) (tp : Option Addr) (tc : Nat) (rp : Option Addr) (rc : Nat) (p : Option Addr) (c : Nat) : Prop where
  kind : w.cell? ⟨b, 0, none⟩ = some (.int .i64 t.kind)
  name : w.cell? ⟨b, 1, none⟩ = some (.string t.name)
  other : w.cell? ⟨b, 2, none⟩ = some (.string t.other)
  n : w.cell? ⟨b, 3, none⟩ = some (.int .i64 t.n)
  tk : w.cell? ⟨b, 4, none⟩ = some (.int .i64 t.ty.kind)
  ta : w.cell? ⟨b, 5, none⟩ = some (.slice tp t.ty.args.length tc)
  rk : w.cell? ⟨b, 6, none⟩ = some (.int .i64 t.res.kind)
  ra : w.cell? ⟨b, 7, none⟩ = some (.slice rp t.res.args.length rc)
  args : w.cell? ⟨b, 8, none⟩ = some (.slice p t.args.length c)
abbrev tmC (t : Tm) (tp : Option Addr) (tc : Nat) (rp : Option Addr) (rc : Nat) (p : Option Addr) (c : Nat) : Array Value :=
  #[.int .i64 t.kind, .string t.name, .string t.other, .int .i64 t.n, .int .i64 t.ty.kind, .slice tp t.ty.args.length tc, .int .i64 t.res.kind, .slice rp t.res.args.length rc, .slice p t.args.length c]
theorem Bx9.of {w : World} {b : Nat} {t : Tm} {tp rp p : Option Addr} {tc rc c : Nat} {T : TypeId} (h : w.heap[b]? = some (.cells (tmC t tp tc rp rc p c) T (0, 0))) : Bx9 w b t tp tc rp rc p c := by
  have k : ∀ i, w.cell? ⟨b, i, none⟩ = (tmC t tp tc rp rc p c)[i]? := fun i => by simp [World.cell?, h]
  exact ⟨k 0, k 1, k 2, k 3, k 4, k 5, k 6, k 7, k 8⟩
theorem Bx9.lt {w : World} {b : Nat} {t : Tm} {tp rp p : Option Addr} {tc rc c : Nat} (h : Bx9 w b t tp tc rp rc p c) : b < w.heap.size := World.block_lt_of_cell? w _ h.kind
theorem Bx9.at {w w' : World} {b : Nat} {t : Tm} {tp rp p : Option Addr} {tc rc c : Nat} (h : Bx9 w b t tp tc rp rc p c) (hs : w'.heap[b]? = w.heap[b]?) : Bx9 w' b t tp tc rp rc p c := by
  have k : ∀ i, w'.cell? ⟨b, i, none⟩ = w.cell? ⟨b, i, none⟩ := fun i => World.cell?_of_block (a := ⟨b, i, none⟩) hs
  exact ⟨(k 0).trans h.kind, (k 1).trans h.name, (k 2).trans h.other, (k 3).trans h.n, (k 4).trans h.tk, (k 5).trans h.ta, (k 6).trans h.rk, (k 7).trans h.ra, (k 8).trans h.args⟩
theorem Bx9.keep {w w' : World} {b : Nat} {t : Tm} {tp rp p : Option Addr} {tc rc c : Nat} (h : Bx9 w b t tp tc rp rc p c) (hb : Below w.heap.size w w') : Bx9 w' b t tp tc rp rc p c := h.at (hb.block b h.lt)
theorem Bx9.new (w : World) (t : Tm) (tp : Option Addr) (tc : Nat) (rp : Option Addr) (rc : Nat) (p : Option Addr) (c : Nat) (T : TypeId) : Bx9 (w.alloc (.cells (tmC t tp tc rp rc p c) T)) w.heap.size t tp tc rp rc p c :=
  Bx9.of (T := T) (by show (w.heap.push _)[w.heap.size]? = _; simp)
theorem al_below (w : World) (o : Obj) : Below w.heap.size w (w.alloc o) := (Below.refl _ w).alloc (Nat.le_refl _) o

set_option maxRecDepth 100000 in
set_option maxHeartbeats 2000000 in
theorem szM_of {C : Nat → Prop} {t : Tm} {tp rp p : Option Addr} {tc rc c : Nat} {w : World} (left : Int) (h0 : 0 ≤ left) (hl : left ≤ 1048576) (hT : TM' w C t tp tc rp rc p c) (hf : t.fit)
    (h : ∀ (w' : World) (l : Int), Below w.heap.size w w' → 0 ≤ l → l ≤ left → Calls Tryd.prog 43 #[.slice p t.args.length c, .int .i64 l] w' (IntRet (SzEnds l (wtS t.args)) w')) :
    Calls Tryd.prog 20 #[tmV t tp tc rp rc p c, .int .i64 left] w (IntRet (SzEnds left t.wt) w) := by
  have HH := Lib.hid h
  have HT := Lib.hid hT
  have HB0 := Lib.hid (al_below w (.cells (tmC t tp tc rp rc p c) 43))
  have HX0 := Lib.hid (Bx9.new w t tp tc rp rc p c 43)
  have HW := Lib.hid t.wt_eq
  obtain ⟨f1, f2, _⟩ := (Tm.fit_eq t).1 hf
  clear h hT hf
  go_enter Tryd.func20, Tryd.ntmps20
  by_cases c1 : left - (t.name.size : Int) < 0
  · go_wp2_with fail
    go_ret
    exact ⟨_, Or.inr ⟨rfl, by have := HW.out; omega⟩, rfl, HB0.out⟩
  by_cases c2 : left - (t.name.size : Int) - (t.other.size : Int) < 0
  · go_wp2_with fail
    go_ret
    exact ⟨_, Or.inr ⟨rfl, by have := HW.out; omega⟩, rfl, HB0.out⟩
  have HC3 := Lib.hid (szT_any (C := C) (t := t.ty) (v := .agg #[.int .i64 t.ty.kind, .slice tp t.ty.args.length tc]) ⟨_, rfl, HT.out.ty.keep HB0.out⟩ (left - (t.name.size : Int) - (t.other.size : Int)) (by omega) (by omega))
  go_wp2_with fail
  refine HC3.out.mono ?_
  rintro e w3 ⟨r3, hr3, rfl, hb3⟩
  have rg3 := hr3.range (by omega)
  have HR3 := Lib.hid hr3
  have HB3 := Lib.hid (HB0.out.trans (hb3.mono HB0.out.size))
  have hx3 := HX0.out.keep hb3
  obtain ⟨_, _, _, _, g4, g5, g6, g7, g8⟩ := hx3
  have HX3 := Lib.hid (HX0.out.keep hb3)
  clear hr3 hb3 HC3
  by_cases c3 : r3 < 0
  · go_wp2_with fail
    go_ret
    exact ⟨_, Or.inr ⟨rfl, by have := HW.out; have := HR3.out; unfold SzEnds at this; omega⟩, rfl, HB3.out⟩
  have HC4 := Lib.hid (szT_any (C := C) (t := t.res) (v := .agg #[.int .i64 t.res.kind, .slice rp t.res.args.length rc]) ⟨_, rfl, HT.out.res.keep HB3.out⟩ r3 (by omega) (by omega))
  go_wp2_with fail
  refine HC4.out.mono ?_
  rintro e w4 ⟨r4, hr4, rfl, hb4⟩
  have rg4 := hr4.range (by omega)
  have HR4 := Lib.hid hr4
  have HB4 := Lib.hid (HB3.out.trans (hb4.mono HB3.out.size))
  have hx4 := HX3.out.keep hb4
  clear g4 g5 g6 g7 g8
  obtain ⟨_, _, _, _, _, _, _, _, g8⟩ := hx4
  clear hr4 hb4 HC4
  by_cases c4 : r4 < 0
  · go_wp2_with fail
    go_ret
    exact ⟨_, Or.inr ⟨rfl, by have := HW.out; have := HR3.out; have := HR4.out; unfold SzEnds at *; omega⟩, rfl, HB4.out⟩
  have HC5 := Lib.hid (HH.out w4 r4 HB4.out (by omega) (by omega))
  go_wp2_with fail
  refine HC5.out.mono ?_
  rintro e w5 ⟨r5, hr5, rfl, hb5⟩
  have rg5 := hr5.range (by omega)
  have HR5 := Lib.hid hr5
  have HB5 := Lib.hid (HB4.out.trans (hb5.mono HB4.out.size))
  clear hr5 hb5 HC5
  by_cases c5 : r5 < 0
  · go_wp2_with fail
    go_ret
    exact ⟨_, by have := HW.out; have := HR3.out; have := HR4.out; have := HR5.out; unfold SzEnds at *; omega, rfl, HB5.out⟩
  · go_wp2_with fail
    go_ret
    exact ⟨_, by have := HW.out; have := HR3.out; have := HR4.out; have := HR5.out; unfold SzEnds at *; omega, rfl, HB5.out⟩

/-- k terms have been counted: L is left. -/
def LeftM (left : Int) (ts : List Tm) (k : Nat) (L : Int) : Prop := L + ts.length + (wtS (ts.take k) - k : Nat) = left
theorem wtS_take_ge (ts : List Tm) (k : Nat) (h : k ≤ ts.length) : k ≤ wtS (ts.take k) := by
  have := wtS_ge (ts.take k)
  rw [List.length_take] at this
  omega
theorem leftM_next {left : Int} {ts : List Tm} {k : Nat} {L r : Int} (h : LeftM left ts k L) (hk : k < ts.length) (hr : SzEnds L ts[k].wt r) (h0 : 0 ≤ r) : LeftM left ts (k + 1) r := by
  have h1 := wtS_take ts k hk
  have h2 := wtS_take_ge ts k (Nat.le_of_lt hk)
  unfold LeftM SzEnds at *
  omega
theorem leftM_over {left : Int} {ts : List Tm} {k : Nat} {L r : Int} (h : LeftM left ts k L) (hk : k < ts.length) (hr : SzEnds L ts[k].wt r) (h0 : r < 0) : SzEnds left (wtS ts) (-1) := by
  have h1 := wtS_take ts k hk
  have h2 := wtS_take_ge ts k (Nat.le_of_lt hk)
  have h3 := wtS_append (ts.take (k + 1)) (ts.drop (k + 1))
  rw [List.take_append_drop] at h3
  have h4 := wtS_ge (ts.drop (k + 1))
  rw [List.length_drop] at h4
  unfold LeftM SzEnds at *
  omega
theorem leftM_end {left : Int} {ts : List Tm} {L : Int} (h : LeftM left ts ts.length L) (h0 : 0 ≤ L) : SzEnds left (wtS ts) L := by
  have h2 := wtS_ge ts
  unfold LeftM at h
  rw [List.take_length] at h
  unfold SzEnds
  omega

set_option maxRecDepth 100000 in
set_option maxHeartbeats 1000000 in
theorem szMS_any {w0 : World} {C : Nat → Prop} {ts : List Tm} {v : Value} (h : DM w0 C (tmD ts) v) : ∀ (w : World) (left : Int), Stays C w0 w → 0 ≤ left → left ≤ 1048576 → fitS ts →
    Calls Tryd.prog 43 #[v, .int .i64 left] w (IntRet (SzEnds left (wtS ts)) w) := by
  refine tm_ind (motive := fun ts v => ∀ (w : World) (left : Int), Stays C w0 w → 0 ≤ left → left ≤ 1048576 → fitS ts → Calls Tryd.prog 43 #[v, .int .i64 left] w (IntRet (SzEnds left (wtS ts)) w)) ?_ _ (Nat.le_refl _) h
  intro ts q d hlen H w left hst h0 hl hfit
  have HH := Lib.hid H
  have HST := Lib.hid hst
  have HF := Lib.hid hfit
  clear H hst hfit
  go_enter Tryd.func43, Tryd.ntmps43
  by_cases hbig : left - (ts.length : Int) < 0
  · go_wp2_with fail
    go_ret
    exact ⟨_, Or.inr ⟨rfl, by have := wtS_ge ts; omega⟩, rfl, Below.refl _ _⟩
  · go_wp2_with fail
    go_loopw [1, 5] (fun l i wr => ∃ (k : Nat) (L : Int), k ≤ ts.length ∧ 0 ≤ L ∧ L ≤ left ∧ i = .int .i64 k ∧ l = .int .i64 L ∧ LeftM left ts k L ∧ Below w.heap.size w wr) (fun _ i _ => ts.length - (intOf i).toNat)
    case atStart => exact ⟨0, _, Nat.zero_le _, by omega, by omega, rfl, rfl, by unfold LeftM; simp [wtS], Below.refl _ _⟩
    case round =>
      obtain ⟨k, L, hk, hL0, hL1, rfl, rfl, hat, hbr⟩ := hrel
      have HA := Lib.hid hat
      have HB := Lib.hid hbr
      have HSR := Lib.hid (HST.out.trans (Stays.of_below (C := C) hbr))
      clear hat hbr
      by_cases hlk : k < ts.length
      · obtain ⟨b, o, tp, tc, rp, rc, p, c, rfl, hC, hb, h9, hT, hI⟩ := HH.out k hlk
        obtain ⟨g0, g1, g2, g3, g4, g5, g6, g7, g8⟩ := h9 wr HSR.out
        have hfk := fitS_at ts k hlk HF.out
        have HC := Lib.hid (szM_of (C := C) L hL0 (by omega) (hT.stays HSR.out) hfk (fun w' l hw' hl0 hl1 => hI w' l (HSR.out.trans (.of_below hw')) hl0 (by omega) ((Tm.fit_eq _).1 hfk).2.2))
        have i0 : (0 : Int) ≤ (k : Int) := Int.natCast_nonneg _
        have i1 : (k : Int) < (ts.length : Int) := by omega
        clear hC hb h9 hT hI hfk
        go_wp2_with fail
        refine HC.out.mono ?_
        rintro e w1 ⟨r, hr, rfl, hb1⟩
        have hrg := hr.range hL0
        have HR := Lib.hid hr
        have HB1 := Lib.hid (HB.out.trans (hb1.mono HB.out.size))
        clear hr hb1
        by_cases hneg : r < 0
        · go_wp2_with fail
          go_ret
          exact ⟨_, leftM_over HA.out hlk HR.out hneg, rfl, HB1.out⟩
        · go_wp2_with fail
          go_roundw
          case rel => exact ⟨k + 1, r, by omega, by omega, by omega, by go_num, rfl, leftM_next HA.out hlk HR.out (by omega), HB1.out⟩
          case measure => simp [intOf]; omega
      · obtain rfl : k = ts.length := by omega
        go_wp2_with fail
        go_ret
        exact ⟨_, leftM_end HA.out hL0, rfl, HB.out⟩
/-- THE LAWS' szTerm, AT EVERY TERM. -/
theorem szM_any {C : Nat → Prop} {t : Tm} {v : Value} {w : World} (h : TM w C t v) (hf : t.fit) (left : Int) (h0 : 0 ≤ left) (hl : left ≤ 1048576) :
    Calls Tryd.prog 20 #[v, .int .i64 left] w (IntRet (SzEnds left t.wt) w) := by
  obtain ⟨tp, tc, rp, rc, p, c, rfl, hT⟩ := h
  exact szM_of left h0 hl hT hf (fun w' l hb hl0 hl1 => szMS_any hT.args w' l (.of_below hb) hl0 (by omega) ((Tm.fit_eq t).1 hf).2.2)
#print axioms szM_any
end Go.Proofs.YtnciibngcaajgaaDoor
/- TyEq: The contract of the laws' eqTypeS and eqType: whether two types are the same. -/
namespace Go.Proofs.YtnciibngcaajgaaDoor
open Go Go.RowKit

def BoolRet (P : Bool → Prop) (w : World) (e : Ending) (w' : World) : Prop := ∃ b : Bool, P b ∧ e = .returned (.bool b) ∧ Below w.heap.size w w'

theorem Ty.ext {a b : Ty} (h1 : a.kind = b.kind) (h2 : a.args = b.args) : a = b := by
  cases a; cases b; simp at h1 h2; rw [h1, h2]

set_option maxRecDepth 100000 in
set_option maxHeartbeats 1000000 in
theorem eqT_of (k k2 : Int) (p p2 : Option Addr) (l c l2 c2 : Nat) (Q : Prop) (w : World)
    (h : ∀ w', Below w.heap.size w w' → Calls Tryd.prog 68 #[.slice p l c, .slice p2 l2 c2] w' (BoolRet (fun b => b = true ↔ Q) w')) :
    Calls Tryd.prog 46 #[.agg #[.int .i64 k, .slice p l c], .agg #[.int .i64 k2, .slice p2 l2 c2]] w (BoolRet (fun b => b = true ↔ (k = k2 ∧ Q)) w) := by
  have HH := Lib.hid h
  have HB := Lib.hid (((Below.refl w.heap.size w).alloc (Nat.le_refl _) (Obj.cells #[.int .i64 k, .slice p l c] 26)).alloc (by simp) (Obj.cells #[.int .i64 k2, .slice p2 l2 c2] 26))
  clear h
  go_enter Tryd.func46, Tryd.ntmps46
  by_cases hk : k = k2
  · subst hk
    go_wp2_with fail
    refine (HH.out _ HB.out).mono ?_
    rintro e w1 ⟨r, hr, rfl, hb1⟩
    have HR := Lib.hid hr
    have HB1 := Lib.hid (HB.out.trans (hb1.mono HB.out.size))
    clear hr hb1
    cases r with
    | true =>
      go_wp2_with fail
      go_ret
      exact ⟨true, by simpa using HR.out, rfl, HB1.out⟩
    | false =>
      go_wp2_with fail
      go_ret
      exact ⟨false, by simpa using HR.out, rfl, HB1.out⟩
  · go_wp2_with fail
    go_ret
    exact ⟨false, by simp [hk], rfl, HB.out⟩

theorem keep4 {w W w1 : World} {p1 p2 p3 p4 : Addr} {v1 v2 v3 v4 : Value} (hb1 : Below W.heap.size W w1) (h : W.cell? p1 = some v1 ∧ W.cell? p2 = some v2 ∧ W.cell? p3 = some v3 ∧ W.cell? p4 = some v4 ∧ Below w.heap.size w W) :
    w1.cell? p1 = some v1 ∧ w1.cell? p2 = some v2 ∧ w1.cell? p3 = some v3 ∧ w1.cell? p4 = some v4 ∧ Below w.heap.size w w1 :=
  ⟨(hb1.cell (World.block_lt_of_cell? W _ h.1)).trans h.1, (hb1.cell (World.block_lt_of_cell? W _ h.2.1)).trans h.2.1, (hb1.cell (World.block_lt_of_cell? W _ h.2.2.1)).trans h.2.2.1, (hb1.cell (World.block_lt_of_cell? W _ h.2.2.2.1)).trans h.2.2.2.1, h.2.2.2.2.trans (hb1.mono h.2.2.2.2.size)⟩

theorem take_eq_next {ts us : List Ty} {k : Nat} (h : ts.take k = us.take k) (h1 : k < ts.length) (h2 : k < us.length) (he : ts[k].kind = us[k].kind ∧ ts[k].args = us[k].args) : ts.take (k + 1) = us.take (k + 1) := by
  rw [List.take_add_one, List.take_add_one, h, List.getElem?_eq_getElem h1, List.getElem?_eq_getElem h2, Ty.ext he.1 he.2]
theorem ne_of_at {ts us : List Ty} {k : Nat} (h1 : k < ts.length) (h2 : k < us.length) (hn : ¬ (ts[k].kind = us[k].kind ∧ ts[k].args = us[k].args)) : ts ≠ us := by
  intro e; subst e; exact hn ⟨rfl, rfl⟩

set_option maxRecDepth 100000 in
set_option maxHeartbeats 1000000 in
theorem eqS_any {w0 : World} {C C' : Nat → Prop} {ts : List Ty} {v : Value} (h : TS w0 C ts v) : ∀ (w : World) (us : List Ty) (u : Value), Stays C w0 w → TS w C' us u →
    Calls Tryd.prog 68 #[v, u] w (BoolRet (fun b => b = true ↔ ts = us) w) := by
  induction h with
  | nil a c =>
    intro w us u hst hu
    obtain ⟨p, d, rfl⟩ := hu.form
    have hlen := hu.len
    clear hu
    go_enter Tryd.func68, Tryd.ntmps68
    by_cases hz : us.length = 0
    · obtain rfl := List.eq_nil_of_length_eq_zero hz
      simp only [List.length_nil]
      go_wp2_with fail
      go_loop [5] (fun i => i = .int .i64 0) (fun _ => 0)
      case atStart => exact rfl
      case round =>
        obtain rfl := hrel
        go_wp2_with fail
        go_ret
        exact ⟨true, by simp, rfl, Below.refl _ _⟩
    · have hne : ¬ ([] = us) := fun e => hz (by rw [← e]; rfl)
      have HN := Lib.hid hne
      clear hne
      go_wp2_with fail
      go_ret
      exact ⟨false, by simpa using HN.out, rfl, Below.refl _ _⟩
  | @cons ts b o c S h1 hc hm hC hb hk hs hr ih =>
    intro w us u hst hu
    have HIH := Lib.hid ih
    have HST := Lib.hid hst
    have HK := Lib.hid (fun j x (e : ts[j]? = some x) (w' : World) (hw : Stays C w0 w') => (World.cell?_of_block (w := w0) (a := ⟨b, o + j * 2, none⟩) (hw.2 b hC hb)).trans (hk j x e))
    have HS := Lib.hid (fun j x (e : ts[j]? = some x) (w' : World) (hw : Stays C w0 w') => (World.cell?_of_block (w := w0) (a := ⟨b, o + j * 2 + 1, none⟩) (hw.2 b hC hb)).trans (hs j x e))
    have HF := Lib.hid (fun j x (e : ts[j]? = some x) => (hr j x e).form)
    clear hk hs hr ih hst hC hb
    by_cases hlen : ts.length = us.length
    · cases hu with
      | nil a d =>
        have h0 : ts.length = 0 := hlen
        omega
      | @cons us b2 o2 d S2 h12 hc2 hm2 hC2 hb2 hk2 hs2 hr2 =>
        have HT2 := Lib.hid (fun (w' : World) (hw : Below w.heap.size w w') => TS.keep (.cons S2 h12 hc2 hm2 hC2 hb2 hk2 hs2 hr2) hw)
        have HK2 := Lib.hid hk2
        have HS2 := Lib.hid hs2
        have HR2 := Lib.hid hr2
        clear hk2 hs2 hr2 hC2
        have HL := Lib.hid hlen
        go_enter Tryd.func68, Tryd.ntmps68
        rw [← hlen]
        clear hlen
        go_wp2_with fail
        go_loopw [5] (fun i wr => ∃ (k : Nat), k ≤ ts.length ∧ i = .int .i64 k ∧ ts.take k = us.take k ∧ Below w.heap.size w wr) (fun i _ => ts.length - (intOf i).toNat)
        case atStart => exact ⟨0, Nat.zero_le _, rfl, by simp, Below.refl _ _⟩
        case round =>
          obtain ⟨k, hk, rfl, htk, hbr⟩ := hrel
          have HTK := Lib.hid htk
          have HB := Lib.hid hbr
          have HSR := Lib.hid (HST.out.trans (Stays.of_below (C := C) hbr))
          clear htk
          by_cases hlk : k < ts.length
          · have hlk2 : k < us.length := by rw [← HL.out]; exact hlk
            have e := List.getElem?_eq_getElem hlk
            have e2 := List.getElem?_eq_getElem hlk2
            have c1 := HK.out k _ e wr HSR.out
            have c2 := HS.out k _ e wr HSR.out
            have c3 := (hbr.cell (p := ⟨b2, o2 + k * 2, none⟩) hb2).trans (HK2.out k _ e2)
            have c4 := (hbr.cell (p := ⟨b2, o2 + k * 2 + 1, none⟩) hb2).trans (HS2.out k _ e2)
            obtain ⟨p, q, hf⟩ := HF.out k _ e
            obtain ⟨p2, q2, hf2⟩ := (HR2.out k _ e2).form
            have HC := Lib.hid (fun (W : World) (hW : Below w.heap.size w W) => eqT_of ts[k].kind us[k].kind p p2 _ q _ q2 (ts[k].args = us[k].args) W (fun w' hw' => by
              have hw2 := hW.trans (hw'.mono hW.size)
              have hh := HIH.out k _ e w' _ _ (HST.out.trans (Stays.of_below hw2)) ((HR2.out k _ e2).keep hw2)
              rw [hf, hf2] at hh
              exact hh))
            rw [hf] at c2
            rw [hf2] at c4
            have i0 : (0 : Int) ≤ (k : Int) := Int.natCast_nonneg _
            have i1 : (k : Int) < (ts.length : Int) := by omega
            clear e e2 hf hf2
            go_wp2_with fail
            go_region_held3 (fun w' => w'.cell? ⟨b, o + k * 2, none⟩ = some (.int .i64 ts[k].kind) ∧ w'.cell? ⟨b, o + k * 2 + 1, none⟩ = some (.slice p ts[k].args.length q) ∧ w'.cell? ⟨b2, o2 + k * 2, none⟩ = some (.int .i64 us[k].kind) ∧ w'.cell? ⟨b2, o2 + k * 2 + 1, none⟩ = some (.slice p2 us[k].args.length q2) ∧ Below w.heap.size w w')
              (first
                | (go_keep; done)
                | exact ⟨by simp [*], by simp [*], by simp [*], by simp [*], hbr.drew⟩
                | exact keep4 hb1 (by assumption))
              (first | (go_at_call 46; refine (HC.out _ hbr.drew).mono ?_; rintro e w1 ⟨r, hr, rfl, hb1⟩))
            rename_i hH
            have HB1 := Lib.hid hH.2.2.2.2
            have HR := Lib.hid hr
            clear hH hb1 c1 c2 c3 c4 hr
            cases r with
            | true =>
              go_wp2_with fail
              go_roundw
              case rel => exact ⟨k + 1, by omega, by go_num, take_eq_next HTK.out hlk hlk2 (HR.out.1 rfl), HB1.out⟩
              case measure => simp [intOf]; omega
            | false =>
              go_wp2_with fail
              go_ret
              exact ⟨false, by simpa using ne_of_at hlk hlk2 (fun e => by simpa using HR.out.2 e), rfl, HB1.out⟩
          · obtain rfl : k = ts.length := by omega
            have htk : ts = us := by
              have := HTK.out
              rw [List.take_length, HL.out, List.take_length] at this
              exact this
            have HE := Lib.hid htk
            clear htk
            go_wp2_with fail
            go_ret
            exact ⟨true, by simpa using HE.out, rfl, HB.out⟩
    · have hne : ¬ (ts = us) := fun e => hlen (by rw [← e])
      obtain ⟨p, d, rfl⟩ := hu.form
      have hlen2 := hu.len
      have HN := Lib.hid hne
      clear hne hu
      go_enter Tryd.func68, Tryd.ntmps68
      go_wp2_with fail
      go_ret
      exact ⟨false, by simpa using HN.out, rfl, Below.refl _ _⟩
/-- THE LAWS' eqType, AT ANY TWO TYPES. -/
theorem eqT_any {C C' : Nat → Prop} {t u : Ty} {v x : Value} {w : World} (h : TT w C t v) (h2 : TT w C' u x) :
    Calls Tryd.prog 46 #[v, x] w (BoolRet (fun b => b = true ↔ t = u) w) := by
  obtain ⟨s, rfl, h⟩ := h
  obtain ⟨p, c, rfl⟩ := h.form
  obtain ⟨s2, rfl, h2⟩ := h2
  obtain ⟨p2, c2, rfl⟩ := h2.form
  refine (eqT_of t.kind u.kind p p2 _ c _ c2 (t.args = u.args) w (fun w' hb => eqS_any h w' _ _ (.of_below hb) (h2.keep hb))).mono ?_
  rintro e w' ⟨b, hb, he, hw⟩
  exact ⟨b, hb.trans ⟨fun h => Ty.ext h.1 h.2, fun h => by rw [h]; exact ⟨rfl, rfl⟩⟩, he, hw⟩
#print axioms eqT_any
end Go.Proofs.YtnciibngcaajgaaDoor
