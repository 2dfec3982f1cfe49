/-
  Several texts of the proof in one (each says below what it holds): Dat2 Tm TmSz TmSpec Reduce Apply StrEq.
-/
import Derived.Test.YtjobmgbchpoheaaGreatDoorPB6
import Derived.Test.YtjobmgbchpoheaaGreatDoorPB1
import Derived.Test.YtjobmgbchpoheaaGreatDoorProg
import Derived.WalkSmall
import Derived.Laws.Strings
namespace Go.Proofs.YtjobmgbchpoheaaGreatDoor
open Go Go.RowKit
theorem DO.grow {w : World} {base : Nat} {T : TypeId} {k n : Nat} {ds es : List D} {v : Value} {us : List Value} {F1 F2 : Nat → Prop} (h : DO w (.rows T k n ds) v F1) (hx : OSt w es us F2) (hk : es.length = k)
    (h1 : ∀ z, F1 z → base ≤ z ∧ ¬ F2 z) (h2 : ∀ z, F2 z → base ≤ z ∧ z < w.heap.size) :
    ∃ xs, w.ownsRow base T k v n xs ∧ ∀ (w' : World) (g cap : Nat), Appd w w' base T k v n xs us g cap →
      DO w' (.rows T k (n + 1) (ds ++ es)) (.slice (some ⟨g, 0, none⟩) (n + 1) cap) (fun z => base ≤ z ∧ z < w'.heap.size) := by
  obtain ⟨hul, G2, g1, g2, g3⟩ := hx
  have fin : ∀ (xs : List Value) (V : Nat → Value) (G : Nat → Nat → Prop) (hxs : xs.length = n * k) (hds : ds.length = n * k) (hV : ∀ i, i < n * k → xs[i]? = some (V i))
      (hD : ∀ i d, ds[i]? = some d → DO w d (V i) (fun z => G i z ∧ z < w.heap.size)) (hG : ∀ i z, i < n * k → G i z → F1 z ∧ v.ownBlock ≠ some z) (hd : ∀ i j z, i < n * k → j < n * k → i ≠ j → G i z → G j z → False)
      (hvb : ∀ z, F2 z → v.ownBlock ≠ some z) (w' : World) (g cap : Nat), Appd w w' base T k v n xs us g cap →
      DO w' (.rows T k (n + 1) (ds ++ es)) (.slice (some ⟨g, 0, none⟩) (n + 1) cap) (fun z => base ≤ z ∧ z < w'.heap.size) := by
    intro xs V G hxs hds hV hD hG hd hvb w' g cap hA
    have hs := hA.size
    obtain ⟨_, h0 | ⟨g', cap', cur', hv', hbg, hblk, hn', hm', hsz', htk⟩⟩ := hA.own
    · exact absurd h0.1 (by simp)
    simp only [Value.slice.injEq, Option.some.injEq, Addr.mk.injEq, true_and, and_true] at hv'
    obtain ⟨rfl, rfl⟩ := hv'
    have hlt := blk_lt hblk
    have hnk : (n + 1) * k = n * k + k := by rw [Nat.add_mul]; omega
    have hat : ∀ i, i < (n + 1) * k → cur'[i]? = (xs ++ us)[i]? := fun i hi => by
      rw [← htk, List.getElem?_take, if_pos hi, Array.getElem?_toList]
    have kept : ∀ z, z < w.heap.size → v.ownBlock ≠ some z → w'.heap[z]? = w.heap[z]? ∧ g ≠ z := hA.kept
    refine DO.rows cur' (fun i => if i < n * k then V i else (us[i - n * k]?).getD .nilIface) (fun i z => if i < n * k then G i z ∧ z < w.heap.size else G2 (i - n * k) z) hblk hsz' hn' hm' (by rw [List.length_append]; omega) ⟨hbg, hlt⟩ (fun i hi => ?_) (fun i d hi => ?_) (fun i z hi hz => ?_) (fun i j z hi hj hij hz1 hz2 => ?_)
    · rw [hat i hi]
      by_cases e : i < n * k
      · rw [List.getElem?_append_left (by omega), if_pos e]; exact hV i e
      · have hu : i - n * k < us.length := by omega
        rw [List.getElem?_append_right (by omega), hxs, if_neg e, List.getElem?_eq_getElem hu]; rfl
    · by_cases e : i < n * k
      · rw [List.getElem?_append_left (by omega)] at hi
        simp only [if_pos e]
        exact (hD i d hi).stays ⟨hs, fun z hz hl => (kept z hl (hG i z e hz.1).2).1⟩
      · rw [List.getElem?_append_right (by omega), hds] at hi
        simp only [if_neg e]
        have hlt2 := (List.getElem?_eq_some_iff.1 hi).1
        have hu : us[i - n * k]? = some ((us[i - n * k]?).getD .nilIface) := by rw [List.getElem?_eq_getElem (by omega)]; rfl
        exact (g1 _ d _ hi hu).stays ⟨hs, fun z hz hl => (kept z hl (hvb z (g2 _ z hlt2 hz))).1⟩
    · by_cases e : i < n * k
      · simp only [if_pos e] at hz
        obtain ⟨a1, a2⟩ := hG i z e hz.1
        exact ⟨⟨(h1 z a1).1, by omega⟩, fun e => (kept z hz.2 a2).2 e.symm⟩
      · simp only [if_neg e] at hz
        have hf := g2 _ z (by omega) hz
        obtain ⟨a1, a2⟩ := h2 z hf
        exact ⟨⟨a1, by omega⟩, fun e => (kept z a2 (hvb z hf)).2 e.symm⟩
    · by_cases ei : i < n * k
      · simp only [if_pos ei] at hz1
        by_cases ej : j < n * k
        · simp only [if_pos ej] at hz2
          exact hd i j z ei ej hij hz1.1 hz2.1
        · simp only [if_neg ej] at hz2
          exact (h1 z (hG i z ei hz1.1).1).2 (g2 _ z (by omega) hz2)
      · simp only [if_neg ei] at hz1
        by_cases ej : j < n * k
        · simp only [if_pos ej] at hz2
          exact (h1 z (hG j z ej hz2.1).1).2 (g2 _ z (by omega) hz1)
        · simp only [if_neg ej] at hz2
          exact g3 _ _ z (by omega) (by omega) (by omega) hz1 hz2
  cases h with
  | nil =>
    exact ⟨[], World.ownsRow_nil w base _ k, fin [] (fun _ => .nilIface) (fun _ _ => False) (by simp) (by simp) (fun i hi => by omega) (fun i d hi => by simp at hi) (fun i z hi => by omega) (fun i j z hi => by omega) (fun z _ => by simp [Value.ownBlock])⟩
  | @rows T k n b c ds F cur V G hblk hsz hn hm hl hF hv hr hG hd =>
    have hle : n * k ≤ c * k := Nat.mul_le_mul_right _ hn
    have hxl : (cur.toList.take (n * k)).length = n * k := by rw [List.length_take, Array.length_toList]; omega
    have ob : ∀ z, z ≠ b → (Value.slice (some ⟨b, 0, Option.none⟩) n c).ownBlock ≠ some z := fun z hz => by simp only [Value.ownBlock, ne_eq, Option.some.injEq]; omega
    refine ⟨cur.toList.take (n * k), ⟨hxl, Or.inr ⟨b, c, cur, rfl, (h1 b hF).1, hblk, hn, hm, hsz, rfl⟩⟩, fin _ V G hxl hl (fun i hi => by rw [List.getElem?_take, if_pos hi, Array.getElem?_toList]; exact hv i hi) (fun i d hi => (hr i d hi).inHeap) (fun i z hi hz => ⟨(hG i z hi hz).1, ob z (hG i z hi hz).2⟩) hd (fun z hz => ob z (fun e => (h1 b hF).2 (e ▸ hz)))⟩
def setN (w : World) (b : Nat) : Nat → List Value → World
  | _, [] => w
  | o, v :: vs => setN (w.setCell ⟨b, o, none⟩ v) b (o + 1) vs
def setA (cur : Array Value) : Nat → List Value → Array Value
  | _, [] => cur
  | o, v :: vs => setA (cur.setIfInBounds o v) (o + 1) vs
theorem setN_stays (vs : List Value) (F : Nat → Prop) : ∀ (w : World) (b o : Nat), ¬ F b → Stays F w (setN w b o vs) := by
  induction vs with
  | nil => intro w b o _; exact Stays.refl F w
  | cons v vs ih => intro w b o h; exact (setCell_stays w b o v F h).trans (ih _ b (o + 1) h)
theorem setN_below (vs : List Value) (B : Nat) : ∀ (w : World) (b o : Nat), B ≤ b → Below B w (setN w b o vs) := by
  induction vs with
  | nil => intro w b o _; exact Below.refl B w
  | cons v vs ih => intro w b o h; exact ((Below.refl B w).setCell (p := ⟨b, o, none⟩) h v).trans (ih _ b (o + 1) h)
def FilD (w : World) (b : Nat) (T : TypeId) (k n c : Nat) (ds : List D) (j : Nat) : Prop :=
  ∃ (cur : Array Value) (V : Nat → Value) (G : Nat → Nat → Prop), w.heap[b]? = some (.cells cur T (0, 0)) ∧ cur.size = c * k ∧ n ≤ c ∧ (∀ i, i < j * k → cur[i]? = some (V i)) ∧ (∀ i d, i < j * k → ds[i]? = some d → DO w d (V i) (G i)) ∧
    (∀ i z, i < j * k → G i z → b < z ∧ z < w.heap.size) ∧ (∀ i i' z, i < j * k → i' < j * k → i ≠ i' → G i z → G i' z → False)
end Go.Proofs.YtjobmgbchpoheaaGreatDoor
namespace Go.Proofs.YtjobmgbchpoheaaGreatDoor
open Go Go.RowKit
theorem flat_at {α β : Type} (f : α → List β) (k : Nat) (hk : ∀ x, (f x).length = k) : ∀ (xs : List α) (j i : Nat), i < k → (xs.flatMap f)[j * k + i]? = (xs[j]?).bind fun x => (f x)[i]?
  | [], j, i, _ => by simp
  | x :: xs, 0, i, hi => by
    rw [Nat.zero_mul, Nat.zero_add, List.flatMap_cons, List.getElem?_append_left (by rw [hk]; exact hi)]; rfl
  | x :: xs, j + 1, i, hi => by
    have := flat_at f k hk xs j i hi
    rw [List.flatMap_cons, List.getElem?_append_right (by rw [hk, Nat.add_mul]; omega), hk, Nat.add_mul, Nat.one_mul, show j * k + k + i - k = j * k + i by omega, this]
    rfl
theorem flat_len {α β : Type} (f : α → List β) (k : Nat) (hk : ∀ x, (f x).length = k) (xs : List α) : (xs.flatMap f).length = xs.length * k := by
  induction xs with
  | nil => simp
  | cons x xs ih => rw [List.flatMap_cons, List.length_append, ih, hk, List.length_cons, Nat.add_mul]; omega

mutual
def Ty.ds : Ty → List D
  | .mk k ts => [.cell (.int .i64 k), .rows 26 2 ts.length (flatTy ts)]
def flatTy : List Ty → List D
  | [] => []
  | t :: ts => t.ds ++ flatTy ts
end
theorem Ty.ds_len (t : Ty) : t.ds.length = 2 := by cases t; rfl
theorem flatTy_eq (ts : List Ty) : flatTy ts = ts.flatMap Ty.ds := by
  induction ts with
  | nil => rfl
  | cons t ts ih => rw [flatTy, ih]; rfl
theorem flatTy_len (ts : List Ty) : (flatTy ts).length = ts.length * 2 := by rw [flatTy_eq, flat_len _ 2 Ty.ds_len]
theorem flatTy_at (ts : List Ty) (j : Nat) (h : j < ts.length) : (flatTy ts)[j * 2]? = some (.cell (.int .i64 ts[j].kind)) ∧ (flatTy ts)[j * 2 + 1]? = some (.rows 26 2 ts[j].args.length (flatTy ts[j].args)) := by
  have h0 := flat_at Ty.ds 2 Ty.ds_len ts j 0 (by omega)
  have h1 := flat_at Ty.ds 2 Ty.ds_len ts j 1 (by omega)
  rw [List.getElem?_eq_getElem h] at h0 h1
  rw [flatTy_eq]
  exact ⟨by rw [Nat.add_zero] at h0; rw [h0]; cases ts[j]; rfl, by rw [h1]; cases ts[j]; rfl⟩
theorem div2 {i n : Nat} (h : i < n * 2) : ∃ j, j < n ∧ (i = j * 2 ∨ i = j * 2 + 1) := ⟨i / 2, by omega, by omega⟩
abbrev tyD (ts : List Ty) : D := .rows 26 2 ts.length (flatTy ts)
theorem TS.dm {w : World} {C : Nat → Prop} {ts : List Ty} {v : Value} (h : TS w C ts v) : DM w C (tyD ts) v := by
  induction h with
  | nil a c => exact .nil _ _ a c
  | @cons ts b o c S h1 hc hm hC hb hk hs hr ih =>
    refine .rows (fun i => if i % 2 = 0 then .int .i64 ((ts[i / 2]?).map Ty.kind |>.getD 0) else S (i / 2)) h1 hc hm (flatTy_len ts) hC hb (fun i d hi => ?_) (fun i d hi => ?_)
    all_goals
      have hlt : i < ts.length * 2 := by rw [← flatTy_len]; exact (List.getElem?_eq_some_iff.1 hi).1
      obtain ⟨j, hj, e⟩ := div2 hlt
      have hx := List.getElem?_eq_getElem hj
      obtain ⟨f0, f1⟩ := flatTy_at ts j hj
    · rcases e with rfl | rfl
      · simp only [Nat.mul_mod_left, if_true, Nat.mul_div_cancel _ (by omega : 0 < 2), hx, Option.map_some, Option.getD_some]
        exact hk j _ hx
      · simp only [show (j * 2 + 1) % 2 = 1 by omega, show (j * 2 + 1) / 2 = j by omega, Nat.one_ne_zero, if_false]
        exact hs j _ hx
    · rcases e with rfl | rfl
      · simp only [Nat.mul_mod_left, if_true, Nat.mul_div_cancel _ (by omega : 0 < 2), hx, Option.map_some, Option.getD_some]
        rw [f0] at hi; cases hi
        exact .cell _
      · simp only [show (j * 2 + 1) % 2 = 1 by omega, show (j * 2 + 1) / 2 = j by omega, Nat.one_ne_zero, if_false]
        rw [f1] at hi; cases hi
        exact ih j _ hx
theorem DM.ts {w : World} {C : Nat → Prop} : ∀ (m : Nat) {ts : List Ty} {v : Value}, nodesS ts ≤ m → DM w C (tyD ts) v → TS w C ts v
  | m, [], v, _, h => by
    obtain ⟨a, c, rfl⟩ := h.form
    exact .nil a c
  | 0, t :: ts, v, hm, h => by simp only [nodesS, Ty.nodes_eq] at hm; omega
  | m + 1, t :: ts, v, hn, h => by
    have hne : (flatTy (t :: ts)).length = (t :: ts).length * 2 := flatTy_len _
    cases h with
    | @rows _ _ _ b o c _ V h1 hc hm hl hC hb hv hr =>
      refine .cons (fun j => V (j * 2 + 1)) h1 hc hm hC hb (fun j x hj => ?_) (fun j x hj => ?_) (fun j x hj => ?_)
      all_goals
        obtain ⟨hlt, rfl⟩ := List.getElem?_eq_some_iff.1 hj
        obtain ⟨f0, f1⟩ := flatTy_at (t :: ts) j hlt
      · have := (hr _ _ f0).val
        rw [hv _ _ f0, this]
      · exact hv _ _ f1
      · refine DM.ts m ?_ (hr _ _ f1)
        have := nodesS_at (t :: ts) j hlt
        omega
theorem OS.dO {w : World} {F : Nat → Prop} {ts : List Ty} {v : Value} (h : OS w ts v F) : DO w (tyD ts) v F := by
  induction h with
  | none F => exact .nil _ _ F
  | @row ts b c F K S G hrow hm hF hk hr hG hd ih =>
    obtain ⟨cur, hblk, hsz, hn, hat⟩ := hrow
    refine .rows cur (fun i => if i % 2 = 0 then .int .i64 (K (i / 2)) else S (i / 2)) (fun i z => i % 2 = 1 ∧ G (i / 2) z) hblk hsz hn hm (flatTy_len ts) hF (fun i hi => ?_) (fun i d hi => ?_) (fun i z hi hz => hG (i / 2) z (by omega) hz.2) (fun i j z hi hj hij h1 h2 => hd (i / 2) (j / 2) z (by omega) (by omega) (by omega) h1.2 h2.2)
    · obtain ⟨j, hj, e⟩ := div2 hi
      rcases e with rfl | rfl
      · simp only [Nat.mul_mod_left, if_true, Nat.mul_div_cancel _ (by omega : 0 < 2)]
        exact (hat j hj).1
      · simp only [show (j * 2 + 1) % 2 = 1 by omega, show (j * 2 + 1) / 2 = j by omega, Nat.one_ne_zero, if_false]
        exact (hat j hj).2
    · have hlt : i < ts.length * 2 := by rw [← flatTy_len]; exact (List.getElem?_eq_some_iff.1 hi).1
      obtain ⟨j, hj, e⟩ := div2 hlt
      have hx := List.getElem?_eq_getElem hj
      obtain ⟨f0, f1⟩ := flatTy_at ts j hj
      rcases e with rfl | rfl
      · rw [f0] at hi; cases hi
        simp only [Nat.mul_mod_left, if_true, Nat.mul_div_cancel _ (by omega : 0 < 2), hk j _ hx]
        exact .cell _ _
      · rw [f1] at hi; cases hi
        simp only [show (j * 2 + 1) % 2 = 1 by omega, show (j * 2 + 1) / 2 = j by omega, Nat.one_ne_zero, if_false]
        exact (ih j _ hx).mono (fun z hz => ⟨trivial, hz⟩)
inductive Tm where
  | mk (kind : Int) (name other : ByteArray) (n : Int) (ty res : Ty) (args : List Tm)
namespace Tm
def kind : Tm → Int | mk k _ _ _ _ _ _ => k
def name : Tm → ByteArray | mk _ a _ _ _ _ _ => a
def other : Tm → ByteArray | mk _ _ b _ _ _ _ => b
def n : Tm → Int | mk _ _ _ n _ _ _ => n
def ty : Tm → Ty | mk _ _ _ _ t _ _ => t
def res : Tm → Ty | mk _ _ _ _ _ r _ => r
def args : Tm → List Tm | mk _ _ _ _ _ _ ts => ts
end Tm
theorem Tm.eta (t : Tm) : t = .mk t.kind t.name t.other t.n t.ty t.res t.args := by cases t; rfl
theorem Tm.ext' {a b : Tm} (h1 : a.kind = b.kind) (h2 : a.name = b.name) (h3 : a.other = b.other) (h4 : a.n = b.n) (h5 : a.ty = b.ty) (h6 : a.res = b.res) (h7 : a.args = b.args) : a = b := by
  rw [a.eta, b.eta, h1, h2, h3, h4, h5, h6, h7]
mutual
def Tm.ds : Tm → List D
  | .mk k a b n t r ts => [.cell (.int .i64 k), .cell (.string a), .cell (.string b), .cell (.int .i64 n), .cell (.int .i64 t.kind), tyD t.args, .cell (.int .i64 r.kind), tyD r.args, .rows 29 9 ts.length (flatTm ts)]
def flatTm : List Tm → List D
  | [] => []
  | t :: ts => t.ds ++ flatTm ts
end
abbrev tmD (ts : List Tm) : D := .rows 29 9 ts.length (flatTm ts)
theorem Tm.ds_eq (x : Tm) : x.ds = [.cell (.int .i64 x.kind), .cell (.string x.name), .cell (.string x.other), .cell (.int .i64 x.n), .cell (.int .i64 x.ty.kind), tyD x.ty.args, .cell (.int .i64 x.res.kind), tyD x.res.args, tmD x.args] := by
  cases x; rfl
theorem Tm.ds_len (t : Tm) : t.ds.length = 9 := by cases t; rfl
theorem flatTm_eq (ts : List Tm) : flatTm ts = ts.flatMap Tm.ds := by
  induction ts with
  | nil => rfl
  | cons t ts ih => rw [flatTm, ih]; rfl
theorem flatTm_len (ts : List Tm) : (flatTm ts).length = ts.length * 9 := by rw [flatTm_eq, flat_len _ 9 Tm.ds_len]
theorem flatTm_at (ts : List Tm) (j i : Nat) (h : j < ts.length) (hi : i < 9) : (flatTm ts)[j * 9 + i]? = (ts[j].ds)[i]? := by
  rw [flatTm_eq, flat_at Tm.ds 9 Tm.ds_len ts j i hi, List.getElem?_eq_getElem h]; rfl
theorem flatTm_append (a b : List Tm) : flatTm (a ++ b) = flatTm a ++ flatTm b := by simp [flatTm_eq]

mutual
def Tm.nodes : Tm → Nat
  | .mk _ _ _ _ _ _ ts => 1 + nodesM ts
def nodesM : List Tm → Nat
  | [] => 0
  | t :: ts => t.nodes + nodesM ts
end
mutual
def Tm.wt : Tm → Nat
  | .mk _ a b _ t r ts => a.size + b.size + nodesS t.args + nodesS r.args + wtS ts
def wtS : List Tm → Nat
  | [] => 0
  | t :: ts => 1 + t.wt + wtS ts
end
theorem Tm.nodes_eq (t : Tm) : t.nodes = 1 + nodesM t.args := by cases t; simp [Tm.nodes, Tm.args]
theorem Tm.wt_eq (t : Tm) : t.wt = t.name.size + t.other.size + nodesS t.ty.args + nodesS t.res.args + wtS t.args := by cases t; simp [Tm.wt, Tm.name, Tm.other, Tm.ty, Tm.res, Tm.args]
theorem nodesM_append (a b : List Tm) : nodesM (a ++ b) = nodesM a + nodesM b := by
  induction a with
  | nil => simp [nodesM]
  | cons x a ih => simp only [List.cons_append, nodesM, ih]; omega
theorem wtS_append (a b : List Tm) : wtS (a ++ b) = wtS a + wtS b := by
  induction a with
  | nil => simp [wtS]
  | cons x a ih => simp only [List.cons_append, wtS, ih]; omega
theorem tm_take_next {ts : List Tm} {k : Nat} (h : k < ts.length) : ts.take (k + 1) = ts.take k ++ [ts[k]] := by
  rw [List.take_add_one, List.getElem?_eq_getElem h]; rfl
theorem wtS_take (ts : List Tm) (k : Nat) (h : k < ts.length) : wtS (ts.take (k + 1)) = wtS (ts.take k) + (1 + ts[k].wt) := by
  rw [tm_take_next h, wtS_append]; simp [wtS]
theorem wtS_take_le (ts : List Tm) (k : Nat) : wtS (ts.take k) ≤ wtS ts := by
  have h := wtS_append (ts.take k) (ts.drop k)
  rw [List.take_append_drop] at h
  omega
theorem wtS_ge (ts : List Tm) : ts.length ≤ wtS ts := by
  induction ts with
  | nil => simp
  | cons a ts ih => simp only [List.length_cons, wtS]; omega
theorem wtS_at (ts : List Tm) (k : Nat) (h : k < ts.length) : 1 + ts[k].wt ≤ wtS ts := by
  have h1 := wtS_take ts k h
  have h2 := wtS_take_le ts (k + 1)
  omega
theorem nodesM_take (ts : List Tm) (k : Nat) (h : k < ts.length) : nodesM (ts.take (k + 1)) = nodesM (ts.take k) + ts[k].nodes := by
  rw [tm_take_next h, nodesM_append]; simp [nodesM]
theorem nodesM_take_le (ts : List Tm) (k : Nat) : nodesM (ts.take k) ≤ nodesM ts := by
  have h := nodesM_append (ts.take k) (ts.drop k)
  rw [List.take_append_drop] at h
  omega
theorem nodesM_at (ts : List Tm) (k : Nat) (h : k < ts.length) : ts[k].nodes ≤ nodesM ts := by
  have h1 := nodesM_take ts k h
  have h2 := nodesM_take_le ts (k + 1)
  omega
mutual
theorem nodesM_wt : ∀ ts : List Tm, nodesM ts ≤ wtS ts
  | [] => Nat.le_refl _
  | t :: ts => by
    have h1 := Tm.nodes_wt t
    have h2 := nodesM_wt ts
    simp only [nodesM, wtS]
    omega
theorem Tm.nodes_wt : ∀ t : Tm, t.nodes ≤ 1 + t.wt
  | .mk k a b n t r ts => by
    have := nodesM_wt ts
    simp only [Tm.nodes, Tm.wt]
    omega
end
abbrev tmV (t : Tm) (tp : Option Addr) (tc : Nat) (rp : Option Addr) (rc : Nat) (p : Option Addr) (c : Nat) : Value :=
  .agg #[.int .i64 t.kind, .string t.name, .string t.other, .int .i64 t.n, .int .i64 t.ty.kind, .slice tp t.ty.args.length tc, .int .i64 t.res.kind, .slice rp t.res.args.length rc, .slice p t.args.length c]
structure TM' (w : World) (C : Nat → Prop) (t : Tm) (tp : Option Addr) (tc : Nat) (rp : Option Addr) (rc : Nat) (p : Option Addr) (c : Nat) : Prop where
  ty : TS w C t.ty.args (.slice tp t.ty.args.length tc)
  res : TS w C t.res.args (.slice rp t.res.args.length rc)
  args : DM w C (tmD t.args) (.slice p t.args.length c)
def TM (w : World) (C : Nat → Prop) (t : Tm) (v : Value) : Prop := ∃ tp tc rp rc p c, v = tmV t tp tc rp rc p c ∧ TM' w C t tp tc rp rc p c
theorem TM'.stays {w w' : World} {C : Nat → Prop} {t : Tm} {tp rp p : Option Addr} {tc rc c : Nat} (h : TM' w C t tp tc rp rc p c) (hs : Stays C w w') : TM' w' C t tp tc rp rc p c := ⟨h.ty.stays hs, h.res.stays hs, h.args.stays hs⟩
theorem TM'.mono {w : World} {C C' : Nat → Prop} {t : Tm} {tp rp p : Option Addr} {tc rc c : Nat} (h : TM' w C t tp tc rp rc p c) (hC : ∀ b, C b → b < w.heap.size → C' b) : TM' w C' t tp tc rp rc p c := ⟨h.ty.mono hC, h.res.mono hC, h.args.mono hC⟩
theorem TM.stays {w w' : World} {C : Nat → Prop} {t : Tm} {v : Value} (h : TM w C t v) (hs : Stays C w w') : TM w' C t v := by
  obtain ⟨tp, tc, rp, rc, p, c, hv, h⟩ := h
  exact ⟨tp, tc, rp, rc, p, c, hv, h.stays hs⟩
theorem TM.keep {w w' : World} {C : Nat → Prop} {t : Tm} {v : Value} (h : TM w C t v) (hb : Below w.heap.size w w') : TM w' C t v := h.stays (.of_below hb)
structure At9 (w : World) (b o : Nat) (t : Tm) (tp : Option Addr) (tc : Nat) (rp : Option Addr) (rc : Nat) (p : Option Addr) (c : Nat) : Prop where
  kind : w.cell? ⟨b, o, none⟩ = some (.int .i64 t.kind)
  name : w.cell? ⟨b, o + 1, none⟩ = some (.string t.name)
  other : w.cell? ⟨b, o + 2, none⟩ = some (.string t.other)
  n : w.cell? ⟨b, o + 3, none⟩ = some (.int .i64 t.n)
  tk : w.cell? ⟨b, o + 4, none⟩ = some (.int .i64 t.ty.kind)
  ta : w.cell? ⟨b, o + 5, none⟩ = some (.slice tp t.ty.args.length tc)
  rk : w.cell? ⟨b, o + 6, none⟩ = some (.int .i64 t.res.kind)
  ra : w.cell? ⟨b, o + 7, none⟩ = some (.slice rp t.res.args.length rc)
  args : w.cell? ⟨b, o + 8, none⟩ = some (.slice p t.args.length c)
theorem tm_part {w0 : World} {C : Nat → Prop} {ts : List Tm} {q : Option Addr} {d : Nat} (h : DM w0 C (tmD ts) (.slice q ts.length d)) (j : Nat) (hj : j < ts.length) :
    ∃ (b o : Nat) (tp : Option Addr) (tc : Nat) (rp : Option Addr) (rc : Nat) (p : Option Addr) (c : Nat), q = some ⟨b, o, none⟩ ∧ C b ∧ b < w0.heap.size ∧ (∀ w', Stays C w0 w' → At9 w' b (o + j * 9) ts[j] tp tc rp rc p c) ∧ TM' w0 C ts[j] tp tc rp rc p c := by
  obtain ⟨b, o, V, rfl, hC, hb, hp⟩ := h.part (by rw [flatTm_len]; omega)
  have hx := ts[j].ds_eq
  have part : ∀ (i : Nat) (d : D), i < 9 → (ts[j].ds)[i]? = some d → DM w0 C d (V (j * 9 + i)) ∧ ∀ w', Stays C w0 w' → w'.cell? ⟨b, o + j * 9 + i, none⟩ = some (V (j * 9 + i)) := fun i d hi hd => by
    obtain ⟨h1, h2⟩ := hp (j * 9 + i) d (by rw [flatTm_at ts j i hj hi]; exact hd)
    exact ⟨h1, fun w' hw => by rw [Nat.add_assoc]; exact h2 w' hw⟩
  rw [hx] at part
  obtain ⟨a0, b0⟩ := part 0 _ (by omega) rfl
  obtain ⟨a1, b1⟩ := part 1 _ (by omega) rfl
  obtain ⟨a2, b2⟩ := part 2 _ (by omega) rfl
  obtain ⟨a3, b3⟩ := part 3 _ (by omega) rfl
  obtain ⟨a4, b4⟩ := part 4 _ (by omega) rfl
  obtain ⟨a5, b5⟩ := part 5 _ (by omega) rfl
  obtain ⟨a6, b6⟩ := part 6 _ (by omega) rfl
  obtain ⟨a7, b7⟩ := part 7 _ (by omega) rfl
  obtain ⟨a8, b8⟩ := part 8 _ (by omega) rfl
  rw [a0.val] at b0
  rw [a1.val] at b1
  rw [a2.val] at b2
  rw [a3.val] at b3
  rw [a4.val] at b4
  rw [a6.val] at b6
  obtain ⟨tp, tc, e5⟩ := a5.form
  obtain ⟨rp, rc, e7⟩ := a7.form
  obtain ⟨p, c, e8⟩ := a8.form
  rw [e5] at a5 b5
  rw [e7] at a7 b7
  rw [e8] at a8 b8
  exact ⟨b, o, tp, tc, rp, rc, p, c, rfl, hC, hb, fun w' hw => ⟨b0 w' hw, b1 w' hw, b2 w' hw, b3 w' hw, b4 w' hw, b5 w' hw, b6 w' hw, b7 w' hw, b8 w' hw⟩, a5.ts _ (Nat.le_refl _), a7.ts _ (Nat.le_refl _), a8⟩

end Go.Proofs.YtjobmgbchpoheaaGreatDoor
namespace Go.Proofs.YtjobmgbchpoheaaGreatDoor
open Go Go.RowKit

mutual
def Tm.fit : Tm → Prop
  | .mk _ a b _ _ _ ts => a.size ≤ 9223372036854775807 ∧ b.size ≤ 9223372036854775807 ∧ fitS ts
def fitS : List Tm → Prop
  | [] => True
  | t :: ts => t.fit ∧ fitS ts
end
structure Bx9 (w : World) (b : Nat) (t : Tm) (tp : Option Addr) (tc : Nat) (rp : Option Addr) (rc : Nat) (p : Option Addr) (c : Nat) : Prop where
  kind : w.cell? ⟨b, 0, none⟩ = some (.int .i64 t.kind)
  name : w.cell? ⟨b, 1, none⟩ = some (.string t.name)
  other : w.cell? ⟨b, 2, none⟩ = some (.string t.other)
  n : w.cell? ⟨b, 3, none⟩ = some (.int .i64 t.n)
  tk : w.cell? ⟨b, 4, none⟩ = some (.int .i64 t.ty.kind)
  ta : w.cell? ⟨b, 5, none⟩ = some (.slice tp t.ty.args.length tc)
  rk : w.cell? ⟨b, 6, none⟩ = some (.int .i64 t.res.kind)
  ra : w.cell? ⟨b, 7, none⟩ = some (.slice rp t.res.args.length rc)
  args : w.cell? ⟨b, 8, none⟩ = some (.slice p t.args.length c)
abbrev tmC (t : Tm) (tp : Option Addr) (tc : Nat) (rp : Option Addr) (rc : Nat) (p : Option Addr) (c : Nat) : Array Value :=
  #[.int .i64 t.kind, .string t.name, .string t.other, .int .i64 t.n, .int .i64 t.ty.kind, .slice tp t.ty.args.length tc, .int .i64 t.res.kind, .slice rp t.res.args.length rc, .slice p t.args.length c]
theorem Bx9.of {w : World} {b : Nat} {t : Tm} {tp rp p : Option Addr} {tc rc c : Nat} {T : TypeId} (h : w.heap[b]? = some (.cells (tmC t tp tc rp rc p c) T (0, 0))) : Bx9 w b t tp tc rp rc p c := by
  have k : ∀ i, w.cell? ⟨b, i, none⟩ = (tmC t tp tc rp rc p c)[i]? := fun i => by simp [World.cell?, h]
  exact ⟨k 0, k 1, k 2, k 3, k 4, k 5, k 6, k 7, k 8⟩
theorem Bx9.lt {w : World} {b : Nat} {t : Tm} {tp rp p : Option Addr} {tc rc c : Nat} (h : Bx9 w b t tp tc rp rc p c) : b < w.heap.size := World.block_lt_of_cell? w _ h.kind
theorem Bx9.at {w w' : World} {b : Nat} {t : Tm} {tp rp p : Option Addr} {tc rc c : Nat} (h : Bx9 w b t tp tc rp rc p c) (hs : w'.heap[b]? = w.heap[b]?) : Bx9 w' b t tp tc rp rc p c := by
  have k : ∀ i, w'.cell? ⟨b, i, none⟩ = w.cell? ⟨b, i, none⟩ := fun i => World.cell?_of_block (a := ⟨b, i, none⟩) hs
  exact ⟨(k 0).trans h.kind, (k 1).trans h.name, (k 2).trans h.other, (k 3).trans h.n, (k 4).trans h.tk, (k 5).trans h.ta, (k 6).trans h.rk, (k 7).trans h.ra, (k 8).trans h.args⟩
theorem Bx9.keep {w w' : World} {b : Nat} {t : Tm} {tp rp p : Option Addr} {tc rc c : Nat} (h : Bx9 w b t tp tc rp rc p c) (hb : Below w.heap.size w w') : Bx9 w' b t tp tc rp rc p c := h.at (hb.block b h.lt)
theorem Bx9.new (w : World) (t : Tm) (tp : Option Addr) (tc : Nat) (rp : Option Addr) (rc : Nat) (p : Option Addr) (c : Nat) (T : TypeId) : Bx9 (w.alloc (.cells (tmC t tp tc rp rc p c) T)) w.heap.size t tp tc rp rc p c :=
  Bx9.of (T := T) (by show (w.heap.push _)[w.heap.size]? = _; simp)
theorem al_below (w : World) (o : Obj) : Below w.heap.size w (w.alloc o) := (Below.refl _ w).alloc (Nat.le_refl _) o
def LeftM (left : Int) (ts : List Tm) (k : Nat) (L : Int) : Prop := L + ts.length + (wtS (ts.take k) - k : Nat) = left
end Go.Proofs.YtjobmgbchpoheaaGreatDoor
namespace Go.Proofs.YtjobmgbchpoheaaGreatDoor
open Go Go.RowKit

mutual
def Tm.depth : Tm → Nat
  | .mk _ _ _ _ _ _ ts => 1 + depthM ts
def depthM : List Tm → Nat
  | [] => 0
  | t :: ts => max t.depth (depthM ts)
end
theorem Tm.depth_eq (t : Tm) : t.depth = 1 + depthM t.args := by cases t; simp [Tm.depth, Tm.args]
theorem depthM_append (a b : List Tm) : depthM (a ++ b) = max (depthM a) (depthM b) := by
  induction a with
  | nil => simp [depthM]
  | cons x a ih => simp only [List.cons_append, depthM, ih]; omega
theorem depthM_take (ts : List Tm) (k : Nat) (h : k < ts.length) : depthM (ts.take (k + 1)) = max (depthM (ts.take k)) ts[k].depth := by
  rw [tm_take_next h, depthM_append]; simp [depthM]
mutual
theorem depthM_nodes : ∀ ts : List Tm, depthM ts ≤ nodesM ts
  | [] => Nat.le_refl _
  | t :: ts => by
    have h1 := Tm.depth_nodes t
    have h2 := depthM_nodes ts
    simp only [depthM, nodesM]
    omega
theorem Tm.depth_nodes : ∀ t : Tm, t.depth ≤ t.nodes
  | .mk k a b n t r ts => by
    have := depthM_nodes ts
    simp only [Tm.depth, Tm.nodes]
    omega
end
theorem leftM_stop {left L : Int} {a n : Nat} (h : LeftEnds (left - 1) a L) (hn : L < 0) (ha : a ≤ n) : LeftEnds left (1 + n) L := by
  unfold LeftEnds at *; omega
theorem box_rest {w w' : World} {A : Array Value} {T : TypeId} (h : Below (w.alloc (.cells A T)).heap.size (w.alloc (.cells A T)) w') : Below w.heap.size w w' :=
  (al_below w _).trans (h.mono (by simp))


set_option maxRecDepth 100000 in
set_option maxHeartbeats 1000000 in
theorem depthM_any {C : Nat → Prop} : ∀ (m : Nat) {t : Tm} {tp : Option Addr} {tc : Nat} {rp : Option Addr} {rc : Nat} {p : Option Addr} {c : Nat} (w : World), t.nodes ≤ m → TM' w C t tp tc rp rc p c → t.wt ≤ 2097152 → Calls Tryz.prog 27 #[tmV t tp tc rp rc p c] w (IntRet (fun r => r = ((t.depth : Nat) : Int)) w)
  | 0, t, tp, tc, rp, rc, p, c, w, hm, hT, hn => by rw [t.nodes_eq] at hm; omega
  | m + 1, t, tp, tc, rp, rc, p, c, w, hm, hT, hn => by
    have HT := Lib.hid hT
    have HX0 := Lib.hid (Bx9.new w t tp tc rp rc p c 29)
    have HB0 := Lib.hid (al_below w (.cells (tmC t tp tc rp rc p c) 29))
    have hne := t.nodes_eq
    have hwe := t.wt_eq
    have hlen := wtS_ge t.args
    have hnw := nodesM_wt t.args
    have HM := Lib.hid hm
    have HNE := Lib.hid hne
    have hwa : wtS t.args ≤ 2097152 := by omega
    clear hT hne hwe hm
    go_enter Tryz.func27, Tryz.ntmps27
    go_wp2_with fail
    go_loopw [3, 4] (fun n i wr => ∃ (k : Nat), k ≤ t.args.length ∧ i = .int .i64 k ∧ n = .int .i64 ((depthM (t.args.take k) : Nat) : Int) ∧ Below (w.alloc (.cells (tmC t tp tc rp rc p c) 29)).heap.size (w.alloc (.cells (tmC t tp tc rp rc p c) 29)) wr) (fun _ i _ => t.args.length - (intOf i).toNat)
    case atStart => exact ⟨0, Nat.zero_le _, rfl, by simp [depthM], Below.refl _ _⟩
    case round =>
      obtain ⟨k, hk, rfl, rfl, hbr⟩ := hrel
      have HBR := Lib.hid hbr
      have HB := Lib.hid (HB0.out.trans (hbr.mono HB0.out.size))
      obtain ⟨_, _, _, _, _, _, _, _, d8⟩ := HX0.out.keep hbr
      clear hbr
      by_cases hlk : k < t.args.length
      · obtain ⟨b, o, tp2, tc2, rp2, rc2, p2, c2, rfl, hC, hb, h9, hP⟩ := tm_part HT.out.args k hlk
        obtain ⟨g0, g1, g2, g3, g4, g5, g6, g7, g8⟩ := h9 wr (.of_below HB.out)
        have n1 := nodesM_take t.args k hlk
        have n2 := nodesM_take_le t.args (k + 1)
        have n4 := nodesM_at t.args k hlk
        have n5 := wtS_at t.args k hlk
        have hmk : t.args[k].nodes ≤ m := by have := HM.out; have := HNE.out; omega
        have hi0 : (0 : Int) ≤ (k : Int) := Int.natCast_nonneg _
        have hi1 : (k : Int) < (t.args.length : Int) := by omega
        have m2 := depthM_take t.args k hlk
        have m3 := depthM_nodes (t.args.take k)
        have m4 := t.args[k].depth_nodes
        have b1 : depthM (t.args.take k) ≤ 2097152 := by omega
        have b2 : t.args[k].depth ≤ 2097153 := by omega
        have HM2 := Lib.hid m2
        clear m2 m3 m4
        have HC := Lib.hid (depthM_any m wr hmk (hP.stays (.of_below HB.out)) (by omega))
        have HN1 := Lib.hid n1
        have HN2 := Lib.hid n2
        clear hC hb h9 hP n1 n2 n4 n5 hmk
        go_wp2_with fail
        refine HC.out.mono ?_
        rintro e w1 ⟨r, hr, rfl, hb1⟩
        have HB1 := Lib.hid (HBR.out.trans (hb1.mono HBR.out.size))
        clear hb1
        subst hr
        go_wp2_with fail
        refine (max_any _ _ _).mono ?_
        rintro e w2 ⟨rfl, rfl⟩
        go_wp2_with fail
        go_roundw
        case rel => exact ⟨k + 1, by omega, by go_num, by have h1 := HM2.out; rw [h1]; go_num, HB1.out⟩
        case measure => simp [intOf]; omega
      · obtain rfl : k = t.args.length := by omega
        rw [List.take_length]
        have b3 := depthM_nodes t.args
        have HDE := Lib.hid t.depth_eq
        go_wp2_with fail
        go_ret
        exact ⟨_, by rw [HDE.out]; go_num, rfl, box_rest HBR.out⟩


set_option maxRecDepth 100000 in
set_option maxHeartbeats 1000000 in
theorem leftM_any {C : Nat → Prop} : ∀ (m : Nat) {t : Tm} {tp : Option Addr} {tc : Nat} {rp : Option Addr} {rc : Nat} {p : Option Addr} {c : Nat} (w : World) (left : Int), t.nodes ≤ m → TM' w C t tp tc rp rc p c → t.wt ≤ 2097152 → 0 ≤ left → left ≤ 2097152 → Calls Tryz.prog 26 #[tmV t tp tc rp rc p c, .int .i64 left] w (IntRet (LeftEnds left t.nodes) w)
  | 0, t, tp, tc, rp, rc, p, c, w, left, hm, hT, hn, h0, hL => by rw [t.nodes_eq] at hm; omega
  | m + 1, t, tp, tc, rp, rc, p, c, w, left, hm, hT, hn, h0, hL => by
    have HT := Lib.hid hT
    have HX0 := Lib.hid (Bx9.new w t tp tc rp rc p c 29)
    have HB0 := Lib.hid (al_below w (.cells (tmC t tp tc rp rc p c) 29))
    have hne := t.nodes_eq
    have hwe := t.wt_eq
    have hlen := wtS_ge t.args
    have hnw := nodesM_wt t.args
    have HM := Lib.hid hm
    have HNE := Lib.hid hne
    have hwa : wtS t.args ≤ 2097152 := by omega
    clear hT hne hwe hm
    go_enter Tryz.func26, Tryz.ntmps26
    go_wp2_with fail
    go_loopw [1, 5] (fun l i wr => ∃ (k : Nat) (L : Int), k ≤ t.args.length ∧ i = .int .i64 k ∧ l = .int .i64 L ∧ LeftEnds (left - 1) (nodesM (t.args.take k)) L ∧ Below (w.alloc (.cells (tmC t tp tc rp rc p c) 29)).heap.size (w.alloc (.cells (tmC t tp tc rp rc p c) 29)) wr) (fun _ i _ => t.args.length - (intOf i).toNat)
    case atStart => exact ⟨0, _, Nat.zero_le _, rfl, rfl, leftEnds_start h0, Below.refl _ _⟩
    case round =>
      obtain ⟨k, L, hk, rfl, rfl, hle, hbr⟩ := hrel
      have HBR := Lib.hid hbr
      have HB := Lib.hid (HB0.out.trans (hbr.mono HB0.out.size))
      obtain ⟨_, _, _, _, _, _, _, _, d8⟩ := HX0.out.keep hbr
      clear hbr
      by_cases hlk : k < t.args.length
      · obtain ⟨b, o, tp2, tc2, rp2, rc2, p2, c2, rfl, hC, hb, h9, hP⟩ := tm_part HT.out.args k hlk
        obtain ⟨g0, g1, g2, g3, g4, g5, g6, g7, g8⟩ := h9 wr (.of_below HB.out)
        have n1 := nodesM_take t.args k hlk
        have n2 := nodesM_take_le t.args (k + 1)
        have n4 := nodesM_at t.args k hlk
        have n5 := wtS_at t.args k hlk
        have hmk : t.args[k].nodes ≤ m := by have := HM.out; have := HNE.out; omega
        have hi0 : (0 : Int) ≤ (k : Int) := Int.natCast_nonneg _
        have hi1 : (k : Int) < (t.args.length : Int) := by omega
        have HLE := Lib.hid hle
        have hLr := hle.range (by omega)
        clear hle
        by_cases hneg : L < 0
        · clear hC hb h9 hP n1 n4 n5 hmk
          go_wp2_with fail
          go_ret
          exact ⟨_, by rw [HNE.out]; exact leftM_stop HLE.out hneg (nodesM_take_le t.args k), rfl, box_rest HBR.out⟩
        have HC := Lib.hid (leftM_any m wr L hmk (hP.stays (.of_below HB.out)) (by omega) (by omega) (by omega))
        have HN1 := Lib.hid n1
        have HN2 := Lib.hid n2
        clear hC hb h9 hP n1 n2 n4 n5 hmk
        go_wp2_with fail
        refine HC.out.mono ?_
        rintro e w1 ⟨r, hr, rfl, hb1⟩
        have HB1 := Lib.hid (HBR.out.trans (hb1.mono HBR.out.size))
        clear hb1
        have hr2 := hr.range (by omega)
        have HR := Lib.hid hr
        clear hr
        go_wp2_with fail
        go_roundw
        case rel => exact ⟨k + 1, r, by omega, by go_num, rfl, by rw [HN1.out]; exact HLE.out.next HR.out (by omega), HB1.out⟩
        case measure => simp [intOf]; omega
      · obtain rfl : k = t.args.length := by omega
        rw [List.take_length] at hle
        have HLE := Lib.hid hle
        have hLr := hle.range (by omega)
        clear hle
        go_wp2_with fail
        go_ret
        exact ⟨_, by rw [HNE.out]; exact HLE.out.full, rfl, box_rest HBR.out⟩

end Go.Proofs.YtjobmgbchpoheaaGreatDoor
namespace Go.Proofs.YtjobmgbchpoheaaGreatDoor
open Go Go.RowKit

theorem tmod_cases (n : Int) : n.tmod 10007 = n % 10007 ∧ 0 ≤ n ∨ n.tmod 10007 = -((-n) % 10007) ∧ n < 0 := by
  by_cases h : 0 ≤ n
  · exact Or.inl ⟨Int.tmod_eq_emod_of_nonneg h, h⟩
  · refine Or.inr ⟨?_, by omega⟩
    have e : n = -(-n) := by omega
    rw [e, Int.neg_tmod, Int.tmod_eq_emod_of_nonneg (by omega)]
    simp
theorem red_I (n : Int) : (wrap64 (n.tmod 10007 + 10007)).tmod 10007 = n % 10007 := by
  have hw : wrap64 (n.tmod 10007 + 10007) = n.tmod 10007 + 10007 := by
    rcases tmod_cases n with ⟨h, _⟩ | ⟨h, _⟩ <;> · rw [h]; unfold wrap64; omega
  rw [hw, Int.tmod_eq_emod_of_nonneg (by rcases tmod_cases n with ⟨h, _⟩ | ⟨h, _⟩ <;> omega)]
  rcases tmod_cases n with ⟨h, _⟩ | ⟨h, _⟩ <;> omega
theorem ret_int {a b : Int} (h : a = b) : Ending.returned (.int .i64 a) = Ending.returned (.int .i64 b) := by rw [h]

set_option maxHeartbeats 400000 in
theorem redI_any (n : Int) (w : World) :
    Calls Tryz.prog 91 #[.int .i64 n] w fun e w' => e = .returned (.int .i64 (n % 10007)) ∧ w' = w := by
  go_enter Tryz.func91, Tryz.ntmps91
  go_wp2
  go_ret
  exact ⟨ret_int (red_I n), rfl⟩

end Go.Proofs.YtjobmgbchpoheaaGreatDoor
namespace Go.Proofs.YtjobmgbchpoheaaGreatDoor
open Go Go.RowKit

def bit (x : Bool) : Int := if x then 1 else 0
def apOp (op : ByteArray) (a b : Int) : Int × Bool :=
  if op.toList == [43] then ((a + b) % 10007, true)
  else if op.toList == [45] then ((a - b) % 10007, true)
  else if op.toList == [42] then ((a * b) % 10007, true)
  else if op.toList == [61] then (bit (a == b), true)
  else if op.toList == [60] then (bit (decide (a < b)), true)
  else if op.toList == [38] then (bit (a == 1 && b == 1), true)
  else if op.toList == [124] then (bit (a == 1 || b == 1), true)
  else if op.toList == [33] then (bit (a == 0), true)
  else (0, false)
def ap (op : ByteArray) (a b : Int) : Int × Bool := if 0 ≤ a ∧ a < 10007 ∧ 0 ≤ b ∧ b < 10007 then apOp op a b else (0, false)
def pairOf (p : Int × Bool) : Value := .tuple #[.int .i64 p.1, .bool p.2]

theorem in_any (n lo hi : Int) (w : World) : Calls Tryz.prog 106 #[.int .i64 n, .int .i64 lo, .int .i64 hi] w fun e w' => e = .returned (.bool (decide (lo ≤ n ∧ n ≤ hi))) ∧ w' = w := by
  obtain ⟨r, hr⟩ : ∃ r, r = decide (lo ≤ n ∧ n ≤ hi) := ⟨_, rfl⟩
  rw [← hr]
  by_cases h : lo ≤ n
  · have e : decide (n ≤ hi) = r := by rw [hr]; simp [h]
    have t : decide (lo ≤ n) = true := by simpa using h
    have E := Lib.hid e
    clear e hr
    go_enter Tryz.func106, Tryz.ntmps106
    go_wp2
    go_ret
    exact ⟨by rw [← E.out]; rfl, rfl⟩
  · have e : false = r := by rw [hr]; simp [h]
    have t : decide (lo ≤ n) = false := by simpa using h
    subst e
    clear hr
    go_enter Tryz.func106, Tryz.ntmps106
    go_wp2
    go_ret
    exact ⟨rfl, rfl⟩
def Num (a : Int) : Prop := 0 ≤ a ∧ a < 10007
end Go.Proofs.YtjobmgbchpoheaaGreatDoor
namespace Go.Proofs.YtjobmgbchpoheaaGreatDoor
open Go

theorem str_inj {a b : ByteArray} (h : a.toList = b.toList) : a = b := by
  rw [ByteArray.toList_eq, ByteArray.toList_eq] at h
  obtain ⟨⟨a⟩⟩ := a
  obtain ⟨⟨b⟩⟩ := b
  rw [show a = b from h]
theorem str_yes {a b : ByteArray} (h : a = b) : (a.toList == b.toList) = true := by rw [h]; simp
theorem str_no {a b : ByteArray} (h : ¬ a = b) : (a.toList == b.toList) = false := by
  rw [beq_eq_false_iff_ne]
  exact fun hc => h (str_inj hc)
end Go.Proofs.YtjobmgbchpoheaaGreatDoor
