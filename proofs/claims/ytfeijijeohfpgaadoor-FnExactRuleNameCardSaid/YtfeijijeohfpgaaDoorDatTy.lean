/-
  Types as data: the cells of each, flat; from the trees of types to data and back.
-/
import Derived.Test.YtfeijijeohfpgaaDoorDat2
namespace Go.Proofs.YtfeijijeohfpgaaDoor
open Go Go.RowKit

/-- Cells of structs, one behind the other. -/
theorem flat_at {α β : Type} (f : α → List β) (k : Nat) (hk : ∀ x, (f x).length = k) : ∀ (xs : List α) (j i : Nat), i < k → (xs.flatMap f)[j * k + i]? = (xs[j]?).bind fun x => (f x)[i]?
  | [], j, i, _ => by simp
  | x :: xs, 0, i, hi => by
    rw [Nat.zero_mul, Nat.zero_add, List.flatMap_cons, List.getElem?_append_left (by rw [hk]; exact hi)]; rfl
  | x :: xs, j + 1, i, hi => by
    have := flat_at f k hk xs j i hi
    rw [List.flatMap_cons, List.getElem?_append_right (by rw [hk, Nat.add_mul]; omega), hk, Nat.add_mul, Nat.one_mul, show j * k + k + i - k = j * k + i by omega, this]
    rfl
theorem flat_len {α β : Type} (f : α → List β) (k : Nat) (hk : ∀ x, (f x).length = k) (xs : List α) : (xs.flatMap f).length = xs.length * k := by
  induction xs with
  | nil => simp
  | cons x xs ih => rw [List.flatMap_cons, List.length_append, ih, hk, List.length_cons, Nat.add_mul]; omega

mutual
/-- The cells of a type; of types. -/
def Ty.ds : Ty → List D
  | .mk k ts => [.cell (.int .i64 k), .rows 32 2 ts.length (flatTy ts)]
def flatTy : List Ty → List D
  | [] => []
  | t :: ts => t.ds ++ flatTy ts
end
theorem Ty.ds_len (t : Ty) : t.ds.length = 2 := by cases t; rfl
theorem flatTy_eq (ts : List Ty) : flatTy ts = ts.flatMap Ty.ds := by
  induction ts with
  | nil => rfl
  | cons t ts ih => rw [flatTy, ih]; rfl
theorem flatTy_len (ts : List Ty) : (flatTy ts).length = ts.length * 2 := by rw [flatTy_eq, flat_len _ 2 Ty.ds_len]
theorem flatTy_at (ts : List Ty) (j : Nat) (h : j < ts.length) : (flatTy ts)[j * 2]? = some (.cell (.int .i64 ts[j].kind)) ∧ (flatTy ts)[j * 2 + 1]? = some (.rows 32 2 ts[j].args.length (flatTy ts[j].args)) := by
  have h0 := flat_at Ty.ds 2 Ty.ds_len ts j 0 (by omega)
  have h1 := flat_at Ty.ds 2 Ty.ds_len ts j 1 (by omega)
  rw [List.getElem?_eq_getElem h] at h0 h1
  rw [flatTy_eq]
  exact ⟨by rw [Nat.add_zero] at h0; rw [h0]; cases ts[j]; rfl, by rw [h1]; cases ts[j]; rfl⟩
theorem div2 {i n : Nat} (h : i < n * 2) : ∃ j, j < n ∧ (i = j * 2 ∨ i = j * 2 + 1) := ⟨i / 2, by omega, by omega⟩

/-- A slice of types as data. -/
abbrev tyD (ts : List Ty) : D := .rows 32 2 ts.length (flatTy ts)
theorem TS.dm {w : World} {C : Nat → Prop} {ts : List Ty} {v : Value} (h : TS w C ts v) : DM w C (tyD ts) v := by
  induction h with
  | nil a c => exact .nil _ _ a c
  | @cons ts b o c S h1 hc hm hC hb hk hs hr ih =>
    refine .rows (fun i => if i % 2 = 0 then .int .i64 ((ts[i / 2]?).map Ty.kind |>.getD 0) else S (i / 2)) h1 hc hm (flatTy_len ts) hC hb (fun i d hi => ?_) (fun i d hi => ?_)
    all_goals
      have hlt : i < ts.length * 2 := by rw [← flatTy_len]; exact (List.getElem?_eq_some_iff.1 hi).1
      obtain ⟨j, hj, e⟩ := div2 hlt
      have hx := List.getElem?_eq_getElem hj
      obtain ⟨f0, f1⟩ := flatTy_at ts j hj
    · rcases e with rfl | rfl
      · simp only [Nat.mul_mod_left, if_true, Nat.mul_div_cancel _ (by omega : 0 < 2), hx, Option.map_some, Option.getD_some]
        exact hk j _ hx
      · simp only [show (j * 2 + 1) % 2 = 1 by omega, show (j * 2 + 1) / 2 = j by omega, Nat.one_ne_zero, if_false]
        exact hs j _ hx
    · rcases e with rfl | rfl
      · simp only [Nat.mul_mod_left, if_true, Nat.mul_div_cancel _ (by omega : 0 < 2), hx, Option.map_some, Option.getD_some]
        rw [f0] at hi; cases hi
        exact .cell _
      · simp only [show (j * 2 + 1) % 2 = 1 by omega, show (j * 2 + 1) / 2 = j by omega, Nat.one_ne_zero, if_false]
        rw [f1] at hi; cases hi
        exact ih j _ hx
theorem DM.ts {w : World} {C : Nat → Prop} : ∀ (m : Nat) {ts : List Ty} {v : Value}, nodesS ts ≤ m → DM w C (tyD ts) v → TS w C ts v
  | m, [], v, _, h => by
    obtain ⟨a, c, rfl⟩ := h.form
    exact .nil a c
  | 0, t :: ts, v, hm, h => by simp only [nodesS, Ty.nodes_eq] at hm; omega
  | m + 1, t :: ts, v, hn, h => by
    have hne : (flatTy (t :: ts)).length = (t :: ts).length * 2 := flatTy_len _
    cases h with
    | @rows _ _ _ b o c _ V h1 hc hm hl hC hb hv hr =>
      refine .cons (fun j => V (j * 2 + 1)) h1 hc hm hC hb (fun j x hj => ?_) (fun j x hj => ?_) (fun j x hj => ?_)
      all_goals
        obtain ⟨hlt, rfl⟩ := List.getElem?_eq_some_iff.1 hj
        obtain ⟨f0, f1⟩ := flatTy_at (t :: ts) j hlt
      · have := (hr _ _ f0).val
        rw [hv _ _ f0, this]
      · exact hv _ _ f1
      · refine DM.ts m ?_ (hr _ _ f1)
        have := nodesS_at (t :: ts) j hlt
        omega
theorem OS.dO {w : World} {F : Nat → Prop} {ts : List Ty} {v : Value} (h : OS w ts v F) : DO w (tyD ts) v F := by
  induction h with
  | none F => exact .nil _ _ F
  | @row ts b c F K S G hrow hm hF hk hr hG hd ih =>
    obtain ⟨cur, hblk, hsz, hn, hat⟩ := hrow
    refine .rows cur (fun i => if i % 2 = 0 then .int .i64 (K (i / 2)) else S (i / 2)) (fun i z => i % 2 = 1 ∧ G (i / 2) z) hblk hsz hn hm (flatTy_len ts) hF (fun i hi => ?_) (fun i d hi => ?_) (fun i z hi hz => hG (i / 2) z (by omega) hz.2) (fun i j z hi hj hij h1 h2 => hd (i / 2) (j / 2) z (by omega) (by omega) (by omega) h1.2 h2.2)
    · obtain ⟨j, hj, e⟩ := div2 hi
      rcases e with rfl | rfl
      · simp only [Nat.mul_mod_left, if_true, Nat.mul_div_cancel _ (by omega : 0 < 2)]
        exact (hat j hj).1
      · simp only [show (j * 2 + 1) % 2 = 1 by omega, show (j * 2 + 1) / 2 = j by omega, Nat.one_ne_zero, if_false]
        exact (hat j hj).2
    · have hlt : i < ts.length * 2 := by rw [← flatTy_len]; exact (List.getElem?_eq_some_iff.1 hi).1
      obtain ⟨j, hj, e⟩ := div2 hlt
      have hx := List.getElem?_eq_getElem hj
      obtain ⟨f0, f1⟩ := flatTy_at ts j hj
      rcases e with rfl | rfl
      · rw [f0] at hi; cases hi
        simp only [Nat.mul_mod_left, if_true, Nat.mul_div_cancel _ (by omega : 0 < 2), hk j _ hx]
        exact .cell _ _
      · rw [f1] at hi; cases hi
        simp only [show (j * 2 + 1) % 2 = 1 by omega, show (j * 2 + 1) / 2 = j by omega, Nat.one_ne_zero, if_false]
        exact (ih j _ hx).mono (fun z hz => ⟨trivial, hz⟩)
theorem DO.os {w : World} : ∀ (m : Nat) {F : Nat → Prop} {ts : List Ty} {v : Value}, nodesS ts ≤ m → DO w (tyD ts) v F → OS w ts v F
  | m, F, ts, v, hn, h => by
    rcases h.inv with ⟨h0, _, rfl⟩ | ⟨b, c, cur, V, G, rfl, hblk, hsz, hnc, hm, hl, hF, hv, hr, hG, hd⟩
    · obtain rfl := List.eq_nil_of_length_eq_zero h0
      exact .none F
    · have hat : ∀ j, j < ts.length → cur[j * 2]? = some (.int .i64 ((ts[j]?).map Ty.kind |>.getD 0)) ∧ cur[j * 2 + 1]? = some (V (j * 2 + 1)) := fun j hj => by
        obtain ⟨f0, f1⟩ := flatTy_at ts j hj
        have h1 := hv (j * 2) (by omega)
        rw [(hr _ _ f0).val] at h1
        rw [List.getElem?_eq_getElem hj]
        exact ⟨h1, hv (j * 2 + 1) (by omega)⟩
      refine .row (fun j => (ts[j]?).map Ty.kind |>.getD 0) (fun j => V (j * 2 + 1)) (fun j => G (j * 2 + 1)) ⟨cur, hblk, hsz, hnc, hat⟩ hm hF (fun j x hj => by simp only [hj, Option.map_some, Option.getD_some]) (fun j x hj => ?_) (fun j z hj hz => hG _ z (by omega) hz) (fun i j z hi hj hij h1 h2 => hd _ _ z (by omega) (by omega) (by omega) h1 h2)
      obtain ⟨hlt, rfl⟩ := List.getElem?_eq_some_iff.1 hj
      have hle := nodesS_at ts j hlt
      match m, hn with
      | 0, hn => omega
      | m + 1, hn => exact DO.os m (by omega) (hr _ _ (flatTy_at ts j hlt).2)
end Go.Proofs.YtfeijijeohfpgaaDoor

