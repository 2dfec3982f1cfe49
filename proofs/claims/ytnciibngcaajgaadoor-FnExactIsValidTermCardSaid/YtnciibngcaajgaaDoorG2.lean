/-
  Several texts of the proof in one (each says below what it holds): RowN Dat Dat2 Tm TmSz.
-/
import Derived.Test.YtnciibngcaajgaaDoorG1
import Derived.OwnWalk
import Derived.Below
import Derived.Laws.AppendOwn
import Derived.Laws.OwnMore
import Derived.ArgAppend
import Derived.OwnWalkIn
import Derived.Deep.RegionLaw
import Derived.Test.YtnciibngcaajgaaDoorProg
/- RowN: A row of the call's own, of whatever element: shrunk, appended to (where it lies afterwards is told), kept. Of no program. -/
namespace Go.Proofs.YtnciibngcaajgaaDoor
open Go Go.RowKit

section
variable {w w' : World} {base size n : Nat} {e : TypeId} {v : Value} {xs : List Value}

theorem row_below (h : w.ownsRow base e size v n xs) (hb : Below w.heap.size w w') : w'.ownsRow base e size v n xs := by
  refine ⟨h.1, ?_⟩
  rcases h.2 with h0 | ⟨g, cap, cur, rfl, hg, hblk, r⟩
  · exact Or.inl h0
  · exact Or.inr ⟨g, cap, cur, rfl, hg, (hb.block g (h.lt g rfl).2).trans hblk, r⟩
theorem row_of_block {g cap : Nat} (h : w.ownsRow base e size (.slice (some ⟨g, 0, none⟩) n cap) n xs) (hb : w'.heap[g]? = w.heap[g]?) : w'.ownsRow base e size (.slice (some ⟨g, 0, none⟩) n cap) n xs := by
  refine ⟨h.1, ?_⟩
  rcases h.2 with h0 | ⟨g', cap', cur, hv, hg, hblk, r⟩
  · exact Or.inl h0
  · simp only [Value.slice.injEq, Option.some.injEq, Addr.mk.injEq, true_and, and_true] at hv
    obtain ⟨rfl, rfl⟩ := hv
    exact Or.inr ⟨g, cap, cur, rfl, hg, hb.trans hblk, r⟩
theorem row_cap {g cap : Nat} (h : w.ownsRow base e size (.slice (some ⟨g, 0, none⟩) n cap) n xs) : n ≤ cap ∧ cap ≤ maxLen ∧ base ≤ g ∧ g < w.heap.size := by
  have hl := h.lt g rfl
  rcases h.2 with h0 | ⟨g', cap', cur, hv, hg, hblk, h1, h2, _⟩
  · exact absurd h0.1 (by simp)
  · simp only [Value.slice.injEq, Option.some.injEq, Addr.mk.injEq, true_and, and_true] at hv
    obtain ⟨rfl, rfl⟩ := hv
    exact ⟨h1, h2, hg, hl.2⟩
theorem row_take {g cap m : Nat} (h : w.ownsRow base e size (.slice (some ⟨g, 0, none⟩) n cap) n xs) (hm : m ≤ n) : w.ownsRow base e size (.slice (some ⟨g, 0, none⟩) m cap) m (xs.take (m * size)) := by
  have hle : m * size ≤ n * size := Nat.mul_le_mul_right _ hm
  refine ⟨by rw [List.length_take, h.1]; omega, ?_⟩
  rcases h.2 with h0 | ⟨g', cap', cur, hv, hg, hblk, h1, h2, h3, h4⟩
  · exact absurd h0.1 (by simp)
  · simp only [Value.slice.injEq, Option.some.injEq, Addr.mk.injEq, true_and, and_true] at hv
    obtain ⟨rfl, rfl⟩ := hv
    exact Or.inr ⟨g, cap, cur, rfl, hg, hblk, Nat.le_trans hm h1, h2, h3, by rw [← h4, List.take_take, Nat.min_eq_left hle]⟩
end

/-- An append: what it yields, and where the row lies afterwards: where it lay, or in a new block. -/
theorem run_app {P : Program} {w : World} (base : Nat) (t ty e : TypeId) (i : TypeInfo) (z : Value) (size bytes : Nat) (ht : P.underlying t = some (.slice e)) (hi : P.info? e = some i) (hz : i.zero = some z)
    (hsize : i.size = size) (hby : i.bytes = bytes) (hzs : z.cells.size = size) (hsz : 0 < size)
    (v : Value) (n : Nat) (xs : List Value) (hown : w.ownsRow base e size v n xs)
    (a : Addr) (m c : Nat) (news : List Value) (hl : news.length = m * size) (hnews : ∀ j u, news[j]? = some u → w.cell? (a.add j) = some u) (h1 : ∀ u ∈ news, u.oneCell' = true)
    (h63 : n + m ≤ maxLen) (hbytes : (n + m) * bytes ≤ 140737488355328) (hbase : base ≤ w.heap.size) :
    ∃ v' w', (Builtin.append_ #[t, t] ty #[v, .slice (some a) m c]).run P w = .ok v' w' ∧ w'.ownsRow base e size v' (n + m) (xs ++ news) ∧ w.grownBy w' v.ownBlock ∧
      ∀ g, v'.ownBlock = some g → v.ownBlock = some g ∨ w.heap.size ≤ g := by
  rcases hown.2 with ⟨rfl, rfl⟩ | ⟨g, cap, cur, rfl, hbg, hg, hnc, hcm, hcs, htake⟩
  · have hx : xs = [] := List.eq_nil_of_length_eq_zero (by simpa using hown.1)
    subst hx
    obtain ⟨v', w', hr, ho, hgr, _⟩ := run_append_own (P := P) w w.heap.size t ty e i z size bytes ht hi hz hsize hby hzs hsz _ 0 [] (World.ownsRow_nil w _ e size) a m c news hl hnews h1 h63 hbytes (Nat.le_refl _)
    exact ⟨v', w', hr, ⟨ho.1, ho.2.elim Or.inl (fun ⟨g, cap, cur, hv, hb, r⟩ => Or.inr ⟨g, cap, cur, hv, Nat.le_trans hbase hb, r⟩)⟩, hgr, fun g hg => Or.inr (ho.lt g hg).1⟩
  · by_cases hroom : n + m ≤ cap
    · obtain ⟨w', hr, ho, hgr⟩ := run_append_fits (P := P) w base t ty e i size ht hi hsize g n cap xs hown a m c news hl hnews h1 hroom
      exact ⟨_, w', hr, ho, hgr, fun k hk => Or.inl hk⟩
    · have holds : ∀ j u, xs[j]? = some u → w.cell? ((⟨g, 0, none⟩ : Addr).add j) = some u := hown.cells (g := g) rfl
      obtain ⟨v', w', hr, ho, hgr⟩ := run_append_arg_grows (P := P) w t ty e i z size bytes ht hi hz hsize hby hzs hsz ⟨g, 0, none⟩ n cap xs hown.1 holds a m c news hl hnews (by omega) h63 hbytes
      exact ⟨v', w', hr, ⟨ho.1, ho.2.elim Or.inl (fun ⟨g, cap, cur, hv, hb, r⟩ => Or.inr ⟨g, cap, cur, hv, Nat.le_trans hbase hb, r⟩)⟩, ⟨hgr.os, hgr.tape, hgr.output, hgr.size, fun k hk _ => hgr.block k hk (by simp)⟩, fun k hk => Or.inr (ho.lt k hk).1⟩

/-- One element behind: v' is the row afterwards; every block that was there and is not the row's stays as it was, and the row is none of them. -/
structure Appd (w0 w' : World) (base : Nat) (e : TypeId) (size : Nat) (v : Value) (n : Nat) (xs cs : List Value) (g cap : Nat) : Prop where
  own : w'.ownsRow base e size (.slice (some ⟨g, 0, none⟩) (n + 1) cap) (n + 1) (xs ++ cs)
  below : Below base w0 w'
  size : w0.heap.size ≤ w'.heap.size
  kept : ∀ b, b < w0.heap.size → v.ownBlock ≠ some b → w'.heap[b]? = w0.heap[b]? ∧ g ≠ b

section
variable {P : Program} {w0 : World} {base : Nat} {t e : TypeId} {i : TypeInfo} {z : Value} {size bytes : Nat} {v : Value} {n : Nat} {xs cs : List Value}

theorem run_app1 (ty : TypeId) (ht : P.underlying t = some (.slice e)) (hi : P.info? e = some i) (hz : i.zero = some z) (hsize : i.size = size) (hby : i.bytes = bytes) (hzs : z.cells.size = size) (hsz : 0 < size)
    (hown : w0.ownsRow base e size v n xs) (hl : cs.length = size) (h1 : ∀ u ∈ cs, u.oneCell' = true) (h63 : n + 1 ≤ maxLen) (hbytes : (n + 1) * bytes ≤ 140737488355328) (hbase : base ≤ w0.heap.size) :
    ∃ w' g cap, (Builtin.append_ #[t, t] ty #[v, .slice (some ⟨w0.heap.size, 0, none⟩) 1 1]).run P (w0.alloc (.cells cs.toArray e)) = .ok (.slice (some ⟨g, 0, none⟩) (n + 1) cap) w' ∧ Appd w0 w' base e size v n xs cs g cap := by
  have hb0 := (Below.refl w0.heap.size w0).alloc (Nat.le_refl _) (.cells cs.toArray e)
  have hown1 := row_below hown hb0
  have hnews : ∀ j u, cs[j]? = some u → (w0.alloc (.cells cs.toArray e)).cell? ((⟨w0.heap.size, 0, none⟩ : Addr).add j) = some u := by
    intro j u hj
    have e1 : ((⟨w0.heap.size, 0, none⟩ : Addr).add j) = ⟨w0.heap.size, j, none⟩ := by unfold Addr.add; split <;> simp_all
    rw [e1, World.cell?_alloc_mark]
    simpa using hj
  obtain ⟨v', w', hr, ho, hg, hwhere⟩ := run_app (P := P) base t ty e i z size bytes ht hi hz hsize hby hzs hsz v n xs hown1 ⟨w0.heap.size, 0, none⟩ 1 1 cs (by omega) hnews h1 h63 hbytes (by simp; omega)
  have hs1 := hg.size
  rw [World.size_alloc] at hs1
  rcases ho.2 with ⟨_, h0⟩ | ⟨g, cap, cur, rfl, hbg, _⟩
  · omega
  · refine ⟨w', g, cap, hr, ho, (((Below.refl base w0).alloc hbase _).grown hg (by simp; omega) (fun k hk => (hown1.lt k hk).1)), by omega, fun b hb hne => ⟨?_, ?_⟩⟩
    · rw [hg.block b (by simp; omega) (fun e => hne e.symm), Below.heap_alloc _ _ _ hb]
    · rintro rfl
      rcases hwhere g rfl with h | h
      · exact hne h
      · simp at h; omega

/-- .. at the operation. -/
theorem wpList_app1 {ops : Array Oper} {rest : List Oper} {o : Oper} {a : Act} {Q : Exit → Act → World → Prop} (hgd : o.guard = none) (s x : Operand)
    (ho : o.op = .call { callee := .builtin .append, args := #[s, x], argTypes := #[t, t] }) (ht : P.underlying t = some (.slice e)) (hi : P.info? e = some i) (hz : i.zero = some z) (hsize : i.size = size) (hby : i.bytes = bytes) (hzs : z.cells.size = size) (hsz : 0 < size)
    (hs : a.eval s = v) (hown : w0.ownsRow base e size v n xs) (bk : Nat) (hx : a.eval x = .slice (some ⟨bk, 0, none⟩) 1 1) (hbk : bk = w0.heap.size) (hl : cs.length = size) (h1 : ∀ u ∈ cs, u.oneCell' = true) (h63 : n + 1 ≤ maxLen) (hbytes : (n + 1) * bytes ≤ 140737488355328) (hbase : base ≤ w0.heap.size)
    (h : ∀ w' g cap, Appd w0 w' base e size v n xs cs g cap → wpList P ops Q rest (a.put o.dst (.slice (some ⟨g, 0, none⟩) (n + 1) cap)) w') :
    wpList P ops Q (o :: rest) a (w0.alloc (.cells cs.toArray e)) := by
  subst hbk
  refine wpList_plain hgd fun K hK => ?_
  obtain ⟨w', g, cap, hrun, hA⟩ := run_app1 (P := P) o.type ht hi hz hsize hby hzs hsz hown hl h1 h63 hbytes hbase
  unfold Oper.wp
  simp [execOp, ho, resolve, invoke, builtin, hs, hx, hrun, Result.andThen]
  exact hK _ _ (h w' g cap hA)
theorem wpListIn_app1 {F : Fence} {m : Nat} {ops : Array Oper} {rest : List Oper} {o : Oper} {a : Act} {Q : Exit → Act → World → Prop} (hgd : o.guard = none) (s x : Operand)
    (ho : o.op = .call { callee := .builtin .append, args := #[s, x], argTypes := #[t, t] }) (ht : P.underlying t = some (.slice e)) (hi : P.info? e = some i) (hz : i.zero = some z) (hsize : i.size = size) (hby : i.bytes = bytes) (hzs : z.cells.size = size) (hsz : 0 < size)
    (hs : a.eval s = v) (hown : w0.ownsRow base e size v n xs) (bk : Nat) (hx : a.eval x = .slice (some ⟨bk, 0, none⟩) 1 1) (hbk : bk = w0.heap.size) (hl : cs.length = size) (h1 : ∀ u ∈ cs, u.oneCell' = true) (h63 : n + 1 ≤ maxLen) (hbytes : (n + 1) * bytes ≤ 140737488355328) (hbase : base ≤ w0.heap.size)
    (h : ∀ w' g cap, Appd w0 w' base e size v n xs cs g cap → wpListIn F m P ops Q rest (a.put o.dst (.slice (some ⟨g, 0, none⟩) (n + 1) cap)) w') :
    wpListIn F m P ops Q (o :: rest) a (w0.alloc (.cells cs.toArray e)) := by
  subst hbk
  refine wpListIn_plain hgd fun K hK => ?_
  obtain ⟨w', g, cap, hrun, hA⟩ := run_app1 (P := P) o.type ht hi hz hsize hby hzs hsz hown hl h1 h63 hbytes hbase
  unfold Oper.wpIn
  refine ⟨by simp [Oper.about, ho, resolve, Target.leads, Sem.run_pure], ?_⟩
  rw [Oper.semAt_plain F _ _ (by rw [ho]; intro c hc'; cases hc')]
  simp [execOp, ho, resolve, invoke, builtin, hs, hx, hrun, Result.andThen]
  exact hK _ _ (h w' g cap hA)
/-- .. as a step of a region that draws its order. -/
theorem step_app1 {ops : Array Oper} {o : Oper} {a : Act} {K : Act → World → Prop} {Q : Exit → Act → World → Prop} {E : Prop} (hgd : o.guard = none) (s x : Operand)
    (ho : o.op = .call { callee := .builtin .append, args := #[s, x], argTypes := #[t, t] }) (ht : P.underlying t = some (.slice e)) (hi : P.info? e = some i) (hz : i.zero = some z) (hsize : i.size = size) (hby : i.bytes = bytes) (hzs : z.cells.size = size) (hsz : 0 < size)
    (hs : a.eval s = v) (hown : w0.ownsRow base e size v n xs) (bk : Nat) (hx : a.eval x = .slice (some ⟨bk, 0, none⟩) 1 1) (hbk : bk = w0.heap.size) (hl : cs.length = size) (h1 : ∀ u ∈ cs, u.oneCell' = true) (h63 : n + 1 ≤ maxLen) (hbytes : (n + 1) * bytes ≤ 140737488355328) (hbase : base ≤ w0.heap.size)
    (h : ∀ w' g cap, Appd w0 w' base e size v n xs cs g cap → K (a.put o.dst (.slice (some ⟨g, 0, none⟩) (n + 1) cap)) w') :
    if Region.wanted o (yielded ops a.tmps) = true then Oper.wp P o a (w0.alloc (.cells cs.toArray e)) K Q else E := by
  subst hbk
  have hw : Region.wanted o (yielded ops a.tmps) = true := by simp [Region.wanted, hgd]
  rw [if_pos hw]
  obtain ⟨w', g, cap, hrun, hA⟩ := run_app1 (P := P) o.type ht hi hz hsize hby hzs hsz hown hl h1 h63 hbytes hbase
  unfold Oper.wp
  simp [execOp, ho, resolve, invoke, builtin, hs, hx, hrun, Result.andThen]
  exact h w' g cap hA
end
end Go.Proofs.YtnciibngcaajgaaDoor
/- Dat: Data in memory, of no program: a cell, or a slice of structs whose cells lie flat; what a slice holds, that it holds it in every world that keeps its blocks; memory of the call's own, each block apart; one struct more; a row that is filled. -/
namespace Go.Proofs.YtnciibngcaajgaaDoor
open Go Go.RowKit

/-- A cell, or a slice of n structs of k cells each, of the type T; the cells of all n stand one behind the other. -/
inductive D where
  | cell (u : Value)
  | rows (T : TypeId) (k n : Nat) (ds : List D)

/-- The value v is the datum; C: the blocks it may lie in. -/
inductive DM (w : World) (C : Nat → Prop) : D → Value → Prop
  | cell (u : Value) : DM w C (.cell u) u
  | nil (T : TypeId) (k : Nat) (a : Option Addr) (c : Nat) : DM w C (.rows T k 0 []) (.slice a 0 c)
  | rows {T : TypeId} {k n b o c : Nat} {ds : List D} (V : Nat → Value) (h1 : 1 ≤ n) (hc : n ≤ c) (hm : c ≤ 9223372036854775807) (hl : ds.length = n * k) (hC : C b) (hb : b < w.heap.size)
      (hv : ∀ i d, ds[i]? = some d → w.cell? ⟨b, o + i, none⟩ = some (V i)) (hr : ∀ i d, ds[i]? = some d → DM w C d (V i)) : DM w C (.rows T k n ds) (.slice (some ⟨b, o, none⟩) n c)

theorem DM.stays {w w' : World} {C : Nat → Prop} {d : D} {v : Value} (h : DM w C d v) (hs : Stays C w w') : DM w' C d v := by
  induction h with
  | cell u => exact .cell u
  | nil T k a c => exact .nil T k a c
  | rows V h1 hc hm hl hC hb hv hr ih =>
    exact .rows V h1 hc hm hl hC (Nat.lt_of_lt_of_le hb hs.1) (fun i d hi => by rw [World.cell?_of_block (w := _) (hs.2 _ hC hb)]; exact hv i d hi) ih
theorem DM.keep {w w' : World} {C : Nat → Prop} {d : D} {v : Value} (h : DM w C d v) (hb : Below w.heap.size w w') : DM w' C d v := h.stays (.of_below hb)
theorem DM.mono {w : World} {C C' : Nat → Prop} {d : D} {v : Value} (h : DM w C d v) (hC' : ∀ b, C b → b < w.heap.size → C' b) : DM w C' d v := by
  induction h with
  | cell u => exact .cell u
  | nil T k a c => exact .nil T k a c
  | rows V h1 hc hm hl hC hb hv hr ih => exact .rows V h1 hc hm hl (hC' _ hC hb) hb hv ih
theorem DM.form {w : World} {C : Nat → Prop} {T : TypeId} {k n : Nat} {ds : List D} {v : Value} (h : DM w C (.rows T k n ds) v) : ∃ a c, v = .slice a n c := by
  cases h with
  | nil => exact ⟨_, _, rfl⟩
  | rows => exact ⟨_, _, rfl⟩
theorem DM.len {w : World} {C : Nat → Prop} {T : TypeId} {k n : Nat} {ds : List D} {v : Value} (h : DM w C (.rows T k n ds) v) : n ≤ 9223372036854775807 ∧ ds.length = n * k := by
  cases h with
  | nil => simp
  | rows V h1 hc hm hl => exact ⟨by omega, hl⟩
theorem DM.val {w : World} {C : Nat → Prop} {u v : Value} (h : DM w C (.cell u) v) : v = u := by
  cases h; rfl
/-- One cell of a slice of structs, where it lies: in every world that keeps the blocks. -/
theorem DM.part {w : World} {C : Nat → Prop} {T : TypeId} {k n c : Nat} {p : Option Addr} {ds : List D} (h : DM w C (.rows T k n ds) (.slice p n c)) (hn : 0 < ds.length) :
    ∃ (b o : Nat) (V : Nat → Value), p = some ⟨b, o, none⟩ ∧ C b ∧ b < w.heap.size ∧ (∀ i d, ds[i]? = some d → DM w C d (V i) ∧ ∀ w', Stays C w w' → w'.cell? ⟨b, o + i, none⟩ = some (V i)) := by
  cases h with
  | nil => simp at hn
  | @rows T k n b o c ds V h1 hc hm hl hC hb hv hr =>
    exact ⟨b, o, V, rfl, hC, hb, fun i d hi => ⟨hr i d hi, fun w' hw => (World.cell?_of_block (w := w) (a := ⟨b, o + i, none⟩) (hw.2 b hC hb)).trans (hv i d hi)⟩⟩

/-- The value v is the datum, in rows of the call's own; F: the blocks, which are apart. -/
inductive DO (w : World) : D → Value → (Nat → Prop) → Prop
  | cell (u : Value) (F : Nat → Prop) : DO w (.cell u) u F
  | nil (T : TypeId) (k : Nat) (F : Nat → Prop) : DO w (.rows T k 0 []) (.slice none 0 0) F
  | rows {T : TypeId} {k n b c : Nat} {ds : List D} {F : Nat → Prop} (cur : Array Value) (V : Nat → Value) (G : Nat → Nat → Prop) (hblk : w.heap[b]? = some (.cells cur T (0, 0))) (hsz : cur.size = c * k) (hn : n ≤ c) (hm : c ≤ maxLen)
      (hl : ds.length = n * k) (hF : F b) (hv : ∀ i, i < n * k → cur[i]? = some (V i)) (hr : ∀ i d, ds[i]? = some d → DO w d (V i) (G i))
      (hG : ∀ i z, i < n * k → G i z → F z ∧ z ≠ b) (hd : ∀ i j z, i < n * k → j < n * k → i ≠ j → G i z → G j z → False) : DO w (.rows T k n ds) (.slice (some ⟨b, 0, none⟩) n c) F

theorem blk_lt {w : World} {b : Nat} {o : Obj} (h : w.heap[b]? = some o) : b < w.heap.size := (Array.getElem?_eq_some_iff.1 h).1
theorem ds_lt {ds : List D} {i m : Nat} {d : D} (h : ds[i]? = some d) (hl : ds.length = m) : i < m := hl ▸ (List.getElem?_eq_some_iff.1 h).1

theorem DO.stays {w w' : World} {F : Nat → Prop} {d : D} {v : Value} (h : DO w d v F) : Stays F w w' → DO w' d v F := by
  induction h with
  | cell u F => intro _; exact .cell u F
  | nil T k F => intro _; exact .nil T k F
  | rows cur V G hblk hsz hn hm hl hF hv hr hG hd ih =>
    intro hs
    exact .rows cur V G ((hs.2 _ hF (blk_lt hblk)).trans hblk) hsz hn hm hl hF hv (fun i d hi => ih i d hi ⟨hs.1, fun b hb hlt => hs.2 b (hG i b (ds_lt hi hl) hb).1 hlt⟩) hG hd
theorem DO.keep {w w' : World} {F : Nat → Prop} {d : D} {v : Value} (h : DO w d v F) (hb : Below w.heap.size w w') : DO w' d v F := h.stays (.of_below hb)
theorem DO.mono {w : World} {F F' : Nat → Prop} {d : D} {v : Value} (h : DO w d v F) (hF' : ∀ b, F b → F' b) : DO w d v F' := by
  cases h with
  | cell => exact .cell _ F'
  | nil => exact .nil _ _ F'
  | rows cur V G hblk hsz hn hm hl hF hv hr hG hd => exact .rows cur V G hblk hsz hn hm hl (hF' _ hF) hv hr (fun i z hi hz => ⟨hF' _ (hG i z hi hz).1, (hG i z hi hz).2⟩) hd
theorem DO.inHeap {w : World} {F : Nat → Prop} {d : D} {v : Value} (h : DO w d v F) : DO w d v (fun z => F z ∧ z < w.heap.size) := by
  induction h with
  | cell u F => exact .cell u _
  | nil T k F => exact .nil T k _
  | rows cur V G hblk hsz hn hm hl hF hv hr hG hd ih =>
    exact .rows cur V (fun i z => G i z ∧ z < w.heap.size) hblk hsz hn hm hl ⟨hF, blk_lt hblk⟩ hv ih (fun i z hi hz => ⟨⟨(hG i z hi hz.1).1, hz.2⟩, (hG i z hi hz.1).2⟩) (fun i j z hi hj hij h1 h2 => hd i j z hi hj hij h1.1 h2.1)
theorem DO.dm {w : World} {F : Nat → Prop} {d : D} {v : Value} (h : DO w d v F) : DM w F d v := by
  induction h with
  | cell u F => exact .cell u
  | nil T k F => exact .nil T k _ _
  | @rows T k n b c ds F cur V G hblk hsz hn hm hl hF hv hr hG hd ih =>
    by_cases h0 : n = 0
    · subst h0
      have : ds = [] := List.eq_nil_of_length_eq_zero (by simpa using hl)
      subst this
      exact .nil _ _ _ _
    · refine .rows V (by omega) hn (by unfold maxLen at hm; omega) hl hF (blk_lt hblk) (fun i d hi => ?_) (fun i d hi => (ih i d hi).mono (fun z hz _ => (hG i z (ds_lt hi hl) hz).1))
      rw [Nat.zero_add]
      simp only [World.cell?, hblk]
      exact hv i (ds_lt hi hl)
theorem DO.form {w : World} {F : Nat → Prop} {T : TypeId} {k n : Nat} {ds : List D} {v : Value} (h : DO w (.rows T k n ds) v F) : ∃ a c, v = .slice a n c := h.dm.form

theorem DO.inv {w : World} {F : Nat → Prop} {T : TypeId} {k n : Nat} {ds : List D} {v : Value} (h : DO w (.rows T k n ds) v F) : (n = 0 ∧ ds = [] ∧ v = .slice none 0 0) ∨
    ∃ (b c : Nat) (cur : Array Value) (V : Nat → Value) (G : Nat → Nat → Prop), v = .slice (some ⟨b, 0, none⟩) n c ∧ w.heap[b]? = some (.cells cur T (0, 0)) ∧ cur.size = c * k ∧ n ≤ c ∧ c ≤ maxLen ∧ ds.length = n * k ∧ F b ∧ (∀ i, i < n * k → cur[i]? = some (V i)) ∧
      (∀ i d, ds[i]? = some d → DO w d (V i) (G i)) ∧ (∀ i z, i < n * k → G i z → F z ∧ z ≠ b) ∧ (∀ i j z, i < n * k → j < n * k → i ≠ j → G i z → G j z → False) := by
  cases h with
  | nil => exact Or.inl ⟨rfl, rfl, rfl⟩
  | rows cur V G hblk hsz hn hm hl hF hv hr hG hd => exact Or.inr ⟨_, _, cur, V, G, rfl, hblk, hsz, hn, hm, hl, hF, hv, hr, hG, hd⟩
theorem DO.val {w : World} {F : Nat → Prop} {u v : Value} (h : DO w (.cell u) v F) : v = u := by
  cases h; rfl

/-- A struct's cells, each a datum. -/
def MS (w : World) (C : Nat → Prop) (ds : List D) (vs : List Value) : Prop := vs.length = ds.length ∧ ∀ (i : Nat) (d : D) (v : Value), ds[i]? = some d → vs[i]? = some v → DM w C d v
structure OSt (w : World) (ds : List D) (vs : List Value) (F : Nat → Prop) : Prop where
  len : vs.length = ds.length
  G : ∃ G : Nat → Nat → Prop, (∀ (i : Nat) (d : D) (v : Value), ds[i]? = some d → vs[i]? = some v → DO w d v (G i)) ∧ (∀ i z, i < ds.length → G i z → F z) ∧ ∀ i j z, i < ds.length → j < ds.length → i ≠ j → G i z → G j z → False
theorem MS.stays {w w' : World} {C : Nat → Prop} {ds : List D} {vs : List Value} (h : MS w C ds vs) (hs : Stays C w w') : MS w' C ds vs := ⟨h.1, fun i d v hd hv => (h.2 i d v hd hv).stays hs⟩
theorem MS.keep {w w' : World} {C : Nat → Prop} {ds : List D} {vs : List Value} (h : MS w C ds vs) (hb : Below w.heap.size w w') : MS w' C ds vs := h.stays (.of_below hb)
theorem MS.mono {w : World} {C C' : Nat → Prop} {ds : List D} {vs : List Value} (h : MS w C ds vs) (hC' : ∀ b, C b → b < w.heap.size → C' b) : MS w C' ds vs := ⟨h.1, fun i d v hd hv => (h.2 i d v hd hv).mono hC'⟩
theorem OSt.stays {w w' : World} {F : Nat → Prop} {ds : List D} {vs : List Value} (h : OSt w ds vs F) (hs : Stays F w w') : OSt w' ds vs F := by
  obtain ⟨hl, G, h1, h2, h3⟩ := h
  exact ⟨hl, G, fun i d v hd hv => (h1 i d v hd hv).stays ⟨hs.1, fun b hb hlt => hs.2 b (h2 i b (List.getElem?_eq_some_iff.1 hd).1 hb) hlt⟩, h2, h3⟩
theorem OSt.keep {w w' : World} {F : Nat → Prop} {ds : List D} {vs : List Value} (h : OSt w ds vs F) (hb : Below w.heap.size w w') : OSt w' ds vs F := h.stays (.of_below hb)
theorem OSt.mono {w : World} {F F' : Nat → Prop} {ds : List D} {vs : List Value} (h : OSt w ds vs F) (hF : ∀ b, F b → F' b) : OSt w ds vs F' := by
  obtain ⟨hl, G, h1, h2, h3⟩ := h
  exact ⟨hl, G, h1, fun i z hi hz => hF z (h2 i z hi hz), h3⟩
theorem OSt.ms {w : World} {F : Nat → Prop} {ds : List D} {vs : List Value} (h : OSt w ds vs F) : MS w F ds vs := by
  obtain ⟨hl, G, h1, h2, h3⟩ := h
  exact ⟨hl, fun i d v hd hv => (h1 i d v hd hv).dm.mono (fun z hz _ => h2 i z (List.getElem?_eq_some_iff.1 hd).1 hz)⟩
end Go.Proofs.YtnciibngcaajgaaDoor
/- Dat2: Data in memory, of no program: one struct more behind a row of the call's own; a row that is filled struct by struct. -/
namespace Go.Proofs.YtnciibngcaajgaaDoor
open Go Go.RowKit

theorem mul_lt_next {i j k n : Nat} (h : j < n) (hi : i < k) : j * k + i < n * k := by
  have : (j + 1) * k ≤ n * k := Nat.mul_le_mul_right _ h
  rw [Nat.add_mul] at this
  omega

/-- ONE STRUCT MORE: afterwards all lies in blocks from base on, each apart. -/
theorem DO.grow {w : World} {base : Nat} {T : TypeId} {k n : Nat} {ds es : List D} {v : Value} {us : List Value} {F1 F2 : Nat → Prop} (h : DO w (.rows T k n ds) v F1) (hx : OSt w es us F2) (hk : es.length = k)
    (h1 : ∀ z, F1 z → base ≤ z ∧ ¬ F2 z) (h2 : ∀ z, F2 z → base ≤ z ∧ z < w.heap.size) :
    ∃ xs, w.ownsRow base T k v n xs ∧ ∀ (w' : World) (g cap : Nat), Appd w w' base T k v n xs us g cap →
      DO w' (.rows T k (n + 1) (ds ++ es)) (.slice (some ⟨g, 0, none⟩) (n + 1) cap) (fun z => base ≤ z ∧ z < w'.heap.size) := by
  obtain ⟨hul, G2, g1, g2, g3⟩ := hx
  have fin : ∀ (xs : List Value) (V : Nat → Value) (G : Nat → Nat → Prop) (hxs : xs.length = n * k) (hds : ds.length = n * k) (hV : ∀ i, i < n * k → xs[i]? = some (V i))
      (hD : ∀ i d, ds[i]? = some d → DO w d (V i) (fun z => G i z ∧ z < w.heap.size)) (hG : ∀ i z, i < n * k → G i z → F1 z ∧ v.ownBlock ≠ some z) (hd : ∀ i j z, i < n * k → j < n * k → i ≠ j → G i z → G j z → False)
      (hvb : ∀ z, F2 z → v.ownBlock ≠ some z) (w' : World) (g cap : Nat), Appd w w' base T k v n xs us g cap →
      DO w' (.rows T k (n + 1) (ds ++ es)) (.slice (some ⟨g, 0, none⟩) (n + 1) cap) (fun z => base ≤ z ∧ z < w'.heap.size) := by
    intro xs V G hxs hds hV hD hG hd hvb w' g cap hA
    have hs := hA.size
    obtain ⟨_, h0 | ⟨g', cap', cur', hv', hbg, hblk, hn', hm', hsz', htk⟩⟩ := hA.own
    · exact absurd h0.1 (by simp)
    simp only [Value.slice.injEq, Option.some.injEq, Addr.mk.injEq, true_and, and_true] at hv'
    obtain ⟨rfl, rfl⟩ := hv'
    have hlt := blk_lt hblk
    have hnk : (n + 1) * k = n * k + k := by rw [Nat.add_mul]; omega
    have hat : ∀ i, i < (n + 1) * k → cur'[i]? = (xs ++ us)[i]? := fun i hi => by
      rw [← htk, List.getElem?_take, if_pos hi, Array.getElem?_toList]
    have kept : ∀ z, z < w.heap.size → v.ownBlock ≠ some z → w'.heap[z]? = w.heap[z]? ∧ g ≠ z := hA.kept
    refine DO.rows cur' (fun i => if i < n * k then V i else (us[i - n * k]?).getD .nilIface) (fun i z => if i < n * k then G i z ∧ z < w.heap.size else G2 (i - n * k) z) hblk hsz' hn' hm' (by rw [List.length_append]; omega) ⟨hbg, hlt⟩ (fun i hi => ?_) (fun i d hi => ?_) (fun i z hi hz => ?_) (fun i j z hi hj hij hz1 hz2 => ?_)
    · rw [hat i hi]
      by_cases e : i < n * k
      · rw [List.getElem?_append_left (by omega), if_pos e]; exact hV i e
      · have hu : i - n * k < us.length := by omega
        rw [List.getElem?_append_right (by omega), hxs, if_neg e, List.getElem?_eq_getElem hu]; rfl
    · by_cases e : i < n * k
      · rw [List.getElem?_append_left (by omega)] at hi
        simp only [if_pos e]
        exact (hD i d hi).stays ⟨hs, fun z hz hl => (kept z hl (hG i z e hz.1).2).1⟩
      · rw [List.getElem?_append_right (by omega), hds] at hi
        simp only [if_neg e]
        have hlt2 := (List.getElem?_eq_some_iff.1 hi).1
        have hu : us[i - n * k]? = some ((us[i - n * k]?).getD .nilIface) := by rw [List.getElem?_eq_getElem (by omega)]; rfl
        exact (g1 _ d _ hi hu).stays ⟨hs, fun z hz hl => (kept z hl (hvb z (g2 _ z hlt2 hz))).1⟩
    · by_cases e : i < n * k
      · simp only [if_pos e] at hz
        obtain ⟨a1, a2⟩ := hG i z e hz.1
        exact ⟨⟨(h1 z a1).1, by omega⟩, fun e => (kept z hz.2 a2).2 e.symm⟩
      · simp only [if_neg e] at hz
        have hf := g2 _ z (by omega) hz
        obtain ⟨a1, a2⟩ := h2 z hf
        exact ⟨⟨a1, by omega⟩, fun e => (kept z a2 (hvb z hf)).2 e.symm⟩
    · by_cases ei : i < n * k
      · simp only [if_pos ei] at hz1
        by_cases ej : j < n * k
        · simp only [if_pos ej] at hz2
          exact hd i j z ei ej hij hz1.1 hz2.1
        · simp only [if_neg ej] at hz2
          exact (h1 z (hG i z ei hz1.1).1).2 (g2 _ z (by omega) hz2)
      · simp only [if_neg ei] at hz1
        by_cases ej : j < n * k
        · simp only [if_pos ej] at hz2
          exact (h1 z (hG j z ej hz2.1).1).2 (g2 _ z (by omega) hz1)
        · simp only [if_neg ej] at hz2
          exact g3 _ _ z (by omega) (by omega) (by omega) hz1 hz2
  cases h with
  | nil =>
    exact ⟨[], World.ownsRow_nil w base _ k, fin [] (fun _ => .nilIface) (fun _ _ => False) (by simp) (by simp) (fun i hi => by omega) (fun i d hi => by simp at hi) (fun i z hi => by omega) (fun i j z hi => by omega) (fun z _ => by simp [Value.ownBlock])⟩
  | @rows T k n b c ds F cur V G hblk hsz hn hm hl hF hv hr hG hd =>
    have hle : n * k ≤ c * k := Nat.mul_le_mul_right _ hn
    have hxl : (cur.toList.take (n * k)).length = n * k := by rw [List.length_take, Array.length_toList]; omega
    have ob : ∀ z, z ≠ b → (Value.slice (some ⟨b, 0, Option.none⟩) n c).ownBlock ≠ some z := fun z hz => by simp only [Value.ownBlock, ne_eq, Option.some.injEq]; omega
    refine ⟨cur.toList.take (n * k), ⟨hxl, Or.inr ⟨b, c, cur, rfl, (h1 b hF).1, hblk, hn, hm, hsz, rfl⟩⟩, fin _ V G hxl hl (fun i hi => by rw [List.getElem?_take, if_pos hi, Array.getElem?_toList]; exact hv i hi) (fun i d hi => (hr i d hi).inHeap) (fun i z hi hz => ⟨(hG i z hi hz).1, ob z (hG i z hi hz).2⟩) hd (fun z hz => ob z (fun e => (h1 b hF).2 (e ▸ hz)))⟩

/-- Cells stored one behind the other. -/
def setN (w : World) (b : Nat) : Nat → List Value → World
  | _, [] => w
  | o, v :: vs => setN (w.setCell ⟨b, o, none⟩ v) b (o + 1) vs
def setA (cur : Array Value) : Nat → List Value → Array Value
  | _, [] => cur
  | o, v :: vs => setA (cur.setIfInBounds o v) (o + 1) vs
theorem setA_size (vs : List Value) : ∀ (cur : Array Value) (o : Nat), (setA cur o vs).size = cur.size := by
  induction vs with
  | nil => intro _ _; rfl
  | cons v vs ih => intro cur o; rw [setA, ih]; simp
theorem setA_out (vs : List Value) : ∀ (cur : Array Value) (o i : Nat), (i < o ∨ o + vs.length ≤ i) → (setA cur o vs)[i]? = cur[i]? := by
  induction vs with
  | nil => intro _ _ _ _; rfl
  | cons v vs ih =>
    intro cur o i h
    simp only [List.length_cons] at h
    rw [setA, ih _ _ _ (by omega), Array.getElem?_setIfInBounds, if_neg (by omega)]
theorem setA_in (vs : List Value) : ∀ (cur : Array Value) (o i : Nat), i < vs.length → o + vs.length ≤ cur.size → (setA cur o vs)[o + i]? = vs[i]? := by
  induction vs with
  | nil => intro _ _ _ h; simp at h
  | cons v vs ih =>
    intro cur o i h hs
    simp only [List.length_cons] at h hs
    rw [setA]
    cases i with
    | zero =>
      rw [setA_out _ _ _ _ (by omega), Array.getElem?_setIfInBounds, if_pos (by omega), if_pos (by omega)]; rfl
    | succ i =>
      rw [show o + (i + 1) = o + 1 + i by omega, ih _ _ _ (by omega) (by simp; omega)]; rfl
theorem setN_block (vs : List Value) : ∀ (w : World) (b o : Nat) (cur : Array Value) (T : TypeId), w.heap[b]? = some (.cells cur T (0, 0)) → (setN w b o vs).heap[b]? = some (.cells (setA cur o vs) T (0, 0)) := by
  induction vs with
  | nil => intro w b o cur T h; exact h
  | cons v vs ih =>
    intro w b o cur T h
    exact ih _ b (o + 1) _ T (by simp [World.setCell, Array.getElem?_modify, h])
theorem setN_size (vs : List Value) : ∀ (w : World) (b o : Nat), (setN w b o vs).heap.size = w.heap.size := by
  induction vs with
  | nil => intro w b o; rfl
  | cons v vs ih => intro w b o; rw [setN, ih]; simp [World.setCell]
theorem setN_stays (vs : List Value) (F : Nat → Prop) : ∀ (w : World) (b o : Nat), ¬ F b → Stays F w (setN w b o vs) := by
  induction vs with
  | nil => intro w b o _; exact Stays.refl F w
  | cons v vs ih => intro w b o h; exact (setCell_stays w b o v F h).trans (ih _ b (o + 1) h)
theorem setN_below (vs : List Value) (B : Nat) : ∀ (w : World) (b o : Nat), B ≤ b → Below B w (setN w b o vs) := by
  induction vs with
  | nil => intro w b o _; exact Below.refl B w
  | cons v vs ih => intro w b o h; exact ((Below.refl B w).setCell (p := ⟨b, o, none⟩) h v).trans (ih _ b (o + 1) h)

/-- A row that is being filled, struct by struct: j of them are there. -/
def FilD (w : World) (b : Nat) (T : TypeId) (k n c : Nat) (ds : List D) (j : Nat) : Prop :=
  ∃ (cur : Array Value) (V : Nat → Value) (G : Nat → Nat → Prop), w.heap[b]? = some (.cells cur T (0, 0)) ∧ cur.size = c * k ∧ n ≤ c ∧ (∀ i, i < j * k → cur[i]? = some (V i)) ∧ (∀ i d, i < j * k → ds[i]? = some d → DO w d (V i) (G i)) ∧
    (∀ i z, i < j * k → G i z → b < z ∧ z < w.heap.size) ∧ (∀ i i' z, i < j * k → i' < j * k → i ≠ i' → G i z → G i' z → False)
theorem FilD.lt {w : World} {b k n c j : Nat} {T : TypeId} {ds : List D} (h : FilD w b T k n c ds j) : b < w.heap.size := by
  obtain ⟨cur, V, G, hb, _⟩ := h
  exact blk_lt hb
theorem FilD.start {w : World} {base b n c k : Nat} {T : TypeId} {xs : List Value} {ds : List D} (h : w.ownsRow base T k (.slice (some ⟨b, 0, none⟩) n c) n xs) : FilD w b T k n c ds 0 := by
  obtain ⟨_, h0 | ⟨g, cap, cur, hv, hg, hblk, h1, h2, h3, h4⟩⟩ := h
  · exact absurd h0.1 (by simp)
  · simp only [Value.slice.injEq, Option.some.injEq, Addr.mk.injEq, true_and, and_true] at hv
    obtain ⟨rfl, rfl⟩ := hv
    exact ⟨cur, fun _ => .nilIface, fun _ _ => False, hblk, h3, h1, fun i hi => by simp at hi, fun i d hi => by simp at hi, fun i z hi => by simp at hi, fun i i' z hi => by simp at hi⟩
theorem FilD.frz {w w1 : World} {b k n c j : Nat} {T : TypeId} {ds : List D} (h : FilD w b T k n c ds j) (hb : Below w.heap.size w w1) (i : Nat) : w1.frozen? ⟨b, i, none⟩ = false := by
  have hl := h.lt
  obtain ⟨cur, V, G, hblk, _⟩ := h
  have := (hb.block b hl).trans hblk
  simp [World.frozen?, this]
/-- The j-th struct was made behind; it is stored. -/
theorem FilD.next {w w1 : World} {b k n c j : Nat} {T : TypeId} {ds es : List D} {us : List Value} (h : FilD w b T k n c ds j) (hb : Below w.heap.size w w1) (hj : j < n) (hk : es.length = k) (hes : ∀ i, i < k → ds[j * k + i]? = es[i]?)
    (ho : OSt w1 es us (fun g => w.heap.size ≤ g ∧ g < w1.heap.size)) :
    (∀ i, i < k → ∃ q, w1.cell? ⟨b, j * k + i, none⟩ = some q) ∧ FilD (setN w1 b (j * k) us) b T k n c ds (j + 1) := by
  have hlt := h.lt
  obtain ⟨cur, V, G, hblk, hsz, hn, hV, hD, hG, hd⟩ := h
  obtain ⟨hul, G2, g1, g2, g3⟩ := ho
  have hb1 := (hb.block b hlt).trans hblk
  have hin : ∀ i, i < k → j * k + i < c * k := fun i hi => mul_lt_next (by omega) hi
  have hnk : (j + 1) * k = j * k + k := by rw [Nat.add_mul]; omega
  have hfit : j * k + us.length ≤ cur.size := by
    rcases Nat.eq_zero_or_pos k with h0 | h0
    · have hu0 : us.length = 0 := by omega
      rw [hu0, h0]; simp
    · have := hin (k - 1) (by omega); omega
  have stay : ∀ F : Nat → Prop, ¬ F b → Stays F w1 (setN w1 b (j * k) us) := fun F hF => setN_stays us F w1 b (j * k) hF
  refine ⟨fun i hi => ?_, setA cur (j * k) us, fun i => if i < j * k then V i else (us[i - j * k]?).getD .nilIface, fun i z => if i < j * k then G i z else G2 (i - j * k) z, setN_block us w1 b (j * k) cur T hb1, by rw [setA_size, hsz], hn, fun i hi => ?_, fun i d hi hdi => ?_, fun i z hi hz => ?_, fun i i' z hi hi' hii h1 h2 => ?_⟩
  · have : j * k + i < cur.size := by have := hin i hi; omega
    refine ⟨cur[j * k + i], ?_⟩
    simp [World.cell?, hb1, Array.getElem?_eq_getElem this]
  · by_cases e : i < j * k
    · rw [setA_out _ _ _ _ (Or.inl e)]; dsimp only; rw [if_pos e]; exact hV i e
    · have := setA_in us cur (j * k) (i - j * k) (by omega) hfit
      rw [show j * k + (i - j * k) = i by omega] at this
      rw [this]; dsimp only; rw [if_neg e, List.getElem?_eq_getElem (by omega)]; rfl
  · by_cases e : i < j * k
    · simp only [if_pos e]
      exact ((hD i d e hdi).keep hb).stays (stay _ (fun hh => by have := hG i b e hh; omega))
    · simp only [if_neg e]
      have he := hes (i - j * k) (by omega)
      rw [show j * k + (i - j * k) = i by omega, hdi] at he
      have hu : us[i - j * k]? = some ((us[i - j * k]?).getD .nilIface) := by rw [List.getElem?_eq_getElem (by omega)]; rfl
      exact (g1 _ d _ he.symm hu).stays (stay _ (fun hh => by have := g2 _ b (by omega) hh; omega))
  · rw [setN_size]
    by_cases e : i < j * k
    · simp only [if_pos e] at hz
      have := hG i z e hz
      have := hb.size
      omega
    · simp only [if_neg e] at hz
      have := g2 _ z (by omega) hz
      omega
  · by_cases ei : i < j * k
    · simp only [if_pos ei] at h1
      by_cases ej : i' < j * k
      · simp only [if_pos ej] at h2
        exact hd i i' z ei ej hii h1 h2
      · simp only [if_neg ej] at h2
        have := hG i z ei h1
        have := g2 _ z (by omega) h2
        omega
    · simp only [if_neg ei] at h1
      by_cases ej : i' < j * k
      · simp only [if_pos ej] at h2
        have := hG i' z ej h2
        have := g2 _ z (by omega) h1
        omega
      · simp only [if_neg ej] at h2
        exact g3 _ _ z (by omega) (by omega) (by omega) h1 h2
theorem FilD.full {w : World} {b k n c : Nat} {T : TypeId} {ds : List D} (h : FilD w b T k n c ds n) (hl : ds.length = n * k) (hm : c ≤ maxLen) : DO w (.rows T k n ds) (.slice (some ⟨b, 0, none⟩) n c) (fun g => b ≤ g ∧ g < w.heap.size) := by
  have hlt := h.lt
  obtain ⟨cur, V, G, hblk, hsz, hn, hV, hD, hG, hd⟩ := h
  refine .rows cur V G hblk hsz hn hm hl ⟨Nat.le_refl _, hlt⟩ hV (fun i d hi => hD i d (ds_lt hi hl) hi) (fun i z hi hz => ?_) hd
  have := hG i z hi hz
  exact ⟨⟨by omega, by omega⟩, by omega⟩
end Go.Proofs.YtnciibngcaajgaaDoor
/- Tm: Types and terms as data: the cells of each, flat; from the trees of types to data and back; terms in memory, the induction over them; what they weigh. -/
namespace Go.Proofs.YtnciibngcaajgaaDoor
open Go Go.RowKit

/-- Cells of structs, one behind the other. -/
theorem flat_at {α β : Type} (f : α → List β) (k : Nat) (hk : ∀ x, (f x).length = k) : ∀ (xs : List α) (j i : Nat), i < k → (xs.flatMap f)[j * k + i]? = (xs[j]?).bind fun x => (f x)[i]?
  | [], j, i, _ => by simp
  | x :: xs, 0, i, hi => by
    rw [Nat.zero_mul, Nat.zero_add, List.flatMap_cons, List.getElem?_append_left (by rw [hk]; exact hi)]; rfl
  | x :: xs, j + 1, i, hi => by
    have := flat_at f k hk xs j i hi
    rw [List.flatMap_cons, List.getElem?_append_right (by rw [hk, Nat.add_mul]; omega), hk, Nat.add_mul, Nat.one_mul, show j * k + k + i - k = j * k + i by omega, this]
    rfl
theorem flat_len {α β : Type} (f : α → List β) (k : Nat) (hk : ∀ x, (f x).length = k) (xs : List α) : (xs.flatMap f).length = xs.length * k := by
  induction xs with
  | nil => simp
  | cons x xs ih => rw [List.flatMap_cons, List.length_append, ih, hk, List.length_cons, Nat.add_mul]; omega

mutual
/-- The cells of a type; of types. -/
def Ty.ds : Ty → List D
  | .mk k ts => [.cell (.int .i64 k), .rows 26 2 ts.length (flatTy ts)]
def flatTy : List Ty → List D
  | [] => []
  | t :: ts => t.ds ++ flatTy ts
end
theorem Ty.ds_len (t : Ty) : t.ds.length = 2 := by cases t; rfl
theorem flatTy_eq (ts : List Ty) : flatTy ts = ts.flatMap Ty.ds := by
  induction ts with
  | nil => rfl
  | cons t ts ih => rw [flatTy, ih]; rfl
theorem flatTy_len (ts : List Ty) : (flatTy ts).length = ts.length * 2 := by rw [flatTy_eq, flat_len _ 2 Ty.ds_len]
theorem flatTy_at (ts : List Ty) (j : Nat) (h : j < ts.length) : (flatTy ts)[j * 2]? = some (.cell (.int .i64 ts[j].kind)) ∧ (flatTy ts)[j * 2 + 1]? = some (.rows 26 2 ts[j].args.length (flatTy ts[j].args)) := by
  have h0 := flat_at Ty.ds 2 Ty.ds_len ts j 0 (by omega)
  have h1 := flat_at Ty.ds 2 Ty.ds_len ts j 1 (by omega)
  rw [List.getElem?_eq_getElem h] at h0 h1
  rw [flatTy_eq]
  exact ⟨by rw [Nat.add_zero] at h0; rw [h0]; cases ts[j]; rfl, by rw [h1]; cases ts[j]; rfl⟩
theorem div2 {i n : Nat} (h : i < n * 2) : ∃ j, j < n ∧ (i = j * 2 ∨ i = j * 2 + 1) := ⟨i / 2, by omega, by omega⟩

/-- A slice of types as data. -/
abbrev tyD (ts : List Ty) : D := .rows 26 2 ts.length (flatTy ts)
theorem TS.dm {w : World} {C : Nat → Prop} {ts : List Ty} {v : Value} (h : TS w C ts v) : DM w C (tyD ts) v := by
  induction h with
  | nil a c => exact .nil _ _ a c
  | @cons ts b o c S h1 hc hm hC hb hk hs hr ih =>
    refine .rows (fun i => if i % 2 = 0 then .int .i64 ((ts[i / 2]?).map Ty.kind |>.getD 0) else S (i / 2)) h1 hc hm (flatTy_len ts) hC hb (fun i d hi => ?_) (fun i d hi => ?_)
    all_goals
      have hlt : i < ts.length * 2 := by rw [← flatTy_len]; exact (List.getElem?_eq_some_iff.1 hi).1
      obtain ⟨j, hj, e⟩ := div2 hlt
      have hx := List.getElem?_eq_getElem hj
      obtain ⟨f0, f1⟩ := flatTy_at ts j hj
    · rcases e with rfl | rfl
      · simp only [Nat.mul_mod_left, if_true, Nat.mul_div_cancel _ (by omega : 0 < 2), hx, Option.map_some, Option.getD_some]
        exact hk j _ hx
      · simp only [show (j * 2 + 1) % 2 = 1 by omega, show (j * 2 + 1) / 2 = j by omega, Nat.one_ne_zero, if_false]
        exact hs j _ hx
    · rcases e with rfl | rfl
      · simp only [Nat.mul_mod_left, if_true, Nat.mul_div_cancel _ (by omega : 0 < 2), hx, Option.map_some, Option.getD_some]
        rw [f0] at hi; cases hi
        exact .cell _
      · simp only [show (j * 2 + 1) % 2 = 1 by omega, show (j * 2 + 1) / 2 = j by omega, Nat.one_ne_zero, if_false]
        rw [f1] at hi; cases hi
        exact ih j _ hx
theorem DM.ts {w : World} {C : Nat → Prop} : ∀ (m : Nat) {ts : List Ty} {v : Value}, nodesS ts ≤ m → DM w C (tyD ts) v → TS w C ts v
  | m, [], v, _, h => by
    obtain ⟨a, c, rfl⟩ := h.form
    exact .nil a c
  | 0, t :: ts, v, hm, h => by simp only [nodesS, Ty.nodes_eq] at hm; omega
  | m + 1, t :: ts, v, hn, h => by
    have hne : (flatTy (t :: ts)).length = (t :: ts).length * 2 := flatTy_len _
    cases h with
    | @rows _ _ _ b o c _ V h1 hc hm hl hC hb hv hr =>
      refine .cons (fun j => V (j * 2 + 1)) h1 hc hm hC hb (fun j x hj => ?_) (fun j x hj => ?_) (fun j x hj => ?_)
      all_goals
        obtain ⟨hlt, rfl⟩ := List.getElem?_eq_some_iff.1 hj
        obtain ⟨f0, f1⟩ := flatTy_at (t :: ts) j hlt
      · have := (hr _ _ f0).val
        rw [hv _ _ f0, this]
      · exact hv _ _ f1
      · refine DM.ts m ?_ (hr _ _ f1)
        have := nodesS_at (t :: ts) j hlt
        omega
theorem OS.dO {w : World} {F : Nat → Prop} {ts : List Ty} {v : Value} (h : OS w ts v F) : DO w (tyD ts) v F := by
  induction h with
  | none F => exact .nil _ _ F
  | @row ts b c F K S G hrow hm hF hk hr hG hd ih =>
    obtain ⟨cur, hblk, hsz, hn, hat⟩ := hrow
    refine .rows cur (fun i => if i % 2 = 0 then .int .i64 (K (i / 2)) else S (i / 2)) (fun i z => i % 2 = 1 ∧ G (i / 2) z) hblk hsz hn hm (flatTy_len ts) hF (fun i hi => ?_) (fun i d hi => ?_) (fun i z hi hz => hG (i / 2) z (by omega) hz.2) (fun i j z hi hj hij h1 h2 => hd (i / 2) (j / 2) z (by omega) (by omega) (by omega) h1.2 h2.2)
    · obtain ⟨j, hj, e⟩ := div2 hi
      rcases e with rfl | rfl
      · simp only [Nat.mul_mod_left, if_true, Nat.mul_div_cancel _ (by omega : 0 < 2)]
        exact (hat j hj).1
      · simp only [show (j * 2 + 1) % 2 = 1 by omega, show (j * 2 + 1) / 2 = j by omega, Nat.one_ne_zero, if_false]
        exact (hat j hj).2
    · have hlt : i < ts.length * 2 := by rw [← flatTy_len]; exact (List.getElem?_eq_some_iff.1 hi).1
      obtain ⟨j, hj, e⟩ := div2 hlt
      have hx := List.getElem?_eq_getElem hj
      obtain ⟨f0, f1⟩ := flatTy_at ts j hj
      rcases e with rfl | rfl
      · rw [f0] at hi; cases hi
        simp only [Nat.mul_mod_left, if_true, Nat.mul_div_cancel _ (by omega : 0 < 2), hk j _ hx]
        exact .cell _ _
      · rw [f1] at hi; cases hi
        simp only [show (j * 2 + 1) % 2 = 1 by omega, show (j * 2 + 1) / 2 = j by omega, Nat.one_ne_zero, if_false]
        exact (ih j _ hx).mono (fun z hz => ⟨trivial, hz⟩)
theorem DO.os {w : World} : ∀ (m : Nat) {F : Nat → Prop} {ts : List Ty} {v : Value}, nodesS ts ≤ m → DO w (tyD ts) v F → OS w ts v F
  | m, F, ts, v, hn, h => by
    rcases h.inv with ⟨h0, _, rfl⟩ | ⟨b, c, cur, V, G, rfl, hblk, hsz, hnc, hm, hl, hF, hv, hr, hG, hd⟩
    · obtain rfl := List.eq_nil_of_length_eq_zero h0
      exact .none F
    · have hat : ∀ j, j < ts.length → cur[j * 2]? = some (.int .i64 ((ts[j]?).map Ty.kind |>.getD 0)) ∧ cur[j * 2 + 1]? = some (V (j * 2 + 1)) := fun j hj => by
        obtain ⟨f0, f1⟩ := flatTy_at ts j hj
        have h1 := hv (j * 2) (by omega)
        rw [(hr _ _ f0).val] at h1
        rw [List.getElem?_eq_getElem hj]
        exact ⟨h1, hv (j * 2 + 1) (by omega)⟩
      refine .row (fun j => (ts[j]?).map Ty.kind |>.getD 0) (fun j => V (j * 2 + 1)) (fun j => G (j * 2 + 1)) ⟨cur, hblk, hsz, hnc, hat⟩ hm hF (fun j x hj => by simp only [hj, Option.map_some, Option.getD_some]) (fun j x hj => ?_) (fun j z hj hz => hG _ z (by omega) hz) (fun i j z hi hj hij h1 h2 => hd _ _ z (by omega) (by omega) (by omega) h1 h2)
      obtain ⟨hlt, rfl⟩ := List.getElem?_eq_some_iff.1 hj
      have hle := nodesS_at ts j hlt
      match m, hn with
      | 0, hn => omega
      | m + 1, hn => exact DO.os m (by omega) (hr _ _ (flatTy_at ts j hlt).2)

inductive Tm where
  | mk (kind : Int) (name other : ByteArray) (n : Int) (ty res : Ty) (args : List Tm)
namespace Tm
def kind : Tm → Int | mk k _ _ _ _ _ _ => k
def name : Tm → ByteArray | mk _ a _ _ _ _ _ => a
def other : Tm → ByteArray | mk _ _ b _ _ _ _ => b
def n : Tm → Int | mk _ _ _ n _ _ _ => n
def ty : Tm → Ty | mk _ _ _ _ t _ _ => t
def res : Tm → Ty | mk _ _ _ _ _ r _ => r
def args : Tm → List Tm | mk _ _ _ _ _ _ ts => ts
end Tm
theorem Tm.eta (t : Tm) : t = .mk t.kind t.name t.other t.n t.ty t.res t.args := by cases t; rfl
theorem Tm.ext' {a b : Tm} (h1 : a.kind = b.kind) (h2 : a.name = b.name) (h3 : a.other = b.other) (h4 : a.n = b.n) (h5 : a.ty = b.ty) (h6 : a.res = b.res) (h7 : a.args = b.args) : a = b := by
  rw [a.eta, b.eta, h1, h2, h3, h4, h5, h6, h7]
mutual
/-- The cells of a term; of terms. -/
def Tm.ds : Tm → List D
  | .mk k a b n t r ts => [.cell (.int .i64 k), .cell (.string a), .cell (.string b), .cell (.int .i64 n), .cell (.int .i64 t.kind), tyD t.args, .cell (.int .i64 r.kind), tyD r.args, .rows 29 9 ts.length (flatTm ts)]
def flatTm : List Tm → List D
  | [] => []
  | t :: ts => t.ds ++ flatTm ts
end
/-- A slice of terms as data. -/
abbrev tmD (ts : List Tm) : D := .rows 29 9 ts.length (flatTm ts)
theorem Tm.ds_eq (x : Tm) : x.ds = [.cell (.int .i64 x.kind), .cell (.string x.name), .cell (.string x.other), .cell (.int .i64 x.n), .cell (.int .i64 x.ty.kind), tyD x.ty.args, .cell (.int .i64 x.res.kind), tyD x.res.args, tmD x.args] := by
  cases x; rfl
theorem Tm.ds_len (t : Tm) : t.ds.length = 9 := by cases t; rfl
theorem flatTm_eq (ts : List Tm) : flatTm ts = ts.flatMap Tm.ds := by
  induction ts with
  | nil => rfl
  | cons t ts ih => rw [flatTm, ih]; rfl
theorem flatTm_len (ts : List Tm) : (flatTm ts).length = ts.length * 9 := by rw [flatTm_eq, flat_len _ 9 Tm.ds_len]
theorem flatTm_at (ts : List Tm) (j i : Nat) (h : j < ts.length) (hi : i < 9) : (flatTm ts)[j * 9 + i]? = (ts[j].ds)[i]? := by
  rw [flatTm_eq, flat_at Tm.ds 9 Tm.ds_len ts j i hi, List.getElem?_eq_getElem h]; rfl
theorem flatTm_append (a b : List Tm) : flatTm (a ++ b) = flatTm a ++ flatTm b := by simp [flatTm_eq]

mutual
/-- The nodes of a term; what it weighs: the letters of its names, the nodes of its types, its parts. -/
def Tm.nodes : Tm → Nat
  | .mk _ _ _ _ _ _ ts => 1 + nodesM ts
def nodesM : List Tm → Nat
  | [] => 0
  | t :: ts => t.nodes + nodesM ts
end
mutual
def Tm.wt : Tm → Nat
  | .mk _ a b _ t r ts => a.size + b.size + nodesS t.args + nodesS r.args + wtS ts
def wtS : List Tm → Nat
  | [] => 0
  | t :: ts => 1 + t.wt + wtS ts
end
theorem Tm.nodes_eq (t : Tm) : t.nodes = 1 + nodesM t.args := by cases t; simp [Tm.nodes, Tm.args]
theorem Tm.wt_eq (t : Tm) : t.wt = t.name.size + t.other.size + nodesS t.ty.args + nodesS t.res.args + wtS t.args := by cases t; simp [Tm.wt, Tm.name, Tm.other, Tm.ty, Tm.res, Tm.args]
theorem nodesM_append (a b : List Tm) : nodesM (a ++ b) = nodesM a + nodesM b := by
  induction a with
  | nil => simp [nodesM]
  | cons x a ih => simp only [List.cons_append, nodesM, ih]; omega
theorem wtS_append (a b : List Tm) : wtS (a ++ b) = wtS a + wtS b := by
  induction a with
  | nil => simp [wtS]
  | cons x a ih => simp only [List.cons_append, wtS, ih]; omega
theorem tm_take_next {ts : List Tm} {k : Nat} (h : k < ts.length) : ts.take (k + 1) = ts.take k ++ [ts[k]] := by
  rw [List.take_add_one, List.getElem?_eq_getElem h]; rfl
theorem wtS_take (ts : List Tm) (k : Nat) (h : k < ts.length) : wtS (ts.take (k + 1)) = wtS (ts.take k) + (1 + ts[k].wt) := by
  rw [tm_take_next h, wtS_append]; simp [wtS]
theorem wtS_take_le (ts : List Tm) (k : Nat) : wtS (ts.take k) ≤ wtS ts := by
  have h := wtS_append (ts.take k) (ts.drop k)
  rw [List.take_append_drop] at h
  omega
theorem wtS_ge (ts : List Tm) : ts.length ≤ wtS ts := by
  induction ts with
  | nil => simp
  | cons a ts ih => simp only [List.length_cons, wtS]; omega
theorem wtS_at (ts : List Tm) (k : Nat) (h : k < ts.length) : 1 + ts[k].wt ≤ wtS ts := by
  have h1 := wtS_take ts k h
  have h2 := wtS_take_le ts (k + 1)
  omega
theorem nodesM_take (ts : List Tm) (k : Nat) (h : k < ts.length) : nodesM (ts.take (k + 1)) = nodesM (ts.take k) + ts[k].nodes := by
  rw [tm_take_next h, nodesM_append]; simp [nodesM]
theorem nodesM_take_le (ts : List Tm) (k : Nat) : nodesM (ts.take k) ≤ nodesM ts := by
  have h := nodesM_append (ts.take k) (ts.drop k)
  rw [List.take_append_drop] at h
  omega
theorem nodesM_at (ts : List Tm) (k : Nat) (h : k < ts.length) : ts[k].nodes ≤ nodesM ts := by
  have h1 := nodesM_take ts k h
  have h2 := nodesM_take_le ts (k + 1)
  omega
mutual
theorem nodesM_wt : ∀ ts : List Tm, nodesM ts ≤ wtS ts
  | [] => Nat.le_refl _
  | t :: ts => by
    have h1 := Tm.nodes_wt t
    have h2 := nodesM_wt ts
    simp only [nodesM, wtS]
    omega
theorem Tm.nodes_wt : ∀ t : Tm, t.nodes ≤ 1 + t.wt
  | .mk k a b n t r ts => by
    have := nodesM_wt ts
    simp only [Tm.nodes, Tm.wt]
    omega
end

/-- A struct value that is the term t. -/
abbrev tmV (t : Tm) (tp : Option Addr) (tc : Nat) (rp : Option Addr) (rc : Nat) (p : Option Addr) (c : Nat) : Value :=
  .agg #[.int .i64 t.kind, .string t.name, .string t.other, .int .i64 t.n, .int .i64 t.ty.kind, .slice tp t.ty.args.length tc, .int .i64 t.res.kind, .slice rp t.res.args.length rc, .slice p t.args.length c]
structure TM' (w : World) (C : Nat → Prop) (t : Tm) (tp : Option Addr) (tc : Nat) (rp : Option Addr) (rc : Nat) (p : Option Addr) (c : Nat) : Prop where
  ty : TS w C t.ty.args (.slice tp t.ty.args.length tc)
  res : TS w C t.res.args (.slice rp t.res.args.length rc)
  args : DM w C (tmD t.args) (.slice p t.args.length c)
def TM (w : World) (C : Nat → Prop) (t : Tm) (v : Value) : Prop := ∃ tp tc rp rc p c, v = tmV t tp tc rp rc p c ∧ TM' w C t tp tc rp rc p c
theorem TM'.stays {w w' : World} {C : Nat → Prop} {t : Tm} {tp rp p : Option Addr} {tc rc c : Nat} (h : TM' w C t tp tc rp rc p c) (hs : Stays C w w') : TM' w' C t tp tc rp rc p c := ⟨h.ty.stays hs, h.res.stays hs, h.args.stays hs⟩
theorem TM'.mono {w : World} {C C' : Nat → Prop} {t : Tm} {tp rp p : Option Addr} {tc rc c : Nat} (h : TM' w C t tp tc rp rc p c) (hC : ∀ b, C b → b < w.heap.size → C' b) : TM' w C' t tp tc rp rc p c := ⟨h.ty.mono hC, h.res.mono hC, h.args.mono hC⟩
theorem TM.stays {w w' : World} {C : Nat → Prop} {t : Tm} {v : Value} (h : TM w C t v) (hs : Stays C w w') : TM w' C t v := by
  obtain ⟨tp, tc, rp, rc, p, c, hv, h⟩ := h
  exact ⟨tp, tc, rp, rc, p, c, hv, h.stays hs⟩
theorem TM.keep {w w' : World} {C : Nat → Prop} {t : Tm} {v : Value} (h : TM w C t v) (hb : Below w.heap.size w w') : TM w' C t v := h.stays (.of_below hb)
theorem TM.mono {w : World} {C C' : Nat → Prop} {t : Tm} {v : Value} (h : TM w C t v) (hC : ∀ b, C b → b < w.heap.size → C' b) : TM w C' t v := by
  obtain ⟨tp, tc, rp, rc, p, c, hv, h⟩ := h
  exact ⟨tp, tc, rp, rc, p, c, hv, h.mono hC⟩

/-- The nine cells of one term of a slice of terms, in a world. -/
structure At9 (w : World) (b o : Nat) (t : Tm) (tp : Option Addr) (tc : Nat) (rp : Option Addr) (rc : Nat) (p : Option Addr) (c : Nat) : Prop where
  kind : w.cell? ⟨b, o, none⟩ = some (.int .i64 t.kind)
  name : w.cell? ⟨b, o + 1, none⟩ = some (.string t.name)
  other : w.cell? ⟨b, o + 2, none⟩ = some (.string t.other)
  n : w.cell? ⟨b, o + 3, none⟩ = some (.int .i64 t.n)
  tk : w.cell? ⟨b, o + 4, none⟩ = some (.int .i64 t.ty.kind)
  ta : w.cell? ⟨b, o + 5, none⟩ = some (.slice tp t.ty.args.length tc)
  rk : w.cell? ⟨b, o + 6, none⟩ = some (.int .i64 t.res.kind)
  ra : w.cell? ⟨b, o + 7, none⟩ = some (.slice rp t.res.args.length rc)
  args : w.cell? ⟨b, o + 8, none⟩ = some (.slice p t.args.length c)
/-- One term of a slice of terms: where it lies, in every world that keeps the blocks. -/
theorem tm_part {w0 : World} {C : Nat → Prop} {ts : List Tm} {q : Option Addr} {d : Nat} (h : DM w0 C (tmD ts) (.slice q ts.length d)) (j : Nat) (hj : j < ts.length) :
    ∃ (b o : Nat) (tp : Option Addr) (tc : Nat) (rp : Option Addr) (rc : Nat) (p : Option Addr) (c : Nat), q = some ⟨b, o, none⟩ ∧ C b ∧ b < w0.heap.size ∧ (∀ w', Stays C w0 w' → At9 w' b (o + j * 9) ts[j] tp tc rp rc p c) ∧ TM' w0 C ts[j] tp tc rp rc p c := by
  obtain ⟨b, o, V, rfl, hC, hb, hp⟩ := h.part (by rw [flatTm_len]; omega)
  have hx := ts[j].ds_eq
  have part : ∀ (i : Nat) (d : D), i < 9 → (ts[j].ds)[i]? = some d → DM w0 C d (V (j * 9 + i)) ∧ ∀ w', Stays C w0 w' → w'.cell? ⟨b, o + j * 9 + i, none⟩ = some (V (j * 9 + i)) := fun i d hi hd => by
    obtain ⟨h1, h2⟩ := hp (j * 9 + i) d (by rw [flatTm_at ts j i hj hi]; exact hd)
    exact ⟨h1, fun w' hw => by rw [Nat.add_assoc]; exact h2 w' hw⟩
  rw [hx] at part
  obtain ⟨a0, b0⟩ := part 0 _ (by omega) rfl
  obtain ⟨a1, b1⟩ := part 1 _ (by omega) rfl
  obtain ⟨a2, b2⟩ := part 2 _ (by omega) rfl
  obtain ⟨a3, b3⟩ := part 3 _ (by omega) rfl
  obtain ⟨a4, b4⟩ := part 4 _ (by omega) rfl
  obtain ⟨a5, b5⟩ := part 5 _ (by omega) rfl
  obtain ⟨a6, b6⟩ := part 6 _ (by omega) rfl
  obtain ⟨a7, b7⟩ := part 7 _ (by omega) rfl
  obtain ⟨a8, b8⟩ := part 8 _ (by omega) rfl
  rw [a0.val] at b0
  rw [a1.val] at b1
  rw [a2.val] at b2
  rw [a3.val] at b3
  rw [a4.val] at b4
  rw [a6.val] at b6
  obtain ⟨tp, tc, e5⟩ := a5.form
  obtain ⟨rp, rc, e7⟩ := a7.form
  obtain ⟨p, c, e8⟩ := a8.form
  rw [e5] at a5 b5
  rw [e7] at a7 b7
  rw [e8] at a8 b8
  exact ⟨b, o, tp, tc, rp, rc, p, c, rfl, hC, hb, fun w' hw => ⟨b0 w' hw, b1 w' hw, b2 w' hw, b3 w' hw, b4 w' hw, b5 w' hw, b6 w' hw, b7 w' hw, b8 w' hw⟩, a5.ts _ (Nat.le_refl _), a7.ts _ (Nat.le_refl _), a8⟩

/-- INDUCTION OVER TERMS IN MEMORY. -/
theorem tm_ind {w0 : World} {C : Nat → Prop} {motive : List Tm → Value → Prop}
    (step : ∀ (ts : List Tm) (q : Option Addr) (d : Nat), ts.length ≤ 9223372036854775807 →
      (∀ (j : Nat) (hj : j < ts.length), ∃ (b o : Nat) (tp : Option Addr) (tc : Nat) (rp : Option Addr) (rc : Nat) (p : Option Addr) (c : Nat), q = some ⟨b, o, none⟩ ∧ C b ∧ b < w0.heap.size ∧ (∀ w', Stays C w0 w' → At9 w' b (o + j * 9) ts[j] tp tc rp rc p c) ∧
        TM' w0 C ts[j] tp tc rp rc p c ∧ motive ts[j].args (.slice p ts[j].args.length c)) → motive ts (.slice q ts.length d)) :
    ∀ (m : Nat) {ts : List Tm} {v : Value}, nodesM ts ≤ m → DM w0 C (tmD ts) v → motive ts v
  | m, ts, v, hm, h => by
    obtain ⟨q, d, rfl⟩ := h.form
    refine step ts q d h.len.1 (fun j hj => ?_)
    obtain ⟨b, o, tp, tc, rp, rc, p, c, e, hC, hb, h9, hT⟩ := tm_part h j hj
    have hn := nodesM_at ts j hj
    rw [Tm.nodes_eq] at hn
    match m, hm with
    | 0, hm => omega
    | m + 1, hm => exact ⟨b, o, tp, tc, rp, rc, p, c, e, hC, hb, h9, hT, tm_ind step m (by omega) hT.args⟩
end Go.Proofs.YtnciibngcaajgaaDoor
/- TmSz: The contract of the laws' szTermS and szTerm: what is left of a bound behind a term, or -1. -/
namespace Go.Proofs.YtnciibngcaajgaaDoor
open Go Go.RowKit

mutual
/-- No name is longer than a string can be. -/
def Tm.fit : Tm → Prop
  | .mk _ a b _ _ _ ts => a.size ≤ 9223372036854775807 ∧ b.size ≤ 9223372036854775807 ∧ fitS ts
def fitS : List Tm → Prop
  | [] => True
  | t :: ts => t.fit ∧ fitS ts
end
theorem Tm.fit_eq (t : Tm) : t.fit ↔ t.name.size ≤ 9223372036854775807 ∧ t.other.size ≤ 9223372036854775807 ∧ fitS t.args := by cases t; simp [Tm.fit, Tm.name, Tm.other, Tm.args]
theorem fitS_at : ∀ (ts : List Tm) (j : Nat) (hj : j < ts.length), fitS ts → ts[j].fit
  | t :: ts, 0, _, h => h.1
  | t :: ts, j + 1, hj, h => fitS_at ts j (by simpa using hj) h.2
theorem fitS_of : ∀ (ts : List Tm), (∀ (j : Nat) (hj : j < ts.length), ts[j].fit) → fitS ts
  | [], _ => trivial
  | t :: ts, h => ⟨h 0 (by simp), fitS_of ts (fun j hj => h (j + 1) (by simpa using hj))⟩

/-- A term's box in a later world. -/
structure Bx9 (w : World) (b : Nat) (t : Tm) (tp : Option Addr) (tc : Nat) (rp : Option Addr) (rc : Nat) (p : Option Addr) (c : Nat) : Prop where
  kind : w.cell? ⟨b, 0, none⟩ = some (.int .i64 t.kind)
  name : w.cell? ⟨b, 1, none⟩ = some (.string t.name)
  other : w.cell? ⟨b, 2, none⟩ = some (.string t.other)
  n : w.cell? ⟨b, 3, none⟩ = some (.int .i64 t.n)
  tk : w.cell? ⟨b, 4, none⟩ = some (.int .i64 t.ty.kind)
  ta : w.cell? ⟨b, 5, none⟩ = some (.slice tp t.ty.args.length tc)
  rk : w.cell? ⟨b, 6, none⟩ = some (.int .i64 t.res.kind)
  ra : w.cell? ⟨b, 7, none⟩ = some (.slice rp t.res.args.length rc)
  args : w.cell? ⟨b, 8, none⟩ = some (.slice p t.args.length c)
abbrev tmC (t : Tm) (tp : Option Addr) (tc : Nat) (rp : Option Addr) (rc : Nat) (p : Option Addr) (c : Nat) : Array Value :=
  #[.int .i64 t.kind, .string t.name, .string t.other, .int .i64 t.n, .int .i64 t.ty.kind, .slice tp t.ty.args.length tc, .int .i64 t.res.kind, .slice rp t.res.args.length rc, .slice p t.args.length c]
theorem Bx9.of {w : World} {b : Nat} {t : Tm} {tp rp p : Option Addr} {tc rc c : Nat} {T : TypeId} (h : w.heap[b]? = some (.cells (tmC t tp tc rp rc p c) T (0, 0))) : Bx9 w b t tp tc rp rc p c := by
  have k : ∀ i, w.cell? ⟨b, i, none⟩ = (tmC t tp tc rp rc p c)[i]? := fun i => by simp [World.cell?, h]
  exact ⟨k 0, k 1, k 2, k 3, k 4, k 5, k 6, k 7, k 8⟩
theorem Bx9.lt {w : World} {b : Nat} {t : Tm} {tp rp p : Option Addr} {tc rc c : Nat} (h : Bx9 w b t tp tc rp rc p c) : b < w.heap.size := World.block_lt_of_cell? w _ h.kind
theorem Bx9.at {w w' : World} {b : Nat} {t : Tm} {tp rp p : Option Addr} {tc rc c : Nat} (h : Bx9 w b t tp tc rp rc p c) (hs : w'.heap[b]? = w.heap[b]?) : Bx9 w' b t tp tc rp rc p c := by
  have k : ∀ i, w'.cell? ⟨b, i, none⟩ = w.cell? ⟨b, i, none⟩ := fun i => World.cell?_of_block (a := ⟨b, i, none⟩) hs
  exact ⟨(k 0).trans h.kind, (k 1).trans h.name, (k 2).trans h.other, (k 3).trans h.n, (k 4).trans h.tk, (k 5).trans h.ta, (k 6).trans h.rk, (k 7).trans h.ra, (k 8).trans h.args⟩
theorem Bx9.keep {w w' : World} {b : Nat} {t : Tm} {tp rp p : Option Addr} {tc rc c : Nat} (h : Bx9 w b t tp tc rp rc p c) (hb : Below w.heap.size w w') : Bx9 w' b t tp tc rp rc p c := h.at (hb.block b h.lt)
theorem Bx9.new (w : World) (t : Tm) (tp : Option Addr) (tc : Nat) (rp : Option Addr) (rc : Nat) (p : Option Addr) (c : Nat) (T : TypeId) : Bx9 (w.alloc (.cells (tmC t tp tc rp rc p c) T)) w.heap.size t tp tc rp rc p c :=
  Bx9.of (T := T) (by show (w.heap.push _)[w.heap.size]? = _; simp)
theorem al_below (w : World) (o : Obj) : Below w.heap.size w (w.alloc o) := (Below.refl _ w).alloc (Nat.le_refl _) o

set_option maxRecDepth 100000 in
set_option maxHeartbeats 2000000 in
theorem szM_of {C : Nat → Prop} {t : Tm} {tp rp p : Option Addr} {tc rc c : Nat} {w : World} (left : Int) (h0 : 0 ≤ left) (hl : left ≤ 1048576) (hT : TM' w C t tp tc rp rc p c) (hf : t.fit)
    (h : ∀ (w' : World) (l : Int), Below w.heap.size w w' → 0 ≤ l → l ≤ left → Calls Tryd.prog 43 #[.slice p t.args.length c, .int .i64 l] w' (IntRet (SzEnds l (wtS t.args)) w')) :
    Calls Tryd.prog 20 #[tmV t tp tc rp rc p c, .int .i64 left] w (IntRet (SzEnds left t.wt) w) := by
  have HH := Lib.hid h
  have HT := Lib.hid hT
  have HB0 := Lib.hid (al_below w (.cells (tmC t tp tc rp rc p c) 43))
  have HX0 := Lib.hid (Bx9.new w t tp tc rp rc p c 43)
  have HW := Lib.hid t.wt_eq
  obtain ⟨f1, f2, _⟩ := (Tm.fit_eq t).1 hf
  clear h hT hf
  go_enter Tryd.func20, Tryd.ntmps20
  by_cases c1 : left - (t.name.size : Int) < 0
  · go_wp2_with fail
    go_ret
    exact ⟨_, Or.inr ⟨rfl, by have := HW.out; omega⟩, rfl, HB0.out⟩
  by_cases c2 : left - (t.name.size : Int) - (t.other.size : Int) < 0
  · go_wp2_with fail
    go_ret
    exact ⟨_, Or.inr ⟨rfl, by have := HW.out; omega⟩, rfl, HB0.out⟩
  have HC3 := Lib.hid (szT_any (C := C) (t := t.ty) (v := .agg #[.int .i64 t.ty.kind, .slice tp t.ty.args.length tc]) ⟨_, rfl, HT.out.ty.keep HB0.out⟩ (left - (t.name.size : Int) - (t.other.size : Int)) (by omega) (by omega))
  go_wp2_with fail
  refine HC3.out.mono ?_
  rintro e w3 ⟨r3, hr3, rfl, hb3⟩
  have rg3 := hr3.range (by omega)
  have HR3 := Lib.hid hr3
  have HB3 := Lib.hid (HB0.out.trans (hb3.mono HB0.out.size))
  have hx3 := HX0.out.keep hb3
  obtain ⟨_, _, _, _, g4, g5, g6, g7, g8⟩ := hx3
  have HX3 := Lib.hid (HX0.out.keep hb3)
  clear hr3 hb3 HC3
  by_cases c3 : r3 < 0
  · go_wp2_with fail
    go_ret
    exact ⟨_, Or.inr ⟨rfl, by have := HW.out; have := HR3.out; unfold SzEnds at this; omega⟩, rfl, HB3.out⟩
  have HC4 := Lib.hid (szT_any (C := C) (t := t.res) (v := .agg #[.int .i64 t.res.kind, .slice rp t.res.args.length rc]) ⟨_, rfl, HT.out.res.keep HB3.out⟩ r3 (by omega) (by omega))
  go_wp2_with fail
  refine HC4.out.mono ?_
  rintro e w4 ⟨r4, hr4, rfl, hb4⟩
  have rg4 := hr4.range (by omega)
  have HR4 := Lib.hid hr4
  have HB4 := Lib.hid (HB3.out.trans (hb4.mono HB3.out.size))
  have hx4 := HX3.out.keep hb4
  clear g4 g5 g6 g7 g8
  obtain ⟨_, _, _, _, _, _, _, _, g8⟩ := hx4
  clear hr4 hb4 HC4
  by_cases c4 : r4 < 0
  · go_wp2_with fail
    go_ret
    exact ⟨_, Or.inr ⟨rfl, by have := HW.out; have := HR3.out; have := HR4.out; unfold SzEnds at *; omega⟩, rfl, HB4.out⟩
  have HC5 := Lib.hid (HH.out w4 r4 HB4.out (by omega) (by omega))
  go_wp2_with fail
  refine HC5.out.mono ?_
  rintro e w5 ⟨r5, hr5, rfl, hb5⟩
  have rg5 := hr5.range (by omega)
  have HR5 := Lib.hid hr5
  have HB5 := Lib.hid (HB4.out.trans (hb5.mono HB4.out.size))
  clear hr5 hb5 HC5
  by_cases c5 : r5 < 0
  · go_wp2_with fail
    go_ret
    exact ⟨_, by have := HW.out; have := HR3.out; have := HR4.out; have := HR5.out; unfold SzEnds at *; omega, rfl, HB5.out⟩
  · go_wp2_with fail
    go_ret
    exact ⟨_, by have := HW.out; have := HR3.out; have := HR4.out; have := HR5.out; unfold SzEnds at *; omega, rfl, HB5.out⟩

/-- k terms have been counted: L is left. -/
def LeftM (left : Int) (ts : List Tm) (k : Nat) (L : Int) : Prop := L + ts.length + (wtS (ts.take k) - k : Nat) = left
theorem wtS_take_ge (ts : List Tm) (k : Nat) (h : k ≤ ts.length) : k ≤ wtS (ts.take k) := by
  have := wtS_ge (ts.take k)
  rw [List.length_take] at this
  omega
theorem leftM_next {left : Int} {ts : List Tm} {k : Nat} {L r : Int} (h : LeftM left ts k L) (hk : k < ts.length) (hr : SzEnds L ts[k].wt r) (h0 : 0 ≤ r) : LeftM left ts (k + 1) r := by
  have h1 := wtS_take ts k hk
  have h2 := wtS_take_ge ts k (Nat.le_of_lt hk)
  unfold LeftM SzEnds at *
  omega
theorem leftM_over {left : Int} {ts : List Tm} {k : Nat} {L r : Int} (h : LeftM left ts k L) (hk : k < ts.length) (hr : SzEnds L ts[k].wt r) (h0 : r < 0) : SzEnds left (wtS ts) (-1) := by
  have h1 := wtS_take ts k hk
  have h2 := wtS_take_ge ts k (Nat.le_of_lt hk)
  have h3 := wtS_append (ts.take (k + 1)) (ts.drop (k + 1))
  rw [List.take_append_drop] at h3
  have h4 := wtS_ge (ts.drop (k + 1))
  rw [List.length_drop] at h4
  unfold LeftM SzEnds at *
  omega
theorem leftM_end {left : Int} {ts : List Tm} {L : Int} (h : LeftM left ts ts.length L) (h0 : 0 ≤ L) : SzEnds left (wtS ts) L := by
  have h2 := wtS_ge ts
  unfold LeftM at h
  rw [List.take_length] at h
  unfold SzEnds
  omega

set_option maxRecDepth 100000 in
set_option maxHeartbeats 1000000 in
theorem szMS_any {w0 : World} {C : Nat → Prop} {ts : List Tm} {v : Value} (h : DM w0 C (tmD ts) v) : ∀ (w : World) (left : Int), Stays C w0 w → 0 ≤ left → left ≤ 1048576 → fitS ts →
    Calls Tryd.prog 43 #[v, .int .i64 left] w (IntRet (SzEnds left (wtS ts)) w) := by
  refine tm_ind (motive := fun ts v => ∀ (w : World) (left : Int), Stays C w0 w → 0 ≤ left → left ≤ 1048576 → fitS ts → Calls Tryd.prog 43 #[v, .int .i64 left] w (IntRet (SzEnds left (wtS ts)) w)) ?_ _ (Nat.le_refl _) h
  intro ts q d hlen H w left hst h0 hl hfit
  have HH := Lib.hid H
  have HST := Lib.hid hst
  have HF := Lib.hid hfit
  clear H hst hfit
  go_enter Tryd.func43, Tryd.ntmps43
  by_cases hbig : left - (ts.length : Int) < 0
  · go_wp2_with fail
    go_ret
    exact ⟨_, Or.inr ⟨rfl, by have := wtS_ge ts; omega⟩, rfl, Below.refl _ _⟩
  · go_wp2_with fail
    go_loopw [1, 5] (fun l i wr => ∃ (k : Nat) (L : Int), k ≤ ts.length ∧ 0 ≤ L ∧ L ≤ left ∧ i = .int .i64 k ∧ l = .int .i64 L ∧ LeftM left ts k L ∧ Below w.heap.size w wr) (fun _ i _ => ts.length - (intOf i).toNat)
    case atStart => exact ⟨0, _, Nat.zero_le _, by omega, by omega, rfl, rfl, by unfold LeftM; simp [wtS], Below.refl _ _⟩
    case round =>
      obtain ⟨k, L, hk, hL0, hL1, rfl, rfl, hat, hbr⟩ := hrel
      have HA := Lib.hid hat
      have HB := Lib.hid hbr
      have HSR := Lib.hid (HST.out.trans (Stays.of_below (C := C) hbr))
      clear hat hbr
      by_cases hlk : k < ts.length
      · obtain ⟨b, o, tp, tc, rp, rc, p, c, rfl, hC, hb, h9, hT, hI⟩ := HH.out k hlk
        obtain ⟨g0, g1, g2, g3, g4, g5, g6, g7, g8⟩ := h9 wr HSR.out
        have hfk := fitS_at ts k hlk HF.out
        have HC := Lib.hid (szM_of (C := C) L hL0 (by omega) (hT.stays HSR.out) hfk (fun w' l hw' hl0 hl1 => hI w' l (HSR.out.trans (.of_below hw')) hl0 (by omega) ((Tm.fit_eq _).1 hfk).2.2))
        have i0 : (0 : Int) ≤ (k : Int) := Int.natCast_nonneg _
        have i1 : (k : Int) < (ts.length : Int) := by omega
        clear hC hb h9 hT hI hfk
        go_wp2_with fail
        refine HC.out.mono ?_
        rintro e w1 ⟨r, hr, rfl, hb1⟩
        have hrg := hr.range hL0
        have HR := Lib.hid hr
        have HB1 := Lib.hid (HB.out.trans (hb1.mono HB.out.size))
        clear hr hb1
        by_cases hneg : r < 0
        · go_wp2_with fail
          go_ret
          exact ⟨_, leftM_over HA.out hlk HR.out hneg, rfl, HB1.out⟩
        · go_wp2_with fail
          go_roundw
          case rel => exact ⟨k + 1, r, by omega, by omega, by omega, by go_num, rfl, leftM_next HA.out hlk HR.out (by omega), HB1.out⟩
          case measure => simp [intOf]; omega
      · obtain rfl : k = ts.length := by omega
        go_wp2_with fail
        go_ret
        exact ⟨_, leftM_end HA.out hL0, rfl, HB.out⟩
/-- THE LAWS' szTerm, AT EVERY TERM. -/
theorem szM_any {C : Nat → Prop} {t : Tm} {v : Value} {w : World} (h : TM w C t v) (hf : t.fit) (left : Int) (h0 : 0 ≤ left) (hl : left ≤ 1048576) :
    Calls Tryd.prog 20 #[v, .int .i64 left] w (IntRet (SzEnds left t.wt) w) := by
  obtain ⟨tp, tc, rp, rc, p, c, rfl, hT⟩ := h
  exact szM_of left h0 hl hT hf (fun w' l hb hl0 hl1 => szMS_any hT.args w' l (.of_below hb) hl0 (by omega) ((Tm.fit_eq t).1 hf).2.2)
#print axioms szM_any
end Go.Proofs.YtnciibngcaajgaaDoor
