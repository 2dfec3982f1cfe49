/-
  Data in memory, of no program: a cell, or a slice of structs whose cells lie flat; what a slice holds, that it holds it in every world that keeps its blocks; memory of the call's own, each block apart; one struct more; a row that is filled.
-/
import Derived.Test.YtfeijijeohfpgaaDoorOwnT
import Derived.Test.YtfeijijeohfpgaaDoorRowN
namespace Go.Proofs.YtfeijijeohfpgaaDoor
open Go Go.RowKit

/-- A cell, or a slice of n structs of k cells each, of the type T; the cells of all n stand one behind the other. -/
inductive D where
  | cell (u : Value)
  | rows (T : TypeId) (k n : Nat) (ds : List D)

/-- The value v is the datum; C: the blocks it may lie in. -/
inductive DM (w : World) (C : Nat → Prop) : D → Value → Prop
  | cell (u : Value) : DM w C (.cell u) u
  | nil (T : TypeId) (k : Nat) (a : Option Addr) (c : Nat) : DM w C (.rows T k 0 []) (.slice a 0 c)
  | rows {T : TypeId} {k n b o c : Nat} {ds : List D} (V : Nat → Value) (h1 : 1 ≤ n) (hc : n ≤ c) (hm : c ≤ 9223372036854775807) (hl : ds.length = n * k) (hC : C b) (hb : b < w.heap.size)
      (hv : ∀ i d, ds[i]? = some d → w.cell? ⟨b, o + i, none⟩ = some (V i)) (hr : ∀ i d, ds[i]? = some d → DM w C d (V i)) : DM w C (.rows T k n ds) (.slice (some ⟨b, o, none⟩) n c)

theorem DM.stays {w w' : World} {C : Nat → Prop} {d : D} {v : Value} (h : DM w C d v) (hs : Stays C w w') : DM w' C d v := by
  induction h with
  | cell u => exact .cell u
  | nil T k a c => exact .nil T k a c
  | rows V h1 hc hm hl hC hb hv hr ih =>
    exact .rows V h1 hc hm hl hC (Nat.lt_of_lt_of_le hb hs.1) (fun i d hi => by rw [World.cell?_of_block (w := _) (hs.2 _ hC hb)]; exact hv i d hi) ih
theorem DM.keep {w w' : World} {C : Nat → Prop} {d : D} {v : Value} (h : DM w C d v) (hb : Below w.heap.size w w') : DM w' C d v := h.stays (.of_below hb)
theorem DM.mono {w : World} {C C' : Nat → Prop} {d : D} {v : Value} (h : DM w C d v) (hC' : ∀ b, C b → b < w.heap.size → C' b) : DM w C' d v := by
  induction h with
  | cell u => exact .cell u
  | nil T k a c => exact .nil T k a c
  | rows V h1 hc hm hl hC hb hv hr ih => exact .rows V h1 hc hm hl (hC' _ hC hb) hb hv ih
theorem DM.form {w : World} {C : Nat → Prop} {T : TypeId} {k n : Nat} {ds : List D} {v : Value} (h : DM w C (.rows T k n ds) v) : ∃ a c, v = .slice a n c := by
  cases h with
  | nil => exact ⟨_, _, rfl⟩
  | rows => exact ⟨_, _, rfl⟩
theorem DM.len {w : World} {C : Nat → Prop} {T : TypeId} {k n : Nat} {ds : List D} {v : Value} (h : DM w C (.rows T k n ds) v) : n ≤ 9223372036854775807 ∧ ds.length = n * k := by
  cases h with
  | nil => simp
  | rows V h1 hc hm hl => exact ⟨by omega, hl⟩
theorem DM.val {w : World} {C : Nat → Prop} {u v : Value} (h : DM w C (.cell u) v) : v = u := by
  cases h; rfl
/-- One cell of a slice of structs, where it lies: in every world that keeps the blocks. -/
theorem DM.part {w : World} {C : Nat → Prop} {T : TypeId} {k n c : Nat} {p : Option Addr} {ds : List D} (h : DM w C (.rows T k n ds) (.slice p n c)) (hn : 0 < ds.length) :
    ∃ (b o : Nat) (V : Nat → Value), p = some ⟨b, o, none⟩ ∧ C b ∧ b < w.heap.size ∧ (∀ i d, ds[i]? = some d → DM w C d (V i) ∧ ∀ w', Stays C w w' → w'.cell? ⟨b, o + i, none⟩ = some (V i)) := by
  cases h with
  | nil => simp at hn
  | @rows T k n b o c ds V h1 hc hm hl hC hb hv hr =>
    exact ⟨b, o, V, rfl, hC, hb, fun i d hi => ⟨hr i d hi, fun w' hw => (World.cell?_of_block (w := w) (a := ⟨b, o + i, none⟩) (hw.2 b hC hb)).trans (hv i d hi)⟩⟩

/-- The value v is the datum, in rows of the call's own; F: the blocks, which are apart. -/
inductive DO (w : World) : D → Value → (Nat → Prop) → Prop
  | cell (u : Value) (F : Nat → Prop) : DO w (.cell u) u F
  | nil (T : TypeId) (k : Nat) (F : Nat → Prop) : DO w (.rows T k 0 []) (.slice none 0 0) F
  | rows {T : TypeId} {k n b c : Nat} {ds : List D} {F : Nat → Prop} (cur : Array Value) (V : Nat → Value) (G : Nat → Nat → Prop) (hblk : w.heap[b]? = some (.cells cur T (0, 0))) (hsz : cur.size = c * k) (hn : n ≤ c) (hm : c ≤ maxLen)
      (hl : ds.length = n * k) (hF : F b) (hv : ∀ i, i < n * k → cur[i]? = some (V i)) (hr : ∀ i d, ds[i]? = some d → DO w d (V i) (G i))
      (hG : ∀ i z, i < n * k → G i z → F z ∧ z ≠ b) (hd : ∀ i j z, i < n * k → j < n * k → i ≠ j → G i z → G j z → False) : DO w (.rows T k n ds) (.slice (some ⟨b, 0, none⟩) n c) F

theorem blk_lt {w : World} {b : Nat} {o : Obj} (h : w.heap[b]? = some o) : b < w.heap.size := (Array.getElem?_eq_some_iff.1 h).1
theorem ds_lt {ds : List D} {i m : Nat} {d : D} (h : ds[i]? = some d) (hl : ds.length = m) : i < m := hl ▸ (List.getElem?_eq_some_iff.1 h).1

theorem DO.stays {w w' : World} {F : Nat → Prop} {d : D} {v : Value} (h : DO w d v F) : Stays F w w' → DO w' d v F := by
  induction h with
  | cell u F => intro _; exact .cell u F
  | nil T k F => intro _; exact .nil T k F
  | rows cur V G hblk hsz hn hm hl hF hv hr hG hd ih =>
    intro hs
    exact .rows cur V G ((hs.2 _ hF (blk_lt hblk)).trans hblk) hsz hn hm hl hF hv (fun i d hi => ih i d hi ⟨hs.1, fun b hb hlt => hs.2 b (hG i b (ds_lt hi hl) hb).1 hlt⟩) hG hd
theorem DO.keep {w w' : World} {F : Nat → Prop} {d : D} {v : Value} (h : DO w d v F) (hb : Below w.heap.size w w') : DO w' d v F := h.stays (.of_below hb)
theorem DO.mono {w : World} {F F' : Nat → Prop} {d : D} {v : Value} (h : DO w d v F) (hF' : ∀ b, F b → F' b) : DO w d v F' := by
  cases h with
  | cell => exact .cell _ F'
  | nil => exact .nil _ _ F'
  | rows cur V G hblk hsz hn hm hl hF hv hr hG hd => exact .rows cur V G hblk hsz hn hm hl (hF' _ hF) hv hr (fun i z hi hz => ⟨hF' _ (hG i z hi hz).1, (hG i z hi hz).2⟩) hd
theorem DO.inHeap {w : World} {F : Nat → Prop} {d : D} {v : Value} (h : DO w d v F) : DO w d v (fun z => F z ∧ z < w.heap.size) := by
  induction h with
  | cell u F => exact .cell u _
  | nil T k F => exact .nil T k _
  | rows cur V G hblk hsz hn hm hl hF hv hr hG hd ih =>
    exact .rows cur V (fun i z => G i z ∧ z < w.heap.size) hblk hsz hn hm hl ⟨hF, blk_lt hblk⟩ hv ih (fun i z hi hz => ⟨⟨(hG i z hi hz.1).1, hz.2⟩, (hG i z hi hz.1).2⟩) (fun i j z hi hj hij h1 h2 => hd i j z hi hj hij h1.1 h2.1)
theorem DO.dm {w : World} {F : Nat → Prop} {d : D} {v : Value} (h : DO w d v F) : DM w F d v := by
  induction h with
  | cell u F => exact .cell u
  | nil T k F => exact .nil T k _ _
  | @rows T k n b c ds F cur V G hblk hsz hn hm hl hF hv hr hG hd ih =>
    by_cases h0 : n = 0
    · subst h0
      have : ds = [] := List.eq_nil_of_length_eq_zero (by simpa using hl)
      subst this
      exact .nil _ _ _ _
    · refine .rows V (by omega) hn (by unfold maxLen at hm; omega) hl hF (blk_lt hblk) (fun i d hi => ?_) (fun i d hi => (ih i d hi).mono (fun z hz _ => (hG i z (ds_lt hi hl) hz).1))
      rw [Nat.zero_add]
      simp only [World.cell?, hblk]
      exact hv i (ds_lt hi hl)
theorem DO.form {w : World} {F : Nat → Prop} {T : TypeId} {k n : Nat} {ds : List D} {v : Value} (h : DO w (.rows T k n ds) v F) : ∃ a c, v = .slice a n c := h.dm.form

theorem DO.inv {w : World} {F : Nat → Prop} {T : TypeId} {k n : Nat} {ds : List D} {v : Value} (h : DO w (.rows T k n ds) v F) : (n = 0 ∧ ds = [] ∧ v = .slice none 0 0) ∨
    ∃ (b c : Nat) (cur : Array Value) (V : Nat → Value) (G : Nat → Nat → Prop), v = .slice (some ⟨b, 0, none⟩) n c ∧ w.heap[b]? = some (.cells cur T (0, 0)) ∧ cur.size = c * k ∧ n ≤ c ∧ c ≤ maxLen ∧ ds.length = n * k ∧ F b ∧ (∀ i, i < n * k → cur[i]? = some (V i)) ∧
      (∀ i d, ds[i]? = some d → DO w d (V i) (G i)) ∧ (∀ i z, i < n * k → G i z → F z ∧ z ≠ b) ∧ (∀ i j z, i < n * k → j < n * k → i ≠ j → G i z → G j z → False) := by
  cases h with
  | nil => exact Or.inl ⟨rfl, rfl, rfl⟩
  | rows cur V G hblk hsz hn hm hl hF hv hr hG hd => exact Or.inr ⟨_, _, cur, V, G, rfl, hblk, hsz, hn, hm, hl, hF, hv, hr, hG, hd⟩
theorem DO.val {w : World} {F : Nat → Prop} {u v : Value} (h : DO w (.cell u) v F) : v = u := by
  cases h; rfl

/-- A struct's cells, each a datum. -/
def MS (w : World) (C : Nat → Prop) (ds : List D) (vs : List Value) : Prop := vs.length = ds.length ∧ ∀ (i : Nat) (d : D) (v : Value), ds[i]? = some d → vs[i]? = some v → DM w C d v
structure OSt (w : World) (ds : List D) (vs : List Value) (F : Nat → Prop) : Prop where
  len : vs.length = ds.length
  G : ∃ G : Nat → Nat → Prop, (∀ (i : Nat) (d : D) (v : Value), ds[i]? = some d → vs[i]? = some v → DO w d v (G i)) ∧ (∀ i z, i < ds.length → G i z → F z) ∧ ∀ i j z, i < ds.length → j < ds.length → i ≠ j → G i z → G j z → False
theorem MS.stays {w w' : World} {C : Nat → Prop} {ds : List D} {vs : List Value} (h : MS w C ds vs) (hs : Stays C w w') : MS w' C ds vs := ⟨h.1, fun i d v hd hv => (h.2 i d v hd hv).stays hs⟩
theorem MS.keep {w w' : World} {C : Nat → Prop} {ds : List D} {vs : List Value} (h : MS w C ds vs) (hb : Below w.heap.size w w') : MS w' C ds vs := h.stays (.of_below hb)
theorem MS.mono {w : World} {C C' : Nat → Prop} {ds : List D} {vs : List Value} (h : MS w C ds vs) (hC' : ∀ b, C b → b < w.heap.size → C' b) : MS w C' ds vs := ⟨h.1, fun i d v hd hv => (h.2 i d v hd hv).mono hC'⟩
theorem OSt.stays {w w' : World} {F : Nat → Prop} {ds : List D} {vs : List Value} (h : OSt w ds vs F) (hs : Stays F w w') : OSt w' ds vs F := by
  obtain ⟨hl, G, h1, h2, h3⟩ := h
  exact ⟨hl, G, fun i d v hd hv => (h1 i d v hd hv).stays ⟨hs.1, fun b hb hlt => hs.2 b (h2 i b (List.getElem?_eq_some_iff.1 hd).1 hb) hlt⟩, h2, h3⟩
theorem OSt.keep {w w' : World} {F : Nat → Prop} {ds : List D} {vs : List Value} (h : OSt w ds vs F) (hb : Below w.heap.size w w') : OSt w' ds vs F := h.stays (.of_below hb)
theorem OSt.mono {w : World} {F F' : Nat → Prop} {ds : List D} {vs : List Value} (h : OSt w ds vs F) (hF : ∀ b, F b → F' b) : OSt w ds vs F' := by
  obtain ⟨hl, G, h1, h2, h3⟩ := h
  exact ⟨hl, G, h1, fun i z hi hz => hF z (h2 i z hi hz), h3⟩
theorem OSt.ms {w : World} {F : Nat → Prop} {ds : List D} {vs : List Value} (h : OSt w ds vs F) : MS w F ds vs := by
  obtain ⟨hl, G, h1, h2, h3⟩ := h
  exact ⟨hl, fun i d v hd hv => (h1 i d v hd hv).dm.mono (fun z hz _ => h2 i z (List.getElem?_eq_some_iff.1 hd).1 hz)⟩
end Go.Proofs.YtfeijijeohfpgaaDoor

