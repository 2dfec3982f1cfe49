/-
  Erasing: the figure; what waits while the program erases: places that are still to be filled, and what stands when they are. Of no walk.
-/
import Derived.Test.YtjobmgbchpoheaaOwnT
import Derived.Test.YtjobmgbchpoheaaKind2
namespace Go.Proofs.Ytjobmgbchpoheaa
open Go Go.RowKit

/-- A node over erased parts. -/
def eraseK (k : Int) (es : List Ty) : Ty := if k = 4 ∧ es.length = 1 then es.headD (.mk k []) else .mk k es
mutual
def Ty.erase : Ty → Ty
  | .mk k ts => eraseK k (eraseS ts)
def eraseS : List Ty → List Ty
  | [] => []
  | t :: ts => t.erase :: eraseS ts
end
theorem eraseS_map (ts : List Ty) : eraseS ts = ts.map Ty.erase := by
  induction ts with
  | nil => rfl
  | cons t ts ih => simp [eraseS, ih]
theorem erase_eq (t : Ty) : t.erase = eraseK t.kind (t.args.map Ty.erase) := by cases t; simp [Ty.erase, eraseS_map]
theorem erase_code {y : Ty} (h : y.code = true) : ∃ z, y.args = [z] ∧ y.erase = z.erase := by
  unfold Ty.code at h
  rw [decide_eq_true_eq] at h
  obtain ⟨h1, h2⟩ := h
  obtain ⟨z, hz⟩ := List.length_eq_one_iff.1 h2
  exact ⟨z, hz, by rw [erase_eq, hz]; simp [eraseK, h1]⟩
theorem erase_node {y : Ty} (h : y.code = false) : y.erase = .mk y.kind (y.args.map Ty.erase) := by
  unfold Ty.code at h
  rw [decide_eq_false_iff_not] at h
  rw [erase_eq, eraseK, if_neg (by rw [List.length_map]; exact h)]

theorem cell_of_blk' {w : World} {g : Nat} {cs : Array Value} {t : TypeId} {fr : Nat × Nat} (h : w.heap[g]? = some (.cells cs t fr)) {i : Nat} : w.cell? ⟨g, i, none⟩ = cs[i]? := by simp [World.cell?, h]

/-- A place that is to be filled with a type, erased: the type, the place. -/
structure Job where
  x : Ty
  b : Nat
  o : Nat
/-- The cell belongs to no place that waits. -/
def Free (st : List Job) (b o : Nat) : Prop := ∀ e ∈ st, ¬ (e.b = b ∧ (o = e.o ∨ o = e.o + 1))

/-- The places are filled: each holds its type erased, in rows that are newer than w and apart; of the tree's blocks U nothing else has turned. -/
structure Filled' (w w' : World) (U : Nat → Prop) (st : List Job) : Prop where
  size : w.heap.size ≤ w'.heap.size
  same : ∀ b, U b → ∀ o, Free st b o → w'.cell? ⟨b, o, none⟩ = w.cell? ⟨b, o, none⟩
  shape : ∀ b, U b → ∀ cur : Array Value, w.heap[b]? = some (.cells cur 26 (0, 0)) → ∃ cur' : Array Value, w'.heap[b]? = some (.cells cur' 26 (0, 0)) ∧ cur'.size = cur.size
  full : ∃ G : Nat → Nat → Prop, (∀ i e, st[i]? = some e → ∃ s, w'.cell? ⟨e.b, e.o, none⟩ = some (.int .i64 e.x.erase.kind) ∧ w'.cell? ⟨e.b, e.o + 1, none⟩ = some s ∧ OS w' e.x.erase.args s (G i)) ∧
    (∀ i z, i < st.length → G i z → w.heap.size ≤ z) ∧ (∀ i j z, i < st.length → j < st.length → i ≠ j → G i z → G j z → False)

/-- The root holds the whole. -/
def RootDone (w' : World) (R : Nat) (T : Ty) : Prop := ∃ s, w'.cell? ⟨R, 0, none⟩ = some (.int .i64 T.kind) ∧ w'.cell? ⟨R, 1, none⟩ = some s ∧ OS w' T.args s (fun b => R < b)

/-- The state: where all that waits is filled the root holds the whole. -/
structure EInv (w : World) (U : Nat → Prop) (st : List Job) (R : Nat) (T : Ty) : Prop where
  lt : ∀ b, U b → R ≤ b ∧ b < w.heap.size ∧ ∃ cur, w.heap[b]? = some (.cells cur 26 (0, 0))
  root : R < w.heap.size
  loc : ∀ e ∈ st, U e.b ∧ (∃ q, w.cell? ⟨e.b, e.o, none⟩ = some (.int .i64 q)) ∧ (∃ u, w.cell? ⟨e.b, e.o + 1, none⟩ = some u) ∧ e.o % 2 = 0
  apart : ∀ (i j : Nat) (e f : Job), st[i]? = some e → st[j]? = some f → i ≠ j → ¬ (e.b = f.b ∧ e.o = f.o)
  wand : ∀ w', Filled' w w' U st → RootDone w' R T

theorem EInv.start {w : World} {R : Nat} {t : Ty} (h : w.heap[R]? = some (.cells #[.int .i64 0, .slice none 0 0] 26 (0, 0))) : EInv w (fun b => b = R) [⟨t, R, 0⟩] R t.erase := by
  have hlt := (Array.getElem?_eq_some_iff.1 h).1
  refine ⟨fun b hb => by subst hb; exact ⟨Nat.le_refl _, hlt, _, h⟩, hlt, fun e he => ?_, fun i j e f hi hj hij => ?_, fun w' hf => ?_⟩
  · simp only [List.mem_singleton] at he
    subst he
    exact ⟨rfl, ⟨0, by simp [World.cell?, h]⟩, ⟨.slice none 0 0, by simp [World.cell?, h]⟩, rfl⟩
  · have h1 := (List.getElem?_eq_some_iff.1 hi).1
    have h2 := (List.getElem?_eq_some_iff.1 hj).1
    simp only [List.length_singleton] at h1 h2
    omega
  · obtain ⟨G, h1, h2, _⟩ := hf.full
    obtain ⟨s', e1, e2, e3⟩ := h1 0 _ rfl
    exact ⟨s', e1, e2, e3.mono (fun b hb => Nat.lt_of_lt_of_le hlt (h2 0 b (by simp) hb))⟩

theorem EInv.done {w : World} {U : Nat → Prop} {R : Nat} {T : Ty} (h : EInv w U [] R T) : RootDone w R T :=
  h.wand w ⟨Nat.le_refl _, fun _ _ _ _ => rfl, fun _ _ cur hc => ⟨cur, hc, rfl⟩, fun _ _ => False, fun i e hi => by simp at hi, fun i z hi => by simp at hi, fun i j z hi => by simp at hi⟩

theorem EInv.frame {w w2 : World} {U : Nat → Prop} {st : List Job} {R : Nat} {T : Ty} (h : EInv w U st R T) (hs : w.heap.size ≤ w2.heap.size) (hU : ∀ c, U c → w2.heap[c]? = w.heap[c]?) : EInv w2 U st R T := by
  have hc : ∀ c q, U c → w2.cell? ⟨c, q, none⟩ = w.cell? ⟨c, q, none⟩ := fun c q hc => World.cell?_of_block (hU c hc)
  refine ⟨fun b hb => ?_, Nat.lt_of_lt_of_le h.root hs, fun e he => ?_, h.apart, fun w' hf => h.wand w' ⟨Nat.le_trans hs hf.size, fun b hb o ho => (hf.same b hb o ho).trans (hc b o hb), fun b hb cur hcur => hf.shape b hb cur ((hU b hb).trans hcur), ?_⟩⟩
  · obtain ⟨h1, h2, cur, h3⟩ := h.lt b hb
    exact ⟨h1, Nat.lt_of_lt_of_le h2 hs, cur, (hU b hb).trans h3⟩
  · obtain ⟨h1, ⟨q, h2⟩, ⟨u, h3⟩, h4⟩ := h.loc e he
    exact ⟨h1, ⟨q, (hc _ _ h1).trans h2⟩, ⟨u, (hc _ _ h1).trans h3⟩, h4⟩
  · obtain ⟨G, g1, g2, g3⟩ := hf.full
    exact ⟨G, g1, fun i z hi hz => Nat.le_trans hs (g2 i z hi hz), g3⟩

/-- The new places in a row: one for each part. -/
def kidsOf (b : Nat) (ys : List Ty) : List Job := ys.mapIdx fun j y => ⟨y, b, j * 2⟩
theorem kidsOf_length (b : Nat) (ys : List Ty) : (kidsOf b ys).length = ys.length := by simp [kidsOf]
theorem kidsOf_at {b : Nat} {ys : List Ty} {j : Nat} {e : Job} (h : (kidsOf b ys)[j]? = some e) : ∃ y, ys[j]? = some y ∧ e = ⟨y, b, j * 2⟩ := by
  simp only [kidsOf, List.getElem?_mapIdx, Option.map_eq_some_iff] at h
  obtain ⟨y, h1, h2⟩ := h
  exact ⟨y, h1, h2.symm⟩
theorem kidsOf_get {b : Nat} {ys : List Ty} {j : Nat} {y : Ty} (h : ys[j]? = some y) : (kidsOf b ys)[j]? = some ⟨y, b, j * 2⟩ := by
  simp [kidsOf, List.getElem?_mapIdx, h]
theorem kidsOf_mem {b : Nat} {ys : List Ty} {e : Job} (h : e ∈ kidsOf b ys) : e.b = b ∧ e.o % 2 = 0 ∧ ∃ j y, ys[j]? = some y ∧ e = ⟨y, b, j * 2⟩ := by
  obtain ⟨j, hj⟩ := List.getElem?_of_mem h
  obtain ⟨y, hy, rfl⟩ := kidsOf_at hj
  exact ⟨rfl, by simp, j, y, hy, rfl⟩

section
variable {w wn : World} {U : Nat → Prop} {st0 : List Job} {x y : Ty} {b o R : Nat} {T : Ty}

/-- The place that is filled next is none of the others. -/
theorem EInv.other (h : EInv w U (st0 ++ [⟨x, b, o⟩]) R T) : Free st0 b o ∧ Free st0 b (o + 1) := by
  have key : ∀ q, q = o ∨ q = o + 1 → Free st0 b q := by
    intro q hq e he hh
    obtain ⟨i, hi⟩ := List.getElem?_of_mem he
    have hil := (List.getElem?_eq_some_iff.1 hi).1
    have h1 := h.apart i st0.length e ⟨x, b, o⟩ (by rw [List.getElem?_append_left hil]; exact hi) (by simp) (by omega)
    have h2 := (h.loc e (List.mem_append_left _ he)).2.2.2
    have h3 := (h.loc ⟨x, b, o⟩ (by simp)).2.2.2
    simp only at h3
    exact h1 ⟨hh.1, by simp only; omega⟩
  exact ⟨key o (Or.inl rfl), key (o + 1) (Or.inr rfl)⟩

/-- A place is filled with a row of places. -/
theorem EInv.node (h : EInv w U (st0 ++ [⟨x, b, o⟩]) R T) (hy : x.erase = .mk y.kind (y.args.map Ty.erase)) (hsz : w.heap.size ≤ wn.heap.size)
    (hsame : ∀ c, U c → ∀ q, ¬ (c = b ∧ (q = o ∨ q = o + 1)) → wn.cell? ⟨c, q, none⟩ = w.cell? ⟨c, q, none⟩)
    (hshape : ∀ c, U c → ∀ cur : Array Value, w.heap[c]? = some (.cells cur 26 (0, 0)) → ∃ cur' : Array Value, wn.heap[c]? = some (.cells cur' 26 (0, 0)) ∧ cur'.size = cur.size)
    (hk : wn.cell? ⟨b, o, none⟩ = some (.int .i64 y.kind)) {b' cc : Nat} {KK : Nat → Int} {SS0 : Nat → Value} (hb' : w.heap.size ≤ b') (hrow : Row wn b' y.args.length cc KK SS0) (hm : cc ≤ maxLen)
    (ha : wn.cell? ⟨b, o + 1, none⟩ = some (.slice (some ⟨b', 0, none⟩) y.args.length cc)) :
    EInv wn (fun c => U c ∨ c = b') (st0 ++ kidsOf b' y.args) R T := by
  obtain ⟨hf0, hf1⟩ := h.other
  have hUb : U b := (h.loc ⟨x, b, o⟩ (by simp)).1
  have hne : ∀ c, U c → c ≠ b' := fun c hc e => by have := (h.lt c hc).2.1; omega
  have hb'n := hrow.lt
  refine ⟨fun c hc => ?_, Nat.lt_of_lt_of_le h.root hsz, fun e he => ?_, fun i j e f hi hj hij hh => ?_, fun w' hf => h.wand w' ⟨Nat.le_trans hsz hf.size, fun c hc q hq => ?_, fun c hc cur hcur => ?_, ?_⟩⟩
  · rcases hc with hc | rfl
    · obtain ⟨h1, h2, cur, h3⟩ := h.lt c hc
      obtain ⟨cur', h4, _⟩ := hshape c hc cur h3
      exact ⟨h1, Nat.lt_of_lt_of_le h2 hsz, cur', h4⟩
    · obtain ⟨cur, h1, _⟩ := hrow
      exact ⟨by have := h.root; omega, hb'n, cur, h1⟩
  · rcases List.mem_append.1 he with he | he
    · obtain ⟨h1, ⟨q, h2⟩, ⟨u, h3⟩, h4⟩ := h.loc e (List.mem_append_left _ he)
      have hd : ¬ (e.b = b ∧ (e.o = o ∨ e.o = o + 1)) ∧ ¬ (e.b = b ∧ (e.o + 1 = o ∨ e.o + 1 = o + 1)) := by
        have g0 := hf0 e he
        have g1 := hf1 e he
        have h5 := (h.loc ⟨x, b, o⟩ (by simp)).2.2.2
        simp only at h5
        constructor <;> rintro ⟨e1, e2⟩ <;> omega
      exact ⟨Or.inl h1, ⟨q, (hsame _ h1 _ hd.1).trans h2⟩, ⟨u, (hsame _ h1 _ hd.2).trans h3⟩, h4⟩
    · obtain ⟨h1, h2, j, z, hz, rfl⟩ := kidsOf_mem he
      have hj := (List.getElem?_eq_some_iff.1 hz).1
      exact ⟨Or.inr rfl, ⟨_, hrow.kind hj⟩, ⟨_, hrow.args hj⟩, h2⟩
  · by_cases hi0 : i < st0.length
    · rw [List.getElem?_append_left hi0] at hi
      by_cases hj0 : j < st0.length
      · rw [List.getElem?_append_left hj0] at hj
        exact h.apart i j e f (by rw [List.getElem?_append_left hi0]; exact hi) (by rw [List.getElem?_append_left hj0]; exact hj) hij hh
      · rw [List.getElem?_append_right (by omega)] at hj
        obtain ⟨z, _, rfl⟩ := kidsOf_at hj
        exact hne _ (h.loc e (List.mem_append_left _ (List.mem_of_getElem? hi))).1 hh.1
    · rw [List.getElem?_append_right (by omega)] at hi
      obtain ⟨z, _, rfl⟩ := kidsOf_at hi
      by_cases hj0 : j < st0.length
      · rw [List.getElem?_append_left hj0] at hj
        exact hne _ (h.loc f (List.mem_append_left _ (List.mem_of_getElem? hj))).1 hh.1.symm
      · rw [List.getElem?_append_right (by omega)] at hj
        obtain ⟨z2, _, rfl⟩ := kidsOf_at hj
        have := hh.2
        simp only at this
        omega
  · rw [hf.same c (Or.inl hc) q (fun e he hh => ?_)]
    · exact hsame c hc q (fun hh => hq ⟨x, b, o⟩ (by simp) ⟨hh.1.symm, hh.2⟩)
    · rcases List.mem_append.1 he with he | he
      · exact hq e (List.mem_append_left _ he) hh
      · exact hne c hc ((kidsOf_mem he).1 ▸ hh.1).symm
  · obtain ⟨cur', h1, h2⟩ := hshape c hc cur hcur
    obtain ⟨cur'', h3, h4⟩ := hf.shape c (Or.inl hc) cur' h1
    exact ⟨cur'', h3, h4.trans h2⟩
  · obtain ⟨G, g1, g2, g3⟩ := hf.full
    have hlen : (st0 ++ kidsOf b' y.args).length = st0.length + y.args.length := by rw [List.length_append, kidsOf_length]
    have freeK : ∀ q, Free st0 b q → Free (st0 ++ kidsOf b' y.args) b q := fun q hq e he hh => by
      rcases List.mem_append.1 he with he | he
      · exact hq e he hh
      · exact hne b hUb ((kidsOf_mem he).1 ▸ hh.1).symm
    have kid : ∀ j z, y.args[j]? = some z → ∃ s, w'.cell? ⟨b', j * 2, none⟩ = some (.int .i64 z.erase.kind) ∧ w'.cell? ⟨b', j * 2 + 1, none⟩ = some s ∧ OS w' z.erase.args s (G (st0.length + j)) := by
      intro j z hz
      have := g1 (st0.length + j) ⟨z, b', j * 2⟩ (by rw [List.getElem?_append_right (by omega), show st0.length + j - st0.length = j by omega]; exact kidsOf_get hz)
      exact this
    obtain ⟨cur0, r1, r2, r3, _⟩ := hrow
    obtain ⟨cur', c1, c2⟩ := hf.shape b' (Or.inr rfl) cur0 r1
    classical
    let S : Nat → Value := fun j => if hj : j < y.args.length then Classical.choose (kid j y.args[j] (List.getElem?_eq_getElem hj)) else .slice none 0 0
    have hS : ∀ j z, y.args[j]? = some z → w'.cell? ⟨b', j * 2, none⟩ = some (.int .i64 z.erase.kind) ∧ w'.cell? ⟨b', j * 2 + 1, none⟩ = some (S j) ∧ OS w' z.erase.args (S j) (G (st0.length + j)) := by
      intro j z hz
      obtain ⟨hj, rfl⟩ := List.getElem?_eq_some_iff.1 hz
      have e : S j = Classical.choose (kid j y.args[j] (List.getElem?_eq_getElem hj)) := dif_pos hj
      rw [e]
      exact Classical.choose_spec (kid j y.args[j] (List.getElem?_eq_getElem hj))
    refine ⟨fun i => if i < st0.length then G i else fun z => z = b' ∨ ∃ j, j < y.args.length ∧ G (st0.length + j) z, fun i e hi => ?_, fun i z hi hz => ?_, fun i j z hi hj hij hz1 hz2 => ?_⟩
    · by_cases hi0 : i < st0.length
      · simp only [if_pos hi0]
        rw [List.getElem?_append_left hi0] at hi
        exact g1 i e (by rw [List.getElem?_append_left hi0]; exact hi)
      · simp only [if_neg hi0]
        rw [List.getElem?_append_right (by omega)] at hi
        have hi1 : i - st0.length = 0 := by
          have := (List.getElem?_eq_some_iff.1 hi).1
          simp at this
          omega
        rw [hi1] at hi
        simp at hi
        subst hi
        refine ⟨.slice (some ⟨b', 0, none⟩) y.args.length cc, ?_, ?_, ?_⟩
        · rw [hf.same b (Or.inl hUb) o (freeK o hf0), hk, hy]; rfl
        · rw [hf.same b (Or.inl hUb) (o + 1) (freeK _ hf1), ha]
        · rw [hy]
          have hl : (y.args.map Ty.erase).length = y.args.length := List.length_map _
          have key := OS.row (w := w') (ts := y.args.map Ty.erase) (b := b') (c := cc) (F := fun z => z = b' ∨ ∃ j, j < y.args.length ∧ G (st0.length + j) z)
            (fun j => ((y.args.map Ty.erase)[j]?.getD (.mk 0 [])).kind) S (fun j => G (st0.length + j)) ?_ hm (Or.inl rfl) (fun j z hz => by rw [hz]; rfl) (fun j z hz => ?_) (fun j z hj hz => ?_) (fun i j z hi hj hij h1 h2 => ?_)
          · rw [hl] at key
            exact key
          · refine ⟨cur', c1, by rw [c2, r2], by rw [hl]; exact r3, fun j hj => ?_⟩
            rw [hl] at hj
            obtain ⟨e1, e2, _⟩ := hS j _ (List.getElem?_eq_getElem hj)
            rw [cell_of_blk' c1] at e1 e2
            refine ⟨?_, e2⟩
            rw [e1]
            simp [hj]
          · rw [List.getElem?_map, Option.map_eq_some_iff] at hz
            obtain ⟨z', hz', rfl⟩ := hz
            exact (hS j z' hz').2.2
          · rw [hl] at hj
            have := g2 (st0.length + j) z (by omega) hz
            exact ⟨Or.inr ⟨j, hj, hz⟩, by omega⟩
          · rw [hl] at hi hj
            exact g3 _ _ z (by omega) (by omega) (by omega) h1 h2
    · by_cases hi0 : i < st0.length
      · simp only [if_pos hi0] at hz
        exact Nat.le_trans hsz (g2 i z (by omega) hz)
      · simp only [if_neg hi0] at hz
        rcases hz with rfl | ⟨j, hj, hz⟩
        · exact hb'
        · exact Nat.le_trans hsz (g2 _ z (by omega) hz)
    · rw [List.length_append, List.length_singleton] at hi hj
      by_cases hi0 : i < st0.length
      · simp only [if_pos hi0] at hz1
        have hj0 : j < st0.length ∨ j = st0.length := by omega
        rcases hj0 with hj0 | rfl
        · simp only [if_pos hj0] at hz2
          exact g3 i j z (by omega) (by omega) hij hz1 hz2
        · simp only [Nat.lt_irrefl, if_false] at hz2
          rcases hz2 with rfl | ⟨m, hm', hz2⟩
          · have := g2 i z (by omega) hz1
            omega
          · exact g3 i _ z (by omega) (by omega) (by omega) hz1 hz2
      · have hi1 : i = st0.length := by omega
        subst hi1
        simp only [Nat.lt_irrefl, if_false] at hz1
        have hj0 : j < st0.length := by omega
        simp only [if_pos hj0] at hz2
        rcases hz1 with rfl | ⟨m, hm', hz1⟩
        · have := g2 j z (by omega) hz2
          omega
        · exact g3 _ j z (by omega) (by omega) (by omega) hz1 hz2

/-- A place is filled with a type without parts. -/
theorem EInv.leaf (h : EInv w U (st0 ++ [⟨x, b, o⟩]) R T) (hy : x.erase = .mk y.kind []) (hsz : w.heap.size ≤ wn.heap.size)
    (hsame : ∀ c, U c → ∀ q, ¬ (c = b ∧ (q = o ∨ q = o + 1)) → wn.cell? ⟨c, q, none⟩ = w.cell? ⟨c, q, none⟩)
    (hshape : ∀ c, U c → ∀ cur : Array Value, w.heap[c]? = some (.cells cur 26 (0, 0)) → ∃ cur' : Array Value, wn.heap[c]? = some (.cells cur' 26 (0, 0)) ∧ cur'.size = cur.size)
    (hk : wn.cell? ⟨b, o, none⟩ = some (.int .i64 y.kind)) (ha : wn.cell? ⟨b, o + 1, none⟩ = some (.slice none 0 0)) : EInv wn U st0 R T := by
  obtain ⟨hf0, hf1⟩ := h.other
  have hUb : U b := (h.loc ⟨x, b, o⟩ (by simp)).1
  refine ⟨fun c hc => ?_, Nat.lt_of_lt_of_le h.root hsz, fun e he => ?_, fun i j e f hi hj hij => ?_, fun w' hf => h.wand w' ⟨Nat.le_trans hsz hf.size, fun c hc q hq => ?_, fun c hc cur hcur => ?_, ?_⟩⟩
  · obtain ⟨h1, h2, cur, h3⟩ := h.lt c hc
    obtain ⟨cur', h4, _⟩ := hshape c hc cur h3
    exact ⟨h1, Nat.lt_of_lt_of_le h2 hsz, cur', h4⟩
  · obtain ⟨h1, ⟨q, h2⟩, ⟨u, h3⟩, h4⟩ := h.loc e (List.mem_append_left _ he)
    have hd : ¬ (e.b = b ∧ (e.o = o ∨ e.o = o + 1)) ∧ ¬ (e.b = b ∧ (e.o + 1 = o ∨ e.o + 1 = o + 1)) := by
      have g0 := hf0 e he
      have g1 := hf1 e he
      have h5 := (h.loc ⟨x, b, o⟩ (by simp)).2.2.2
      simp only at h5
      constructor <;> rintro ⟨e1, e2⟩ <;> omega
    exact ⟨h1, ⟨q, (hsame _ h1 _ hd.1).trans h2⟩, ⟨u, (hsame _ h1 _ hd.2).trans h3⟩, h4⟩
  · have hi0 := (List.getElem?_eq_some_iff.1 hi).1
    have hj0 := (List.getElem?_eq_some_iff.1 hj).1
    exact h.apart i j e f (by rw [List.getElem?_append_left hi0]; exact hi) (by rw [List.getElem?_append_left hj0]; exact hj) hij
  · rw [hf.same c hc q (fun e he hh => hq e (List.mem_append_left _ he) hh)]
    exact hsame c hc q (fun hh => hq ⟨x, b, o⟩ (by simp) ⟨hh.1.symm, hh.2⟩)
  · obtain ⟨cur', h1, h2⟩ := hshape c hc cur hcur
    obtain ⟨cur'', h3, h4⟩ := hf.shape c hc cur' h1
    exact ⟨cur'', h3, h4.trans h2⟩
  · obtain ⟨G, g1, g2, g3⟩ := hf.full
    refine ⟨fun i => if i < st0.length then G i else fun _ => False, fun i e hi => ?_, fun i z hi hz => ?_, fun i j z hi hj hij hz1 hz2 => ?_⟩
    · by_cases hi0 : i < st0.length
      · simp only [if_pos hi0]
        rw [List.getElem?_append_left hi0] at hi
        exact g1 i e hi
      · simp only [if_neg hi0]
        rw [List.getElem?_append_right (by omega)] at hi
        have hi1 : i - st0.length = 0 := by
          have := (List.getElem?_eq_some_iff.1 hi).1
          simp at this
          omega
        rw [hi1] at hi
        simp at hi
        subst hi
        refine ⟨.slice none 0 0, ?_, ?_, ?_⟩
        · rw [hf.same b hUb o hf0, hk, hy]; rfl
        · rw [hf.same b hUb (o + 1) hf1, ha]
        · rw [hy]; exact .none _
    · by_cases hi0 : i < st0.length
      · simp only [if_pos hi0] at hz
        exact Nat.le_trans hsz (g2 i z hi0 hz)
      · simp only [if_neg hi0] at hz
    · by_cases hi0 : i < st0.length
      · by_cases hj0 : j < st0.length
        · simp only [if_pos hi0] at hz1
          simp only [if_pos hj0] at hz2
          exact g3 i j z hi0 hj0 hij hz1 hz2
        · simp only [if_neg hj0] at hz2
      · simp only [if_neg hi0] at hz1
end
end Go.Proofs.Ytjobmgbchpoheaa

