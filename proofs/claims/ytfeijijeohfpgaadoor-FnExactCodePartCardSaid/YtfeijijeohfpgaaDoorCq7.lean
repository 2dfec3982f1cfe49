/-
  Several texts of the proof in one (each says below what it holds): ErC GrowC GrP CpP CpS OpArI FormA.
-/
import Derived.Test.YtfeijijeohfpgaaDoorCq5
import Derived.Test.YtfeijijeohfpgaaDoorCq6
import Derived.Test.YtfeijijeohfpgaaDoorCq4
import Derived.Deep.RegionHeld3
set_option linter.unusedVariables false
set_option linter.unusedSimpArgs false
namespace Go.Proofs.YtfeijijeohfpgaaDoor
open Go Go.RowKit
def Ty.same (t : Ty) : Ty := t
theorem same_node (x : Ty) : x.same = .mk x.kind (x.args.map Ty.same) := by
  have h : x.args.map Ty.same = x.args := by
    have : Ty.same = id := rfl
    rw [this, List.map_id]
  rw [h]
  cases x; rfl
structure FilledC (w w' : World) (U : Nat → Prop) (st : List Job) : Prop where
  size : w.heap.size ≤ w'.heap.size
  same : ∀ b, U b → ∀ o, Free st b o → w'.cell? ⟨b, o, none⟩ = w.cell? ⟨b, o, none⟩
  shape : ∀ b, U b → ∀ cur : Array Value, w.heap[b]? = some (.cells cur 32 (0, 0)) → ∃ cur' : Array Value, w'.heap[b]? = some (.cells cur' 32 (0, 0)) ∧ cur'.size = cur.size
  full : ∃ G : Nat → Nat → Prop, (∀ i e, st[i]? = some e → ∃ s, w'.cell? ⟨e.b, e.o, none⟩ = some (.int .i64 e.x.same.kind) ∧ w'.cell? ⟨e.b, e.o + 1, none⟩ = some s ∧ OS w' e.x.same.args s (G i)) ∧
    (∀ i z, i < st.length → G i z → w.heap.size ≤ z) ∧ (∀ i j z, i < st.length → j < st.length → i ≠ j → G i z → G j z → False)
structure CyInv (w : World) (U : Nat → Prop) (st : List Job) (R : Nat) (T : Ty) : Prop where
  lt : ∀ b, U b → R ≤ b ∧ b < w.heap.size ∧ ∃ cur, w.heap[b]? = some (.cells cur 32 (0, 0))
  root : R < w.heap.size
  loc : ∀ e ∈ st, U e.b ∧ (∃ q, w.cell? ⟨e.b, e.o, none⟩ = some (.int .i64 q)) ∧ (∃ u, w.cell? ⟨e.b, e.o + 1, none⟩ = some u) ∧ e.o % 2 = 0
  apart : ∀ (i j : Nat) (e f : Job), st[i]? = some e → st[j]? = some f → i ≠ j → ¬ (e.b = f.b ∧ e.o = f.o)
  wand : ∀ w', FilledC w w' U st → RootDone w' R T

theorem CyInv.start {w : World} {R : Nat} {t : Ty} (h : w.heap[R]? = some (.cells #[.int .i64 0, .slice none 0 0] 32 (0, 0))) : CyInv w (fun b => b = R) [⟨t, R, 0⟩] R t.same := by
  have hlt := (Array.getElem?_eq_some_iff.1 h).1
  refine ⟨fun b hb => by subst hb; exact ⟨Nat.le_refl _, hlt, _, h⟩, hlt, fun e he => ?_, fun i j e f hi hj hij => ?_, fun w' hf => ?_⟩
  · simp only [List.mem_singleton] at he
    subst he
    exact ⟨rfl, ⟨0, by simp [World.cell?, h]⟩, ⟨.slice none 0 0, by simp [World.cell?, h]⟩, rfl⟩
  · have h1 := (List.getElem?_eq_some_iff.1 hi).1
    have h2 := (List.getElem?_eq_some_iff.1 hj).1
    simp only [List.length_singleton] at h1 h2
    omega
  · obtain ⟨G, h1, h2, _⟩ := hf.full
    obtain ⟨s', e1, e2, e3⟩ := h1 0 _ rfl
    exact ⟨s', e1, e2, e3.mono (fun b hb => Nat.lt_of_lt_of_le hlt (h2 0 b (by simp) hb))⟩

theorem CyInv.done {w : World} {U : Nat → Prop} {R : Nat} {T : Ty} (h : CyInv w U [] R T) : RootDone w R T :=
  h.wand w ⟨Nat.le_refl _, fun _ _ _ _ => rfl, fun _ _ cur hc => ⟨cur, hc, rfl⟩, fun _ _ => False, fun i e hi => by simp at hi, fun i z hi => by simp at hi, fun i j z hi => by simp at hi⟩

theorem CyInv.frame {w w2 : World} {U : Nat → Prop} {st : List Job} {R : Nat} {T : Ty} (h : CyInv w U st R T) (hs : w.heap.size ≤ w2.heap.size) (hU : ∀ c, U c → w2.heap[c]? = w.heap[c]?) : CyInv w2 U st R T := by
  have hc : ∀ c q, U c → w2.cell? ⟨c, q, none⟩ = w.cell? ⟨c, q, none⟩ := fun c q hc => World.cell?_of_block (hU c hc)
  refine ⟨fun b hb => ?_, Nat.lt_of_lt_of_le h.root hs, fun e he => ?_, h.apart, fun w' hf => h.wand w' ⟨Nat.le_trans hs hf.size, fun b hb o ho => (hf.same b hb o ho).trans (hc b o hb), fun b hb cur hcur => hf.shape b hb cur ((hU b hb).trans hcur), ?_⟩⟩
  · obtain ⟨h1, h2, cur, h3⟩ := h.lt b hb
    exact ⟨h1, Nat.lt_of_lt_of_le h2 hs, cur, (hU b hb).trans h3⟩
  · obtain ⟨h1, ⟨q, h2⟩, ⟨u, h3⟩, h4⟩ := h.loc e he
    exact ⟨h1, ⟨q, (hc _ _ h1).trans h2⟩, ⟨u, (hc _ _ h1).trans h3⟩, h4⟩
  · obtain ⟨G, g1, g2, g3⟩ := hf.full
    exact ⟨G, g1, fun i z hi hz => Nat.le_trans hs (g2 i z hi hz), g3⟩

section
variable {w wn : World} {U : Nat → Prop} {st0 : List Job} {x y : Ty} {b o R : Nat} {T : Ty}
theorem CyInv.other (h : CyInv w U (st0 ++ [⟨x, b, o⟩]) R T) : Free st0 b o ∧ Free st0 b (o + 1) := by
  have key : ∀ q, q = o ∨ q = o + 1 → Free st0 b q := by
    intro q hq e he hh
    obtain ⟨i, hi⟩ := List.getElem?_of_mem he
    have hil := (List.getElem?_eq_some_iff.1 hi).1
    have h1 := h.apart i st0.length e ⟨x, b, o⟩ (by rw [List.getElem?_append_left hil]; exact hi) (by simp) (by omega)
    have h2 := (h.loc e (List.mem_append_left _ he)).2.2.2
    have h3 := (h.loc ⟨x, b, o⟩ (by simp)).2.2.2
    simp only at h3
    exact h1 ⟨hh.1, by simp only; omega⟩
  exact ⟨key o (Or.inl rfl), key (o + 1) (Or.inr rfl)⟩
theorem CyInv.node (h : CyInv w U (st0 ++ [⟨x, b, o⟩]) R T) (hy : x.same = .mk y.kind (y.args.map Ty.same)) (hsz : w.heap.size ≤ wn.heap.size)
    (hsame : ∀ c, U c → ∀ q, ¬ (c = b ∧ (q = o ∨ q = o + 1)) → wn.cell? ⟨c, q, none⟩ = w.cell? ⟨c, q, none⟩)
    (hshape : ∀ c, U c → ∀ cur : Array Value, w.heap[c]? = some (.cells cur 32 (0, 0)) → ∃ cur' : Array Value, wn.heap[c]? = some (.cells cur' 32 (0, 0)) ∧ cur'.size = cur.size)
    (hk : wn.cell? ⟨b, o, none⟩ = some (.int .i64 y.kind)) {b' cc : Nat} {KK : Nat → Int} {SS0 : Nat → Value} (hb' : w.heap.size ≤ b') (hrow : Row wn b' y.args.length cc KK SS0) (hm : cc ≤ maxLen)
    (ha : wn.cell? ⟨b, o + 1, none⟩ = some (.slice (some ⟨b', 0, none⟩) y.args.length cc)) :
    CyInv wn (fun c => U c ∨ c = b') (st0 ++ kidsOf b' y.args) R T := by
  obtain ⟨hf0, hf1⟩ := h.other
  have hUb : U b := (h.loc ⟨x, b, o⟩ (by simp)).1
  have hne : ∀ c, U c → c ≠ b' := fun c hc e => by have := (h.lt c hc).2.1; omega
  have hb'n := hrow.lt
  refine ⟨fun c hc => ?_, Nat.lt_of_lt_of_le h.root hsz, fun e he => ?_, fun i j e f hi hj hij hh => ?_, fun w' hf => h.wand w' ⟨Nat.le_trans hsz hf.size, fun c hc q hq => ?_, fun c hc cur hcur => ?_, ?_⟩⟩
  · rcases hc with hc | rfl
    · obtain ⟨h1, h2, cur, h3⟩ := h.lt c hc
      obtain ⟨cur', h4, _⟩ := hshape c hc cur h3
      exact ⟨h1, Nat.lt_of_lt_of_le h2 hsz, cur', h4⟩
    · obtain ⟨cur, h1, _⟩ := hrow
      exact ⟨by have := h.root; omega, hb'n, cur, h1⟩
  · rcases List.mem_append.1 he with he | he
    · obtain ⟨h1, ⟨q, h2⟩, ⟨u, h3⟩, h4⟩ := h.loc e (List.mem_append_left _ he)
      have hd : ¬ (e.b = b ∧ (e.o = o ∨ e.o = o + 1)) ∧ ¬ (e.b = b ∧ (e.o + 1 = o ∨ e.o + 1 = o + 1)) := by
        have g0 := hf0 e he
        have g1 := hf1 e he
        have h5 := (h.loc ⟨x, b, o⟩ (by simp)).2.2.2
        simp only at h5
        constructor <;> rintro ⟨e1, e2⟩ <;> omega
      exact ⟨Or.inl h1, ⟨q, (hsame _ h1 _ hd.1).trans h2⟩, ⟨u, (hsame _ h1 _ hd.2).trans h3⟩, h4⟩
    · obtain ⟨h1, h2, j, z, hz, rfl⟩ := kidsOf_mem he
      have hj := (List.getElem?_eq_some_iff.1 hz).1
      exact ⟨Or.inr rfl, ⟨_, hrow.kind hj⟩, ⟨_, hrow.args hj⟩, h2⟩
  · by_cases hi0 : i < st0.length
    · rw [List.getElem?_append_left hi0] at hi
      by_cases hj0 : j < st0.length
      · rw [List.getElem?_append_left hj0] at hj
        exact h.apart i j e f (by rw [List.getElem?_append_left hi0]; exact hi) (by rw [List.getElem?_append_left hj0]; exact hj) hij hh
      · rw [List.getElem?_append_right (by omega)] at hj
        obtain ⟨z, _, rfl⟩ := kidsOf_at hj
        exact hne _ (h.loc e (List.mem_append_left _ (List.mem_of_getElem? hi))).1 hh.1
    · rw [List.getElem?_append_right (by omega)] at hi
      obtain ⟨z, _, rfl⟩ := kidsOf_at hi
      by_cases hj0 : j < st0.length
      · rw [List.getElem?_append_left hj0] at hj
        exact hne _ (h.loc f (List.mem_append_left _ (List.mem_of_getElem? hj))).1 hh.1.symm
      · rw [List.getElem?_append_right (by omega)] at hj
        obtain ⟨z2, _, rfl⟩ := kidsOf_at hj
        have := hh.2
        simp only at this
        omega
  · rw [hf.same c (Or.inl hc) q (fun e he hh => ?_)]
    · exact hsame c hc q (fun hh => hq ⟨x, b, o⟩ (by simp) ⟨hh.1.symm, hh.2⟩)
    · rcases List.mem_append.1 he with he | he
      · exact hq e (List.mem_append_left _ he) hh
      · exact hne c hc ((kidsOf_mem he).1 ▸ hh.1).symm
  · obtain ⟨cur', h1, h2⟩ := hshape c hc cur hcur
    obtain ⟨cur'', h3, h4⟩ := hf.shape c (Or.inl hc) cur' h1
    exact ⟨cur'', h3, h4.trans h2⟩
  · obtain ⟨G, g1, g2, g3⟩ := hf.full
    have hlen : (st0 ++ kidsOf b' y.args).length = st0.length + y.args.length := by rw [List.length_append, kidsOf_length]
    have freeK : ∀ q, Free st0 b q → Free (st0 ++ kidsOf b' y.args) b q := fun q hq e he hh => by
      rcases List.mem_append.1 he with he | he
      · exact hq e he hh
      · exact hne b hUb ((kidsOf_mem he).1 ▸ hh.1).symm
    have kid : ∀ j z, y.args[j]? = some z → ∃ s, w'.cell? ⟨b', j * 2, none⟩ = some (.int .i64 z.same.kind) ∧ w'.cell? ⟨b', j * 2 + 1, none⟩ = some s ∧ OS w' z.same.args s (G (st0.length + j)) := by
      intro j z hz
      have := g1 (st0.length + j) ⟨z, b', j * 2⟩ (by rw [List.getElem?_append_right (by omega), show st0.length + j - st0.length = j by omega]; exact kidsOf_get hz)
      exact this
    obtain ⟨cur0, r1, r2, r3, _⟩ := hrow
    obtain ⟨cur', c1, c2⟩ := hf.shape b' (Or.inr rfl) cur0 r1
    classical
    let S : Nat → Value := fun j => if hj : j < y.args.length then Classical.choose (kid j y.args[j] (List.getElem?_eq_getElem hj)) else .slice none 0 0
    have hS : ∀ j z, y.args[j]? = some z → w'.cell? ⟨b', j * 2, none⟩ = some (.int .i64 z.same.kind) ∧ w'.cell? ⟨b', j * 2 + 1, none⟩ = some (S j) ∧ OS w' z.same.args (S j) (G (st0.length + j)) := by
      intro j z hz
      obtain ⟨hj, rfl⟩ := List.getElem?_eq_some_iff.1 hz
      have e : S j = Classical.choose (kid j y.args[j] (List.getElem?_eq_getElem hj)) := dif_pos hj
      rw [e]
      exact Classical.choose_spec (kid j y.args[j] (List.getElem?_eq_getElem hj))
    refine ⟨fun i => if i < st0.length then G i else fun z => z = b' ∨ ∃ j, j < y.args.length ∧ G (st0.length + j) z, fun i e hi => ?_, fun i z hi hz => ?_, fun i j z hi hj hij hz1 hz2 => ?_⟩
    · by_cases hi0 : i < st0.length
      · simp only [if_pos hi0]
        rw [List.getElem?_append_left hi0] at hi
        exact g1 i e (by rw [List.getElem?_append_left hi0]; exact hi)
      · simp only [if_neg hi0]
        rw [List.getElem?_append_right (by omega)] at hi
        have hi1 : i - st0.length = 0 := by
          have := (List.getElem?_eq_some_iff.1 hi).1
          simp at this
          omega
        rw [hi1] at hi
        simp at hi
        subst hi
        refine ⟨.slice (some ⟨b', 0, none⟩) y.args.length cc, ?_, ?_, ?_⟩
        · rw [hf.same b (Or.inl hUb) o (freeK o hf0), hk, hy]; rfl
        · rw [hf.same b (Or.inl hUb) (o + 1) (freeK _ hf1), ha]
        · rw [hy]
          have hl : (y.args.map Ty.same).length = y.args.length := List.length_map _
          have key := OS.row (w := w') (ts := y.args.map Ty.same) (b := b') (c := cc) (F := fun z => z = b' ∨ ∃ j, j < y.args.length ∧ G (st0.length + j) z)
            (fun j => ((y.args.map Ty.same)[j]?.getD (.mk 0 [])).kind) S (fun j => G (st0.length + j)) ?_ hm (Or.inl rfl) (fun j z hz => by rw [hz]; rfl) (fun j z hz => ?_) (fun j z hj hz => ?_) (fun i j z hi hj hij h1 h2 => ?_)
          · rw [hl] at key
            exact key
          · refine ⟨cur', c1, by rw [c2, r2], by rw [hl]; exact r3, fun j hj => ?_⟩
            rw [hl] at hj
            obtain ⟨e1, e2, _⟩ := hS j _ (List.getElem?_eq_getElem hj)
            rw [cell_of_blk' c1] at e1 e2
            refine ⟨?_, e2⟩
            rw [e1]
            simp [hj]
          · rw [List.getElem?_map, Option.map_eq_some_iff] at hz
            obtain ⟨z', hz', rfl⟩ := hz
            exact (hS j z' hz').2.2
          · rw [hl] at hj
            have := g2 (st0.length + j) z (by omega) hz
            exact ⟨Or.inr ⟨j, hj, hz⟩, by omega⟩
          · rw [hl] at hi hj
            exact g3 _ _ z (by omega) (by omega) (by omega) h1 h2
    · by_cases hi0 : i < st0.length
      · simp only [if_pos hi0] at hz
        exact Nat.le_trans hsz (g2 i z (by omega) hz)
      · simp only [if_neg hi0] at hz
        rcases hz with rfl | ⟨j, hj, hz⟩
        · exact hb'
        · exact Nat.le_trans hsz (g2 _ z (by omega) hz)
    · rw [List.length_append, List.length_singleton] at hi hj
      by_cases hi0 : i < st0.length
      · simp only [if_pos hi0] at hz1
        have hj0 : j < st0.length ∨ j = st0.length := by omega
        rcases hj0 with hj0 | rfl
        · simp only [if_pos hj0] at hz2
          exact g3 i j z (by omega) (by omega) hij hz1 hz2
        · simp only [Nat.lt_irrefl, if_false] at hz2
          rcases hz2 with rfl | ⟨m, hm', hz2⟩
          · have := g2 i z (by omega) hz1
            omega
          · exact g3 i _ z (by omega) (by omega) (by omega) hz1 hz2
      · have hi1 : i = st0.length := by omega
        subst hi1
        simp only [Nat.lt_irrefl, if_false] at hz1
        have hj0 : j < st0.length := by omega
        simp only [if_pos hj0] at hz2
        rcases hz1 with rfl | ⟨m, hm', hz1⟩
        · have := g2 j z (by omega) hz2
          omega
        · exact g3 _ j z (by omega) (by omega) (by omega) hz1 hz2
theorem CyInv.leaf (h : CyInv w U (st0 ++ [⟨x, b, o⟩]) R T) (hy : x.same = .mk y.kind []) (hsz : w.heap.size ≤ wn.heap.size)
    (hsame : ∀ c, U c → ∀ q, ¬ (c = b ∧ (q = o ∨ q = o + 1)) → wn.cell? ⟨c, q, none⟩ = w.cell? ⟨c, q, none⟩)
    (hshape : ∀ c, U c → ∀ cur : Array Value, w.heap[c]? = some (.cells cur 32 (0, 0)) → ∃ cur' : Array Value, wn.heap[c]? = some (.cells cur' 32 (0, 0)) ∧ cur'.size = cur.size)
    (hk : wn.cell? ⟨b, o, none⟩ = some (.int .i64 y.kind)) (ha : wn.cell? ⟨b, o + 1, none⟩ = some (.slice none 0 0)) : CyInv wn U st0 R T := by
  obtain ⟨hf0, hf1⟩ := h.other
  have hUb : U b := (h.loc ⟨x, b, o⟩ (by simp)).1
  refine ⟨fun c hc => ?_, Nat.lt_of_lt_of_le h.root hsz, fun e he => ?_, fun i j e f hi hj hij => ?_, fun w' hf => h.wand w' ⟨Nat.le_trans hsz hf.size, fun c hc q hq => ?_, fun c hc cur hcur => ?_, ?_⟩⟩
  · obtain ⟨h1, h2, cur, h3⟩ := h.lt c hc
    obtain ⟨cur', h4, _⟩ := hshape c hc cur h3
    exact ⟨h1, Nat.lt_of_lt_of_le h2 hsz, cur', h4⟩
  · obtain ⟨h1, ⟨q, h2⟩, ⟨u, h3⟩, h4⟩ := h.loc e (List.mem_append_left _ he)
    have hd : ¬ (e.b = b ∧ (e.o = o ∨ e.o = o + 1)) ∧ ¬ (e.b = b ∧ (e.o + 1 = o ∨ e.o + 1 = o + 1)) := by
      have g0 := hf0 e he
      have g1 := hf1 e he
      have h5 := (h.loc ⟨x, b, o⟩ (by simp)).2.2.2
      simp only at h5
      constructor <;> rintro ⟨e1, e2⟩ <;> omega
    exact ⟨h1, ⟨q, (hsame _ h1 _ hd.1).trans h2⟩, ⟨u, (hsame _ h1 _ hd.2).trans h3⟩, h4⟩
  · have hi0 := (List.getElem?_eq_some_iff.1 hi).1
    have hj0 := (List.getElem?_eq_some_iff.1 hj).1
    exact h.apart i j e f (by rw [List.getElem?_append_left hi0]; exact hi) (by rw [List.getElem?_append_left hj0]; exact hj) hij
  · rw [hf.same c hc q (fun e he hh => hq e (List.mem_append_left _ he) hh)]
    exact hsame c hc q (fun hh => hq ⟨x, b, o⟩ (by simp) ⟨hh.1.symm, hh.2⟩)
  · obtain ⟨cur', h1, h2⟩ := hshape c hc cur hcur
    obtain ⟨cur'', h3, h4⟩ := hf.shape c hc cur' h1
    exact ⟨cur'', h3, h4.trans h2⟩
  · obtain ⟨G, g1, g2, g3⟩ := hf.full
    refine ⟨fun i => if i < st0.length then G i else fun _ => False, fun i e hi => ?_, fun i z hi hz => ?_, fun i j z hi hj hij hz1 hz2 => ?_⟩
    · by_cases hi0 : i < st0.length
      · simp only [if_pos hi0]
        rw [List.getElem?_append_left hi0] at hi
        exact g1 i e hi
      · simp only [if_neg hi0]
        rw [List.getElem?_append_right (by omega)] at hi
        have hi1 : i - st0.length = 0 := by
          have := (List.getElem?_eq_some_iff.1 hi).1
          simp at this
          omega
        rw [hi1] at hi
        simp at hi
        subst hi
        refine ⟨.slice none 0 0, ?_, ?_, ?_⟩
        · rw [hf.same b hUb o hf0, hk, hy]; rfl
        · rw [hf.same b hUb (o + 1) hf1, ha]
        · rw [hy]; exact .none _
    · by_cases hi0 : i < st0.length
      · simp only [if_pos hi0] at hz
        exact Nat.le_trans hsz (g2 i z hi0 hz)
      · simp only [if_neg hi0] at hz
    · by_cases hi0 : i < st0.length
      · by_cases hj0 : j < st0.length
        · simp only [if_pos hi0] at hz1
          simp only [if_pos hj0] at hz2
          exact g3 i j z hi0 hj0 hij hz1 hz2
        · simp only [if_neg hj0] at hz2
      · simp only [if_neg hi0] at hz1
end
end Go.Proofs.YtfeijijeohfpgaaDoor
namespace Go.Proofs.YtfeijijeohfpgaaDoor
open Go Go.RowKit
def SameRet (x : Ty) (W0 W : World) (C : Nat → Prop) (e : Ending) (W' : World) : Prop :=
  ∃ (y : Ty) (p : Option Addr) (c : Nat) (s' : Value), e = .returned (.tuple #[.agg #[.int .i64 y.kind, s'], .slice p y.args.length c]) ∧ x.same = .mk y.kind (y.args.map Ty.same) ∧ y.nodes ≤ x.nodes ∧ TS W0 C y.args (.slice p y.args.length c) ∧ Part W W' y.args.length s' ∧ Below W.heap.size W W'
theorem cpN_any {C : Nat → Prop} {x : Ty} {p : Option Addr} {c : Nat} {w0' w : World} (hw0' : Below w0'.heap.size w0' w) (h : TS w0' C x.args (.slice p x.args.length c)) (hn : x.nodes ≤ 2097153) :
    Calls Tryd.prog 115 #[.agg #[.int .i64 x.kind, .slice p x.args.length c]] w (SameRet x w0' w C) := by
  refine (copyN_any (y := x) (h.keep hw0') (by have := nodesS_ge x.args; have := x.nodes_eq; omega)).mono ?_
  rintro e w' ⟨s', rfl, hp, hb⟩
  exact ⟨x, p, c, s', rfl, same_node x, Nat.le_refl _, h, hp, hb⟩
structure EC (w wr : World) (t : Ty) (st : Jobs) (g cap : Nat) (U : Nat → Prop) : Prop where
  own : wr.ownsRow w.heap.size 142 3 (.slice (some ⟨g, 0, none⟩) st.length cap) st.length (tcells st)
  ts : ∀ e ∈ st, TS w (· < w.heap.size) e.1.x.args e.2
  inv : CyInv wr U (st.map (·.1)) (w.heap.size + 1 + 1) t.same
  gU : ¬ U g
  res : wr.heap[w.heap.size + 1]? = some (.cells #[.int .i64 0, .slice none 0 0] 32 (0, 0))
  below : Below w.heap.size w wr

set_option maxRecDepth 100000 in
set_option maxHeartbeats 4000000 in
theorem growC_any {C : Nat → Prop} {t : Ty} {p : Option Addr} {c : Nat} {w : World} (hS : TS w C t.args (.slice p t.args.length c)) (hn : t.nodes ≤ 1048577) :
    Calls Tryd.prog 114 #[.agg #[.int .i64 t.kind, .slice p t.args.length c], .func (.func 108) #[] #[], .func (.func 115) #[] #[]] w (NewT t.same w) := by
  obtain ⟨i0, hi, hz0, hz1, hz2⟩ := info_parts infoTk
  have HS := Lib.hid (hS.mono (C' := (· < w.heap.size)) (fun b _ h => h))
  clear hS
  go_enter Tryd.func114, Tryd.ntmps114
  go_wp2_with fail
  go_loopg [8] t.nodes (fun gk v wr => ∃ (st : Jobs) (g cap : Nat) (U : Nat → Prop), v = .slice (some ⟨g, 0, none⟩) st.length cap ∧ gk = tload st ∧ tload st ≤ t.nodes ∧ EC w wr t st g cap U)
  case atStart =>
    obtain ⟨wl, hwl, hsz, hbl, q0, q1, q2⟩ := loop_world3 w #[.int .i64 t.kind, .slice p t.args.length c] #[.int .i64 0, .slice none 0 0] #[.int .i64 0, .slice none 0 0] 32 32 32
    rw [hwl]
    have hb4 := (Below.refl wl.heap.size wl).alloc (Nat.le_refl _) (.cells #[.int .i64 t.kind, .slice p t.args.length c, .pointer (some ⟨w.heap.size + 1 + 1, 0, none⟩)] 142)
    refine ⟨[(⟨t, w.heap.size + 1 + 1, 0⟩, .slice p t.args.length c)], w.heap.size + 1 + 1 + 1, 1, fun b => b = w.heap.size + 1 + 1, rfl, by simp [tload], by simp [tload], ?_, ?_, ?_, by omega, ?_, ?_⟩
    · have h1 := World.ownsRow_lit (base := w.heap.size) (e := 142) (size := 3) wl #[.int .i64 t.kind, .slice p t.args.length c, .pointer (some ⟨w.heap.size + 1 + 1, 0, none⟩)] 1 (by omega) (by unfold maxLen; omega) rfl
      rw [hsz] at h1
      exact h1
    · intro e he
      simp only [List.mem_singleton] at he
      subst he
      exact HS.out
    · exact (CyInv.start q2).frame hb4.size (fun c hc => hb4.block c (by omega))
    · exact (hb4.block _ (by omega)).trans q1
    · exact hbl.trans (hb4.mono hbl.size)
  case round =>
    obtain ⟨st, g, cap, U, rfl, rfl, hle, hM⟩ := hrel
    rename World => wo
    rcases snoc_cases st with rfl | ⟨st0, e, rfl⟩
    · have HM := Lib.hid hM
      obtain ⟨sr, r0, r1, ro⟩ := hM.inv.done
      obtain ⟨pr, cr, rfl⟩ := ro.form
      have q0 := cell_of_blk hM.res 0
      have q1 := cell_of_blk hM.res 1
      have qz := unfrozen_of_blk hM.res
      simp only [List.getElem?_toArray, List.getElem?_cons_zero, List.getElem?_cons_succ] at q0 q1
      have HRO := Lib.hid ro
      clear hM ro
      go_wp2_with fail
      refine bodyPost_ret (v := .agg #[.int .i64 t.same.kind, .slice pr t.same.args.length cr]) ?_ rfl ?_
      · rw [results_cell1 rfl]
        go_simp
      · have hst : ∀ F : Nat → Prop, ¬ F (w.heap.size + 1) → Stays F wo ((wo.setCell ⟨w.heap.size + 1, 0, none⟩ (.int .i64 t.same.kind)).setCell ⟨w.heap.size + 1, 1, none⟩ (.slice pr t.same.args.length cr)) := fun F hF => (setCell_stays _ _ _ _ F hF).trans (setCell_stays _ _ _ _ F hF)
        refine ⟨_, rfl, ⟨_, rfl, ((HRO.out.stays (hst _ (by omega))).bound).mono (fun b hb => ⟨by omega, hb.2⟩)⟩, (HM.out.below.setCell (p := ⟨w.heap.size + 1, 0, none⟩) (by show w.heap.size ≤ w.heap.size + 1; omega) _).setCell (p := ⟨w.heap.size + 1, 1, none⟩) (by show w.heap.size ≤ w.heap.size + 1; omega) _⟩
    · obtain ⟨⟨x, b, o⟩, s⟩ := e
      have hT := hM.ts (⟨x, b, o⟩, s) (by simp)
      simp only at hT
      obtain ⟨p1, c1, rfl⟩ := hT.form
      have hlx := hT.len
      have hlen : (st0 ++ [((⟨x, b, o⟩, Value.slice p1 x.args.length c1) : Job × Value)]).length = st0.length + 1 := by simp
      have hown := hM.own
      rw [hlen] at hown
      rw [hlen]
      obtain ⟨hcap1, hcap2, hg1, hg2⟩ := row_cap hown
      have k0 := (hown.cellAt (st0.length * 3) (by omega)).trans (tcells_last st0 _).1
      have k1 := (hown.cellAt (st0.length * 3 + 1) (by omega)).trans (tcells_last st0 _).2.1
      have k2 := (hown.cellAt (st0.length * 3 + 2) (by omega)).trans (tcells_last st0 _).2.2
      simp only at k0 k1 k2
      unfold maxLen at hcap2
      have hlx0 : (tload st0 + x.nodes) ≤ t.nodes := by rw [tload_snoc] at hle; exact hle
      have HLE := Lib.hid hlx0
      obtain ⟨wn, hwn, hsn, hbn, rn⟩ := box_new wo #[.int .i64 x.kind, .slice p1 x.args.length c1, .pointer (some ⟨b, o, none⟩)] 142
      have HC := Lib.hid (cpN_any (hM.below.trans (hbn.mono hM.below.size)) hT (by omega))
      have HM := Lib.hid hM
      have HT := Lib.hid hT
      have HOWN := Lib.hid hown
      have HWN := Lib.hid (And.intro hsn (And.intro hbn rn))
      have HWW := Lib.hid hwn
      clear hM hT hown hle hlx0 hsn hbn rn hwn
      have i0' : (0 : Int) ≤ (st0.length : Int) := Int.natCast_nonneg _
      have i1' : (st0.length : Int) < ((st0.length : Int) + 1) := by omega
      go_wp2_with fail
      rw [HWW.out]
      refine HC.out.mono ?_
      rintro e w1 ⟨y, py, cy, s', rfl, hyn, hyx, hty, hpart, hb1⟩
      obtain ⟨ps, cs, rfl⟩ := part_slice hpart
      obtain ⟨hsn, hbn, rn⟩ := HWN.out
      have hb01 : Below wo.heap.size wo w1 := hbn.trans (hb1.mono hbn.size)
      have rn1 := (hb1.block wo.heap.size (by omega)).trans rn
      have hmap : (st0 ++ [((⟨x, b, o⟩, Value.slice p1 x.args.length c1) : Job × Value)]).map (·.1) = st0.map (·.1) ++ [⟨x, b, o⟩] := by simp
      have inv1 : CyInv w1 U (st0.map (·.1) ++ [⟨x, b, o⟩]) (w.heap.size + 1 + 1) t.same := hmap ▸ (HM.out.inv.frame hb01.size (fun k hk => hb01.block k (HM.out.inv.lt k hk).2.1))
      obtain ⟨wB, hwB, hsB, hbB, rB⟩ := box_new w1 #[.int .i64 y.kind, .slice ps y.args.length cs] 32
      have inv2 : CyInv wB U (st0.map (·.1) ++ [⟨x, b, o⟩]) (w.heap.size + 1 + 1) t.same := inv1.frame hbB.size (fun k hk => hbB.block k (inv1.lt k hk).2.1)
      obtain ⟨hUb, ⟨q0, l0⟩, ⟨u0, l1⟩, hpar⟩ := inv2.loc ⟨x, b, o⟩ (by simp)
      simp only at hUb l0 l1 hpar
      obtain ⟨hRb, hbw1, cur1, hcur1⟩ := inv2.lt b hUb
      have hbo : b < wo.heap.size := (HM.out.inv.lt b hUb).2.1
      have hs01 := hb01.size
      have hsz1 := hb1.size
      have lz := unfrozen_of_blk hcur1
      have rn2 := (hbB.block wo.heap.size (by omega)).trans rn1
      have n2 := cell_of_blk rn2 2
      have q0 := cell_of_blk rB 0
      have q1 := cell_of_blk rB 1
      simp only [List.getElem?_toArray, List.getElem?_cons_zero, List.getElem?_cons_succ] at n2 q0 q1
      obtain ⟨wk, hwk⟩ : ∃ wk, wB.setCell ⟨b, o, none⟩ (.int .i64 y.kind) = wk := ⟨_, rfl⟩
      have hblk1 : wk.heap[b]? = some (.cells (cur1.setIfInBounds o (.int .i64 y.kind)) 32 (0, 0)) := hwk ▸ Go.Joins.block_setCell hcur1 _
      have l1' : wk.cell? ⟨b, o + 1, none⟩ = some u0 := hwk ▸ (cell_setCell_ne (by omega)).trans l1
      have lz' := unfrozen_of_blk hblk1
      obtain ⟨wm, hwm⟩ : ∃ wm, wk.setCell ⟨b, o + 1, none⟩ (.slice ps y.args.length cs) = wm := ⟨_, rfl⟩
      have hsk : wk.heap.size = wB.heap.size := by rw [← hwk]; simp [World.setCell]
      have hsm : wm.heap.size = wB.heap.size := by rw [← hwm]; simp [World.setCell, hsk]
      have hother : ∀ z, z ≠ b → wm.heap[z]? = wB.heap[z]? := fun z hz => by
        rw [← hwm, Below.heap_setCell _ _ _ _ (by show z ≠ b; exact hz), ← hwk, Below.heap_setCell _ _ _ _ (by show z ≠ b; exact hz)]
      have hblkm : wm.heap[b]? = some (.cells ((cur1.setIfInBounds o (.int .i64 y.kind)).setIfInBounds (o + 1) (.slice ps y.args.length cs)) 32 (0, 0)) := hwm ▸ Go.Joins.block_setCell hblk1 _
      have rBm := (hother w1.heap.size (by omega)).trans rB
      have q0m := cell_of_blk rBm 0
      have q1m := cell_of_blk rBm 1
      simp only [List.getElem?_toArray, List.getElem?_cons_zero, List.getElem?_cons_succ] at q0m q1m
      have hBm : Below w.heap.size w wm := by
        rw [← hwm, ← hwk]
        exact set2_below ((HM.out.below.trans (hb01.mono HM.out.below.size)).trans (hbB.mono (Nat.le_trans HM.out.below.size hs01))) (by omega)
      have hkm : wm.cell? ⟨b, o, none⟩ = some (.int .i64 y.kind) := by
        rw [← hwm]
        refine (cell_setCell_ne (by omega)).trans ?_
        rw [← hwk]
        exact World.cell?_setCell_same' _ _ _ (by rw [l0]; rfl)
      have ham : wm.cell? ⟨b, o + 1, none⟩ = some (.slice ps y.args.length cs) := by
        rw [← hwm]
        exact World.cell?_setCell_same' _ _ _ (by rw [l1']; rfl)
      have hsame : ∀ c, U c → ∀ q, ¬ (c = b ∧ (q = o ∨ q = o + 1)) → wm.cell? ⟨c, q, none⟩ = wB.cell? ⟨c, q, none⟩ := fun c hc q hq => by
        rw [← hwm]
        refine (cell_setCell_ne (fun h => hq ⟨h.1, Or.inr h.2⟩)).trans ?_
        rw [← hwk]
        exact cell_setCell_ne (fun h => hq ⟨h.1, Or.inl h.2⟩)
      have hshape : ∀ c, U c → ∀ cur : Array Value, wB.heap[c]? = some (.cells cur 32 (0, 0)) → ∃ cur' : Array Value, wm.heap[c]? = some (.cells cur' 32 (0, 0)) ∧ cur'.size = cur.size := fun c hc cur hcur => by
        by_cases hcb : c = b
        · subst hcb
          rw [hcur1] at hcur
          simp only [Option.some.injEq, Obj.cells.injEq, and_true] at hcur
          subst hcur
          exact ⟨_, hblkm, by simp⟩
        · exact ⟨cur, (hother c hcb).trans hcur, rfl⟩
      have invN : CyInv wn U (st0.map (·.1) ++ [⟨x, b, o⟩]) (w.heap.size + 1 + 1) t.same := hmap ▸ (HM.out.inv.frame hbn.size (fun k hk => hbn.block k (HM.out.inv.lt k hk).2.1))
      have hUN : ∀ z, U z → wB.heap[z]? = wn.heap[z]? := fun z hz => by
        have hz1 := (invN.lt z hz).2.1
        exact (hbB.block z (by omega)).trans (hb1.block z hz1)
      have hsameN : ∀ c, U c → ∀ q, ¬ (c = b ∧ (q = o ∨ q = o + 1)) → wm.cell? ⟨c, q, none⟩ = wn.cell? ⟨c, q, none⟩ := fun c hc q hq => (hsame c hc q hq).trans (World.cell?_of_block (a := ⟨c, q, none⟩) (hUN c hc))
      have hshapeN : ∀ c, U c → ∀ cur : Array Value, wn.heap[c]? = some (.cells cur 32 (0, 0)) → ∃ cur' : Array Value, wm.heap[c]? = some (.cells cur' 32 (0, 0)) ∧ cur'.size = cur.size := fun c hc cur hcur => hshape c hc cur ((hUN c hc).trans hcur)
      obtain ⟨U', bb, hEI, hps, hU'⟩ : ∃ (U' : Nat → Prop) (bb : Nat), CyInv wm U' (st0.map (·.1) ++ kidsOf bb y.args) (w.heap.size + 1 + 1) t.same ∧ (0 < y.args.length → ps = some ⟨bb, 0, none⟩) ∧ ∀ z, U' z → U z ∨ wn.heap.size ≤ z := by
        rcases hpart with ⟨h0, h1⟩ | ⟨b', cc, K, S, h1, h2, h3, h4⟩
        · have hnil : y.args = [] := List.eq_nil_of_length_eq_zero h0
          refine ⟨U, 0, ?_, fun h => by omega, fun z hz => Or.inl hz⟩
          have := invN.leaf (y := y) (by rw [hyn, hnil]; rfl) (by omega) hsameN hshapeN hkm (by rw [ham, h1])
          rw [hnil]
          simpa [kidsOf] using this
        · simp only [Value.slice.injEq, true_and] at h1
          obtain ⟨rfl, rfl⟩ := h1
          refine ⟨_, b', invN.node (y := y) hyn (by omega) hsameN hshapeN hkm (b' := b') h2 ((h4.below hbB).of_block (hother b' (by omega))) h3 ham, fun _ => rfl, fun z hz => ?_⟩
          · rcases hz with hz | rfl
            · exact Or.inl hz
            · exact Or.inr h2
      have hown1 : wm.ownsRow w.heap.size 142 3 (.slice (some ⟨g, 0, none⟩) st0.length cap) st0.length (tcells st0) := by
        have hgb : g ≠ b := fun e => HM.out.gU (e ▸ hUb)
        have h2 := row_take (row_of_block HOWN.out ((hother g hgb).trans ((hbB.block g (by omega)).trans (hb01.block g hg2)))) (Nat.le_succ _)
        rw [tcells_take] at h2
        exact h2
      have hresm : wm.heap[w.heap.size + 1]? = some (.cells #[.int .i64 0, .slice none 0 0] 32 (0, 0)) := by
        have hlt := (Array.getElem?_eq_some_iff.1 HM.out.res).1
        exact (hother _ (by omega)).trans ((hbB.block _ (by omega)).trans ((hb01.block _ hlt).trans HM.out.res))
      have hlps : y.args.length ≤ 9223372036854775807 := hty.len
      have HTY := Lib.hid hty
      have HEI := Lib.hid hEI
      have HPS := Lib.hid hps
      have HU' := Lib.hid hU'
      have HOW := Lib.hid hown1
      have HRES := Lib.hid hresm
      have HBM := Lib.hid hBm
      have HWM := Lib.hid hwm
      have HWK := Lib.hid hwk
      have HWB := Lib.hid hwB
      have HNY := Lib.hid (And.intro hyx (show y.nodes = 1 + nodesS y.args from y.nodes_eq))
      have HUB := Lib.hid hUb
      have HSZ := Lib.hid (And.intro hsm (And.intro hsB (And.intro hsz1 hs01)))
      rw [← hwB] at n2 q0 q1 l0 l1 lz
      rw [← hwk, ← hwB] at l1' lz'
      rw [← hwm, ← hwk, ← hwB] at q0m q1m
      clear hty hEI hps hU' hown1 hresm hBm hwm hwk hwB hyx hyn hpart hb1 hsn hbn rn hb01 rn1 hmap inv1 hsB hbB rB inv2 hRb hbw1 hcur1 hbo hs01 hsz1 rn2 hblk1 hsk hsm hother hblkm rBm hkm ham hsame hshape invN hUN hsameN hshapeN HC HWN HWW k0 k1 k2 hUb
      go_wp2_with fail
      rw [HWB.out, HWK.out, HWM.out]
      refine (argsT_any _ _ _ _ _).mono ?_
      rintro e w2 ⟨rfl, hb2⟩
      have hs2 := hb2.size
      have inv3 : CyInv w2 U' (st0.map (·.1) ++ kidsOf bb y.args) (w.heap.size + 1 + 1) t.same := HEI.out.frame hs2 (fun k hk => hb2.block k (HEI.out.lt k hk).2.1)
      have HI3 := Lib.hid inv3
      have HO3 := Lib.hid (row_below HOW.out hb2)
      have HR3 := Lib.hid ((hb2.block _ (Array.getElem?_eq_some_iff.1 HRES.out).1).trans HRES.out)
      have HB3 := Lib.hid (HBM.out.trans (hb2.mono HBM.out.size))
      clear hb2 inv3 hs2 n2 q0 q1 l0 l1 lz l1' lz' q0m q1m hpar
      go_wp2_with fail
      go_loopw [8, 47] (fun v i wr => ∃ (k : Nat) (stx : Jobs) (g' cap' : Nat), v = .slice (some ⟨g', 0, none⟩) stx.length cap' ∧ i = .int .i64 k ∧ k ≤ y.args.length ∧ wr.ownsRow w.heap.size 142 3 (.slice (some ⟨g', 0, none⟩) stx.length cap') stx.length (tcells stx) ∧
        (∀ e ∈ stx, TS w (· < w.heap.size) e.1.x.args e.2) ∧ stx.map (·.1) = st0.map (·.1) ++ (kidsOf bb y.args).take k ∧ tload stx = tload st0 + nodesS (y.args.take k) ∧ (∀ c, U' c → wr.heap[c]? = w2.heap[c]?) ∧
        wr.heap[w.heap.size + 1]? = some (.cells #[.int .i64 0, .slice none 0 0] 32 (0, 0)) ∧ Below w.heap.size w wr ∧ w2.heap.size ≤ wr.heap.size) (fun _ i _ => y.args.length - (intOf i).toNat)
      case atStart => exact ⟨0, st0, g, cap, rfl, rfl, Nat.zero_le _, HO3.out, fun e he => HM.out.ts e (List.mem_append_left _ he), by simp, by simp [nodesS], fun _ _ => rfl, HR3.out, HB3.out, Nat.le_refl _⟩
      case round =>
        obtain ⟨k, stx, g', cap', rfl, rfl, hk, hox, htx, hmx, hlx2, hux, hrx, hBx, hsx⟩ := hrel
        have HOX := Lib.hid hox
        have HTX := Lib.hid htx
        have HMX := Lib.hid hmx
        have HLX := Lib.hid hlx2
        have HUX := Lib.hid hux
        have HRX := Lib.hid hrx
        have HBB := Lib.hid hBx
        have HSX := Lib.hid hsx
        clear hox htx hmx hlx2 hux hrx hBx hsx
        by_cases hlk : k < y.args.length
        · have e1 := List.getElem?_eq_getElem hlk
          obtain ⟨b3, o3, p', c', hpy, hcs, hTk⟩ := (HTY.out.mono (C' := fun _ => True) (fun _ _ _ => trivial)).at k _ e1
          subst hpy
          obtain ⟨f1, f2⟩ := hcs wr (⟨HBB.out.size, fun z _ hl => HBB.out.block z hl⟩)
          have hb3lt : b3 < w.heap.size := by
            obtain ⟨b4, o4, p4, c4, hq4, hcs4, -⟩ := HTY.out.at k _ e1
            simp only [Option.some.injEq, Addr.mk.injEq, and_true] at hq4
            obtain ⟨rfl, rfl⟩ := hq4
            exact World.block_lt_of_cell? w _ (hcs4 w (.of_below (Below.refl _ _))).1
          have hpsk := HPS.out (by omega)
          subst hpsk
          have hbnd : stx.length ≤ 1048577 := by
            have h1 := tload_ge stx
            have h2 := HLX.out
            have h3 := nodesS_take_le y.args k
            have h4 := HLE.out
            obtain ⟨h5, h6⟩ := HNY.out
            omega
          have HO0 := Lib.hid (show (wr.drew).ownsRow w.heap.size 142 3 (.slice (some ⟨g', 0, none⟩) stx.length cap') stx.length (tcells stx) from row_below HOX.out (Below.refl wr.heap.size wr).drew)
          have hgg := (row_cap HOX.out).2.2.1
          have hsz6 : w.heap.size ≤ wr.heap.size := HBB.out.size
          have HKA := Lib.hid (fun (w' : World) (g2 cap2 : Nat) (hA : Appd wr.drew w' w.heap.size 142 3 (.slice (some ⟨g', 0, none⟩) stx.length cap') stx.length (tcells stx) [.int .i64 y.args[k].kind, .slice p' y.args[k].args.length c', .pointer (some ⟨bb, k * 2, none⟩)] g2 cap2) =>
            (⟨keepApp hA f1 (fun e => by simp [Value.ownBlock] at e; omega), keepApp hA f2 (fun e => by simp [Value.ownBlock] at e; omega)⟩ :
              w'.cell? ⟨b3, o3 + k * 2, none⟩ = some (.int .i64 y.args[k].kind) ∧ w'.cell? ⟨b3, o3 + k * 2 + 1, none⟩ = some (.slice p' y.args[k].args.length c')))
          have HTK : Hid (TS w (· < w.heap.size) y.args[k].args (.slice p' y.args[k].args.length c')) := Lib.hid (hTk.mono (fun z _ hl => hl))
          have ii0 : (0 : Int) ≤ (k : Int) := Int.natCast_nonneg _
          have ii1 : (k : Int) < (y.args.length : Int) := by omega
          clear hcs hTk e1
          go_wp2_with fail
          go_region_held3 (fun w' => w'.cell? ⟨b3, o3 + k * 2, none⟩ = some (.int .i64 y.args[k].kind) ∧ w'.cell? ⟨b3, o3 + k * 2 + 1, none⟩ = some (.slice p' y.args[k].args.length c'))
            (first
              | exact HKA.out _ _ _ hA
              | (go_keep; done)
              | exact ⟨f1, f2⟩)
            (first
              | (refine step_app1 (w0 := wr.drew) (v := .slice (some ⟨g', 0, none⟩) stx.length cap') (n := stx.length) (xs := tcells stx) rfl (.tmp 50) (.tmp 59) rfl Tryd.underlying143 hi hz0 hz1 hz2 rfl (by decide) rfl HO0.out _ rfl (by simp) rfl (fun u hu => by simp at hu; rcases hu with rfl | rfl | rfl <;> rfl) (by unfold maxLen; omega) (by omega) (by simp; omega) ?_; intro w' g2 cap2 hA))
          rename_i hH
          have HA := Lib.hid hA
          clear hH hA f1 f2
          go_wp2_with fail
          go_roundw
          case rel =>
            have keepB : ∀ (cc : Nat) (cs : Array Value), wr.heap[cc]? = some (.cells cs 32 (0, 0)) → w'.heap[cc]? = wr.heap[cc]? := fun cc cs hcc => by
              have hlt := (Array.getElem?_eq_some_iff.1 hcc).1
              exact (HA.out.kept cc hlt (fun e => row_ne HOX.out hcc (by decide) (by simpa [Value.ownBlock] using e))).1
            have hinv : CyInv wr U' _ (w.heap.size + 1 + 1) t.same := HI3.out.frame HSX.out HUX.out
            have hown' := HA.out.own
            have hszA := HA.out.size
            have hsx2 := HSX.out
            refine ⟨k + 1, stx ++ [(⟨y.args[k], bb, k * 2⟩, .slice p' y.args[k].args.length c')], g2, cap2, by rw [List.length_append]; rfl, by go_num, by omega, ?_, ?_, ?_, ?_, fun cc hcc => ?_, (keepB _ _ HRX.out).trans HRX.out, HBB.out.trans ((Below.refl _ wr).drew.trans HA.out.below), ?_⟩
            · rw [List.length_append, tcells_snoc]
              exact hown'
            · intro e he
              rcases List.mem_append.1 he with he | he
              · exact HTX.out e he
              · simp only [List.mem_singleton] at he
                subst he
                exact HTK.out
            · rw [List.map_append, HMX.out, List.take_add_one, kidsOf_get (List.getElem?_eq_getElem hlk), List.append_assoc]
              rfl
            · rw [tload_snoc, HLX.out, nodesS_take_next _ _ hlk, Nat.add_assoc]
            · obtain ⟨_, _, cur, hcur⟩ := hinv.lt cc hcc
              exact (keepB cc cur hcur).trans (HUX.out cc hcc)
            · have h1 : wr.heap.size ≤ wr.drew.heap.size := Nat.le_refl _
              omega
          case measure => simp [intOf]; omega
        · obtain rfl : k = y.args.length := by omega
          go_wp2_with fail
          go_roundg (tload stx)
          case rel =>
            have h1 := HLE.out
            have h2 := HLX.out
            rw [List.take_length] at h2
            obtain ⟨h3, h3'⟩ := HNY.out
            have h4 := HMX.out
            rw [← kidsOf_length bb y.args, List.take_length] at h4
            have hinv : CyInv wr U' (stx.map (·.1)) (w.heap.size + 1 + 1) t.same := by
              rw [h4]
              exact HI3.out.frame HSX.out HUX.out
            refine ⟨stx, g', cap', _, rfl, rfl, by omega, HOX.out, HTX.out, hinv, fun hgU => ?_, HRX.out, HBB.out⟩
            obtain ⟨_, _, cur, hcur⟩ := hinv.lt g' hgU
            exact row_ne HOX.out hcur (by decide) rfl
          case measure =>
            have h2 := HLX.out
            rw [List.take_length] at h2
            rw [tload_snoc]
            obtain ⟨h3, h3'⟩ := HNY.out
            simp only
            omega
set_option maxRecDepth 100000 in
set_option maxHeartbeats 2000000 in
theorem copyTI_any {C : Nat → Prop} {t : Ty} {v : Value} {w : World} (h : TT w C t v) (hn : nodesS t.args ≤ 1048576) :
    Calls Tryd.prog 101 #[v] w (NewT t.same w) := by
  obtain ⟨s, rfl, hS⟩ := h
  obtain ⟨p, c, rfl⟩ := hS.form
  obtain ⟨w0, hw0, hs0, hb0, r0, r1⟩ := box_new2 w #[.int .i64 t.kind, .slice p t.args.length c] #[.int .i64 0, .slice none 0 0] 32 32
  have HC := Lib.hid (growC_any (hS.keep hb0) (by have := t.nodes_eq; omega))
  have HW := Lib.hid (And.intro hs0 (And.intro hb0 r1))
  have HWW := Lib.hid hw0
  clear hS hs0 hb0 r0 r1 hw0
  go_enter Tryd.func101, Tryd.ntmps101
  go_wp2_with fail
  rw [HWW.out]
  refine HC.out.mono ?_
  rintro e w1 ⟨v1, rfl, ⟨s1, rfl, ho⟩, hb1⟩
  obtain ⟨p1, c1, rfl⟩ := ho.form
  obtain ⟨hs0, hb0, r1⟩ := HW.out
  have r1' := (hb1.block _ (by omega)).trans r1
  have q0 := cell_of_blk r1' 0
  have q1 := cell_of_blk r1' 1
  have qz := unfrozen_of_blk r1'
  simp only [List.getElem?_toArray, List.getElem?_cons_zero, List.getElem?_cons_succ] at q0 q1
  have HO := Lib.hid ho
  have HB := Lib.hid (hb0.trans (hb1.mono hb0.size))
  clear ho hb1 hs0 hb0 r1 r1'
  go_wp2_with fail
  refine bodyPost_ret (v := .agg #[.int .i64 t.same.kind, .slice p1 t.same.args.length c1]) ?_ rfl ?_
  · rw [results_cell1 rfl]
    go_simp
  · have hs0 := HW.out.1
    refine ⟨_, rfl, ⟨_, rfl, (HO.out.stays ((setCell_stays _ _ _ _ _ (by omega)).trans (setCell_stays _ _ _ _ _ (by omega)))).mono (fun z hz => ⟨by omega, by simpa [World.setCell] using hz.2⟩)⟩, set2_below HB.out (by omega)⟩
theorem copyI_any {C : Nat → Prop} {t : Ty} {v : Value} {w : World} (h : TT w C t v) (hn : nodesS t.args ≤ 1048576) : Calls Tryd.prog 101 #[v] w (NewT t w) := copyTI_any h hn
end Go.Proofs.YtfeijijeohfpgaaDoor
namespace Go.Proofs.YtfeijijeohfpgaaDoor
open Go Go.RowKit
def NodeM (y : Tm) (p : Option Addr) (c : Nat) (W : World) (e : Ending) (W' : World) : Prop :=
  ∃ (tp' : Option Addr) (tc' : Nat) (rp' : Option Addr) (rc' : Nat) (p' : Option Addr) (c' bb : Nat) (F1 F2 : Nat → Prop), e = .returned (.tuple #[tmV y tp' tc' rp' rc' p' c', .slice p y.args.length c]) ∧
    OS W' y.ty.args (.slice tp' y.ty.args.length tc') F1 ∧ OS W' y.res.args (.slice rp' y.res.args.length rc') F2 ∧ (∀ z, F1 z → W.heap.size ≤ z ∧ BlkT W' z ∧ ¬ F2 z) ∧ (∀ z, F2 z → W.heap.size ≤ z ∧ BlkT W' z) ∧ PartsM W W' y.args.length p' c' bb ∧ Below W.heap.size W W'
theorem setN_ne {w : World} {b o a i : Nat} {vs : List Value} (h : a ≠ b) : (setN w b o vs).cell? ⟨a, i, none⟩ = w.cell? ⟨a, i, none⟩ := by
  induction vs generalizing w o with
  | nil => rfl
  | cons v vs ih => rw [setN, ih]; exact cell_setCell_ne (fun hh => h hh.1)
theorem setN_heap_ne {w : World} {b o a : Nat} {vs : List Value} (h : a ≠ b) : (setN w b o vs).heap[a]? = w.heap[a]? := by
  induction vs generalizing w o with
  | nil => rfl
  | cons v vs ih => rw [setN, ih]; exact Below.heap_setCell _ _ _ _ h
set_option maxRecDepth 100000 in
set_option maxHeartbeats 8000000 in
theorem copyNM_any {C : Nat → Prop} {y : Tm} {tp rp p : Option Addr} {tc rc c : Nat} {w : World} (hT : TM' w C y tp tc rp rc p c) (hn : y.args.length ≤ 2097152) (h1 : nodesS y.ty.args ≤ 1048576) (h2 : nodesS y.res.args ≤ 1048576) :
    Calls Tryd.prog 76 #[tmV y tp tc rp rc p c] w (NodeM y p c w) := by
  obtain ⟨wl, hwl, hsz, hbl, q0, q1, q2⟩ := box_new3 w (tmC y tp tc rp rc p c) #[.int .i64 0, .string ⟨#[]⟩, .string ⟨#[]⟩, .int .i64 0, .int .i64 0, .slice none 0 0, .int .i64 0, .slice none 0 0, .slice none 0 0] (tmC y tp tc rp rc p c) 35 35 35
  have HDR := Lib.hid ((Below.refl wl.heap.size wl).drew)
  have HSZ := Lib.hid hsz
  have HBL := Lib.hid hbl
  have HQ0 := Lib.hid q0
  have HQ1 := Lib.hid q1
  have HQ2 := Lib.hid q2
  have HWL := Lib.hid hwl
  have HT := Lib.hid hT
  have HS := Lib.hid (fun (W : World) (hW : Below wl.heap.size wl W) => show W.cell? ⟨w.heap.size, 4, none⟩ = some (.int .i64 y.ty.kind) ∧ W.cell? ⟨w.heap.size, 5, none⟩ = some (.slice tp y.ty.args.length tc) ∧ W.cell? ⟨w.heap.size, 6, none⟩ = some (.int .i64 y.res.kind) ∧ W.cell? ⟨w.heap.size, 7, none⟩ = some (.slice rp y.res.args.length rc) ∧ W.cell? ⟨w.heap.size, 8, none⟩ = some (.slice p y.args.length c) from by
    have h := (hW.block w.heap.size (by omega)).trans q0
    exact ⟨cell_of_blk h 4, cell_of_blk h 5, cell_of_blk h 6, cell_of_blk h 7, cell_of_blk h 8⟩)
  have HSN := Lib.hid (fun (W : World) (hW : W.cell? ⟨w.heap.size, 4, none⟩ = some (.int .i64 y.ty.kind) ∧ W.cell? ⟨w.heap.size, 5, none⟩ = some (.slice tp y.ty.args.length tc) ∧ W.cell? ⟨w.heap.size, 6, none⟩ = some (.int .i64 y.res.kind) ∧ W.cell? ⟨w.heap.size, 7, none⟩ = some (.slice rp y.res.args.length rc) ∧ W.cell? ⟨w.heap.size, 8, none⟩ = some (.slice p y.args.length c)) (o _k : Nat) (vs : List Value) =>
    show (setN W (w.heap.size + 1 + 1) o vs).cell? ⟨w.heap.size, 4, none⟩ = some (.int .i64 y.ty.kind) ∧ (setN W (w.heap.size + 1 + 1) o vs).cell? ⟨w.heap.size, 5, none⟩ = some (.slice tp y.ty.args.length tc) ∧ (setN W (w.heap.size + 1 + 1) o vs).cell? ⟨w.heap.size, 6, none⟩ = some (.int .i64 y.res.kind) ∧ (setN W (w.heap.size + 1 + 1) o vs).cell? ⟨w.heap.size, 7, none⟩ = some (.slice rp y.res.args.length rc) ∧ (setN W (w.heap.size + 1 + 1) o vs).cell? ⟨w.heap.size, 8, none⟩ = some (.slice p y.args.length c) from by
      have ne : w.heap.size ≠ w.heap.size + 1 + 1 := by omega
      exact ⟨(setN_ne ne).trans hW.1, (setN_ne ne).trans hW.2.1, (setN_ne ne).trans hW.2.2.1, (setN_ne ne).trans hW.2.2.2.1, (setN_ne ne).trans hW.2.2.2.2⟩)
  have HN := Lib.hid (fun (W : World) (hW : Below wl.heap.size wl W) (i : Nat) (_ : i < 9) => show W.cell? ⟨w.heap.size + 1 + 1, i, none⟩ = (tmC y tp tc rp rc p c)[i]? from by
    have h := (hW.block (w.heap.size + 1 + 1) (by omega)).trans q2
    simp [World.cell?, h])
  have HZ := Lib.hid (fun (W : World) (hW : Below wl.heap.size wl W) => unfrozen_of_blk ((hW.block (w.heap.size + 1 + 1) (by omega)).trans q2))
  have HC1 := Lib.hid (copyI_any (w := wl.drew) (⟨_, rfl, (HT.out.ty.keep hbl).keep HDR.out⟩ : TT wl.drew C y.ty (.agg #[.int .i64 y.ty.kind, .slice tp y.ty.args.length tc])) h1)
  have HC2 := Lib.hid (fun (W : World) (hW : Below wl.heap.size wl W) => copyI_any (w := W) (⟨_, rfl, (HT.out.res.keep hbl).keep hW⟩ : TT W C y.res (.agg #[.int .i64 y.res.kind, .slice rp y.res.args.length rc])) h2)
  have HAP := Lib.hid (fun (W : World) (hW : Below wl.heap.size wl W) => app_terms (w := W) ((HT.out.args.keep hbl).keep hW) hn 33)
  clear hT h1 h2 hn hwl hsz hbl q0 q1 q2
  go_enter Tryd.func76, Tryd.ntmps76
  go_wp2_with fail
  rw [HWL.out]
  refine wp_region_noPanic ?_
  refine wp_region_held_drew (S := (fun w' => w'.cell? ⟨w.heap.size, 4, none⟩ = some (.int .i64 y.ty.kind) ∧ w'.cell? ⟨w.heap.size, 5, none⟩ = some (.slice tp y.ty.args.length tc) ∧ w'.cell? ⟨w.heap.size, 6, none⟩ = some (.int .i64 y.res.kind) ∧ w'.cell? ⟨w.heap.size, 7, none⟩ = some (.slice rp y.res.args.length rc) ∧ w'.cell? ⟨w.heap.size, 8, none⟩ = some (.slice p y.args.length c))) (by kernel_rfl) ?_ (fun hHeld => ?_)
  · try dsimp only
    exact HS.out _ HDR.out
  refine wpAnyH_take (i := 0) (oi := ({ dst := some 6, op := Op.fieldAddr 35 (Operand.tmp 1) 4, type := 0, pos := "l05_term.go:135", after := #[], guard := none } : Oper)) (v := ?_) rfl (by kernel_rfl) (by kernel_rfl) (by kernel_rfl) (fun _ _ _ h => h) (Or.inl ⟨by rfl, ?_⟩) (by assumption) ?_
  rotate_left
  · intro w hSw
    try dsimp only at hSw
    go_simp
    try with_reducible rfl
  try simp only [Act.put, List.setIfInBounds_toArray, List.set_cons_zero, List.set_cons_succ]
  refine wpAnyH_take (i := 1) (oi := ({ dst := some 7, op := Op.load 32 (Operand.tmp 6), type := 32, pos := "l05_term.go:135", after := #[{ on := 0, ground := Ground.data }], guard := none } : Oper)) (v := ?_) rfl (by kernel_rfl) (by kernel_rfl) (by kernel_rfl) (fun _ _ _ h => h) (Or.inl ⟨by rfl, ?_⟩) (by assumption) ?_
  rotate_left
  · intro w hSw
    try dsimp only at hSw
    go_simp
    try with_reducible rfl
  try simp only [Act.put, List.setIfInBounds_toArray, List.set_cons_zero, List.set_cons_succ]
  refine wpAnyH_take (i := 3) (oi := ({ dst := some 9, op := Op.fieldAddr 35 (Operand.tmp 1) 5, type := 0, pos := "l05_term.go:135", after := #[], guard := none } : Oper)) (v := ?_) rfl (by kernel_rfl) (by kernel_rfl) (by kernel_rfl) (fun _ _ _ h => h) (Or.inl ⟨by rfl, ?_⟩) (by assumption) ?_
  rotate_left
  · intro w hSw
    try dsimp only at hSw
    go_simp
    try with_reducible rfl
  try simp only [Act.put, List.setIfInBounds_toArray, List.set_cons_zero, List.set_cons_succ]
  refine wpAnyH_take (i := 4) (oi := ({ dst := some 10, op := Op.load 32 (Operand.tmp 9), type := 32, pos := "l05_term.go:135", after := #[{ on := 3, ground := Ground.data }], guard := none } : Oper)) (v := ?_) rfl (by kernel_rfl) (by kernel_rfl) (by kernel_rfl) (fun _ _ _ h => h) (Or.inl ⟨by rfl, ?_⟩) (by assumption) ?_
  rotate_left
  · intro w hSw
    try dsimp only at hSw
    go_simp
    try with_reducible rfl
  try simp only [Act.put, List.setIfInBounds_toArray, List.set_cons_zero, List.set_cons_succ]
  refine wpAnyH_take (i := 6) (oi := ({ dst := some 12, op := Op.fieldAddr 35 (Operand.tmp 1) 6, type := 0, pos := "l05_term.go:135", after := #[], guard := none } : Oper)) (v := ?_) rfl (by kernel_rfl) (by kernel_rfl) (by kernel_rfl) (fun _ _ _ h => h) (Or.inl ⟨by rfl, ?_⟩) (by assumption) ?_
  rotate_left
  · intro w hSw
    try dsimp only at hSw
    go_simp
    try with_reducible rfl
  try simp only [Act.put, List.setIfInBounds_toArray, List.set_cons_zero, List.set_cons_succ]
  refine wpAnyH_take (i := 7) (oi := ({ dst := some 13, op := Op.load 33 (Operand.tmp 12), type := 33, pos := "l05_term.go:135", after := #[{ on := 6, ground := Ground.data }], guard := none } : Oper)) (v := ?_) rfl (by kernel_rfl) (by kernel_rfl) (by kernel_rfl) (fun _ _ _ h => h) (Or.inl ⟨by rfl, ?_⟩) (by assumption) ?_
  rotate_left
  · intro w hSw
    try dsimp only at hSw
    go_simp
    try with_reducible rfl
  try simp only [Act.put, List.setIfInBounds_toArray, List.set_cons_zero, List.set_cons_succ]
  refine wpAnyH_ready (rs := [2]) (by kernel_rfl) (by simp) ?_
  refine AllReadyH.cons (o := ({ dst := some 8, op := Op.call { callee := Callee.value (Operand.func 101), args := #[Operand.tmp 7], argTypes := #[32] }, type := 32, pos := "l05_term.go:135", after := #[{ on := 1, ground := Ground.data }], guard := none } : Oper)) rfl (fun K hK => ?_) AllReadyH.nil
  go_simp
  refine HC1.out.mono ?_; rintro e2 w1 ⟨v1, rfl, ⟨s1, rfl, ho1⟩, hb1⟩; obtain ⟨p1, c1, rfl⟩ := ho1.form; have HB1 := Lib.hid (HDR.out.trans (hb1.mono HDR.out.size)); have HO1 := Lib.hid ho1; have HB1r := Lib.hid hb1; clear ho1 hb1
  refine hK.out _ _ ?_ (fun hHeld1 => ?_)
  · try dsimp only
    exact HS.out _ HB1.out
  clear hK K
  try simp only [Act.put, List.setIfInBounds_toArray, List.set_cons_zero, List.set_cons_succ]
  refine wpAnyH_take (i := 9) (oi := ({ dst := some 15, op := Op.fieldAddr 35 (Operand.tmp 4) 4, type := 0, pos := "l05_term.go:135", after := #[{ on := 0, ground := Ground.phase }, { on := 1, ground := Ground.phase }, { on := 2, ground := Ground.phase }, { on := 3, ground := Ground.textOnly Departure.lateStores }, { on := 4, ground := Ground.textOnly Departure.lateStores }, { on := 5, ground := Ground.textOnly Departure.lateStoresUnsure }, { on := 6, ground := Ground.textOnly Departure.lateStores }, { on := 7, ground := Ground.textOnly Departure.lateStores }, { on := 8, ground := Ground.textOnly Departure.lateStoresUnsure }], guard := none } : Oper)) (v := ?_) rfl (by kernel_rfl) (by kernel_rfl) (by kernel_rfl) (fun _ _ _ h => h) (Or.inl ⟨by rfl, ?_⟩) (by assumption) ?_
  rotate_left
  · intro w hSw
    try dsimp only at hSw
    go_simp
    try with_reducible rfl
  try simp only [Act.put, List.setIfInBounds_toArray, List.set_cons_zero, List.set_cons_succ]
  refine wpAnyH_ready (rs := [5]) (by kernel_rfl) (by simp) ?_
  refine AllReadyH.cons (o := ({ dst := some 11, op := Op.call { callee := Callee.value (Operand.func 101), args := #[Operand.tmp 10], argTypes := #[32] }, type := 32, pos := "l05_term.go:135", after := #[{ on := 4, ground := Ground.data }, { on := 2, ground := Ground.chain }], guard := none } : Oper)) rfl (fun K hK => ?_) AllReadyH.nil
  go_simp
  refine (HC2.out w1 HB1.out).mono ?_; rintro e3 w2 ⟨v2, rfl, ⟨s2, rfl, ho2⟩, hb2⟩; obtain ⟨p2, c2, rfl⟩ := ho2.form; have HB2 := Lib.hid (HB1.out.trans (hb2.mono HB1.out.size)); have HO2 := Lib.hid ho2; have HB2r := Lib.hid hb2; clear ho2 hb2
  refine hK.out _ _ ?_ (fun hHeld2 => ?_)
  · try dsimp only
    exact HS.out _ HB2.out
  clear hK K
  try simp only [Act.put, List.setIfInBounds_toArray, List.set_cons_zero, List.set_cons_succ]
  obtain ⟨p3, c3, bb, w3, hrun, hpart, hb3⟩ := HAP.out w2 HB2.out
  refine wpAnyH_ready (rs := [8]) (by kernel_rfl) (by simp) ?_
  refine AllReadyH.cons (o := ({ dst := some 14, op := Op.call { callee := Callee.builtin Builtin.append, args := #[Operand.const (Value.slice none 0 0), Operand.tmp 13], argTypes := #[33, 33] }, type := 33, pos := "l05_term.go:135", after := #[{ on := 7, ground := Ground.data }, { on := 5, ground := Ground.chain }], guard := none } : Oper)) rfl (fun K hK => ?_) AllReadyH.nil
  refine step_run rfl (.const (.slice none 0 0)) (.tmp 13) rfl rfl rfl hrun ?_
  refine hK.out _ _ ?_ (fun hHeld3 => ?_)
  · try dsimp only
    exact HS.out _ (HB2.out.trans (hb3.mono HB2.out.size))
  clear hK K
  try simp only [Act.put, List.setIfInBounds_toArray, List.set_cons_zero, List.set_cons_succ]
  have HB3 := Lib.hid (HB2.out.trans (hb3.mono HB2.out.size)); have HB3r := Lib.hid hb3; have HPA := Lib.hid hpart; clear hpart hb3 hrun
  have d4 := HN.out w3 HB3.out 4 (by omega); have d5 := HN.out w3 HB3.out 5 (by omega); have d6 := HN.out w3 HB3.out 6 (by omega); have d7 := HN.out w3 HB3.out 7 (by omega); have d8 := HN.out w3 HB3.out 8 (by omega); have dz := HZ.out w3 HB3.out
  simp only [List.getElem?_toArray, List.getElem?_cons_zero, List.getElem?_cons_succ] at d4 d5 d6 d7 d8
  refine wpAnyH_ready (rs := [10]) (by kernel_rfl) (by simp) ?_
  refine AllReadyH.cons (o := ({ dst := none, op := Op.store 32 (Operand.tmp 15) (Operand.tmp 8), type := 0, pos := "l05_term.go:135", after := #[{ on := 9, ground := Ground.data }, { on := 2, ground := Ground.data }, { on := 8, ground := Ground.chain }, { on := 0, ground := Ground.phase }, { on := 1, ground := Ground.phase }, { on := 2, ground := Ground.phase }, { on := 3, ground := Ground.textOnly Departure.lateStores }, { on := 4, ground := Ground.textOnly Departure.lateStores }, { on := 5, ground := Ground.textOnly Departure.lateStoresUnsure }, { on := 6, ground := Ground.textOnly Departure.lateStores }, { on := 7, ground := Ground.textOnly Departure.lateStores }, { on := 8, ground := Ground.textOnly Departure.lateStoresUnsure }], guard := none } : Oper)) rfl (fun K hK => ?_) AllReadyH.nil
  go_simp
  skip
  refine hK.out _ _ ?_ (fun hHeld4 => ?_)
  · try dsimp only
    exact HSN.out _ (HS.out _ HB3.out) 4 2 [.int .i64 y.ty.kind, .slice p1 y.ty.args.length c1]
  clear hK K
  try simp only [Act.put, List.setIfInBounds_toArray, List.set_cons_zero, List.set_cons_succ]
  refine wpAnyH_take (i := 11) (oi := ({ dst := some 16, op := Op.fieldAddr 35 (Operand.tmp 4) 5, type := 0, pos := "l05_term.go:135", after := #[{ on := 0, ground := Ground.phase }, { on := 1, ground := Ground.phase }, { on := 2, ground := Ground.phase }, { on := 3, ground := Ground.phase }, { on := 4, ground := Ground.phase }, { on := 5, ground := Ground.phase }, { on := 6, ground := Ground.textOnly Departure.lateStores }, { on := 7, ground := Ground.textOnly Departure.lateStores }, { on := 8, ground := Ground.textOnly Departure.lateStoresUnsure }, { on := 9, ground := Ground.phase }, { on := 10, ground := Ground.phase }], guard := none } : Oper)) (v := ?_) rfl (by kernel_rfl) (by kernel_rfl) (by kernel_rfl) (fun _ _ _ h => h) (Or.inl ⟨by rfl, ?_⟩) (by assumption) ?_
  rotate_left
  · intro w hSw
    try dsimp only at hSw
    go_simp
    try with_reducible rfl
  try simp only [Act.put, List.setIfInBounds_toArray, List.set_cons_zero, List.set_cons_succ]
  refine wpAnyH_ready (rs := [12]) (by kernel_rfl) (by simp) ?_
  refine AllReadyH.cons (o := ({ dst := none, op := Op.store 32 (Operand.tmp 16) (Operand.tmp 11), type := 0, pos := "l05_term.go:135", after := #[{ on := 11, ground := Ground.data }, { on := 5, ground := Ground.data }, { on := 10, ground := Ground.chain }, { on := 0, ground := Ground.phase }, { on := 1, ground := Ground.phase }, { on := 2, ground := Ground.phase }, { on := 3, ground := Ground.phase }, { on := 4, ground := Ground.phase }, { on := 5, ground := Ground.phase }, { on := 6, ground := Ground.textOnly Departure.lateStores }, { on := 7, ground := Ground.textOnly Departure.lateStores }, { on := 8, ground := Ground.textOnly Departure.lateStoresUnsure }, { on := 9, ground := Ground.phase }, { on := 10, ground := Ground.phase }], guard := none } : Oper)) rfl (fun K hK => ?_) AllReadyH.nil
  go_simp
  skip
  refine hK.out _ _ ?_ (fun hHeld5 => ?_)
  · try dsimp only
    exact HSN.out _ (HS.out _ HB3.out) 4 4 [.int .i64 y.ty.kind, .slice p1 y.ty.args.length c1, .int .i64 y.res.kind, .slice p2 y.res.args.length c2]
  clear hK K
  try simp only [Act.put, List.setIfInBounds_toArray, List.set_cons_zero, List.set_cons_succ]
  refine wpAnyH_take (i := 13) (oi := ({ dst := some 17, op := Op.fieldAddr 35 (Operand.tmp 4) 6, type := 0, pos := "l05_term.go:135", after := #[{ on := 0, ground := Ground.phase }, { on := 1, ground := Ground.phase }, { on := 2, ground := Ground.phase }, { on := 3, ground := Ground.phase }, { on := 4, ground := Ground.phase }, { on := 5, ground := Ground.phase }, { on := 6, ground := Ground.phase }, { on := 7, ground := Ground.phase }, { on := 8, ground := Ground.phase }, { on := 9, ground := Ground.phase }, { on := 10, ground := Ground.phase }, { on := 11, ground := Ground.phase }, { on := 12, ground := Ground.phase }], guard := none } : Oper)) (v := ?_) rfl (by kernel_rfl) (by kernel_rfl) (by kernel_rfl) (fun _ _ _ h => h) (Or.inl ⟨by rfl, ?_⟩) (by assumption) ?_
  rotate_left
  · intro w hSw
    try dsimp only at hSw
    go_simp
    try with_reducible rfl
  try simp only [Act.put, List.setIfInBounds_toArray, List.set_cons_zero, List.set_cons_succ]
  refine wpAnyH_ready (rs := [14]) (by kernel_rfl) (by simp) ?_
  refine AllReadyH.cons (o := ({ dst := none, op := Op.store 33 (Operand.tmp 17) (Operand.tmp 14), type := 0, pos := "l05_term.go:135", after := #[{ on := 13, ground := Ground.data }, { on := 8, ground := Ground.data }, { on := 12, ground := Ground.chain }, { on := 0, ground := Ground.phase }, { on := 1, ground := Ground.phase }, { on := 2, ground := Ground.phase }, { on := 3, ground := Ground.phase }, { on := 4, ground := Ground.phase }, { on := 5, ground := Ground.phase }, { on := 6, ground := Ground.phase }, { on := 7, ground := Ground.phase }, { on := 8, ground := Ground.phase }, { on := 9, ground := Ground.phase }, { on := 10, ground := Ground.phase }, { on := 11, ground := Ground.phase }, { on := 12, ground := Ground.phase }], guard := none } : Oper)) rfl (fun K hK => ?_) AllReadyH.nil
  go_simp
  skip
  refine hK.out _ _ ?_ (fun hHeld6 => ?_)
  · try dsimp only
    exact HSN.out _ (HS.out _ HB3.out) 4 5 [.int .i64 y.ty.kind, .slice p1 y.ty.args.length c1, .int .i64 y.res.kind, .slice p2 y.res.args.length c2, .slice p3 y.args.length c3]
  clear hK K
  try simp only [Act.put, List.setIfInBounds_toArray, List.set_cons_zero, List.set_cons_succ]
  refine wpAnyH_done (by kernel_rfl) ?_ _
  refine NoPanic.normal ?_
  obtain ⟨W, hW⟩ : ∃ W, ((((w3.setCell ⟨w.heap.size + 1 + 1, 4, none⟩ (.int .i64 y.ty.kind)).setCell ⟨w.heap.size + 1 + 1, 5, none⟩ (.slice p1 y.ty.args.length c1)).setCell ⟨w.heap.size + 1 + 1, 6, none⟩ (.int .i64 y.res.kind)).setCell ⟨w.heap.size + 1 + 1, 7, none⟩ (.slice p2 y.res.args.length c2)).setCell ⟨w.heap.size + 1 + 1, 8, none⟩ (.slice p3 y.args.length c3) = W := ⟨_, rfl⟩
  rw [hW]
  have hblk3 := (HB3.out.block (w.heap.size + 1 + 1) (by have := HSZ.out; omega)).trans HQ2.out
  have hN9 : W.heap[w.heap.size + 1 + 1]? = some (.cells (tmC y p1 c1 p2 c2 p3 c3) 35 (0, 0)) := hW ▸ setN_block [.int .i64 y.ty.kind, .slice p1 y.ty.args.length c1, .int .i64 y.res.kind, .slice p2 y.res.args.length c2, .slice p3 y.args.length c3] w3 (w.heap.size + 1 + 1) 4 _ _ hblk3
  have hst : Stays (fun z => z ≠ w.heap.size + 1 + 1) w3 W := hW ▸ setN_stays [.int .i64 y.ty.kind, .slice p1 y.ty.args.length c1, .int .i64 y.res.kind, .slice p2 y.res.args.length c2, .slice p3 y.args.length c3] (fun z => z ≠ w.heap.size + 1 + 1) w3 (w.heap.size + 1 + 1) 4 (by simp)
  have hbW : Below w.heap.size w3 W := hW ▸ setN_below [.int .i64 y.ty.kind, .slice p1 y.ty.args.length c1, .int .i64 y.res.kind, .slice p2 y.res.args.length c2, .slice p3 y.args.length c3] w.heap.size w3 (w.heap.size + 1 + 1) 4 (by omega)
  have hs3 : wl.heap.size ≤ w3.heap.size := HB3.out.size
  have hsz := HSZ.out
  have hQ0 := (hst.2 w.heap.size (by omega) (by omega)).trans ((HB3.out.block w.heap.size (by omega)).trans HQ0.out)
  have hQ1 := (hst.2 (w.heap.size + 1) (by omega) (by omega)).trans ((HB3.out.block (w.heap.size + 1) (by omega)).trans HQ1.out)
  have HST := Lib.hid hst
  have HBW := Lib.hid hbW
  have hBd : Below W.heap.size W W.drew := (Below.refl _ _).drew
  have hsW : w3.heap.size ≤ W.heap.size := hbW.size
  have HS3 := Lib.hid (fun (X : World) (e1 : X.heap[w.heap.size + 1 + 1]? = W.heap[w.heap.size + 1 + 1]?) (e2 : X.heap[w.heap.size]? = W.heap[w.heap.size]?) => show X.drew.cell? ⟨w.heap.size + 1 + 1, 0, none⟩ = some (.int .i64 y.kind) ∧ X.drew.cell? ⟨w.heap.size + 1 + 1, 1, none⟩ = some (.string y.name) ∧ X.drew.cell? ⟨w.heap.size + 1 + 1, 2, none⟩ = some (.string y.other) ∧ X.drew.cell? ⟨w.heap.size + 1 + 1, 3, none⟩ = some (.int .i64 y.n) ∧ X.drew.cell? ⟨w.heap.size + 1 + 1, 4, none⟩ = some (.int .i64 y.ty.kind) ∧ X.drew.cell? ⟨w.heap.size + 1 + 1, 5, none⟩ = some (.slice p1 y.ty.args.length c1) ∧ X.drew.cell? ⟨w.heap.size + 1 + 1, 6, none⟩ = some (.int .i64 y.res.kind) ∧ X.drew.cell? ⟨w.heap.size + 1 + 1, 7, none⟩ = some (.slice p2 y.res.args.length c2) ∧ X.drew.cell? ⟨w.heap.size + 1 + 1, 8, none⟩ = some (.slice p3 y.args.length c3) ∧ X.drew.cell? ⟨w.heap.size, 8, none⟩ = some (.slice p y.args.length c) from by
    obtain ⟨g0, g1, g2, g3, g4, g5, g6, g7, g8⟩ := Bx9.of ((show X.drew.heap[w.heap.size + 1 + 1]? = _ from e1).trans hN9)
    obtain ⟨_, _, _, _, _, _, _, _, f8⟩ := Bx9.of ((show X.drew.heap[w.heap.size]? = _ from e2).trans hQ0)
    exact ⟨g0, g1, g2, g3, g4, g5, g6, g7, g8, f8⟩)
  have hr9 := setN_heap_ne (w := W) (a := w.heap.size + 1 + 1) (b := w.heap.size + 1) (o := 0) (vs := tmL y p1 c1 p2 c2 p3 c3) (by omega)
  have hr8 := setN_heap_ne (w := W) (a := w.heap.size) (b := w.heap.size + 1) (o := 0) (vs := tmL y p1 c1 p2 c2 p3 c3) (by omega)
  simp only [tmL, setN, Nat.zero_add, Nat.reduceAdd] at hr9 hr8
  have HR9 := Lib.hid hr9
  have HR8 := Lib.hid hr8
  clear hr9 hr8
  have HST := Lib.hid hst
  have HBW := Lib.hid hbW
  have hQd := (hBd.block (w.heap.size + 1) (by omega)).trans hQ1
  have y0 := cell_of_blk hQd 0
  have y1 := cell_of_blk hQd 1
  have y2 := cell_of_blk hQd 2
  have y3 := cell_of_blk hQd 3
  have y4 := cell_of_blk hQd 4
  have y5 := cell_of_blk hQd 5
  have y6 := cell_of_blk hQd 6
  have y7 := cell_of_blk hQd 7
  have y8 := cell_of_blk hQd 8
  have yz := unfrozen_of_blk hQd
  simp only [List.getElem?_toArray, List.getElem?_cons_zero, List.getElem?_cons_succ] at y0 y1 y2 y3 y4 y5 y6 y7 y8
  have x0 := cell_of_blk hQ1 0
  have x1 := cell_of_blk hQ1 1
  have x2 := cell_of_blk hQ1 2
  have x3 := cell_of_blk hQ1 3
  have x4 := cell_of_blk hQ1 4
  have x5 := cell_of_blk hQ1 5
  have x6 := cell_of_blk hQ1 6
  have x7 := cell_of_blk hQ1 7
  have x8 := cell_of_blk hQ1 8
  have xz := unfrozen_of_blk hQ1
  simp only [List.getElem?_toArray, List.getElem?_cons_zero, List.getElem?_cons_succ] at x0 x1 x2 x3 x4 x5 x6 x7 x8
  clear d4 d5 d6 d7 d8 dz hHeld hHeld1 hHeld2 hHeld3 hHeld4 hHeld5 hHeld6 hW hblk3 hN9 hst hbW hQ0 hQ1 hQd hBd
  go_wp2_with fail
  refine wp_region_noPanic ?_
  refine wp_region_held_drew (S := (fun w' => w'.cell? ⟨w.heap.size + 1 + 1, 0, none⟩ = some (.int .i64 y.kind) ∧ w'.cell? ⟨w.heap.size + 1 + 1, 1, none⟩ = some (.string y.name) ∧ w'.cell? ⟨w.heap.size + 1 + 1, 2, none⟩ = some (.string y.other) ∧ w'.cell? ⟨w.heap.size + 1 + 1, 3, none⟩ = some (.int .i64 y.n) ∧ w'.cell? ⟨w.heap.size + 1 + 1, 4, none⟩ = some (.int .i64 y.ty.kind) ∧ w'.cell? ⟨w.heap.size + 1 + 1, 5, none⟩ = some (.slice p1 y.ty.args.length c1) ∧ w'.cell? ⟨w.heap.size + 1 + 1, 6, none⟩ = some (.int .i64 y.res.kind) ∧ w'.cell? ⟨w.heap.size + 1 + 1, 7, none⟩ = some (.slice p2 y.res.args.length c2) ∧ w'.cell? ⟨w.heap.size + 1 + 1, 8, none⟩ = some (.slice p3 y.args.length c3) ∧ w'.cell? ⟨w.heap.size, 8, none⟩ = some (.slice p y.args.length c))) (by kernel_rfl) ?_ (fun hHeld => ?_)
  · try dsimp only
    exact HS3.out W rfl rfl
  refine wpAnyH_take (i := 0) (oi := ({ dst := some 18, op := Op.load 35 (Operand.tmp 4), type := 35, pos := "l05_term.go:136", after := #[], guard := none } : Oper)) (v := ?_) rfl (by kernel_rfl) (by kernel_rfl) (by kernel_rfl) (fun _ _ _ h => h) (Or.inl ⟨by rfl, ?_⟩) (by assumption) ?_
  rotate_left
  · intro w hSw
    try dsimp only at hSw
    go_simp
    try with_reducible rfl
  try simp only [Act.put, List.setIfInBounds_toArray, List.set_cons_zero, List.set_cons_succ]
  refine wpAnyH_take (i := 1) (oi := ({ dst := some 19, op := Op.fieldAddr 35 (Operand.tmp 1) 6, type := 0, pos := "l05_term.go:136", after := #[{ on := 3, ground := Ground.gcOnly Departure.lateStores }], guard := none } : Oper)) (v := ?_) rfl (by kernel_rfl) (by kernel_rfl) (by kernel_rfl) (fun _ _ _ h => h) (Or.inl ⟨by rfl, ?_⟩) (by assumption) ?_
  rotate_left
  · intro w hSw
    try dsimp only at hSw
    go_simp
    try with_reducible rfl
  try simp only [Act.put, List.setIfInBounds_toArray, List.set_cons_zero, List.set_cons_succ]
  refine wpAnyH_take (i := 2) (oi := ({ dst := some 20, op := Op.load 33 (Operand.tmp 19), type := 33, pos := "l05_term.go:136", after := #[{ on := 1, ground := Ground.data }, { on := 3, ground := Ground.gcOnly Departure.lateStores }], guard := none } : Oper)) (v := ?_) rfl (by kernel_rfl) (by kernel_rfl) (by kernel_rfl) (fun _ _ _ h => h) (Or.inl ⟨by rfl, ?_⟩) (by assumption) ?_
  rotate_left
  · intro w hSw
    try dsimp only at hSw
    go_simp
    try with_reducible rfl
  try simp only [Act.put, List.setIfInBounds_toArray, List.set_cons_zero, List.set_cons_succ]
  refine wpAnyH_ready (rs := [3]) (by kernel_rfl) (by simp) ?_
  refine AllReadyH.cons (o := ({ dst := none, op := Op.store 35 (Operand.tmp 2) (Operand.tmp 18), type := 0, pos := "l05_term.go:136", after := #[{ on := 0, ground := Ground.data }, { on := 0, ground := Ground.phase }, { on := 1, ground := Ground.textOnly Departure.lateStores }, { on := 2, ground := Ground.textOnly Departure.lateStores }], guard := none } : Oper)) rfl (fun K hK => ?_) AllReadyH.nil
  go_simp
  skip
  refine hK.out _ _ ?_ (fun hHeld1 => ?_)
  · try dsimp only
    exact HS3.out _ HR9.out HR8.out
  clear hK K
  try simp only [Act.put, List.setIfInBounds_toArray, List.set_cons_zero, List.set_cons_succ]
  refine wpAnyH_take (i := 4) (oi := ({ dst := some 3, op := Op.assign (Operand.tmp 20), type := 33, pos := "l05_term.go:136", after := #[{ on := 2, ground := Ground.data }, { on := 3, ground := Ground.chain }, { on := 0, ground := Ground.phase }, { on := 1, ground := Ground.phase }, { on := 2, ground := Ground.phase }, { on := 3, ground := Ground.phase }], guard := none } : Oper)) (v := ?_) rfl (by kernel_rfl) (by kernel_rfl) (by kernel_rfl) (fun _ _ _ h => h) (Or.inl ⟨by rfl, ?_⟩) (by assumption) ?_
  rotate_left
  · intro w hSw
    try dsimp only at hSw
    go_simp
    try with_reducible rfl
  try simp only [Act.put, List.setIfInBounds_toArray, List.set_cons_zero, List.set_cons_succ]
  refine wpAnyH_done (by kernel_rfl) ?_ _
  refine NoPanic.normal ?_
  go_wp2_with fail
  refine bodyPost_ret (v := .tuple #[tmV y p1 c1 p2 c2 p3 c3, .slice p y.args.length c]) ?_ rfl ?_
  · rw [results_ct rfl]
    go_simp
  · obtain ⟨X, hX⟩ : ∃ X, ((((((((((W.setCell ⟨w.heap.size + 1, 0, none⟩ (.int .i64 y.kind)).setCell ⟨w.heap.size + 1, 1, none⟩ (.string y.name)).setCell ⟨w.heap.size + 1, 2, none⟩ (.string y.other)).setCell ⟨w.heap.size + 1, 3, none⟩ (.int .i64 y.n)).setCell ⟨w.heap.size + 1, 4, none⟩ (.int .i64 y.ty.kind)).setCell ⟨w.heap.size + 1, 5, none⟩ (.slice p1 y.ty.args.length c1)).setCell ⟨w.heap.size + 1, 6, none⟩ (.int .i64 y.res.kind)).setCell ⟨w.heap.size + 1, 7, none⟩ (.slice p2 y.res.args.length c2)).setCell ⟨w.heap.size + 1, 8, none⟩ (.slice p3 y.args.length c3)).drew) = X := ⟨_, rfl⟩
    rw [hX]
    have hsX : Stays (fun z => z ≠ w.heap.size + 1) W X := by
      rw [← hX]
      have h1 := setN_stays (tmL y p1 c1 p2 c2 p3 c3) (fun z => z ≠ w.heap.size + 1) W (w.heap.size + 1) 0 (by simp)
      simp only [tmL, setN, Nat.zero_add, Nat.reduceAdd] at h1
      exact h1.trans (.of_below (Below.refl _ _).drew)
    have hbX : Below w.heap.size W X := by
      rw [← hX]
      have h1 := setN_below (tmL y p1 c1 p2 c2 p3 c3) w.heap.size W (w.heap.size + 1) 0 (by omega)
      simp only [tmL, setN, Nat.zero_add, Nat.reduceAdd] at h1
      exact h1.drew
    have hl1 := HDR.out.size
    have hl2 := HB1r.out.size
    have hl3 := HB2r.out.size
    have hl4 := HB3r.out.size
    have hS : Stays (fun z => wl.heap.size ≤ z) w3 X := (HST.out.mono (fun z hz => by omega)).trans (hsX.mono (fun z hz => by omega))
    have t1 := ((((HO1.out.keep HB2r.out).keep HB3r.out).stays (hS.mono (fun z hz => by omega)))).blkT
    have t2 := (((HO2.out.keep HB3r.out).stays (hS.mono (fun z hz => by omega)))).blkT
    have hbel : Below w.heap.size w X := (HBL.out.trans (HB3.out.mono HBL.out.size)).trans (HBW.out.trans hbX)
    refine ⟨p1, c1, p2, c2, p3, c3, bb, _, _, rfl, t1, t2, fun z hz => ⟨by have := hz.1.1; omega, hz.2, fun h => by have := hz.1; have := h.1; omega⟩, fun z hz => ⟨by have := hz.1.1; omega, hz.2⟩, HPA.out.keep (by omega) (fun hb hl => hS.2 bb (by show wl.heap.size ≤ bb; omega) hl), hbel⟩
end Go.Proofs.YtfeijijeohfpgaaDoor
namespace Go.Proofs.YtfeijijeohfpgaaDoor
open Go Go.RowKit

theorem noM_tm (w : World) (C : Nat → Prop) : TM w C noM (tmV noM none 0 none 0 none 0) := ⟨none, 0, none, 0, none, 0, rfl, .nil _ _, .nil _ _, .nil _ _ _ _⟩
theorem noM_os (w : World) (F : Nat → Prop) : OSt w noM.ds (tmL noM none 0 none 0 none 0) F := OSt9 (.none (fun _ => False)) (.none (fun _ => False)) (.nil _ _ (fun _ => False)) (fun _ hz => hz.elim) (fun _ hz => hz.elim) (fun _ hz => hz.elim)
variable {w : World}
theorem pair_none {R : Tm → Bool → Prop} {W : World} {a0 a1 a2 a3 a4 a5 a6 a7 a8 : Value} (hb : Below w.heap.size w W) (hR : R noM false) :
    PairS R w (.returned (.tuple #[tmV noM none 0 none 0 none 0, .bool false])) (setN W (w.heap.size + 1) 0 [a0, a1, a2, a3, a4, a5, a6, a7, a8]) :=
  ⟨noM, false, _, rfl, hR, noM_tm _ _, hb.trans (setN_below _ _ _ _ _ (by omega))⟩
theorem pair_noneI {R : Tm → Bool → Prop} {W : World} {a0 a1 a2 a3 a4 a5 a6 a7 a8 : Value} (hb : Below w.heap.size w W) (hR : R noM false) :
    PairI R w (.returned (.tuple #[tmV noM none 0 none 0 none 0, .bool false])) (setN W (w.heap.size + 1) 0 [a0, a1, a2, a3, a4, a5, a6, a7, a8]) :=
  ⟨noM, false, _, rfl, hR, ⟨_, _, _, _, _, _, rfl, noM_os _ _⟩, hb.trans (setN_below _ _ _ _ _ (by omega))⟩
theorem pair_yes {R : Tm → Bool → Prop} {W : World} {x : Tm} {C : Nat → Prop} {tp rp p : Option Addr} {tc rc c : Nat} {a0 a1 a2 a3 a4 a5 a6 a7 a8 : Value} (hb : Below w.heap.size w W) (hT : TM' W C x tp tc rp rc p c) (hC : ¬ C (w.heap.size + 1)) (hR : R x true) :
    PairS R w (.returned (.tuple #[tmV x tp tc rp rc p c, .bool true])) (setN W (w.heap.size + 1) 0 [a0, a1, a2, a3, a4, a5, a6, a7, a8]) :=
  ⟨x, true, _, rfl, hR, ⟨_, _, _, _, _, _, rfl, (hT.stays (setN_stays _ C _ _ _ hC)).mono (fun _ _ _ => trivial)⟩, hb.trans (setN_below _ _ _ _ _ (by omega))⟩
theorem pair_yesI {R : Tm → Bool → Prop} {W : World} {x : Tm} {C : Nat → Prop} {tp rp p : Option Addr} {tc rc c : Nat} {a0 a1 a2 a3 a4 a5 a6 a7 a8 : Value} (hb : Below w.heap.size w W) (hO : OSt W x.ds (tmL x tp tc rp rc p c) C) (hC : ∀ z, C z → w.heap.size + 2 ≤ z ∧ z < W.heap.size) (hR : R x true) :
    PairI R w (.returned (.tuple #[tmV x tp tc rp rc p c, .bool true])) (setN W (w.heap.size + 1) 0 [a0, a1, a2, a3, a4, a5, a6, a7, a8]) :=
  ⟨x, true, _, rfl, hR, ⟨_, _, _, _, _, _, rfl, (hO.stays (setN_stays _ C _ _ _ (fun h => by have := hC _ h; omega))).mono (fun z hz => by
    have h1 := hC z hz
    have h2 := setN_size [a0, a1, a2, a3, a4, a5, a6, a7, a8] W (w.heap.size + 1) 0
    omega)⟩, hb.trans (setN_below _ _ _ _ _ (by omega))⟩
end Go.Proofs.YtfeijijeohfpgaaDoor
namespace Go.Proofs.YtfeijijeohfpgaaDoor
open Go Go.RowKit

variable {C : Nat → Prop} {t : Tm} {v : Value} {w : World}
set_option maxRecDepth 100000 in
set_option maxHeartbeats 2000000 in
theorem cpS_at (h : TM w C t v) (hn : t.wt ≤ 1048576) : Calls Tryd.prog 23 #[v] w (PairS (CpIs t) w) := by
  have HN := Lib.hid hn
  obtain ⟨tp, tc, rp, rc, p, c, rfl, hT⟩ := h
  obtain ⟨wl, hwl, hsz, hbl, q0, q1⟩ := box_new2 w (tmC t tp tc rp rc p c) #[.int .i64 0, .string ⟨#[]⟩, .string ⟨#[]⟩, .int .i64 0, .int .i64 0, .slice none 0 0, .int .i64 0, .slice none 0 0, .slice none 0 0] 35 35
  have HT := Lib.hid hT
  have HWL := Lib.hid hwl
  have HSZ := Lib.hid hsz
  have HBL := Lib.hid hbl
  have HX := Lib.hid (fun (W : World) (hW : Below wl.heap.size wl W) => Bx9.of ((hW.block w.heap.size (by omega)).trans q0))
  have HY := Lib.hid (fun (W : World) (hW : Below wl.heap.size wl W) => show W.cell? ⟨w.heap.size + 1, 0, none⟩ = some (.int .i64 0) ∧ W.cell? ⟨w.heap.size + 1, 1, none⟩ = some (.string ⟨#[]⟩) ∧ W.cell? ⟨w.heap.size + 1, 2, none⟩ = some (.string ⟨#[]⟩) ∧ W.cell? ⟨w.heap.size + 1, 3, none⟩ = some (.int .i64 0) ∧ W.cell? ⟨w.heap.size + 1, 4, none⟩ = some (.int .i64 0) ∧ W.cell? ⟨w.heap.size + 1, 5, none⟩ = some (.slice none 0 0) ∧ W.cell? ⟨w.heap.size + 1, 6, none⟩ = some (.int .i64 0) ∧ W.cell? ⟨w.heap.size + 1, 7, none⟩ = some (.slice none 0 0) ∧ W.cell? ⟨w.heap.size + 1, 8, none⟩ = some (.slice none 0 0) ∧ ∀ i, W.frozen? ⟨w.heap.size + 1, i, none⟩ = false from by
    have h := (hW.block (w.heap.size + 1) (by omega)).trans q1
    exact ⟨cell_of_blk h 0, cell_of_blk h 1, cell_of_blk h 2, cell_of_blk h 3, cell_of_blk h 4, cell_of_blk h 5, cell_of_blk h 6, cell_of_blk h 7, cell_of_blk h 8, unfrozen_of_blk h⟩)
  clear hT hn hwl hsz hbl q0 q1
  go_enter Tryd.func23, Tryd.ntmps23
  go_upto_region 1 with fail
  rw [HWL.out]
  obtain ⟨g0, g1, g2, g3, g4, g5, g6, g7, g8⟩ := HX.out wl (Below.refl _ _)
  obtain ⟨y0, y1, y2, y3, y4, y5, y6, y7, y8, yz⟩ := HY.out wl (Below.refl _ _)
  go_wp2_with fail
  refine (rslS_at ⟨_, _, _, _, _, _, rfl, HT.out.stays (.of_below HBL.out)⟩ (Nat.le_trans HN.out (by decide))).mono ?_
  rintro e w1 ⟨r, hr, rfl, hb1⟩
  have HR := Lib.hid hr
  have HB1 := Lib.hid hb1
  clear g0 g1 g2 g3 g4 g5 g6 g7 g8 y0 y1 y2 y3 y4 y5 y6 y7 y8 yz
  obtain ⟨g0, g1, g2, g3, g4, g5, g6, g7, g8⟩ := HX.out w1 hb1
  obtain ⟨y0, y1, y2, y3, y4, y5, y6, y7, y8, yz⟩ := HY.out w1 hb1
  clear hr hb1
  cases r with
  | false =>
    go_wp2_with fail
    refine bodyPost_ret (v := .tuple #[tmV noM none 0 none 0 none 0, .bool false]) ?_ rfl ?_
    · rw [results_ct rfl]
      go_simp
      all_goals (repeat' apply And.intro) <;> rfl
    · exact pair_none (HBL.out.trans (HB1.out.mono HBL.out.size)) (Or.inr ⟨fun h => (by have := HR.out.2 h.1; cases this), rfl, rfl⟩)
  | true =>
    by_cases hk : t.kind = 10
    · have HK := Lib.hid hk
      have t1 : (t.kind != 10) = false := by rw [hk]; rfl
      obtain ⟨x, hx⟩ := List.length_eq_one_iff.1 (isT_one ((isT_node t).1 (HR.out.1 rfl).1).1 (Or.inl HK.out))
      obtain ⟨b, o, tp2, tc2, rp2, rc2, p2, c2, rfl, hC, hb, h9, hP⟩ := tm_part HT.out.args 0 (by rw [hx]; simp)
      have hx0 : t.args[0]'(by rw [hx]; simp) = x := by simp [hx]
      rw [hx0] at h9 hP
      simp only [Nat.zero_mul, Nat.add_zero] at h9
      have hl1 : t.args.length = 1 := by rw [hx]; rfl
      have hwx : x.wt ≤ 1048576 := by have h1 := t.wt_eq; rw [hx] at h1; simp only [wtS] at h1; have := HN.out; omega
      have HCP := Lib.hid (show CpIs t x true from Or.inl ⟨HR.out.1 rfl, HK.out, hx, rfl⟩)
      obtain ⟨a0, a1, a2, a3, a4, a5, a6, a7, a8⟩ := h9 w1 (.of_below (HBL.out.trans (HB1.out.mono HBL.out.size)))
      have hP1 := hP.stays (.of_below (HBL.out.trans (HB1.out.mono HBL.out.size)))
      have l8 := g8
      rw [hl1] at l8
      have HCC := Lib.hid (copyM_any _ w1 (Nat.le_refl _) hP1 hwx)
      clear g8 hx hx0 hl1 hC hb h9 hP hP1
      clear hk
      go_wp2_with fail
      refine HCC.out.mono ?_
      rintro e w2 ⟨tp3, tc3, rp3, rc3, p3, c3, xs, rfl, hN, hb2⟩
      have HN2 := Lib.hid hN
      have HB2 := Lib.hid (HB1.out.trans (hb2.mono HB1.out.size))
      have HL := Lib.hid HB1.out.size
      clear g0 g1 g2 g3 g4 g5 g6 g7 y0 y1 y2 y3 y4 y5 y6 y7 y8 yz
      obtain ⟨y0, y1, y2, y3, y4, y5, y6, y7, y8, yz⟩ := HY.out w2 HB2.out
      clear hN hb2 a0 a1 a2 a3 a4 a5 a6 a7 a8 l8
      go_wp2_with fail
      refine bodyPost_ret (v := .tuple #[tmV x tp3 tc3 rp3 rc3 p3 c3, .bool true]) ?_ rfl ?_
      · rw [results_ct rfl]
        go_simp
        all_goals (repeat' apply And.intro) <;> rfl
      · exact pair_yes (HBL.out.trans (HB2.out.mono HBL.out.size)) HN2.out.tm (by have h1 := HL.out; have h2 := HSZ.out; (try dsimp only); omega) HCP.out
    · have t1 : (t.kind != 10) = true := by simp [hk]
      have HK := Lib.hid hk
      clear hk
      go_wp2_with fail
      refine bodyPost_ret (v := .tuple #[tmV noM none 0 none 0 none 0, .bool false]) ?_ rfl ?_
      · rw [results_ct rfl]
        go_simp
        all_goals (repeat' apply And.intro) <;> rfl
      · exact pair_none (HBL.out.trans (HB1.out.mono HBL.out.size)) (Or.inr ⟨fun h => HK.out h.2, rfl, rfl⟩)
end Go.Proofs.YtfeijijeohfpgaaDoor
namespace Go.Proofs.YtfeijijeohfpgaaDoor
open Go Go.RowKit

set_option maxRecDepth 100000 in
set_option maxHeartbeats 1000000 in
theorem opArI_any (s : ByteArray) (w : World) : Calls Tryd.prog 86 #[.string s] w fun e w' => e = .returned (.int .i64 (opAr s.toList)) ∧ w' = w := by
  go_enter Tryd.func86, Tryd.ntmps86
  go_wp2
  all_goals
    go_ret
    exact ⟨by unfold opAr; simp_all, rfl⟩
end Go.Proofs.YtfeijijeohfpgaaDoor
namespace Go.Proofs.YtfeijijeohfpgaaDoor
open Go Go.RowKit

set_option maxRecDepth 100000 in
set_option maxHeartbeats 1000000 in
theorem zeroI_any (k : Int) (p : Option Addr) (n c : Nat) (w : World) : Calls Tryd.prog 70 #[.agg #[.int .i64 k, .slice p n c]] w (Tells (k = 0 ∧ n = 0) w) := by
  have HB := Lib.hid (al_below w (.cells #[.int .i64 k, .slice p n c] 32))
  go_enter Tryd.func70, Tryd.ntmps70
  by_cases hk : k = 0
  · subst hk
    go_wp2_with fail
    go_ret
    exact ⟨_, by simp, rfl, HB.out⟩
  · have hk1 : (k == 0) = false := by simpa using hk
    go_wp2_with fail
    go_ret
    exact ⟨_, by simp [hk], rfl, HB.out⟩

theorem arK_out (x : Int) {k : Int} (h : k < 1 ∨ 13 < k) : arK k x = -1 := by
  unfold arK
  rw [if_neg (by omega), if_neg (by omega), if_neg (by omega), if_neg (by omega), if_neg (by omega), if_neg (by omega), if_neg (by omega), if_neg (by omega), if_neg (by omega), if_neg (by omega), if_neg (by omega), if_neg (by omega), if_neg (by omega)]
def Tm.arOk (t : Tm) : Prop := (t.args.length : Int) = t.arity ∧ (t.kind = 4 → 0 < t.args.length)

set_option maxRecDepth 100000 in
set_option maxHeartbeats 4000000 in
theorem hasAr_any (t : Tm) (tp : Option Addr) (tc : Nat) (rp : Option Addr) (rc : Nat) (p : Option Addr) (c : Nat) (w : World) (hka : KA w) (hn : t.wt ≤ 2097152) :
    Calls Tryd.prog 66 #[tmV t tp tc rp rc p c] w (Tells t.arOk w) := by
  have HB := Lib.hid (fun o => al_below w o)
  have HK := Lib.hid (fun o i => (hka.below (al_below w o)).cell i)
  have hl : t.args.length ≤ 2097152 := by have h1 := t.wt_eq; have h2 := wtS_ge t.args; omega
  clear hka hn
  unfold tmV
  by_cases hr : t.kind < 1 ∨ 13 < t.kind
  · have HN := Lib.hid (show ¬ t.arOk from fun e => by
      have h1 := e.1
      rw [Tm.arity, arK_out _ hr] at h1
      omega)
    rcases hr with hr | hr
    all_goals
      go_enter Tryd.func66, Tryd.ntmps66
      go_wp2_with fail
      go_ret
      exact ⟨_, lit_f HN.out, rfl, HB.out _⟩
  by_cases h4 : t.kind = 4
  · have HO := Lib.hid (opArI_any t.name)
    by_cases hz : 0 < t.args.length
    · have HA := Lib.hid (show (((t.args.length : Int) == opAr t.name.toList) = true ↔ t.arOk) by simp [Tm.arOk, Tm.arity, arK, h4, hz])
      have hd1 : decide (0 < t.args.length) = true := decide_eq_true hz
      rw [h4]
      clear hz hr h4
      go_enter Tryd.func66, Tryd.ntmps66
      go_wp2_with fail
      go_region_held3 (fun w' => w'.cell? ⟨w.heap.size, 1, none⟩ = some (.string t.name) ∧ w'.cell? ⟨w.heap.size, 8, none⟩ = some (.slice p t.args.length c) ∧ Below w.heap.size w w')
        (first
          | (go_keep; done)
          | exact ⟨cell_of_blk (blk_new w _) 1, cell_of_blk (blk_new w _) 8, (HB.out _).drew⟩
          | assumption)
        (first
          | (go_at_call 86; refine (HO.out _).mono ?_; rintro e w5 ⟨rfl, rfl⟩))
      rename_i hH
      have HBL := Lib.hid hH.2.2
      clear hH
      go_wp2_with fail
      go_ret
      exact ⟨_, HA.out, rfl, HBL.out⟩
    · have HA := Lib.hid (show ¬ t.arOk from fun e => hz (e.2 h4))
      rw [h4, show t.args.length = 0 by omega]
      clear hz hr h4 hl HO
      go_enter Tryd.func66, Tryd.ntmps66
      go_wp2_with fail
      refine wp_region_noPanic ?_
      refine wp_region_held_drew (S := (fun w' => w'.cell? ⟨w.heap.size, 1, none⟩ = some (.string t.name) ∧ w'.cell? ⟨w.heap.size, 8, none⟩ = some (.slice p 0 c) ∧ Below w.heap.size w w')) (by kernel_rfl) ?_ (fun hHeld => ?_)
      · try dsimp only
        exact ⟨cell_of_blk (blk_new w _) 1, cell_of_blk (blk_new w _) 8, (HB.out _).drew⟩
      refine wpAnyH_take (i := 0) (oi := ({ dst := some 16, op := Op.fieldAddr 35 (Operand.tmp 1) 6, type := 0, pos := "l05_term.go:117", after := #[], guard := none } : Oper)) (v := ?_) rfl (by kernel_rfl) (by kernel_rfl) (by kernel_rfl) (fun _ _ _ h => h) (Or.inl ⟨by rfl, ?_⟩) (by assumption) ?_
      rotate_left
      · intro w hSw
        try dsimp only at hSw
        go_simp
        try with_reducible rfl
      try simp only [Act.put, List.setIfInBounds_toArray, List.set_cons_zero, List.set_cons_succ]
      refine wpAnyH_take (i := 1) (oi := ({ dst := some 17, op := Op.load 33 (Operand.tmp 16), type := 33, pos := "l05_term.go:117", after := #[{ on := 0, ground := Ground.data }], guard := none } : Oper)) (v := ?_) rfl (by kernel_rfl) (by kernel_rfl) (by kernel_rfl) (fun _ _ _ h => h) (Or.inl ⟨by rfl, ?_⟩) (by assumption) ?_
      rotate_left
      · intro w hSw
        try dsimp only at hSw
        go_simp
        try with_reducible rfl
      try simp only [Act.put, List.setIfInBounds_toArray, List.set_cons_zero, List.set_cons_succ]
      refine wpAnyH_take (i := 2) (oi := ({ dst := some 18, op := Op.call { callee := Callee.builtin Builtin.len, args := #[Operand.tmp 17], argTypes := #[33] }, type := 3, pos := "l05_term.go:117", after := #[{ on := 1, ground := Ground.data }], guard := none } : Oper)) (v := ?_) rfl (by kernel_rfl) (by kernel_rfl) (by kernel_rfl) (fun _ _ _ h => h) (Or.inl ⟨by rfl, ?_⟩) (by assumption) ?_
      rotate_left
      · intro w hSw
        try dsimp only at hSw
        go_simp
        try with_reducible rfl
      try simp only [Act.put, List.setIfInBounds_toArray, List.set_cons_zero, List.set_cons_succ]
      refine wpAnyH_take (i := 3) (oi := ({ dst := some 19, op := Op.binOp BinOp.gtr 3 (Operand.tmp 18) (Operand.const (Value.int IntKind.i64 0)) 3, type := 4, pos := "l05_term.go:117", after := #[{ on := 2, ground := Ground.data }], guard := none } : Oper)) (v := ?_) rfl (by kernel_rfl) (by kernel_rfl) (by kernel_rfl) (fun _ _ _ h => h) (Or.inl ⟨by rfl, ?_⟩) (by assumption) ?_
      rotate_left
      · intro w hSw
        try dsimp only at hSw
        go_simp
        try with_reducible rfl
      try simp only [Act.put, List.setIfInBounds_toArray, List.set_cons_zero, List.set_cons_succ]
      refine wpAnyH_take (i := 4) (oi := ({ dst := some 20, op := Op.move (Operand.tmp 19), type := 4, pos := "l05_term.go:117", after := #[{ on := 3, ground := Ground.data }], guard := none } : Oper)) (v := ?_) rfl (by kernel_rfl) (by kernel_rfl) (by kernel_rfl) (fun _ _ _ h => h) (Or.inl ⟨by rfl, ?_⟩) (by assumption) ?_
      rotate_left
      · intro w hSw
        try dsimp only at hSw
        go_simp
        try with_reducible rfl
      try simp only [Act.put, List.setIfInBounds_toArray, List.set_cons_zero, List.set_cons_succ]
      refine wpAnyH_take (i := 5) (oi := ({ dst := some 21, op := Op.fieldAddr 35 (Operand.tmp 1) 6, type := 0, pos := "l05_term.go:117", after := #[{ on := 4, ground := Ground.guard }], guard := some (4, true) } : Oper)) (v := undef) rfl (by kernel_rfl) (by kernel_rfl) (by kernel_rfl) (fun _ _ _ h => h) (Or.inr ⟨by rfl, rfl⟩) (by assumption) ?_
      try simp only [Act.put, List.setIfInBounds_toArray, List.set_cons_zero, List.set_cons_succ]
      refine wpAnyH_take (i := 6) (oi := ({ dst := some 22, op := Op.load 33 (Operand.tmp 21), type := 33, pos := "l05_term.go:117", after := #[{ on := 5, ground := Ground.data }, { on := 4, ground := Ground.guard }], guard := some (4, true) } : Oper)) (v := undef) rfl (by kernel_rfl) (by kernel_rfl) (by kernel_rfl) (fun _ _ _ h => h) (Or.inr ⟨by rfl, rfl⟩) (by assumption) ?_
      try simp only [Act.put, List.setIfInBounds_toArray, List.set_cons_zero, List.set_cons_succ]
      refine wpAnyH_take (i := 7) (oi := ({ dst := some 23, op := Op.call { callee := Callee.builtin Builtin.len, args := #[Operand.tmp 22], argTypes := #[33] }, type := 3, pos := "l05_term.go:117", after := #[{ on := 6, ground := Ground.data }, { on := 4, ground := Ground.guard }], guard := some (4, true) } : Oper)) (v := undef) rfl (by kernel_rfl) (by kernel_rfl) (by kernel_rfl) (fun _ _ _ h => h) (Or.inr ⟨by rfl, rfl⟩) (by assumption) ?_
      try simp only [Act.put, List.setIfInBounds_toArray, List.set_cons_zero, List.set_cons_succ]
      refine wpAnyH_take (i := 8) (oi := ({ dst := some 24, op := Op.fieldAddr 35 (Operand.tmp 1) 1, type := 0, pos := "l05_term.go:117", after := #[{ on := 4, ground := Ground.guard }], guard := some (4, true) } : Oper)) (v := undef) rfl (by kernel_rfl) (by kernel_rfl) (by kernel_rfl) (fun _ _ _ h => h) (Or.inr ⟨by rfl, rfl⟩) (by assumption) ?_
      try simp only [Act.put, List.setIfInBounds_toArray, List.set_cons_zero, List.set_cons_succ]
      refine wpAnyH_take (i := 9) (oi := ({ dst := some 25, op := Op.load 9 (Operand.tmp 24), type := 9, pos := "l05_term.go:117", after := #[{ on := 8, ground := Ground.data }, { on := 4, ground := Ground.guard }], guard := some (4, true) } : Oper)) (v := undef) rfl (by kernel_rfl) (by kernel_rfl) (by kernel_rfl) (fun _ _ _ h => h) (Or.inr ⟨by rfl, rfl⟩) (by assumption) ?_
      try simp only [Act.put, List.setIfInBounds_toArray, List.set_cons_zero, List.set_cons_succ]
      refine wpAnyH_take (i := 10) (oi := ({ dst := some 26, op := Op.call { callee := Callee.value (Operand.func 86), args := #[Operand.tmp 25], argTypes := #[9] }, type := 3, pos := "l05_term.go:117", after := #[{ on := 9, ground := Ground.data }, { on := 4, ground := Ground.chain }, { on := 4, ground := Ground.guard }], guard := some (4, true) } : Oper)) (v := undef) rfl (by kernel_rfl) (by kernel_rfl) (by kernel_rfl) (fun _ _ _ h => h) (Or.inr ⟨by rfl, rfl⟩) (by assumption) ?_
      try simp only [Act.put, List.setIfInBounds_toArray, List.set_cons_zero, List.set_cons_succ]
      refine wpAnyH_take (i := 11) (oi := ({ dst := some 27, op := Op.binOp BinOp.eql 3 (Operand.tmp 23) (Operand.tmp 26) 3, type := 4, pos := "l05_term.go:117", after := #[{ on := 7, ground := Ground.data }, { on := 10, ground := Ground.data }, { on := 4, ground := Ground.guard }], guard := some (4, true) } : Oper)) (v := undef) rfl (by kernel_rfl) (by kernel_rfl) (by kernel_rfl) (fun _ _ _ h => h) (Or.inr ⟨by rfl, rfl⟩) (by assumption) ?_
      try simp only [Act.put, List.setIfInBounds_toArray, List.set_cons_zero, List.set_cons_succ]
      refine wpAnyH_take (i := 12) (oi := ({ dst := some 28, op := Op.pick (Operand.tmp 20) (Operand.tmp 27) (Operand.const (Value.bool false)), type := 4, pos := "l05_term.go:117", after := #[{ on := 4, ground := Ground.data }, { on := 11, ground := Ground.data }], guard := none } : Oper)) (v := ?_) rfl (by kernel_rfl) (by kernel_rfl) (by kernel_rfl) (fun _ _ _ h => h) (Or.inl ⟨by rfl, ?_⟩) (by assumption) ?_
      rotate_left
      · intro w hSw
        try dsimp only at hSw
        go_simp
        try with_reducible rfl
      try simp only [Act.put, List.setIfInBounds_toArray, List.set_cons_zero, List.set_cons_succ]
      refine wpAnyH_take (i := 13) (oi := ({ dst := some 2, op := Op.assign (Operand.tmp 28), type := 4, pos := "l05_term.go:117", after := #[{ on := 12, ground := Ground.data }, { on := 10, ground := Ground.chain }, { on := 0, ground := Ground.phase }, { on := 1, ground := Ground.phase }, { on := 2, ground := Ground.phase }, { on := 3, ground := Ground.phase }, { on := 4, ground := Ground.phase }, { on := 5, ground := Ground.phase }, { on := 6, ground := Ground.phase }, { on := 7, ground := Ground.phase }, { on := 8, ground := Ground.phase }, { on := 9, ground := Ground.phase }, { on := 10, ground := Ground.phase }, { on := 11, ground := Ground.phase }, { on := 12, ground := Ground.phase }], guard := none } : Oper)) (v := ?_) rfl (by kernel_rfl) (by kernel_rfl) (by kernel_rfl) (fun _ _ _ h => h) (Or.inl ⟨by rfl, ?_⟩) (by assumption) ?_
      rotate_left
      · intro w hSw
        try dsimp only at hSw
        go_simp
        try with_reducible rfl
      try simp only [Act.put, List.setIfInBounds_toArray, List.set_cons_zero, List.set_cons_succ]
      refine wpAnyH_done (by kernel_rfl) ?_ _
      refine NoPanic.normal ?_
      clear hHeld
      go_wp2_with fail
      go_ret
      exact ⟨_, lit_f HA.out, rfl, (HB.out _).drew⟩
  rcases (show t.kind = 1 ∨ t.kind = 2 ∨ t.kind = 3 ∨ t.kind = 5 ∨ t.kind = 6 ∨ t.kind = 7 ∨ t.kind = 8 ∨ t.kind = 9 ∨ t.kind = 10 ∨ t.kind = 11 ∨ t.kind = 12 ∨ t.kind = 13 by omega) with hk | hk | hk | hk | hk | hk | hk | hk | hk | hk | hk | hk
  · have HA := Lib.hid (show (((t.args.length : Int) == 0) = true ↔ t.arOk) by simp [Tm.arOk, Tm.arity, arK, hk])
    have hc : (w.alloc (.cells #[.int .i64 1, .string t.name, .string t.other, .int .i64 t.n, .int .i64 t.ty.kind, .slice tp t.ty.args.length tc, .int .i64 t.res.kind, .slice rp t.res.args.length rc, .slice p t.args.length c] 35)).cell? ⟨1, 1, none⟩ = some (.int .i64 0) := by rw [HK.out _ 1]; rfl
    rw [hk]
    clear h4 hr hk hl
    go_enter Tryd.func66, Tryd.ntmps66
    go_wp2_with fail
    go_region_held3 (fun w' => w'.cell? ⟨w.heap.size, 0, none⟩ = some (.int .i64 1) ∧ w'.cell? ⟨w.heap.size, 8, none⟩ = some (.slice p t.args.length c) ∧ w'.cell? ⟨1, 1, none⟩ = some (.int .i64 0) ∧ Below w.heap.size w w')
      (first
        | (go_keep; done)
        | exact ⟨cell_of_blk (blk_new w _) 0, cell_of_blk (blk_new w _) 8, hc, (HB.out _).drew⟩)
      (first
        | fail)
    rename_i hH
    have HBL := Lib.hid hH.2.2.2
    clear hH hc
    go_wp2_with fail
    go_ret
    exact ⟨_, HA.out, rfl, HBL.out⟩
  · have HA := Lib.hid (show (((t.args.length : Int) == 0) = true ↔ t.arOk) by simp [Tm.arOk, Tm.arity, arK, hk])
    have hc : (w.alloc (.cells #[.int .i64 2, .string t.name, .string t.other, .int .i64 t.n, .int .i64 t.ty.kind, .slice tp t.ty.args.length tc, .int .i64 t.res.kind, .slice rp t.res.args.length rc, .slice p t.args.length c] 35)).cell? ⟨1, 2, none⟩ = some (.int .i64 0) := by rw [HK.out _ 2]; rfl
    rw [hk]
    clear h4 hr hk hl
    go_enter Tryd.func66, Tryd.ntmps66
    go_wp2_with fail
    go_region_held3 (fun w' => w'.cell? ⟨w.heap.size, 0, none⟩ = some (.int .i64 2) ∧ w'.cell? ⟨w.heap.size, 8, none⟩ = some (.slice p t.args.length c) ∧ w'.cell? ⟨1, 2, none⟩ = some (.int .i64 0) ∧ Below w.heap.size w w')
      (first
        | (go_keep; done)
        | exact ⟨cell_of_blk (blk_new w _) 0, cell_of_blk (blk_new w _) 8, hc, (HB.out _).drew⟩)
      (first
        | fail)
    rename_i hH
    have HBL := Lib.hid hH.2.2.2
    clear hH hc
    go_wp2_with fail
    go_ret
    exact ⟨_, HA.out, rfl, HBL.out⟩
  · have HA := Lib.hid (show (((t.args.length : Int) == 0) = true ↔ t.arOk) by simp [Tm.arOk, Tm.arity, arK, hk])
    have hc : (w.alloc (.cells #[.int .i64 3, .string t.name, .string t.other, .int .i64 t.n, .int .i64 t.ty.kind, .slice tp t.ty.args.length tc, .int .i64 t.res.kind, .slice rp t.res.args.length rc, .slice p t.args.length c] 35)).cell? ⟨1, 3, none⟩ = some (.int .i64 0) := by rw [HK.out _ 3]; rfl
    rw [hk]
    clear h4 hr hk hl
    go_enter Tryd.func66, Tryd.ntmps66
    go_wp2_with fail
    go_region_held3 (fun w' => w'.cell? ⟨w.heap.size, 0, none⟩ = some (.int .i64 3) ∧ w'.cell? ⟨w.heap.size, 8, none⟩ = some (.slice p t.args.length c) ∧ w'.cell? ⟨1, 3, none⟩ = some (.int .i64 0) ∧ Below w.heap.size w w')
      (first
        | (go_keep; done)
        | exact ⟨cell_of_blk (blk_new w _) 0, cell_of_blk (blk_new w _) 8, hc, (HB.out _).drew⟩)
      (first
        | fail)
    rename_i hH
    have HBL := Lib.hid hH.2.2.2
    clear hH hc
    go_wp2_with fail
    go_ret
    exact ⟨_, HA.out, rfl, HBL.out⟩
  · have HA := Lib.hid (show (((t.args.length : Int) == 3) = true ↔ t.arOk) by simp [Tm.arOk, Tm.arity, arK, hk])
    have hc : (w.alloc (.cells #[.int .i64 5, .string t.name, .string t.other, .int .i64 t.n, .int .i64 t.ty.kind, .slice tp t.ty.args.length tc, .int .i64 t.res.kind, .slice rp t.res.args.length rc, .slice p t.args.length c] 35)).cell? ⟨1, 5, none⟩ = some (.int .i64 3) := by rw [HK.out _ 5]; rfl
    rw [hk]
    clear h4 hr hk hl
    go_enter Tryd.func66, Tryd.ntmps66
    go_wp2_with fail
    go_region_held3 (fun w' => w'.cell? ⟨w.heap.size, 0, none⟩ = some (.int .i64 5) ∧ w'.cell? ⟨w.heap.size, 8, none⟩ = some (.slice p t.args.length c) ∧ w'.cell? ⟨1, 5, none⟩ = some (.int .i64 3) ∧ Below w.heap.size w w')
      (first
        | (go_keep; done)
        | exact ⟨cell_of_blk (blk_new w _) 0, cell_of_blk (blk_new w _) 8, hc, (HB.out _).drew⟩)
      (first
        | fail)
    rename_i hH
    have HBL := Lib.hid hH.2.2.2
    clear hH hc
    go_wp2_with fail
    go_ret
    exact ⟨_, HA.out, rfl, HBL.out⟩
  · have HA := Lib.hid (show (((t.args.length : Int) == 1) = true ↔ t.arOk) by simp [Tm.arOk, Tm.arity, arK, hk])
    have hc : (w.alloc (.cells #[.int .i64 6, .string t.name, .string t.other, .int .i64 t.n, .int .i64 t.ty.kind, .slice tp t.ty.args.length tc, .int .i64 t.res.kind, .slice rp t.res.args.length rc, .slice p t.args.length c] 35)).cell? ⟨1, 6, none⟩ = some (.int .i64 1) := by rw [HK.out _ 6]; rfl
    rw [hk]
    clear h4 hr hk hl
    go_enter Tryd.func66, Tryd.ntmps66
    go_wp2_with fail
    go_region_held3 (fun w' => w'.cell? ⟨w.heap.size, 0, none⟩ = some (.int .i64 6) ∧ w'.cell? ⟨w.heap.size, 8, none⟩ = some (.slice p t.args.length c) ∧ w'.cell? ⟨1, 6, none⟩ = some (.int .i64 1) ∧ Below w.heap.size w w')
      (first
        | (go_keep; done)
        | exact ⟨cell_of_blk (blk_new w _) 0, cell_of_blk (blk_new w _) 8, hc, (HB.out _).drew⟩)
      (first
        | fail)
    rename_i hH
    have HBL := Lib.hid hH.2.2.2
    clear hH hc
    go_wp2_with fail
    go_ret
    exact ⟨_, HA.out, rfl, HBL.out⟩
  · have HA := Lib.hid (show (((t.args.length : Int) == 2) = true ↔ t.arOk) by simp [Tm.arOk, Tm.arity, arK, hk])
    have hc : (w.alloc (.cells #[.int .i64 7, .string t.name, .string t.other, .int .i64 t.n, .int .i64 t.ty.kind, .slice tp t.ty.args.length tc, .int .i64 t.res.kind, .slice rp t.res.args.length rc, .slice p t.args.length c] 35)).cell? ⟨1, 7, none⟩ = some (.int .i64 2) := by rw [HK.out _ 7]; rfl
    rw [hk]
    clear h4 hr hk hl
    go_enter Tryd.func66, Tryd.ntmps66
    go_wp2_with fail
    go_region_held3 (fun w' => w'.cell? ⟨w.heap.size, 0, none⟩ = some (.int .i64 7) ∧ w'.cell? ⟨w.heap.size, 8, none⟩ = some (.slice p t.args.length c) ∧ w'.cell? ⟨1, 7, none⟩ = some (.int .i64 2) ∧ Below w.heap.size w w')
      (first
        | (go_keep; done)
        | exact ⟨cell_of_blk (blk_new w _) 0, cell_of_blk (blk_new w _) 8, hc, (HB.out _).drew⟩)
      (first
        | fail)
    rename_i hH
    have HBL := Lib.hid hH.2.2.2
    clear hH hc
    go_wp2_with fail
    go_ret
    exact ⟨_, HA.out, rfl, HBL.out⟩
  · have HA := Lib.hid (show (((t.args.length : Int) == 2) = true ↔ t.arOk) by simp [Tm.arOk, Tm.arity, arK, hk])
    have hc : (w.alloc (.cells #[.int .i64 8, .string t.name, .string t.other, .int .i64 t.n, .int .i64 t.ty.kind, .slice tp t.ty.args.length tc, .int .i64 t.res.kind, .slice rp t.res.args.length rc, .slice p t.args.length c] 35)).cell? ⟨1, 8, none⟩ = some (.int .i64 2) := by rw [HK.out _ 8]; rfl
    rw [hk]
    clear h4 hr hk hl
    go_enter Tryd.func66, Tryd.ntmps66
    go_wp2_with fail
    go_region_held3 (fun w' => w'.cell? ⟨w.heap.size, 0, none⟩ = some (.int .i64 8) ∧ w'.cell? ⟨w.heap.size, 8, none⟩ = some (.slice p t.args.length c) ∧ w'.cell? ⟨1, 8, none⟩ = some (.int .i64 2) ∧ Below w.heap.size w w')
      (first
        | (go_keep; done)
        | exact ⟨cell_of_blk (blk_new w _) 0, cell_of_blk (blk_new w _) 8, hc, (HB.out _).drew⟩)
      (first
        | fail)
    rename_i hH
    have HBL := Lib.hid hH.2.2.2
    clear hH hc
    go_wp2_with fail
    go_ret
    exact ⟨_, HA.out, rfl, HBL.out⟩
  · have HA := Lib.hid (show (((t.args.length : Int) == 1) = true ↔ t.arOk) by simp [Tm.arOk, Tm.arity, arK, hk])
    have hc : (w.alloc (.cells #[.int .i64 9, .string t.name, .string t.other, .int .i64 t.n, .int .i64 t.ty.kind, .slice tp t.ty.args.length tc, .int .i64 t.res.kind, .slice rp t.res.args.length rc, .slice p t.args.length c] 35)).cell? ⟨1, 9, none⟩ = some (.int .i64 1) := by rw [HK.out _ 9]; rfl
    rw [hk]
    clear h4 hr hk hl
    go_enter Tryd.func66, Tryd.ntmps66
    go_wp2_with fail
    go_region_held3 (fun w' => w'.cell? ⟨w.heap.size, 0, none⟩ = some (.int .i64 9) ∧ w'.cell? ⟨w.heap.size, 8, none⟩ = some (.slice p t.args.length c) ∧ w'.cell? ⟨1, 9, none⟩ = some (.int .i64 1) ∧ Below w.heap.size w w')
      (first
        | (go_keep; done)
        | exact ⟨cell_of_blk (blk_new w _) 0, cell_of_blk (blk_new w _) 8, hc, (HB.out _).drew⟩)
      (first
        | fail)
    rename_i hH
    have HBL := Lib.hid hH.2.2.2
    clear hH hc
    go_wp2_with fail
    go_ret
    exact ⟨_, HA.out, rfl, HBL.out⟩
  · have HA := Lib.hid (show (((t.args.length : Int) == 1) = true ↔ t.arOk) by simp [Tm.arOk, Tm.arity, arK, hk])
    have hc : (w.alloc (.cells #[.int .i64 10, .string t.name, .string t.other, .int .i64 t.n, .int .i64 t.ty.kind, .slice tp t.ty.args.length tc, .int .i64 t.res.kind, .slice rp t.res.args.length rc, .slice p t.args.length c] 35)).cell? ⟨1, 10, none⟩ = some (.int .i64 1) := by rw [HK.out _ 10]; rfl
    rw [hk]
    clear h4 hr hk hl
    go_enter Tryd.func66, Tryd.ntmps66
    go_wp2_with fail
    go_region_held3 (fun w' => w'.cell? ⟨w.heap.size, 0, none⟩ = some (.int .i64 10) ∧ w'.cell? ⟨w.heap.size, 8, none⟩ = some (.slice p t.args.length c) ∧ w'.cell? ⟨1, 10, none⟩ = some (.int .i64 1) ∧ Below w.heap.size w w')
      (first
        | (go_keep; done)
        | exact ⟨cell_of_blk (blk_new w _) 0, cell_of_blk (blk_new w _) 8, hc, (HB.out _).drew⟩)
      (first
        | fail)
    rename_i hH
    have HBL := Lib.hid hH.2.2.2
    clear hH hc
    go_wp2_with fail
    go_ret
    exact ⟨_, HA.out, rfl, HBL.out⟩
  · have HA := Lib.hid (show (((t.args.length : Int) == 1) = true ↔ t.arOk) by simp [Tm.arOk, Tm.arity, arK, hk])
    have hc : (w.alloc (.cells #[.int .i64 11, .string t.name, .string t.other, .int .i64 t.n, .int .i64 t.ty.kind, .slice tp t.ty.args.length tc, .int .i64 t.res.kind, .slice rp t.res.args.length rc, .slice p t.args.length c] 35)).cell? ⟨1, 11, none⟩ = some (.int .i64 1) := by rw [HK.out _ 11]; rfl
    rw [hk]
    clear h4 hr hk hl
    go_enter Tryd.func66, Tryd.ntmps66
    go_wp2_with fail
    go_region_held3 (fun w' => w'.cell? ⟨w.heap.size, 0, none⟩ = some (.int .i64 11) ∧ w'.cell? ⟨w.heap.size, 8, none⟩ = some (.slice p t.args.length c) ∧ w'.cell? ⟨1, 11, none⟩ = some (.int .i64 1) ∧ Below w.heap.size w w')
      (first
        | (go_keep; done)
        | exact ⟨cell_of_blk (blk_new w _) 0, cell_of_blk (blk_new w _) 8, hc, (HB.out _).drew⟩)
      (first
        | fail)
    rename_i hH
    have HBL := Lib.hid hH.2.2.2
    clear hH hc
    go_wp2_with fail
    go_ret
    exact ⟨_, HA.out, rfl, HBL.out⟩
  · have HA := Lib.hid (show (((t.args.length : Int) == 1) = true ↔ t.arOk) by simp [Tm.arOk, Tm.arity, arK, hk])
    have hc : (w.alloc (.cells #[.int .i64 12, .string t.name, .string t.other, .int .i64 t.n, .int .i64 t.ty.kind, .slice tp t.ty.args.length tc, .int .i64 t.res.kind, .slice rp t.res.args.length rc, .slice p t.args.length c] 35)).cell? ⟨1, 12, none⟩ = some (.int .i64 1) := by rw [HK.out _ 12]; rfl
    rw [hk]
    clear h4 hr hk hl
    go_enter Tryd.func66, Tryd.ntmps66
    go_wp2_with fail
    go_region_held3 (fun w' => w'.cell? ⟨w.heap.size, 0, none⟩ = some (.int .i64 12) ∧ w'.cell? ⟨w.heap.size, 8, none⟩ = some (.slice p t.args.length c) ∧ w'.cell? ⟨1, 12, none⟩ = some (.int .i64 1) ∧ Below w.heap.size w w')
      (first
        | (go_keep; done)
        | exact ⟨cell_of_blk (blk_new w _) 0, cell_of_blk (blk_new w _) 8, hc, (HB.out _).drew⟩)
      (first
        | fail)
    rename_i hH
    have HBL := Lib.hid hH.2.2.2
    clear hH hc
    go_wp2_with fail
    go_ret
    exact ⟨_, HA.out, rfl, HBL.out⟩
  · have HA := Lib.hid (show (((t.args.length : Int) == 1) = true ↔ t.arOk) by simp [Tm.arOk, Tm.arity, arK, hk])
    have hc : (w.alloc (.cells #[.int .i64 13, .string t.name, .string t.other, .int .i64 t.n, .int .i64 t.ty.kind, .slice tp t.ty.args.length tc, .int .i64 t.res.kind, .slice rp t.res.args.length rc, .slice p t.args.length c] 35)).cell? ⟨1, 13, none⟩ = some (.int .i64 1) := by rw [HK.out _ 13]; rfl
    rw [hk]
    clear h4 hr hk hl
    go_enter Tryd.func66, Tryd.ntmps66
    go_wp2_with fail
    go_region_held3 (fun w' => w'.cell? ⟨w.heap.size, 0, none⟩ = some (.int .i64 13) ∧ w'.cell? ⟨w.heap.size, 8, none⟩ = some (.slice p t.args.length c) ∧ w'.cell? ⟨1, 13, none⟩ = some (.int .i64 1) ∧ Below w.heap.size w w')
      (first
        | (go_keep; done)
        | exact ⟨cell_of_blk (blk_new w _) 0, cell_of_blk (blk_new w _) 8, hc, (HB.out _).drew⟩)
      (first
        | fail)
    rename_i hH
    have HBL := Lib.hid hH.2.2.2
    clear hH hc
    go_wp2_with fail
    go_ret
    exact ⟨_, HA.out, rfl, HBL.out⟩
end Go.Proofs.YtfeijijeohfpgaaDoor
