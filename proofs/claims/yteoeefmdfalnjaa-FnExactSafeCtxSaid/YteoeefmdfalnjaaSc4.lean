/-
  Several texts of the proof in one (each says below what it holds): CxA OpenCx CxSz CxCopy StrEq CxEq.
-/
import Derived.Test.YteoeefmdfalnjaaSc3
import Derived.Test.YteoeefmdfalnjaaSc2
import Derived.Test.YteoeefmdfalnjaaSc1
import Derived.Test.YteoeefmdfalnjaaProg
import Derived.Laws.Strings
/- CxA: Contexts of any size, of no program: what they weigh, the box of a typing, one typing of a slice. -/
namespace Go.Proofs.Yteoeefmdfalnjaa
open Go Go.RowKit

theorem Tg.ext' {a b : Tg} (h1 : a.nm = b.nm) (h2 : a.ty.kind = b.ty.kind) (h3 : a.ty.args = b.ty.args) (h4 : a.lv = b.lv) : a = b := by
  obtain ⟨n, t, l⟩ := a
  obtain ⟨n', t', l'⟩ := b
  cases t
  cases t'
  simp only [Ty.kind_mk, Ty.args_mk] at h2 h3
  simp only at h1 h4
  subst h1 h2 h3 h4
  rfl
def Tg.wt (x : Tg) : Nat := x.nm.size + nodesS x.ty.args
def wtC : List Tg → Nat
  | [] => 0
  | x :: L => 1 + x.wt + wtC L
theorem wtC_append (a b : List Tg) : wtC (a ++ b) = wtC a + wtC b := by
  induction a with
  | nil => simp [wtC]
  | cons x a ih => simp only [List.cons_append, wtC, ih]; omega
theorem cx_take_next {L : List Tg} {k : Nat} (h : k < L.length) : L.take (k + 1) = L.take k ++ [L[k]] := by
  rw [List.take_add_one, List.getElem?_eq_getElem h]; rfl
theorem wtC_take (L : List Tg) (k : Nat) (h : k < L.length) : wtC (L.take (k + 1)) = wtC (L.take k) + (1 + L[k].wt) := by
  rw [cx_take_next h, wtC_append]; simp [wtC]
theorem wtC_take_le (L : List Tg) (k : Nat) : wtC (L.take k) ≤ wtC L := by
  have h := wtC_append (L.take k) (L.drop k)
  rw [List.take_append_drop] at h
  omega
theorem wtC_ge (L : List Tg) : L.length ≤ wtC L := by
  induction L with
  | nil => simp
  | cons a L ih => simp only [List.length_cons, wtC]; omega
theorem wtC_at (L : List Tg) (k : Nat) (h : k < L.length) : 1 + L[k].wt ≤ wtC L := by
  have h1 := wtC_take L k h
  have h2 := wtC_take_le L (k + 1)
  omega
theorem wtC_mem {L : List Tg} {x : Tg} (h : x ∈ L) : 1 + x.wt ≤ wtC L := by
  obtain ⟨k, hk, rfl⟩ := List.getElem_of_mem h
  exact wtC_at L k hk
def fitC (L : List Tg) : Prop := ∀ x ∈ L, x.nm.size ≤ 9223372036854775807
theorem fitC.at {L : List Tg} (h : fitC L) {k : Nat} (hk : k < L.length) : L[k].nm.size ≤ 9223372036854775807 := h _ (List.getElem_mem hk)

abbrev tgC (x : Tg) (p : Option Addr) (c : Nat) : Array Value := #[.string x.nm, .int .i64 x.ty.kind, .slice p x.ty.args.length c, .int .i64 x.lv]
abbrev tgV (x : Tg) (p : Option Addr) (c : Nat) : Value := .agg #[.string x.nm, .int .i64 x.ty.kind, .slice p x.ty.args.length c, .int .i64 x.lv]
abbrev tgL (x : Tg) (p : Option Addr) (c : Nat) : List Value := [.string x.nm, .int .i64 x.ty.kind, .slice p x.ty.args.length c, .int .i64 x.lv]
/-- A typing's box. -/
structure Bx4 (w : World) (b : Nat) (x : Tg) (p : Option Addr) (c : Nat) : Prop where
  nm : w.cell? ⟨b, 0, none⟩ = some (.string x.nm)
  kind : w.cell? ⟨b, 1, none⟩ = some (.int .i64 x.ty.kind)
  args : w.cell? ⟨b, 2, none⟩ = some (.slice p x.ty.args.length c)
  lv : w.cell? ⟨b, 3, none⟩ = some (.int .i64 x.lv)
theorem Bx4.of {w : World} {b : Nat} {x : Tg} {p : Option Addr} {c : Nat} {T : TypeId} (h : w.heap[b]? = some (.cells (tgC x p c) T (0, 0))) : Bx4 w b x p c := by
  have k : ∀ i, w.cell? ⟨b, i, none⟩ = (tgC x p c)[i]? := fun i => by simp [World.cell?, h]
  exact ⟨k 0, k 1, k 2, k 3⟩
theorem Bx4.lt {w : World} {b : Nat} {x : Tg} {p : Option Addr} {c : Nat} (h : Bx4 w b x p c) : b < w.heap.size := World.block_lt_of_cell? w _ h.nm
theorem Bx4.at {w w' : World} {b : Nat} {x : Tg} {p : Option Addr} {c : Nat} (h : Bx4 w b x p c) (hs : w'.heap[b]? = w.heap[b]?) : Bx4 w' b x p c := by
  have k : ∀ i, w'.cell? ⟨b, i, none⟩ = w.cell? ⟨b, i, none⟩ := fun i => World.cell?_of_block (a := ⟨b, i, none⟩) hs
  exact ⟨(k 0).trans h.nm, (k 1).trans h.kind, (k 2).trans h.args, (k 3).trans h.lv⟩
theorem Bx4.keep {w w' : World} {b : Nat} {x : Tg} {p : Option Addr} {c : Nat} (h : Bx4 w b x p c) (hb : Below w.heap.size w w') : Bx4 w' b x p c := h.at (hb.block b h.lt)
theorem Bx4.new (w : World) (x : Tg) (p : Option Addr) (c : Nat) (T : TypeId) : Bx4 (w.alloc (.cells (tgC x p c) T)) w.heap.size x p c :=
  Bx4.of (T := T) (by show (w.heap.push _)[w.heap.size]? = _; simp)
/-- A typing in rows of the call's own. -/
theorem OSt4 {w : World} {x : Tg} {p : Option Addr} {c : Nat} {F : Nat → Prop} (h : OS w x.ty.args (.slice p x.ty.args.length c) F) : OSt w x.ds (tgL x p c) F := by
  refine ⟨rfl, fun i z => i = 2 ∧ F z, fun i d v hd hv => ?_, fun i z _ hz => hz.2, fun i j z _ _ hij h1 h2 => hij (h1.1.trans h2.1.symm)⟩
  unfold Tg.ds at hd
  match i, hd, hv with
  | 0, hd, hv => cases hd; cases hv; exact .cell _ _
  | 1, hd, hv => cases hd; cases hv; exact .cell _ _
  | 2, hd, hv => cases hd; cases hv; exact h.dO.mono (fun z hz => ⟨rfl, hz⟩)
  | 3, hd, hv => cases hd; cases hv; exact .cell _ _
  | n + 4, hd, hv => simp at hv
def OCv (w : World) (x : Tg) (v : Value) (F : Nat → Prop) : Prop := ∃ p c, v = tgV x p c ∧ OS w x.ty.args (.slice p x.ty.args.length c) F
def NewC (x : Tg) (w : World) (e : Ending) (w' : World) : Prop := ∃ v, e = .returned v ∧ OCv w' x v (fun g => w.heap.size ≤ g ∧ g < w'.heap.size) ∧ Below w.heap.size w w'
def NewCS (L : List Tg) (w : World) (e : Ending) (w' : World) : Prop := ∃ v, e = .returned v ∧ DO w' (cxD L) v (fun g => w.heap.size ≤ g ∧ g < w'.heap.size) ∧ Below w.heap.size w w'
end Go.Proofs.Yteoeefmdfalnjaa
/- OpenCx: An argument that is a context, opened: the typings that it reads as. -/
namespace Go.Proofs.Yteoeefmdfalnjaa
open Go Go.ChangeShapes Go.WideShapes Go.RowKit

theorem cells_tg : Try.prog.cellsOf 37 = 4 := by kernel_rfl

section
variable {H : Type} {enc : TypeId × Value → H} {w : World} {spare : Nat → Bool} {held : Bool}

theorem cell_of_cells4 {a : Addr} {cs : List Value} {base i : Nat} (h : w.cells? base (a.add (i * 4)) 4 = some cs) : cs.length = 4 ∧ ∀ j, j < 4 → w.cell? (a.add (i * 4 + j)) = cs[j]? := by
  unfold World.cells? at h
  split at h
  · have e : (List.range 4) = [0, 1, 2, 3] := rfl
    rw [e] at h
    simp only [List.mapM_cons, List.mapM_nil, Option.bind_eq_bind, Option.bind_eq_some_iff, Option.pure_def, Option.some.injEq] at h
    obtain ⟨v0, h0, _, ⟨v1, h1, _, ⟨v2, h2, _, ⟨v3, h3, _, rfl, rfl⟩, rfl⟩, rfl⟩, rfl⟩ := h
    rw [Go.Deep.add_add] at h0 h1 h2 h3
    refine ⟨rfl, fun j hj => ?_⟩
    match j, hj with
    | 0, _ => exact h0
    | 1, _ => exact h1
    | 2, _ => exact h2
    | 3, _ => exact h3
    | n + 4, hj => omega
  · cases h

set_option maxRecDepth 100000 in
set_option maxHeartbeats 2000000 in
/-- What a typing's four cells read as. -/
theorem open_tg (fuel : Nat) (cs : List Value) (x : DataW H × List MemPlace) (h : DataW.trod enc Try.prog w 0 spare held fuel 37 cs = some x) : ∃ (t : Tg) (p : Option Addr) (c : Nat),
    cs = (tgC t p c).toList ∧ TS w (fun _ => True) t.ty.args (.slice p t.ty.args.length c) ∧ t.nm.size ≤ 9223372036854775807 := by
  obtain ⟨xs, n, hn, _, hl, hlen, hf⟩ := DataW.trod_struct Try.underlying37 h
  rw [cells_tg] at hl
  have g0 : DataW.trod enc Try.prog w 0 spare held n 9 ((cs.drop 0).take (Try.prog.cellsOf 9)) = xs[0]? := hf 0 _ rfl
  have g1 : DataW.trod enc Try.prog w 0 spare held n 35 ((cs.drop 1).take (Try.prog.cellsOf 35)) = xs[1]? := hf 1 _ rfl
  have g2 : DataW.trod enc Try.prog w 0 spare held n 3 ((cs.drop 3).take (Try.prog.cellsOf 3)) = xs[2]? := hf 2 _ rfl
  rw [cells_str] at g0
  rw [cells_ty] at g1
  rw [cells_int] at g2
  match cs, hl, xs, hlen with
  | [c0, c1, c2, c3], _, [y0, y1, y2], _ =>
    obtain ⟨sa, ha, _, za⟩ := DataW.trod_string Try.underlying9 g0
    obtain ⟨kt, st, tts, hst, htt⟩ := (open_ty n).1 _ _ g1
    obtain ⟨k, hk, _, _⟩ := DataW.trod_int Try.underlying3 g2
    simp only [List.drop_zero, List.drop_succ_cons, List.take_succ_cons, List.take_zero, List.cons.injEq, and_true] at hk ha hst
    obtain ⟨rfl, rfl⟩ := hst
    subst hk ha
    obtain ⟨p, c, rfl⟩ := htt.form
    exact ⟨⟨sa, .mk kt tts, k⟩, p, c, rfl, htt, za⟩
set_option maxRecDepth 100000 in
set_option maxHeartbeats 2000000 in
/-- What a slice of typings reads as. -/
theorem open_cx (fuel : Nat) (cs : List Value) (x : DataW H × List MemPlace) (h : DataW.trod enc Try.prog w 0 spare held fuel 22 cs = some x) : ∃ (s : Value) (L : List Tg), cs = [s] ∧ DM w (fun _ => True) (cxD L) s ∧ fitC L := by
  rcases DataW.trod_slice Try.underlying22 h with ⟨rfl, _⟩ | ⟨a, len, cap, elems, rest, n, hn, rfl, _, _, hl, hm, hlen, hel, _, _⟩
  · exact ⟨_, [], rfl, .nil _ _ _ _, fun x hx => by cases hx⟩
  · by_cases h0 : len = 0
    · subst h0
      exact ⟨_, [], rfl, .nil _ _ _ _, fun x hx => by cases hx⟩
    rw [cells_tg] at hel
    have each : ∀ i, i < len → ∃ z : Tg, (∃ (p : Option Addr) (c : Nat), (∀ j, j < 4 → w.cell? (a.add (i * 4 + j)) = (tgC z p c).toList[j]?) ∧ TS w (fun _ => True) z.ty.args (.slice p z.ty.args.length c)) ∧ z.nm.size ≤ 9223372036854775807 := by
      intro i hi
      have hb := hel i hi
      rw [List.getElem?_eq_getElem (by omega), Option.bind_eq_some_iff] at hb
      obtain ⟨cs', hcs, ht⟩ := hb
      obtain ⟨t, p, c, rfl, hT, hft⟩ := open_tg n _ _ ht
      exact ⟨t, ⟨p, c, (cell_of_cells4 hcs).2, hT⟩, hft⟩
    haveI : Inhabited Tg := ⟨⟨.empty, .mk 0 [], 0⟩⟩
    obtain ⟨f, hf⟩ := Go.Deep.choose_lt (α := Tg) each
    have hspot : a.spot = none := by
      obtain ⟨⟨_, _, h9, _⟩, _⟩ := hf 0 (by omega)
      have := h9 0 (by omega)
      simp only [Nat.zero_mul, Nat.zero_add] at this
      simpa [Addr.add] using World.cell?_spot this
    obtain ⟨b, o, sp⟩ := a
    simp only at hspot
    subst hspot
    simp only [Go.WideShapes.add_plain] at hf
    have hb : b < w.heap.size := by
      obtain ⟨⟨_, _, h9, _⟩, _⟩ := hf 0 (by omega)
      exact World.block_lt_of_cell? w _ (h9 0 (by omega))
    let L := (List.range len).map fun i => f i
    have hts : L.length = len := by simp [L]
    have at_ : ∀ j (hj : j < L.length), L[j] = f j := by
      intro j hj
      simp [L]
    have cell : ∀ (i : Nat) (d : D), (flatCx L)[i]? = some d → ∃ v, w.cell? ⟨b, o + i, none⟩ = some v ∧ DM w (fun _ => True) d v := by
      intro i d hd
      have hi : i < L.length * 4 := by
        rw [← flatCx_len]
        exact (List.getElem?_eq_some_iff.1 hd).1
      obtain ⟨j, k, hj, hk, rfl⟩ : ∃ j k, j < L.length ∧ k < 4 ∧ i = j * 4 + k := ⟨i / 4, i % 4, by omega, by omega, by omega⟩
      rw [flatCx_at L j k hj hk, at_ j hj] at hd
      unfold Tg.ds at hd
      obtain ⟨⟨p, c, h9, hT⟩, _⟩ := hf j (by omega)
      have h := h9 k hk
      match k, hk with
      | 0, _ => cases hd; exact ⟨_, h, .cell _⟩
      | 1, _ => cases hd; exact ⟨_, h, .cell _⟩
      | 2, _ => cases hd; exact ⟨_, h, hT.dm⟩
      | 3, _ => cases hd; exact ⟨_, h, .cell _⟩
      | n + 4, hk => omega
    have pick : ∀ i, i < L.length * 4 → ∃ v : Value, w.cell? ⟨b, o + i, none⟩ = some v ∧ ∀ d, (flatCx L)[i]? = some d → DM w (fun _ => True) d v := by
      intro i hi
      obtain ⟨v, h1, h2⟩ := cell i _ (List.getElem?_eq_getElem (by rw [flatCx_len]; exact hi))
      refine ⟨v, h1, fun d hd => ?_⟩
      rw [List.getElem?_eq_getElem (by rw [flatCx_len]; exact hi)] at hd
      exact (Option.some.inj hd) ▸ h2
    haveI : Inhabited Value := ⟨.int .i64 0⟩
    obtain ⟨V, hV⟩ := Go.Deep.choose_lt (α := Value) pick
    refine ⟨_, L, rfl, ?_, fun x hx => ?_⟩
    · have key := DM.rows (w := w) (C := fun _ => True) (T := 43) (k := 4) (n := L.length) (b := b) (o := o) (c := cap) (ds := flatCx L) V (by omega) (by omega) (by unfold maxLen at hm; omega) (flatCx_len L) trivial hb
        (fun i d hd => (hV i (by rw [← flatCx_len]; exact (List.getElem?_eq_some_iff.1 hd).1)).1) (fun i d hd => (hV i (by rw [← flatCx_len]; exact (List.getElem?_eq_some_iff.1 hd).1)).2 d hd)
      rw [hts] at key
      show DM w _ (.rows _ 4 L.length (flatCx L)) _
      rw [hts]
      exact key
    · obtain ⟨j, hj, rfl⟩ := List.getElem_of_mem hx
      rw [at_ j hj]
      exact (hf j (by omega)).2
end

/-- THE ARGUMENT OPENED. -/
theorem open_ctx {H : Type} {enc : TypeId × Value → H} {W : World} {spare : Nat → Bool} {held : Bool} {a : Option Addr} {len cap : Nat} {d : DataW H} {p : List MemPlace}
    (h : DataW.Trod enc Try.prog W 0 spare held 22 (.slice a len cap) d p) : ∃ L : List Tg, DM W (fun _ => True) (cxD L) (.slice a len cap) ∧ fitC L := by
  obtain ⟨fuel, hf⟩ := h
  obtain ⟨s, L, hcs, ht, hfit⟩ := open_cx fuel _ _ hf
  have hcs' : s = .slice a len cap := by
    have h0 : (Value.slice a len cap).cells = #[.slice a len cap] := rfl
    rw [h0] at hcs
    simpa using hcs.symm
  subst hcs'
  exact ⟨L, ht, hfit⟩
end Go.Proofs.Yteoeefmdfalnjaa
/- CxSz: The contracts of the laws' szTyping and szTypingS: what is left of a bound behind a typing, behind a context, or -1. -/
namespace Go.Proofs.Yteoeefmdfalnjaa
open Go Go.RowKit

set_option maxRecDepth 100000 in
set_option maxHeartbeats 2000000 in
theorem szC_of {C : Nat → Prop} {x : Tg} {p : Option Addr} {c : Nat} {w : World} (left : Int) (h0 : 0 ≤ left) (hl : left ≤ 1048576) (hT : TS w C x.ty.args (.slice p x.ty.args.length c)) (hf : x.nm.size ≤ 9223372036854775807) :
    Calls Try.prog 14 #[tgV x p c, .int .i64 left] w (IntRet (SzEnds left x.wt) w) := by
  have HT := Lib.hid hT
  have HB0 := Lib.hid (al_below w (.cells (tgC x p c) 37))
  have HX0 := Lib.hid (Bx4.new w x p c 37)
  have HW := Lib.hid (show x.wt = x.nm.size + nodesS x.ty.args from rfl)
  clear hT
  go_enter Try.func14, Try.ntmps14
  by_cases c1 : left - (x.nm.size : Int) < 0
  · go_wp2_with fail
    go_ret
    exact ⟨_, Or.inr ⟨rfl, by have := HW.out; omega⟩, rfl, HB0.out⟩
  have HC3 := Lib.hid (szT_any (C := C) (t := x.ty) (v := .agg #[.int .i64 x.ty.kind, .slice p x.ty.args.length c]) ⟨_, rfl, HT.out.keep HB0.out⟩ (left - (x.nm.size : Int)) (by omega) (by omega))
  go_wp2_with fail
  refine HC3.out.mono ?_
  rintro e w3 ⟨r3, hr3, rfl, hb3⟩
  have rg3 := hr3.range (by omega)
  have HR3 := Lib.hid hr3
  have HB3 := Lib.hid (HB0.out.trans (hb3.mono HB0.out.size))
  clear hr3 hb3 HC3
  by_cases c3 : r3 < 0
  · go_wp2_with fail
    go_ret
    exact ⟨_, Or.inr ⟨rfl, by have := HW.out; have := HR3.out; unfold SzEnds at this; omega⟩, rfl, HB3.out⟩
  · go_wp2_with fail
    go_ret
    exact ⟨_, by have := HW.out; have := HR3.out; unfold SzEnds at *; omega, rfl, HB3.out⟩

/-- k typings have been counted: l is left. -/
def LeftC (left : Int) (L : List Tg) (k : Nat) (l : Int) : Prop := l + L.length + (wtC (L.take k) - k : Nat) = left
theorem wtC_take_ge (L : List Tg) (k : Nat) (h : k ≤ L.length) : k ≤ wtC (L.take k) := by
  have := wtC_ge (L.take k)
  rw [List.length_take] at this
  omega
theorem leftC_next {left : Int} {L : List Tg} {k : Nat} {l r : Int} (h : LeftC left L k l) (hk : k < L.length) (hr : SzEnds l L[k].wt r) (h0 : 0 ≤ r) : LeftC left L (k + 1) r := by
  have h1 := wtC_take L k hk
  have h2 := wtC_take_ge L k (Nat.le_of_lt hk)
  unfold LeftC SzEnds at *
  omega
theorem leftC_over {left : Int} {L : List Tg} {k : Nat} {l r : Int} (h : LeftC left L k l) (hk : k < L.length) (hr : SzEnds l L[k].wt r) (h0 : r < 0) : SzEnds left (wtC L) (-1) := by
  have h1 := wtC_take L k hk
  have h2 := wtC_take_ge L k (Nat.le_of_lt hk)
  have h3 := wtC_append (L.take (k + 1)) (L.drop (k + 1))
  rw [List.take_append_drop] at h3
  have h4 := wtC_ge (L.drop (k + 1))
  rw [List.length_drop] at h4
  unfold LeftC SzEnds at *
  omega
theorem leftC_end {left : Int} {L : List Tg} {l : Int} (h : LeftC left L L.length l) (h0 : 0 ≤ l) : SzEnds left (wtC L) l := by
  have h2 := wtC_ge L
  unfold LeftC at h
  rw [List.take_length] at h
  unfold SzEnds
  omega

set_option maxRecDepth 100000 in
set_option maxHeartbeats 1000000 in
/-- THE LAWS' szTypingS, AT EVERY CONTEXT. -/
theorem szCS_any {C : Nat → Prop} {L : List Tg} {v : Value} {w : World} (h : DM w C (cxD L) v) (left : Int) (h0 : 0 ≤ left) (hl : left ≤ 1048576) (hfit : fitC L) :
    Calls Try.prog 5 #[v, .int .i64 left] w (IntRet (SzEnds left (wtC L)) w) := by
  obtain ⟨q, d, rfl⟩ := h.form
  have hlen := h.len.1
  have HH := Lib.hid h
  have HF := Lib.hid hfit
  clear h hfit
  go_enter Try.func5, Try.ntmps5
  by_cases hbig : left - (L.length : Int) < 0
  · go_wp2_with fail
    go_ret
    exact ⟨_, Or.inr ⟨rfl, by have := wtC_ge L; omega⟩, rfl, Below.refl _ _⟩
  · go_wp2_with fail
    go_loopw [1, 5] (fun l i wr => ∃ (k : Nat) (l' : Int), k ≤ L.length ∧ 0 ≤ l' ∧ l' ≤ left ∧ i = .int .i64 k ∧ l = .int .i64 l' ∧ LeftC left L k l' ∧ Below w.heap.size w wr) (fun _ i _ => L.length - (intOf i).toNat)
    case atStart => exact ⟨0, _, Nat.zero_le _, by omega, by omega, rfl, rfl, by unfold LeftC; simp [wtC], Below.refl _ _⟩
    case round =>
      obtain ⟨k, l', hk, hL0, hL1, rfl, rfl, hat, hbr⟩ := hrel
      have HA := Lib.hid hat
      have HB := Lib.hid hbr
      clear hat hbr
      by_cases hlk : k < L.length
      · obtain ⟨b, o, p, c, rfl, hC, hb, h4, hT⟩ := cx_part HH.out k hlk
        obtain ⟨g0, g1, g2, g3⟩ := h4 wr (.of_below HB.out)
        have HC := Lib.hid (szC_of (C := C) l' hL0 (by omega) (hT.stays (.of_below HB.out)) (HF.out.at hlk))
        have i0 : (0 : Int) ≤ (k : Int) := Int.natCast_nonneg _
        have i1 : (k : Int) < (L.length : Int) := by omega
        clear hC hb h4 hT
        go_wp2_with fail
        refine HC.out.mono ?_
        rintro e w1 ⟨r, hr, rfl, hb1⟩
        have hrg := hr.range hL0
        have HR := Lib.hid hr
        have HB1 := Lib.hid (HB.out.trans (hb1.mono HB.out.size))
        clear hr hb1
        by_cases hneg : r < 0
        · go_wp2_with fail
          go_ret
          exact ⟨_, leftC_over HA.out hlk HR.out hneg, rfl, HB1.out⟩
        · go_wp2_with fail
          go_roundw
          case rel => exact ⟨k + 1, r, by omega, by omega, by omega, by go_num, rfl, leftC_next HA.out hlk HR.out (by omega), HB1.out⟩
          case measure => simp [intOf]; omega
      · obtain rfl : k = L.length := by omega
        go_wp2_with fail
        go_ret
        exact ⟨_, leftC_end HA.out hL0, rfl, HB.out⟩
#print axioms szCS_any
end Go.Proofs.Yteoeefmdfalnjaa
/- CxCopy: The contracts of the laws' toTyping and toTypingS: the same context, in rows of the call's own. -/
namespace Go.Proofs.Yteoeefmdfalnjaa
open Go Go.RowKit

theorem infoTg : (Try.prog.info? 43).map (fun i => (i.zero, i.size, i.bytes)) = some (some (.agg #[.string ⟨#[]⟩, .int .i64 0, .slice none 0 0, .int .i64 0]), 4, 56) := by kernel_rfl
set_option maxRecDepth 100000 in
set_option maxHeartbeats 2000000 in
theorem toC_of {C : Nat → Prop} {x : Tg} {p : Option Addr} {c : Nat} {w : World} (hT : TS w C x.ty.args (.slice p x.ty.args.length c)) (hn : nodesS x.ty.args ≤ 1048576) :
    Calls Try.prog 18 #[tgV x p c] w (NewC x w) := by
  obtain ⟨⟨k0, k1, k2⟩, hsz, hbl⟩ := chain3 w (.cells (tgC x p c) 37) (.cells #[.string ⟨#[]⟩, .int .i64 0, .slice none 0 0, .int .i64 0] 43)
    (.cells #[.string x.nm, .int .i64 0, .slice none 0 0, .int .i64 0] 43)
  have HT := Lib.hid hT
  have HK0 := Lib.hid k0
  have HK1 := Lib.hid k1
  have HK2 := Lib.hid k2
  have HSZ := Lib.hid hsz
  have HBL := Lib.hid hbl
  clear hT k0 k1 k2 hsz hbl
  go_enter Try.func18, Try.ntmps18
  go_wp2_with fail
  refine (toT_any (C := C) (t := x.ty) (v := .agg #[.int .i64 x.ty.kind, .slice p x.ty.args.length c]) ⟨_, rfl, HT.out.keep HBL.out⟩ hn).mono ?_
  rintro e w1 ⟨v1, rfl, ⟨s1, rfl, ho1⟩, hb1⟩
  obtain ⟨p1, c1, rfl⟩ := ho1.form
  have hb1s := hb1.size
  rw [HSZ.out] at hb1 hb1s ho1
  have q0 := (hb1.block w.heap.size (by omega)).trans HK0.out
  have q1 := (hb1.block (w.heap.size + 1) (by omega)).trans HK1.out
  have q2 := (hb1.block (w.heap.size + 1 + 1) (by omega)).trans HK2.out
  obtain ⟨x0, x1, x2, x3⟩ := Bx4.of q0
  have y0 : w1.cell? ⟨w.heap.size + 1 + 1, 0, none⟩ = some (.string x.nm) := cell_of_blk q2 0
  have y1 : w1.cell? ⟨w.heap.size + 1 + 1, 1, none⟩ = some (.int .i64 0) := cell_of_blk q2 1
  have y2 : w1.cell? ⟨w.heap.size + 1 + 1, 2, none⟩ = some (.slice none 0 0) := cell_of_blk q2 2
  have y3 : w1.cell? ⟨w.heap.size + 1 + 1, 3, none⟩ = some (.int .i64 0) := cell_of_blk q2 3
  have z0 : w1.cell? ⟨w.heap.size + 1, 0, none⟩ = some (.string ⟨#[]⟩) := cell_of_blk q1 0
  have z1 : w1.cell? ⟨w.heap.size + 1, 1, none⟩ = some (.int .i64 0) := cell_of_blk q1 1
  have z2 : w1.cell? ⟨w.heap.size + 1, 2, none⟩ = some (.slice none 0 0) := cell_of_blk q1 2
  have z3 : w1.cell? ⟨w.heap.size + 1, 3, none⟩ = some (.int .i64 0) := cell_of_blk q1 3
  have yz := unfrozen_of_blk q2
  have zz := unfrozen_of_blk q1
  have HO := Lib.hid ho1
  have HB1 := Lib.hid (HBL.out.trans (hb1.mono (by omega)))
  clear q0 q1 q2 ho1 hb1
  go_wp2_with fail
  refine bodyPost_ret (v := tgV x p1 c1) ?_ rfl ?_
  · rw [results_cell1 rfl]
    go_simp
  · refine ⟨_, rfl, ⟨p1, c1, rfl, OS.mono (OS.stays HO.out ?_) (fun z hz => ⟨by omega, ?_⟩)⟩, ?_⟩
    · iterate 7 (refine Stays.trans ?_ (setCell_stays _ _ _ _ _ (by omega)))
      exact Stays.refl _ _
    · have := hz.2
      simp [World.setCell]
      omega
    iterate 7 (refine Below.setCell ?_ (by dsimp only; omega) _)
    exact HB1.out

theorem setN4 (w : World) (b o : Nat) (v0 v1 v2 v3 : Value) : setN w b o [v0, v1, v2, v3] = (((w.setCell ⟨b, o, none⟩ v0).setCell ⟨b, o + 1, none⟩ v1).setCell ⟨b, o + 2, none⟩ v2).setCell ⟨b, o + 3, none⟩ v3 := rfl
set_option maxRecDepth 100000 in
set_option maxHeartbeats 2000000 in
/-- THE LAWS' toTypingS, AT EVERY CONTEXT. -/
theorem toCS_any {C : Nat → Prop} {L : List Tg} {v : Value} {w : World} (h : DM w C (cxD L) v) (hn : wtC L ≤ 1048576) : Calls Try.prog 7 #[v] w (NewCS L w) := by
  obtain ⟨i0, hi, hz0, hz1, hz2⟩ := info_parts infoTg
  obtain ⟨q, d, rfl⟩ := h.form
  have hlen := h.len.1
  have hge := wtC_ge L
  have HH := Lib.hid h
  clear h
  go_enter Try.func7, Try.ntmps7
  go_wp2_with (at_make; refine wpList_make_full _ rfl _ _ 25 rfl w.heap.size 43 i0 _ 4 Try.underlying25 hi hz0 hz1 .i64 .i64 _ _ L.length rfl rfl rfl rfl ?c1 ?c2 ?c3 ?_)
  case c1 => rw [hz2]; omega
  case c2 => unfold maxLen; omega
  case c3 => exact Nat.le_refl _
  intro w1 hown0 hg
  have hb1 : Below w.heap.size w w1 := (Below.refl _ _).grown hg (Nat.le_refl _) (fun k h => by cases h)
  have HO := Lib.hid (FilD.start (ds := flatCx L) hown0)
  clear hown0 hg
  go_wp2_with fail
  go_loopw [4] (fun i wr => ∃ k : Nat, k ≤ L.length ∧ i = .int .i64 k ∧ FilD wr w.heap.size 43 4 L.length L.length (flatCx L) k ∧ Below w.heap.size w wr) (fun i _ => L.length - (intOf i).toNat)
  case atStart => exact ⟨0, Nat.zero_le _, rfl, HO.out, hb1⟩
  case round =>
    obtain ⟨k, hk, rfl, hfill, hbr⟩ := hrel
    have HFI := Lib.hid hfill
    have HB := Lib.hid hbr
    clear hb1 hfill hbr
    by_cases hlk : k < L.length
    · obtain ⟨b, o, p, c, rfl, hC, hb, h4, hT⟩ := cx_part HH.out k hlk
      obtain ⟨g0, g1, g2, g3⟩ := h4 wr (.of_below HB.out)
      have hwk := wtC_at L k hlk
      have HC := Lib.hid (toC_of (C := C) (x := L[k]) (hT.stays (.of_below HB.out)) (by unfold Tg.wt at hwk; omega))
      have i0 : (0 : Int) ≤ (k : Int) := Int.natCast_nonneg _
      have i1 : (k : Int) < (L.length : Int) := by omega
      clear hC hb h4 hT hwk
      go_wp2_with fail
      refine HC.out.mono ?_
      rintro e w2 ⟨v, rfl, ⟨p2, c2, rfl, hos⟩, hb2⟩
      obtain ⟨hrow, hgo⟩ := HFI.out.next hb2 hlk L[k].ds_len (fun i hi => flatCx_at L k i hlk hi) (OSt4 hos)
      obtain ⟨q0, x0⟩ := hrow 0 (by omega)
      obtain ⟨q1, x1⟩ := hrow 1 (by omega)
      obtain ⟨q2, x2⟩ := hrow 2 (by omega)
      obtain ⟨q3, x3⟩ := hrow 3 (by omega)
      rw [Nat.add_zero] at x0
      have z1 := fun i => HFI.out.frz hb2 i
      have hb3 := (HB.out.trans (hb2.mono HB.out.size)).trans (setN_below (tgL L[k] p2 c2) w.heap.size w2 w.heap.size (k * 4) (Nat.le_refl _))
      rw [setN4] at hgo hb3
      have HN := Lib.hid hgo
      have HB2 := Lib.hid hb3
      clear hgo hos hb2 hb3 hrow g0 g1 g2 g3
      go_wp2_with fail
      go_roundw
      case rel => exact ⟨k + 1, by omega, by go_num, HN.out, HB2.out⟩
      case measure => simp [intOf]; omega
    · obtain rfl : k = L.length := by omega
      go_wp2_with fail
      go_ret
      exact ⟨_, rfl, HFI.out.full (flatCx_len L) (by unfold maxLen; omega), HB.out⟩
#print axioms toCS_any
end Go.Proofs.Yteoeefmdfalnjaa
/- StrEq: Comparing strings, of no program: what the walk's test says. -/
namespace Go.Proofs.Yteoeefmdfalnjaa
open Go

theorem str_inj {a b : ByteArray} (h : a.toList = b.toList) : a = b := by
  rw [ByteArray.toList_eq, ByteArray.toList_eq] at h
  obtain ⟨⟨a⟩⟩ := a
  obtain ⟨⟨b⟩⟩ := b
  rw [show a = b from h]
theorem str_yes {a b : ByteArray} (h : a = b) : (a.toList == b.toList) = true := by rw [h]; simp
theorem str_no {a b : ByteArray} (h : ¬ a = b) : (a.toList == b.toList) = false := by
  rw [beq_eq_false_iff_ne]
  exact fun hc => h (str_inj hc)
end Go.Proofs.Yteoeefmdfalnjaa
/- CxEq: The contracts of the laws' eqTyping and eqTypingS: whether two typings, two contexts are the same. -/
namespace Go.Proofs.Yteoeefmdfalnjaa
open Go Go.RowKit

set_option maxRecDepth 100000 in
set_option maxHeartbeats 2000000 in
theorem eqC_of {C C' : Nat → Prop} {x y : Tg} {p p' : Option Addr} {c c' : Nat} {w : World} (hT : TS w C x.ty.args (.slice p x.ty.args.length c)) (hU : TS w C' y.ty.args (.slice p' y.ty.args.length c')) :
    Calls Try.prog 21 #[tgV x p c, tgV y p' c'] w (BoolRet (fun b => b = true ↔ x = y) w) := by
  have HT := Lib.hid hT
  have HU := Lib.hid hU
  have hb1 := al_below w (.cells (tgC x p c) 43)
  have hb2 := al_below (w.alloc (.cells (tgC x p c) 43)) (.cells (tgC y p' c') 43)
  have hx2 := Bx4.new (w.alloc (.cells (tgC x p c) 43)) y p' c' 43
  rw [World.size_alloc] at hx2
  have HX1 := Lib.hid ((Bx4.new w x p c 43).keep hb2)
  have HX2 := Lib.hid hx2
  have HB0 := Lib.hid (hb1.trans (hb2.mono (by simp)))
  clear hT hU hb1 hb2 hx2
  go_enter Try.func21, Try.ntmps21
  by_cases hn : x.nm = y.nm
  rotate_left
  · have hn1 := str_no hn
    have HN := Lib.hid hn
    clear hn
    go_wp2_with fail
    go_ret
    exact ⟨false, by simp; exact fun e => HN.out (by rw [e]), rfl, HB0.out⟩
  have hn1 := str_yes hn
  have HN := Lib.hid hn
  clear hn
  have HC3 := Lib.hid (eqT_any (C := C) (C' := C') (t := x.ty) (u := y.ty) (v := .agg #[.int .i64 x.ty.kind, .slice p x.ty.args.length c]) (x := .agg #[.int .i64 y.ty.kind, .slice p' y.ty.args.length c']) ⟨_, rfl, HT.out.stays (.of_below HB0.out)⟩ ⟨_, rfl, HU.out.stays (.of_below HB0.out)⟩)
  go_wp2_with fail
  refine HC3.out.mono ?_
  rintro e w3 ⟨r3, hr3, rfl, hb3⟩
  have HR3 := Lib.hid hr3
  have HB3 := Lib.hid (HB0.out.trans (hb3.mono HB0.out.size))
  obtain ⟨_, _, _, g3⟩ := HX1.out.keep hb3
  obtain ⟨_, _, _, d3⟩ := HX2.out.keep hb3
  clear hr3 hb3 HC3
  cases r3
  · go_wp2_with fail
    go_ret
    exact ⟨false, by simp; exact fun e => (by have := HR3.out.2 (by rw [e]); cases this), rfl, HB3.out⟩
  by_cases hi : x.lv = y.lv
  rotate_left
  · go_wp2_with fail
    go_ret
    exact ⟨false, by simp; exact fun e => hi (by rw [e]), rfl, HB3.out⟩
  have hi1 : x.lv ≤ y.lv := by omega
  have hi2 : y.lv ≤ x.lv := by omega
  have HI := Lib.hid hi
  clear hi
  go_wp2_with fail
  go_ret
  have he : x.ty = y.ty := by simpa using HR3.out
  exact ⟨true, by simp only [true_iff]; exact Tg.ext' HN.out (by rw [he]) (by rw [he]) HI.out, rfl, HB3.out⟩

theorem keep8 {w W w1 : World} {p0 p1 p2 p3 p4 p5 p6 p7 : Addr} {v0 v1 v2 v3 v4 v5 v6 v7 : Value} (hb1 : Below W.heap.size W w1) (h : W.cell? p0 = some v0 ∧ W.cell? p1 = some v1 ∧ W.cell? p2 = some v2 ∧ W.cell? p3 = some v3 ∧ W.cell? p4 = some v4 ∧ W.cell? p5 = some v5 ∧ W.cell? p6 = some v6 ∧ W.cell? p7 = some v7 ∧ Below w.heap.size w W) : w1.cell? p0 = some v0 ∧ w1.cell? p1 = some v1 ∧ w1.cell? p2 = some v2 ∧ w1.cell? p3 = some v3 ∧ w1.cell? p4 = some v4 ∧ w1.cell? p5 = some v5 ∧ w1.cell? p6 = some v6 ∧ w1.cell? p7 = some v7 ∧ Below w.heap.size w w1 := by
  obtain ⟨h0, h1, h2, h3, h4, h5, h6, h7, hz⟩ := h
  exact ⟨keepN hb1 h0, keepN hb1 h1, keepN hb1 h2, keepN hb1 h3, keepN hb1 h4, keepN hb1 h5, keepN hb1 h6, keepN hb1 h7, hz.trans (hb1.mono hz.size)⟩
theorem cx_take_eq {L M : List Tg} {k : Nat} (h : L.take k = M.take k) (h1 : k < L.length) (h2 : k < M.length) (he : L[k] = M[k]) : L.take (k + 1) = M.take (k + 1) := by
  rw [List.take_add_one, List.take_add_one, h, List.getElem?_eq_getElem h1, List.getElem?_eq_getElem h2, he]
theorem cx_ne_at {L M : List Tg} {k : Nat} (h1 : k < L.length) (h2 : k < M.length) (hn : ¬ L[k] = M[k]) : L ≠ M := by
  intro e; subst e; exact hn rfl

set_option maxRecDepth 100000 in
set_option maxHeartbeats 2000000 in
/-- THE LAWS' eqTypingS, AT ANY TWO CONTEXTS. -/
theorem eqCS_any {C C' : Nat → Prop} {L M : List Tg} {v u : Value} {w : World} (h : DM w C (cxD L) v) (hu : DM w C' (cxD M) u) :
    Calls Try.prog 9 #[v, u] w (BoolRet (fun b => b = true ↔ L = M) w) := by
  obtain ⟨q, d, rfl⟩ := h.form
  obtain ⟨q', d', rfl⟩ := hu.form
  have hlen0 := h.len.1
  have hlen' := hu.len.1
  have HH := Lib.hid h
  have HU := Lib.hid hu
  clear h hu
  go_enter Try.func9, Try.ntmps9
  by_cases hlen : L.length = M.length
  rotate_left
  · have hne : ¬ (L = M) := fun e => hlen (by rw [e])
    have HN := Lib.hid hne
    clear hne
    go_wp2_with fail
    go_ret
    exact ⟨false, by simpa using HN.out, rfl, Below.refl _ _⟩
  have HL := Lib.hid hlen
  rw [← hlen]
  clear hlen
  go_wp2_with fail
  go_loopw [5] (fun i wr => ∃ (k : Nat), k ≤ L.length ∧ i = .int .i64 k ∧ L.take k = M.take k ∧ Below w.heap.size w wr) (fun i _ => L.length - (intOf i).toNat)
  case atStart => exact ⟨0, Nat.zero_le _, rfl, by simp, Below.refl _ _⟩
  case round =>
    obtain ⟨k, hk, rfl, htk, hbr⟩ := hrel
    have HTK := Lib.hid htk
    have HB := Lib.hid hbr
    clear htk
    by_cases hlk : k < L.length
    · have hlk2 : k < M.length := by rw [← HL.out]; exact hlk
      obtain ⟨b, o, p, c, rfl, hC, hb, h4, hT⟩ := cx_part HH.out k hlk
      obtain ⟨b2, o2, p2, c2, rfl, hC2, hb2, h42, hT2⟩ := cx_part HU.out k hlk2
      obtain ⟨g0, g1, g2, g3⟩ := h4 wr (.of_below hbr)
      obtain ⟨d0, d1, d2, d3⟩ := h42 wr (.of_below hbr)
      have HC := Lib.hid (eqC_of (w := wr.drew) (C := C) (C' := C') (x := L[k]) (y := M[k]) ((hT.stays (.of_below hbr)).stays (.of_below (Below.refl _ _).drew)) ((hT2.stays (.of_below hbr)).stays (.of_below (Below.refl _ _).drew)))
      have i0 : (0 : Int) ≤ (k : Int) := Int.natCast_nonneg _
      have i1 : (k : Int) < (L.length : Int) := by omega
      clear hC hb h4 hT hC2 hb2 h42 hT2 hbr
      go_wp2_with fail
      go_region_held3 (fun w' => w'.cell? ⟨b, o + k * 4, none⟩ = some (.string L[k].nm) ∧ w'.cell? ⟨b, o + k * 4 + 1, none⟩ = some (.int .i64 L[k].ty.kind) ∧ w'.cell? ⟨b, o + k * 4 + 2, none⟩ = some (.slice p L[k].ty.args.length c) ∧ w'.cell? ⟨b, o + k * 4 + 3, none⟩ = some (.int .i64 L[k].lv) ∧ w'.cell? ⟨b2, o2 + k * 4, none⟩ = some (.string M[k].nm) ∧ w'.cell? ⟨b2, o2 + k * 4 + 1, none⟩ = some (.int .i64 M[k].ty.kind) ∧ w'.cell? ⟨b2, o2 + k * 4 + 2, none⟩ = some (.slice p2 M[k].ty.args.length c2) ∧ w'.cell? ⟨b2, o2 + k * 4 + 3, none⟩ = some (.int .i64 M[k].lv) ∧ Below w.heap.size w w')
        (first
          | (go_keep; done)
          | exact ⟨g0, g1, g2, g3, d0, d1, d2, d3, HB.out.drew⟩
          | exact keep8 hb1 (by assumption))
        (first
          | (go_at_call 21; refine HC.out.mono ?_; rintro e w1 ⟨r, hr, rfl, hb1⟩))
      have HR := Lib.hid hr
      have HB1 := Lib.hid (HB.out.trans (((Below.refl _ _).drew.trans hb1).mono HB.out.size))
      rename_i hH
      clear hH hb1 hr g0 g1 g2 g3 d0 d1 d2 d3
      cases r with
      | true =>
        go_wp2_with fail
        go_roundw
        case rel => exact ⟨k + 1, by omega, by go_num, cx_take_eq HTK.out hlk hlk2 (HR.out.1 rfl), HB1.out⟩
        case measure => simp [intOf]; omega
      | false =>
        go_wp2_with fail
        go_ret
        exact ⟨false, by simpa using cx_ne_at hlk hlk2 (fun e => by simpa using HR.out.2 e), rfl, HB1.out⟩
    · obtain rfl : k = L.length := by omega
      have htk : L = M := by
        have := HTK.out
        rw [List.take_length, HL.out, List.take_length] at this
        exact this
      have HE := Lib.hid htk
      clear htk
      go_wp2_with fail
      go_ret
      exact ⟨true, by simpa using HE.out, rfl, HB.out⟩
#print axioms eqCS_any
end Go.Proofs.Yteoeefmdfalnjaa
