/-
  Several texts of the proof in one (each says below what it holds): KA TmValid RangeT SpecEq Kind Kind2 Aid NodesM LoopW.
-/
import Derived.Test.YtnciibngcaajgaaDoorG5
import Derived.Test.YtnciibngcaajgaaDoorG4
import Derived.Test.YtnciibngcaajgaaDoorG1
import Derived.Test.YtnciibngcaajgaaDoorG2
import Derived.Test.YtnciibngcaajgaaDoorG3
import Derived.Lib.LaidTab
import Derived.RangeFuncKeeps
import Derived.RangeFuncLeaves
import Derived.RangeFuncNested
import Derived.RangeFuncBound
import Derived.RangeFuncCalls
import Derived.Shelf.Abstract
import Derived.IntWalk
import Derived.Shelf.RegionOpen
import Derived.WalkKit
import Derived.TacticsInMore
import Derived.LoopNIn
import Derived.LoopIn
import Derived.Sort.LoopGhostIn
import Derived.Deep.LoopGhost
import Derived.Deep.CutRange
import Derived.Deep.RegionHeldLaw
/- KA: The table of the program that holds the number of parts by kind. -/
namespace Go.Proofs.YtnciibngcaajgaaDoor
open Go Go.RowKit

theorem gKA : Tryd.prog.globalNamed "loop.example/g00589/impl.kindArity" = some 0 := by kernel_rfl
def kaTab : List Int := [0, 0, 0, 0, 0, 3, 1, 2, 2, 1, 1, 1, 1, 1]
/-- The table reads as the program's text lays it. -/
def KA (w : World) : Prop := Lib.TabIs Tryd.prog w "loop.example/g00589/impl.kindArity" .i64 kaTab ∧ 0 < w.heap.size
theorem KA.below {w w' : World} (h : KA w) (hb : Below w.heap.size w w') : KA w' := ⟨var?_below hb gKA h.2 h.1, Nat.lt_of_lt_of_le h.2 hb.size⟩
theorem KA.cell {w : World} (h : KA w) (i : Nat) : w.cell? ⟨0, i, none⟩ = ((kaTab.map fun z => Value.int .i64 z).toArray)[i]? := World.var?_cell gKA h.1 i

/-- The node is of one of the forms, whatever its parts are. -/
def Tm.NodeOk (t : Tm) : Prop := t.FieldsOk ∧ (t.args.length : Int) = t.arity
theorem ok_ex : ∃ ok : Tm → Bool, ∀ x, ok x = true ↔ x.NodeOk := ⟨fun x => @decide x.NodeOk (Classical.propDecidable _), fun _ => @decide_eq_true_iff _ (Classical.propDecidable _)⟩
end Go.Proofs.YtnciibngcaajgaaDoor
/- TmValid: The contract of the model's IsValidTerm. -/
namespace Go.Proofs.YtnciibngcaajgaaDoor
open Go Go.RowKit

def Tm.Valid (t : Tm) : Prop := t.nodes ≤ 80 ∧ t.depth ≤ 20 ∧ t.IsT

set_option maxRecDepth 100000 in
set_option maxHeartbeats 2000000 in
theorem validM_any {C : Nat → Prop} {t : Tm} {v : Value} {w : World} (h : TM w C t v) (hn : t.wt ≤ 1048576) :
    Calls Tryd.prog 13 #[v] w (Tells t.Valid w) := by
  obtain ⟨tp, tc, rp, rc, p, c, rfl, hT⟩ := h
  have HT := Lib.hid hT
  have HX := Lib.hid (Bx9.new w t tp tc rp rc p c 29)
  have HB := Lib.hid (al_below w (.cells (tmC t tp tc rp rc p c) 29))
  have HN := Lib.hid hn
  have hdn := t.depth_nodes
  have hnw := t.nodes_wt
  clear hT
  go_enter Tryd.func13, Tryd.ntmps13
  go_wp2_with fail
  refine (leftM_any _ _ 80 (Nat.le_refl _) (HT.out.stays (.of_below HB.out)) HN.out (by omega) (by omega)).mono ?_
  rintro e w1 ⟨r, hr, rfl, hb1⟩
  have hrg := hr.range (by omega)
  have HR := Lib.hid hr
  have HB1 := Lib.hid (HB.out.trans (hb1.mono HB.out.size))
  have HX1 := Lib.hid (HX.out.keep hb1)
  obtain ⟨g0, g1, g2, g3, g4, g5, g6, g7, g8⟩ := HX.out.keep hb1
  clear hb1 hr
  by_cases h0 : 0 ≤ r
  · have HZ := Lib.hid (show t.nodes ≤ 80 by have := HR.out; unfold LeftEnds at this; omega)
    have hd0 : decide (0 ≤ r) = true := decide_eq_true h0
    go_wp2_with fail
    refine (depthM_any _ _ (Nat.le_refl _) (HT.out.stays (.of_below HB1.out)) HN.out).mono ?_
    rintro e w2 ⟨d, rfl, rfl, hb2⟩
    have HB2 := Lib.hid (HB1.out.trans (hb2.mono HB1.out.size))
    clear g0 g1 g2 g3 g4 g5 g6 g7 g8
    obtain ⟨g0, g1, g2, g3, g4, g5, g6, g7, g8⟩ := HX1.out.keep hb2
    clear hb2
    by_cases h2 : t.depth ≤ 20
    · have hd2 : decide ((t.depth : Int) ≤ 20) = true := decide_eq_true (by omega)
      go_wp2_with fail
      refine (isTM_any _ _ (Nat.le_refl _) (HT.out.stays (.of_below HB2.out)) HN.out).mono ?_
      rintro e w3 ⟨b, hb, rfl, hb3⟩
      have HB3 := Lib.hid (HB2.out.trans (hb3.mono HB2.out.size))
      have HI := Lib.hid hb
      clear hb hb3
      go_wp2_with fail
      go_ret
      exact ⟨_, HI.out.trans ⟨fun h => ⟨HZ.out, h2, h⟩, fun h => h.2.2⟩, rfl, HB3.out⟩
    · have hd2 : decide ((t.depth : Int) ≤ 20) = false := decide_eq_false (by omega)
      go_wp2_with fail
      go_ret
      exact ⟨_, lit_f (fun h => h2 h.2.1), rfl, HB2.out⟩
  · have HZ := Lib.hid (show ¬ t.nodes ≤ 80 by have := HR.out; unfold LeftEnds at this; omega)
    have hd0 : decide (0 ≤ r) = false := decide_eq_false h0
    go_wp2_with fail
    go_ret
    exact ⟨_, lit_f (fun h => HZ.out h.1), rfl, HB1.out⟩
end Go.Proofs.YtnciibngcaajgaaDoor
/- RangeT: A range over an iterator that keeps memory of its own and reads what the caller laid: what iterator and body owe each other, and the loop's law. Of no program. -/
namespace Go.Proofs.YtnciibngcaajgaaDoor
open Go Go.RowKit

/-- Every block but those of Cb is as it was. -/
def Holds (Cb : Nat → Prop) (w w' : World) : Prop := w.heap.size ≤ w'.heap.size ∧ ∀ b, b < w.heap.size → ¬ Cb b → w'.heap[b]? = w.heap[b]?
theorem Holds.refl (Cb : Nat → Prop) (w : World) : Holds Cb w w := ⟨Nat.le_refl _, fun _ _ _ => rfl⟩
theorem Holds.trans {Cb : Nat → Prop} {a b c : World} (h : Holds Cb a b) (k : Holds Cb b c) : Holds Cb a c :=
  ⟨Nat.le_trans h.1 k.1, fun i hi hc => (k.2 i (Nat.lt_of_lt_of_le hi h.1) hc).trans (h.2 i hi hc)⟩
theorem Holds.of_below {Cb : Nat → Prop} {w w' : World} (h : Below w.heap.size w w') : Holds Cb w w' := ⟨h.size, fun b hb _ => h.block b hb⟩
theorem Holds.setCell {Cb : Nat → Prop} {w w' : World} (h : Holds Cb w w') (p : Addr) (hp : Cb p.block) (v : Value) : Holds Cb w (w'.setCell p v) :=
  h.trans ⟨((Below.refl p.block w').setCell (Nat.le_refl _) v).size, fun b _ hc => Below.heap_setCell _ _ _ _ (fun e => hc (by rw [e]; exact hp))⟩

/-- What an iterator owes: each of 'all' comes in order, until the body says no. J: what the body keeps between two rounds; it does not mind what happens in blocks from the iterator's start on. -/
def SeqT {α β : Type} (F : Fence) (n : Nat) (P : Program) (g : Nat) (lb : Array Value) (encs : α → Array Value) (key : α → β) (Good : α → World → Prop) (Cb : Nat → Prop) (all : List β) (w : World) : Prop :=
  ∀ (l : Nat) (J Jx : List β → World → Prop) (W : World), Below w.heap.size w W → (∀ pre A B, J pre A → Below W.heap.size A B → J pre B) →
    (∀ pre x W1, J pre W1 → pre ++ [key x] <+: all → Good x W1 → YieldAt F (n - 1) P l (encs x) W1 fun e W' =>
      (e = .returned (.bool true) ∧ J (pre ++ [key x]) W' ∧ Holds Cb W1 W') ∨ (e = .returned (.bool false) ∧ Jx (pre ++ [key x]) W')) →
    J [] W →
    CallsIn F n P g (#[.func (.yield l) #[] #[]] ++ lb) W fun e W' => (∃ v, e = .returned v) ∧ (J all W' ∨ ∃ pre, pre <+: all ∧ Jx pre W')

/-- How a round's body may be left. -/
def postT {β : Type} (Cb : Nat → Prop) (I : List β → World → Prop) (Ix : Code → List β → World → Prop) (xs : List β) (W : World) : Exit → Act → World → Prop
  | .normal, _, W' => Holds Cb W W' ∧ I xs W'
  | .ret, _, W' => Holds Cb W W' ∧ Ix .ret xs W'
  | .exit id, _, W' => Holds Cb W W' ∧ Ix (.exit id) xs W'
  | .goto t, _, W' => Holds Cb W W' ∧ Ix (.goto t) xs W'
  | .panic _, _, _ => False
  | .outgrown, _, _ => False

theorem below_putObj (n : Nat) (W : World) (l : Nat) (o : Obj) (h : n ≤ l) : Below n W (W.putObj l o) :=
  ⟨rfl, rfl, rfl, by simp, fun k hk => World.putObj_heap_other (by omega)⟩

variable {F : Fence} {n : Nat} {P : Program}

/-- THE LOOP OVER SUCH AN ITERATOR. -/
theorem range_law {α β : Type} {g : Operand} {ps : Array Tmp} {assign body : Code} {Q : Exit → Act → World → Prop} {a : Act} {w : World}
    (hro : F.round = none) (h1 : 1 ≤ n) {gf : Nat} {lb : Array Value} (hg : a.eval g = .func (.func gf) #[] lb) (hFg : F.fn gf) (eg : ∀ args w, (callFunc gf args).run P w = .ok (.enter gf args) w)
    {encs : α → Array Value} {key : α → β} {Good : α → World → Prop} {Cb : Nat → Prop} {all : List β} (hseq : SeqT F (n - 1) P gf lb encs key Good Cb all w) (hps : ∀ x, (encs x).size = ps.size) (hCb : ∀ b, Cb b → b < w.heap.size)
    (I : List β → World → Prop) (Ix : Code → List β → World → Prop) (hI : ∀ pre A B, I pre A → Below w.heap.size A B → I pre B) (hIx : ∀ c pre A B, Ix c pre A → Below w.heap.size A B → Ix c pre B)
    (hG : ∀ x A B, Good x A → Below w.heap.size A B → Good x B) (h0 : I [] w)
    (Ax : α → Act → World → Prop) (hAx : ∀ x a' W l r o, Ax x a' W → W.heap[l]? = some (.loop r) → Ax x a' (W.putObj l o))
    (hassign : ∀ (l : Nat) (x : α) (W : World) (K : Act → World → Prop), Good x W → (∀ a' W', Below W.heap.size W W' → Ax x a' W' → K a' W') →
      assign.wpIn (F.inRound l) (n - 1 - 1) P (Exit.then K (fun _ _ _ => False)) { tmps := (ps.zip (encs x)).foldl (fun t (p, v) => t.setIfInBounds p v) a.tmps, defers := [] } W)
    (hbody : ∀ (l : Nat) (pre : List β) (x : α) (a' : Act) (W : World), I pre W → pre ++ [key x] <+: all → Good x W → Ax x a' W → body.wpIn (F.inRound l) (n - 1 - 1) P (postT Cb I Ix (pre ++ [key x]) W) a' W)
    (hdone : ∀ (D : Nat) (W : World), w.heap.size ≤ D → I all W → W.heap[D]? = some (.deferred (some [])) → Q .normal { a with defers := { target := .collected D, args := #[] } :: a.defers } W)
    (hstop : ∀ (D : Nat) (c : Code) (pre : List β) (W : World), w.heap.size ≤ D → pre <+: all → Ix c pre W → W.heap[D]? = some (.deferred (some [])) → c.wpIn F n P Q { a with defers := { target := .collected D, args := #[] } :: a.defers } W) :
    (Code.rangeFunc g ps assign body).wpIn F n P Q a w := by
  refine wpIn_rangeFunc (fun fn hfn => ?_)
  rw [hro]
  -- the record of the loop, in its three states
  let rec_ : LoopState → Option Code → Loop := fun st pe => { state := st, pending := pe, fn, tmps := a.tmps, params := ps, assign, body, defers := w.heap.size }
  let w1 := (w.alloc (.deferred (some []))).alloc (.loop (rec_ .ready none))
  have hs1 : w1.heap.size = w.heap.size + 2 := by simp [w1]
  have hb1 : Below w.heap.size w w1 := ((Below.refl _ w).alloc (Nat.le_refl _) _).alloc (by simp) _
  have hl1 : w1.heap[w.heap.size + 1]? = some (.loop (rec_ .ready none)) := by
    have := World.alloc_heap_new (w.alloc (.deferred (some []))) (.loop (rec_ .ready none))
    rwa [World.size_alloc] at this
  have hd1 : w1.heap[w.heap.size]? = some (.deferred (some [])) := (Below.heap_alloc _ _ _ (by simp)).trans (World.alloc_heap_new w _)
  refine ⟨w.heap.size + 1, [{ target := .collected w.heap.size, args := #[] }], w1, { target := .fn (.func gf) lb, args := #[.func (.yield (w.heap.size + 1)) #[] #[]] }, w1, gf,
    #[.func (.yield (w.heap.size + 1)) #[] #[]] ++ lb, w1, run_enterLoop_outer _ _ _ _ _, by simp only [resolve, hg]; simp [go_sem], fun f' hf' => by simp [Target.leads] at hf'; subst hf'; exact hFg, by simp [invoke, go_sem, eg], fun _ => h1, ?_⟩
  have still : ∀ {A B : World} {k : Nat} {o : Obj}, Below w1.heap.size A B → k < w1.heap.size → A.heap[k]? = some o → B.heap[k]? = some o := fun hb hk h => (hb.block _ hk).trans h
  refine (hseq (w.heap.size + 1)
    (fun pre W => I pre W ∧ W.heap[w.heap.size + 1]? = some (.loop (rec_ .ready none)) ∧ W.heap[w.heap.size]? = some (.deferred (some [])))
    (fun pre W => ∃ c, Ix c pre W ∧ W.heap[w.heap.size + 1]? = some (.loop (rec_ .done (some c))) ∧ W.heap[w.heap.size]? = some (.deferred (some [])))
    w1 hb1 (fun pre A B h hb => ⟨hI pre A B h.1 (hb.mono (by omega)), still hb (by omega) h.2.1, still hb (by omega) h.2.2⟩) ?_ ⟨hI _ _ _ h0 hb1, hl1, hd1⟩).mono ?_
  · -- one round
    rintro pre x W ⟨hi, hl, hd⟩ hpre hgood
    have hy := run_yield (P := P) (args := encs x) hl (hps x)
    refine ⟨fn, _, assign, body, hy, roundIn_of_wpIn hfn (hassign _ x W _ hgood (fun a' Wa hba hax => ?_))⟩
    have hlt : w.heap.size + 1 < W.heap.size := (Array.getElem?_eq_some_iff.1 hl).1
    have hla : Wa.heap[w.heap.size + 1]? = some (.loop (rec_ .ready none)) := (hba.block _ hlt).trans hl
    have hda : Wa.heap[w.heap.size]? = some (.deferred (some [])) := (hba.block _ (by omega)).trans hd
    refine ⟨_, run_beginRound hla rfl, ?_⟩
    have hlta : w.heap.size + 1 < Wa.heap.size := (Array.getElem?_eq_some_iff.1 hla).1
    let busy : Loop := { rec_ .ready none with state := .busy }
    let Wb := Wa.putObj (w.heap.size + 1) (.loop busy)
    have hbb : Below w.heap.size Wa Wb := below_putObj _ _ _ _ (by omega)
    have hlb : Wb.heap[w.heap.size + 1]? = some (.loop busy) := World.putObj_heap_same hlta
    have hdb : Wb.heap[w.heap.size]? = some (.deferred (some [])) := (World.putObj_heap_other (by omega)).trans hda
    have hbwb := (hba.mono (Nat.le_of_lt (by omega : w.heap.size < W.heap.size))).trans hbb
    refine wpIn_mono (hbody _ pre x a' Wb (hI _ _ _ hi hbwb) hpre (hG _ _ _ hgood hbwb) (hAx _ _ _ _ _ _ hax hla)) ?_
    have fin : ∀ (jump : Option Code) (W3 : World), Holds Cb Wb W3 →
        (Instr.endRound (w.heap.size + 1) jump).run P W3 = .ok (.bool jump.isNone) (W3.putObj (w.heap.size + 1) (.loop (rec_ (if jump.isNone then .ready else .done) jump))) ∧
        Below w.heap.size W3 (W3.putObj (w.heap.size + 1) (.loop (rec_ (if jump.isNone then .ready else .done) jump))) ∧
        (W3.putObj (w.heap.size + 1) (.loop (rec_ (if jump.isNone then .ready else .done) jump))).heap[w.heap.size + 1]? = some (.loop (rec_ (if jump.isNone then .ready else .done) jump)) ∧
        (W3.putObj (w.heap.size + 1) (.loop (rec_ (if jump.isNone then .ready else .done) jump))).heap[w.heap.size]? = some (.deferred (some [])) := fun jump W3 hk => by
      have hwb : Wb.heap.size = Wa.heap.size := by simp [Wb]
      have h3 : W3.heap[w.heap.size + 1]? = some (.loop busy) := (hk.2 _ (by omega) (fun hc => by have := hCb _ hc; omega)).trans hlb
      have hd3 : W3.heap[w.heap.size]? = some (.deferred (some [])) := (hk.2 _ (by omega) (fun hc => by have := hCb _ hc; omega)).trans hdb
      exact ⟨run_endRound (P := P) jump h3, below_putObj _ _ _ _ (by omega), World.putObj_heap_same (Array.getElem?_eq_some_iff.1 h3).1, (World.putObj_heap_other (by omega)).trans hd3⟩
    have whole : ∀ W3, Holds Cb Wb W3 → Holds Cb W (W3.putObj (w.heap.size + 1) (.loop (rec_ .ready none))) := fun W3 hk => by
      have hwb : Wb.heap.size = Wa.heap.size := by simp [Wb]
      have hsz := hba.size
      refine ⟨by have := hk.1; simp; omega, fun b hb hc => ?_⟩
      by_cases e : b = w.heap.size + 1
      · subst e
        rw [World.putObj_heap_same (by have := hk.1; omega)]; exact hl.symm
      · rw [World.putObj_heap_other e, hk.2 b (by omega) hc, World.putObj_heap_other e, hba.block b hb]
    rintro e a3 W3 hp
    cases e with
    | normal =>
      obtain ⟨hk, hi3⟩ := hp
      obtain ⟨hr, hb3, hl3, hd3⟩ := fin none W3 hk
      exact ⟨_, _, hr, .inl ⟨rfl, ⟨hI _ _ _ hi3 hb3, hl3, hd3⟩, whole W3 hk⟩⟩
    | ret =>
      obtain ⟨hk, hi3⟩ := hp
      obtain ⟨hr, hb3, hl3, hd3⟩ := fin (some .ret) W3 hk
      exact ⟨_, _, hr, .inr ⟨rfl, .ret, hIx _ _ _ _ hi3 hb3, hl3, hd3⟩⟩
    | exit id =>
      obtain ⟨hk, hi3⟩ := hp
      obtain ⟨hr, hb3, hl3, hd3⟩ := fin (some (.exit id)) W3 hk
      exact ⟨_, _, hr, .inr ⟨rfl, .exit id, hIx _ _ _ _ hi3 hb3, hl3, hd3⟩⟩
    | goto t =>
      obtain ⟨hk, hi3⟩ := hp
      obtain ⟨hr, hb3, hl3, hd3⟩ := fin (some (.goto t)) W3 hk
      exact ⟨_, _, hr, .inr ⟨rfl, .goto t, hIx _ _ _ _ hi3 hb3, hl3, hd3⟩⟩
    | panic ch => exact hp.elim
    | outgrown => exact hp.elim
  · -- the iterator has returned
    rintro e W2 ⟨⟨v, rfl⟩, (⟨hi, hl, hd⟩ | ⟨pre, hpre, c, hi, hl, hd⟩)⟩
    · exact ⟨none, _, run_endLoop (P := P) hl (by simp [rec_]), hdone _ _ (Nat.le_refl _) (hI _ _ _ hi (below_putObj _ _ _ _ (by omega))) ((World.putObj_heap_other (by omega)).trans hd)⟩
    · exact ⟨some c, _, run_endLoop (P := P) hl (by simp [rec_]), hstop _ c pre _ (Nat.le_refl _) hpre (hIx _ _ _ _ hi (below_putObj _ _ _ _ (by omega))) ((World.putObj_heap_other (by omega)).trans hd)⟩
end Go.Proofs.YtnciibngcaajgaaDoor
/- SpecEq: The contract of the model's EqualType. -/
namespace Go.Proofs.YtnciibngcaajgaaDoor
open Go Go.RowKit

theorem keep6 {w W w1 : World} {p1 p2 p3 p4 p5 p6 : Addr} {v1 v2 v3 v4 v5 v6 : Value} (hb1 : Below W.heap.size W w1) (h : W.cell? p1 = some v1 ∧ W.cell? p2 = some v2 ∧ W.cell? p3 = some v3 ∧ W.cell? p4 = some v4 ∧ W.cell? p5 = some v5 ∧ W.cell? p6 = some v6 ∧ Below w.heap.size w W) :
    w1.cell? p1 = some v1 ∧ w1.cell? p2 = some v2 ∧ w1.cell? p3 = some v3 ∧ w1.cell? p4 = some v4 ∧ w1.cell? p5 = some v5 ∧ w1.cell? p6 = some v6 ∧ Below w.heap.size w w1 := by
  have k : ∀ {p : Addr} {v : Value}, W.cell? p = some v → w1.cell? p = some v := fun h => (hb1.cell (World.block_lt_of_cell? W _ h)).trans h
  exact ⟨k h.1, k h.2.1, k h.2.2.1, k h.2.2.2.1, k h.2.2.2.2.1, k h.2.2.2.2.2.1, h.2.2.2.2.2.2.trans (hb1.mono h.2.2.2.2.2.2.size)⟩

set_option maxRecDepth 100000 in
set_option maxHeartbeats 2000000 in
theorem eqSp_any {w0 : World} {C C' : Nat → Prop} {ts : List Ty} {v : Value} (h : TS w0 C ts v) : ∀ (w : World) (q q2 : Int) (us : List Ty) (u : Value), Stays C w0 w → TS w C' us u →
    Calls Tryd.prog 41 #[.agg #[.int .i64 q, v], .agg #[.int .i64 q2, u]] w (BoolRet (fun b => b = true ↔ (q = q2 ∧ ts = us)) w) := by
  refine TS.ind (motive := fun ts v => ∀ (w : World) (q q2 : Int) (us : List Ty) (u : Value), Stays C w0 w → TS w C' us u →
    Calls Tryd.prog 41 #[.agg #[.int .i64 q, v], .agg #[.int .i64 q2, u]] w (BoolRet (fun b => b = true ↔ (q = q2 ∧ ts = us)) w)) ?_ h
  intro ts p c hl H w q q2 us u hst hu
  obtain ⟨p2, c2, rfl⟩ := hu.form
  have hl2 := hu.len
  have HH := Lib.hid H
  have HST := Lib.hid hst
  have HU := Lib.hid hu
  clear H hst hu
  have hb0 := ((Below.refl w.heap.size w).alloc (Nat.le_refl _) (Obj.cells #[.int .i64 q, .slice p ts.length c] 26)).alloc (by simp) (Obj.cells #[.int .i64 q2, .slice p2 us.length c2] 26)
  obtain ⟨wl, hwl⟩ : ∃ wl, (w.alloc (.cells #[.int .i64 q, .slice p ts.length c] 26)).alloc (.cells #[.int .i64 q2, .slice p2 us.length c2] 26) = wl := ⟨_, rfl⟩
  have k0 : wl.heap[w.heap.size]? = some (.cells #[.int .i64 q, .slice p ts.length c] 26 (0, 0)) := by
    rw [← hwl, Below.heap_alloc _ _ _ (by simp)]; exact blk_new _ _
  have k1 : wl.heap[w.heap.size + 1]? = some (.cells #[.int .i64 q2, .slice p2 us.length c2] 26 (0, 0)) := by
    rw [← hwl]
    have := blk_new (w.alloc (.cells #[.int .i64 q, .slice p ts.length c] 26)) (.cells #[.int .i64 q2, .slice p2 us.length c2] 26)
    rwa [World.size_alloc] at this
  have hwsz : wl.heap.size = w.heap.size + 2 := by rw [← hwl]; simp
  rw [hwl] at hb0
  have HB0 := Lib.hid hb0
  have HK0 := Lib.hid k0
  have HK1 := Lib.hid k1
  have HWL := Lib.hid hwl
  clear hb0 k0 k1 hwl
  go_enter Tryd.func41, Tryd.ntmps41
  by_cases hq : q = q2
  · subst hq
    by_cases hlen : ts.length = us.length
    · have HL := Lib.hid hlen
      rw [hlen] at hl ⊢
      clear hlen hl2
      go_wp2_with fail
      go_loopw [5] (fun i wr => ∃ (k : Nat), k ≤ us.length ∧ i = .int .i64 k ∧ ts.take k = us.take k ∧ Below wl.heap.size wl wr) (fun i _ => us.length - (intOf i).toNat)
      case atStart =>
        have e := HWL.out
        rw [HL.out] at e
        exact ⟨0, Nat.zero_le _, rfl, by simp, by rw [e]; exact Below.refl _ _⟩
      case round =>
        obtain ⟨k, hk, rfl, htk, hbr⟩ := hrel
        have HTK := Lib.hid htk
        have HBW := Lib.hid hbr
        have hbr' : Below w.heap.size w wr := HB0.out.trans (hbr.mono HB0.out.size)
        have d0 := cell_of_blk ((hbr.block _ (by omega)).trans HK0.out) 1
        have d1 := cell_of_blk ((hbr.block _ (by omega)).trans HK1.out) 1
        simp only [List.getElem?_toArray, List.getElem?_cons_zero, List.getElem?_cons_succ] at d0 d1
        rw [HL.out] at d0
        have HB := Lib.hid hbr'
        clear htk hbr
        by_cases hlk2 : k < us.length
        · have hlk : k < ts.length := by rw [HL.out]; exact hlk2
          obtain ⟨b, o, p', c', rfl, hcs, hT, hI⟩ := HH.out k _ (List.getElem?_eq_getElem hlk)
          obtain ⟨b2, o2, p2', c2', rfl, hcs2, hT2⟩ := HU.out.at k _ (List.getElem?_eq_getElem hlk2)
          obtain ⟨c1, c2x⟩ := hcs wr (HST.out.trans (Stays.of_below hbr'))
          obtain ⟨c3, c4⟩ := hcs2 wr (Stays.of_below hbr')
          have HC := Lib.hid (fun (W : World) (hW : Below w.heap.size w W) => hI W ts[k].kind us[k].kind _ _ (HST.out.trans (Stays.of_below hW)) (hT2.keep hW))
          have i0 : (0 : Int) ≤ (k : Int) := Int.natCast_nonneg _
          have i1 : (k : Int) < (us.length : Int) := by omega
          clear hcs hcs2 hT hT2 hI
          go_wp2_with fail
          go_region_held3 (fun w' => w'.cell? ⟨w.heap.size, 1, none⟩ = some (.slice (some ⟨b, o, none⟩) us.length c) ∧ w'.cell? ⟨w.heap.size + 1, 1, none⟩ = some (.slice (some ⟨b2, o2, none⟩) us.length c2) ∧ w'.cell? ⟨b, o + k * 2, none⟩ = some (.int .i64 ts[k].kind) ∧ w'.cell? ⟨b, o + k * 2 + 1, none⟩ = some (.slice p' ts[k].args.length c') ∧ w'.cell? ⟨b2, o2 + k * 2, none⟩ = some (.int .i64 us[k].kind) ∧ w'.cell? ⟨b2, o2 + k * 2 + 1, none⟩ = some (.slice p2' us[k].args.length c2') ∧ Below w.heap.size w w')
            (first
              | (go_keep; done)
              | exact ⟨by simp [*], by simp [*], by simp [*], by simp [*], by simp [*], by simp [*], hbr'.drew⟩
              | exact keep6 hb1 (by assumption))
            (first | (go_at_call 41; refine (HC.out _ hbr'.drew).mono ?_; rintro e w1 ⟨r, hr, rfl, hb1⟩))
          rename_i hH
          have HB1 := Lib.hid (HBW.out.trans ((Below.refl wr.heap.size wr).drew.trans hb1 |>.mono HBW.out.size))
          have HR := Lib.hid hr
          clear hH hb1 c1 c2x c3 c4 hr d0 d1
          cases r with
          | true =>
            go_wp2_with fail
            go_roundw
            case rel => exact ⟨k + 1, by omega, by go_num, take_eq_next HTK.out hlk hlk2 (HR.out.1 rfl), HB1.out⟩
            case measure => simp [intOf]; omega
          | false =>
            go_wp2_with fail
            go_ret
            exact ⟨false, by simpa using ne_of_at hlk hlk2 (fun e => by simpa using HR.out.2 e), rfl, HB0.out.trans (HB1.out.mono HB0.out.size)⟩
        · obtain rfl : k = us.length := by omega
          have htk : ts = us := by
            have := HTK.out
            rw [← HL.out, List.take_length, HL.out, List.take_length] at this
            exact this
          have HE := Lib.hid htk
          clear htk
          go_wp2_with fail
          go_ret
          exact ⟨true, by simpa using HE.out, rfl, HB.out⟩
    · have HN := Lib.hid (fun e => hlen (by rw [e]) : ¬ ts = us)
      have HBx := HB0
      rw [← HWL.out] at HBx
      go_wp2_with fail
      go_ret
      exact ⟨false, by simpa using HN.out, rfl, HBx.out⟩
  · have HN := Lib.hid hq
    have HBx := HB0
    rw [← HWL.out] at HBx
    go_wp2_with fail
    go_ret
    exact ⟨false, by simpa using fun e => absurd e HN.out, rfl, HBx.out⟩
/-- THE MODEL's EqualType, AT ANY TWO TYPES. -/
theorem eqSpT_any {C C' : Nat → Prop} {t u : Ty} {v x : Value} {w : World} (h : TT w C t v) (h2 : TT w C' u x) :
    Calls Tryd.prog 41 #[v, x] w (BoolRet (fun b => b = true ↔ t = u) w) := by
  obtain ⟨s, rfl, h⟩ := h
  obtain ⟨s2, rfl, h2⟩ := h2
  refine (eqSp_any h w t.kind u.kind u.args s2 (Stays.refl _ _) h2).mono ?_
  rintro e w' ⟨b, hb, he, hw⟩
  exact ⟨b, hb.trans ⟨fun h => Ty.ext h.1 h.2, fun h => by rw [h]; exact ⟨rfl, rfl⟩⟩, he, hw⟩
#print axioms eqSpT_any
end Go.Proofs.YtnciibngcaajgaaDoor
/- Kind: The contracts of the program's kinds of types: arity, kindOf, IsBase, isCode. -/
namespace Go.Proofs.YtnciibngcaajgaaDoor
open Go Go.RowKit

theorem ar_int (w : World) : Calls Tryd.prog 106 #[.agg #[]] w fun e w' => e = .returned (.int .i64 0) ∧ Below w.heap.size w w' := by
  go_enter Tryd.func106, Tryd.ntmps106
  go_wp2
  go_ret
  exact ⟨rfl, (Below.refl _ _).alloc (Nat.le_refl _) _⟩
theorem ar_bool (w : World) : Calls Tryd.prog 107 #[.agg #[]] w fun e w' => e = .returned (.int .i64 0) ∧ Below w.heap.size w w' := by
  go_enter Tryd.func107, Tryd.ntmps107
  go_wp2
  go_ret
  exact ⟨rfl, (Below.refl _ _).alloc (Nat.le_refl _) _⟩
theorem ar_fun (w : World) : Calls Tryd.prog 108 #[.agg #[]] w fun e w' => e = .returned (.int .i64 2) ∧ Below w.heap.size w w' := by
  go_enter Tryd.func108, Tryd.ntmps108
  go_wp2
  go_ret
  exact ⟨rfl, (Below.refl _ _).alloc (Nat.le_refl _) _⟩
theorem ar_code (w : World) : Calls Tryd.prog 109 #[.agg #[]] w fun e w' => e = .returned (.int .i64 1) ∧ Below w.heap.size w w' := by
  go_enter Tryd.func109, Tryd.ntmps109
  go_wp2
  go_ret
  exact ⟨rfl, (Below.refl _ _).alloc (Nat.le_refl _) _⟩

theorem meth_int (w : World) : (method 235 109 (.agg #[]) "loop.example/g00589/impl.arity").run Tryd.prog w = .ok (106, .agg #[]) w := by kernel_rfl
theorem meth_bool (w : World) : (method 235 110 (.agg #[]) "loop.example/g00589/impl.arity").run Tryd.prog w = .ok (107, .agg #[]) w := by kernel_rfl
theorem meth_fun (w : World) : (method 235 111 (.agg #[]) "loop.example/g00589/impl.arity").run Tryd.prog w = .ok (108, .agg #[]) w := by kernel_rfl
theorem meth_code (w : World) : (method 235 112 (.agg #[]) "loop.example/g00589/impl.arity").run Tryd.prog w = .ok (109, .agg #[]) w := by kernel_rfl

/-- The kind's value, by the kind's number and the number of parts. -/
def kindV (k : Int) (n : Nat) : Value :=
  if k = 1 ∧ n = 0 then .iface 109 (.agg #[])
  else if k = 2 ∧ n = 0 then .iface 110 (.agg #[])
  else if k = 3 ∧ n = 2 then .iface 111 (.agg #[])
  else if k = 4 ∧ n = 1 then .iface 112 (.agg #[])
  else .nilIface

theorem keep1 {w W w1 : World} {p1 : Addr} {v1 : Value} (hb1 : Below W.heap.size W w1) (h : W.cell? p1 = some v1 ∧ Below w.heap.size w W) : w1.cell? p1 = some v1 ∧ Below w.heap.size w w1 :=
  ⟨(hb1.cell (World.block_lt_of_cell? W _ h.1)).trans h.1, h.2.trans (hb1.mono h.2.size)⟩

set_option maxRecDepth 100000 in
set_option maxHeartbeats 1000000 in
theorem kindOf_any (k : Int) (p : Option Addr) (n c : Nat) (w : World) (hn : n ≤ 9223372036854775807) :
    Calls Tryd.prog 77 #[.agg #[.int .i64 k, .slice p n c]] w fun e w' => e = .returned (kindV k n) ∧ Below w.heap.size w w' := by
  have HV := Lib.hid (fun v (h : kindV k n = v) (w' : World) (hb : Below w.heap.size w w') => (⟨by rw [h], hb⟩ : Ending.returned v = .returned (kindV k n) ∧ Below w.heap.size w w'))
  go_enter Tryd.func77, Tryd.ntmps77
  by_cases q1 : k = 1
  · subst q1
    have hm := meth_int
    have hB : Below w.heap.size w (w.alloc (Obj.cells #[.int .i64 1, .slice p n c] 26)) := (Below.refl w.heap.size w).alloc (Nat.le_refl _) _
    go_wp2_with fail
    go_region_held3 (fun w' => w'.cell? ⟨w.heap.size, 1, none⟩ = some (.slice p n c) ∧ Below w.heap.size w w')
      (first
        | (go_keep; done)
        | exact ⟨by simp [*], hB.drew⟩
        | exact keep1 hb1 (by assumption))
      (first | (go_at_call 106; refine (ar_int _).mono ?_; rintro e w1 ⟨rfl, hb1⟩))
    all_goals
      rename_i hH
      have HB := Lib.hid hH.2
      clear hH hb1 hB hm
      by_cases hz : n = 0
      · subst hz
        go_wp2_with fail
        go_ret
        exact HV.out _ (by simp [kindV]) _ HB.out
      · go_wp2_with fail
        go_ret
        exact HV.out _ (by simp [kindV, hz]) _ HB.out
  by_cases q2 : k = 2
  · subst q2
    have hm := meth_bool
    have hB : Below w.heap.size w (w.alloc (Obj.cells #[.int .i64 2, .slice p n c] 26)) := (Below.refl w.heap.size w).alloc (Nat.le_refl _) _
    go_wp2_with fail
    go_region_held3 (fun w' => w'.cell? ⟨w.heap.size, 1, none⟩ = some (.slice p n c) ∧ Below w.heap.size w w')
      (first
        | (go_keep; done)
        | exact ⟨by simp [*], hB.drew⟩
        | exact keep1 hb1 (by assumption))
      (first | (go_at_call 107; refine (ar_bool _).mono ?_; rintro e w1 ⟨rfl, hb1⟩))
    all_goals
      rename_i hH
      have HB := Lib.hid hH.2
      clear hH hb1 hB hm
      by_cases hz : n = 0
      · subst hz
        go_wp2_with fail
        go_ret
        exact HV.out _ (by simp [kindV]) _ HB.out
      · go_wp2_with fail
        go_ret
        exact HV.out _ (by simp [kindV, hz]) _ HB.out
  by_cases q3 : k = 3
  · subst q3
    have hm := meth_fun
    have hB : Below w.heap.size w (w.alloc (Obj.cells #[.int .i64 3, .slice p n c] 26)) := (Below.refl w.heap.size w).alloc (Nat.le_refl _) _
    go_wp2_with fail
    go_region_held3 (fun w' => w'.cell? ⟨w.heap.size, 1, none⟩ = some (.slice p n c) ∧ Below w.heap.size w w')
      (first
        | (go_keep; done)
        | exact ⟨by simp [*], hB.drew⟩
        | exact keep1 hb1 (by assumption))
      (first | (go_at_call 108; refine (ar_fun _).mono ?_; rintro e w1 ⟨rfl, hb1⟩))
    all_goals
      rename_i hH
      have HB := Lib.hid hH.2
      clear hH hb1 hB hm
      by_cases hz : n = 2
      · subst hz
        go_wp2_with fail
        go_ret
        exact HV.out _ (by simp [kindV]) _ HB.out
      · go_wp2_with fail
        go_ret
        exact HV.out _ (by simp [kindV, hz]) _ HB.out
  by_cases q4 : k = 4
  · subst q4
    have hm := meth_code
    have hB : Below w.heap.size w (w.alloc (Obj.cells #[.int .i64 4, .slice p n c] 26)) := (Below.refl w.heap.size w).alloc (Nat.le_refl _) _
    go_wp2_with fail
    go_region_held3 (fun w' => w'.cell? ⟨w.heap.size, 1, none⟩ = some (.slice p n c) ∧ Below w.heap.size w w')
      (first
        | (go_keep; done)
        | exact ⟨by simp [*], hB.drew⟩
        | exact keep1 hb1 (by assumption))
      (first | (go_at_call 109; refine (ar_code _).mono ?_; rintro e w1 ⟨rfl, hb1⟩))
    all_goals
      rename_i hH
      have HB := Lib.hid hH.2
      clear hH hb1 hB hm
      by_cases hz : n = 1
      · subst hz
        go_wp2_with fail
        go_ret
        exact HV.out _ (by simp [kindV]) _ HB.out
      · go_wp2_with fail
        go_ret
        exact HV.out _ (by simp [kindV, hz]) _ HB.out
  have hB := Lib.hid ((Below.refl w.heap.size w).alloc (Nat.le_refl _) (Obj.cells #[.int .i64 k, .slice p n c] 26))
  have t1 : (k == 1) = false := by simp [q1]
  have t2 : (k == 2) = false := by simp [q2]
  have t3 : (k == 3) = false := by simp [q3]
  have t4 : (k == 4) = false := by simp [q4]
  have hv := Lib.hid (show kindV k n = .nilIface by simp [kindV, q1, q2, q3, q4])
  clear q1 q2 q3 q4
  go_wp2_with fail
  go_region
  all_goals
    go_wp2_with fail
    go_ret
    exact HV.out _ hv.out _ hB.out.drew
end Go.Proofs.YtnciibngcaajgaaDoor
/- Kind2: The contracts of the program's IsBase and isCode. -/
namespace Go.Proofs.YtnciibngcaajgaaDoor
open Go Go.RowKit

theorem kindV_cases (k : Int) (n : Nat) : ((k = 1 ∧ n = 0) ∧ kindV k n = .iface 109 (.agg #[])) ∨ ((k = 2 ∧ n = 0) ∧ kindV k n = .iface 110 (.agg #[])) ∨
    ((k = 3 ∧ n = 2) ∧ kindV k n = .iface 111 (.agg #[])) ∨ ((k = 4 ∧ n = 1) ∧ kindV k n = .iface 112 (.agg #[])) ∨
    ((¬ (k = 1 ∧ n = 0) ∧ ¬ (k = 2 ∧ n = 0) ∧ ¬ (k = 3 ∧ n = 2) ∧ ¬ (k = 4 ∧ n = 1)) ∧ kindV k n = .nilIface) := by
  unfold kindV
  by_cases h1 : k = 1 ∧ n = 0
  · simp [h1]
  by_cases h2 : k = 2 ∧ n = 0
  · simp [h2]
  by_cases h3 : k = 3 ∧ n = 2
  · simp [h3]
  by_cases h4 : k = 4 ∧ n = 1
  · simp [h4]
  simp [h1, h2, h3, h4]

theorem as_int_int (w : World) : (Instr.typeAssert (.iface 109 (.agg #[])) 97 109 true).run Tryd.prog w = .ok (.tuple #[.agg #[], .bool true]) w := by kernel_rfl
theorem as_bool_int (w : World) : (Instr.typeAssert (.iface 110 (.agg #[])) 97 109 true).run Tryd.prog w = .ok (.tuple #[.agg #[], .bool false]) w := by kernel_rfl
theorem as_fun_int (w : World) : (Instr.typeAssert (.iface 111 (.agg #[])) 97 109 true).run Tryd.prog w = .ok (.tuple #[.agg #[], .bool false]) w := by kernel_rfl
theorem as_code_int (w : World) : (Instr.typeAssert (.iface 112 (.agg #[])) 97 109 true).run Tryd.prog w = .ok (.tuple #[.agg #[], .bool false]) w := by kernel_rfl
theorem as_nil_int (w : World) : (Instr.typeAssert .nilIface 97 109 true).run Tryd.prog w = .ok (.tuple #[.agg #[], .bool false]) w := by kernel_rfl
theorem as_int_bool (w : World) : (Instr.typeAssert (.iface 109 (.agg #[])) 97 110 true).run Tryd.prog w = .ok (.tuple #[.agg #[], .bool false]) w := by kernel_rfl
theorem as_bool_bool (w : World) : (Instr.typeAssert (.iface 110 (.agg #[])) 97 110 true).run Tryd.prog w = .ok (.tuple #[.agg #[], .bool true]) w := by kernel_rfl
theorem as_fun_bool (w : World) : (Instr.typeAssert (.iface 111 (.agg #[])) 97 110 true).run Tryd.prog w = .ok (.tuple #[.agg #[], .bool false]) w := by kernel_rfl
theorem as_code_bool (w : World) : (Instr.typeAssert (.iface 112 (.agg #[])) 97 110 true).run Tryd.prog w = .ok (.tuple #[.agg #[], .bool false]) w := by kernel_rfl
theorem as_nil_bool (w : World) : (Instr.typeAssert .nilIface 97 110 true).run Tryd.prog w = .ok (.tuple #[.agg #[], .bool false]) w := by kernel_rfl
theorem as_int_code (w : World) : (Instr.typeAssert (.iface 109 (.agg #[])) 97 112 true).run Tryd.prog w = .ok (.tuple #[.agg #[], .bool false]) w := by kernel_rfl
theorem as_bool_code (w : World) : (Instr.typeAssert (.iface 110 (.agg #[])) 97 112 true).run Tryd.prog w = .ok (.tuple #[.agg #[], .bool false]) w := by kernel_rfl
theorem as_fun_code (w : World) : (Instr.typeAssert (.iface 111 (.agg #[])) 97 112 true).run Tryd.prog w = .ok (.tuple #[.agg #[], .bool false]) w := by kernel_rfl
theorem as_code_code (w : World) : (Instr.typeAssert (.iface 112 (.agg #[])) 97 112 true).run Tryd.prog w = .ok (.tuple #[.agg #[], .bool true]) w := by kernel_rfl
theorem as_nil_code (w : World) : (Instr.typeAssert .nilIface 97 112 true).run Tryd.prog w = .ok (.tuple #[.agg #[], .bool false]) w := by kernel_rfl

theorem dec_t {P : Prop} [Decidable P] (h : P) : true = decide P := (decide_eq_true h).symm
theorem dec_f {P : Prop} [Decidable P] (h : ¬ P) : false = decide P := (decide_eq_false h).symm

def Ty.code (t : Ty) : Bool := decide (t.kind = 4 ∧ t.args.length = 1)

end Go.Proofs.YtnciibngcaajgaaDoor
/- Aid: Small facts that many texts use: lists, numbers that stay in their range, cells that an append keeps. Of no program. -/
namespace Go.Proofs.YtnciibngcaajgaaDoor
open Go Go.RowKit

theorem snoc_cases {α : Type} (l : List α) : l = [] ∨ ∃ l0 e, l = l0 ++ [e] := by
  rcases List.eq_nil_or_concat l with h | ⟨l0, e, h⟩
  · exact Or.inl h
  · exact Or.inr ⟨l0, e, by rw [h, List.concat_eq_append]⟩
theorem wrap_in (n : Nat) (h : n ≤ 9223372036854775807) : IntKind.i64.wrap (n : Int) = n := IntWalk.i64_in _ (by omega)
theorem wrap64_nat (n : Nat) (h : n ≤ 9223372036854775807) : wrap64 (n : Int) = n := by
  unfold wrap64
  omega

theorem keepApp {w0 w' : World} {base : Nat} {e : TypeId} {size n : Nat} {v : Value} {xs cs : List Value} {g cap : Nat} (hA : Appd w0 w' base e size v n xs cs g cap) {p : Addr} {u : Value} (h : w0.cell? p = some u) (hne : v.ownBlock ≠ some p.block) : w'.cell? p = some u :=
  (World.cell?_of_block (hA.kept p.block (World.block_lt_of_cell? w0 _ h) hne).1).trans h

theorem two_blk0 (w : World) (A B : Array Value) (tA tB : TypeId) : ((w.alloc (.cells A tA)).alloc (.cells B tB)).drew.heap[w.heap.size]? = some (.cells A tA (0, 0)) := by
  show ((w.alloc (.cells A tA)).alloc (.cells B tB)).heap[w.heap.size]? = _
  rw [Below.heap_alloc _ _ _ (by simp)]
  exact blk_new _ _
theorem two_blk1 (w : World) (A B : Array Value) (tA tB : TypeId) : ((w.alloc (.cells A tA)).alloc (.cells B tB)).drew.heap[w.heap.size + 1]? = some (.cells B tB (0, 0)) := by
  show ((w.alloc (.cells A tA)).alloc (.cells B tB)).heap[w.heap.size + 1]? = _
  have := blk_new (w.alloc (.cells A tA)) (.cells B tB)
  rwa [World.size_alloc] at this

end Go.Proofs.YtnciibngcaajgaaDoor
/- NodesM: The program's iterator over the nodes of a term: each node with its depth, a node before its parts, these in order (gennodes.py writes this text). -/
namespace Go.Proofs.YtnciibngcaajgaaDoor
open Go Go.RowKit Go.Shelf
attribute [local go_sem] Oper.semAt_some

abbrev LM (w : World) (C : Nat → Prop) (l : List Tm) (v : Value) : Prop := DM w C (tmD l) v
abbrev NM (w : World) (C : Nat → Prop) (t : Tm) (v : Value) : Prop := TM w C t v
theorem ntM_mk {w : World} {C : Nat → Prop} {t : Tm} {tp : Option Addr} {tc : Nat} {rp : Option Addr} {rc : Nat} {p : Option Addr} {c : Nat} (h : TM' w C t tp tc rp rc p c) : NM w C t (tmV t tp tc rp rc p c) := ⟨_, _, _, _, _, _, rfl, h⟩

mutual
/-- The nodes in the order of the visit. -/
def walkM : Tm → Nat → List (Tm × Nat)
  | .mk k a b n t r ts, d => (.mk k a b n t r ts, d) :: walkSM ts (d + 1)
def walkSM : List Tm → Nat → List (Tm × Nat)
  | [], _ => []
  | t :: ts, d => walkM t d ++ walkSM ts d
end
theorem walkM_eq (t : Tm) (d : Nat) : walkM t d = (t, d) :: walkSM t.args (d + 1) := by cases t; rfl
theorem walkSM_one (t : Tm) (d : Nat) : walkSM [t] d = walkM t d := by simp [walkSM]
mutual
theorem walkM_length : ∀ (t : Tm) (d : Nat), (walkM t d).length = t.nodes
  | .mk k a b n t r ts, d => by simp only [walkM, List.length_cons, walkSM_length ts, Tm.nodes]; omega
theorem walkSM_length : ∀ (ts : List Tm) (d : Nat), (walkSM ts d).length = nodesM ts
  | [], d => by simp [walkSM, nodesM]
  | t :: ts, d => by simp only [walkSM, List.length_append, walkSM_length ts, walkM_length t, nodesM]
end
/-- What waits, the next list last: a list, its slice's value. -/
abbrev WaitM := List (List Tm × Value)
def rWM : WaitM → List (Tm × Nat)
  | [] => []
  | e :: r => walkSM e.1 (r.length + 1) ++ rWM r
def stWalkM (st : WaitM) : List (Tm × Nat) := rWM st.reverse
theorem stWalkM_snoc (st : WaitM) (e : List Tm × Value) : stWalkM (st ++ [e]) = walkSM e.1 (st.length + 1) ++ stWalkM st := by simp [stWalkM, rWM]
theorem stWalkM_nil : stWalkM [] = [] := rfl

theorem wsndM_last (st : WaitM) (e : List Tm × Value) : ((st ++ [e]).map (·.2))[st.length]? = some e.2 := by simp
theorem wsndM_take (st : WaitM) (e : List Tm × Value) : ((st ++ [e]).map (·.2)).take (st.length * 1) = st.map (·.2) := by simp
theorem wsndM_set (st : WaitM) (e : List Tm × Value) (l : List Tm) (u : Value) : ((st ++ [e]).map (·.2)).set st.length u = (st ++ [(l, u)]).map (·.2) := by
  simp

theorem infoLM : (Tryd.prog.info? 27).map (fun i => (i.zero, i.size, i.bytes)) = some (some (.slice none 0 0), 1, 24) := by kernel_rfl

/-- What the iterator knows between two rounds. -/
structure MidM (W wr : World) (C : Nat → Prop) (t : Tm) (tp : Option Addr) (tc : Nat) (rp : Option Addr) (rc : Nat) (p : Option Addr) (c : Nat) (J : List (Tm × Nat) → World → Prop) (pre : List (Tm × Nat)) (st : WaitM) (g cap : Nat) : Prop where
  own : wr.ownsRow (W.heap.size + 1) 27 1 (.slice (some ⟨g, 0, none⟩) st.length cap) st.length (st.map (·.2))
  j : J pre wr
  ts : ∀ e ∈ st, LM W C e.1 e.2 ∨ e = ([t], .slice (some ⟨W.heap.size, 0, none⟩) 1 1)
  stays : Stays C W wr
  size : W.heap.size ≤ wr.heap.size
  root : wr.heap[W.heap.size]? = some (.cells (tmC t tp tc rp rc p c) 29 (0, 0))
  node : TM' W C t tp tc rp rc p c
  cnt : st.length ≤ pre.length + 1

theorem MidM.lt {W wr : World} {C : Nat → Prop} {t : Tm} {tp : Option Addr} {tc : Nat} {rp : Option Addr} {rc : Nat} {p : Option Addr} {c : Nat} {J : List (Tm × Nat) → World → Prop} {pre : List (Tm × Nat)} {st : WaitM} {g cap : Nat} (h : MidM W wr C t tp tc rp rc p c J pre st g cap) : W.heap.size < wr.heap.size := (Array.getElem?_eq_some_iff.1 h.root).1

/-- The next list's first node: where it lies; the list without it. -/
theorem MidM.open {W wr : World} {C : Nat → Prop} {t : Tm} {tp : Option Addr} {tc : Nat} {rp : Option Addr} {rc : Nat} {p : Option Addr} {c : Nat} {J : List (Tm × Nat) → World → Prop} {pre : List (Tm × Nat)} {st : WaitM} {g cap : Nat} {x : Tm} {l : List Tm} {v : Value} (h : MidM W wr C t tp tc rp rc p c J pre (st ++ [(x :: l, v)]) g cap) :
    ∃ (b o c : Nat) (tp' : Option Addr) (tc' : Nat) (rp' : Option Addr) (rc' : Nat) (p' : Option Addr) (c' : Nat), v = .slice (some ⟨b, o, none⟩) (l.length + 1) c ∧ l.length + 1 ≤ c ∧ c ≤ 9223372036854775807 ∧ (C b ∨ b = W.heap.size) ∧ b < wr.heap.size ∧
      At9 wr b o x tp' tc' rp' rc' p' c' ∧ TM' W C x tp' tc' rp' rc' p' c' ∧ ∀ q, (l ≠ [] → q = some ⟨b, o + 9, none⟩) → LM W C l (.slice q l.length (c - 1)) := by
  rcases h.ts (x :: l, v) (by simp) with hT | he
  · simp only at hT
    obtain ⟨q0, d0, hv0⟩ := hT.form
    have hT0 := hT
    rw [hv0] at hT0
    obtain ⟨b', o', tp', tc', rp', rc', p', c', hq, hC', hb', h9, hx⟩ := tm_part hT0 0 (by simp)
    cases hT with
    | @rows _ _ _ b o c _ V h1 hc hm hl hC hb hv hr =>
      simp only [Value.slice.injEq] at hv0
      obtain ⟨e1, _, _⟩ := hv0
      have e2 := e1.trans hq
      simp only [Option.some.injEq, Addr.mk.injEq] at e2
      obtain ⟨rfl, rfl, _⟩ := e2
      have h9' := h9 wr h.stays
      rw [Nat.zero_mul, Nat.add_zero] at h9'
      refine ⟨b, o, c, tp', tc', rp', rc', p', c', rfl, hc, hm, Or.inl hC, Nat.lt_of_lt_of_le hb h.size, h9', hx, fun q hq => ?_⟩
      have hf : flatTm (x :: l) = x.ds ++ flatTm l := rfl
      have hsh : ∀ i, (flatTm (x :: l))[i + 9]? = (flatTm l)[i]? := fun i => by
        rw [hf, List.getElem?_append_right (by rw [x.ds_len]; omega), x.ds_len, Nat.add_sub_cancel]
      by_cases hl' : l = []
      · subst hl'; exact .nil _ _ _ _
      · rw [hq hl']
        have hl1 : 1 ≤ l.length := by cases l with | nil => exact absurd rfl hl' | cons => simp
        simp only [List.length_cons] at hc
        refine .rows (fun i => V (i + 9)) hl1 (by omega) (by omega) (flatTm_len l) hC hb (fun i d hi => ?_) (fun i d hi => hr (i + 9) d (by rw [hsh]; exact hi))
        have := hv (i + 9) d (by rw [hsh]; exact hi)
        rw [show o + (i + 9) = o + 9 + i by omega] at this; exact this
  · simp only [Prod.mk.injEq, List.cons.injEq] at he
    obtain ⟨⟨rfl, rfl⟩, rfl⟩ := he
    refine ⟨W.heap.size, 0, 1, tp, tc, rp, rc, p, c, rfl, by simp, by omega, Or.inr rfl, h.lt, ?_, h.node, fun q hq => ?_⟩
    · have hr := h.root
      exact ⟨cell_of_blk hr 0, cell_of_blk hr 1, cell_of_blk hr 2, cell_of_blk hr 3, cell_of_blk hr 4, cell_of_blk hr 5, cell_of_blk hr 6, cell_of_blk hr 7, cell_of_blk hr 8⟩
    · exact .nil _ _ _ _

theorem argsM_any (t : Tm) (tp : Option Addr) (tc : Nat) (rp : Option Addr) (rc : Nat) (p : Option Addr) (c : Nat) (w : World) : Calls Tryd.prog 39 #[tmV t tp tc rp rc p c] w fun e w' => e = .returned (.slice p t.args.length c) ∧ Below w.heap.size w w' := by
  go_enter Tryd.func39, Tryd.ntmps39
  go_wp2
  go_ret
  exact ⟨rfl, (Below.refl _ _).alloc (Nat.le_refl _) _⟩

set_option maxRecDepth 100000 in
set_option maxHeartbeats 4000000 in
theorem nodesM_it (l Bt Bp : Nat) (t : Tm) (tp : Option Addr) (tc : Nat) (rp : Option Addr) (rc : Nat) (p : Option Addr) (c : Nat) (Cb C : Nat → Prop) (W : World) (J Jx : List (Tm × Nat) → World → Prop)
    (hBt : W.heap[Bt]? = some (.cells (tmC t tp tc rp rc p c) 29 (0, 0))) (hBp : W.heap[Bp]? = some (.cells #[.func (.func 39) #[] #[]] 62 (0, 0))) (hT : TM' W C t tp tc rp rc p c) (hn : t.nodes ≤ 1048577)
    (hCb : ∀ b, Cb b → b < W.heap.size) (hC : ∀ b, C b → ¬ Cb b ∧ b < W.heap.size) (hCp : C Bp)
    (hJ : ∀ pre A B, J pre A → Below W.heap.size A B → J pre B)
    (hY : ∀ pre x v d W1, J pre W1 → pre ++ [(x, d)] <+: walkM t 1 → NM W1 C x v → YieldAt Fence.wide 0 Tryd.prog l #[v, .int .i64 (d : Nat)] W1 fun e W' =>
      (e = .returned (.bool true) ∧ J (pre ++ [(x, d)]) W' ∧ Holds Cb W1 W') ∨ (e = .returned (.bool false) ∧ Jx (pre ++ [(x, d)]) W'))
    (h0 : J [] W) :
    CallsIn Fence.wide 1 Tryd.prog 74 #[.func (.yield l) #[] #[], .pointer (some ⟨Bt, 0, none⟩), .pointer (some ⟨Bp, 0, none⟩)] W fun e W' =>
      (∃ v, e = .returned v) ∧ (J (walkM t 1) W' ∨ ∃ pre, pre <+: walkM t 1 ∧ Jx pre W') := by
  obtain ⟨i0, hi, hz0, hz1, hz2⟩ := info_parts infoLM
  have HT := Lib.hid hT
  have HY := Lib.hid hY
  have HJ := Lib.hid hJ
  have HJ0 := Lib.hid h0
  have HCb := Lib.hid hCb
  have HC := Lib.hid hC
  have HCP := Lib.hid hCp
  have HBP := Lib.hid hBp
  have HN := Lib.hid hn
  obtain ⟨k0, k1, k2, k3, k4, k5, k6, k7, k8⟩ := Bx9.of hBt
  have kp := cell_of_blk hBp 0
  simp only [List.getElem?_toArray, List.getElem?_cons_zero] at kp
  clear hT hY hJ h0 hCb hC hBt hBp hn
  refine callsIn_of_wp Tryd.func74 rfl trivial ?_ rfl
  simp only [Tryd.ntmps74, List.size_toArray, List.length_cons, List.length_nil, Nat.reduceAdd, Nat.reduceSub, Array.replicate_succ, Array.replicate_zero, List.push_toArray, List.append_toArray, List.nil_append, List.cons_append]
  gi_wp2_with fail
  gi_loopg [4] (2 * (walkM t 1).length + 1) (fun k v wr => ∃ (pre : List (Tm × Nat)) (st : WaitM) (g cap : Nat), v = .slice (some ⟨g, 0, none⟩) st.length cap ∧ k = 2 * (stWalkM st).length + st.length ∧ pre ++ stWalkM st = walkM t 1 ∧ MidM W wr C t tp tc rp rc p c J pre st g cap)
  case atStart =>
    refine ⟨[], [([t], .slice (some ⟨W.heap.size, 0, none⟩) 1 1)], W.heap.size + 1, 1, rfl, by simp [stWalkM, rWM, walkSM_one], by simp [stWalkM, rWM, walkSM_one], ?_⟩
    have hb : Below W.heap.size W ((W.alloc (.cells (tmC t tp tc rp rc p c) 29)).alloc (.cells #[.slice (some ⟨W.heap.size, 0, none⟩) 1 1] 27)) := ((Below.refl _ W).alloc (Nat.le_refl _) _).alloc (by simp) _
    refine ⟨?_, HJ.out _ _ _ HJ0.out hb, ?_, .of_below hb, hb.size, ?_, HT.out, by simp⟩
    · have h1 := World.ownsRow_lit (base := W.heap.size + 1) (e := 27) (size := 1) (W.alloc (.cells (tmC t tp tc rp rc p c) 29)) #[.slice (some ⟨W.heap.size, 0, none⟩) 1 1] 1 (by simp) (by unfold maxLen; omega) rfl
      rw [show (W.alloc (.cells (tmC t tp tc rp rc p c) 29)).heap.size = W.heap.size + 1 by simp] at h1
      exact h1
    · intro e he
      simp only [List.mem_singleton] at he
      exact Or.inr he
    · rw [Below.heap_alloc _ _ _ (by simp)]
      exact blk_new _ _
  case round =>
    rename World => wo
    obtain ⟨pre, st, g, cap, rfl, rfl, hord, hM⟩ := hrel
    rcases snoc_cases st with rfl | ⟨st0, ⟨ls, sl⟩, rfl⟩
    · have HM := Lib.hid hM
      have HO := Lib.hid hord
      clear hM hord
      gi_wp2
      go_end0
      have hp : pre = walkM t 1 := by have := HO.out; simpa [stWalkM, rWM] using this
      exact ⟨⟨_, rfl⟩, .inl (hp ▸ HM.out.j)⟩
    · have hlen : (st0 ++ [((ls, sl) : List Tm × Value)]).length = st0.length + 1 := by simp
      have hown := hM.own
      rw [hlen] at hown
      rw [hlen]
      obtain ⟨hcap1, hcap2, hg1, hg2⟩ := row_cap hown
      have k0 := (hown.cellAt st0.length (by omega)).trans (wsndM_last st0 _)
      have kz := hown.frozenAt st0.length
      simp only at k0
      unfold maxLen at hcap2
      have i0' : (0 : Int) ≤ (st0.length : Int) := Int.natCast_nonneg _
      have i1' : (st0.length : Int) < ((st0.length : Int) + 1) := by omega
      have hcnt : st0.length ≤ 1048577 := by
        have h1 := hM.cnt
        have h2 := congrArg List.length hord
        have h3 := HN.out
        rw [List.length_append, walkM_length] at h2
        rw [hlen] at h1
        omega
      cases ls with
      | nil =>
        have HM := Lib.hid hM
        have HO := Lib.hid hord
        have HOWN := Lib.hid hown
        obtain ⟨a, c0, hsl⟩ : ∃ a c, sl = .slice a 0 c := by
          rcases hM.ts ([], sl) (by simp) with h1 | h1
          · exact h1.form
          · simp at h1
        subst hsl
        clear hM hord hown
        gi_wp2_with fail
        go_roundg (2 * (stWalkM st0).length + st0.length)
        case rel =>
          have h1 := row_take HOWN.out (Nat.le_succ st0.length)
          rw [wsndM_take] at h1
          refine ⟨pre, st0, g, cap, rfl, rfl, by have := HO.out; rwa [stWalkM_snoc] at this, h1, HM.out.j, fun e he => HM.out.ts e (List.mem_append_left _ he), HM.out.stays, HM.out.size, HM.out.root, HM.out.node, ?_⟩
          have := HM.out.cnt
          rw [List.length_append] at this
          omega
        case measure =>
          rw [stWalkM_snoc, List.length_append, List.length_append]
          simp only [walkSM, List.length_nil, List.length_singleton]
          omega
      | cons x ls =>
        obtain ⟨b, o, c0, tp', tc', rp', rc', p', c', rfl, hlc, hc63, hbC, hbw, hcell, hnx, htail⟩ := hM.open
        have hbg : b ≠ g := by
          have h1 := hg1
          rcases hbC with h2 | h2
          · have := (HC.out b h2).2
            omega
          · omega
        obtain ⟨q, hq⟩ : ∃ q, (if c0 = 1 then some (⟨b, o, none⟩ : Addr) else some ⟨b, o + 9, none⟩) = q := ⟨_, rfl⟩
        have htl : LM W C ls (.slice q ls.length (c0 - 1)) := htail q (fun hne => by
          have h1 : 1 ≤ ls.length := by cases ls with | nil => exact absurd rfl hne | cons => simp
          rw [← hq, if_neg (by omega)])
        obtain ⟨hst, hgr⟩ := hown.stored st0.length (.slice q ls.length (c0 - 1))
        rw [wsndM_set st0 _ ls] at hst
        have hb1 : Below (W.heap.size + 1) wo (wo.setCell ⟨g, st0.length, none⟩ (.slice q ls.length (c0 - 1))) := (Below.refl _ wo).setCell (p := ⟨g, st0.length, none⟩) hg1 _
        have hcC : ∀ z, C z → z < W.heap.size := fun z hz => (HC.out z hz).2
        have hst1 : Stays C W (wo.setCell ⟨g, st0.length, none⟩ (.slice q ls.length (c0 - 1))) := hM.stays.trans ⟨hb1.size, fun z hz _ => hb1.block z (by have := hcC z hz; omega)⟩
        have hpre : pre ++ [(x, st0.length + 1)] <+: walkM t 1 := ⟨walkSM x.args (st0.length + 1 + 1) ++ (walkSM ls (st0.length + 1) ++ stWalkM st0), by rw [← hord, stWalkM_snoc]; simp only [walkSM, walkM_eq, List.cons_append, List.append_assoc, List.nil_append]⟩
        obtain ⟨fn, tmps, assign, body, hy, hR⟩ := HY.out pre x (tmV x tp' tc' rp' rc' p' c') (st0.length + 1) _ (HJ.out _ _ _ hM.j (hb1.mono (by omega))) hpre (ntM_mk (hnx.stays hst1))
        rw [show ((st0.length + 1 : Nat) : Int) = (st0.length : Int) + 1 from rfl] at hy
        have hroot : (wo.setCell ⟨g, st0.length, none⟩ (.slice q ls.length (c0 - 1))).heap[W.heap.size]? = some (.cells (tmC t tp tc rp rc p c) 29 (0, 0)) := (hb1.block _ (by omega)).trans hM.root
        have HM := Lib.hid hM
        have HO := Lib.hid hord
        have HST := Lib.hid hst
        have HB1 := Lib.hid hb1
        have HST1 := Lib.hid hst1
        have HPRE := Lib.hid hpre
        have HR := Lib.hid hR
        have HTL := Lib.hid htl
        have HNX := Lib.hid hnx
        have HBC := Lib.hid hbC
        have HROOT := Lib.hid hroot
        have HQ := Lib.hid hlc
        obtain ⟨f0, f1, f2, f3, f4, f5, f6, f7, f8⟩ := hcell
        have hl1 : (1 : Int) ≤ ((ls.length : Int) + 1) := by omega
        clear hM hord hown hst hgr hb1 hst1 hpre hR htl htail hnx hbC hcC hroot
        gi_wp2_with fail
        refine HR.out.mono ?_
        rintro e W3 (⟨rfl, hJ3, hH3⟩ | ⟨rfl, hJx3⟩)
        · have hbnC : ¬ Cb b := by
            rcases HBC.out with h1 | h1
            · exact (HC.out b h1).1
            · intro hc; have := HCb.out b hc; omega
          have hgnC : ¬ Cb g := fun hc => by have := HCb.out g hc; omega
          have hs1 := HB1.out.size
          have hb3 : W3.heap[b]? = wo.heap[b]? := (hH3.2 b (by omega) hbnC).trans (Below.heap_setCell _ _ _ _ hbg)
          have hp3 : W3.heap[Bp]? = W.heap[Bp]? := by
            have h1 := HC.out Bp hCp
            have h2 := HM.out.size
            rw [hH3.2 Bp (by omega) h1.1]
            exact HST1.out.2 Bp hCp h1.2
          have hown3 := row_of_block HST.out (hH3.2 g (by omega) hgnC)
          have hr3 : W3.heap[W.heap.size]? = some (.cells (tmC t tp tc rp rc p c) 29 (0, 0)) := by
            rw [hH3.2 W.heap.size (by have := HM.out.lt; omega) (fun hc => by have := HCb.out _ hc; omega)]
            exact HROOT.out
          have hlen3 : (st0 ++ [(ls, Value.slice q ls.length (c0 - 1))]).length = st0.length + 1 := by simp
          have hM3 : MidM W W3 C t tp tc rp rc p c J (pre ++ [(x, st0.length + 1)]) (st0 ++ [(ls, .slice q ls.length (c0 - 1))]) g cap := by
            refine ⟨?_, hJ3, fun e he => ?_, HST1.out.trans ⟨hH3.1, fun z hz hl => hH3.2 z hl (HC.out z hz).1⟩, ?_, hr3, HM.out.node, ?_⟩
            · rw [hlen3]; exact hown3
            · rcases List.mem_append.1 he with he | he
              · exact HM.out.ts e (List.mem_append_left _ he)
              · simp only [List.mem_singleton] at he
                subst he
                exact Or.inl HTL.out
            · have := hH3.1
              have := HM.out.size
              omega
            · have := HM.out.cnt
              rw [hlen] at this
              rw [hlen3, List.length_append, List.length_singleton]
              omega
          have g0 := (World.cell?_of_block (a := ⟨b, o, none⟩) hb3).trans f0
          have g1 := (World.cell?_of_block (a := ⟨b, o + 1, none⟩) hb3).trans f1
          have g2 := (World.cell?_of_block (a := ⟨b, o + 2, none⟩) hb3).trans f2
          have g3 := (World.cell?_of_block (a := ⟨b, o + 3, none⟩) hb3).trans f3
          have g4 := (World.cell?_of_block (a := ⟨b, o + 4, none⟩) hb3).trans f4
          have g5 := (World.cell?_of_block (a := ⟨b, o + 5, none⟩) hb3).trans f5
          have g6 := (World.cell?_of_block (a := ⟨b, o + 6, none⟩) hb3).trans f6
          have g7 := (World.cell?_of_block (a := ⟨b, o + 7, none⟩) hb3).trans f7
          have g8 := (World.cell?_of_block (a := ⟨b, o + 8, none⟩) hb3).trans f8
          have kp3 := cell_of_blk (hp3.trans HBP.out) 0
          simp only [List.getElem?_toArray, List.getElem?_cons_zero] at kp3
          have HM3 := Lib.hid hM3
          have HOWN3 := Lib.hid hown3
          have hsz3 := hM3.lt
          clear hJ3 hH3 hown3 hM3 hy HR k0 kz hb3 hp3 hr3 hbnC hgnC f0 f1 f2 f3 f4 f5 f6 f7 f8 HB1 HST1 HST
          gi_wp2_with fail
          refine wpIn_wide.2 ?_
          go_region_law (first
            | (refine step_app1 (w0 := w1) (base := W.heap.size + 1) (v := .slice (some ⟨g, 0, none⟩) (st0.length + 1) cap) (n := st0.length + 1) (xs := (st0 ++ [(ls, Value.slice q ls.length (c0 - 1))]).map (·.2)) (cs := [.slice p' x.args.length c']) rfl (.tmp 40) (.tmp 46) rfl Tryd.underlying94 hi hz0 hz1 hz2 rfl (by decide) rfl (row_below HOWN3.out ((Below.refl W3.heap.size W3).drew.trans hb1)) _ rfl (by simp) rfl (fun u hu => by simp at hu; subst hu; rfl) (by unfold maxLen; omega) (by omega) (by have := hb1.size; simp at this; omega) ?_; intro w' g2 cap2 hA)
            | (go_simp; go_at_call 39; refine (argsM_any _ _ _ _ _ _ _ _).mono ?_; rintro e w1 ⟨rfl, hb1⟩))
          all_goals
            have HA := Lib.hid hA
            have HB := Lib.hid hb1
            clear hA hb1
            gi_wp2_with fail
            go_roundg (2 * (stWalkM ((st0 ++ [(ls, Value.slice q ls.length (c0 - 1))]) ++ [(x.args, .slice p' x.args.length c')])).length + (st0.length + 2))
            case rel =>
              have hb3 : Below W3.heap.size W3 w1 := (Below.refl W3.heap.size W3).drew.trans HB.out
              have hlen3 : (st0 ++ [(ls, Value.slice q ls.length (c0 - 1))]).length = st0.length + 1 := by simp
              have hg3 := (row_cap HOWN3.out).2.2
              have hs3 := hb3.size
              have hbw : Below (W.heap.size + 1) W3 w' := (hb3.mono (by omega)).trans HA.out.below
              refine ⟨pre ++ [(x, st0.length + 1)], (st0 ++ [(ls, .slice q ls.length (c0 - 1))]) ++ [(x.args, .slice p' x.args.length c')], g2, cap2, by rw [List.length_append, hlen3]; rfl, by rw [List.length_append, hlen3]; rfl, ?_, ?_⟩
              · rw [stWalkM_snoc, hlen3, stWalkM_snoc, ← HO.out, stWalkM_snoc]
                simp only [walkSM, walkM_eq, List.cons_append, List.append_assoc, List.nil_append]
              · refine ⟨?_, HJ.out _ _ _ HM3.out.j (hbw.mono (by omega)), fun e he => ?_, HM3.out.stays.trans ⟨hbw.size, fun z hz _ => hbw.block z (by have := (HC.out z hz).2; omega)⟩, by have := hbw.size; have := HM3.out.size; omega, (hbw.block _ (by omega)).trans HM3.out.root, HM3.out.node, ?_⟩
                · rw [List.map_append, List.length_append, hlen3]
                  exact HA.out.own
                · rcases List.mem_append.1 he with he | he
                  · exact HM3.out.ts e he
                  · simp only [List.mem_singleton] at he
                    subst he
                    exact Or.inl (TM'.args HNX.out)
                · have := HM.out.cnt
                  rw [hlen] at this
                  simp only [List.length_append, List.length_cons, List.length_nil]
                  omega
            case measure =>
              have h1 := HO.out
              simp only [stWalkM_snoc, walkSM, walkM_eq, List.length_append, List.length_cons, List.length_nil, Nat.zero_add]
              omega
        · gi_wp2_with fail
          refine bodyPost_ret (results_none rfl _ _ _) rfl ?_
          exact ⟨⟨_, rfl⟩, .inr ⟨pre ++ [(x, st0.length + 1)], HPRE.out, hJx3⟩⟩
#print axioms nodesM_it
end Go.Proofs.YtnciibngcaajgaaDoor
/- LoopW: Worlds with one, two, three boxes more; what the box of a loop's number says. Of no program. -/
namespace Go.Proofs.YtnciibngcaajgaaDoor
open Go Go.RowKit

theorem box_new (w : World) (A : Array Value) (T : TypeId) : ∃ wl : World, w.alloc (.cells A T) = wl ∧ wl.heap.size = w.heap.size + 1 ∧ Below w.heap.size w wl ∧ wl.heap[w.heap.size]? = some (.cells A T (0, 0)) :=
  ⟨_, rfl, by simp, (Below.refl _ w).alloc (Nat.le_refl _) _, blk_new _ _⟩
theorem box_new2 (w : World) (A B : Array Value) (tA tB : TypeId) : ∃ wl : World, (w.alloc (.cells A tA)).alloc (.cells B tB) = wl ∧ wl.heap.size = w.heap.size + 2 ∧ Below w.heap.size w wl ∧
    wl.heap[w.heap.size]? = some (.cells A tA (0, 0)) ∧ wl.heap[w.heap.size + 1]? = some (.cells B tB (0, 0)) := by
  have s1 : (w.alloc (.cells A tA)).heap.size = w.heap.size + 1 := by simp
  refine ⟨_, rfl, by simp, ((Below.refl _ w).alloc (Nat.le_refl _) _).alloc (by simp) _, ?_, ?_⟩
  · rw [Below.heap_alloc _ _ _ (by simp)]
    exact blk_new _ _
  · rw [← s1]
    exact blk_new _ _
theorem box_new3 (w : World) (A B D : Array Value) (tA tB tD : TypeId) : ∃ wl : World, ((w.alloc (.cells A tA)).alloc (.cells B tB)).alloc (.cells D tD) = wl ∧ wl.heap.size = w.heap.size + 3 ∧ Below w.heap.size w wl ∧
    wl.heap[w.heap.size]? = some (.cells A tA (0, 0)) ∧ wl.heap[w.heap.size + 1]? = some (.cells B tB (0, 0)) ∧ wl.heap[w.heap.size + 1 + 1]? = some (.cells D tD (0, 0)) := by
  have s1 : (w.alloc (.cells A tA)).heap.size = w.heap.size + 1 := by simp
  have s2 : ((w.alloc (.cells A tA)).alloc (.cells B tB)).heap.size = w.heap.size + 1 + 1 := by simp
  refine ⟨_, rfl, by simp, (((Below.refl _ w).alloc (Nat.le_refl _) _).alloc (by simp) _).alloc (by simp; omega) _, ?_, ?_, ?_⟩
  · rw [Below.heap_alloc _ _ _ (by simp; omega), Below.heap_alloc _ _ _ (by simp)]
    exact blk_new _ _
  · rw [Below.heap_alloc _ _ _ (by simp), ← s1]
    exact blk_new _ _
  · rw [← s2]
    exact blk_new _ _
theorem box_new4 (w : World) (A B D E : Array Value) (tA tB tD tE : TypeId) : ∃ wl : World, (((w.alloc (.cells A tA)).alloc (.cells B tB)).alloc (.cells D tD)).alloc (.cells E tE) = wl ∧ wl.heap.size = w.heap.size + 4 ∧ Below w.heap.size w wl ∧
    wl.heap[w.heap.size]? = some (.cells A tA (0, 0)) ∧ wl.heap[w.heap.size + 1]? = some (.cells B tB (0, 0)) ∧ wl.heap[w.heap.size + 1 + 1]? = some (.cells D tD (0, 0)) ∧ wl.heap[w.heap.size + 1 + 1 + 1]? = some (.cells E tE (0, 0)) := by
  obtain ⟨w3, h3, hs3, hb3, k0, k1⟩ := box_new2 w A B tA tB
  obtain ⟨w5, h5, hs5, hb5, k3, k4⟩ := box_new2 w3 D E tD tE
  refine ⟨w5, by rw [h3]; exact h5, by omega, hb3.trans (hb5.mono (by omega)), (hb5.block _ (by omega)).trans k0, (hb5.block _ (by omega)).trans k1, ?_, ?_⟩
  · rw [hs3] at k3; exact k3
  · rw [hs3] at k4; exact k4
theorem box_new5 (w : World) (A B D E F : Array Value) (tA tB tD tE tF : TypeId) : ∃ wl : World, ((((w.alloc (.cells A tA)).alloc (.cells B tB)).alloc (.cells D tD)).alloc (.cells E tE)).alloc (.cells F tF) = wl ∧ wl.heap.size = w.heap.size + 5 ∧ Below w.heap.size w wl ∧
    wl.heap[w.heap.size]? = some (.cells A tA (0, 0)) ∧ wl.heap[w.heap.size + 1]? = some (.cells B tB (0, 0)) ∧ wl.heap[w.heap.size + 1 + 1]? = some (.cells D tD (0, 0)) ∧ wl.heap[w.heap.size + 1 + 1 + 1]? = some (.cells E tE (0, 0)) ∧ wl.heap[w.heap.size + 1 + 1 + 1 + 1]? = some (.cells F tF (0, 0)) := by
  obtain ⟨w3, h3, hs3, hb3, k0, k1, k2⟩ := box_new3 w A B D tA tB tD
  obtain ⟨w5, h5, hs5, hb5, k3, k4⟩ := box_new2 w3 E F tE tF
  refine ⟨w5, by rw [h3]; exact h5, by omega, hb3.trans (hb5.mono (by omega)), (hb5.block _ (by omega)).trans k0, (hb5.block _ (by omega)).trans k1, (hb5.block _ (by omega)).trans k2, ?_, ?_⟩
  · rw [hs3] at k3; exact k3
  · rw [hs3] at k4; exact k4
end Go.Proofs.YtnciibngcaajgaaDoor
