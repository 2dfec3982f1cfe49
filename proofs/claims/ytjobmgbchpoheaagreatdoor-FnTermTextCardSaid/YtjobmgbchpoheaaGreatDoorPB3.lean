/-
  Several texts of the proof in one (each says below what it holds): Erase SpecEq RangeT RowN Aid.
-/
import Derived.Test.YtjobmgbchpoheaaGreatDoorPB1
import Derived.Test.YtjobmgbchpoheaaGreatDoorPB2
import Derived.RangeFuncKeeps
import Derived.RangeFuncLeaves
import Derived.OwnWalk
import Derived.Below
import Derived.Laws.AppendOwn
import Derived.Laws.OwnMore
import Derived.ArgAppend
import Derived.OwnWalkIn
import Derived.Deep.RegionLaw
import Derived.RangeFuncNested
import Derived.RangeFuncBound
import Derived.RangeFuncCalls
import Derived.Shelf.Abstract
import Derived.IntWalk
import Derived.Shelf.RegionOpen
import Derived.WalkKit
import Derived.TacticsInMore
import Derived.LoopNIn
import Derived.LoopIn
import Derived.Sort.LoopGhostIn
import Derived.Deep.LoopGhost
import Derived.Deep.CutRange
import Derived.Deep.RegionHeldLaw
namespace Go.Proofs.YtjobmgbchpoheaaGreatDoor
open Go Go.RowKit
def eraseK (k : Int) (es : List Ty) : Ty := if k = 4 ∧ es.length = 1 then es.headD (.mk k []) else .mk k es
mutual
def Ty.erase : Ty → Ty
  | .mk k ts => eraseK k (eraseS ts)
def eraseS : List Ty → List Ty
  | [] => []
  | t :: ts => t.erase :: eraseS ts
end
structure Job where
  x : Ty
  b : Nat
  o : Nat
def Free (st : List Job) (b o : Nat) : Prop := ∀ e ∈ st, ¬ (e.b = b ∧ (o = e.o ∨ o = e.o + 1))
structure Filled' (w w' : World) (U : Nat → Prop) (st : List Job) : Prop where
  size : w.heap.size ≤ w'.heap.size
  same : ∀ b, U b → ∀ o, Free st b o → w'.cell? ⟨b, o, none⟩ = w.cell? ⟨b, o, none⟩
  shape : ∀ b, U b → ∀ cur : Array Value, w.heap[b]? = some (.cells cur 26 (0, 0)) → ∃ cur' : Array Value, w'.heap[b]? = some (.cells cur' 26 (0, 0)) ∧ cur'.size = cur.size
  full : ∃ G : Nat → Nat → Prop, (∀ i e, st[i]? = some e → ∃ s, w'.cell? ⟨e.b, e.o, none⟩ = some (.int .i64 e.x.erase.kind) ∧ w'.cell? ⟨e.b, e.o + 1, none⟩ = some s ∧ OS w' e.x.erase.args s (G i)) ∧
    (∀ i z, i < st.length → G i z → w.heap.size ≤ z) ∧ (∀ i j z, i < st.length → j < st.length → i ≠ j → G i z → G j z → False)
def RootDone (w' : World) (R : Nat) (T : Ty) : Prop := ∃ s, w'.cell? ⟨R, 0, none⟩ = some (.int .i64 T.kind) ∧ w'.cell? ⟨R, 1, none⟩ = some s ∧ OS w' T.args s (fun b => R < b)
structure EInv (w : World) (U : Nat → Prop) (st : List Job) (R : Nat) (T : Ty) : Prop where
  lt : ∀ b, U b → R ≤ b ∧ b < w.heap.size ∧ ∃ cur, w.heap[b]? = some (.cells cur 26 (0, 0))
  root : R < w.heap.size
  loc : ∀ e ∈ st, U e.b ∧ (∃ q, w.cell? ⟨e.b, e.o, none⟩ = some (.int .i64 q)) ∧ (∃ u, w.cell? ⟨e.b, e.o + 1, none⟩ = some u) ∧ e.o % 2 = 0
  apart : ∀ (i j : Nat) (e f : Job), st[i]? = some e → st[j]? = some f → i ≠ j → ¬ (e.b = f.b ∧ e.o = f.o)
  wand : ∀ w', Filled' w w' U st → RootDone w' R T
def kidsOf (b : Nat) (ys : List Ty) : List Job := ys.mapIdx fun j y => ⟨y, b, j * 2⟩
section
variable {w wn : World} {U : Nat → Prop} {st0 : List Job} {x y : Ty} {b o R : Nat} {T : Ty}

end
end Go.Proofs.YtjobmgbchpoheaaGreatDoor
namespace Go.Proofs.YtjobmgbchpoheaaGreatDoor
open Go Go.RowKit

end Go.Proofs.YtjobmgbchpoheaaGreatDoor
namespace Go.Proofs.YtjobmgbchpoheaaGreatDoor
open Go Go.RowKit
def Holds (Cb : Nat → Prop) (w w' : World) : Prop := w.heap.size ≤ w'.heap.size ∧ ∀ b, b < w.heap.size → ¬ Cb b → w'.heap[b]? = w.heap[b]?
theorem Holds.refl (Cb : Nat → Prop) (w : World) : Holds Cb w w := ⟨Nat.le_refl _, fun _ _ _ => rfl⟩
theorem Holds.trans {Cb : Nat → Prop} {a b c : World} (h : Holds Cb a b) (k : Holds Cb b c) : Holds Cb a c :=
  ⟨Nat.le_trans h.1 k.1, fun i hi hc => (k.2 i (Nat.lt_of_lt_of_le hi h.1) hc).trans (h.2 i hi hc)⟩
theorem Holds.of_below {Cb : Nat → Prop} {w w' : World} (h : Below w.heap.size w w') : Holds Cb w w' := ⟨h.size, fun b hb _ => h.block b hb⟩
theorem Holds.setCell {Cb : Nat → Prop} {w w' : World} (h : Holds Cb w w') (p : Addr) (hp : Cb p.block) (v : Value) : Holds Cb w (w'.setCell p v) :=
  h.trans ⟨((Below.refl p.block w').setCell (Nat.le_refl _) v).size, fun b _ hc => Below.heap_setCell _ _ _ _ (fun e => hc (by rw [e]; exact hp))⟩
def SeqT {α β : Type} (F : Fence) (n : Nat) (P : Program) (g : Nat) (lb : Array Value) (encs : α → Array Value) (key : α → β) (Good : α → World → Prop) (Cb : Nat → Prop) (all : List β) (w : World) : Prop :=
  ∀ (l : Nat) (J Jx : List β → World → Prop) (W : World), Below w.heap.size w W → (∀ pre A B, J pre A → Below W.heap.size A B → J pre B) →
    (∀ pre x W1, J pre W1 → pre ++ [key x] <+: all → Good x W1 → YieldAt F (n - 1) P l (encs x) W1 fun e W' =>
      (e = .returned (.bool true) ∧ J (pre ++ [key x]) W' ∧ Holds Cb W1 W') ∨ (e = .returned (.bool false) ∧ Jx (pre ++ [key x]) W')) →
    J [] W →
    CallsIn F n P g (#[.func (.yield l) #[] #[]] ++ lb) W fun e W' => (∃ v, e = .returned v) ∧ (J all W' ∨ ∃ pre, pre <+: all ∧ Jx pre W')
def postT {β : Type} (Cb : Nat → Prop) (I : List β → World → Prop) (Ix : Code → List β → World → Prop) (xs : List β) (W : World) : Exit → Act → World → Prop
  | .normal, _, W' => Holds Cb W W' ∧ I xs W'
  | .ret, _, W' => Holds Cb W W' ∧ Ix .ret xs W'
  | .exit id, _, W' => Holds Cb W W' ∧ Ix (.exit id) xs W'
  | .goto t, _, W' => Holds Cb W W' ∧ Ix (.goto t) xs W'
  | .panic _, _, _ => False
  | .outgrown, _, _ => False

theorem below_putObj (n : Nat) (W : World) (l : Nat) (o : Obj) (h : n ≤ l) : Below n W (W.putObj l o) :=
  ⟨rfl, rfl, rfl, by simp, fun k hk => World.putObj_heap_other (by omega)⟩

variable {F : Fence} {n : Nat} {P : Program}
theorem range_law {α β : Type} {g : Operand} {ps : Array Tmp} {assign body : Code} {Q : Exit → Act → World → Prop} {a : Act} {w : World}
    (hro : F.round = none) (h1 : 1 ≤ n) {gf : Nat} {lb : Array Value} (hg : a.eval g = .func (.func gf) #[] lb) (hFg : F.fn gf) (eg : ∀ args w, (callFunc gf args).run P w = .ok (.enter gf args) w)
    {encs : α → Array Value} {key : α → β} {Good : α → World → Prop} {Cb : Nat → Prop} {all : List β} (hseq : SeqT F (n - 1) P gf lb encs key Good Cb all w) (hps : ∀ x, (encs x).size = ps.size) (hCb : ∀ b, Cb b → b < w.heap.size)
    (I : List β → World → Prop) (Ix : Code → List β → World → Prop) (hI : ∀ pre A B, I pre A → Below w.heap.size A B → I pre B) (hIx : ∀ c pre A B, Ix c pre A → Below w.heap.size A B → Ix c pre B)
    (hG : ∀ x A B, Good x A → Below w.heap.size A B → Good x B) (h0 : I [] w)
    (Ax : α → Act → World → Prop) (hAx : ∀ x a' W l r o, Ax x a' W → W.heap[l]? = some (.loop r) → Ax x a' (W.putObj l o))
    (hassign : ∀ (l : Nat) (x : α) (W : World) (K : Act → World → Prop), Good x W → (∀ a' W', Below W.heap.size W W' → Ax x a' W' → K a' W') →
      assign.wpIn (F.inRound l) (n - 1 - 1) P (Exit.then K (fun _ _ _ => False)) { tmps := (ps.zip (encs x)).foldl (fun t (p, v) => t.setIfInBounds p v) a.tmps, defers := [] } W)
    (hbody : ∀ (l : Nat) (pre : List β) (x : α) (a' : Act) (W : World), I pre W → pre ++ [key x] <+: all → Good x W → Ax x a' W → body.wpIn (F.inRound l) (n - 1 - 1) P (postT Cb I Ix (pre ++ [key x]) W) a' W)
    (hdone : ∀ (D : Nat) (W : World), w.heap.size ≤ D → I all W → W.heap[D]? = some (.deferred (some [])) → Q .normal { a with defers := { target := .collected D, args := #[] } :: a.defers } W)
    (hstop : ∀ (D : Nat) (c : Code) (pre : List β) (W : World), w.heap.size ≤ D → pre <+: all → Ix c pre W → W.heap[D]? = some (.deferred (some [])) → c.wpIn F n P Q { a with defers := { target := .collected D, args := #[] } :: a.defers } W) :
    (Code.rangeFunc g ps assign body).wpIn F n P Q a w := by
  refine wpIn_rangeFunc (fun fn hfn => ?_)
  rw [hro]
  -- the record of the loop, in its three states
  let rec_ : LoopState → Option Code → Loop := fun st pe => { state := st, pending := pe, fn, tmps := a.tmps, params := ps, assign, body, defers := w.heap.size }
  let w1 := (w.alloc (.deferred (some []))).alloc (.loop (rec_ .ready none))
  have hs1 : w1.heap.size = w.heap.size + 2 := by simp [w1]
  have hb1 : Below w.heap.size w w1 := ((Below.refl _ w).alloc (Nat.le_refl _) _).alloc (by simp) _
  have hl1 : w1.heap[w.heap.size + 1]? = some (.loop (rec_ .ready none)) := by
    have := World.alloc_heap_new (w.alloc (.deferred (some []))) (.loop (rec_ .ready none))
    rwa [World.size_alloc] at this
  have hd1 : w1.heap[w.heap.size]? = some (.deferred (some [])) := (Below.heap_alloc _ _ _ (by simp)).trans (World.alloc_heap_new w _)
  refine ⟨w.heap.size + 1, [{ target := .collected w.heap.size, args := #[] }], w1, { target := .fn (.func gf) lb, args := #[.func (.yield (w.heap.size + 1)) #[] #[]] }, w1, gf,
    #[.func (.yield (w.heap.size + 1)) #[] #[]] ++ lb, w1, run_enterLoop_outer _ _ _ _ _, by simp only [resolve, hg]; simp [go_sem], fun f' hf' => by simp [Target.leads] at hf'; subst hf'; exact hFg, by simp [invoke, go_sem, eg], fun _ => h1, ?_⟩
  have still : ∀ {A B : World} {k : Nat} {o : Obj}, Below w1.heap.size A B → k < w1.heap.size → A.heap[k]? = some o → B.heap[k]? = some o := fun hb hk h => (hb.block _ hk).trans h
  refine (hseq (w.heap.size + 1)
    (fun pre W => I pre W ∧ W.heap[w.heap.size + 1]? = some (.loop (rec_ .ready none)) ∧ W.heap[w.heap.size]? = some (.deferred (some [])))
    (fun pre W => ∃ c, Ix c pre W ∧ W.heap[w.heap.size + 1]? = some (.loop (rec_ .done (some c))) ∧ W.heap[w.heap.size]? = some (.deferred (some [])))
    w1 hb1 (fun pre A B h hb => ⟨hI pre A B h.1 (hb.mono (by omega)), still hb (by omega) h.2.1, still hb (by omega) h.2.2⟩) ?_ ⟨hI _ _ _ h0 hb1, hl1, hd1⟩).mono ?_
  · -- one round
    rintro pre x W ⟨hi, hl, hd⟩ hpre hgood
    have hy := run_yield (P := P) (args := encs x) hl (hps x)
    refine ⟨fn, _, assign, body, hy, roundIn_of_wpIn hfn (hassign _ x W _ hgood (fun a' Wa hba hax => ?_))⟩
    have hlt : w.heap.size + 1 < W.heap.size := (Array.getElem?_eq_some_iff.1 hl).1
    have hla : Wa.heap[w.heap.size + 1]? = some (.loop (rec_ .ready none)) := (hba.block _ hlt).trans hl
    have hda : Wa.heap[w.heap.size]? = some (.deferred (some [])) := (hba.block _ (by omega)).trans hd
    refine ⟨_, run_beginRound hla rfl, ?_⟩
    have hlta : w.heap.size + 1 < Wa.heap.size := (Array.getElem?_eq_some_iff.1 hla).1
    let busy : Loop := { rec_ .ready none with state := .busy }
    let Wb := Wa.putObj (w.heap.size + 1) (.loop busy)
    have hbb : Below w.heap.size Wa Wb := below_putObj _ _ _ _ (by omega)
    have hlb : Wb.heap[w.heap.size + 1]? = some (.loop busy) := World.putObj_heap_same hlta
    have hdb : Wb.heap[w.heap.size]? = some (.deferred (some [])) := (World.putObj_heap_other (by omega)).trans hda
    have hbwb := (hba.mono (Nat.le_of_lt (by omega : w.heap.size < W.heap.size))).trans hbb
    refine wpIn_mono (hbody _ pre x a' Wb (hI _ _ _ hi hbwb) hpre (hG _ _ _ hgood hbwb) (hAx _ _ _ _ _ _ hax hla)) ?_
    have fin : ∀ (jump : Option Code) (W3 : World), Holds Cb Wb W3 →
        (Instr.endRound (w.heap.size + 1) jump).run P W3 = .ok (.bool jump.isNone) (W3.putObj (w.heap.size + 1) (.loop (rec_ (if jump.isNone then .ready else .done) jump))) ∧
        Below w.heap.size W3 (W3.putObj (w.heap.size + 1) (.loop (rec_ (if jump.isNone then .ready else .done) jump))) ∧
        (W3.putObj (w.heap.size + 1) (.loop (rec_ (if jump.isNone then .ready else .done) jump))).heap[w.heap.size + 1]? = some (.loop (rec_ (if jump.isNone then .ready else .done) jump)) ∧
        (W3.putObj (w.heap.size + 1) (.loop (rec_ (if jump.isNone then .ready else .done) jump))).heap[w.heap.size]? = some (.deferred (some [])) := fun jump W3 hk => by
      have hwb : Wb.heap.size = Wa.heap.size := by simp [Wb]
      have h3 : W3.heap[w.heap.size + 1]? = some (.loop busy) := (hk.2 _ (by omega) (fun hc => by have := hCb _ hc; omega)).trans hlb
      have hd3 : W3.heap[w.heap.size]? = some (.deferred (some [])) := (hk.2 _ (by omega) (fun hc => by have := hCb _ hc; omega)).trans hdb
      exact ⟨run_endRound (P := P) jump h3, below_putObj _ _ _ _ (by omega), World.putObj_heap_same (Array.getElem?_eq_some_iff.1 h3).1, (World.putObj_heap_other (by omega)).trans hd3⟩
    have whole : ∀ W3, Holds Cb Wb W3 → Holds Cb W (W3.putObj (w.heap.size + 1) (.loop (rec_ .ready none))) := fun W3 hk => by
      have hwb : Wb.heap.size = Wa.heap.size := by simp [Wb]
      have hsz := hba.size
      refine ⟨by have := hk.1; simp; omega, fun b hb hc => ?_⟩
      by_cases e : b = w.heap.size + 1
      · subst e
        rw [World.putObj_heap_same (by have := hk.1; omega)]; exact hl.symm
      · rw [World.putObj_heap_other e, hk.2 b (by omega) hc, World.putObj_heap_other e, hba.block b hb]
    rintro e a3 W3 hp
    cases e with
    | normal =>
      obtain ⟨hk, hi3⟩ := hp
      obtain ⟨hr, hb3, hl3, hd3⟩ := fin none W3 hk
      exact ⟨_, _, hr, .inl ⟨rfl, ⟨hI _ _ _ hi3 hb3, hl3, hd3⟩, whole W3 hk⟩⟩
    | ret =>
      obtain ⟨hk, hi3⟩ := hp
      obtain ⟨hr, hb3, hl3, hd3⟩ := fin (some .ret) W3 hk
      exact ⟨_, _, hr, .inr ⟨rfl, .ret, hIx _ _ _ _ hi3 hb3, hl3, hd3⟩⟩
    | exit id =>
      obtain ⟨hk, hi3⟩ := hp
      obtain ⟨hr, hb3, hl3, hd3⟩ := fin (some (.exit id)) W3 hk
      exact ⟨_, _, hr, .inr ⟨rfl, .exit id, hIx _ _ _ _ hi3 hb3, hl3, hd3⟩⟩
    | goto t =>
      obtain ⟨hk, hi3⟩ := hp
      obtain ⟨hr, hb3, hl3, hd3⟩ := fin (some (.goto t)) W3 hk
      exact ⟨_, _, hr, .inr ⟨rfl, .goto t, hIx _ _ _ _ hi3 hb3, hl3, hd3⟩⟩
    | panic ch => exact hp.elim
    | outgrown => exact hp.elim
  · -- the iterator has returned
    rintro e W2 ⟨⟨v, rfl⟩, (⟨hi, hl, hd⟩ | ⟨pre, hpre, c, hi, hl, hd⟩)⟩
    · exact ⟨none, _, run_endLoop (P := P) hl (by simp [rec_]), hdone _ _ (Nat.le_refl _) (hI _ _ _ hi (below_putObj _ _ _ _ (by omega))) ((World.putObj_heap_other (by omega)).trans hd)⟩
    · exact ⟨some c, _, run_endLoop (P := P) hl (by simp [rec_]), hstop _ c pre _ (Nat.le_refl _) hpre (hIx _ _ _ _ hi (below_putObj _ _ _ _ (by omega))) ((World.putObj_heap_other (by omega)).trans hd)⟩
end Go.Proofs.YtjobmgbchpoheaaGreatDoor
namespace Go.Proofs.YtjobmgbchpoheaaGreatDoor
open Go Go.RowKit

section
variable {w w' : World} {base size n : Nat} {e : TypeId} {v : Value} {xs : List Value}

theorem row_below (h : w.ownsRow base e size v n xs) (hb : Below w.heap.size w w') : w'.ownsRow base e size v n xs := by
  refine ⟨h.1, ?_⟩
  rcases h.2 with h0 | ⟨g, cap, cur, rfl, hg, hblk, r⟩
  · exact Or.inl h0
  · exact Or.inr ⟨g, cap, cur, rfl, hg, (hb.block g (h.lt g rfl).2).trans hblk, r⟩
theorem row_of_block {g cap : Nat} (h : w.ownsRow base e size (.slice (some ⟨g, 0, none⟩) n cap) n xs) (hb : w'.heap[g]? = w.heap[g]?) : w'.ownsRow base e size (.slice (some ⟨g, 0, none⟩) n cap) n xs := by
  refine ⟨h.1, ?_⟩
  rcases h.2 with h0 | ⟨g', cap', cur, hv, hg, hblk, r⟩
  · exact Or.inl h0
  · simp only [Value.slice.injEq, Option.some.injEq, Addr.mk.injEq, true_and, and_true] at hv
    obtain ⟨rfl, rfl⟩ := hv
    exact Or.inr ⟨g, cap, cur, rfl, hg, hb.trans hblk, r⟩
theorem row_cap {g cap : Nat} (h : w.ownsRow base e size (.slice (some ⟨g, 0, none⟩) n cap) n xs) : n ≤ cap ∧ cap ≤ maxLen ∧ base ≤ g ∧ g < w.heap.size := by
  have hl := h.lt g rfl
  rcases h.2 with h0 | ⟨g', cap', cur, hv, hg, hblk, h1, h2, _⟩
  · exact absurd h0.1 (by simp)
  · simp only [Value.slice.injEq, Option.some.injEq, Addr.mk.injEq, true_and, and_true] at hv
    obtain ⟨rfl, rfl⟩ := hv
    exact ⟨h1, h2, hg, hl.2⟩
theorem row_take {g cap m : Nat} (h : w.ownsRow base e size (.slice (some ⟨g, 0, none⟩) n cap) n xs) (hm : m ≤ n) : w.ownsRow base e size (.slice (some ⟨g, 0, none⟩) m cap) m (xs.take (m * size)) := by
  have hle : m * size ≤ n * size := Nat.mul_le_mul_right _ hm
  refine ⟨by rw [List.length_take, h.1]; omega, ?_⟩
  rcases h.2 with h0 | ⟨g', cap', cur, hv, hg, hblk, h1, h2, h3, h4⟩
  · exact absurd h0.1 (by simp)
  · simp only [Value.slice.injEq, Option.some.injEq, Addr.mk.injEq, true_and, and_true] at hv
    obtain ⟨rfl, rfl⟩ := hv
    exact Or.inr ⟨g, cap, cur, rfl, hg, hblk, Nat.le_trans hm h1, h2, h3, by rw [← h4, List.take_take, Nat.min_eq_left hle]⟩
end
theorem run_app {P : Program} {w : World} (base : Nat) (t ty e : TypeId) (i : TypeInfo) (z : Value) (size bytes : Nat) (ht : P.underlying t = some (.slice e)) (hi : P.info? e = some i) (hz : i.zero = some z)
    (hsize : i.size = size) (hby : i.bytes = bytes) (hzs : z.cells.size = size) (hsz : 0 < size)
    (v : Value) (n : Nat) (xs : List Value) (hown : w.ownsRow base e size v n xs)
    (a : Addr) (m c : Nat) (news : List Value) (hl : news.length = m * size) (hnews : ∀ j u, news[j]? = some u → w.cell? (a.add j) = some u) (h1 : ∀ u ∈ news, u.oneCell' = true)
    (h63 : n + m ≤ maxLen) (hbytes : (n + m) * bytes ≤ 140737488355328) (hbase : base ≤ w.heap.size) :
    ∃ v' w', (Builtin.append_ #[t, t] ty #[v, .slice (some a) m c]).run P w = .ok v' w' ∧ w'.ownsRow base e size v' (n + m) (xs ++ news) ∧ w.grownBy w' v.ownBlock ∧
      ∀ g, v'.ownBlock = some g → v.ownBlock = some g ∨ w.heap.size ≤ g := by
  rcases hown.2 with ⟨rfl, rfl⟩ | ⟨g, cap, cur, rfl, hbg, hg, hnc, hcm, hcs, htake⟩
  · have hx : xs = [] := List.eq_nil_of_length_eq_zero (by simpa using hown.1)
    subst hx
    obtain ⟨v', w', hr, ho, hgr, _⟩ := run_append_own (P := P) w w.heap.size t ty e i z size bytes ht hi hz hsize hby hzs hsz _ 0 [] (World.ownsRow_nil w _ e size) a m c news hl hnews h1 h63 hbytes (Nat.le_refl _)
    exact ⟨v', w', hr, ⟨ho.1, ho.2.elim Or.inl (fun ⟨g, cap, cur, hv, hb, r⟩ => Or.inr ⟨g, cap, cur, hv, Nat.le_trans hbase hb, r⟩)⟩, hgr, fun g hg => Or.inr (ho.lt g hg).1⟩
  · by_cases hroom : n + m ≤ cap
    · obtain ⟨w', hr, ho, hgr⟩ := run_append_fits (P := P) w base t ty e i size ht hi hsize g n cap xs hown a m c news hl hnews h1 hroom
      exact ⟨_, w', hr, ho, hgr, fun k hk => Or.inl hk⟩
    · have holds : ∀ j u, xs[j]? = some u → w.cell? ((⟨g, 0, none⟩ : Addr).add j) = some u := hown.cells (g := g) rfl
      obtain ⟨v', w', hr, ho, hgr⟩ := run_append_arg_grows (P := P) w t ty e i z size bytes ht hi hz hsize hby hzs hsz ⟨g, 0, none⟩ n cap xs hown.1 holds a m c news hl hnews (by omega) h63 hbytes
      exact ⟨v', w', hr, ⟨ho.1, ho.2.elim Or.inl (fun ⟨g, cap, cur, hv, hb, r⟩ => Or.inr ⟨g, cap, cur, hv, Nat.le_trans hbase hb, r⟩)⟩, ⟨hgr.os, hgr.tape, hgr.output, hgr.size, fun k hk _ => hgr.block k hk (by simp)⟩, fun k hk => Or.inr (ho.lt k hk).1⟩
structure Appd (w0 w' : World) (base : Nat) (e : TypeId) (size : Nat) (v : Value) (n : Nat) (xs cs : List Value) (g cap : Nat) : Prop where
  own : w'.ownsRow base e size (.slice (some ⟨g, 0, none⟩) (n + 1) cap) (n + 1) (xs ++ cs)
  below : Below base w0 w'
  size : w0.heap.size ≤ w'.heap.size
  kept : ∀ b, b < w0.heap.size → v.ownBlock ≠ some b → w'.heap[b]? = w0.heap[b]? ∧ g ≠ b

section
variable {P : Program} {w0 : World} {base : Nat} {t e : TypeId} {i : TypeInfo} {z : Value} {size bytes : Nat} {v : Value} {n : Nat} {xs cs : List Value}

theorem run_app1 (ty : TypeId) (ht : P.underlying t = some (.slice e)) (hi : P.info? e = some i) (hz : i.zero = some z) (hsize : i.size = size) (hby : i.bytes = bytes) (hzs : z.cells.size = size) (hsz : 0 < size)
    (hown : w0.ownsRow base e size v n xs) (hl : cs.length = size) (h1 : ∀ u ∈ cs, u.oneCell' = true) (h63 : n + 1 ≤ maxLen) (hbytes : (n + 1) * bytes ≤ 140737488355328) (hbase : base ≤ w0.heap.size) :
    ∃ w' g cap, (Builtin.append_ #[t, t] ty #[v, .slice (some ⟨w0.heap.size, 0, none⟩) 1 1]).run P (w0.alloc (.cells cs.toArray e)) = .ok (.slice (some ⟨g, 0, none⟩) (n + 1) cap) w' ∧ Appd w0 w' base e size v n xs cs g cap := by
  have hb0 := (Below.refl w0.heap.size w0).alloc (Nat.le_refl _) (.cells cs.toArray e)
  have hown1 := row_below hown hb0
  have hnews : ∀ j u, cs[j]? = some u → (w0.alloc (.cells cs.toArray e)).cell? ((⟨w0.heap.size, 0, none⟩ : Addr).add j) = some u := by
    intro j u hj
    have e1 : ((⟨w0.heap.size, 0, none⟩ : Addr).add j) = ⟨w0.heap.size, j, none⟩ := by unfold Addr.add; split <;> simp_all
    rw [e1, World.cell?_alloc_mark]
    simpa using hj
  obtain ⟨v', w', hr, ho, hg, hwhere⟩ := run_app (P := P) base t ty e i z size bytes ht hi hz hsize hby hzs hsz v n xs hown1 ⟨w0.heap.size, 0, none⟩ 1 1 cs (by omega) hnews h1 h63 hbytes (by simp; omega)
  have hs1 := hg.size
  rw [World.size_alloc] at hs1
  rcases ho.2 with ⟨_, h0⟩ | ⟨g, cap, cur, rfl, hbg, _⟩
  · omega
  · refine ⟨w', g, cap, hr, ho, (((Below.refl base w0).alloc hbase _).grown hg (by simp; omega) (fun k hk => (hown1.lt k hk).1)), by omega, fun b hb hne => ⟨?_, ?_⟩⟩
    · rw [hg.block b (by simp; omega) (fun e => hne e.symm), Below.heap_alloc _ _ _ hb]
    · rintro rfl
      rcases hwhere g rfl with h | h
      · exact hne h
      · simp at h; omega
theorem wpList_app1 {ops : Array Oper} {rest : List Oper} {o : Oper} {a : Act} {Q : Exit → Act → World → Prop} (hgd : o.guard = none) (s x : Operand)
    (ho : o.op = .call { callee := .builtin .append, args := #[s, x], argTypes := #[t, t] }) (ht : P.underlying t = some (.slice e)) (hi : P.info? e = some i) (hz : i.zero = some z) (hsize : i.size = size) (hby : i.bytes = bytes) (hzs : z.cells.size = size) (hsz : 0 < size)
    (hs : a.eval s = v) (hown : w0.ownsRow base e size v n xs) (bk : Nat) (hx : a.eval x = .slice (some ⟨bk, 0, none⟩) 1 1) (hbk : bk = w0.heap.size) (hl : cs.length = size) (h1 : ∀ u ∈ cs, u.oneCell' = true) (h63 : n + 1 ≤ maxLen) (hbytes : (n + 1) * bytes ≤ 140737488355328) (hbase : base ≤ w0.heap.size)
    (h : ∀ w' g cap, Appd w0 w' base e size v n xs cs g cap → wpList P ops Q rest (a.put o.dst (.slice (some ⟨g, 0, none⟩) (n + 1) cap)) w') :
    wpList P ops Q (o :: rest) a (w0.alloc (.cells cs.toArray e)) := by
  subst hbk
  refine wpList_plain hgd fun K hK => ?_
  obtain ⟨w', g, cap, hrun, hA⟩ := run_app1 (P := P) o.type ht hi hz hsize hby hzs hsz hown hl h1 h63 hbytes hbase
  unfold Oper.wp
  simp [execOp, ho, resolve, invoke, builtin, hs, hx, hrun, Result.andThen]
  exact hK _ _ (h w' g cap hA)
theorem step_app1 {ops : Array Oper} {o : Oper} {a : Act} {K : Act → World → Prop} {Q : Exit → Act → World → Prop} {E : Prop} (hgd : o.guard = none) (s x : Operand)
    (ho : o.op = .call { callee := .builtin .append, args := #[s, x], argTypes := #[t, t] }) (ht : P.underlying t = some (.slice e)) (hi : P.info? e = some i) (hz : i.zero = some z) (hsize : i.size = size) (hby : i.bytes = bytes) (hzs : z.cells.size = size) (hsz : 0 < size)
    (hs : a.eval s = v) (hown : w0.ownsRow base e size v n xs) (bk : Nat) (hx : a.eval x = .slice (some ⟨bk, 0, none⟩) 1 1) (hbk : bk = w0.heap.size) (hl : cs.length = size) (h1 : ∀ u ∈ cs, u.oneCell' = true) (h63 : n + 1 ≤ maxLen) (hbytes : (n + 1) * bytes ≤ 140737488355328) (hbase : base ≤ w0.heap.size)
    (h : ∀ w' g cap, Appd w0 w' base e size v n xs cs g cap → K (a.put o.dst (.slice (some ⟨g, 0, none⟩) (n + 1) cap)) w') :
    if Region.wanted o (yielded ops a.tmps) = true then Oper.wp P o a (w0.alloc (.cells cs.toArray e)) K Q else E := by
  subst hbk
  have hw : Region.wanted o (yielded ops a.tmps) = true := by simp [Region.wanted, hgd]
  rw [if_pos hw]
  obtain ⟨w', g, cap, hrun, hA⟩ := run_app1 (P := P) o.type ht hi hz hsize hby hzs hsz hown hl h1 h63 hbytes hbase
  unfold Oper.wp
  simp [execOp, ho, resolve, invoke, builtin, hs, hx, hrun, Result.andThen]
  exact h w' g cap hA
end
end Go.Proofs.YtjobmgbchpoheaaGreatDoor
namespace Go.Proofs.YtjobmgbchpoheaaGreatDoor
open Go Go.RowKit

theorem snoc_cases {α : Type} (l : List α) : l = [] ∨ ∃ l0 e, l = l0 ++ [e] := by
  rcases List.eq_nil_or_concat l with h | ⟨l0, e, h⟩
  · exact Or.inl h
  · exact Or.inr ⟨l0, e, by rw [h, List.concat_eq_append]⟩
theorem keepApp {w0 w' : World} {base : Nat} {e : TypeId} {size n : Nat} {v : Value} {xs cs : List Value} {g cap : Nat} (hA : Appd w0 w' base e size v n xs cs g cap) {p : Addr} {u : Value} (h : w0.cell? p = some u) (hne : v.ownBlock ≠ some p.block) : w'.cell? p = some u :=
  (World.cell?_of_block (hA.kept p.block (World.block_lt_of_cell? w0 _ h) hne).1).trans h

end Go.Proofs.YtjobmgbchpoheaaGreatDoor
