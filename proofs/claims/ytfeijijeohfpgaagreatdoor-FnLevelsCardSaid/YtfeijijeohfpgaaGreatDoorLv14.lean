/-
  Several texts of the proof in one (each says below what it holds): RangeE NodesP LvI RegR LvJ LvP LvK.
-/
import Derived.Test.YtfeijijeohfpgaaGreatDoorLv13
import Derived.Test.YtfeijijeohfpgaaGreatDoorLv11
import Derived.Test.YtfeijijeohfpgaaGreatDoorLv1
import Derived.Lib.SmallJoins
import Derived.OrdersIn
import Derived.RangeFuncCalls
import Derived.OwnWalkIn
set_option linter.unusedVariables false
set_option linter.unusedSimpArgs false
namespace Go.Proofs.YtfeijijeohfpgaaGreatDoor
open Go Go.RowKit
def SeqE {α β : Type} (F : Fence) (n : Nat) (P : Program) (g : Nat) (lb : Array Value) (encs : α → Array Value) (key : α → β) (Good : α → (Nat → Prop) → World → Prop) (C E : Nat → Prop) (all : List β) (w : World) : Prop :=
  ∀ (l : Nat) (J Jx : List β → (Nat → Prop) → (Nat → Prop) → World → Prop) (B0 : Nat → Prop) (W : World), Below w.heap.size w W → (∀ b, C b → ¬ B0 b) → (∀ b, B0 b → b < W.heap.size) →
    (∀ pre B N A A', J pre B N A → Keep W.heap.size (fun z => B z ∨ N z) A A' → J pre B N A') →
    (∀ pre B N A A', Jx pre B N A → Keep W.heap.size (fun z => B z ∨ N z) A A' → Jx pre B N A') →
    (∀ pre x Y B N W1, J pre B N W1 → pre ++ [key x] <+: all → Good x Y W1 → (∀ z, Y z → ¬ B z) → YieldAt F (n - 1) P l (encs x) W1 fun e W' =>
      ∃ B' N', Grew B B' W1.heap.size W'.heap.size ∧ (∀ z, N' z → N z ∨ Y z) ∧ ((e = .returned (.bool true) ∧ J (pre ++ [key x]) B' N' W' ∧ Holds B W1 W') ∨ (e = .returned (.bool false) ∧ Jx (pre ++ [key x]) B' N' W' ∧ Holds (fun z => B z ∨ E z) W1 W'))) →
    J [] B0 (fun _ => False) W →
    CallsIn F n P g (#[.func (.yield l) #[] #[]] ++ lb) W fun e W' => (∃ v, e = .returned v) ∧ ((∃ B' N', J all B' N' W') ∨ ∃ pre B' N', pre <+: all ∧ Jx pre B' N' W')
def postE {β : Type} (E B N Y : Nat → Prop) (I : List β → (Nat → Prop) → (Nat → Prop) → World → Prop) (Ix : Code → List β → (Nat → Prop) → (Nat → Prop) → World → Prop) (xs : List β) (W : World) : Exit → Act → World → Prop
  | .normal, _, W' => ∃ B' N', Grew B B' W.heap.size W'.heap.size ∧ (∀ z, N' z → N z ∨ Y z) ∧ Holds B W W' ∧ I xs B' N' W'
  | .ret, _, W' => ∃ B' N', Grew B B' W.heap.size W'.heap.size ∧ (∀ z, N' z → N z ∨ Y z) ∧ Holds (fun z => B z ∨ E z) W W' ∧ Ix .ret xs B' N' W'
  | .exit id, _, W' => ∃ B' N', Grew B B' W.heap.size W'.heap.size ∧ (∀ z, N' z → N z ∨ Y z) ∧ Holds (fun z => B z ∨ E z) W W' ∧ Ix (.exit id) xs B' N' W'
  | .goto t, _, W' => ∃ B' N', Grew B B' W.heap.size W'.heap.size ∧ (∀ z, N' z → N z ∨ Y z) ∧ Holds (fun z => B z ∨ E z) W W' ∧ Ix (.goto t) xs B' N' W'
  | .panic _, _, _ => False
  | .outgrown, _, _ => False
variable {F : Fence} {n : Nat} {P : Program}
theorem rangeE_law {α β : Type} {g : Operand} {ps : Array Tmp} {assign body : Code} {Q : Exit → Act → World → Prop} {a : Act} {w : World}
    (hro : F.round = none) (h1 : 1 ≤ n) {gf : Nat} {lb : Array Value} (hg : a.eval g = .func (.func gf) #[] lb) (hFg : F.fn gf) (eg : ∀ args w, (callFunc gf args).run P w = .ok (.enter gf args) w)
    {encs : α → Array Value} {key : α → β} {Good : α → (Nat → Prop) → World → Prop} {C E B0 : Nat → Prop} {all : List β} (hseq : SeqE F (n - 1) P gf lb encs key Good C E all w) (hEl : ∀ z, E z → z < w.heap.size) (hps : ∀ x, (encs x).size = ps.size) (hC : ∀ b, C b → ¬ B0 b) (hCl : ∀ b, C b → b < w.heap.size) (hB0 : ∀ b, B0 b → b < w.heap.size)
    (I : List β → (Nat → Prop) → (Nat → Prop) → World → Prop) (Ix : Code → List β → (Nat → Prop) → (Nat → Prop) → World → Prop) (hI : ∀ pre B N A A', I pre B N A → Keep w.heap.size (fun z => B z ∨ N z) A A' → I pre B N A') (hIx : ∀ c pre B N A A', Ix c pre B N A → Keep w.heap.size (fun z => B z ∨ N z) A A' → Ix c pre B N A')
    (hG : ∀ x Y A A' l r, w.heap.size ≤ l → Good x Y A → A.heap[l]? = some (.loop r) → Holds (fun b => b = l) A A' → Good x Y A') (hIB : ∀ pre B N A, I pre B N A → ∀ z, B z → z < A.heap.size) (hGY : ∀ x Y A z, Good x Y A → Y z → ∃ cs T fr, A.heap[z]? = some (.cells cs T fr)) (h0 : I [] B0 (fun _ => False) w)
    (Ax : α → Nat → Act → World → Prop) (hAx : ∀ x s a' W l r o, Ax x s a' W → W.heap[l]? = some (.loop r) → Ax x s a' (W.putObj l o))
    (hassign : ∀ (l : Nat) (x : α) (Y : Nat → Prop) (W : World) (K : Act → World → Prop), Good x Y W → (∀ a' W', Below W.heap.size W W' → Ax x W.heap.size a' W' → K a' W') →
      assign.wpIn (F.inRound l) (n - 1 - 1) P (Exit.then K (fun _ _ _ => False)) { tmps := (ps.zip (encs x)).foldl (fun t (p, v) => t.setIfInBounds p v) a.tmps, defers := [] } W)
    (hbody : ∀ (l : Nat) (pre : List β) (x : α) (s : Nat) (a' : Act) (Y B N : Nat → Prop) (W : World), I pre B N W → pre ++ [key x] <+: all → Good x Y W → (∀ z, Y z → ¬ B z) → (∀ z, B z → z < s) → Ax x s a' W → (∃ r, W.heap[l]? = some (.loop r)) → ¬ B l → body.wpIn (F.inRound l) (n - 1 - 1) P (postE E B N Y I Ix (pre ++ [key x]) W) a' W)
    (hdone : ∀ (D : Nat) (B N : Nat → Prop) (W : World), w.heap.size ≤ D → (∀ b, B b ∨ N b → b ≠ D) → I all B N W → W.heap[D]? = some (.deferred (some [])) → Q .normal { a with defers := { target := .collected D, args := #[] } :: a.defers } W)
    (hstop : ∀ (D : Nat) (c : Code) (pre : List β) (B N : Nat → Prop) (W : World), w.heap.size ≤ D → (∀ b, B b ∨ N b → b ≠ D) → pre <+: all → Ix c pre B N W → W.heap[D]? = some (.deferred (some [])) → c.wpIn F n P Q { a with defers := { target := .collected D, args := #[] } :: a.defers } W) :
    (Code.rangeFunc g ps assign body).wpIn F n P Q a w := by
  refine wpIn_rangeFunc (fun fn hfn => ?_)
  rw [hro]
  -- the record of the loop, in its three states
  let rec_ : LoopState → Option Code → Loop := fun st pe => { state := st, pending := pe, fn, tmps := a.tmps, params := ps, assign, body, defers := w.heap.size }
  let w1 := (w.alloc (.deferred (some []))).alloc (.loop (rec_ .ready none))
  have hs1 : w1.heap.size = w.heap.size + 2 := by simp [w1]
  have hb1 : Below w.heap.size w w1 := ((Below.refl _ w).alloc (Nat.le_refl _) _).alloc (by simp) _
  have hl1 : w1.heap[w.heap.size + 1]? = some (.loop (rec_ .ready none)) := by
    have := World.alloc_heap_new (w.alloc (.deferred (some []))) (.loop (rec_ .ready none))
    rwa [World.size_alloc] at this
  have hd1 : w1.heap[w.heap.size]? = some (.deferred (some [])) := (Below.heap_alloc _ _ _ (by simp)).trans (World.alloc_heap_new w _)
  refine ⟨w.heap.size + 1, [{ target := .collected w.heap.size, args := #[] }], w1, { target := .fn (.func gf) lb, args := #[.func (.yield (w.heap.size + 1)) #[] #[]] }, w1, gf,
    #[.func (.yield (w.heap.size + 1)) #[] #[]] ++ lb, w1, run_enterLoop_outer _ _ _ _ _, by simp only [resolve, hg]; simp [go_sem], fun f' hf' => by simp [Target.leads] at hf'; subst hf'; exact hFg, by simp [invoke, go_sem, eg], fun _ => h1, ?_⟩
  have still : ∀ {B : Nat → Prop} {A A' : World} {k : Nat} {o : Obj}, Keep w1.heap.size B A A' → k < w1.heap.size → A.heap[k]? = some o → A'.heap[k]? = some o := fun hb hk h => (hb.1.block _ hk).trans h
  refine (hseq (w.heap.size + 1)
    (fun pre B N W => ∃ B1 : Nat → Prop, (∀ z, B z ↔ B1 z ∨ z = w.heap.size + 1) ∧ I pre B1 N W ∧ W.heap[w.heap.size + 1]? = some (.loop (rec_ .ready none)) ∧ W.heap[w.heap.size]? = some (.deferred (some [])) ∧ ∀ b, B1 b ∨ N b → b < w.heap.size ∨ w.heap.size + 2 ≤ b)
    (fun pre B N W => ∃ (B1 : Nat → Prop) (c : Code), (∀ z, B z ↔ B1 z ∨ z = w.heap.size + 1) ∧ Ix c pre B1 N W ∧ W.heap[w.heap.size + 1]? = some (.loop (rec_ .done (some c))) ∧ W.heap[w.heap.size]? = some (.deferred (some [])) ∧ ∀ b, B1 b ∨ N b → b < w.heap.size ∨ w.heap.size + 2 ≤ b)
    (fun z => B0 z ∨ z = w.heap.size + 1) w1 hb1 (fun b hb h => h.elim (hC b hb) (fun e => by have := hCl b hb; omega)) (fun b hb => hb.elim (fun hb => by have := hB0 b hb; omega) (fun e => by omega)) (fun pre B N A A' h hb => by
      obtain ⟨B1, h0, h1, h2, h3, h4⟩ := h
      exact ⟨B1, h0, hI pre B1 N A A' h1 (hb.mono (by omega) (fun z h => h.imp (fun h => (h0 z).2 (Or.inl h)) id)), still hb (by omega) h2, still hb (by omega) h3, h4⟩) (fun pre B N A A' h hb => by
      obtain ⟨B1, c, h0, h1, h2, h3, h4⟩ := h
      exact ⟨B1, c, h0, hIx c pre B1 N A A' h1 (hb.mono (by omega) (fun z h => h.imp (fun h => (h0 z).2 (Or.inl h)) id)), still hb (by omega) h2, still hb (by omega) h3, h4⟩) ?_ ⟨B0, fun _ => Iff.rfl, hI _ _ _ _ _ h0 (.of_below (Nat.le_refl _) hb1), hl1, hd1, fun b hb => Or.inl (hb.elim (hB0 b) False.elim)⟩).mono ?_
  · -- one round
    rintro pre x Y BL N W ⟨B, hBe, hi, hl, hd, hBl⟩ hpre hgood hYB0
    have hYB : ∀ z, Y z → ¬ B z := fun z hz hb => hYB0 z hz ((hBe z).2 (Or.inl hb))
    have hy := run_yield (P := P) (args := encs x) hl (hps x)
    refine ⟨fn, _, assign, body, hy, roundIn_of_wpIn hfn (hassign _ x Y W _ hgood (fun a' Wa hba hax => ?_))⟩
    have hlt : w.heap.size + 1 < W.heap.size := (Array.getElem?_eq_some_iff.1 hl).1
    have hla : Wa.heap[w.heap.size + 1]? = some (.loop (rec_ .ready none)) := (hba.block _ hlt).trans hl
    have hda : Wa.heap[w.heap.size]? = some (.deferred (some [])) := (hba.block _ (by omega)).trans hd
    refine ⟨_, run_beginRound hla rfl, ?_⟩
    have hlta : w.heap.size + 1 < Wa.heap.size := (Array.getElem?_eq_some_iff.1 hla).1
    let busy : Loop := { rec_ .ready none with state := .busy }
    let Wb := Wa.putObj (w.heap.size + 1) (.loop busy)
    have hbb : Below w.heap.size Wa Wb := below_putObj _ _ _ _ (by omega)
    have hlb : Wb.heap[w.heap.size + 1]? = some (.loop busy) := World.putObj_heap_same hlta
    have hdb : Wb.heap[w.heap.size]? = some (.deferred (some [])) := (World.putObj_heap_other (by omega)).trans hda
    have hszb : Wb.heap.size = Wa.heap.size := by simp [Wb]
    have hwa := hba.size
    have hkw : Keep w.heap.size (fun z => B z ∨ N z) W Wb := ⟨(hba.mono (Nat.le_of_lt (by omega : w.heap.size < W.heap.size))).trans hbb, fun b hb hl' => by
      rw [World.putObj_heap_other (by have := hBl b hb; omega)]
      exact hba.block b hl'⟩
    have hol : Holds (fun b => b = w.heap.size + 1) W Wb := ⟨by omega, fun b hb hc => by rw [World.putObj_heap_other hc]; exact hba.block b hb⟩
    have hnl : ¬ B (w.heap.size + 1) := fun h => by have := hBl _ (Or.inl h); omega
    have hnd : ¬ B w.heap.size := fun h => by have := hBl _ (Or.inl h); omega
    refine wpIn_mono (hbody _ pre x W.heap.size a' Y B N Wb (hI _ _ _ _ _ hi hkw) hpre (hG _ _ _ _ _ _ (Nat.le_succ _) hgood hl hol) hYB (hIB _ _ _ _ hi) (hAx _ _ _ _ _ _ _ hax hla) ⟨_, hlb⟩ hnl) ?_
    have hnl2 : ¬ (B (w.heap.size + 1) ∨ E (w.heap.size + 1)) := fun h => h.elim hnl (fun h => by have := hEl _ h; omega)
    have hnd2 : ¬ (B w.heap.size ∨ E w.heap.size) := fun h => h.elim hnd (fun h => by have := hEl _ h; omega)
    have fin : ∀ (jump : Option Code) (W3 : World), Holds (fun z => B z ∨ E z) Wb W3 →
        (Instr.endRound (w.heap.size + 1) jump).run P W3 = .ok (.bool jump.isNone) (W3.putObj (w.heap.size + 1) (.loop (rec_ (if jump.isNone then .ready else .done) jump))) ∧
        Below w.heap.size W3 (W3.putObj (w.heap.size + 1) (.loop (rec_ (if jump.isNone then .ready else .done) jump))) ∧
        (W3.putObj (w.heap.size + 1) (.loop (rec_ (if jump.isNone then .ready else .done) jump))).heap[w.heap.size + 1]? = some (.loop (rec_ (if jump.isNone then .ready else .done) jump)) ∧
        (W3.putObj (w.heap.size + 1) (.loop (rec_ (if jump.isNone then .ready else .done) jump))).heap[w.heap.size]? = some (.deferred (some [])) := fun jump W3 hk => by
      have hwb : Wb.heap.size = Wa.heap.size := by simp [Wb]
      have h3 : W3.heap[w.heap.size + 1]? = some (.loop busy) := (hk.2 _ (by omega) hnl2).trans hlb
      have hd3 : W3.heap[w.heap.size]? = some (.deferred (some [])) := (hk.2 _ (by omega) hnd2).trans hdb
      exact ⟨run_endRound (P := P) jump h3, below_putObj _ _ _ _ (by omega), World.putObj_heap_same (Array.getElem?_eq_some_iff.1 h3).1, (World.putObj_heap_other (by omega)).trans hd3⟩
    have bl' : ∀ (B' N' : Nat → Prop) (m : Nat), Grew B B' Wb.heap.size m → (∀ z, N' z → N z ∨ Y z) → ∀ b, B' b ∨ N' b → b < w.heap.size ∨ w.heap.size + 2 ≤ b := fun B' N' m hg hN b hb => by
      rcases hb with hb | hb
      · rcases (hg b hb).1 with h1 | h1
        · exact hBl b (Or.inl h1)
        · exact Or.inr (by omega)
      · rcases hN b hb with h1 | h1
        · exact hBl b (Or.inr h1)
        · obtain ⟨cs, T, fr, hc⟩ := hGY x Y W b hgood h1
          by_cases e1 : b = w.heap.size
          · subst e1; rw [hd] at hc; cases hc
          · by_cases e2 : b = w.heap.size + 1
            · subst e2; rw [hl] at hc; cases hc
            · omega
    have gw : ∀ (B' : Nat → Prop) (W3 : World) (o : Obj), Holds (fun z => B z ∨ E z) Wb W3 → Grew B B' Wb.heap.size W3.heap.size → Grew BL (fun z => B' z ∨ z = w.heap.size + 1) W.heap.size (W3.putObj (w.heap.size + 1) o).heap.size := fun B' W3 o hk hg b hb => by
      have hk1 := hk.1
      rcases hb with hb | rfl
      · obtain ⟨h1, h2⟩ := hg b hb
        exact ⟨h1.imp (fun h => (hBe b).2 (Or.inl h)) (fun h => by omega), by simpa using h2⟩
      · exact ⟨Or.inl ((hBe _).2 (Or.inr rfl)), by simp; omega⟩
    have hold : ∀ (W3 : World) (o : Obj), Holds B Wb W3 → Holds BL W (W3.putObj (w.heap.size + 1) o) := fun W3 o hk => by
      have hk1 := hk.1
      refine ⟨by simp; omega, fun b hb hc => ?_⟩
      have e : b ≠ w.heap.size + 1 := fun e => hc ((hBe b).2 (Or.inr e))
      rw [World.putObj_heap_other e, hk.2 b (by omega) (fun h => hc ((hBe b).2 (Or.inl h))), World.putObj_heap_other e, hba.block b hb]
    have holdE : ∀ (W3 : World) (o : Obj), Holds (fun z => B z ∨ E z) Wb W3 → Holds (fun z => BL z ∨ E z) W (W3.putObj (w.heap.size + 1) o) := fun W3 o hk => by
      have hk1 := hk.1
      refine ⟨by simp; omega, fun b hb hc => ?_⟩
      have e : b ≠ w.heap.size + 1 := fun e => hc (Or.inl ((hBe b).2 (Or.inr e)))
      rw [World.putObj_heap_other e, hk.2 b (by omega) (fun h => hc (h.imp (fun h => (hBe b).2 (Or.inl h)) id)), World.putObj_heap_other e, hba.block b hb]
    have wide : ∀ {A A' : World}, Holds B A A' → Holds (fun z => B z ∨ E z) A A' := fun h => ⟨h.1, fun b hb hc => h.2 b hb (fun h => hc (Or.inl h))⟩
    rintro e a3 W3 hp
    cases e with
    | normal =>
      obtain ⟨B', N', hgr, hN, hk, hi3⟩ := hp
      obtain ⟨hr, hb3, hl3, hd3⟩ := fin none W3 (wide hk)
      have hBl' := bl' B' N' _ hgr hN
      exact ⟨_, _, hr, fun z => B' z ∨ z = w.heap.size + 1, N', gw B' _ _ (wide hk) hgr, hN, .inl ⟨rfl, ⟨B', fun _ => Iff.rfl, hI _ _ _ _ _ hi3 ⟨hb3, fun b hb _ => World.putObj_heap_other (by have := hBl' b hb; omega)⟩, hl3, hd3, hBl'⟩, hold W3 _ hk⟩⟩
    | ret =>
      obtain ⟨B', N', hgr, hN, hk, hi3⟩ := hp
      obtain ⟨hr, hb3, hl3, hd3⟩ := fin (some .ret) W3 hk
      have hBl' := bl' B' N' _ hgr hN
      exact ⟨_, _, hr, fun z => B' z ∨ z = w.heap.size + 1, N', gw B' _ _ hk hgr, hN, .inr ⟨rfl, ⟨B', _, fun _ => Iff.rfl, hIx _ _ _ _ _ _ hi3 ⟨hb3, fun b hb _ => World.putObj_heap_other (by have := hBl' b hb; omega)⟩, hl3, hd3, hBl'⟩, holdE W3 _ hk⟩⟩
    | exit id =>
      obtain ⟨B', N', hgr, hN, hk, hi3⟩ := hp
      obtain ⟨hr, hb3, hl3, hd3⟩ := fin (some (.exit id)) W3 hk
      have hBl' := bl' B' N' _ hgr hN
      exact ⟨_, _, hr, fun z => B' z ∨ z = w.heap.size + 1, N', gw B' _ _ hk hgr, hN, .inr ⟨rfl, ⟨B', _, fun _ => Iff.rfl, hIx _ _ _ _ _ _ hi3 ⟨hb3, fun b hb _ => World.putObj_heap_other (by have := hBl' b hb; omega)⟩, hl3, hd3, hBl'⟩, holdE W3 _ hk⟩⟩
    | goto t =>
      obtain ⟨B', N', hgr, hN, hk, hi3⟩ := hp
      obtain ⟨hr, hb3, hl3, hd3⟩ := fin (some (.goto t)) W3 hk
      have hBl' := bl' B' N' _ hgr hN
      exact ⟨_, _, hr, fun z => B' z ∨ z = w.heap.size + 1, N', gw B' _ _ hk hgr, hN, .inr ⟨rfl, ⟨B', _, fun _ => Iff.rfl, hIx _ _ _ _ _ _ hi3 ⟨hb3, fun b hb _ => World.putObj_heap_other (by have := hBl' b hb; omega)⟩, hl3, hd3, hBl'⟩, holdE W3 _ hk⟩⟩
    | panic ch => exact hp.elim
    | outgrown => exact hp.elim
  · -- the iterator has returned
    rintro e W2 ⟨⟨v, rfl⟩, (⟨BL, N', B', hBe, hi, hl, hd, hBl⟩ | ⟨pre, BL, N', hpre, B', c, hBe, hi, hl, hd, hBl⟩)⟩
    · exact ⟨none, _, run_endLoop (P := P) hl (by simp [rec_]), hdone _ B' N' _ (Nat.le_refl _) (fun b hb e => by have := hBl b hb; omega) (hI _ _ _ _ _ hi ⟨below_putObj _ _ _ _ (by omega), fun b hb _ => World.putObj_heap_other (by have := hBl b hb; omega)⟩) ((World.putObj_heap_other (by omega)).trans hd)⟩
    · exact ⟨some c, _, run_endLoop (P := P) hl (by simp [rec_]), hstop _ c pre B' N' _ (Nat.le_refl _) (fun b hb e => by have := hBl b hb; omega) hpre (hIx _ _ _ _ _ _ hi ⟨below_putObj _ _ _ _ (by omega), fun b hb _ => World.putObj_heap_other (by have := hBl b hb; omega)⟩) ((World.putObj_heap_other (by omega)).trans hd)⟩
end Go.Proofs.YtfeijijeohfpgaaGreatDoor
namespace Go.Proofs.YtfeijijeohfpgaaGreatDoor
open Go Go.RowKit Go.Shelf
attribute [local go_sem] Oper.semAt_some
theorem infoLP : (Tryz.prog.info? 163).map (fun i => (i.zero, i.size, i.bytes)) = some (some (.slice none 0 0), 1, 24) := by kernel_rfl
theorem args_wt (t : Tm) {x : Tm} (hx : x ∈ t.args) : x.wt ≤ t.wt := by
  have h1 := t.wt_eq
  obtain ⟨i, hi, rfl⟩ := List.mem_iff_getElem.1 hx
  have := wtS_at t.args i hi
  omega
abbrev PA := (Tm × Nat) × (Nat × Nat)
abbrev encP (x : PA) : Array Value := #[.pointer (some ⟨x.2.1, x.2.2, none⟩), .int .i64 (x.1.2 : Nat)]
abbrev keyP (x : PA) : Tm × Nat := x.1
def GoodP (C : Nat → Prop) (x : PA) (Y : Nat → Prop) (W : World) : Prop := TermAt W C x.1.1 x.2.1 x.2.2 ∧ ∀ z, ¬ Y z
structure MidP (W wr : World) (C Ct : Nat → Prop) (J : List (Tm × Nat) → (Nat → Prop) → (Nat → Prop) → World → Prop) (B N Z : Nat → Prop) (pre : List (Tm × Nat)) (st : WaitM) (g cap : Nat) : Prop where
  own : wr.ownsRow (W.heap.size + 1) 163 1 (.slice (some ⟨g, 0, none⟩) st.length cap) st.length (st.map (·.2))
  j : J pre B N wr
  ls : ∀ e ∈ st, LP wr Ct Z e.1 e.2
  wts : ∀ e ∈ st, ∀ y ∈ e.1, y.wt ≤ 2097152
  stays : Stays C W wr
  size : W.heap.size ≤ wr.heap.size
  cnt : st.length ≤ pre.length + 1
  zg : ∀ z, Z z → z < wr.heap.size ∧ z ≠ g ∧ ¬ B z
  bl : ∀ b, B b → b < wr.heap.size ∧ b ≠ g ∧ ¬ C b
  nz : ∀ z, ¬ N z
set_option maxRecDepth 100000 in
set_option maxHeartbeats 4000000 in
theorem nodesP_it (l Bt Bp : Nat) (t : Tm) (b0 o0 : Nat) (C Ct E B0 : Nat → Prop) (W : World) (J Jx : List (Tm × Nat) → (Nat → Prop) → (Nat → Prop) → World → Prop)
    (hBt : W.heap[Bt]? = some (.cells #[.pointer (some ⟨b0, o0, none⟩)] 66 (0, 0))) (hBp : W.heap[Bp]? = some (.cells #[.func (.func 96) #[] #[]] 113 (0, 0))) (hT : TermAt W Ct t b0 o0) (hn : t.wt ≤ 2097152) (hCt : ∀ z, Ct z → C z)
    (hC : ∀ b, C b → b < W.heap.size) (hCB : ∀ b, C b → ¬ B0 b) (hB0 : ∀ b, B0 b → b < W.heap.size) (hCp : C Bp)
    (hJ : ∀ pre B N A A', J pre B N A → Keep W.heap.size (fun z => B z ∨ N z) A A' → J pre B N A')
    (hY : ∀ pre x Y B N W1, J pre B N W1 → pre ++ [keyP x] <+: walkM t 1 → GoodP Ct x Y W1 → (∀ z, Y z → ¬ B z) → YieldAt Fence.wide 0 Tryz.prog l (encP x) W1 fun e W' =>
      ∃ B' N', Grew B B' W1.heap.size W'.heap.size ∧ (∀ z, N' z → N z ∨ Y z) ∧ ((e = .returned (.bool true) ∧ J (pre ++ [keyP x]) B' N' W' ∧ Holds B W1 W') ∨ (e = .returned (.bool false) ∧ Jx (pre ++ [keyP x]) B' N' W' ∧ Holds (fun z => B z ∨ E z) W1 W')))
    (h0 : J [] B0 (fun _ => False) W) :
    CallsIn Fence.wide 1 Tryz.prog 150 #[.func (.yield l) #[] #[], .pointer (some ⟨Bt, 0, none⟩), .pointer (some ⟨Bp, 0, none⟩)] W fun e W' =>
      (∃ v, e = .returned v) ∧ ((∃ B' N', J (walkM t 1) B' N' W') ∨ ∃ pre B' N', pre <+: walkM t 1 ∧ Jx pre B' N' W') := by
  obtain ⟨i0, hi, hz0, hz1, hz2⟩ := info_parts infoLP
  have HT := Lib.hid hT
  have HY := Lib.hid hY
  have HJ := Lib.hid hJ
  have HJ0 := Lib.hid h0
  have HB0 := Lib.hid hB0
  have HC := Lib.hid hC
  have HCB := Lib.hid hCB
  have HCP := Lib.hid hCp
  have HBP := Lib.hid hBp
  have HN := Lib.hid hn
  have HCT := Lib.hid hCt
  have k0 := cell_of_blk hBt 0
  have kp := cell_of_blk hBp 0
  simp only [List.getElem?_toArray, List.getElem?_cons_zero, List.getElem?_cons_succ] at k0 kp
  have hlen1 : (walkM t 1).length ≤ 2097153 := by rw [walkM_length]; have := t.nodes_wt; omega
  have HLN := Lib.hid hlen1
  clear hT hY hJ h0 hB0 hC hCB hBt hBp hn hlen1 hCp hCt
  refine callsIn_of_wp Tryz.func150 rfl trivial ?_ rfl
  simp only [Tryz.ntmps150, List.size_toArray, List.length_cons, List.length_nil, Nat.reduceAdd, Nat.reduceSub, Array.replicate_succ, Array.replicate_zero, List.push_toArray, List.append_toArray, List.nil_append, List.cons_append]
  gi_wp2_with fail
  gi_loopg [4] (2 * (walkM t 1).length + 1) (fun k v wr => ∃ (pre : List (Tm × Nat)) (st : WaitM) (g cap : Nat) (B N Z : Nat → Prop), v = .slice (some ⟨g, 0, none⟩) st.length cap ∧ k = 2 * (stWalkM st).length + st.length ∧ pre ++ stWalkM st = walkM t 1 ∧ MidP W wr C Ct J B N Z pre st g cap)
  case atStart =>
    refine ⟨[], [([t], .slice (some ⟨W.heap.size, 0, none⟩) 1 1)], W.heap.size + 1, 1, B0, fun _ => False, fun z => z = W.heap.size, rfl, by simp [stWalkM, rWM, walkSM], by simp [stWalkM, rWM, walkSM], ?_⟩
    have hb : Below W.heap.size W ((W.alloc (.cells #[.pointer (some ⟨b0, o0, none⟩)] 66)).alloc (.cells #[.slice (some ⟨W.heap.size, 0, none⟩) 1 1] 163)) := ((Below.refl _ W).alloc (Nat.le_refl _) _).alloc (by simp) _
    have hroot : ((W.alloc (.cells #[.pointer (some ⟨b0, o0, none⟩)] 66)).alloc (.cells #[.slice (some ⟨W.heap.size, 0, none⟩) 1 1] 163)).heap[W.heap.size]? = some (.cells #[.pointer (some ⟨b0, o0, none⟩)] 66 (0, 0)) := by
      rw [Below.heap_alloc _ _ _ (by simp)]
      exact blk_new _ _
    refine ⟨?_, HJ.out _ _ _ _ _ HJ0.out (.of_below (Nat.le_refl _) hb), fun e he => ?_, fun e he y hy => ?_, .of_below hb, hb.size, by simp, fun z hz => ?_, fun b hb' => ?_, fun z hz => hz⟩
    · have h1 := World.ownsRow_lit (base := W.heap.size + 1) (e := 163) (size := 1) (W.alloc (.cells #[.pointer (some ⟨b0, o0, none⟩)] 66)) #[.slice (some ⟨W.heap.size, 0, none⟩) 1 1] 1 (by simp) (by unfold maxLen; omega) rfl
      rw [show (W.alloc (.cells #[.pointer (some ⟨b0, o0, none⟩)] 66)).heap.size = W.heap.size + 1 by simp] at h1
      exact h1
    · simp only [List.mem_singleton] at he
      subst he
      refine ⟨_, 1, rfl, by simp, by unfold maxLen; omega, fun j hj => ?_⟩
      have hj0 : j = 0 := by simp at hj; exact hj
      subst hj0
      exact ⟨W.heap.size, 0, b0, o0, rfl, rfl, (Array.getElem?_eq_some_iff.1 hroot).1, cell_of_blk hroot 0, HT.out.stays (.of_below hb)⟩
    · simp only [List.mem_singleton] at he
      subst he
      simp only [List.mem_singleton] at hy
      subst hy
      exact HN.out
    · subst hz
      exact ⟨(Array.getElem?_eq_some_iff.1 hroot).1, by omega, fun h => by have := HB0.out _ h; omega⟩
    · have := HB0.out b hb'
      exact ⟨Nat.lt_of_lt_of_le this hb.size, by omega, fun h => HCB.out b h hb'⟩
  case round =>
    rename World => wo
    obtain ⟨pre, st, g, cap, B, N, Z, rfl, rfl, hord, hM⟩ := hrel
    rcases snoc_cases st with rfl | ⟨st0, ⟨ls, sl⟩, rfl⟩
    · have HM := Lib.hid hM
      have HO := Lib.hid hord
      clear hM hord
      gi_wp2
      go_end0
      have hp : pre = walkM t 1 := by have := HO.out; simpa [stWalkM, rWM] using this
      exact ⟨⟨_, rfl⟩, .inl ⟨B, N, hp ▸ HM.out.j⟩⟩
    · have hlen : (st0 ++ [((ls, sl) : List Tm × Value)]).length = st0.length + 1 := by simp
      have hown := hM.own
      rw [hlen] at hown
      rw [hlen]
      obtain ⟨hcap1, hcap2, hg1, hg2⟩ := row_cap hown
      have k0 := (hown.cellAt st0.length (by omega)).trans (wsndM_last st0 _)
      have kz := hown.frozenAt st0.length
      simp only at k0
      unfold maxLen at hcap2
      have i0' : (0 : Int) ≤ (st0.length : Int) := Int.natCast_nonneg _
      have i1' : (st0.length : Int) < ((st0.length : Int) + 1) := by omega
      have hcnt : st0.length ≤ 2097154 := by
        have h1 := hM.cnt
        have h2 := congrArg List.length hord
        have h3 := HLN.out
        rw [List.length_append] at h2
        rw [hlen] at h1
        omega
      cases ls with
      | nil =>
        have HM := Lib.hid hM
        have HO := Lib.hid hord
        have HOWN := Lib.hid hown
        obtain ⟨a, c0, hsl⟩ : ∃ a c, sl = .slice a 0 c := (hM.ls ([], sl) (by simp)).form
        subst hsl
        clear hM hord hown
        gi_wp2_with fail
        go_roundg (2 * (stWalkM st0).length + st0.length)
        case rel =>
          have h1 := row_take HOWN.out (Nat.le_succ st0.length)
          rw [wsndM_take] at h1
          refine ⟨pre, st0, g, cap, B, N, Z, rfl, rfl, by have := HO.out; rwa [stWalkM_snoc] at this, h1, HM.out.j, fun e he => HM.out.ls e (List.mem_append_left _ he), fun e he => HM.out.wts e (List.mem_append_left _ he), HM.out.stays, HM.out.size, ?_, HM.out.zg, HM.out.bl, HM.out.nz⟩
          have := HM.out.cnt
          rw [List.length_append] at this
          omega
        case measure =>
          rw [stWalkM_snoc, List.length_append, List.length_append]
          simp only [walkSM, List.length_nil, List.length_singleton]
          omega
      | cons x ls =>
        obtain ⟨b, o, c0, b1, o1, rfl, hlc, hc63, hZb, hbw, f0, htm, htail⟩ := (hM.ls (x :: ls, sl) (by simp)).open
        have hbg : b ≠ g := (hM.zg b hZb).2.1
        obtain ⟨q, hq⟩ : ∃ q, (if c0 = 1 then some (⟨b, o, none⟩ : Addr) else some ⟨b, o + 1, none⟩) = q := ⟨_, rfl⟩
        have htl : LP wo Ct Z ls (.slice q ls.length (c0 - 1)) := htail q (fun hne => by
          have h1 : 1 ≤ ls.length := by cases ls with | nil => exact absurd rfl hne | cons => simp
          rw [← hq, if_neg (by omega)])
        obtain ⟨hst, hgr⟩ := hown.stored st0.length (.slice q ls.length (c0 - 1))
        rw [wsndM_set st0 _ ls] at hst
        have hb1 : Below (W.heap.size + 1) wo (wo.setCell ⟨g, st0.length, none⟩ (.slice q ls.length (c0 - 1))) := (Below.refl _ wo).setCell (p := ⟨g, st0.length, none⟩) hg1 _
        have hoth : ∀ z, z ≠ g → (wo.setCell ⟨g, st0.length, none⟩ (.slice q ls.length (c0 - 1))).heap[z]? = wo.heap[z]? := fun z hz => Below.heap_setCell _ _ _ _ hz
        have hsC : Stays C wo (wo.setCell ⟨g, st0.length, none⟩ (.slice q ls.length (c0 - 1))) := ⟨hb1.size, fun z hz _ => hoth z (by have := HC.out z hz; omega)⟩
        have hsZ : Stays Z wo (wo.setCell ⟨g, st0.length, none⟩ (.slice q ls.length (c0 - 1))) := ⟨hb1.size, fun z hz _ => hoth z (hM.zg z hz).2.1⟩
        have hpre : pre ++ [(x, st0.length + 1)] <+: walkM t 1 := ⟨walkSM x.args (st0.length + 1 + 1) ++ (walkSM ls (st0.length + 1) ++ stWalkM st0), by rw [← hord, stWalkM_snoc]; simp only [walkSM, walkM_eq, List.cons_append, List.append_assoc, List.nil_append]⟩
        obtain ⟨fn, tmps, assign, body, hy, hR⟩ := HY.out pre ((x, st0.length + 1), (b1, o1)) (fun _ => False) B N _ (HJ.out _ _ _ _ _ hM.j ⟨hb1.mono (by omega), fun z hz _ => hoth z (by
          rcases hz with hz | hz
          · exact (hM.bl z hz).2.1
          · exact absurd hz (hM.nz z))⟩) hpre ⟨htm.stays (hsC.mono HCT.out), fun z hz => hz⟩ (fun z hz => hz.elim)
        simp only [encP] at hy
        rw [show ((st0.length + 1 : Nat) : Int) = (st0.length : Int) + 1 from rfl] at hy
        have HM := Lib.hid hM
        have HO := Lib.hid hord
        have HST := Lib.hid hst
        have HB1 := Lib.hid hb1
        have HSC := Lib.hid hsC
        have HSZ := Lib.hid hsZ
        have HPRE := Lib.hid hpre
        have HR := Lib.hid hR
        have HTL := Lib.hid htl
        have HTM := Lib.hid htm
        have HF := Lib.hid f0
        have HZB := Lib.hid hZb
        have HQ := Lib.hid hlc
        have HOT := Lib.hid hoth
        have hl1 : (1 : Int) ≤ ((ls.length : Int) + 1) := by omega
        unfold maxLen at hc63
        clear hM hord hown hst hgr hb1 hsC hsZ hpre hR htl htail htm hZb hoth
        gi_wp2_with fail
        refine HR.out.mono ?_
        rintro e W3 ⟨B', N', hgrew, hN', ⟨rfl, hJ3, hH3⟩ | ⟨rfl, hJx3, -⟩⟩
        · have hs1 : (wo.setCell ⟨g, st0.length, none⟩ (.slice q ls.length (c0 - 1))).heap.size = wo.heap.size := by simp [World.setCell]
          rw [hs1] at hgrew
          have hs3 : wo.heap.size ≤ W3.heap.size := hs1 ▸ hH3.1
          have hgB : ¬ B g := fun h => (HM.out.bl g h).2.1 rfl
          have hkz : ∀ z, ¬ B z → z ≠ g → z < wo.heap.size → W3.heap[z]? = wo.heap[z]? := fun z h1 h2 h3 => (hH3.2 z (by rw [hs1]; exact h3) h1).trans (HOT.out z h2)
          have hC3 : Stays C wo W3 := ⟨hs3, fun z hz hl => hkz z (fun h => (HM.out.bl z h).2.2 hz) (by have := HC.out z hz; omega) hl⟩
          have hZ3 : Stays Z wo W3 := ⟨hs3, fun z hz hl => hkz z (HM.out.zg z hz).2.2 (HM.out.zg z hz).2.1 hl⟩
          have hCW : Stays C W W3 := HM.out.stays.trans hC3
          have hb3 : W3.heap[b]? = wo.heap[b]? := hkz b (HM.out.zg b HZB.out).2.2 hbg hbw
          have hown3 := row_of_block HST.out (hH3.2 g (by rw [hs1]; exact hg2) hgB)
          have hlen3 : (st0 ++ [(ls, Value.slice q ls.length (c0 - 1))]).length = st0.length + 1 := by simp
          have hM3 : MidP W W3 C Ct J B' N' Z (pre ++ [(x, st0.length + 1)]) (st0 ++ [(ls, .slice q ls.length (c0 - 1))]) g cap := by
            refine ⟨?_, hJ3, fun e he => ?_, fun e he y hy => ?_, hCW, Nat.le_trans HM.out.size hs3, ?_, fun z hz => ?_, fun z hz => ?_, fun z hz => ?_⟩
            · rw [hlen3]; exact hown3
            · rcases List.mem_append.1 he with he | he
              · exact (HM.out.ls e (List.mem_append_left _ he)).stays (hC3.mono HCT.out) hZ3
              · simp only [List.mem_singleton] at he
                subst he
                exact HTL.out.stays (hC3.mono HCT.out) hZ3
            · rcases List.mem_append.1 he with he | he
              · exact HM.out.wts e (List.mem_append_left _ he) y hy
              · simp only [List.mem_singleton] at he
                subst he
                exact HM.out.wts (x :: ls, _) (List.mem_append_right _ (List.mem_singleton.2 rfl)) y (List.mem_cons_of_mem _ hy)
            · have := HM.out.cnt
              rw [hlen] at this
              rw [hlen3, List.length_append, List.length_singleton]
              omega
            · obtain ⟨h1, h2, h3⟩ := HM.out.zg z hz
              exact ⟨Nat.lt_of_lt_of_le h1 hs3, h2, fun h => ((hgrew z h).1).elim h3 (fun h => by omega)⟩
            · obtain ⟨h1, h2⟩ := hgrew z hz
              rcases h1 with h1 | h1
              · exact ⟨h2, (HM.out.bl z h1).2⟩
              · exact ⟨h2, by omega, fun h => by have := HC.out z h; have := HM.out.size; omega⟩
            · exact (hN' z hz).elim (HM.out.nz z) (fun h => h)
          have f0 := HF.out
          have g0 := (World.cell?_of_block (a := ⟨b, o, none⟩) hb3).trans f0
          have kp3 := cell_of_blk ((hCW.2 Bp HCP.out (HC.out Bp HCP.out)).trans HBP.out) 0
          simp only [List.getElem?_toArray, List.getElem?_cons_zero] at kp3
          have HT3 := Lib.hid (HTM.out.stays (hC3.mono HCT.out))
          have HXW := Lib.hid (HM.out.wts (x :: ls, _) (List.mem_append_right _ (List.mem_singleton.2 rfl)) x (by simp))
          have HM3 := Lib.hid hM3
          have HOWN3 := Lib.hid hown3
          have hsz3 : W.heap.size + 1 ≤ W3.heap.size := by omega
          have HCN := Lib.hid HM.out.cnt
          clear hJ3 hH3 hown3 hM3 hy HR k0 kz hb3 hkz hC3 hZ3 hCW f0 HB1 HST HSC HSZ hgrew hN' hs1
          gi_wp2_with fail
          refine wpIn_wide.2 ?_
          go_region_law (first
            | (refine step_app1 (w0 := w1) (base := W.heap.size + 1) (v := .slice (some ⟨g, 0, none⟩) (st0.length + 1) cap) (n := st0.length + 1) (xs := (st0 ++ [(ls, Value.slice q ls.length (c0 - 1))]).map (·.2)) (cs := [.slice vq x.args.length vc]) rfl (.tmp 40) (.tmp 46) rfl Tryz.underlying164 hi hz0 hz1 hz2 rfl (by decide) rfl (row_below HOWN3.out ((Below.refl W3.heap.size W3).drew.trans hb1)) _ rfl (by simp) rfl (fun u hu => by simp at hu; subst hu; rfl) (by unfold maxLen; omega) (by omega) (by have := hb1.size; simp at this; omega) ?_; intro w' g2 cap2 hA)
            | (go_simp; go_at_call 96; refine (partsP_any (C := Ct) (HT3.out.stays (.of_below ((Below.refl W3.heap.size W3).drew))) HXW.out).mono ?_; rintro e w1 ⟨v, rfl, hlq, hb1⟩; obtain ⟨vq, vc, rfl⟩ := hlq.form))
          all_goals
            have HA := Lib.hid hA
            have HB := Lib.hid hb1
            have HL := Lib.hid hlq
            clear hA hb1 hlq
            gi_wp2_with fail
            go_roundg (2 * (stWalkM ((st0 ++ [(ls, Value.slice q ls.length (c0 - 1))]) ++ [(x.args, .slice vq x.args.length vc)])).length + (st0.length + 2))
            case rel =>
              have hb3 : Below W3.heap.size W3 w1 := (Below.refl W3.heap.size W3).drew.trans HB.out
              have hlen3 : (st0 ++ [(ls, Value.slice q ls.length (c0 - 1))]).length = st0.length + 1 := by simp
              have hg3 := (row_cap HOWN3.out).2.2
              have hs3 := hb3.size
              have hs4 := HA.out.size
              have hbw : Below (W.heap.size + 1) W3 w' := (hb3.mono (by omega)).trans HA.out.below
              have hown1 : ∀ z, z ≠ g → (Value.slice (some ⟨g, 0, none⟩) (st0.length + 1) cap).ownBlock ≠ some z := fun z hz e => hz (by simp only [Value.ownBlock, Option.some.injEq] at e; exact e.symm)
              have hk1 : ∀ z, z ≠ g → z < w1.heap.size → w'.heap[z]? = w1.heap[z]? ∧ g2 ≠ z := fun z hz hl => HA.out.kept z hl (hown1 z hz)
              have hk : ∀ z, z ≠ g → z < W3.heap.size → w'.heap[z]? = W3.heap[z]? := fun z hz hl => (hk1 z hz (Nat.lt_of_lt_of_le hl hs3)).1.trans (hb3.block z hl)
              have hCg : ∀ z, C z → z ≠ g := fun z hz => by have := HC.out z hz; omega
              have hCw : Stays C W3 w' := ⟨Nat.le_trans hs3 hs4, fun z hz hl => hk z (hCg z hz) hl⟩
              have hZw : Stays Z W3 w' := ⟨Nat.le_trans hs3 hs4, fun z hz hl => hk z (HM3.out.zg z hz).2.1 hl⟩
              have hC1 : Stays C w1 w' := ⟨hs4, fun z hz hl => (hk1 z (hCg z hz) hl).1⟩
              refine ⟨pre ++ [(x, st0.length + 1)], (st0 ++ [(ls, .slice q ls.length (c0 - 1))]) ++ [(x.args, .slice vq x.args.length vc)], g2, cap2, B', N', fun z => Z z ∨ (W3.heap.size ≤ z ∧ z < w1.heap.size), by rw [List.length_append, hlen3]; rfl, by rw [List.length_append, hlen3]; rfl, ?_, ?_⟩
              · rw [stWalkM_snoc, hlen3, stWalkM_snoc, ← HO.out, stWalkM_snoc]
                simp only [walkSM, walkM_eq, List.cons_append, List.append_assoc, List.nil_append]
              · refine ⟨?_, HJ.out _ _ _ _ _ HM3.out.j ⟨hbw.mono (by omega), fun z hz hl => hk z ?_ hl⟩, fun e he => ?_, fun e he y hy => ?_, HM3.out.stays.trans hCw, by have := HM3.out.size; omega, ?_, fun z hz => ?_, fun z hz => ?_, HM3.out.nz⟩
                · rw [List.map_append, List.length_append, hlen3]
                  exact HA.out.own
                · rcases hz with hz | hz
                  · exact (HM3.out.bl z hz).2.1
                  · exact absurd hz (HM3.out.nz z)
                · rcases List.mem_append.1 he with he | he
                  · exact ((HM3.out.ls e he).stays (hCw.mono HCT.out) hZw).mono (fun z hz _ => Or.inl hz)
                  · simp only [List.mem_singleton] at he
                    subst he
                    exact (HL.out.stays (hC1.mono HCT.out) ⟨hs4, fun z hz hl => (hk1 z (by have := hz.1; simp at this; omega) hl).1⟩).mono (fun z hz _ => Or.inr (by simpa using hz))
                · rcases List.mem_append.1 he with he | he
                  · exact HM3.out.wts e he y hy
                  · simp only [List.mem_singleton] at he
                    subst he
                    exact Nat.le_trans (args_wt x hy) HXW.out
                · have := HCN.out
                  rw [hlen] at this
                  simp only [List.length_append, List.length_cons, List.length_nil]
                  omega
                · rcases hz with hz | hz
                  · obtain ⟨h1, h2, h3⟩ := HM3.out.zg z hz
                    exact ⟨by omega, fun e => (hk1 z h2 (by omega)).2 e.symm, h3⟩
                  · exact ⟨by omega, fun e => (hk1 z (by omega) hz.2).2 e.symm, fun h => by have := (HM3.out.bl z h).1; omega⟩
                · obtain ⟨h1, h2, h3⟩ := HM3.out.bl z hz
                  exact ⟨by omega, fun e => (hk1 z h2 (by omega)).2 e.symm, h3⟩
            case measure =>
              have h1 := HO.out
              simp only [stWalkM_snoc, walkSM, walkM_eq, List.length_append, List.length_cons, List.length_nil, Nat.zero_add]
              omega
        · gi_wp2_with fail
          refine bodyPost_ret (results_none rfl _ _ _) rfl ?_
          exact ⟨⟨_, rfl⟩, .inr ⟨pre ++ [(x, st0.length + 1)], B', N', HPRE.out, hJx3⟩⟩
abbrev iterP (Bt Bp : Nat) : Value := .func (.func 150) #[] #[.pointer (some ⟨Bt, 0, none⟩), .pointer (some ⟨Bp, 0, none⟩)]
structure IterP (w : World) (b0 o0 : Nat) (Bt Bp : Nat) : Prop where
  bt : w.heap[Bt]? = some (.cells #[.pointer (some ⟨b0, o0, none⟩)] 66 (0, 0))
  bp : w.heap[Bp]? = some (.cells #[.func (.func 96) #[] #[]] 113 (0, 0))
theorem nodesP_seq {w wl : World} {C Ct : Nat → Prop} {t : Tm} {b0 o0 Bt Bp : Nat} (E : Nat → Prop) (h : IterP w b0 o0 Bt Bp) (hT : TermAt w Ct t b0 o0) (hn : t.wt ≤ 2097152) (hb : Below w.heap.size w wl) (hC : ∀ b, C b → b < w.heap.size) (hp : C Bp) (hCt : ∀ z, Ct z → C z) :
    SeqE Fence.wide 1 Tryz.prog 150 #[.pointer (some ⟨Bt, 0, none⟩), .pointer (some ⟨Bp, 0, none⟩)] encP keyP (GoodP Ct) C E (walkM t 1) wl := by
  intro l J Jx B0 W hbW hCB hB0 hJ _ hY h0
  have hbt := (Array.getElem?_eq_some_iff.1 h.bt).1
  have hbp := (Array.getElem?_eq_some_iff.1 h.bp).1
  have hbb : Below w.heap.size w W := hb.trans (hbW.mono hb.size)
  exact nodesP_it l Bt Bp t b0 o0 C Ct E B0 W J Jx ((hbb.block _ hbt).trans h.bt) ((hbb.block _ hbp).trans h.bp) (hT.stays (.of_below hbb)) hn hCt (fun b hc => Nat.lt_of_lt_of_le (hC b hc) hbb.size) hCB hB0 hp hJ hY h0
theorem goodP_loop {C : Nat → Prop} {x : PA} {Y : Nat → Prop} {A A' : World} {l : Nat} (h : GoodP C x Y A) (hA : Holds (fun b => b = l) A A') (hC : ¬ C l) : GoodP C x Y A' :=
  ⟨h.1.stays ⟨hA.1, fun b hb hlt => hA.2 b hlt (fun e => hC (e ▸ hb))⟩, h.2⟩
attribute [local go_sem] Oper.semAt_some
theorem YieldAt.any' {a b l : Nat} {P : Program} {args : Array Value} {W : World} {R : Ending → World → Prop} (h : YieldAt Fence.wide a P l args W R) (l' : Nat) : YieldAt (Fence.wide.inRound l') b P l args W R := by
  obtain ⟨fn, tmps, assign, body, h1, h2⟩ := h
  exact ⟨fn, tmps, assign, body, h1, h2.1, fun c cs _ => h2.2 c cs (room_wide _)⟩
set_option maxRecDepth 100000 in
set_option maxHeartbeats 1000000 in
theorem nextI_any (t : Tm) (tp : Option Addr) (tc : Nat) (rp : Option Addr) (rc : Nat) (p : Option Addr) (c : Nat) (n : Int) (w : World) :
    Calls Tryz.prog 97 #[tmV t tp tc rp rc p c, .int .i64 n] w fun e w' => e = .returned (.int .i64 (nextL t.kind n)) ∧ Below w.heap.size w w' := by
  have hn1 : t.kind = 10 → nextL t.kind n = wrap64 (n + 1) := fun h => by unfold nextL; rw [if_pos h]
  have hn2 : t.kind = 11 → nextL t.kind n = wrap64 (n - 1) := fun h => by unfold nextL; rw [if_neg (by omega), if_pos h]
  have hn3 : ¬ t.kind = 10 → ¬ t.kind = 11 → nextL t.kind n = n := fun h h2 => by unfold nextL; rw [if_neg h, if_neg h2]
  have HB0 := Lib.hid (al_below w (.cells (tmC t tp tc rp rc p c) 29))
  generalize nextL t.kind n = r at hn1 hn2 hn3 ⊢
  obtain ⟨g0, _, _, _, _, _, _, _, _⟩ := Bx9.new w t tp tc rp rc p c 29
  by_cases h1 : t.kind = 10
  · obtain rfl := hn1 h1
    have t1 : (t.kind == 10) = true := by simp [h1]
    clear hn1 hn2 hn3 h1
    go_enter Tryz.func97, Tryz.ntmps97
    go_wp2_with fail
    go_ret
    exact ⟨rfl, HB0.out⟩
  · by_cases h2 : t.kind = 11
    · obtain rfl := hn2 h2
      have t1 : (t.kind == 10) = false := by simp [h1]
      have t2 : (t.kind == 11) = true := by simp [h2]
      clear hn1 hn2 hn3 h1 h2
      go_enter Tryz.func97, Tryz.ntmps97
      go_wp2_with fail
      go_ret
      exact ⟨rfl, HB0.out⟩
    · obtain rfl := hn3 h1 h2
      have t1 : (t.kind == 10) = false := by simp [h1]
      have t2 : (t.kind == 11) = false := by simp [h2]
      clear hn1 hn2 hn3 h1 h2
      go_enter Tryz.func97, Tryz.ntmps97
      go_wp2_with fail
      go_ret
      exact ⟨rfl, HB0.out⟩
theorem infoI64 : (Tryz.prog.info? 3).map (fun i => (i.zero, i.size, i.bytes)) = some (some (.int .i64 0), 1, 8) := by kernel_rfl
abbrev lvV (st : List Int) : List Value := st.map fun z => .int .i64 z
abbrev encL (x : (Tm × Int) × (Nat × Nat)) : Array Value := #[.pointer (some ⟨x.2.1, x.2.2, none⟩), .int .i64 x.1.2]
abbrev keyL (x : (Tm × Int) × (Nat × Nat)) : Tm × Int := x.1
def GoodL (C : Nat → Prop) (x : (Tm × Int) × (Nat × Nat)) (Y : Nat → Prop) (W : World) : Prop := TermAt W C x.1.1 x.2.1 x.2.2 ∧ ∀ z, ¬ Y z
structure LvI (m : Nat) (Cx : Nat → Prop) (W : World) (l bc : Nat) (n : Int) (J : List (Tm × Int) → (Nat → Prop) → (Nat → Prop) → World → Prop) (pre : List (Tm × Nat)) (Bi Ni : Nat → Prop) (Wx : World) (Bo No : Nat → Prop) (g cap : Nat) : Prop where
  split : ∀ z, Bi z ↔ (z = bc ∨ z = g) ∨ Bo z
  apart : ¬ Bo bc ∧ ¬ Bo g ∧ g ≠ bc ∧ W.heap.size < bc ∧ W.heap.size < g
  lt : ∀ z, Bi z → z < Wx.heap.size ∧ z ≠ W.heap.size
  ni : ∀ z, ¬ Ni z
  no : ∀ z, ¬ No z
  cell : Wx.heap[bc]? = some (.cells #[.slice (some ⟨g, 0, none⟩) (stkL [n] pre).length cap] 103 (0, 0))
  own : Wx.ownsRow (W.heap.size + 1) 3 1 (.slice (some ⟨g, 0, none⟩) (stkL [n] pre).length cap) (stkL [n] pre).length (lvV (stkL [n] pre))
  j : J (lvs pre [n]) Bo No Wx
  yb : Wx.heap[W.heap.size]? = some (.cells #[.func (.yield l) #[] #[]] 67 (0, 0))
  size : m ≤ Wx.heap.size
  cb : ¬ Cx bc ∧ ¬ Cx g
  bo : ∀ z, Bo z → ¬ Cx z
theorem LvI.keep {m : Nat} {Cx : Nat → Prop} {W A A' : World} {l bc : Nat} {n : Int} {J : List (Tm × Int) → (Nat → Prop) → (Nat → Prop) → World → Prop} {pre : List (Tm × Nat)} {Bi Ni Bo No : Nat → Prop} {g cap : Nat} (h : LvI m Cx W l bc n J pre Bi Ni A Bo No g cap) (hm : W.heap.size < m)
    (hJ : ∀ pre B N A A', J pre B N A → Keep W.heap.size (fun z => B z ∨ N z) A A' → J pre B N A') (hk : Keep m (fun z => Bi z ∨ Ni z) A A') : LvI m Cx W l bc n J pre Bi Ni A' Bo No g cap := by
  have hs := hk.1.size
  have hbc : Bi bc := (h.split bc).2 (Or.inl (Or.inl rfl))
  have hg : Bi g := (h.split g).2 (Or.inl (Or.inr rfl))
  refine ⟨h.split, h.apart, fun z hz => ⟨Nat.lt_of_lt_of_le (h.lt z hz).1 hs, (h.lt z hz).2⟩, h.ni, h.no, (hk.2 bc (Or.inl hbc) (h.lt bc hbc).1).trans h.cell, row_of_block h.own (hk.2 g (Or.inl hg) (h.lt g hg).1), hJ _ _ _ _ _ h.j (hk.mono (Nat.le_of_lt hm) (fun b hb => hb.elim (fun h2 => Or.inl ((h.split b).2 (Or.inr h2))) (fun h2 => absurd h2 (h.no b)))), (hk.1.block _ hm).trans h.yb, Nat.le_trans h.size hs, h.cb, h.bo⟩
theorem LvI.stop {m : Nat} {Cx : Nat → Prop} {W Wx W3 : World} {l bc : Nat} {n : Int} {J Jx : List (Tm × Int) → (Nat → Prop) → (Nat → Prop) → World → Prop} {pre : List (Tm × Nat)} {B N Y E Bo No Bo' No' : Nat → Prop} {g cap : Nat} {all q : List (Tm × Int)} (h : LvI m Cx W l bc n J pre B N Wx Bo No g cap)
    (hgr : Grew Bo Bo' Wx.heap.size W3.heap.size) (hh : Holds (fun z => Bo z ∨ E z) Wx W3) (hno : ∀ z, No' z → No z ∨ False) (hq : q <+: all) (hj : Jx q Bo' No' W3) :
    ∃ B' N' : Nat → Prop, Grew B B' Wx.heap.size W3.heap.size ∧ (∀ z, N' z → N z ∨ Y z) ∧ Holds (fun z => B z ∨ E z) Wx W3 ∧ (Code.ret = Code.ret ∧ ∃ (Bo No : Nat → Prop) (q : List (Tm × Int)), q <+: all ∧ (∀ z, Bo z → B' z) ∧ (∀ z, ¬ No z) ∧ Jx q Bo No W3) := by
  have hbc := h.lt bc ((h.split bc).2 (Or.inl (Or.inl rfl)))
  have hg := h.lt g ((h.split g).2 (Or.inl (Or.inr rfl)))
  have hs := hh.1
  refine ⟨fun z => (z = bc ∨ z = g) ∨ Bo' z, fun _ => False, fun z hz => ?_, fun z hz => hz.elim, ⟨hs, fun z hl hb => hh.2 z hl (fun e => hb (e.imp (fun e => (h.split z).2 (Or.inr e)) id))⟩, rfl, Bo', No', q, hq, fun z hz => Or.inr hz, fun z hz => (hno z hz).elim (h.no z) id, hj⟩
  rcases hz with hz | hz
  · exact ⟨Or.inl ((h.split z).2 (Or.inl hz)), by rcases hz with rfl | rfl <;> omega⟩
  · obtain ⟨h1, h2⟩ := hgr z hz
    exact ⟨h1.imp (fun e => (h.split z).2 (Or.inr e)) id, h2⟩
theorem LvI.step {m : Nat} {Cx : Nat → Prop} {W Wx W3 w1 w' : World} {l bc : Nat} {n : Int} {J : List (Tm × Int) → (Nat → Prop) → (Nat → Prop) → World → Prop} {pre : List (Tm × Nat)} {B N Y Bo No Bo' No' : Nat → Prop} {g cap g2 cap2 : Nat} {x : Tm} {d0 : Nat} {st : List Int} {lv : Int} (h : LvI m Cx W l bc n J pre B N Wx Bo No g cap)
    (hm : W.heap.size < m) (hCx : ∀ z, Cx z → z < m) (hst : st = stkL [n] pre) (hd : d0 + 1 ≤ st.length) (hlv : lv = st.getD d0 0)
    (hJ : ∀ pre B N A A', J pre B N A → Keep W.heap.size (fun z => B z ∨ N z) A A' → J pre B N A')
    (hgr : Grew Bo Bo' Wx.heap.size W3.heap.size) (hh : Holds Bo Wx W3) (hno : ∀ z, No' z → No z ∨ False) (hj : J (lvs pre [n] ++ [(x, lv)]) Bo' No' W3) (hb1 : Below W3.heap.size W3 w1)
    (hA : Appd w1 w' (W.heap.size + 1) 3 1 (.slice (some ⟨g, 0, none⟩) (d0 + 1) cap) (d0 + 1) ((lvV st).take ((d0 + 1) * 1)) [.int .i64 (nextL x.kind lv)] g2 cap2) :
    ∃ B' N' : Nat → Prop, Grew B B' Wx.heap.size (w'.setCell ⟨bc, 0, none⟩ (.slice (some ⟨g2, 0, none⟩) (d0 + 2) cap2)).heap.size ∧ (∀ z, N' z → N z ∨ Y z) ∧ Holds B Wx (w'.setCell ⟨bc, 0, none⟩ (.slice (some ⟨g2, 0, none⟩) (d0 + 2) cap2)) ∧
      ∃ (Bo No : Nat → Prop) (g cap : Nat), LvI m Cx W l bc n J (pre ++ [(x, d0 + 1)]) B' N' (w'.setCell ⟨bc, 0, none⟩ (.slice (some ⟨g2, 0, none⟩) (d0 + 2) cap2)) Bo No g cap := by
  have hbc := h.lt bc ((h.split bc).2 (Or.inl (Or.inl rfl)))
  have hg := h.lt g ((h.split g).2 (Or.inl (Or.inr rfl)))
  obtain ⟨ap1, ap2, ap3, ap4, ap5⟩ := h.apart
  have s1 := hh.1
  have s2 := hb1.size
  have s3 := hA.size
  have s0 := h.size
  have hcap := row_cap hA.own
  have e4 : (w'.setCell ⟨bc, 0, none⟩ (.slice (some ⟨g2, 0, none⟩) (d0 + 2) cap2)).heap.size = w'.heap.size := by simp [World.setCell]
  have hov : ∀ z, z ≠ g → (Value.slice (some ⟨g, 0, none⟩) (d0 + 1) cap).ownBlock ≠ some z := fun z hz e => hz (by simp only [Value.ownBlock, Option.some.injEq] at e; exact e.symm)
  have hk1 : ∀ z, z ≠ g → z < w1.heap.size → w'.heap[z]? = w1.heap[z]? ∧ g2 ≠ z := fun z hz hl => hA.kept z hl (hov z hz)
  have hg2 : g2 = g ∨ w1.heap.size ≤ g2 := by
    rcases Nat.lt_or_ge g2 w1.heap.size with hl | hl
    · by_cases e : g2 = g
      · exact Or.inl e
      · exact absurd rfl (hk1 g2 e hl).2
    · exact Or.inr hl
  have ho : ∀ z, z ≠ bc → (w'.setCell ⟨bc, 0, none⟩ (.slice (some ⟨g2, 0, none⟩) (d0 + 2) cap2)).heap[z]? = w'.heap[z]? := fun z hz => Below.heap_setCell _ _ _ _ hz
  have h3 : ∀ z, z ≠ g → z ≠ bc → z < W3.heap.size → (w'.setCell ⟨bc, 0, none⟩ (.slice (some ⟨g2, 0, none⟩) (d0 + 2) cap2)).heap[z]? = W3.heap[z]? := fun z h1 h2 hl => (ho z h2).trans ((hk1 z h1 (by omega)).1.trans (hb1.block z hl))
  have hold : Holds B Wx (w'.setCell ⟨bc, 0, none⟩ (.slice (some ⟨g2, 0, none⟩) (d0 + 2) cap2)) := ⟨by omega, fun z hl hb => (h3 z (fun e => hb ((h.split z).2 (Or.inl (Or.inr e)))) (fun e => hb ((h.split z).2 (Or.inl (Or.inl e)))) (by omega)).trans (hh.2 z hl (fun e => hb ((h.split z).2 (Or.inr e))))⟩
  have hbo : ∀ z, Bo' z → z ≠ bc ∧ z ≠ g ∧ z ≠ g2 := fun z hz => by
    obtain ⟨h1, h2⟩ := hgr z hz
    have e1 : z ≠ bc := by rintro rfl; exact h1.elim ap1 (fun h => by omega)
    have e2 : z ≠ g := by rintro rfl; exact h1.elim ap2 (fun h => by omega)
    refine ⟨e1, e2, ?_⟩
    rintro rfl
    exact hg2.elim e2 (fun h => by omega)
  have hg2bc : g2 ≠ bc := (hk1 bc (fun e => ap3 e.symm) (by omega)).2
  have hgrew : Grew B (fun z => (z = bc ∨ z = g2) ∨ Bo' z) Wx.heap.size (w'.setCell ⟨bc, 0, none⟩ (.slice (some ⟨g2, 0, none⟩) (d0 + 2) cap2)).heap.size := by
    rintro z ((rfl | rfl) | hz)
    · exact ⟨Or.inl ((h.split _).2 (Or.inl (Or.inl rfl))), by omega⟩
    · refine ⟨?_, by omega⟩
      rcases hg2 with e | e
      · exact Or.inl ((h.split _).2 (Or.inl (Or.inr e)))
      · exact Or.inr (by omega)
    · obtain ⟨h1, h2⟩ := hgr z hz
      exact ⟨h1.imp (fun e => (h.split z).2 (Or.inr e)) id, by omega⟩
  have hlen : (stkL [n] (pre ++ [(x, d0 + 1)])).length = d0 + 2 := by
    rw [stkL_snoc, ← hst, pushL_len hd]
  have hpush : lvV (stkL [n] (pre ++ [(x, d0 + 1)])) = (lvV st).take ((d0 + 1) * 1) ++ [.int .i64 (nextL x.kind lv)] := by
    rw [stkL_snoc, ← hst, hlv]
    simp [pushL, lvV]
  refine ⟨_, fun _ => False, hgrew, fun z hz => hz.elim, hold, Bo', No', g2, cap2, fun _ => Iff.rfl, ⟨fun e => (hbo _ e).1 rfl, fun e => (hbo _ e).2.2 rfl, hg2bc, ap4, by omega⟩, fun z hz => ⟨(hgrew z hz).2, ?_⟩, fun z hz => hz, fun z hz => (hno z hz).elim (h.no z) id, ?_, ?_, ?_, ?_, by omega, ⟨h.cb.1, fun e => ?_⟩, fun z hz hc => ?_⟩
  · rintro rfl
    rcases hz with (e | e) | e
    · omega
    · omega
    · rcases (hgr _ e).1 with h1 | h1
      · exact (h.lt _ ((h.split _).2 (Or.inr h1))).2 rfl
      · omega
  · rw [hlen, Go.Joins.block_setCell ((hk1 bc (fun e => ap3 e.symm) (by omega)).1.trans ((hb1.block _ (by omega)).trans ((hh.2 bc hbc.1 ap1).trans h.cell))) _]
    rfl
  · rw [hlen, hpush]
    exact row_of_block hA.own (ho g2 hg2bc)
  · rw [lvs_snoc, Nat.add_sub_cancel, ← hst, ← hlv]
    refine hJ _ _ _ _ _ hj ⟨((hb1.mono (by omega)).trans (hA.below.mono (by omega))).setCell (p := ⟨bc, 0, none⟩) (Nat.le_of_lt ap4) _, fun z hz hl => ?_⟩
    rcases hz with hz | hz
    · exact h3 z (hbo z hz).2.1 (hbo z hz).1 hl
    · exact absurd hz (fun e => (hno z e).elim (h.no z) id)
  · exact (hold.2 W.heap.size (by omega) (fun e => (h.lt _ e).2 rfl)).trans h.yb
  · rcases hg2 with e2 | e2
    · rw [e2] at e; exact h.cb.2 e
    · have := hCx _ e; omega
  · rcases (hgr z hz).1 with h1 | h1
    · exact h.bo z h1 hc
    · have := hCx _ hc; omega
theorem LvI.notC {m : Nat} {Cx : Nat → Prop} {W Wx : World} {l bc : Nat} {n : Int} {J : List (Tm × Int) → (Nat → Prop) → (Nat → Prop) → World → Prop} {pre : List (Tm × Nat)} {B N Bo No : Nat → Prop} {g cap : Nat} (h : LvI m Cx W l bc n J pre B N Wx Bo No g cap) (b : Nat) (hb : B b) : ¬ Cx b := by
  rcases (h.split b).1 hb with (rfl | rfl) | h1
  · exact h.cb.1
  · exact h.cb.2
  · exact h.bo b h1
end Go.Proofs.YtfeijijeohfpgaaGreatDoor
namespace Go.Proofs.YtfeijijeohfpgaaGreatDoor
open Go Go.RowKit
def noDefer (ops : Array Oper) : Bool := ops.all fun o => match o.op with | .defer _ => false | _ => true
theorem noDefer_at {ops : Array Oper} (h : noDefer ops = true) {i : Nat} {o : Oper} (ho : ops[i]? = some o) : ∀ c, o.op ≠ .defer c := by
  intro c hc
  obtain ⟨hi, rfl⟩ := Array.getElem?_eq_some_iff.1 ho
  unfold noDefer at h
  have := Array.all_eq_true.1 h i hi
  rw [hc] at this
  cases this
theorem RoundIn.any {a b l l' : Nat} {P : Program} {f : FuncId} {tmps : Array Value} {assign body : Code} {w : World} {R : Ending → World → Prop} (h : RoundIn Fence.wide a P l f tmps assign body w R) : RoundIn (Fence.wide.inRound l') b P l f tmps assign body w R :=
  ⟨h.1, fun c cs _ => h.2 c cs (room_wide _)⟩
theorem wpOpIn_round {l n : Nat} {P : Program} {ops : Array Oper} {Q : Exit → Act → World → Prop} (hnd : noDefer ops = true) {i : Nat} {K : Act → World → Prop} {a : Act} {w : World} (h : wpOpIn Fence.wide n P ops Q i K a w) : wpOpIn (Fence.wide.inRound l) n P ops Q i K a w := by
  unfold wpOpIn at *
  cases ho : ops[i]? with
  | none => simpa [ho] using h
  | some o =>
    simp only [ho] at h ⊢
    have hd := noDefer_at hnd ho
    by_cases hw : Region.wanted o (yielded ops a.tmps) = true
    · rw [if_pos hw] at h ⊢
      unfold Oper.wpIn at *
      refine ⟨fun _ _ => trivial, ?_⟩
      have h2 := h.2
      rw [Oper.semAt_eq _ _ _ hd] at h2 ⊢
      generalize (execOp a.eval o).run P w = r at *
      cases r with
      | ok x w' =>
        cases x <;> simp only [Oper.uponIn] at h2 ⊢
        case value => exact h2
        case skip => exact h2
        case defer => exact h2
        case enter => exact ⟨fun h => by simp [Fence.wide] at h, CallsIn.inRound l h2.2⟩
        case row => exact ⟨fun h => by simp [Fence.wide] at h, h2.2⟩
        case round => exact ⟨fun h => by simp [Fence.wide] at h, RoundIn.any h2.2⟩
      | halt x w' => cases x <;> exact h2
    · rw [if_neg hw] at h ⊢
      exact ⟨fun _ _ => trivial, h.2⟩
theorem wpAnyIn_round {l n : Nat} {P : Program} {md : Region.Mode} {ops : Array Oper} {Q : Exit → Act → World → Prop} (hnd : noDefer ops = true) : ∀ (fuel : Nat) (listed : Array Bool) (a : Act) (w : World), wpAnyIn Fence.wide n P md ops Q fuel listed a w → wpAnyIn (Fence.wide.inRound l) n P md ops Q fuel listed a w
  | 0, _, _, _, h => h
  | fuel + 1, _, _, _, h => ⟨h.1, fun i hi => wpOpIn_mono (fun a w h => wpAnyIn_round hnd fuel _ a w h) (wpOpIn_round hnd (h.2 i hi))⟩
theorem wpIn_region_round {l n id : Nat} {P : Program} {ops : Array Oper} {Q : Exit → Act → World → Prop} {a : Act} {w : World} (hm : P.follows .mixedOrders = true) (hnd : noDefer ops = true)
    (h : wpAnyIn Fence.wide n P .any ops Q ops.size (Array.replicate ops.size false) a w.drew) : (Code.region id ops true).wpIn (Fence.wide.inRound l) n P Q a w :=
  wpIn_region_any hm (wpAnyIn_round hnd _ _ _ _ h)
section
variable {P : Program} {w0 : World} {base : Nat} {t e : TypeId} {i : TypeInfo} {z : Value} {size bytes : Nat} {v : Value} {n : Nat} {xs cs : List Value}
theorem stepIn_app1 {F : Fence} {m : Nat} {ops : Array Oper} {o : Oper} {a : Act} {K : Act → World → Prop} {Q : Exit → Act → World → Prop} {E : Prop} (hgd : o.guard = none) (s x : Operand)
    (ho : o.op = .call { callee := .builtin .append, args := #[s, x], argTypes := #[t, t] }) (ht : P.underlying t = some (.slice e)) (hi : P.info? e = some i) (hz : i.zero = some z) (hsize : i.size = size) (hby : i.bytes = bytes) (hzs : z.cells.size = size) (hsz : 0 < size)
    (hs : a.eval s = v) (hown : w0.ownsRow base e size v n xs) (bk : Nat) (hx : a.eval x = .slice (some ⟨bk, 0, none⟩) 1 1) (hbk : bk = w0.heap.size) (hl : cs.length = size) (h1 : ∀ u ∈ cs, u.oneCell' = true) (h63 : n + 1 ≤ maxLen) (hbytes : (n + 1) * bytes ≤ 140737488355328) (hbase : base ≤ w0.heap.size)
    (h : ∀ w' g cap, Appd w0 w' base e size v n xs cs g cap → K (a.put o.dst (.slice (some ⟨g, 0, none⟩) (n + 1) cap)) w') :
    if Region.wanted o (yielded ops a.tmps) = true then Oper.wpIn F m P o a (w0.alloc (.cells cs.toArray e)) K Q else E := by
  subst hbk
  have hw : Region.wanted o (yielded ops a.tmps) = true := by simp [Region.wanted, hgd]
  rw [if_pos hw]
  obtain ⟨w', g, cap, hrun, hA⟩ := run_app1 (P := P) o.type ht hi hz hsize hby hzs hsz hown hl h1 h63 hbytes hbase
  unfold Oper.wpIn
  refine ⟨by simp [Oper.about, ho, resolve, Target.leads, Sem.run_pure], ?_⟩
  rw [Oper.semAt_plain F _ _ (by rw [ho]; intro c hc'; cases hc')]
  simp [execOp, ho, resolve, invoke, builtin, hs, hx, hrun, Result.andThen, Oper.uponIn]
  exact h w' g cap hA
end
end Go.Proofs.YtfeijijeohfpgaaGreatDoor
namespace Go.Proofs.YtfeijijeohfpgaaGreatDoor
open Go Go.RowKit Go.Shelf
attribute [local go_sem] Oper.semAt_some
set_option maxRecDepth 100000 in
theorem noP_any (b0 o0 : Nat) (w : World) : Calls Tryz.prog 95 #[.pointer (some ⟨b0, o0, none⟩), .func (.func 96) #[] #[]] w fun e w' =>
    ∃ Bt Bp, e = .returned (iterP Bt Bp) ∧ IterP w' b0 o0 Bt Bp ∧ Below w.heap.size w w' ∧ w.heap.size ≤ Bt ∧ w.heap.size ≤ Bp := by
  go_enter Tryz.func95, Tryz.ntmps95
  go_wp2
  obtain ⟨wl, hwl, hsz, hbl, k1, k2⟩ := box_new2 w #[.pointer (some ⟨b0, o0, none⟩)] #[.func (.func 96) #[] #[]] 66 113
  rw [hwl]
  go_ret
  exact ⟨_, _, rfl, ⟨k1, k2⟩, hbl, by omega, by omega⟩
set_option maxRecDepth 100000 in
set_option maxHeartbeats 4000000 in
theorem levels_it (l Bn Be : Nat) (t : Tm) (b0 o0 : Nat) (n : Int) (C E B0 : Nat → Prop) (W : World) (J Jx : List (Tm × Int) → (Nat → Prop) → (Nat → Prop) → World → Prop)
    (hBn : W.heap[Bn]? = some (.cells #[.int .i64 n] 3 (0, 0))) (hBe : W.heap[Be]? = some (.cells #[.pointer (some ⟨b0, o0, none⟩)] 66 (0, 0))) (hT : TermAt W C t b0 o0) (hn : t.wt ≤ 2097152) (hE : ∀ z, E z → z < W.heap.size)
    (hC : ∀ b, C b → b < W.heap.size) (hCB : ∀ b, C b → ¬ B0 b) (hB0 : ∀ b, B0 b → b < W.heap.size)
    (hJ : ∀ pre B N A A', J pre B N A → Keep W.heap.size (fun z => B z ∨ N z) A A' → J pre B N A') (hJx : ∀ pre B N A A', Jx pre B N A → Keep W.heap.size (fun z => B z ∨ N z) A A' → Jx pre B N A')
    (hY : ∀ (pre : List (Tm × Int)) (x : (Tm × Int) × (Nat × Nat)) (Y B N : Nat → Prop) (W1 : World), J pre B N W1 → pre ++ [keyL x] <+: walkL t n → GoodL C x Y W1 → (∀ z : Nat, Y z → ¬ B z) → YieldAt Fence.wide 1 Tryz.prog l (encL x) W1 fun e W' =>
      ∃ B' N', Grew B B' W1.heap.size W'.heap.size ∧ (∀ z, N' z → N z ∨ Y z) ∧ ((e = .returned (.bool true) ∧ J (pre ++ [keyL x]) B' N' W' ∧ Holds B W1 W') ∨ (e = .returned (.bool false) ∧ Jx (pre ++ [keyL x]) B' N' W' ∧ Holds (fun z => B z ∨ E z) W1 W')))
    (h0 : J [] B0 (fun _ => False) W) :
    CallsIn Fence.wide 2 Tryz.prog 94 #[.func (.yield l) #[] #[], .pointer (some ⟨Bn, 0, none⟩), .pointer (some ⟨Be, 0, none⟩)] W fun e W' =>
      (∃ v, e = .returned v) ∧ ((∃ B' N', J (walkL t n) B' N' W') ∨ ∃ pre B' N', pre <+: walkL t n ∧ Jx pre B' N' W') := by
  have HT := Lib.hid hT
  have HY := Lib.hid hY
  have HJ := Lib.hid hJ
  have HJX := Lib.hid hJx
  have HJ0 := Lib.hid h0
  have HB0 := Lib.hid hB0
  have HC := Lib.hid hC
  have HCB := Lib.hid hCB
  have HN := Lib.hid hn
  have HEE := Lib.hid hE
  have hnt : t.nodes ≤ 2097153 := by have := t.nodes_wt; omega
  have HNT := Lib.hid hnt
  have q0 := cell_of_blk hBn 0
  simp only [List.getElem?_toArray, List.getElem?_cons_zero] at q0
  have qe0 := cell_of_blk hBe 0
  simp only [List.getElem?_toArray, List.getElem?_cons_zero] at qe0
  have HBE := Lib.hid hBe
  clear hT hY hJ hJx h0 hB0 hC hCB hn hBn hBe hE hnt
  refine callsIn_of_wp_marks Tryz.func94 rfl trivial ?_ rfl
  simp only [Tryz.ntmps94, List.size_toArray, List.length_cons, List.length_nil, Nat.reduceAdd, Nat.reduceSub, Array.replicate_succ, Array.replicate_zero, List.push_toArray, List.append_toArray, List.nil_append, List.cons_append]
  refine wpIn_wide.2 ?_
  have hbn := World.block_lt_of_cell? W _ q0
  have hbe := (Array.getElem?_eq_some_iff.1 HBE.out).1
  have hb1 : Below W.heap.size W (W.alloc (.cells #[.func (.yield l) #[] #[]] 67)) := al_below _ _
  have q1 := (hb1.cell hbn).trans q0
  have hb3 : Below W.heap.size W (((W.alloc (.cells #[.func (.yield l) #[] #[]] 67)).alloc (.cells #[.int .i64 n] 3)).alloc (.cells #[.slice (some ⟨W.heap.size + 1, 0, none⟩) 1 1] 103)) := (hb1.alloc (by simp) _).alloc (by simp; omega) _
  have e0 := (hb3.cell hbe).trans qe0
  have HB3 := Lib.hid hb3
  clear hb1 hb3 q0 qe0
  go_wp2_with fail
  obtain ⟨w0, hw0, hs0, hb0, k0, k1, k2⟩ := box_new3 W #[.func (.yield l) #[] #[]] #[.int .i64 n] #[.slice (some ⟨W.heap.size + 1, 0, none⟩) 1 1] 67 3 103
  rw [hw0]
  refine (noP_any b0 o0 w0).mono ?_
  rintro e wc ⟨Bt, Bp, rfl, hit, hbc, hBt, hBp⟩
  have sc := hbc.size
  have hbW : Below W.heap.size W wc := hb0.trans (hbc.mono hb0.size)
  have k0c := (hbc.block _ (by omega)).trans k0
  have k1c := (hbc.block _ (by omega)).trans k1
  have k2c := (hbc.block _ (by omega)).trans k2
  have HIT := Lib.hid hit
  have HBW := Lib.hid hbW
  have HK := Lib.hid (And.intro k0c (And.intro k1c k2c))
  clear hw0 hit hbc k0 k1 k2 k0c k1c k2c hb0 hbW q1 e0 hbn hbe HB3 HBE
  go_wp2_with fail
  refine (wpIn_wide (n := 2)).1 ?_
  refine rangeE_law (E := E) (F := Fence.wide) (n := 2) rfl (by omega) (gf := 150) (lb := #[.pointer (some ⟨Bt, 0, none⟩), .pointer (some ⟨Bp, 0, none⟩)]) rfl trivial (enters_of Tryz.func150 (by kernel_rfl) rfl)
    (B0 := fun z => (z = W.heap.size + 2 ∨ z = W.heap.size + 1) ∨ B0 z)
    (nodesP_seq (C := fun z => C z ∨ z = Bp) (Ct := C) E HIT.out (HT.out.stays (.of_below HBW.out)) HN.out (Below.refl _ _) (fun b hb => ?hC) (Or.inr rfl) (fun z hz => Or.inl hz)) (fun z hz => Nat.lt_of_lt_of_le (HEE.out z hz) HBW.out.size) (fun _ => rfl) (fun b hb => ?hCB) (fun b hb => ?hC2) (fun b hb => ?hB0)
    (fun pre B N Wx => ∃ (Bo No : Nat → Prop) (g cap : Nat), LvI wc.heap.size (fun z => C z ∨ z = Bp) W l (W.heap.size + 2) n J pre B N Wx Bo No g cap)
    (fun c pre B N Wx => c = .ret ∧ ∃ (Bo No : Nat → Prop) (q : List (Tm × Int)), q <+: walkL t n ∧ (∀ z, Bo z → B z) ∧ (∀ z, ¬ No z) ∧ Jx q Bo No Wx)
    ?hI ?hIx ?hG (fun pre B N A h z hz => by obtain ⟨Bo, No, g, cap, h⟩ := h; exact (h.lt z hz).1) (fun x Y A z hg hz => absurd hz (hg.2 z)) ?h0
    (fun x s a' Wx => a' = { tmps := #[.func (.yield l) #[] #[], .pointer (some ⟨Bn, 0, none⟩), .pointer (some ⟨Be, 0, none⟩), .pointer (some ⟨W.heap.size, 0, none⟩), .pointer (some ⟨W.heap.size + 2, 0, none⟩), .pointer (some ⟨x.2.1, x.2.2, none⟩), .int .i64 (x.1.2 : Nat), undef, .int .i64 n, .slice (some ⟨W.heap.size + 1, 0, none⟩) 1 1, .pointer (some ⟨b0, o0, none⟩), iterP Bt Bp, .pointer (some ⟨x.2.1, x.2.2, none⟩), .int .i64 (x.1.2 : Nat), undef, undef, undef, undef, undef, undef, undef, undef, undef, undef, undef, undef, undef, undef, undef, undef, undef, undef, undef, undef], defers := [] })
    ?hAx ?assign ?body ?done ?stop
  case hC =>
    rcases hb with hb | rfl
    · exact Nat.lt_of_lt_of_le (HC.out b hb) HBW.out.size
    · exact (Array.getElem?_eq_some_iff.1 HIT.out.bp).1
  case hC2 =>
    rcases hb with hb | rfl
    · exact Nat.lt_of_lt_of_le (HC.out b hb) HBW.out.size
    · exact (Array.getElem?_eq_some_iff.1 HIT.out.bp).1
  case hCB =>
    rintro ((rfl | rfl) | h)
    · rcases hb with hb | hb
      · have := HC.out _ hb; omega
      · omega
    · rcases hb with hb | hb
      · have := HC.out _ hb; omega
      · omega
    · rcases hb with hb | hb
      · exact HCB.out b hb h
      · have := HB0.out b h; omega
  case hB0 =>
    rcases hb with (rfl | rfl) | h
    · omega
    · omega
    · have := HB0.out b h; omega
  case hI =>
    rintro pre B N A A' ⟨Bo, No, g, cap, h⟩ hk
    exact ⟨Bo, No, g, cap, h.keep (by omega) HJ.out hk⟩
  case hIx =>
    rintro c pre B N A A' ⟨e, Bo, No, q, h1, h2, h3, h4⟩ hk
    exact ⟨e, Bo, No, q, h1, h2, h3, HJX.out _ _ _ _ _ h4 (hk.mono (by omega) (fun b hb => hb.elim (fun h => Or.inl (h2 b h)) (fun h => absurd h (h3 b))))⟩
  case hG =>
    intro x Y A A' l' r hl hg hr hA
    exact goodP_loop hg hA (fun h => by have h1 := HC.out _ h; have h2 := HBW.out.size; omega)
  case h0 =>
    obtain ⟨k0, k1, k2⟩ := HK.out
    refine ⟨B0, fun _ => False, W.heap.size + 1, 1, fun _ => Iff.rfl, ⟨fun h => ?_, fun h => ?_, by omega, by omega, by omega⟩, fun z hz => ?_, fun z hz => hz, fun z hz => hz, k2, ?_, HJ.out _ _ _ _ _ HJ0.out (.of_below (Nat.le_refl _) HBW.out), k0, Nat.le_refl _, ⟨fun h => ?_, fun h => ?_⟩, fun z hz hc => ?_⟩
    · have := HB0.out _ h; omega
    · have := HB0.out _ h; omega
    · rcases hz with (rfl | rfl) | h
      · omega
      · omega
      · have := HB0.out z h; omega
    · exact ⟨rfl, Or.inr ⟨W.heap.size + 1, 1, _, rfl, Nat.le_refl _, k1, Nat.le_refl _, by unfold maxLen; omega, rfl, rfl⟩⟩
    · rcases h with h | h
      · have := HC.out _ h; omega
      · omega
    · rcases h with h | h
      · have := HC.out _ h; omega
      · omega
    · rcases hc with hc | hc
      · exact HCB.out z hc hz
      · have := HB0.out z hz; omega
  case hAx =>
    rintro x s a' Wx l' r o e hl
    exact e
  case assign =>
    rintro l' ⟨⟨xt, d⟩, ⟨b1, o1⟩⟩ Y Wx K hg hK
    have HK := Lib.hid hK
    clear hK
    gi_wp2
    exact HK.out _ _ (Below.refl _ Wx) (by simp)
  case done =>
    rintro D B N Wx hD hne ⟨Bo, No, g, cap, hI⟩ hK
    gi_wp2
    refine ⟨by simp, .inl ⟨_, _, rfl, run_takeDeferred hK, ?_⟩⟩
    refine ⟨_, results_none rfl _ _ _, ⟨_, rfl⟩, .inl ⟨Bo, No, ?_⟩⟩
    rw [← lvs_all]
    exact HJ.out _ _ _ _ _ hI.j ⟨below_putObj _ _ _ _ (by omega), fun z hz _ => World.putObj_heap_other (hz.elim (fun h => hne z (Or.inl ((hI.split z).2 (Or.inr h)))) (fun h => absurd h (hI.no z)))⟩
  case stop =>
    rintro D c pre B N Wx hD hne hpre ⟨rfl, Bo, No, q, h1, h2, h3, h4⟩ hK
    gi_wp2
    refine ⟨by simp, .inl ⟨_, _, rfl, run_takeDeferred hK, ?_⟩⟩
    refine ⟨_, results_none rfl _ _ _, ⟨_, rfl⟩, .inr ⟨q, Bo, No, h1, ?_⟩⟩
    exact HJX.out _ _ _ _ _ h4 ⟨below_putObj _ _ _ _ (by omega), fun z hz _ => World.putObj_heap_other (hz.elim (fun h => hne z (Or.inl (h2 z h))) (fun h => absurd h (h3 z)))⟩
  case body =>
    rintro l' pre ⟨⟨xt, d⟩, ⟨b1, o1⟩⟩ s a' Y B N Wx ⟨Bo, No, g, cap, hI⟩ hpre hg hYB hs rfl ⟨r, hl⟩ hBl
    have hpre : pre ++ [(xt, d)] <+: walkM t 1 := hpre
    have hGC : TermAt Wx C xt b1 o1 := hg.1
    have hGC' := hGC
    obtain ⟨tp', tc', rp', rc', p', c', hC1, hb1l, h9, hG'⟩ := hGC'
    have hok : 1 ≤ d ∧ d ≤ (stkL [n] pre).length := okL_pre (l := n) hpre
    have hdm : d ≤ 2097153 := depth_pre (t := t) (x := xt) (d := d) (hpre.subset (by simp)) HNT.out
    obtain ⟨d0, rfl⟩ : ∃ d0, d = d0 + 1 := ⟨d - 1, by omega⟩
    obtain ⟨st, hst⟩ : ∃ st, st = stkL [n] pre := ⟨_, rfl⟩
    have hcell := hI.cell
    have hown := hI.own
    have hlvp := lvs_pre (l := n) hpre
    rw [lvs_snoc] at hlvp
    rw [← hst] at hcell hown hok hlvp
    rw [Nat.add_sub_cancel] at hlvp
    obtain ⟨lv, hlv⟩ : ∃ lv, lv = st.getD d0 0 := ⟨_, rfl⟩
    rw [← hlv] at hlvp
    obtain ⟨hcap1, hcap2, hg1, hg2⟩ := row_cap hown
    have f0 := cell_of_blk hcell 0
    simp only [List.getElem?_toArray, List.getElem?_cons_zero] at f0
    have f1 : Wx.cell? ⟨g, d0, none⟩ = some (.int .i64 lv) := by
      rw [hown.cellAt d0 (by omega), hlv]
      have hlt : d0 < st.length := by omega
      simp [lvV, List.getD_eq_getElem?_getD, List.getElem?_eq_getElem hlt]
    have yb0 := cell_of_blk hI.yb 0
    simp only [List.getElem?_toArray, List.getElem?_cons_zero] at yb0
    have hnb1 : ¬ B b1 := fun h => hI.notC b1 h (Or.inl hC1)
    obtain ⟨fn, tmps, assign, body, hy, hR⟩ := YieldAt.any' (b := 0) (HY.out (lvs pre [n]) ((xt, lv), (b1, o1)) (fun _ => False) Bo No Wx hI.j hlvp ⟨hGC, fun z hz => hz⟩ (fun _ h => h.elim)) l'
    have HI := Lib.hid hI
    have HPRE := Lib.hid hpre
    have HLVP := Lib.hid hlvp
    have HOWN := Lib.hid hown
    have HST := Lib.hid hst
    have HLV := Lib.hid hlv
    have HR := Lib.hid hR
    have HG9 := Lib.hid (show b1 < Wx.heap.size ∧ ¬ B b1 ∧ At9 Wx b1 o1 xt tp' tc' rp' rc' p' c' from ⟨hb1l, hnb1, h9⟩)
    have HCELL := Lib.hid hcell
    have HD := Lib.hid hok
    have i0' : (0 : Int) ≤ (d0 : Int) := Int.natCast_nonneg _
    have i1' : (d0 : Int) < (st.length : Int) := by omega
    have hdm' : d0 + 1 ≤ 2097153 := hdm
    unfold maxLen at hcap2
    clear hI hpre hlvp hown hst hlv hR hcell hok hdm hg hYB hs hl hBl hG' hGC hC1 hb1l h9 hnb1
    simp only [encL] at hy
    rw [show ((d0 + 1 : Nat) : Int) = (d0 : Int) + 1 from rfl]
    gi_wp2_with fail
    refine ⟨rfl, ?_⟩
    refine HR.out.mono ?_
    rintro e W3 ⟨Bo', No', hgr, hno, ⟨rfl, hJ3, hH3⟩ | ⟨rfl, hJx3, hH3⟩⟩
    · have hI := HI.out
      have hk3 : ∀ z, ¬ Bo z → z < Wx.heap.size → W3.heap[z]? = Wx.heap[z]? := fun z h1 h2 => hH3.2 z h2 h1
      have hlbc := (hI.lt _ ((hI.split _).2 (Or.inl (Or.inl rfl)))).1
      have hcell3 := (hk3 _ hI.apart.1 hlbc).trans HCELL.out
      have hown3 := row_of_block HOWN.out (hk3 g hI.apart.2.1 hg2)
      have hb53 : At9 W3 b1 o1 xt tp' tc' rp' rc' p' c' := HG9.out.2.2.keep (hk3 b1 (fun h => HG9.out.2.1 ((hI.split b1).2 (Or.inr h))) HG9.out.1)
      have f0' := cell_of_blk hcell3 0
      have fz := unfrozen_of_blk hcell3 0
      simp only [List.getElem?_toArray, List.getElem?_cons_zero] at f0'
      obtain ⟨y0, y1, y2, y3, y4, y5, y6, y7, y8⟩ := hb53
      have HG := Lib.hid (And.intro hgr (And.intro hno (And.intro hJ3 hH3)))
      have HOWN3 := Lib.hid hown3
      obtain ⟨i0, hi, hz0, hz1, hz2⟩ := info_parts infoI64
      have HLB := Lib.hid (show W.heap.size + 2 < W3.drew.heap.size from Nat.lt_of_lt_of_le hlbc hH3.1)
      have HGB := Lib.hid (show ¬ g = W.heap.size + 2 from hI.apart.2.2.1)
      have HCX := Lib.hid (show ∀ z, (C z ∨ z = Bp) → z < wc.heap.size from fun z hz => hz.elim (fun h => Nat.lt_of_lt_of_le (HC.out z h) HBW.out.size) (fun h => h ▸ (Array.getElem?_eq_some_iff.1 HIT.out.bp).1))
      have HCELL3 := Lib.hid hcell3
      have HTAKE := Lib.hid (row_take hown3 (m := d0 + 1) (by omega))
      have hfn : ∀ k, Fence.wide.fn k := fun _ => trivial
      have hfo : Tryz.prog.follows .mixedOrders = true := by kernel_rfl
      clear hI hk3 hcell3 hown3 hgr hno hJ3 hH3 hy f0 f1 yb0
      gi_wp2_with fail
      refine wpIn_region_round hfo (by kernel_rfl) ?_
      refine wpAnyIn_take (i := 1) (v := ?_) rfl rfl (by kernel_rfl) (by kernel_rfl) (by kernel_rfl) (fun _ _ _ h => h) ⟨Or.inl ⟨by rfl, ?_⟩, fun _ => rfl⟩ ?_
      rotate_left
      · intro w
        go_simp
        first
          | with_reducible rfl
          | (rw [if_pos ⟨by omega, by omega⟩]; done)
      refine wpAnyIn_take (i := 3) (v := ?_) rfl rfl (by kernel_rfl) (by kernel_rfl) (by kernel_rfl) (fun _ _ _ h => h) ⟨Or.inl ⟨by rfl, ?_⟩, fun _ => rfl⟩ ?_
      rotate_left
      · intro w
        go_simp
        first
          | with_reducible rfl
          | (rw [if_pos ⟨by omega, by omega⟩]; done)
      refine wpAnyIn_take (i := 4) (v := ?_) rfl rfl (by kernel_rfl) (by kernel_rfl) (by kernel_rfl) (fun _ _ _ h => h) ⟨Or.inl ⟨by rfl, ?_⟩, fun _ => rfl⟩ ?_
      rotate_left
      · intro w
        go_simp
        first
          | with_reducible rfl
          | (rw [if_pos ⟨by omega, by omega⟩]; done)
      refine wpAnyIn_take (i := 6) (v := ?_) rfl rfl (by kernel_rfl) (by kernel_rfl) (by kernel_rfl) (fun _ _ _ h => h) ⟨Or.inl ⟨by rfl, ?_⟩, fun _ => rfl⟩ ?_
      rotate_left
      · intro w
        go_simp
        first
          | with_reducible rfl
          | (rw [if_pos ⟨by omega, by omega⟩]; done)
      refine wpAnyIn_ready (rs := [0, 5]) (by kernel_rfl) (by simp) ?_
      refine AllReadyIn.cons rfl (fun K hK => ?_) ?_
      · go_simp
        refine hK _ _ ?_
        clear hK K
        refine wpAnyIn_take (i := 2) (v := ?_) rfl rfl (by kernel_rfl) (by kernel_rfl) (by kernel_rfl) (fun _ _ _ h => h) ⟨Or.inl ⟨by rfl, ?_⟩, fun _ => rfl⟩ ?_
        rotate_left
        · intro w
          go_simp
          first
            | with_reducible rfl
            | (rw [if_pos ⟨by omega, by omega⟩]; done)
        refine wpAnyIn_ready (rs := [5]) (by kernel_rfl) (by simp) ?_
        refine AllReadyIn.cons rfl (fun K hK => ?_) AllReadyIn.nil
        go_simp
        refine hK _ _ ?_
        clear hK K
        refine wpAnyIn_ready (rs := [7]) (by kernel_rfl) (by simp) ?_
        refine AllReadyIn.cons rfl (fun K hK => ?_) AllReadyIn.nil
        go_simp
        refine ⟨rfl, ?_⟩
        refine (callsIn_wide.2 (nextI_any xt tp' tc' rp' rc' p' c' lv _)).mono ?_
        rintro e w1 ⟨rfl, hb1⟩
        refine hK _ _ ?_
        clear hK K
        have hcw := (hb1.block _ HLB.out).trans HCELL3.out
        have f2 := cell_of_blk hcw 0
        have f3 := cell_of_blk (((al_below w1 (.cells #[.int .i64 (nextL xt.kind lv)] 3)).block _ (Nat.lt_of_lt_of_le HLB.out hb1.size)).trans hcw) 0
        simp only [List.getElem?_toArray, List.getElem?_cons_zero] at f2 f3
        clear hcw
        refine wpAnyIn_ready (rs := [8]) (by kernel_rfl) (by simp) ?_
        refine AllReadyIn.cons rfl (fun K hK => ?_) AllReadyIn.nil
        go_simp
        refine hK _ _ ?_
        clear hK K
        refine wpAnyIn_ready (rs := [9]) (by kernel_rfl) (by simp) ?_
        refine AllReadyIn.cons rfl (fun K hK => ?_) AllReadyIn.nil
        refine stepIn_app1 (w0 := w1) (base := W.heap.size + 1) (v := .slice (some ⟨g, 0, none⟩) (d0 + 1) cap) (n := d0 + 1) (xs := (lvV st).take ((d0 + 1) * 1)) (cs := [.int .i64 (nextL xt.kind lv)]) rfl (.tmp 26) (.tmp 32) rfl Tryz.underlying103 hi hz0 hz1 hz2 rfl (by decide) rfl (row_below HTAKE.out ((Below.refl W3.heap.size W3).drew.trans hb1)) _ rfl (by simp) rfl (fun u hu => by simp at hu; subst hu; rfl) (by unfold maxLen; omega) (by omega) (by have h1 := hb1.size; have h2 := HLB.out; omega) ?_
        intro w' g2 cap2 hA
        have hcw := ((hA.kept (W.heap.size + 2) (Nat.lt_of_lt_of_le HLB.out hb1.size) (by simp only [Value.ownBlock, ne_eq, Option.some.injEq]; exact HGB.out)).1.trans (hb1.block _ HLB.out)).trans HCELL3.out
        have f4 := cell_of_blk hcw 0
        have z4 := unfrozen_of_blk hcw 0
        simp only [List.getElem?_toArray, List.getElem?_cons_zero] at f4
        clear hcw
        refine hK _ _ ?_
        clear hK K
        refine wpAnyIn_ready (rs := [10]) (by kernel_rfl) (by simp) ?_
        refine AllReadyIn.cons rfl (fun K hK => ?_) AllReadyIn.nil
        go_simp
        refine hK _ _ ?_
        clear hK K
        refine wpAnyIn_done (by kernel_rfl) ?_ _
        gi_wp2_with fail
        exact LvI.step HI.out (by omega) HCX.out HST.out HD.out.2 HLV.out HJ.out HG.out.1 HG.out.2.2.2 HG.out.2.1 HG.out.2.2.1 ((Below.refl W3.heap.size W3).drew.trans hb1) hA
      refine AllReadyIn.cons rfl (fun K hK => ?_) AllReadyIn.nil
      go_simp
      refine hK _ _ ?_
      clear hK K
      refine wpAnyIn_ready (rs := [0, 7]) (by kernel_rfl) (by simp) ?_
      refine AllReadyIn.cons rfl (fun K hK => ?_) ?_
      · go_simp
        refine hK _ _ ?_
        clear hK K
        refine wpAnyIn_take (i := 2) (v := ?_) rfl rfl (by kernel_rfl) (by kernel_rfl) (by kernel_rfl) (fun _ _ _ h => h) ⟨Or.inl ⟨by rfl, ?_⟩, fun _ => rfl⟩ ?_
        rotate_left
        · intro w
          go_simp
          first
            | with_reducible rfl
            | (rw [if_pos ⟨by omega, by omega⟩]; done)
        refine wpAnyIn_ready (rs := [7]) (by kernel_rfl) (by simp) ?_
        refine AllReadyIn.cons rfl (fun K hK => ?_) AllReadyIn.nil
        go_simp
        refine ⟨rfl, ?_⟩
        refine (callsIn_wide.2 (nextI_any xt tp' tc' rp' rc' p' c' lv _)).mono ?_
        rintro e w1 ⟨rfl, hb1⟩
        refine hK _ _ ?_
        clear hK K
        have hcw := (hb1.block _ HLB.out).trans HCELL3.out
        have f2 := cell_of_blk hcw 0
        have f3 := cell_of_blk (((al_below w1 (.cells #[.int .i64 (nextL xt.kind lv)] 3)).block _ (Nat.lt_of_lt_of_le HLB.out hb1.size)).trans hcw) 0
        simp only [List.getElem?_toArray, List.getElem?_cons_zero] at f2 f3
        clear hcw
        refine wpAnyIn_ready (rs := [8]) (by kernel_rfl) (by simp) ?_
        refine AllReadyIn.cons rfl (fun K hK => ?_) AllReadyIn.nil
        go_simp
        refine hK _ _ ?_
        clear hK K
        refine wpAnyIn_ready (rs := [9]) (by kernel_rfl) (by simp) ?_
        refine AllReadyIn.cons rfl (fun K hK => ?_) AllReadyIn.nil
        refine stepIn_app1 (w0 := w1) (base := W.heap.size + 1) (v := .slice (some ⟨g, 0, none⟩) (d0 + 1) cap) (n := d0 + 1) (xs := (lvV st).take ((d0 + 1) * 1)) (cs := [.int .i64 (nextL xt.kind lv)]) rfl (.tmp 26) (.tmp 32) rfl Tryz.underlying103 hi hz0 hz1 hz2 rfl (by decide) rfl (row_below HTAKE.out ((Below.refl W3.heap.size W3).drew.trans hb1)) _ rfl (by simp) rfl (fun u hu => by simp at hu; subst hu; rfl) (by unfold maxLen; omega) (by omega) (by have h1 := hb1.size; have h2 := HLB.out; omega) ?_
        intro w' g2 cap2 hA
        have hcw := ((hA.kept (W.heap.size + 2) (Nat.lt_of_lt_of_le HLB.out hb1.size) (by simp only [Value.ownBlock, ne_eq, Option.some.injEq]; exact HGB.out)).1.trans (hb1.block _ HLB.out)).trans HCELL3.out
        have f4 := cell_of_blk hcw 0
        have z4 := unfrozen_of_blk hcw 0
        simp only [List.getElem?_toArray, List.getElem?_cons_zero] at f4
        clear hcw
        refine hK _ _ ?_
        clear hK K
        refine wpAnyIn_ready (rs := [10]) (by kernel_rfl) (by simp) ?_
        refine AllReadyIn.cons rfl (fun K hK => ?_) AllReadyIn.nil
        go_simp
        refine hK _ _ ?_
        clear hK K
        refine wpAnyIn_done (by kernel_rfl) ?_ _
        gi_wp2_with fail
        exact LvI.step HI.out (by omega) HCX.out HST.out HD.out.2 HLV.out HJ.out HG.out.1 HG.out.2.2.2 HG.out.2.1 HG.out.2.2.1 ((Below.refl W3.heap.size W3).drew.trans hb1) hA
      refine AllReadyIn.cons rfl (fun K hK => ?_) AllReadyIn.nil
      go_simp
      refine ⟨rfl, ?_⟩
      refine (callsIn_wide.2 (nextI_any xt tp' tc' rp' rc' p' c' lv _)).mono ?_
      rintro e w1 ⟨rfl, hb1⟩
      refine hK _ _ ?_
      clear hK K
      have hcw := (hb1.block _ HLB.out).trans HCELL3.out
      have f2 := cell_of_blk hcw 0
      have f3 := cell_of_blk (((al_below w1 (.cells #[.int .i64 (nextL xt.kind lv)] 3)).block _ (Nat.lt_of_lt_of_le HLB.out hb1.size)).trans hcw) 0
      simp only [List.getElem?_toArray, List.getElem?_cons_zero] at f2 f3
      clear hcw
      refine wpAnyIn_ready (rs := [0, 8]) (by kernel_rfl) (by simp) ?_
      refine AllReadyIn.cons rfl (fun K hK => ?_) ?_
      · go_simp
        refine hK _ _ ?_
        clear hK K
        refine wpAnyIn_take (i := 2) (v := ?_) rfl rfl (by kernel_rfl) (by kernel_rfl) (by kernel_rfl) (fun _ _ _ h => h) ⟨Or.inl ⟨by rfl, ?_⟩, fun _ => rfl⟩ ?_
        rotate_left
        · intro w
          go_simp
          first
            | with_reducible rfl
            | (rw [if_pos ⟨by omega, by omega⟩]; done)
        refine wpAnyIn_ready (rs := [8]) (by kernel_rfl) (by simp) ?_
        refine AllReadyIn.cons rfl (fun K hK => ?_) AllReadyIn.nil
        go_simp
        refine hK _ _ ?_
        clear hK K
        refine wpAnyIn_ready (rs := [9]) (by kernel_rfl) (by simp) ?_
        refine AllReadyIn.cons rfl (fun K hK => ?_) AllReadyIn.nil
        refine stepIn_app1 (w0 := w1) (base := W.heap.size + 1) (v := .slice (some ⟨g, 0, none⟩) (d0 + 1) cap) (n := d0 + 1) (xs := (lvV st).take ((d0 + 1) * 1)) (cs := [.int .i64 (nextL xt.kind lv)]) rfl (.tmp 26) (.tmp 32) rfl Tryz.underlying103 hi hz0 hz1 hz2 rfl (by decide) rfl (row_below HTAKE.out ((Below.refl W3.heap.size W3).drew.trans hb1)) _ rfl (by simp) rfl (fun u hu => by simp at hu; subst hu; rfl) (by unfold maxLen; omega) (by omega) (by have h1 := hb1.size; have h2 := HLB.out; omega) ?_
        intro w' g2 cap2 hA
        have hcw := ((hA.kept (W.heap.size + 2) (Nat.lt_of_lt_of_le HLB.out hb1.size) (by simp only [Value.ownBlock, ne_eq, Option.some.injEq]; exact HGB.out)).1.trans (hb1.block _ HLB.out)).trans HCELL3.out
        have f4 := cell_of_blk hcw 0
        have z4 := unfrozen_of_blk hcw 0
        simp only [List.getElem?_toArray, List.getElem?_cons_zero] at f4
        clear hcw
        refine hK _ _ ?_
        clear hK K
        refine wpAnyIn_ready (rs := [10]) (by kernel_rfl) (by simp) ?_
        refine AllReadyIn.cons rfl (fun K hK => ?_) AllReadyIn.nil
        go_simp
        refine hK _ _ ?_
        clear hK K
        refine wpAnyIn_done (by kernel_rfl) ?_ _
        gi_wp2_with fail
        exact LvI.step HI.out (by omega) HCX.out HST.out HD.out.2 HLV.out HJ.out HG.out.1 HG.out.2.2.2 HG.out.2.1 HG.out.2.2.1 ((Below.refl W3.heap.size W3).drew.trans hb1) hA
      refine AllReadyIn.cons rfl (fun K hK => ?_) AllReadyIn.nil
      go_simp
      refine hK _ _ ?_
      clear hK K
      refine wpAnyIn_ready (rs := [0]) (by kernel_rfl) (by simp) ?_
      refine AllReadyIn.cons rfl (fun K hK => ?_) AllReadyIn.nil
      go_simp
      refine hK _ _ ?_
      clear hK K
      refine wpAnyIn_take (i := 2) (v := ?_) rfl rfl (by kernel_rfl) (by kernel_rfl) (by kernel_rfl) (fun _ _ _ h => h) ⟨Or.inl ⟨by rfl, ?_⟩, fun _ => rfl⟩ ?_
      rotate_left
      · intro w
        go_simp
        first
          | with_reducible rfl
          | (rw [if_pos ⟨by omega, by omega⟩]; done)
      refine wpAnyIn_ready (rs := [9]) (by kernel_rfl) (by simp) ?_
      refine AllReadyIn.cons rfl (fun K hK => ?_) AllReadyIn.nil
      refine stepIn_app1 (w0 := w1) (base := W.heap.size + 1) (v := .slice (some ⟨g, 0, none⟩) (d0 + 1) cap) (n := d0 + 1) (xs := (lvV st).take ((d0 + 1) * 1)) (cs := [.int .i64 (nextL xt.kind lv)]) rfl (.tmp 26) (.tmp 32) rfl Tryz.underlying103 hi hz0 hz1 hz2 rfl (by decide) rfl (row_below HTAKE.out ((Below.refl W3.heap.size W3).drew.trans hb1)) _ rfl (by simp) rfl (fun u hu => by simp at hu; subst hu; rfl) (by unfold maxLen; omega) (by omega) (by have h1 := hb1.size; have h2 := HLB.out; omega) ?_
      intro w' g2 cap2 hA
      have hcw := ((hA.kept (W.heap.size + 2) (Nat.lt_of_lt_of_le HLB.out hb1.size) (by simp only [Value.ownBlock, ne_eq, Option.some.injEq]; exact HGB.out)).1.trans (hb1.block _ HLB.out)).trans HCELL3.out
      have f4 := cell_of_blk hcw 0
      have z4 := unfrozen_of_blk hcw 0
      simp only [List.getElem?_toArray, List.getElem?_cons_zero] at f4
      clear hcw
      refine hK _ _ ?_
      clear hK K
      refine wpAnyIn_ready (rs := [10]) (by kernel_rfl) (by simp) ?_
      refine AllReadyIn.cons rfl (fun K hK => ?_) AllReadyIn.nil
      go_simp
      refine hK _ _ ?_
      clear hK K
      refine wpAnyIn_done (by kernel_rfl) ?_ _
      gi_wp2_with fail
      exact LvI.step HI.out (by omega) HCX.out HST.out HD.out.2 HLV.out HJ.out HG.out.1 HG.out.2.2.2 HG.out.2.1 HG.out.2.2.1 ((Below.refl W3.heap.size W3).drew.trans hb1) hA
    · gi_wp2_with fail
      exact LvI.stop HI.out hgr hH3 hno HLVP.out hJx3
end Go.Proofs.YtfeijijeohfpgaaGreatDoor
namespace Go.Proofs.YtfeijijeohfpgaaGreatDoor
open Go Go.RowKit
def LvNode (e : Tm × Int) : Prop := (0 ≤ e.2 ∧ e.2 ≤ 2) ∧ e.1.NodeOk
mutual
theorem isT_walkL : ∀ (t : Tm) (l : Int), t.IsT ↔ ∀ e ∈ walkL t l, e.1.NodeOk
  | .mk k a b n t r ts, l => by
    have h := isT_walkLS ts (nextL k l)
    rw [Tm.IsT_eq]
    show IsTS ts ∧ _ ∧ _ ↔ _
    rw [h]
    simp only [walkL, List.forall_mem_cons]
    exact And.comm
theorem isT_walkLS : ∀ (ts : List Tm) (l : Int), IsTS ts ↔ ∀ e ∈ walkLS ts l, e.1.NodeOk
  | [], l => by simp [IsTS, walkLS]
  | t :: ts, l => by
    have h1 := isT_walkLS ts l
    have h2 := isT_walkL t l
    simp only [IsTS, walkLS, List.forall_mem_append, h1, h2]
end
theorem levels_walk (t : Tm) (l : Int) : (t.IsT ∧ t.lvOk l) ↔ ∀ e ∈ walkL t l, LvNode e := by
  rw [isT_walkL t l, lvOk_walk]
  exact ⟨fun h e he => ⟨h.2 e he, h.1 e he⟩, fun h => ⟨fun e he => (h e he).2, fun e he => (h e he).1⟩⟩
end Go.Proofs.YtfeijijeohfpgaaGreatDoor
namespace Go.Proofs.YtfeijijeohfpgaaGreatDoor
open Go Go.RowKit Go.Shelf
attribute [local go_sem] Oper.semAt_some
abbrev iterL (Bn Be : Nat) : Value := .func (.func 94) #[] #[.pointer (some ⟨Bn, 0, none⟩), .pointer (some ⟨Be, 0, none⟩)]
def IterL (w : World) (b0 o0 : Nat) (n : Int) (Bn Be : Nat) : Prop := w.heap[Bn]? = some (.cells #[.int .i64 n] 3 (0, 0)) ∧ w.heap[Be]? = some (.cells #[.pointer (some ⟨b0, o0, none⟩)] 66 (0, 0))
set_option maxRecDepth 100000 in
theorem nwl_any (b0 o0 : Nat) (n : Int) (w : World) : Calls Tryz.prog 42 #[.pointer (some ⟨b0, o0, none⟩), .int .i64 n] w fun e w' =>
    ∃ Bn Be, e = .returned (iterL Bn Be) ∧ IterL w' b0 o0 n Bn Be ∧ Below w.heap.size w w' := by
  go_enter Tryz.func42, Tryz.ntmps42
  go_wp2
  obtain ⟨wl, hwl, hsz, hbl, k1, k2⟩ := box_new2 w #[.pointer (some ⟨b0, o0, none⟩)] #[.int .i64 n] 66 3
  rw [hwl]
  go_ret
  exact ⟨_, _, rfl, ⟨k2, k1⟩, hbl⟩
theorem levels_seq {w wl : World} {C : Nat → Prop} {t : Tm} {b0 o0 : Nat} {n : Int} {Bn Be : Nat} (E : Nat → Prop) (h : IterL w b0 o0 n Bn Be) (hT : TermAt w C t b0 o0) (hn : t.wt ≤ 2097152) (hb : Below w.heap.size w wl) (hC : ∀ b, C b → b < w.heap.size) (hE : ∀ b, E b → b < w.heap.size) :
    SeqE Fence.wide 2 Tryz.prog 94 #[.pointer (some ⟨Bn, 0, none⟩), .pointer (some ⟨Be, 0, none⟩)] encL keyL (GoodL C) C E (walkL t n) wl := by
  intro l J Jx B0 W hbW hCB hB0 hJ hJx hY h0
  have hbb : Below w.heap.size w W := hb.trans (hbW.mono hb.size)
  exact levels_it l Bn Be t b0 o0 n C E B0 W J Jx ((hbb.block _ (Array.getElem?_eq_some_iff.1 h.1).1).trans h.1) ((hbb.block _ (Array.getElem?_eq_some_iff.1 h.2).1).trans h.2) (hT.stays (.of_below hbb)) hn (fun z hz => Nat.lt_of_lt_of_le (hE z hz) hbb.size) (fun b hc => Nat.lt_of_lt_of_le (hC b hc) hbb.size) hCB hB0 hJ hJx hY h0
theorem goodL_loop {C : Nat → Prop} {x : (Tm × Int) × (Nat × Nat)} {Y : Nat → Prop} {A A' : World} {l : Nat} (h : GoodL C x Y A) (hA : Holds (fun b => b = l) A A') (hC : ¬ C l) : GoodL C x Y A' :=
  ⟨h.1.stays ⟨hA.1, fun b hb hlt => hA.2 b hlt (fun e => hC (e ▸ hb))⟩, h.2⟩
theorem not_lv_at {t x : Tm} {n lv : Int} {pre : List (Tm × Int)} (h : pre ++ [(x, lv)] <+: walkL t n) (hx : ¬ LvNode (x, lv)) : ¬ (t.IsT ∧ t.lvOk n) := fun hh =>
  hx ((levels_walk t n).1 hh (x, lv) (h.subset (by simp)))
mutual
theorem wt_walkL : ∀ (t : Tm) (l : Int) (e : Tm × Int), e ∈ walkL t l → e.1.wt ≤ t.wt
  | .mk k a b n t r ts, l, e, h => by
    rw [walkL] at h
    rcases List.mem_cons.1 h with rfl | h
    · exact Nat.le_refl _
    · have h1 := wt_walkLS ts _ e h
      simp only [Tm.wt]
      omega
theorem wt_walkLS : ∀ (ts : List Tm) (l : Int) (e : Tm × Int), e ∈ walkLS ts l → e.1.wt ≤ wtS ts
  | [], l, e, h => by simp [walkLS] at h
  | t :: ts, l, e, h => by
    rw [walkLS] at h
    rcases List.mem_append.1 h with h | h
    · have h1 := wt_walkL t l e h
      simp only [wtS]
      omega
    · have h1 := wt_walkLS ts l e h
      simp only [wtS]
      omega
end
theorem boxAt {w : World} {C : Nat → Prop} {t : Tm} {tp : Option Addr} {tc : Nat} {rp : Option Addr} {rc : Nat} {p : Option Addr} {c b : Nat} {T : TypeId} (hb : w.heap[b]? = some (.cells (tmC t tp tc rp rc p c) T (0, 0))) (hC : C b) (hT : TM' w C t tp tc rp rc p c) : TermAt w C t b 0 :=
  ⟨tp, tc, rp, rc, p, c, hC, (Array.getElem?_eq_some_iff.1 hb).1, ⟨cell_of_blk hb 0, cell_of_blk hb 1, cell_of_blk hb 2, cell_of_blk hb 3, cell_of_blk hb 4, cell_of_blk hb 5, cell_of_blk hb 6, cell_of_blk hb 7, cell_of_blk hb 8⟩, hT⟩
set_option maxRecDepth 100000 in
set_option maxHeartbeats 2000000 in
theorem falI_any {C : Nat → Prop} {t : Tm} {w : World} {b o : Nat} (n : Int) (hka : KA w) (h : TermAt w C t b o) (hn : t.wt ≤ 2097152) :
    Calls Tryz.prog 43 #[.pointer (some ⟨b, o, none⟩), .int .i64 n] w (Tells (LvNode (t, n)) w) := by
  obtain ⟨tp, tc, rp, rc, p, c, hC, hb, ⟨y0, y1, y2, y3, y4, y5, y6, y7, y8⟩, hT⟩ := h
  have HC := Lib.hid (formI_any w hka hT hn)
  clear hT hka hb
  by_cases h0 : n < 0
  · have t1 : decide (0 ≤ n) = false := by simp; omega
    have H0 := Lib.hid h0
    clear h0
    go_enter Tryz.func43, Tryz.ntmps43
    go_wp2_with fail
    go_ret
    exact ⟨false, by simp only [Bool.false_eq_true, false_iff]; exact fun h => (by have h1 := h.1.1; have h2 := H0.out; simp only at h1; omega), rfl, Below.refl _ _⟩
  have t1 : decide (0 ≤ n) = true := by simp; omega
  by_cases h2 : 2 < n
  · have t2 : decide (n ≤ 2) = false := by simp; omega
    have H2 := Lib.hid h2
    clear h0 h2
    go_enter Tryz.func43, Tryz.ntmps43
    go_wp2_with fail
    go_ret
    exact ⟨false, by simp only [Bool.false_eq_true, false_iff]; exact fun h => (by have h1 := h.1.2; have h2 := H2.out; simp only at h1; omega), rfl, Below.refl _ _⟩
  have t2 : decide (n ≤ 2) = true := by simp; omega
  have HN := Lib.hid (show 0 ≤ n ∧ n ≤ 2 from ⟨by omega, by omega⟩)
  clear h0 h2
  go_enter Tryz.func43, Tryz.ntmps43
  go_wp2_with fail
  refine HC.out.mono ?_
  rintro e w1 ⟨r, hr, rfl, hb1⟩
  have HR := Lib.hid hr
  have HB := Lib.hid hb1
  clear hr hb1 y0 y1 y2 y3 y4 y5 y6 y7 y8
  cases r with
  | false =>
    go_wp2_with fail
    go_ret
    exact ⟨false, by simp only [Bool.false_eq_true, false_iff]; exact fun h => (by have := HR.out.2 h.2; cases this), rfl, HB.out⟩
  | true =>
    go_wp2_with fail
    go_ret
    exact ⟨true, ⟨fun _ => ⟨HN.out, HR.out.1 (by trivial)⟩, fun _ => rfl⟩, rfl, HB.out⟩
set_option maxRecDepth 100000 in
set_option maxHeartbeats 2000000 in
theorem sonI_any {C : Nat → Prop} {t : Tm} {w : World} {b o : Nat} (n : Int) (h : TermAt w C t b o) :
    Calls Tryz.prog 51 #[.pointer (some ⟨b, o, none⟩), .int .i64 n] w (Tells (t.kind = 11 ∧ n = 1) w) := by
  obtain ⟨tp, tc, rp, rc, p, c, hC, hb, h9, hT⟩ := h
  have y0 := h9.kind
  clear h9 hT hb
  by_cases h0 : t.kind = 11
  · have t1 : (t.kind == 11) = true := by simp [h0]
    by_cases h1 : n = 1
    · have t2 : (n == 1) = true := by simp [h1]
      have H := Lib.hid (And.intro h0 h1)
      clear h0 h1
      go_enter Tryz.func51, Tryz.ntmps51
      go_wp2_with fail
      go_ret
      exact ⟨true, ⟨fun _ => H.out, fun _ => rfl⟩, rfl, Below.refl _ _⟩
    · have t2 : (n == 1) = false := by simp [h1]
      have H := Lib.hid h1
      clear h0 h1
      go_enter Tryz.func51, Tryz.ntmps51
      go_wp2_with fail
      go_ret
      exact ⟨false, by simp only [Bool.false_eq_true, false_iff]; exact fun h => H.out h.2, rfl, Below.refl _ _⟩
  · have t1 : (t.kind == 11) = false := by simp [h0]
    have H := Lib.hid h0
    clear h0
    go_enter Tryz.func51, Tryz.ntmps51
    go_wp2_with fail
    go_ret
    exact ⟨false, by simp only [Bool.false_eq_true, false_iff]; exact fun h => H.out h.1, rfl, Below.refl _ _⟩
set_option maxRecDepth 100000 in
set_option maxHeartbeats 2000000 in
theorem levI_any {C : Nat → Prop} {t : Tm} {v : Value} {w : World} (n : Int) (hka : KA w) (h : TM w C t v) (hn : t.wt ≤ 2097152) :
    Calls Tryz.prog 9 #[v, .int .i64 n] w (Tells (t.IsT ∧ t.lvOk n) w) := by
  have HKA := Lib.hid (fun (w' : World) (hb : Below w.heap.size w w') => hka.below hb)
  have HWT := Lib.hid hn
  clear hka hn
  obtain ⟨tp, tc, rp, rc, p, c, rfl, hT⟩ := h
  have HT := Lib.hid (hT.mono (C' := (· < w.heap.size)) (fun _ _ h => h))
  clear hT
  refine (callsIn_wide (n := 3)).1 ?_
  refine callsIn_of_wp_marks Tryz.func9 rfl trivial ?_ rfl
  simp only [Tryz.ntmps9, List.size_toArray, List.length_cons, List.length_nil, Nat.reduceAdd, Nat.reduceSub, Array.replicate_succ, Array.replicate_zero, List.push_toArray, List.append_toArray, List.nil_append, List.cons_append]
  gi_wp2_with fail
  obtain ⟨w0, hw0, hs0, hb0, hk0, hk1⟩ := box_new2 w (tmC t tp tc rp rc p c) #[.bool false] 29 4
  rw [hw0]
  refine ⟨trivial, ?_⟩
  refine (callsIn_wide.2 (nwl_any w.heap.size 0 n w0)).mono ?_
  rintro e wl ⟨Bn, Be, rfl, hI, hbw⟩
  have hsz := hbw.size
  have hbl : Below w.heap.size w wl := hb0.trans (hbw.mono hb0.size)
  have k1 : wl.heap[w.heap.size + 1]? = some (.cells #[.bool false] 4 (0, 0)) := (hbw.block _ (by omega)).trans hk1
  have HSL : TermAt wl (fun z => z < w.heap.size + 1) t w.heap.size 0 := boxAt ((hbw.block _ (by omega)).trans hk0) (by omega) ((HT.out.stays (.of_below hbl)).mono (fun z hz _ => by omega))
  clear hk0 hk1 hb0 hw0
  gi_wp2_with fail
  refine rangeE_law (E := fun _ => False) (F := Fence.wide) (n := 3) rfl (by omega) (gf := 94) (lb := #[.pointer (some ⟨Bn, 0, none⟩), .pointer (some ⟨Be, 0, none⟩)]) rfl trivial (enters_of Tryz.func94 (by kernel_rfl) rfl)
    (B0 := fun b => b = w.heap.size + 1) (levels_seq (fun _ => False) hI HSL HWT.out (Below.refl _ _) (fun b h => by omega) (fun _ h => h.elim)) (fun _ h => h.elim) (fun _ => rfl) (fun b h h2 => by omega) (fun b h => by omega) (fun b h => by omega)
    (fun pre B N W => (∀ z, B z ↔ z = w.heap.size + 1) ∧ (∀ z, ¬ N z) ∧ W.heap[w.heap.size + 1]? = some (.cells #[.bool false] 4 (0, 0)) ∧ (∀ e ∈ pre, LvNode e) ∧ Below w.heap.size w W)
    (fun j pre B N W => (∀ z, B z ↔ z = w.heap.size + 1) ∧ j = .ret ∧ W.cell? ⟨w.heap.size + 1, 0, none⟩ = some (.bool false) ∧ ¬ (t.IsT ∧ t.lvOk n) ∧ Below w.heap.size w W)
    (fun pre B N A A' h hk => ⟨h.1, h.2.1, (hk.1.block _ (by omega)).trans h.2.2.1, h.2.2.2.1, h.2.2.2.2.trans (hk.1.mono (by omega))⟩)
    (fun j pre B N A A' h hk => ⟨h.1, h.2.1, (hk.1.cell (by show w.heap.size + 1 < _; omega)).trans h.2.2.1, h.2.2.2.1, h.2.2.2.2.trans (hk.1.mono (by omega))⟩)
    (fun x Y A A' l r hl hg hr hA => goodL_loop hg hA (by omega)) (fun pre B N A h z hz => by rw [(h.1 z).1 hz]; exact (Array.getElem?_eq_some_iff.1 h.2.2.1).1) (fun x Y A z hg hz => absurd hz (hg.2 z)) ⟨fun _ => Iff.rfl, fun _ h => h, k1, (fun e he => absurd he (List.not_mem_nil)), hbl⟩
    (fun x s a' W => a' = { tmps := #[tmV t tp tc rp rc p c, .int .i64 n, .pointer (some ⟨w.heap.size, 0, none⟩), undef, .pointer (some ⟨w.heap.size + 1, 0, none⟩), .pointer (some ⟨x.2.1, x.2.2, none⟩), .int .i64 x.1.2,
      .int .i64 n, iterL Bn Be, .pointer (some ⟨x.2.1, x.2.2, none⟩), .int .i64 x.1.2, undef, undef, undef, undef], defers := [] })
    (fun x s a' W l r o h hl => h) ?assign ?body ?done ?stop
  case assign =>
    rintro l ⟨⟨x, lv⟩, ⟨b1, o1⟩⟩ Y W K hG hK
    have HK := Lib.hid hK
    clear hK
    gi_wp2
    exact HK.out _ _ (Below.refl _ _) (by simp)
  case body =>
    rintro l pre ⟨⟨x, lv⟩, ⟨b1, o1⟩⟩ s a' Y B N W ⟨hBo, hNo, hr, hso, hB⟩ hpre hG hYB hs rfl hlp hBl
    have hpre : pre ++ [(x, lv)] <+: walkL t n := hpre
    have hG' : TermAt W (fun z => z < w.heap.size + 1) x b1 o1 := hG.1
    have hxw : x.wt ≤ 2097152 := by
      have h1 := wt_walkL t n (x, lv) (hpre.subset (by simp))
      have h2 := HWT.out
      simp only at h1
      omega
    have HC := Lib.hid (falI_any lv (HKA.out W hB) hG' hxw)
    have HG := Lib.hid hG'
    have HR1 := Lib.hid hr
    have HB1 := Lib.hid hB
    have HSO := Lib.hid hso
    have HP := Lib.hid hpre
    have HBO := Lib.hid hBo
    have HFIN := Lib.hid (fun (W' : World) (hb : Below W.heap.size W W') => show W'.heap[w.heap.size + 1]? = some (.cells #[.bool false] 4 (0, 0)) from (hb.block _ (Array.getElem?_eq_some_iff.1 hr).1).trans hr)
    have hstop : ¬ LvNode (x, lv) → ∀ (W' : World) (q : World), Below W.heap.size W W' → q = W'.setCell ⟨w.heap.size + 1, 0, none⟩ (.bool false) → ∃ B' N' : Nat → Prop, Grew B B' W.heap.size q.heap.size ∧ (∀ z, N' z → N z ∨ Y z) ∧ Holds (fun z => B z ∨ False) W q ∧ (∀ z, B' z ↔ z = w.heap.size + 1) ∧ q.cell? ⟨w.heap.size + 1, 0, none⟩ = some (.bool false) ∧ ¬ (t.IsT ∧ t.lvOk n) ∧ Below w.heap.size w q := by
      rintro hno W' q hb rfl
      have hr2 := HFIN.out W' hb
      have r2 := cell_of_blk hr2 0
      simp only [List.getElem?_toArray, List.getElem?_cons_zero] at r2
      have hlt := (Array.getElem?_eq_some_iff.1 hr2).1
      refine ⟨B, fun _ => False, Grew.refl (fun b hb' => ?_), fun z hz => hz.elim, Holds.setCell (.of_below hb) ⟨w.heap.size + 1, 0, none⟩ (Or.inl ((hBo _).2 rfl)) _, hBo, World.cell?_setCell_same' W' ⟨w.heap.size + 1, 0, none⟩ (.bool false) (by rw [r2]; rfl), not_lv_at hpre hno, (hB.trans (hb.mono hB.size)).setCell (p := ⟨w.heap.size + 1, 0, none⟩) (by show w.heap.size ≤ w.heap.size + 1; omega) _⟩
      rw [(hBo b).1 hb']
      simpa [World.setCell] using hlt
    have hgo : LvNode (x, lv) → ∀ (W' : World), Below W.heap.size W W' → ∃ B' N' : Nat → Prop, Grew B B' W.heap.size W'.heap.size ∧ (∀ z, N' z → N z ∨ Y z) ∧ Holds B W W' ∧ (∀ z, B' z ↔ z = w.heap.size + 1) ∧ (∀ z, ¬ N' z) ∧ W'.heap[w.heap.size + 1]? = some (.cells #[.bool false] 4 (0, 0)) ∧ (∀ e ∈ pre ++ [(x, lv)], LvNode e) ∧ Below w.heap.size w W' := by
      intro hx W' hb
      have hr2 := HFIN.out W' hb
      refine ⟨B, fun _ => False, Grew.refl (fun b hb' => ?_), fun z hz => hz.elim, .of_below hb, hBo, fun _ h => h, hr2, fun e he => ?_, hB.trans (hb.mono hB.size)⟩
      · rw [(hBo b).1 hb']
        exact (Array.getElem?_eq_some_iff.1 hr2).1
      · rcases List.mem_append.1 he with he | he
        · exact hso e he
        · simp only [List.mem_singleton] at he
          subst he
          exact hx
    have HSTOP := Lib.hid hstop
    have HGO := Lib.hid hgo
    clear hso hpre hr hB k1 hG' HSL hbl hbw hI hxw hBo hNo hYB hs hlp hBl hG hstop hgo
    gi_wp2_with fail
    refine ⟨trivial, ?_⟩
    refine (CallsIn.inRound l (callsIn_wide.2 HC.out)).mono ?_
    rintro e W2 ⟨b, hb, rfl, hb2⟩
    have HBB := Lib.hid hb
    have HB2 := Lib.hid hb2
    have hr2 := HFIN.out W2 hb2
    have r3 := cell_of_blk hr2 0
    have rz3 := unfrozen_of_blk hr2 0
    simp only [List.getElem?_toArray, List.getElem?_cons_zero] at r3
    clear hb hb2 hr2
    cases b with
    | false =>
      gi_wp2_with fail
      obtain ⟨B', N', h1, h2, h3, h4, h5, h6, h7⟩ := HSTOP.out (fun h => by have := HBB.out.2 h; cases this) W2 _ HB2.out rfl
      exact ⟨B', N', h1, h2, h3, h4, rfl, h5, h6, h7⟩
    | true =>
      gi_wp2_with fail
      exact HGO.out (HBB.out.1 (by trivial)) W2 HB2.out
  case done =>
    rintro D B N W hD hne ⟨hBo, hNo, hr, hso, hB⟩ hK
    have r0 := cell_of_blk hr 0
    have rz := unfrozen_of_blk hr 0
    simp only [List.getElem?_toArray, List.getElem?_cons_zero] at r0
    have HV := Lib.hid ((levels_walk t n).2 hso)
    have HB := Lib.hid hB
    have hK' : (W.setCell ⟨w.heap.size + 1, 0, none⟩ (.bool true)).heap[D]? = some (.deferred (some [])) := (Below.heap_setCell _ _ _ _ (by show D ≠ w.heap.size + 1; omega)).trans hK
    clear hso hB hr hK k1 HSL hbl hbw hI hBo hNo hne
    gi_wp2_with fail
    refine ⟨by simp, .inl ⟨_, _, rfl, run_takeDeferred hK', ?_⟩⟩
    have hc := (World.cell?_of_block (a := ⟨w.heap.size + 1, 0, none⟩) (w' := (W.setCell ⟨w.heap.size + 1, 0, none⟩ (.bool true)).putObj D (.deferred none)) (World.putObj_heap_other (by show w.heap.size + 1 ≠ D; omega))).trans (World.cell?_setCell_same' W ⟨w.heap.size + 1, 0, none⟩ (.bool true) (by rw [r0]; rfl))
    refine ⟨.bool true, ?_, _, ⟨fun _ => HV.out, fun _ => rfl⟩, rfl, (HB.out.setCell (p := ⟨w.heap.size + 1, 0, none⟩) (by show w.heap.size ≤ w.heap.size + 1; omega) _).trans (below_putObj _ _ _ _ (by omega))⟩
    rw [results_cell1 rfl]
    go_simp
  case stop =>
    rintro D c pre B N W hD hne hpre ⟨hBo, rfl, hr, hv, hB⟩ hK
    have HB := Lib.hid hB
    have HV := Lib.hid hv
    clear hv hB k1 HSL hbl hbw hI hBo hne
    gi_wp2_with fail
    refine ⟨by simp, .inl ⟨_, _, rfl, run_takeDeferred hK, ?_⟩⟩
    have hc := (World.cell?_of_block (a := ⟨w.heap.size + 1, 0, none⟩) (w' := W.putObj D (.deferred none)) (World.putObj_heap_other (by show w.heap.size + 1 ≠ D; omega))).trans hr
    refine ⟨.bool false, ?_, _, ⟨fun h => by simp at h, fun h => absurd h HV.out⟩, rfl, HB.out.trans (below_putObj _ _ _ _ (by omega))⟩
    rw [results_cell1 rfl]
    go_simp
end Go.Proofs.YtfeijijeohfpgaaGreatDoor
