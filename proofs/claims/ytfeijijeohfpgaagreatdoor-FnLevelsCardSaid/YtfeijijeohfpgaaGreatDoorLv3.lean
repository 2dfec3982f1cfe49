/-
  Several texts of the proof in one (each says below what it holds): SpecEq RangeT Aid NodesT LoopW GrowA GrowE SpecErase SpecCopy OpenT TyMark EraseTypeLaw DrawT1 TmSpecCopy And.
-/
import Derived.Test.YtfeijijeohfpgaaGreatDoorLv1
import Derived.Test.YtfeijijeohfpgaaGreatDoorLv2
import Derived.RangeFuncKeeps
import Derived.RangeFuncLeaves
import Derived.RangeFuncNested
import Derived.RangeFuncBound
import Derived.RangeFuncCalls
import Derived.Shelf.Abstract
import Derived.IntWalk
import Derived.Shelf.RegionOpen
import Derived.WalkKit
import Derived.TacticsInMore
import Derived.LoopNIn
import Derived.LoopIn
import Derived.Sort.LoopGhostIn
import Derived.Deep.LoopGhost
import Derived.Deep.CutRange
import Derived.Deep.RegionHeldLaw
import Derived.Lib.SmallJoins
import Derived.Deep.RegionWith
import Derived.Deep.RegionHeld3
import Derived.Laws.Bits128
set_option linter.unusedVariables false
set_option linter.unusedSimpArgs false
namespace Go.Proofs.YtfeijijeohfpgaaGreatDoor
open Go Go.RowKit

theorem keep6 {w W w1 : World} {p1 p2 p3 p4 p5 p6 : Addr} {v1 v2 v3 v4 v5 v6 : Value} (hb1 : Below W.heap.size W w1) (h : W.cell? p1 = some v1 ∧ W.cell? p2 = some v2 ∧ W.cell? p3 = some v3 ∧ W.cell? p4 = some v4 ∧ W.cell? p5 = some v5 ∧ W.cell? p6 = some v6 ∧ Below w.heap.size w W) :
    w1.cell? p1 = some v1 ∧ w1.cell? p2 = some v2 ∧ w1.cell? p3 = some v3 ∧ w1.cell? p4 = some v4 ∧ w1.cell? p5 = some v5 ∧ w1.cell? p6 = some v6 ∧ Below w.heap.size w w1 := by
  have k : ∀ {p : Addr} {v : Value}, W.cell? p = some v → w1.cell? p = some v := fun h => (hb1.cell (World.block_lt_of_cell? W _ h)).trans h
  exact ⟨k h.1, k h.2.1, k h.2.2.1, k h.2.2.2.1, k h.2.2.2.2.1, k h.2.2.2.2.2.1, h.2.2.2.2.2.2.trans (hb1.mono h.2.2.2.2.2.2.size)⟩

set_option maxRecDepth 100000 in
set_option maxHeartbeats 2000000 in
theorem eqSp_any {w0 : World} {C C' : Nat → Prop} {ts : List Ty} {v : Value} (h : TS w0 C ts v) : ∀ (w : World) (q q2 : Int) (us : List Ty) (u : Value), Stays C w0 w → TS w C' us u →
    Calls Tryz.prog 185 #[.agg #[.int .i64 q, v], .agg #[.int .i64 q2, u]] w (BoolRet (fun b => b = true ↔ (q = q2 ∧ ts = us)) w) := by
  refine TS.ind (motive := fun ts v => ∀ (w : World) (q q2 : Int) (us : List Ty) (u : Value), Stays C w0 w → TS w C' us u →
    Calls Tryz.prog 185 #[.agg #[.int .i64 q, v], .agg #[.int .i64 q2, u]] w (BoolRet (fun b => b = true ↔ (q = q2 ∧ ts = us)) w)) ?_ h
  intro ts p c hl H w q q2 us u hst hu
  obtain ⟨p2, c2, rfl⟩ := hu.form
  have hl2 := hu.len
  have HH := Lib.hid H
  have HST := Lib.hid hst
  have HU := Lib.hid hu
  clear H hst hu
  have hb0 := ((Below.refl w.heap.size w).alloc (Nat.le_refl _) (Obj.cells #[.int .i64 q, .slice p ts.length c] 26)).alloc (by simp) (Obj.cells #[.int .i64 q2, .slice p2 us.length c2] 26)
  obtain ⟨wl, hwl⟩ : ∃ wl, (w.alloc (.cells #[.int .i64 q, .slice p ts.length c] 26)).alloc (.cells #[.int .i64 q2, .slice p2 us.length c2] 26) = wl := ⟨_, rfl⟩
  have k0 : wl.heap[w.heap.size]? = some (.cells #[.int .i64 q, .slice p ts.length c] 26 (0, 0)) := by
    rw [← hwl, Below.heap_alloc _ _ _ (by simp)]; exact blk_new _ _
  have k1 : wl.heap[w.heap.size + 1]? = some (.cells #[.int .i64 q2, .slice p2 us.length c2] 26 (0, 0)) := by
    rw [← hwl]
    have := blk_new (w.alloc (.cells #[.int .i64 q, .slice p ts.length c] 26)) (.cells #[.int .i64 q2, .slice p2 us.length c2] 26)
    rwa [World.size_alloc] at this
  have hwsz : wl.heap.size = w.heap.size + 2 := by rw [← hwl]; simp
  rw [hwl] at hb0
  have HB0 := Lib.hid hb0
  have HK0 := Lib.hid k0
  have HK1 := Lib.hid k1
  have HWL := Lib.hid hwl
  clear hb0 k0 k1 hwl
  go_enter Tryz.func185, Tryz.ntmps185
  by_cases hq : q = q2
  · subst hq
    by_cases hlen : ts.length = us.length
    · have HL := Lib.hid hlen
      rw [hlen] at hl ⊢
      clear hlen hl2
      go_wp2_with fail
      go_loopw [5] (fun i wr => ∃ (k : Nat), k ≤ us.length ∧ i = .int .i64 k ∧ ts.take k = us.take k ∧ Below wl.heap.size wl wr) (fun i _ => us.length - (intOf i).toNat)
      case atStart =>
        have e := HWL.out
        rw [HL.out] at e
        exact ⟨0, Nat.zero_le _, rfl, by simp, by rw [e]; exact Below.refl _ _⟩
      case round =>
        obtain ⟨k, hk, rfl, htk, hbr⟩ := hrel
        have HTK := Lib.hid htk
        have HBW := Lib.hid hbr
        have hbr' : Below w.heap.size w wr := HB0.out.trans (hbr.mono HB0.out.size)
        have d0 := cell_of_blk ((hbr.block _ (by omega)).trans HK0.out) 1
        have d1 := cell_of_blk ((hbr.block _ (by omega)).trans HK1.out) 1
        simp only [List.getElem?_toArray, List.getElem?_cons_zero, List.getElem?_cons_succ] at d0 d1
        rw [HL.out] at d0
        have HB := Lib.hid hbr'
        clear htk hbr
        by_cases hlk2 : k < us.length
        · have hlk : k < ts.length := by rw [HL.out]; exact hlk2
          obtain ⟨b, o, p', c', rfl, hcs, hT, hI⟩ := HH.out k _ (List.getElem?_eq_getElem hlk)
          obtain ⟨b2, o2, p2', c2', rfl, hcs2, hT2⟩ := HU.out.at k _ (List.getElem?_eq_getElem hlk2)
          obtain ⟨c1, c2x⟩ := hcs wr (HST.out.trans (Stays.of_below hbr'))
          obtain ⟨c3, c4⟩ := hcs2 wr (Stays.of_below hbr')
          have HC := Lib.hid (fun (W : World) (hW : Below w.heap.size w W) => hI W ts[k].kind us[k].kind _ _ (HST.out.trans (Stays.of_below hW)) (hT2.keep hW))
          have i0 : (0 : Int) ≤ (k : Int) := Int.natCast_nonneg _
          have i1 : (k : Int) < (us.length : Int) := by omega
          clear hcs hcs2 hT hT2 hI
          go_wp2_with fail
          go_region_held3 (fun w' => w'.cell? ⟨w.heap.size, 1, none⟩ = some (.slice (some ⟨b, o, none⟩) us.length c) ∧ w'.cell? ⟨w.heap.size + 1, 1, none⟩ = some (.slice (some ⟨b2, o2, none⟩) us.length c2) ∧ w'.cell? ⟨b, o + k * 2, none⟩ = some (.int .i64 ts[k].kind) ∧ w'.cell? ⟨b, o + k * 2 + 1, none⟩ = some (.slice p' ts[k].args.length c') ∧ w'.cell? ⟨b2, o2 + k * 2, none⟩ = some (.int .i64 us[k].kind) ∧ w'.cell? ⟨b2, o2 + k * 2 + 1, none⟩ = some (.slice p2' us[k].args.length c2') ∧ Below w.heap.size w w')
            (first
              | (go_keep; done)
              | exact ⟨by simp [*], by simp [*], by simp [*], by simp [*], by simp [*], by simp [*], hbr'.drew⟩
              | exact keep6 hb1 (by assumption))
            (first | (go_at_call 185; refine (HC.out _ hbr'.drew).mono ?_; rintro e w1 ⟨r, hr, rfl, hb1⟩))
          rename_i hH
          have HB1 := Lib.hid (HBW.out.trans ((Below.refl wr.heap.size wr).drew.trans hb1 |>.mono HBW.out.size))
          have HR := Lib.hid hr
          clear hH hb1 c1 c2x c3 c4 hr d0 d1
          cases r with
          | true =>
            go_wp2_with fail
            go_roundw
            case rel => exact ⟨k + 1, by omega, by go_num, take_eq_next HTK.out hlk hlk2 (HR.out.1 rfl), HB1.out⟩
            case measure => simp [intOf]; omega
          | false =>
            go_wp2_with fail
            go_ret
            exact ⟨false, by simpa using ne_of_at hlk hlk2 (fun e => by simpa using HR.out.2 e), rfl, HB0.out.trans (HB1.out.mono HB0.out.size)⟩
        · obtain rfl : k = us.length := by omega
          have htk : ts = us := by
            have := HTK.out
            rw [← HL.out, List.take_length, HL.out, List.take_length] at this
            exact this
          have HE := Lib.hid htk
          clear htk
          go_wp2_with fail
          go_ret
          exact ⟨true, by simpa using HE.out, rfl, HB.out⟩
    · have HN := Lib.hid (fun e => hlen (by rw [e]) : ¬ ts = us)
      have HBx := HB0
      rw [← HWL.out] at HBx
      go_wp2_with fail
      go_ret
      exact ⟨false, by simpa using HN.out, rfl, HBx.out⟩
  · have HN := Lib.hid hq
    have HBx := HB0
    rw [← HWL.out] at HBx
    go_wp2_with fail
    go_ret
    exact ⟨false, by simpa using fun e => absurd e HN.out, rfl, HBx.out⟩
theorem eqSpT_any {C C' : Nat → Prop} {t u : Ty} {v x : Value} {w : World} (h : TT w C t v) (h2 : TT w C' u x) :
    Calls Tryz.prog 185 #[v, x] w (BoolRet (fun b => b = true ↔ t = u) w) := by
  obtain ⟨s, rfl, h⟩ := h
  obtain ⟨s2, rfl, h2⟩ := h2
  refine (eqSp_any h w t.kind u.kind u.args s2 (Stays.refl _ _) h2).mono ?_
  rintro e w' ⟨b, hb, he, hw⟩
  exact ⟨b, hb.trans ⟨fun h => Ty.ext h.1 h.2, fun h => by rw [h]; exact ⟨rfl, rfl⟩⟩, he, hw⟩
end Go.Proofs.YtfeijijeohfpgaaGreatDoor
namespace Go.Proofs.YtfeijijeohfpgaaGreatDoor
open Go Go.RowKit
def Holds (Cb : Nat → Prop) (w w' : World) : Prop := w.heap.size ≤ w'.heap.size ∧ ∀ b, b < w.heap.size → ¬ Cb b → w'.heap[b]? = w.heap[b]?
theorem Holds.refl (Cb : Nat → Prop) (w : World) : Holds Cb w w := ⟨Nat.le_refl _, fun _ _ _ => rfl⟩
theorem Holds.trans {Cb : Nat → Prop} {a b c : World} (h : Holds Cb a b) (k : Holds Cb b c) : Holds Cb a c :=
  ⟨Nat.le_trans h.1 k.1, fun i hi hc => (k.2 i (Nat.lt_of_lt_of_le hi h.1) hc).trans (h.2 i hi hc)⟩
theorem Holds.of_below {Cb : Nat → Prop} {w w' : World} (h : Below w.heap.size w w') : Holds Cb w w' := ⟨h.size, fun b hb _ => h.block b hb⟩
theorem Holds.setCell {Cb : Nat → Prop} {w w' : World} (h : Holds Cb w w') (p : Addr) (hp : Cb p.block) (v : Value) : Holds Cb w (w'.setCell p v) :=
  h.trans ⟨((Below.refl p.block w').setCell (Nat.le_refl _) v).size, fun b _ hc => Below.heap_setCell _ _ _ _ (fun e => hc (by rw [e]; exact hp))⟩
def SeqT {α β : Type} (F : Fence) (n : Nat) (P : Program) (g : Nat) (lb : Array Value) (encs : α → Array Value) (key : α → β) (Good : α → World → Prop) (Cb : Nat → Prop) (all : List β) (w : World) : Prop :=
  ∀ (l : Nat) (J Jx : List β → World → Prop) (W : World), Below w.heap.size w W → (∀ pre A B, J pre A → Below W.heap.size A B → J pre B) →
    (∀ pre x W1, J pre W1 → pre ++ [key x] <+: all → Good x W1 → YieldAt F (n - 1) P l (encs x) W1 fun e W' =>
      (e = .returned (.bool true) ∧ J (pre ++ [key x]) W' ∧ Holds Cb W1 W') ∨ (e = .returned (.bool false) ∧ Jx (pre ++ [key x]) W')) →
    J [] W →
    CallsIn F n P g (#[.func (.yield l) #[] #[]] ++ lb) W fun e W' => (∃ v, e = .returned v) ∧ (J all W' ∨ ∃ pre, pre <+: all ∧ Jx pre W')
def postT {β : Type} (Cb : Nat → Prop) (I : List β → World → Prop) (Ix : Code → List β → World → Prop) (xs : List β) (W : World) : Exit → Act → World → Prop
  | .normal, _, W' => Holds Cb W W' ∧ I xs W'
  | .ret, _, W' => Holds Cb W W' ∧ Ix .ret xs W'
  | .exit id, _, W' => Holds Cb W W' ∧ Ix (.exit id) xs W'
  | .goto t, _, W' => Holds Cb W W' ∧ Ix (.goto t) xs W'
  | .panic _, _, _ => False
  | .outgrown, _, _ => False

theorem below_putObj (n : Nat) (W : World) (l : Nat) (o : Obj) (h : n ≤ l) : Below n W (W.putObj l o) :=
  ⟨rfl, rfl, rfl, by simp, fun k hk => World.putObj_heap_other (by omega)⟩

variable {F : Fence} {n : Nat} {P : Program}
theorem range_law {α β : Type} {g : Operand} {ps : Array Tmp} {assign body : Code} {Q : Exit → Act → World → Prop} {a : Act} {w : World}
    (hro : F.round = none) (h1 : 1 ≤ n) {gf : Nat} {lb : Array Value} (hg : a.eval g = .func (.func gf) #[] lb) (hFg : F.fn gf) (eg : ∀ args w, (callFunc gf args).run P w = .ok (.enter gf args) w)
    {encs : α → Array Value} {key : α → β} {Good : α → World → Prop} {Cb : Nat → Prop} {all : List β} (hseq : SeqT F (n - 1) P gf lb encs key Good Cb all w) (hps : ∀ x, (encs x).size = ps.size) (hCb : ∀ b, Cb b → b < w.heap.size)
    (I : List β → World → Prop) (Ix : Code → List β → World → Prop) (hI : ∀ pre A B, I pre A → Below w.heap.size A B → I pre B) (hIx : ∀ c pre A B, Ix c pre A → Below w.heap.size A B → Ix c pre B)
    (hG : ∀ x A B, Good x A → Below w.heap.size A B → Good x B) (h0 : I [] w)
    (Ax : α → Act → World → Prop) (hAx : ∀ x a' W l r o, Ax x a' W → W.heap[l]? = some (.loop r) → Ax x a' (W.putObj l o))
    (hassign : ∀ (l : Nat) (x : α) (W : World) (K : Act → World → Prop), Good x W → (∀ a' W', Below W.heap.size W W' → Ax x a' W' → K a' W') →
      assign.wpIn (F.inRound l) (n - 1 - 1) P (Exit.then K (fun _ _ _ => False)) { tmps := (ps.zip (encs x)).foldl (fun t (p, v) => t.setIfInBounds p v) a.tmps, defers := [] } W)
    (hbody : ∀ (l : Nat) (pre : List β) (x : α) (a' : Act) (W : World), I pre W → pre ++ [key x] <+: all → Good x W → Ax x a' W → body.wpIn (F.inRound l) (n - 1 - 1) P (postT Cb I Ix (pre ++ [key x]) W) a' W)
    (hdone : ∀ (D : Nat) (W : World), w.heap.size ≤ D → I all W → W.heap[D]? = some (.deferred (some [])) → Q .normal { a with defers := { target := .collected D, args := #[] } :: a.defers } W)
    (hstop : ∀ (D : Nat) (c : Code) (pre : List β) (W : World), w.heap.size ≤ D → pre <+: all → Ix c pre W → W.heap[D]? = some (.deferred (some [])) → c.wpIn F n P Q { a with defers := { target := .collected D, args := #[] } :: a.defers } W) :
    (Code.rangeFunc g ps assign body).wpIn F n P Q a w := by
  refine wpIn_rangeFunc (fun fn hfn => ?_)
  rw [hro]
  -- the record of the loop, in its three states
  let rec_ : LoopState → Option Code → Loop := fun st pe => { state := st, pending := pe, fn, tmps := a.tmps, params := ps, assign, body, defers := w.heap.size }
  let w1 := (w.alloc (.deferred (some []))).alloc (.loop (rec_ .ready none))
  have hs1 : w1.heap.size = w.heap.size + 2 := by simp [w1]
  have hb1 : Below w.heap.size w w1 := ((Below.refl _ w).alloc (Nat.le_refl _) _).alloc (by simp) _
  have hl1 : w1.heap[w.heap.size + 1]? = some (.loop (rec_ .ready none)) := by
    have := World.alloc_heap_new (w.alloc (.deferred (some []))) (.loop (rec_ .ready none))
    rwa [World.size_alloc] at this
  have hd1 : w1.heap[w.heap.size]? = some (.deferred (some [])) := (Below.heap_alloc _ _ _ (by simp)).trans (World.alloc_heap_new w _)
  refine ⟨w.heap.size + 1, [{ target := .collected w.heap.size, args := #[] }], w1, { target := .fn (.func gf) lb, args := #[.func (.yield (w.heap.size + 1)) #[] #[]] }, w1, gf,
    #[.func (.yield (w.heap.size + 1)) #[] #[]] ++ lb, w1, run_enterLoop_outer _ _ _ _ _, by simp only [resolve, hg]; simp [go_sem], fun f' hf' => by simp [Target.leads] at hf'; subst hf'; exact hFg, by simp [invoke, go_sem, eg], fun _ => h1, ?_⟩
  have still : ∀ {A B : World} {k : Nat} {o : Obj}, Below w1.heap.size A B → k < w1.heap.size → A.heap[k]? = some o → B.heap[k]? = some o := fun hb hk h => (hb.block _ hk).trans h
  refine (hseq (w.heap.size + 1)
    (fun pre W => I pre W ∧ W.heap[w.heap.size + 1]? = some (.loop (rec_ .ready none)) ∧ W.heap[w.heap.size]? = some (.deferred (some [])))
    (fun pre W => ∃ c, Ix c pre W ∧ W.heap[w.heap.size + 1]? = some (.loop (rec_ .done (some c))) ∧ W.heap[w.heap.size]? = some (.deferred (some [])))
    w1 hb1 (fun pre A B h hb => ⟨hI pre A B h.1 (hb.mono (by omega)), still hb (by omega) h.2.1, still hb (by omega) h.2.2⟩) ?_ ⟨hI _ _ _ h0 hb1, hl1, hd1⟩).mono ?_
  · -- one round
    rintro pre x W ⟨hi, hl, hd⟩ hpre hgood
    have hy := run_yield (P := P) (args := encs x) hl (hps x)
    refine ⟨fn, _, assign, body, hy, roundIn_of_wpIn hfn (hassign _ x W _ hgood (fun a' Wa hba hax => ?_))⟩
    have hlt : w.heap.size + 1 < W.heap.size := (Array.getElem?_eq_some_iff.1 hl).1
    have hla : Wa.heap[w.heap.size + 1]? = some (.loop (rec_ .ready none)) := (hba.block _ hlt).trans hl
    have hda : Wa.heap[w.heap.size]? = some (.deferred (some [])) := (hba.block _ (by omega)).trans hd
    refine ⟨_, run_beginRound hla rfl, ?_⟩
    have hlta : w.heap.size + 1 < Wa.heap.size := (Array.getElem?_eq_some_iff.1 hla).1
    let busy : Loop := { rec_ .ready none with state := .busy }
    let Wb := Wa.putObj (w.heap.size + 1) (.loop busy)
    have hbb : Below w.heap.size Wa Wb := below_putObj _ _ _ _ (by omega)
    have hlb : Wb.heap[w.heap.size + 1]? = some (.loop busy) := World.putObj_heap_same hlta
    have hdb : Wb.heap[w.heap.size]? = some (.deferred (some [])) := (World.putObj_heap_other (by omega)).trans hda
    have hbwb := (hba.mono (Nat.le_of_lt (by omega : w.heap.size < W.heap.size))).trans hbb
    refine wpIn_mono (hbody _ pre x a' Wb (hI _ _ _ hi hbwb) hpre (hG _ _ _ hgood hbwb) (hAx _ _ _ _ _ _ hax hla)) ?_
    have fin : ∀ (jump : Option Code) (W3 : World), Holds Cb Wb W3 →
        (Instr.endRound (w.heap.size + 1) jump).run P W3 = .ok (.bool jump.isNone) (W3.putObj (w.heap.size + 1) (.loop (rec_ (if jump.isNone then .ready else .done) jump))) ∧
        Below w.heap.size W3 (W3.putObj (w.heap.size + 1) (.loop (rec_ (if jump.isNone then .ready else .done) jump))) ∧
        (W3.putObj (w.heap.size + 1) (.loop (rec_ (if jump.isNone then .ready else .done) jump))).heap[w.heap.size + 1]? = some (.loop (rec_ (if jump.isNone then .ready else .done) jump)) ∧
        (W3.putObj (w.heap.size + 1) (.loop (rec_ (if jump.isNone then .ready else .done) jump))).heap[w.heap.size]? = some (.deferred (some [])) := fun jump W3 hk => by
      have hwb : Wb.heap.size = Wa.heap.size := by simp [Wb]
      have h3 : W3.heap[w.heap.size + 1]? = some (.loop busy) := (hk.2 _ (by omega) (fun hc => by have := hCb _ hc; omega)).trans hlb
      have hd3 : W3.heap[w.heap.size]? = some (.deferred (some [])) := (hk.2 _ (by omega) (fun hc => by have := hCb _ hc; omega)).trans hdb
      exact ⟨run_endRound (P := P) jump h3, below_putObj _ _ _ _ (by omega), World.putObj_heap_same (Array.getElem?_eq_some_iff.1 h3).1, (World.putObj_heap_other (by omega)).trans hd3⟩
    have whole : ∀ W3, Holds Cb Wb W3 → Holds Cb W (W3.putObj (w.heap.size + 1) (.loop (rec_ .ready none))) := fun W3 hk => by
      have hwb : Wb.heap.size = Wa.heap.size := by simp [Wb]
      have hsz := hba.size
      refine ⟨by have := hk.1; simp; omega, fun b hb hc => ?_⟩
      by_cases e : b = w.heap.size + 1
      · subst e
        rw [World.putObj_heap_same (by have := hk.1; omega)]; exact hl.symm
      · rw [World.putObj_heap_other e, hk.2 b (by omega) hc, World.putObj_heap_other e, hba.block b hb]
    rintro e a3 W3 hp
    cases e with
    | normal =>
      obtain ⟨hk, hi3⟩ := hp
      obtain ⟨hr, hb3, hl3, hd3⟩ := fin none W3 hk
      exact ⟨_, _, hr, .inl ⟨rfl, ⟨hI _ _ _ hi3 hb3, hl3, hd3⟩, whole W3 hk⟩⟩
    | ret =>
      obtain ⟨hk, hi3⟩ := hp
      obtain ⟨hr, hb3, hl3, hd3⟩ := fin (some .ret) W3 hk
      exact ⟨_, _, hr, .inr ⟨rfl, .ret, hIx _ _ _ _ hi3 hb3, hl3, hd3⟩⟩
    | exit id =>
      obtain ⟨hk, hi3⟩ := hp
      obtain ⟨hr, hb3, hl3, hd3⟩ := fin (some (.exit id)) W3 hk
      exact ⟨_, _, hr, .inr ⟨rfl, .exit id, hIx _ _ _ _ hi3 hb3, hl3, hd3⟩⟩
    | goto t =>
      obtain ⟨hk, hi3⟩ := hp
      obtain ⟨hr, hb3, hl3, hd3⟩ := fin (some (.goto t)) W3 hk
      exact ⟨_, _, hr, .inr ⟨rfl, .goto t, hIx _ _ _ _ hi3 hb3, hl3, hd3⟩⟩
    | panic ch => exact hp.elim
    | outgrown => exact hp.elim
  · -- the iterator has returned
    rintro e W2 ⟨⟨v, rfl⟩, (⟨hi, hl, hd⟩ | ⟨pre, hpre, c, hi, hl, hd⟩)⟩
    · exact ⟨none, _, run_endLoop (P := P) hl (by simp [rec_]), hdone _ _ (Nat.le_refl _) (hI _ _ _ hi (below_putObj _ _ _ _ (by omega))) ((World.putObj_heap_other (by omega)).trans hd)⟩
    · exact ⟨some c, _, run_endLoop (P := P) hl (by simp [rec_]), hstop _ c pre _ (Nat.le_refl _) hpre (hIx _ _ _ _ hi (below_putObj _ _ _ _ (by omega))) ((World.putObj_heap_other (by omega)).trans hd)⟩
end Go.Proofs.YtfeijijeohfpgaaGreatDoor
namespace Go.Proofs.YtfeijijeohfpgaaGreatDoor
open Go Go.RowKit

theorem snoc_cases {α : Type} (l : List α) : l = [] ∨ ∃ l0 e, l = l0 ++ [e] := by
  rcases List.eq_nil_or_concat l with h | ⟨l0, e, h⟩
  · exact Or.inl h
  · exact Or.inr ⟨l0, e, by rw [h, List.concat_eq_append]⟩
theorem keepApp {w0 w' : World} {base : Nat} {e : TypeId} {size n : Nat} {v : Value} {xs cs : List Value} {g cap : Nat} (hA : Appd w0 w' base e size v n xs cs g cap) {p : Addr} {u : Value} (h : w0.cell? p = some u) (hne : v.ownBlock ≠ some p.block) : w'.cell? p = some u :=
  (World.cell?_of_block (hA.kept p.block (World.block_lt_of_cell? w0 _ h) hne).1).trans h

end Go.Proofs.YtfeijijeohfpgaaGreatDoor
namespace Go.Proofs.YtfeijijeohfpgaaGreatDoor
open Go Go.RowKit Go.Shelf
attribute [local go_sem] Oper.semAt_some

abbrev LT (w : World) (C : Nat → Prop) (l : List Ty) (v : Value) : Prop := TS w C l v
abbrev NT (w : World) (C : Nat → Prop) (t : Ty) (v : Value) : Prop := TT w C t v
structure At2 (w : World) (b o : Nat) (t : Ty) (p : Option Addr) (c : Nat) : Prop where
  kind : w.cell? ⟨b, o, none⟩ = some (.int .i64 t.kind)
  args : w.cell? ⟨b, o + 1, none⟩ = some (.slice p t.args.length c)
theorem ntT_mk {w : World} {C : Nat → Prop} {t : Ty} {p : Option Addr} {c : Nat} (h : TS w C t.args (.slice p t.args.length c)) : NT w C t (.agg #[.int .i64 t.kind, .slice p t.args.length c]) := ⟨_, rfl, h⟩
abbrev TS' (w : World) (C : Nat → Prop) (t : Ty) (p : Option Addr) (c : Nat) : Prop := TS w C t.args (.slice p t.args.length c)

mutual
def walkT : Ty → Nat → List (Ty × Nat)
  | .mk k ts, d => (.mk k ts, d) :: walkST ts (d + 1)
def walkST : List Ty → Nat → List (Ty × Nat)
  | [], _ => []
  | t :: ts, d => walkT t d ++ walkST ts d
end
theorem walkT_eq (t : Ty) (d : Nat) : walkT t d = (t, d) :: walkST t.args (d + 1) := by cases t; rfl
theorem walkST_one (t : Ty) (d : Nat) : walkST [t] d = walkT t d := by simp [walkST]
mutual
theorem walkT_length : ∀ (t : Ty) (d : Nat), (walkT t d).length = t.nodes
  | .mk k ts, d => by simp only [walkT, List.length_cons, walkST_length ts, Ty.nodes]; omega
theorem walkST_length : ∀ (ts : List Ty) (d : Nat), (walkST ts d).length = nodesS ts
  | [], d => by simp [walkST, nodesS]
  | t :: ts, d => by simp only [walkST, List.length_append, walkST_length ts, walkT_length t, nodesS]
end
abbrev WaitT := List (List Ty × Value)
def rWT : WaitT → List (Ty × Nat)
  | [] => []
  | e :: r => walkST e.1 (r.length + 1) ++ rWT r
def stWalkT (st : WaitT) : List (Ty × Nat) := rWT st.reverse
theorem stWalkT_snoc (st : WaitT) (e : List Ty × Value) : stWalkT (st ++ [e]) = walkST e.1 (st.length + 1) ++ stWalkT st := by simp [stWalkT, rWT]
theorem stWalkT_nil : stWalkT [] = [] := rfl

theorem wsndT_last (st : WaitT) (e : List Ty × Value) : ((st ++ [e]).map (·.2))[st.length]? = some e.2 := by simp
theorem wsndT_take (st : WaitT) (e : List Ty × Value) : ((st ++ [e]).map (·.2)).take (st.length * 1) = st.map (·.2) := by simp
theorem wsndT_set (st : WaitT) (e : List Ty × Value) (l : List Ty) (u : Value) : ((st ++ [e]).map (·.2)).set st.length u = (st ++ [(l, u)]).map (·.2) := by
  simp

theorem infoLT : (Tryz.prog.info? 24).map (fun i => (i.zero, i.size, i.bytes)) = some (some (.slice none 0 0), 1, 24) := by kernel_rfl
structure MidT (W wr : World) (C : Nat → Prop) (t : Ty) (p : Option Addr) (c : Nat) (J : List (Ty × Nat) → World → Prop) (pre : List (Ty × Nat)) (st : WaitT) (g cap : Nat) : Prop where
  own : wr.ownsRow (W.heap.size + 1) 24 1 (.slice (some ⟨g, 0, none⟩) st.length cap) st.length (st.map (·.2))
  j : J pre wr
  ts : ∀ e ∈ st, LT W C e.1 e.2 ∨ e = ([t], .slice (some ⟨W.heap.size, 0, none⟩) 1 1)
  stays : Stays C W wr
  size : W.heap.size ≤ wr.heap.size
  root : wr.heap[W.heap.size]? = some (.cells #[.int .i64 t.kind, .slice p t.args.length c] 26 (0, 0))
  node : TS' W C t p c
  cnt : st.length ≤ pre.length + 1

theorem MidT.lt {W wr : World} {C : Nat → Prop} {t : Ty} {p : Option Addr} {c : Nat} {J : List (Ty × Nat) → World → Prop} {pre : List (Ty × Nat)} {st : WaitT} {g cap : Nat} (h : MidT W wr C t p c J pre st g cap) : W.heap.size < wr.heap.size := (Array.getElem?_eq_some_iff.1 h.root).1
theorem MidT.open {W wr : World} {C : Nat → Prop} {t : Ty} {p : Option Addr} {c : Nat} {J : List (Ty × Nat) → World → Prop} {pre : List (Ty × Nat)} {st : WaitT} {g cap : Nat} {x : Ty} {l : List Ty} {v : Value} (h : MidT W wr C t p c J pre (st ++ [(x :: l, v)]) g cap) :
    ∃ (b o c : Nat) (p' : Option Addr) (c' : Nat), v = .slice (some ⟨b, o, none⟩) (l.length + 1) c ∧ l.length + 1 ≤ c ∧ c ≤ 9223372036854775807 ∧ (C b ∨ b = W.heap.size) ∧ b < wr.heap.size ∧
      At2 wr b o x p' c' ∧ TS' W C x p' c' ∧ ∀ q, (l ≠ [] → q = some ⟨b, o + 2, none⟩) → LT W C l (.slice q l.length (c - 1)) := by
  rcases h.ts (x :: l, v) (by simp) with hT | he
  · simp only at hT
    cases hT with
    | @cons _ b o c S h1 hc hm hC hb hk hs hr =>
      obtain ⟨p', c', hf⟩ := (hr 0 x rfl).form
      have e0 := hk 0 x rfl
      have e1 := hs 0 x rfl
      rw [Nat.zero_mul, Nat.add_zero] at e0 e1
      rw [hf] at e1
      have hkeep : ∀ i u, W.cell? ⟨b, i, none⟩ = some u → wr.cell? ⟨b, i, none⟩ = some u := fun i u hu => (World.cell?_of_block (w := W) (a := ⟨b, i, none⟩) (h.stays.2 b hC hb)).trans hu
      refine ⟨b, o, c, p', c', rfl, hc, hm, Or.inl hC, Nat.lt_of_lt_of_le hb h.size, ⟨hkeep _ _ e0, hkeep _ _ e1⟩, (by show TS W C x.args _; rw [← hf]; exact hr 0 x rfl), fun q hq => ?_⟩
      by_cases hl : l = []
      · subst hl; exact .nil _ _
      · rw [hq hl]
        have hl1 : 1 ≤ l.length := by cases l with | nil => exact absurd rfl hl | cons => simp
        refine .cons (fun j => S (j + 1)) hl1 (by simp only [List.length_cons] at hc; omega) (by omega) hC hb (fun j y hj => ?_) (fun j y hj => ?_) (fun j y hj => hr (j + 1) y (by simpa using hj))
        · have := hk (j + 1) y (by simpa using hj)
          rw [show o + (j + 1) * 2 = o + 2 + j * 2 by omega] at this; exact this
        · have := hs (j + 1) y (by simpa using hj)
          rw [show o + (j + 1) * 2 = o + 2 + j * 2 by omega] at this; exact this
  · simp only [Prod.mk.injEq, List.cons.injEq] at he
    obtain ⟨⟨rfl, rfl⟩, rfl⟩ := he
    refine ⟨W.heap.size, 0, 1, p, c, rfl, by simp, by omega, Or.inr rfl, h.lt, ?_, h.node, fun q hq => ?_⟩
    · have hr := h.root
      exact ⟨cell_of_blk hr 0, cell_of_blk hr 1⟩
    · exact .nil _ _

theorem argsT_any (k : Int) (p : Option Addr) (n c : Nat) (w : World) : Calls Tryz.prog 124 #[.agg #[.int .i64 k, .slice p n c]] w fun e w' => e = .returned (.slice p n c) ∧ Below w.heap.size w w' := by
  go_enter Tryz.func124, Tryz.ntmps124
  go_wp2
  go_ret
  exact ⟨rfl, (Below.refl _ _).alloc (Nat.le_refl _) _⟩

set_option maxRecDepth 100000 in
set_option maxHeartbeats 4000000 in
theorem nodesT_it (l Bt Bp : Nat) (t : Ty) (p : Option Addr) (c : Nat) (Cb C : Nat → Prop) (W : World) (J Jx : List (Ty × Nat) → World → Prop)
    (hBt : W.heap[Bt]? = some (.cells #[.int .i64 t.kind, .slice p t.args.length c] 26 (0, 0))) (hBp : W.heap[Bp]? = some (.cells #[.func (.func 124) #[] #[]] 141 (0, 0))) (hT : TS' W C t p c) (hn : t.nodes ≤ 2097153)
    (hCb : ∀ b, Cb b → b < W.heap.size) (hC : ∀ b, C b → ¬ Cb b ∧ b < W.heap.size) (hCp : C Bp)
    (hJ : ∀ pre A B, J pre A → Below W.heap.size A B → J pre B)
    (hY : ∀ pre x v d W1, J pre W1 → pre ++ [(x, d)] <+: walkT t 1 → NT W1 C x v → YieldAt Fence.wide 0 Tryz.prog l #[v, .int .i64 (d : Nat)] W1 fun e W' =>
      (e = .returned (.bool true) ∧ J (pre ++ [(x, d)]) W' ∧ Holds Cb W1 W') ∨ (e = .returned (.bool false) ∧ Jx (pre ++ [(x, d)]) W'))
    (h0 : J [] W) :
    CallsIn Fence.wide 1 Tryz.prog 213 #[.func (.yield l) #[] #[], .pointer (some ⟨Bt, 0, none⟩), .pointer (some ⟨Bp, 0, none⟩)] W fun e W' =>
      (∃ v, e = .returned v) ∧ (J (walkT t 1) W' ∨ ∃ pre, pre <+: walkT t 1 ∧ Jx pre W') := by
  obtain ⟨i0, hi, hz0, hz1, hz2⟩ := info_parts infoLT
  have HT := Lib.hid hT
  have HY := Lib.hid hY
  have HJ := Lib.hid hJ
  have HJ0 := Lib.hid h0
  have HCb := Lib.hid hCb
  have HC := Lib.hid hC
  have HCP := Lib.hid hCp
  have HBP := Lib.hid hBp
  have HN := Lib.hid hn
  have k0 := cell_of_blk hBt 0
  have k1 := cell_of_blk hBt 1
  have kp := cell_of_blk hBp 0
  simp only [List.getElem?_toArray, List.getElem?_cons_zero, List.getElem?_cons_succ] at k0 k1 kp
  clear hT hY hJ h0 hCb hC hBt hBp hn
  refine callsIn_of_wp Tryz.func213 rfl trivial ?_ rfl
  simp only [Tryz.ntmps213, List.size_toArray, List.length_cons, List.length_nil, Nat.reduceAdd, Nat.reduceSub, Array.replicate_succ, Array.replicate_zero, List.push_toArray, List.append_toArray, List.nil_append, List.cons_append]
  gi_wp2_with fail
  gi_loopg [4] (2 * (walkT t 1).length + 1) (fun k v wr => ∃ (pre : List (Ty × Nat)) (st : WaitT) (g cap : Nat), v = .slice (some ⟨g, 0, none⟩) st.length cap ∧ k = 2 * (stWalkT st).length + st.length ∧ pre ++ stWalkT st = walkT t 1 ∧ MidT W wr C t p c J pre st g cap)
  case atStart =>
    refine ⟨[], [([t], .slice (some ⟨W.heap.size, 0, none⟩) 1 1)], W.heap.size + 1, 1, rfl, by simp [stWalkT, rWT, walkST_one], by simp [stWalkT, rWT, walkST_one], ?_⟩
    have hb : Below W.heap.size W ((W.alloc (.cells #[.int .i64 t.kind, .slice p t.args.length c] 26)).alloc (.cells #[.slice (some ⟨W.heap.size, 0, none⟩) 1 1] 24)) := ((Below.refl _ W).alloc (Nat.le_refl _) _).alloc (by simp) _
    refine ⟨?_, HJ.out _ _ _ HJ0.out hb, ?_, .of_below hb, hb.size, ?_, HT.out, by simp⟩
    · have h1 := World.ownsRow_lit (base := W.heap.size + 1) (e := 24) (size := 1) (W.alloc (.cells #[.int .i64 t.kind, .slice p t.args.length c] 26)) #[.slice (some ⟨W.heap.size, 0, none⟩) 1 1] 1 (by simp) (by unfold maxLen; omega) rfl
      rw [show (W.alloc (.cells #[.int .i64 t.kind, .slice p t.args.length c] 26)).heap.size = W.heap.size + 1 by simp] at h1
      exact h1
    · intro e he
      simp only [List.mem_singleton] at he
      exact Or.inr he
    · rw [Below.heap_alloc _ _ _ (by simp)]
      exact blk_new _ _
  case round =>
    rename World => wo
    obtain ⟨pre, st, g, cap, rfl, rfl, hord, hM⟩ := hrel
    rcases snoc_cases st with rfl | ⟨st0, ⟨ls, sl⟩, rfl⟩
    · have HM := Lib.hid hM
      have HO := Lib.hid hord
      clear hM hord
      gi_wp2
      go_end0
      have hp : pre = walkT t 1 := by have := HO.out; simpa [stWalkT, rWT] using this
      exact ⟨⟨_, rfl⟩, .inl (hp ▸ HM.out.j)⟩
    · have hlen : (st0 ++ [((ls, sl) : List Ty × Value)]).length = st0.length + 1 := by simp
      have hown := hM.own
      rw [hlen] at hown
      rw [hlen]
      obtain ⟨hcap1, hcap2, hg1, hg2⟩ := row_cap hown
      have k0 := (hown.cellAt st0.length (by omega)).trans (wsndT_last st0 _)
      have kz := hown.frozenAt st0.length
      simp only at k0
      unfold maxLen at hcap2
      have i0' : (0 : Int) ≤ (st0.length : Int) := Int.natCast_nonneg _
      have i1' : (st0.length : Int) < ((st0.length : Int) + 1) := by omega
      have hcnt : st0.length ≤ 2097153 := by
        have h1 := hM.cnt
        have h2 := congrArg List.length hord
        have h3 := HN.out
        rw [List.length_append, walkT_length] at h2
        rw [hlen] at h1
        omega
      cases ls with
      | nil =>
        have HM := Lib.hid hM
        have HO := Lib.hid hord
        have HOWN := Lib.hid hown
        obtain ⟨a, c0, hsl⟩ : ∃ a c, sl = .slice a 0 c := by
          rcases hM.ts ([], sl) (by simp) with h1 | h1
          · exact h1.form
          · simp at h1
        subst hsl
        clear hM hord hown
        gi_wp2_with fail
        go_roundg (2 * (stWalkT st0).length + st0.length)
        case rel =>
          have h1 := row_take HOWN.out (Nat.le_succ st0.length)
          rw [wsndT_take] at h1
          refine ⟨pre, st0, g, cap, rfl, rfl, by have := HO.out; rwa [stWalkT_snoc] at this, h1, HM.out.j, fun e he => HM.out.ts e (List.mem_append_left _ he), HM.out.stays, HM.out.size, HM.out.root, HM.out.node, ?_⟩
          have := HM.out.cnt
          rw [List.length_append] at this
          omega
        case measure =>
          rw [stWalkT_snoc, List.length_append, List.length_append]
          simp only [walkST, List.length_nil, List.length_singleton]
          omega
      | cons x ls =>
        obtain ⟨b, o, c0, p', c', rfl, hlc, hc63, hbC, hbw, hcell, hnx, htail⟩ := hM.open
        have hbg : b ≠ g := by
          have h1 := hg1
          rcases hbC with h2 | h2
          · have := (HC.out b h2).2
            omega
          · omega
        obtain ⟨q, hq⟩ : ∃ q, (if c0 = 1 then some (⟨b, o, none⟩ : Addr) else some ⟨b, o + 2, none⟩) = q := ⟨_, rfl⟩
        have htl : LT W C ls (.slice q ls.length (c0 - 1)) := htail q (fun hne => by
          have h1 : 1 ≤ ls.length := by cases ls with | nil => exact absurd rfl hne | cons => simp
          rw [← hq, if_neg (by omega)])
        obtain ⟨hst, hgr⟩ := hown.stored st0.length (.slice q ls.length (c0 - 1))
        rw [wsndT_set st0 _ ls] at hst
        have hb1 : Below (W.heap.size + 1) wo (wo.setCell ⟨g, st0.length, none⟩ (.slice q ls.length (c0 - 1))) := (Below.refl _ wo).setCell (p := ⟨g, st0.length, none⟩) hg1 _
        have hcC : ∀ z, C z → z < W.heap.size := fun z hz => (HC.out z hz).2
        have hst1 : Stays C W (wo.setCell ⟨g, st0.length, none⟩ (.slice q ls.length (c0 - 1))) := hM.stays.trans ⟨hb1.size, fun z hz _ => hb1.block z (by have := hcC z hz; omega)⟩
        have hpre : pre ++ [(x, st0.length + 1)] <+: walkT t 1 := ⟨walkST x.args (st0.length + 1 + 1) ++ (walkST ls (st0.length + 1) ++ stWalkT st0), by rw [← hord, stWalkT_snoc]; simp only [walkST, walkT_eq, List.cons_append, List.append_assoc, List.nil_append]⟩
        obtain ⟨fn, tmps, assign, body, hy, hR⟩ := HY.out pre x (.agg #[.int .i64 x.kind, .slice p' x.args.length c']) (st0.length + 1) _ (HJ.out _ _ _ hM.j (hb1.mono (by omega))) hpre (ntT_mk (hnx.stays hst1))
        rw [show ((st0.length + 1 : Nat) : Int) = (st0.length : Int) + 1 from rfl] at hy
        have hroot : (wo.setCell ⟨g, st0.length, none⟩ (.slice q ls.length (c0 - 1))).heap[W.heap.size]? = some (.cells #[.int .i64 t.kind, .slice p t.args.length c] 26 (0, 0)) := (hb1.block _ (by omega)).trans hM.root
        have HM := Lib.hid hM
        have HO := Lib.hid hord
        have HST := Lib.hid hst
        have HB1 := Lib.hid hb1
        have HST1 := Lib.hid hst1
        have HPRE := Lib.hid hpre
        have HR := Lib.hid hR
        have HTL := Lib.hid htl
        have HNX := Lib.hid hnx
        have HBC := Lib.hid hbC
        have HROOT := Lib.hid hroot
        have HQ := Lib.hid hlc
        obtain ⟨f0, f1⟩ := hcell
        have hl1 : (1 : Int) ≤ ((ls.length : Int) + 1) := by omega
        clear hM hord hown hst hgr hb1 hst1 hpre hR htl htail hnx hbC hcC hroot
        gi_wp2_with fail
        refine HR.out.mono ?_
        rintro e W3 (⟨rfl, hJ3, hH3⟩ | ⟨rfl, hJx3⟩)
        · have hbnC : ¬ Cb b := by
            rcases HBC.out with h1 | h1
            · exact (HC.out b h1).1
            · intro hc; have := HCb.out b hc; omega
          have hgnC : ¬ Cb g := fun hc => by have := HCb.out g hc; omega
          have hs1 := HB1.out.size
          have hb3 : W3.heap[b]? = wo.heap[b]? := (hH3.2 b (by omega) hbnC).trans (Below.heap_setCell _ _ _ _ hbg)
          have hp3 : W3.heap[Bp]? = W.heap[Bp]? := by
            have h1 := HC.out Bp hCp
            have h2 := HM.out.size
            rw [hH3.2 Bp (by omega) h1.1]
            exact HST1.out.2 Bp hCp h1.2
          have hown3 := row_of_block HST.out (hH3.2 g (by omega) hgnC)
          have hr3 : W3.heap[W.heap.size]? = some (.cells #[.int .i64 t.kind, .slice p t.args.length c] 26 (0, 0)) := by
            rw [hH3.2 W.heap.size (by have := HM.out.lt; omega) (fun hc => by have := HCb.out _ hc; omega)]
            exact HROOT.out
          have hlen3 : (st0 ++ [(ls, Value.slice q ls.length (c0 - 1))]).length = st0.length + 1 := by simp
          have hM3 : MidT W W3 C t p c J (pre ++ [(x, st0.length + 1)]) (st0 ++ [(ls, .slice q ls.length (c0 - 1))]) g cap := by
            refine ⟨?_, hJ3, fun e he => ?_, HST1.out.trans ⟨hH3.1, fun z hz hl => hH3.2 z hl (HC.out z hz).1⟩, ?_, hr3, HM.out.node, ?_⟩
            · rw [hlen3]; exact hown3
            · rcases List.mem_append.1 he with he | he
              · exact HM.out.ts e (List.mem_append_left _ he)
              · simp only [List.mem_singleton] at he
                subst he
                exact Or.inl HTL.out
            · have := hH3.1
              have := HM.out.size
              omega
            · have := HM.out.cnt
              rw [hlen] at this
              rw [hlen3, List.length_append, List.length_singleton]
              omega
          have g0 := (World.cell?_of_block (a := ⟨b, o, none⟩) hb3).trans f0
          have g1 := (World.cell?_of_block (a := ⟨b, o + 1, none⟩) hb3).trans f1
          have kp3 := cell_of_blk (hp3.trans HBP.out) 0
          simp only [List.getElem?_toArray, List.getElem?_cons_zero] at kp3
          have HM3 := Lib.hid hM3
          have HOWN3 := Lib.hid hown3
          have hsz3 := hM3.lt
          clear hJ3 hH3 hown3 hM3 hy HR k0 kz hb3 hp3 hr3 hbnC hgnC f0 f1 HB1 HST1 HST
          gi_wp2_with fail
          refine wpIn_wide.2 ?_
          go_region_law (first
            | (refine step_app1 (w0 := w1) (base := W.heap.size + 1) (v := .slice (some ⟨g, 0, none⟩) (st0.length + 1) cap) (n := st0.length + 1) (xs := (st0 ++ [(ls, Value.slice q ls.length (c0 - 1))]).map (·.2)) (cs := [.slice p' x.args.length c']) rfl (.tmp 40) (.tmp 46) rfl Tryz.underlying236 hi hz0 hz1 hz2 rfl (by decide) rfl (row_below HOWN3.out ((Below.refl W3.heap.size W3).drew.trans hb1)) _ rfl (by simp) rfl (fun u hu => by simp at hu; subst hu; rfl) (by unfold maxLen; omega) (by omega) (by have := hb1.size; simp at this; omega) ?_; intro w' g2 cap2 hA)
            | (go_simp; go_at_call 124; refine (argsT_any _ _ _ _ _).mono ?_; rintro e w1 ⟨rfl, hb1⟩))
          all_goals
            have HA := Lib.hid hA
            have HB := Lib.hid hb1
            clear hA hb1
            gi_wp2_with fail
            go_roundg (2 * (stWalkT ((st0 ++ [(ls, Value.slice q ls.length (c0 - 1))]) ++ [(x.args, .slice p' x.args.length c')])).length + (st0.length + 2))
            case rel =>
              have hb3 : Below W3.heap.size W3 w1 := (Below.refl W3.heap.size W3).drew.trans HB.out
              have hlen3 : (st0 ++ [(ls, Value.slice q ls.length (c0 - 1))]).length = st0.length + 1 := by simp
              have hg3 := (row_cap HOWN3.out).2.2
              have hs3 := hb3.size
              have hbw : Below (W.heap.size + 1) W3 w' := (hb3.mono (by omega)).trans HA.out.below
              refine ⟨pre ++ [(x, st0.length + 1)], (st0 ++ [(ls, .slice q ls.length (c0 - 1))]) ++ [(x.args, .slice p' x.args.length c')], g2, cap2, by rw [List.length_append, hlen3]; rfl, by rw [List.length_append, hlen3]; rfl, ?_, ?_⟩
              · rw [stWalkT_snoc, hlen3, stWalkT_snoc, ← HO.out, stWalkT_snoc]
                simp only [walkST, walkT_eq, List.cons_append, List.append_assoc, List.nil_append]
              · refine ⟨?_, HJ.out _ _ _ HM3.out.j (hbw.mono (by omega)), fun e he => ?_, HM3.out.stays.trans ⟨hbw.size, fun z hz _ => hbw.block z (by have := (HC.out z hz).2; omega)⟩, by have := hbw.size; have := HM3.out.size; omega, (hbw.block _ (by omega)).trans HM3.out.root, HM3.out.node, ?_⟩
                · rw [List.map_append, List.length_append, hlen3]
                  exact HA.out.own
                · rcases List.mem_append.1 he with he | he
                  · exact HM3.out.ts e he
                  · simp only [List.mem_singleton] at he
                    subst he
                    exact Or.inl (id HNX.out)
                · have := HM.out.cnt
                  rw [hlen] at this
                  simp only [List.length_append, List.length_cons, List.length_nil]
                  omega
            case measure =>
              have h1 := HO.out
              simp only [stWalkT_snoc, walkST, walkT_eq, List.length_append, List.length_cons, List.length_nil, Nat.zero_add]
              omega
        · gi_wp2_with fail
          refine bodyPost_ret (results_none rfl _ _ _) rfl ?_
          exact ⟨⟨_, rfl⟩, .inr ⟨pre ++ [(x, st0.length + 1)], HPRE.out, hJx3⟩⟩
end Go.Proofs.YtfeijijeohfpgaaGreatDoor
namespace Go.Proofs.YtfeijijeohfpgaaGreatDoor
open Go Go.RowKit

theorem box_new (w : World) (A : Array Value) (T : TypeId) : ∃ wl : World, w.alloc (.cells A T) = wl ∧ wl.heap.size = w.heap.size + 1 ∧ Below w.heap.size w wl ∧ wl.heap[w.heap.size]? = some (.cells A T (0, 0)) :=
  ⟨_, rfl, by simp, (Below.refl _ w).alloc (Nat.le_refl _) _, blk_new _ _⟩
theorem box_new2 (w : World) (A B : Array Value) (tA tB : TypeId) : ∃ wl : World, (w.alloc (.cells A tA)).alloc (.cells B tB) = wl ∧ wl.heap.size = w.heap.size + 2 ∧ Below w.heap.size w wl ∧
    wl.heap[w.heap.size]? = some (.cells A tA (0, 0)) ∧ wl.heap[w.heap.size + 1]? = some (.cells B tB (0, 0)) := by
  have s1 : (w.alloc (.cells A tA)).heap.size = w.heap.size + 1 := by simp
  refine ⟨_, rfl, by simp, ((Below.refl _ w).alloc (Nat.le_refl _) _).alloc (by simp) _, ?_, ?_⟩
  · rw [Below.heap_alloc _ _ _ (by simp)]
    exact blk_new _ _
  · rw [← s1]
    exact blk_new _ _
theorem box_new3 (w : World) (A B D : Array Value) (tA tB tD : TypeId) : ∃ wl : World, ((w.alloc (.cells A tA)).alloc (.cells B tB)).alloc (.cells D tD) = wl ∧ wl.heap.size = w.heap.size + 3 ∧ Below w.heap.size w wl ∧
    wl.heap[w.heap.size]? = some (.cells A tA (0, 0)) ∧ wl.heap[w.heap.size + 1]? = some (.cells B tB (0, 0)) ∧ wl.heap[w.heap.size + 1 + 1]? = some (.cells D tD (0, 0)) := by
  have s1 : (w.alloc (.cells A tA)).heap.size = w.heap.size + 1 := by simp
  have s2 : ((w.alloc (.cells A tA)).alloc (.cells B tB)).heap.size = w.heap.size + 1 + 1 := by simp
  refine ⟨_, rfl, by simp, (((Below.refl _ w).alloc (Nat.le_refl _) _).alloc (by simp) _).alloc (by simp; omega) _, ?_, ?_, ?_⟩
  · rw [Below.heap_alloc _ _ _ (by simp; omega), Below.heap_alloc _ _ _ (by simp)]
    exact blk_new _ _
  · rw [Below.heap_alloc _ _ _ (by simp), ← s1]
    exact blk_new _ _
  · rw [← s2]
    exact blk_new _ _
theorem box_new5 (w : World) (A B D E F : Array Value) (tA tB tD tE tF : TypeId) : ∃ wl : World, ((((w.alloc (.cells A tA)).alloc (.cells B tB)).alloc (.cells D tD)).alloc (.cells E tE)).alloc (.cells F tF) = wl ∧ wl.heap.size = w.heap.size + 5 ∧ Below w.heap.size w wl ∧
    wl.heap[w.heap.size]? = some (.cells A tA (0, 0)) ∧ wl.heap[w.heap.size + 1]? = some (.cells B tB (0, 0)) ∧ wl.heap[w.heap.size + 1 + 1]? = some (.cells D tD (0, 0)) ∧ wl.heap[w.heap.size + 1 + 1 + 1]? = some (.cells E tE (0, 0)) ∧ wl.heap[w.heap.size + 1 + 1 + 1 + 1]? = some (.cells F tF (0, 0)) := by
  obtain ⟨w3, h3, hs3, hb3, k0, k1, k2⟩ := box_new3 w A B D tA tB tD
  obtain ⟨w5, h5, hs5, hb5, k3, k4⟩ := box_new2 w3 E F tE tF
  refine ⟨w5, by rw [h3]; exact h5, by omega, hb3.trans (hb5.mono (by omega)), (hb5.block _ (by omega)).trans k0, (hb5.block _ (by omega)).trans k1, (hb5.block _ (by omega)).trans k2, ?_, ?_⟩
  · rw [hs3] at k3; exact k3
  · rw [hs3] at k4; exact k4
end Go.Proofs.YtfeijijeohfpgaaGreatDoor
namespace Go.Proofs.YtfeijijeohfpgaaGreatDoor
open Go Go.RowKit

theorem set2_below {B b i j : Nat} {W W' : World} {u v : Value} (h : Below B W W') (hb : B ≤ b) : Below B W ((W'.setCell ⟨b, i, none⟩ u).setCell ⟨b, j, none⟩ v) :=
  (h.setCell (p := ⟨b, i, none⟩) hb u).setCell (p := ⟨b, j, none⟩) hb v
theorem results_ct {fn : Func} {p q : Tmp} {ty : TypeId} (h : fn.results = #[.cell p ty, .tmp q]) (tmps : Array Value) (P : Program) (w : World) :
    (results fn tmps).run P w = ((asAddr (tmps.getD p undef)).run P w).andThen fun a w₁ => ((loadVar ty a).run P w₁).andThen fun v w₂ => .ok (.tuple #[v, tmps.getD q undef]) w₂ := by
  simp only [results, h]
  simp [Sem.run_bind, Result.andThen]
end Go.Proofs.YtfeijijeohfpgaaGreatDoor
namespace Go.Proofs.YtfeijijeohfpgaaGreatDoor
open Go Go.RowKit

theorem loop_world3 (w : World) (A B A' : Array Value) (tA tB tA' : TypeId) : ∃ wl : World, ((w.alloc (.cells A tA)).alloc (.cells B tB)).alloc (.cells A' tA') = wl ∧ wl.heap.size = w.heap.size + 1 + 1 + 1 ∧ Below w.heap.size w wl ∧
    wl.heap[w.heap.size]? = some (.cells A tA (0, 0)) ∧ wl.heap[w.heap.size + 1]? = some (.cells B tB (0, 0)) ∧ wl.heap[w.heap.size + 1 + 1]? = some (.cells A' tA' (0, 0)) := by
  have s1 : (w.alloc (.cells A tA)).heap.size = w.heap.size + 1 := by simp
  have s2 : ((w.alloc (.cells A tA)).alloc (.cells B tB)).heap.size = w.heap.size + 1 + 1 := by simp
  refine ⟨_, rfl, by simp, (((Below.refl _ w).alloc (Nat.le_refl _) _).alloc (by simp) _).alloc (by simp; omega) _, ?_, ?_, ?_⟩
  · rw [Below.heap_alloc _ _ _ (by simp; omega), Below.heap_alloc _ _ _ (by simp)]
    exact blk_new _ _
  · rw [Below.heap_alloc _ _ _ (by simp), ← s1]
    exact blk_new _ _
  · rw [← s2]
    exact blk_new _ _

theorem cell_setCell_ne {w : World} {b o c q : Nat} {v : Value} (h : ¬ (c = b ∧ q = o)) : (w.setCell ⟨b, o, none⟩ v).cell? ⟨c, q, none⟩ = w.cell? ⟨c, q, none⟩ := by
  by_cases hc : c = b
  · subst hc
    have hq : q ≠ o := fun e => h ⟨rfl, e⟩
    unfold World.cell?
    simp only [World.setCell, Array.getElem?_modify]
    cases hw : w.heap[c]? with
    | none => simp
    | some ob =>
      simp only [if_true, Option.map_some]
      cases ob <;> simp [Array.getElem?_setIfInBounds_ne (Ne.symm hq)]
  · exact World.cell?_of_block (Below.heap_setCell _ _ _ _ hc)

end Go.Proofs.YtfeijijeohfpgaaGreatDoor
namespace Go.Proofs.YtfeijijeohfpgaaGreatDoor
open Go Go.RowKit
abbrev Got := List (Ty × Value)
def ecells (st : Got) : List Value := st.flatMap fun e => [.int .i64 e.1.kind, e.2]
theorem ecells_length (st : Got) : (ecells st).length = st.length * 2 := by
  induction st with
  | nil => rfl
  | cons e st ih => simp only [ecells, List.flatMap_cons, List.length_append, List.length_cons, List.length_nil] at *; omega
theorem ecells_snoc (st : Got) (e : Ty × Value) : ecells (st ++ [e]) = ecells st ++ [.int .i64 e.1.kind, e.2] := by simp [ecells]
theorem ecells_at (st : Got) (j : Nat) (h : j < st.length) : (ecells st)[j * 2]? = some (.int .i64 st[j].1.kind) ∧ (ecells st)[j * 2 + 1]? = some st[j].2 := by
  induction st generalizing j with
  | nil => simp at h
  | cons e st ih =>
    cases j with
    | zero => simp [ecells]
    | succ j =>
      have := ih j (by simpa using h)
      have e1 : ecells (e :: st) = [.int .i64 e.1.kind, e.2] ++ ecells st := by simp [ecells]
      rw [e1, List.getElem?_append_right (by simp; omega), List.getElem?_append_right (by simp; omega)]
      simp only [List.length_cons, List.length_nil]
      rw [show (j + 1) * 2 - (0 + 1 + 1) = j * 2 by omega, show (j + 1) * 2 + 1 - (0 + 1 + 1) = j * 2 + 1 by omega]
      exact this
structure Grow (w : World) (base : Nat) (v : Value) (st : Got) : Prop where
  own : w.ownsRow base 26 2 v st.length (ecells st)
  ts : ∀ e ∈ st, TS w (fun z => base ≤ z ∧ v.ownBlock ≠ some z) e.1.args e.2

theorem Grow.start (w : World) (base : Nat) : Grow w base (.slice none 0 0) [] := ⟨World.ownsRow_nil w base _ 2, fun e he => by cases he⟩
theorem Grow.below {w w' : World} {base : Nat} {v : Value} {st : Got} (h : Grow w base v st) (hb : Below w.heap.size w w') : Grow w' base v st := ⟨row_below h.own hb, fun e he => (h.ts e he).keep hb⟩
theorem Grow.app {w w' : World} {base : Nat} {v : Value} {st : Got} {g cap : Nat} {x : Ty} {s : Value} (h : Grow w base v st) (hA : Appd w w' base 26 2 v st.length (ecells st) [.int .i64 x.kind, s] g cap)
    (hx : TS w (fun z => base ≤ z ∧ v.ownBlock ≠ some z) x.args s) : Grow w' base (.slice (some ⟨g, 0, none⟩) (st.length + 1) cap) (st ++ [(x, s)]) := by
  have key : ∀ {ts : List Ty} {s : Value}, TS w (fun z => base ≤ z ∧ v.ownBlock ≠ some z) ts s → TS w' (fun z => base ≤ z ∧ (Value.slice (some ⟨g, 0, none⟩) (st.length + 1) cap).ownBlock ≠ some z) ts s := fun h1 =>
    (h1.mono (C' := fun z => base ≤ z ∧ v.ownBlock ≠ some z ∧ z < w.heap.size) (fun b hb hl => ⟨hb.1, hb.2, hl⟩)).stays ⟨hA.size, fun b hb hl => (hA.kept b hl hb.2.1).1⟩ |>.mono (fun b hb _ => ⟨hb.1, fun e => (hA.kept b hb.2.2 hb.2.1).2 (by simpa [Value.ownBlock] using e)⟩)
  refine ⟨?_, fun e he => ?_⟩
  · rw [List.length_append, ecells_snoc]
    exact hA.own
  · rcases List.mem_append.1 he with he | he
    · exact key (h.ts e he)
    · simp only [List.mem_singleton] at he
      subst he
      exact key hx
theorem Grow.set {w : World} {base : Nat} {v : Value} {st : Got} (h : Grow w base v st) (b o : Nat) (x : Value) (hb : b < base) : Grow (w.setCell ⟨b, o, none⟩ x) base v st := by
  refine ⟨⟨h.own.1, ?_⟩, fun e he => (h.ts e he).stays (setCell_stays _ _ _ _ _ (by omega))⟩
  rcases h.own.2 with h0 | ⟨g, cap, cur, rfl, hg, hblk, r⟩
  · exact Or.inl h0
  · exact Or.inr ⟨g, cap, cur, rfl, hg, (Below.heap_setCell _ _ _ _ (by show g ≠ b; omega)).trans hblk, r⟩
theorem Grow.all {w : World} {base : Nat} {v : Value} {st : Got} (h : Grow w base v st) : TS w (fun z => base ≤ z) (st.map (·.1)) v := by
  rcases h.own.2 with ⟨rfl, h0⟩ | ⟨g, cap, cur, rfl, hg, hblk, h1, h2, h3, h4⟩
  · obtain rfl := List.eq_nil_of_length_eq_zero h0
    exact .nil _ _
  · by_cases hz : st.length = 0
    · obtain rfl := List.eq_nil_of_length_eq_zero hz
      exact .nil _ _
    · have hlt := (Array.getElem?_eq_some_iff.1 hblk).1
      have hl : (st.map (·.1)).length = st.length := List.length_map _
      have at_ : ∀ j x, (st.map (·.1))[j]? = some x → ∃ hj : j < st.length, x = st[j].1 := fun j x hj => by
        rw [List.getElem?_map, Option.map_eq_some_iff] at hj
        obtain ⟨e, he, rfl⟩ := hj
        obtain ⟨hj, rfl⟩ := List.getElem?_eq_some_iff.1 he
        exact ⟨hj, rfl⟩
      have key := TS.cons (w := w) (C := fun z => base ≤ z) (ts := st.map (·.1)) (b := g) (o := 0) (c := cap) (fun j => (st[j]?.getD (.mk 0 [], .nilIface)).2) (by omega) (by omega) (by unfold maxLen at h2; omega) hg hlt
        (fun j x hj => by
          obtain ⟨hj', rfl⟩ := at_ j x hj
          rw [Nat.zero_add, h.own.cellAt (j * 2) (by omega), (ecells_at st j hj').1])
        (fun j x hj => by
          obtain ⟨hj', rfl⟩ := at_ j x hj
          rw [Nat.zero_add, h.own.cellAt (j * 2 + 1) (by omega), (ecells_at st j hj').2, List.getElem?_eq_getElem hj']
          rfl)
        (fun j x hj => by
          obtain ⟨hj', rfl⟩ := at_ j x hj
          rw [List.getElem?_eq_getElem hj']
          exact (h.ts _ (List.getElem_mem hj')).mono (fun b hb _ => hb.1))
      rw [hl] at key
      exact key
def NewR (t : Ty) (w : World) (e : Ending) (w' : World) : Prop := ∃ v, e = .returned v ∧ TT w' (fun z => w.heap.size ≤ z) t v ∧ Below w.heap.size w w'

end Go.Proofs.YtfeijijeohfpgaaGreatDoor
namespace Go.Proofs.YtfeijijeohfpgaaGreatDoor
open Go Go.RowKit

set_option maxRecDepth 100000 in
set_option maxHeartbeats 2000000 in
theorem copySp_any {w0 : World} {C : Nat → Prop} {ts : List Ty} {v : Value} (h : TS w0 C ts v) : ∀ (w : World) (q : Int), Stays C w0 w → nodesS ts ≤ 1048576 →
    Calls Tryz.prog 129 #[.agg #[.int .i64 q, v]] w (NewR (Ty.mk q ts) w) := by
  obtain ⟨i0, hi, hz0, hz1, hz2⟩ := info_parts infoTy
  refine TS.ind (motive := fun ts v => ∀ (w : World) (q : Int), Stays C w0 w → nodesS ts ≤ 1048576 → Calls Tryz.prog 129 #[.agg #[.int .i64 q, v]] w (NewR (Ty.mk q ts) w)) ?_ h
  intro ts p c hl H w q hst hn
  have HH := Lib.hid H
  have HST := Lib.hid hst
  have hlen := nodesS_ge ts
  clear H hst
  go_enter Tryz.func129, Tryz.ntmps129
  have HB0 := Lib.hid ((((Below.refl _ w).alloc (Nat.le_refl _) (.cells #[.int .i64 q, .slice p ts.length c] 26)).alloc (by simp) (.cells #[.int .i64 0, .slice none 0 0] 26)).alloc (by simp; omega) (.cells #[.int .i64 q, .slice none 0 0] 26))
  have hK := loop_world3 w #[.int .i64 q, .slice p ts.length c] #[.int .i64 0, .slice none 0 0] #[.int .i64 q, .slice none 0 0] 26 26 26
  have HK := Lib.hid hK
  clear hK
  go_wp2_with fail
  go_loopw [4] (fun i wr => ∃ (k : Nat) (es : Got) (v : Value), k ≤ ts.length ∧ i = .int .i64 k ∧ es.map (·.1) = ts.take k ∧ Grow wr (w.heap.size + 3) v es ∧ wr.heap[w.heap.size]? = some (.cells #[.int .i64 q, .slice p ts.length c] 26 (0, 0)) ∧
    wr.heap[w.heap.size + 1]? = some (.cells #[.int .i64 0, .slice none 0 0] 26 (0, 0)) ∧ wr.heap[w.heap.size + 1 + 1]? = some (.cells #[.int .i64 q, v] 26 (0, 0)) ∧ Below w.heap.size w wr ∧ w.heap.size + 3 ≤ wr.heap.size) (fun i _ => ts.length - (intOf i).toNat)
  case atStart =>
    obtain ⟨wl, hwl, hsz, hbl, q0, q1, q2⟩ := HK.out
    rw [hwl]
    exact ⟨0, [], _, Nat.zero_le _, rfl, by simp, Grow.start _ _, q0, q1, q2, hbl, by omega⟩
  case round =>
    obtain ⟨k, es, v, hk, rfl, hes, hgr, hx0, hx1, hx2, hbr, hsz⟩ := hrel
    have HES := Lib.hid hes
    have HGR := Lib.hid hgr
    have HX0 := Lib.hid hx0
    have HX1 := Lib.hid hx1
    have HX2 := Lib.hid hx2
    have HBR := Lib.hid hbr
    have d0 := cell_of_blk hx0 1
    have d2 := cell_of_blk hx2 0
    have d3 := cell_of_blk hx2 1
    have dz := unfrozen_of_blk hx2
    have r0 := cell_of_blk hx1 0
    have r1 := cell_of_blk hx1 1
    have rz := unfrozen_of_blk hx1
    simp only [List.getElem?_toArray, List.getElem?_cons_zero, List.getElem?_cons_succ] at d0 d2 d3 r0 r1
    clear hes hgr hx0 hx1 hx2 hbr
    by_cases hlk : k < ts.length
    · obtain ⟨b, o, p', c', rfl, hcs, hT, hI⟩ := HH.out k _ (List.getElem?_eq_getElem hlk)
      obtain ⟨f1, f2⟩ := hcs wr (HST.out.trans (Stays.of_below HBR.out))
      have hnk : nodesS ts[k].args ≤ 1048576 := by
        have h1 := nodesS_at ts k hlk
        have h2 := ts[k].nodes_eq
        omega
      have HC := Lib.hid (fun (W : World) (hW : Below w.heap.size w W) => hI W ts[k].kind (HST.out.trans (Stays.of_below hW)) hnk)
      rw [show Ty.mk ts[k].kind ts[k].args = ts[k] from (Ty.eta _).symm] at HC
      have HG := Lib.hid (fun (W : World) (hW : Below wr.drew.heap.size wr.drew W) => HGR.out.below ((Below.refl wr.heap.size wr).drew.trans hW))
      have HD := Lib.hid (fun (W : World) (hW : Below wr.drew.heap.size wr.drew W) => (cell_of_blk ((((Below.refl wr.heap.size wr).drew.trans hW).block _ (Array.getElem?_eq_some_iff.1 HX2.out).1).trans HX2.out) 1 : W.cell? ⟨w.heap.size + 1 + 1, 1, none⟩ = some v))
      have HDZ := Lib.hid (fun (W : World) (hW : Below wr.drew.heap.size wr.drew W) => unfrozen_of_blk ((((Below.refl wr.heap.size wr).drew.trans hW).block _ (Array.getElem?_eq_some_iff.1 HX2.out).1).trans HX2.out))
      have hek : es.length = k := by
        have := congrArg List.length HES.out
        simp only [List.length_map, List.length_take] at this
        omega
      have HEK := Lib.hid hek
      have hbr' := HBR.out
      have hbw : b < w.heap.size := World.block_lt_of_cell? w _ (hcs w HST.out).1
      have HKA := Lib.hid (fun (W : World) (hW : Below wr.drew.heap.size wr.drew W) (x1 x2 : Value) (w' : World) (g2 cap2 : Nat) (hA : Appd W w' (w.heap.size + 3) 26 2 v es.length (ecells es) [x1, x2] g2 cap2) =>
        have kk : ∀ {p : Addr} {u : Value}, wr.cell? p = some u → p.block < w.heap.size + 3 → w'.cell? p = some u := fun {p u} hp hlt =>
          keepApp hA (((((Below.refl wr.heap.size wr).drew.trans hW).cell (World.block_lt_of_cell? wr _ hp)).trans hp) : W.cell? p = some u) (fun e => by have := (HGR.out.own.lt _ e).1; omega)
        (⟨kk d0 (by show w.heap.size < _; omega), kk f1 (by show b < _; omega), kk f2 (by show b < _; omega)⟩ :
          w'.cell? ⟨w.heap.size, 1, none⟩ = some (.slice (some ⟨b, o, none⟩) ts.length c) ∧ w'.cell? ⟨b, o + k * 2, none⟩ = some (.int .i64 ts[k].kind) ∧ w'.cell? ⟨b, o + k * 2 + 1, none⟩ = some (.slice p' ts[k].args.length c')))
      have HKB := Lib.hid (fun (W : World) (hW : Below wr.drew.heap.size wr.drew W) (x1 x2 : Value) (w' : World) (g2 cap2 : Nat) (hA : Appd W w' (w.heap.size + 3) 26 2 v es.length (ecells es) [x1, x2] g2 cap2) =>
        have hB := (((Below.refl wr.heap.size wr).drew.trans hW).block _ (Array.getElem?_eq_some_iff.1 HX2.out).1).trans HX2.out
        (((hA.kept (w.heap.size + 1 + 1) (Array.getElem?_eq_some_iff.1 hB).1 (fun e => by have := (HGR.out.own.lt _ e).1; omega)).1.trans hB) : w'.heap[w.heap.size + 1 + 1]? = some (.cells #[.int .i64 q, v] 26 (0, 0))))
      have i0' : (0 : Int) ≤ (k : Int) := Int.natCast_nonneg _
      have i1' : (k : Int) < (ts.length : Int) := by omega
      clear hcs hT hI r0 r1 rz d2 hek
      go_wp2_with fail
      go_region_law (first
          | (refine step_app1 (w0 := w1) (v := v) (n := es.length) (xs := ecells es) rfl (.tmp 16) (.tmp 23) rfl Tryz.underlying24 hi hz0 hz1 hz2 rfl (by decide) rfl (HG.out w1 hb1).own _ rfl (by simp) rfl (fun u hu => by simp at hu; rcases hu with rfl | rfl <;> rfl) (by have := HEK.out; unfold maxLen; omega) (by have := HEK.out; omega) (by have := hb1.size; simp at this; omega) ?_; intro w' g2 cap2 hA; have d6b := HKB.out _ hb1 _ _ _ _ _ hA; have d6 : w'.cell? ⟨w.heap.size + 1 + 1, 1, none⟩ = some v := cell_of_blk d6b 1; have d6z := unfrozen_of_blk d6b)
          | (go_simp; go_at_call 129; refine (HC.out _ hbr'.drew).mono ?_; rintro e w1 ⟨v1, rfl, ⟨s1, rfl, hs1⟩, hb1⟩; obtain ⟨p1, c1, rfl⟩ := hs1.form; have d4 := HD.out w1 hb1; have d4z := HDZ.out w1 hb1; have d5 := fun (o : Obj) => (((Below.refl w1.heap.size w1).alloc (Nat.le_refl _) o).cell (World.block_lt_of_cell? w1 _ d4)).trans d4))
      all_goals
        have HA := Lib.hid hA
        have HS1 := Lib.hid hs1
        have HB1 := Lib.hid hb1
        clear hA hs1 hb1 d4 d4z d5 d6 d6b d6z
        go_wp2_with fail
        go_roundw
        case rel =>
          have hd := (Below.refl wr.heap.size wr).drew.trans HB1.out
          have hsw := hd.size
          have hown := HGR.out.own.lt
          have x0 := (hd.block _ (Array.getElem?_eq_some_iff.1 HX0.out).1).trans HX0.out
          have x1 := (hd.block _ (Array.getElem?_eq_some_iff.1 HX1.out).1).trans HX1.out
          have x0' := (HA.out.kept w.heap.size (Array.getElem?_eq_some_iff.1 x0).1 (fun e => by have := (hown _ e).1; omega)).1.trans x0
          have x1' := (HA.out.kept (w.heap.size + 1) (Array.getElem?_eq_some_iff.1 x1).1 (fun e => by have := (hown _ e).1; omega)).1.trans x1
          refine ⟨k + 1, es ++ [(ts[k], .slice p1 ts[k].args.length c1)], .slice (some ⟨g2, 0, none⟩) (es.length + 1) cap2, by omega, by go_num, ?_, ?_, ?_, ?_, ?_, ?_, ?_⟩
          · rw [List.map_append, HES.out, List.take_add_one, List.getElem?_eq_getElem hlk]
            rfl
          · refine ((HG.out w1 HB1.out).app HA.out (HS1.out.mono fun z hz _ => ⟨?_, fun e => ?_⟩)).set _ _ _ (by omega)
            · have : wr.heap.size ≤ z := hz
              omega
            · have h1 : wr.heap.size ≤ z := hz
              have h2 := (hown _ e).2
              omega
          · exact (Below.heap_setCell _ _ _ _ (by show w.heap.size ≠ w.heap.size + 1 + 1; omega)).trans x0'
          · exact (Below.heap_setCell _ _ _ _ (by show w.heap.size + 1 ≠ w.heap.size + 1 + 1; omega)).trans x1'
          · rw [Go.Joins.block_setCell (HKB.out _ HB1.out _ _ _ _ _ HA.out) _]
            rfl
          · exact (HBR.out.trans ((hd.mono HBR.out.size).trans (HA.out.below.mono (by omega)))).setCell (p := ⟨w.heap.size + 1 + 1, 1, none⟩) (by show w.heap.size ≤ w.heap.size + 1 + 1; omega) _
          · have := HA.out.size
            simp [World.setCell]
            omega
        case measure => simp [intOf]; omega
    · obtain rfl : k = ts.length := by omega
      have hT := HGR.out.all
      rw [HES.out, List.take_length] at hT
      obtain ⟨pv, cv, hv⟩ := hT.form
      rw [hv] at d3 hT
      have HT := Lib.hid hT
      clear hT hv HES HGR HX2
      go_wp2_with fail
      refine bodyPost_ret (v := .agg #[.int .i64 q, .slice pv ts.length cv]) ?_ rfl ?_
      · rw [results_cell1 rfl]
        go_simp
      · have hst : ∀ F : Nat → Prop, ¬ F (w.heap.size + 1) → Stays F wr ((wr.setCell ⟨w.heap.size + 1, 0, none⟩ (.int .i64 q)).setCell ⟨w.heap.size + 1, 1, none⟩ (.slice pv ts.length cv)) := fun F hF => (setCell_stays _ _ _ _ F hF).trans (setCell_stays _ _ _ _ F hF)
        refine ⟨_, rfl, ⟨_, rfl, (HT.out.stays (hst _ (by omega))).mono (fun b hb _ => by omega)⟩, (HBR.out.setCell (p := ⟨w.heap.size + 1, 0, none⟩) (by show w.heap.size ≤ w.heap.size + 1; omega) _).setCell (p := ⟨w.heap.size + 1, 1, none⟩) (by show w.heap.size ≤ w.heap.size + 1; omega) _⟩
end Go.Proofs.YtfeijijeohfpgaaGreatDoor
namespace Go.Proofs.YtfeijijeohfpgaaGreatDoor
open Go Go.ChangeShapes Go.WideShapes Go.RowKit

section
variable {H : Type} {enc : TypeId × Value → H} {w : World} {spare : Nat → Bool} {held : Bool}

end

end Go.Proofs.YtfeijijeohfpgaaGreatDoor
namespace Go.Proofs.YtfeijijeohfpgaaGreatDoor
open Go Go.RowKit

end Go.Proofs.YtfeijijeohfpgaaGreatDoor
namespace Go.Proofs.YtfeijijeohfpgaaGreatDoor
open Go Go.RowKit
def Bx (w : World) (b : Nat) (k : Int) (s : Value) : Prop := w.cell? ⟨b, 0, none⟩ = some (.int .i64 k) ∧ w.cell? ⟨b, 1, none⟩ = some s
theorem Bx.lt {w : World} {b : Nat} {k : Int} {s : Value} (h : Bx w b k s) : b < w.heap.size := World.block_lt_of_cell? w _ h.1
theorem Bx.stays {w w' : World} {b : Nat} {k : Int} {s : Value} {C : Nat → Prop} (h : Bx w b k s) (hs : Stays C w w') (hc : C b) : Bx w' b k s :=
  ⟨(World.cell?_of_block (w := w) (a := ⟨b, 0, none⟩) (hs.2 b hc h.lt)).trans h.1, (World.cell?_of_block (w := w) (a := ⟨b, 1, none⟩) (hs.2 b hc h.lt)).trans h.2⟩
theorem Bx.keep {w w' : World} {b : Nat} {k : Int} {s : Value} (h : Bx w b k s) (hb : Below w.heap.size w w') : Bx w' b k s := h.stays (C := fun _ => True) (.of_below hb) trivial
theorem Bx.new (w : World) (k : Int) (s : Value) (t : TypeId) : Bx (w.alloc (.cells #[.int .i64 k, s] t)) w.heap.size k s :=
  ⟨cell_of_blk (blk_new w _) 0, cell_of_blk (blk_new w _) 1⟩
theorem alloc_below (w : World) (o : Obj) : Below w.heap.size w (w.alloc o) := (Below.refl _ w).alloc (Nat.le_refl _) o

end Go.Proofs.YtfeijijeohfpgaaGreatDoor
namespace Go.Proofs.YtfeijijeohfpgaaGreatDoor
open Go Go.RowKit
def NewG (t : Ty) (base : Nat) (w' : World) (v : Value) : Prop := ∃ (s : Value) (es : Got), v = .agg #[.int .i64 t.kind, s] ∧ es.map (·.1) = t.args ∧ Grow w' base s es
def GrowRet (t : Ty) (w : World) (e : Ending) (w' : World) : Prop := ∃ v, e = .returned v ∧ NewG t w.heap.size w' v ∧ Below w.heap.size w w'
theorem NewG.tt {t : Ty} {base : Nat} {w : World} {v : Value} (h : NewG t base w v) : TT w (fun z => base ≤ z) t v := by
  obtain ⟨s, es, rfl, he, hg⟩ := h
  exact ⟨s, rfl, he ▸ hg.all⟩
theorem Grow.lit {W : World} {base : Nat} {es : Got} {cs : Array Value} {n : Nat} (hn : n = es.length) (hcs : cs = (ecells es).toArray) (hb : base ≤ W.heap.size) (hm : es.length ≤ maxLen) (hts : ∀ e ∈ es, TS W (fun z => base ≤ z) e.1.args e.2) :
    Grow (W.alloc (.cells cs 26)) base (.slice (some ⟨W.heap.size, 0, none⟩) n n) es := by
  subst hn hcs
  refine ⟨⟨by rw [ecells_length], Or.inr ⟨W.heap.size, es.length, (ecells es).toArray, rfl, hb, blk_new W _, Nat.le_refl _, hm, by simp [ecells_length], by simp [← ecells_length]⟩⟩, fun e he => ?_⟩
  exact ((hts e he).mono (C' := fun z => base ≤ z ∧ z < W.heap.size) (fun b h1 h2 => ⟨h1, h2⟩) |>.keep ((Below.refl _ _).alloc (Nat.le_refl _) _)).mono (fun b hb _ => ⟨hb.1, fun e => by simp [Value.ownBlock] at e; omega⟩)

theorem Grow.base {w : World} {a b : Nat} {v : Value} {st : Got} (h : Grow w b v st) (hab : a ≤ b) : Grow w a v st := by
  refine ⟨⟨h.own.1, ?_⟩, fun e he => (h.ts e he).mono (fun z hz _ => ⟨Nat.le_trans hab hz.1, hz.2⟩)⟩
  rcases h.own.2 with h0 | ⟨g, cap, cur, rfl, hg, r⟩
  · exact Or.inl h0
  · exact Or.inr ⟨g, cap, cur, rfl, Nat.le_trans hab hg, r⟩
theorem al_cell {w : World} {b i : Nat} {v : Value} (h : w.cell? ⟨b, i, none⟩ = some v) (o : Obj) : (w.alloc o).cell? ⟨b, i, none⟩ = some v :=
  (((Below.refl w.heap.size w).alloc (Nat.le_refl _) o).cell (World.block_lt_of_cell? w _ h)).trans h
theorem al_blk {w : World} {b : Nat} {x : Obj} (h : w.heap[b]? = some x) (o : Obj) : (w.alloc o).heap[b]? = some x :=
  (Below.heap_alloc _ _ _ (Array.getElem?_eq_some_iff.1 h).1).trans h
theorem al_frz {w : World} {b : Nat} {cs : Array Value} {t : TypeId} (h : w.heap[b]? = some (.cells cs t (0, 0))) (o : Obj) (i : Nat) : (w.alloc o).frozen? ⟨b, i, none⟩ = false := unfrozen_of_blk (al_blk h o) i

theorem copyT_any {C : Nat → Prop} {t : Ty} {v : Value} {w : World} (h : TT w C t v) (hn : nodesS t.args ≤ 1048576) : Calls Tryz.prog 129 #[v] w (NewR t w) := by
  obtain ⟨s, rfl, h⟩ := h
  have := copySp_any h w t.kind (Stays.refl _ _) hn
  rwa [← Ty.eta t] at this

set_option maxRecDepth 100000 in
set_option maxHeartbeats 1000000 in
theorem l3Int_any (w : World) : Calls Tryz.prog 88 #[] w fun e w' => e = .returned (.agg #[.int .i64 1, .slice none 0 0]) ∧ Below w.heap.size w w' := by
  have HB := Lib.hid ((Below.refl _ w).alloc (Nat.le_refl _) (.cells #[.int .i64 1, .slice none 0 0] 26))
  go_enter Tryz.func88, Tryz.ntmps88
  go_wp2_with fail
  refine bodyPost_ret (v := .agg #[.int .i64 1, .slice none 0 0]) ?_ rfl ?_
  · rw [results_cell1 rfl]
    go_simp
  · exact ⟨rfl, HB.out⟩

set_option maxRecDepth 100000 in
set_option maxHeartbeats 1000000 in
theorem l3Code_any {C : Nat → Prop} {t : Ty} {v : Value} {w : World} (h : TT w C t v) (hn : nodesS t.args ≤ 1048576) : Calls Tryz.prog 90 #[v] w (GrowRet (.mk 4 [t]) w) := by
  have HT := Lib.hid (fun w' (hb : Below w.heap.size w w') => h.keep hb)
  obtain ⟨s, rfl, hS⟩ := h
  obtain ⟨p, c, rfl⟩ := hS.form
  clear hS
  have HB0 := Lib.hid (((Below.refl _ w).alloc (Nat.le_refl _) (.cells #[.int .i64 t.kind, .slice p t.args.length c] 26)).alloc (by simp) (.cells #[.int .i64 0, .slice none 0 0] 26))
  obtain ⟨wl, hwl⟩ : ∃ wl, (w.alloc (.cells #[.int .i64 t.kind, .slice p t.args.length c] 26)).alloc (.cells #[.int .i64 0, .slice none 0 0] 26) = wl := ⟨_, rfl⟩
  have hwl1 : wl.heap[w.heap.size + 1]? = some (.cells #[.int .i64 0, .slice none 0 0] 26 (0, 0)) := by
    rw [← hwl]
    have := blk_new (w.alloc (.cells #[.int .i64 t.kind, .slice p t.args.length c] 26)) (.cells #[.int .i64 0, .slice none 0 0] 26)
    rwa [World.size_alloc] at this
  have hwls : wl.heap.size = w.heap.size + 2 := by rw [← hwl]; simp
  have HWL := Lib.hid hwl
  have HWL1 := Lib.hid hwl1
  have HC := Lib.hid (copyT_any (HT.out _ HB0.out) hn)
  rw [hwl] at HB0
  clear hwl hwl1
  go_enter Tryz.func90, Tryz.ntmps90
  go_wp2_with fail
  refine HC.out.mono ?_
  rintro e w1 ⟨v1, rfl, ⟨s1, rfl, hs1⟩, hb1⟩
  rw [HWL.out] at hb1 hs1
  obtain ⟨p1, c1, rfl⟩ := hs1.form
  have r1 := (hb1.block _ (Array.getElem?_eq_some_iff.1 HWL1.out).1).trans HWL1.out
  have g0 : w1.cell? ⟨w.heap.size + 1, 0, none⟩ = some (.int .i64 0) := cell_of_blk r1 0
  have g1 : w1.cell? ⟨w.heap.size + 1, 1, none⟩ = some (.slice none 0 0) := cell_of_blk r1 1
  have g2 := al_cell g0
  have g3 := al_cell g1
  have gz := al_frz r1
  have HS1 := Lib.hid hs1
  have HB1 := Lib.hid (HB0.out.trans (hb1.mono HB0.out.size))
  have HSZ := Lib.hid (hwls ▸ hb1.size : w.heap.size + 2 ≤ w1.heap.size)
  clear hb1 hs1 r1 g0 g1
  go_wp2_with fail
  refine bodyPost_ret (v := .agg #[.int .i64 4, .slice (some ⟨w1.heap.size, 0, none⟩) 1 1]) ?_ rfl ?_
  · rw [results_cell1 rfl]
    go_simp
  · have hge : w.heap.size + 2 ≤ w1.heap.size := by have := HSZ.out; omega
    have hg : Grow _ (w.heap.size + 2) (.slice (some ⟨w1.heap.size, 0, none⟩) 1 1) [(t, .slice p1 t.args.length c1)] := Grow.lit (W := w1) (cs := #[.int .i64 t.kind, .slice p1 t.args.length c1]) (n := 1) rfl rfl hge (by simp [maxLen]) (fun e he => by
      rw [List.mem_singleton] at he
      subst he
      exact HS1.out.mono (fun z hz _ => by show _ ≤ z; have : wl.heap.size ≤ z := hz; omega))
    refine ⟨_, rfl, ⟨_, [(t, .slice p1 t.args.length c1)], rfl, rfl, ((hg.set (w.heap.size + 1) 0 _ (by omega)).set (w.heap.size + 1) 1 _ (by omega)).base (by omega)⟩, ?_⟩
    exact ((HB1.out.alloc HB1.out.size _).setCell (p := ⟨w.heap.size + 1, 0, none⟩) (by show w.heap.size ≤ w.heap.size + 1; omega) _).setCell (p := ⟨w.heap.size + 1, 1, none⟩) (by show w.heap.size ≤ w.heap.size + 1; omega) _
structure Two (w : World) (k1 k2 : Int) (s1 s2 : Value) (W : World) : Prop where
  b1 : Bx W w.heap.size k1 s1
  b2 : Bx W (w.heap.size + 1) k2 s2
  r : W.heap[w.heap.size + 1 + 1]? = some (.cells #[.int .i64 0, .slice none 0 0] 26 (0, 0))
  below : Below w.heap.size w W
  ge : w.heap.size + 3 ≤ W.heap.size
theorem Two.keep {w : World} {k1 k2 : Int} {s1 s2 : Value} {W W' : World} (h : Two w k1 k2 s1 s2 W) (hb : Below W.heap.size W W') : Two w k1 k2 s1 s2 W' :=
  ⟨h.b1.keep hb, h.b2.keep hb, (hb.block _ (Array.getElem?_eq_some_iff.1 h.r).1).trans h.r, h.below.trans (hb.mono h.below.size), Nat.le_trans h.ge hb.size⟩
theorem two_fin {w W : World} {k1 k2 : Int} {p1 p2 : Value} {t u : Ty} {s1 s2 : Value} (h : Two w k1 k2 p1 p2 W) (h1 : TS W (fun z => w.heap.size + 3 ≤ z) t.args s1) (h2 : TS W (fun z => w.heap.size + 3 ≤ z) u.args s2) :
    GrowRet (.mk 3 [t, u]) w (.returned (.agg #[.int .i64 3, .slice (some ⟨W.heap.size, 0, none⟩) 2 2])) (((W.alloc (.cells #[.int .i64 t.kind, s1, .int .i64 u.kind, s2] 26)).setCell ⟨w.heap.size + 1 + 1, 0, none⟩ (.int .i64 3)).setCell ⟨w.heap.size + 1 + 1, 1, none⟩ (.slice (some ⟨W.heap.size, 0, none⟩) 2 2)) := by
  have hg : Grow _ (w.heap.size + 3) (.slice (some ⟨W.heap.size, 0, none⟩) 2 2) [(t, s1), (u, s2)] := Grow.lit (W := W) (cs := #[.int .i64 t.kind, s1, .int .i64 u.kind, s2]) (n := 2) rfl rfl h.ge (by simp [maxLen]) (fun e he => by
    rcases List.mem_cons.1 he with rfl | he
    · exact h1
    · rw [List.mem_singleton] at he
      subst he
      exact h2)
  refine ⟨_, rfl, ⟨_, [(t, s1), (u, s2)], rfl, rfl, ((hg.set (w.heap.size + 1 + 1) 0 _ (by omega)).set (w.heap.size + 1 + 1) 1 _ (by omega)).base (by omega)⟩, ?_⟩
  exact ((h.below.alloc h.below.size _).setCell (p := ⟨w.heap.size + 1 + 1, 0, none⟩) (by show w.heap.size ≤ w.heap.size + 1 + 1; omega) _).setCell (p := ⟨w.heap.size + 1 + 1, 1, none⟩) (by show w.heap.size ≤ w.heap.size + 1 + 1; omega) _

end Go.Proofs.YtfeijijeohfpgaaGreatDoor
namespace Go.Proofs.YtfeijijeohfpgaaGreatDoor
open Go Go.RowKit

theorem cp_keep {wl W W' : World} {a : Nat} {v0 v1 v2 v3 v4 v5 v6 v7 : Value} (hb : Below W.heap.size W W') (h : Below wl.heap.size wl W ∧ W.cell? ⟨a, 0, none⟩ = some v0 ∧ W.cell? ⟨a, 1, none⟩ = some v1 ∧ W.cell? ⟨a, 2, none⟩ = some v2 ∧ W.cell? ⟨a, 3, none⟩ = some v3 ∧ W.cell? ⟨a, 4, none⟩ = some v4 ∧ W.cell? ⟨a, 5, none⟩ = some v5 ∧ W.cell? ⟨a, 6, none⟩ = some v6 ∧ W.cell? ⟨a, 7, none⟩ = some v7) : Below wl.heap.size wl W' ∧ W'.cell? ⟨a, 0, none⟩ = some v0 ∧ W'.cell? ⟨a, 1, none⟩ = some v1 ∧ W'.cell? ⟨a, 2, none⟩ = some v2 ∧ W'.cell? ⟨a, 3, none⟩ = some v3 ∧ W'.cell? ⟨a, 4, none⟩ = some v4 ∧ W'.cell? ⟨a, 5, none⟩ = some v5 ∧ W'.cell? ⟨a, 6, none⟩ = some v6 ∧ W'.cell? ⟨a, 7, none⟩ = some v7 := by
  obtain ⟨h, h0, h1, h2, h3, h4, h5, h6, h7⟩ := h
  exact ⟨h.trans (hb.mono h.size), keepN' hb h0, keepN' hb h1, keepN' hb h2, keepN' hb h3, keepN' hb h4, keepN' hb h5, keepN' hb h6, keepN' hb h7⟩
theorem cp_set {wl W : World} {a b i : Nat} {u v0 v1 v2 v3 v4 v5 v6 v7 : Value} (h : Below wl.heap.size wl W ∧ W.cell? ⟨a, 0, none⟩ = some v0 ∧ W.cell? ⟨a, 1, none⟩ = some v1 ∧ W.cell? ⟨a, 2, none⟩ = some v2 ∧ W.cell? ⟨a, 3, none⟩ = some v3 ∧ W.cell? ⟨a, 4, none⟩ = some v4 ∧ W.cell? ⟨a, 5, none⟩ = some v5 ∧ W.cell? ⟨a, 6, none⟩ = some v6 ∧ W.cell? ⟨a, 7, none⟩ = some v7) (hb : wl.heap.size ≤ b) (ha : a ≠ b) : Below wl.heap.size wl (W.setCell ⟨b, i, none⟩ u) ∧ (W.setCell ⟨b, i, none⟩ u).cell? ⟨a, 0, none⟩ = some v0 ∧ (W.setCell ⟨b, i, none⟩ u).cell? ⟨a, 1, none⟩ = some v1 ∧ (W.setCell ⟨b, i, none⟩ u).cell? ⟨a, 2, none⟩ = some v2 ∧ (W.setCell ⟨b, i, none⟩ u).cell? ⟨a, 3, none⟩ = some v3 ∧ (W.setCell ⟨b, i, none⟩ u).cell? ⟨a, 4, none⟩ = some v4 ∧ (W.setCell ⟨b, i, none⟩ u).cell? ⟨a, 5, none⟩ = some v5 ∧ (W.setCell ⟨b, i, none⟩ u).cell? ⟨a, 6, none⟩ = some v6 ∧ (W.setCell ⟨b, i, none⟩ u).cell? ⟨a, 7, none⟩ = some v7 := by
  obtain ⟨h, h0, h1, h2, h3, h4, h5, h6, h7⟩ := h
  have k : ∀ {j : Nat} {v : Value}, W.cell? ⟨a, j, none⟩ = some v → (W.setCell ⟨b, i, none⟩ u).cell? ⟨a, j, none⟩ = some v := fun hp => (World.cell?_of_block (heap_setCell_other W ⟨b, i, none⟩ a u ha)).trans hp
  exact ⟨h.setCell (p := ⟨b, i, none⟩) hb _, k h0, k h1, k h2, k h3, k h4, k h5, k h6, k h7⟩
def Cpd (wl : World) (t : Tm) (s3 : Value) (W : World) : Prop := ∃ (bx : Nat) (p1 : Option Addr) (c1 : Nat) (p2 : Option Addr) (c2 : Nat), s3 = .pointer (some ⟨bx, 0, none⟩) ∧
  W.heap[bx]? = some (.cells #[.int .i64 t.kind, .string t.name, .string t.other, .int .i64 t.n, .int .i64 t.ty.kind, .slice p1 t.ty.args.length c1, .int .i64 t.res.kind, .slice p2 t.res.args.length c2, .slice none 0 0] 29 (0, 0)) ∧ wl.heap.size ≤ bx ∧
  TS W (fun z => wl.heap.size ≤ z ∧ z ≠ bx) t.ty.args (.slice p1 t.ty.args.length c1) ∧ TS W (fun z => wl.heap.size ≤ z ∧ z ≠ bx) t.res.args (.slice p2 t.res.args.length c2) ∧ Below wl.heap.size wl W
theorem cpd_A {wl w3 w4 : World} {t : Tm} {p1 p2 : Option Addr} {c1 c2 : Nat} (hb1 : Below wl.heap.size wl w3) (hs1 : TS w3 (fun z => wl.heap.size ≤ z) t.ty.args (.slice p1 t.ty.args.length c1)) (hb2 : Below w3.heap.size w3 w4) (hs2 : TS w4 (fun z => w3.heap.size ≤ z) t.res.args (.slice p2 t.res.args.length c2)) :
    Cpd wl t (.pointer (some ⟨w4.heap.size, 0, none⟩)) (w4.alloc (.cells #[.int .i64 t.kind, .string t.name, .string t.other, .int .i64 t.n, .int .i64 t.ty.kind, .slice p1 t.ty.args.length c1, .int .i64 t.res.kind, .slice p2 t.res.args.length c2, .slice none 0 0] 29)) := by
  have l1 := hb1.size
  have l2 := hb2.size
  refine ⟨_, p1, c1, p2, c2, rfl, blk_new w4 _, by omega, ?_, ?_, (hb1.trans (hb2.mono l1)).trans ((al_below w4 _).mono (by omega))⟩
  · exact (((hs1.mono (C' := fun z => wl.heap.size ≤ z ∧ z ≠ w4.heap.size) (fun z hz hl => ⟨hz, by omega⟩)).keep hb2).keep (al_below w4 _))
  · exact ((hs2.mono (C' := fun z => wl.heap.size ≤ z ∧ z ≠ w4.heap.size) (fun z hz hl => ⟨by omega, by omega⟩)).keep (al_below w4 _))
theorem cpd_set {wl w4 : World} {t : Tm} {p1 p2 : Option Addr} {c1 c2 bx : Nat} (zb : w4.heap[bx]? = some (.cells #[.int .i64 0, .string ⟨#[]⟩, .string ⟨#[]⟩, .int .i64 0, .int .i64 0, .slice none 0 0, .int .i64 0, .slice none 0 0, .slice none 0 0] 29 (0, 0))) (hl : wl.heap.size ≤ bx) (h1 : TS w4 (fun z => wl.heap.size ≤ z ∧ z ≠ bx) t.ty.args (.slice p1 t.ty.args.length c1)) (h2 : TS w4 (fun z => wl.heap.size ≤ z ∧ z ≠ bx) t.res.args (.slice p2 t.res.args.length c2)) (hb : Below wl.heap.size wl w4) :
    Cpd wl t (.pointer (some ⟨bx, 0, none⟩)) (((((((((w4.setCell ⟨bx, 0, none⟩ (.int .i64 t.kind)).setCell ⟨bx, 1, none⟩ (.string t.name)).setCell ⟨bx, 2, none⟩ (.string t.other)).setCell ⟨bx, 3, none⟩ (.int .i64 t.n)).setCell ⟨bx, 4, none⟩ (.int .i64 t.ty.kind)).setCell ⟨bx, 5, none⟩ (.slice p1 t.ty.args.length c1)).setCell ⟨bx, 6, none⟩ (.int .i64 t.res.kind)).setCell ⟨bx, 7, none⟩ (.slice p2 t.res.args.length c2)).setCell ⟨bx, 8, none⟩ (.slice none 0 0)) := by
  have hst := setN_stays [.int .i64 t.kind, .string t.name, .string t.other, .int .i64 t.n, .int .i64 t.ty.kind, .slice p1 t.ty.args.length c1, .int .i64 t.res.kind, .slice p2 t.res.args.length c2, .slice none 0 0] (fun z => wl.heap.size ≤ z ∧ z ≠ bx) w4 bx 0 (by simp)
  have hbl := setN_below [.int .i64 t.kind, .string t.name, .string t.other, .int .i64 t.n, .int .i64 t.ty.kind, .slice p1 t.ty.args.length c1, .int .i64 t.res.kind, .slice p2 t.res.args.length c2, .slice none 0 0] wl.heap.size w4 bx 0 hl
  have hbk : (setN w4 bx 0 [.int .i64 t.kind, .string t.name, .string t.other, .int .i64 t.n, .int .i64 t.ty.kind, .slice p1 t.ty.args.length c1, .int .i64 t.res.kind, .slice p2 t.res.args.length c2, .slice none 0 0]).heap[bx]? = some (.cells #[.int .i64 t.kind, .string t.name, .string t.other, .int .i64 t.n, .int .i64 t.ty.kind, .slice p1 t.ty.args.length c1, .int .i64 t.res.kind, .slice p2 t.res.args.length c2, .slice none 0 0] 29 (0, 0)) := by
    rw [setN_block _ _ _ _ _ _ zb]
    simp [setA]
  rw [setN9] at hst hbl hbk
  exact ⟨_, p1, c1, p2, c2, rfl, hbk, hl, h1.stays hst, h2.stays hst, hb.trans hbl⟩
def CopyRet (t : Tm) (w : World) (e : Ending) (w' : World) : Prop := ∃ tp tc rp rc p c xs, e = .returned (tmV t tp tc rp rc p c) ∧ NewTm w' w.heap.size (fun z => w.heap.size ≤ z) t tp tc rp rc p c xs ∧ Below w.heap.size w w'
structure CInv (wl : World) (bx : Nat) (W : World) (t : Tm) (tp : Option Addr) (tc : Nat) (rp : Option Addr) (rc : Nat) (p : Option Addr) (c : Nat) (xs : List Value) : Prop where
  below : Below wl.heap.size wl W
  box : W.heap[bx]? = some (.cells (tmC t tp tc rp rc p c) 29 (0, 0))
  new : NewTm W wl.heap.size (fun z => wl.heap.size ≤ z ∧ z ≠ bx) t tp tc rp rc p c xs
  lt : wl.heap.size ≤ bx
section
variable {w wl W W' : World} {bx : Nat} {t : Tm} {k n : Int} {a o : ByteArray} {ty res : Ty} {ts : List Tm} {tp rp p : Option Addr} {tc rc c : Nat} {xs : List Value}
theorem CInv.bxlt (h : CInv wl bx W t tp tc rp rc p c xs) : bx < W.heap.size := (Array.getElem?_eq_some_iff.1 h.box).1
theorem CInv.keep (h : CInv wl bx W t tp tc rp rc p c xs) (hb : Below W.heap.size W W') : CInv wl bx W' t tp tc rp rc p c xs :=
  ⟨h.below.trans (hb.mono h.below.size), (hb.block _ h.bxlt).trans h.box, h.new.stays (.of_below hb), h.lt⟩
theorem CInv.app {g cap : Nat} {x : Tm} {us : List Value} (h : CInv wl bx W (.mk k a o n ty res ts) tp tc rp rc p c xs)
    (hA : Appd W W' wl.heap.size 29 9 (.slice p ts.length c) ts.length xs us g cap) (hx : MS W (fun z => (wl.heap.size ≤ z ∧ z ≠ bx) ∧ (Value.slice p ts.length c).ownBlock ≠ some z) x.ds us) :
    CInv wl bx (W'.setCell ⟨bx, 8, none⟩ (.slice (some ⟨g, 0, none⟩) (ts.length + 1) cap)) (.mk k a o n ty res (ts ++ [x])) tp tc rp rc (some ⟨g, 0, none⟩) cap (xs ++ us) := by
  have hl := h.lt
  have hob : (Value.slice p ts.length c).ownBlock ≠ some bx := fun e => (h.new.row.blk _ e).2 rfl
  have hkb := hA.kept bx h.bxlt hob
  have hblk := hkb.1.trans h.box
  have hgb : wl.heap.size ≤ g ∧ g ≠ bx := ⟨(hA.own.lt g rfl).1, hkb.2⟩
  have go : ∀ {us : List Ty} {v : Value}, TS W (fun z => (wl.heap.size ≤ z ∧ z ≠ bx) ∧ (Value.slice p ts.length c).ownBlock ≠ some z) us v → TS (W'.setCell ⟨bx, 8, none⟩ (.slice (some ⟨g, 0, none⟩) (ts.length + 1) cap)) (fun z => (wl.heap.size ≤ z ∧ z ≠ bx) ∧ (Value.slice (some ⟨g, 0, none⟩) (ts.length + 1) cap).ownBlock ≠ some z) us v := fun {us v} hd => by
    refine (((hd.mono (C' := fun z => ((wl.heap.size ≤ z ∧ z ≠ bx) ∧ (Value.slice p ts.length c).ownBlock ≠ some z) ∧ z < W.heap.size) (fun _ hz hl => ⟨hz, hl⟩)).stays (w' := W') ⟨hA.size, fun z hz hl => (hA.kept z hl hz.1.2).1⟩).stays (setCell_stays _ _ _ _ _ (fun hz => hz.1.1.2 rfl))).mono (fun z hz _ => ⟨hz.1.1, fun e => ?_⟩)
    have := (hA.kept z hz.2 hz.1.2).2
    simp [Value.ownBlock] at e
    omega
  have hrow := (h.new.row.app hA hgb hx).stays (setCell_stays W' bx 8 (.slice (some ⟨g, 0, none⟩) (ts.length + 1) cap) _ (by simp))
  have e1 : (ts ++ [x]).length = ts.length + 1 := by simp
  refine ⟨(h.below.trans hA.below).setCell (p := ⟨bx, 8, none⟩) hl _, ?_, ⟨?_, ?_, ?_⟩, h.lt⟩
  · rw [Go.Joins.block_setCell hblk _]
    show _ = some (Obj.cells (tmC (.mk k a o n ty res (ts ++ [x])) tp tc rp rc (some ⟨g, 0, none⟩) cap) _ _)
    simp only [tmC, Tm.args, e1]
    rfl
  · show TS _ (fun z => _ ∧ (Value.slice _ (ts ++ [x]).length _).ownBlock ≠ _) _ _
    rw [e1]; exact go h.new.ty
  · show TS _ (fun z => _ ∧ (Value.slice _ (ts ++ [x]).length _).ownBlock ≠ _) _ _
    rw [e1]; exact go h.new.res
  · show RowM _ _ _ (.slice _ (ts ++ [x]).length _) _ _
    rw [e1]; exact hrow
theorem CInv.facts (h : CInv wl bx W (.mk k a o n ty res ts) tp tc rp rc p c xs) :
    (W.cell? ⟨bx, 0, none⟩ = some (.int .i64 k) ∧ W.cell? ⟨bx, 1, none⟩ = some (.string a) ∧ W.cell? ⟨bx, 2, none⟩ = some (.string o) ∧ W.cell? ⟨bx, 3, none⟩ = some (.int .i64 n) ∧ W.cell? ⟨bx, 4, none⟩ = some (.int .i64 ty.kind) ∧ W.cell? ⟨bx, 5, none⟩ = some (.slice tp ty.args.length tc) ∧ W.cell? ⟨bx, 6, none⟩ = some (.int .i64 res.kind) ∧ W.cell? ⟨bx, 7, none⟩ = some (.slice rp res.args.length rc) ∧ W.cell? ⟨bx, 8, none⟩ = some (.slice p ts.length c)) ∧ ∀ i, W.frozen? ⟨bx, i, none⟩ = false :=
  ⟨⟨cell_of_blk h.box 0, cell_of_blk h.box 1, cell_of_blk h.box 2, cell_of_blk h.box 3, cell_of_blk h.box 4, cell_of_blk h.box 5, cell_of_blk h.box 6, cell_of_blk h.box 7, cell_of_blk h.box 8⟩, unfrozen_of_blk h.box⟩
theorem CInv.own (h : CInv wl bx W (.mk k a o n ty res ts) tp tc rp rc p c xs) : W.ownsRow wl.heap.size 29 9 (.slice p ts.length c) ts.length xs := h.new.row.own
theorem cell8 (h : W.heap[bx]? = some (.cells (tmC (.mk k a o n ty res ts) tp tc rp rc p c) 29 (0, 0))) : W.cell? ⟨bx, 8, none⟩ = some (.slice p ts.length c) := cell_of_blk h 8
theorem CInv.fin (h : CInv wl bx W t tp tc rp rc p c xs) (hb : Below w.heap.size w wl) (hs : wl.heap.size = w.heap.size + 2) :
    CopyRet t w (.returned (tmV t tp tc rp rc p c)) (setN W (w.heap.size + 1) 0 [.int .i64 t.kind, .string t.name, .string t.other, .int .i64 t.n, .int .i64 t.ty.kind, .slice tp t.ty.args.length tc, .int .i64 t.res.kind, .slice rp t.res.args.length rc, .slice p t.args.length c]) :=
  ⟨tp, tc, rp, rc, p, c, xs, rfl, (h.new.stays (setN_stays _ (fun z => wl.heap.size ≤ z ∧ z ≠ bx) W (w.heap.size + 1) 0 (fun hc => by have := hc.1; omega))).base (by omega) (fun z hz _ => by have := hz.1; omega),
    (hb.trans (h.below.mono hb.size)).trans (setN_below _ w.heap.size W (w.heap.size + 1) 0 (by omega))⟩
end

set_option maxRecDepth 100000 in
set_option maxHeartbeats 4000000 in
theorem copyM_any {C : Nat → Prop} : ∀ (m : Nat) {t : Tm} {tp : Option Addr} {tc : Nat} {rp : Option Addr} {rc : Nat} {p : Option Addr} {c : Nat} (w : World), t.nodes ≤ m → TM' w C t tp tc rp rc p c → t.wt ≤ 1048576 →
    Calls Tryz.prog 77 #[tmV t tp tc rp rc p c] w (CopyRet t w)
  | 0, t, tp, tc, rp, rc, p, c, w, hm, hT, hn => by rw [t.nodes_eq] at hm; omega
  | m + 1, t, tp, tc, rp, rc, p, c, w, hm, hT, hn => by
    obtain ⟨i0, hi, hz0, hz1, hz2⟩ := info_parts infoTm
    have hwe := t.wt_eq
    have hlen := wtS_ge t.args
    have n1 : nodesS t.ty.args ≤ 1048576 := by omega
    have n2 : nodesS t.res.args ≤ 1048576 := by omega
    obtain ⟨wl, hwl, hsz, hbl, q0, q1⟩ := box_new2 w (tmC t tp tc rp rc p c) #[.int .i64 0, .string ⟨#[]⟩, .string ⟨#[]⟩, .int .i64 0, .int .i64 0, .slice none 0 0, .int .i64 0, .slice none 0 0, .slice none 0 0] 29 29
    have HA := Lib.hid (fun (W : World) (hW : Below wl.heap.size wl W) => copyT_any (⟨_, rfl, (hT.ty.keep hbl).keep hW⟩ : TT W C t.ty (.agg #[.int .i64 t.ty.kind, .slice tp t.ty.args.length tc])) n1)
    have HB := Lib.hid (fun (W : World) (hW : Below wl.heap.size wl W) => copyT_any (⟨_, rfl, (hT.res.keep hbl).keep hW⟩ : TT W C t.res (.agg #[.int .i64 t.res.kind, .slice rp t.res.args.length rc])) n2)
    have HX0 := Lib.hid (Bx9.of q0)
    have HQ0 := Lib.hid q0
    have HQ1 := Lib.hid q1
    have HSZ := Lib.hid hsz
    have HBL := Lib.hid hbl
    have HWL := Lib.hid hwl
    clear hwe hlen n1 n2 q0 q1 hsz hbl hwl
    go_enter Tryz.func77, Tryz.ntmps77
    go_upto_region 1 with fail
    rw [HWL.out]
    go_cut [3] from 5 to 38 (fun s3 wx => Cpd wl t s3 wx)
    case first =>
      obtain ⟨g0, g1, g2, g3, g4, g5, g6, g7, g8⟩ := HX0.out
      have HS0 : Hid (Below wl.heap.size wl wl.drew ∧ wl.drew.cell? ⟨w.heap.size, 0, none⟩ = some (.int .i64 t.kind) ∧ wl.drew.cell? ⟨w.heap.size, 1, none⟩ = some (.string t.name) ∧ wl.drew.cell? ⟨w.heap.size, 2, none⟩ = some (.string t.other) ∧ wl.drew.cell? ⟨w.heap.size, 3, none⟩ = some (.int .i64 t.n) ∧ wl.drew.cell? ⟨w.heap.size, 4, none⟩ = some (.int .i64 t.ty.kind) ∧ wl.drew.cell? ⟨w.heap.size, 5, none⟩ = some (.slice tp t.ty.args.length tc) ∧ wl.drew.cell? ⟨w.heap.size, 6, none⟩ = some (.int .i64 t.res.kind) ∧ wl.drew.cell? ⟨w.heap.size, 7, none⟩ = some (.slice rp t.res.args.length rc)) := Lib.hid ⟨(Below.refl _ wl).drew, g0, g1, g2, g3, g4, g5, g6, g7⟩
      go_region_held3 (fun w' => Below wl.heap.size wl w' ∧ w'.cell? ⟨w.heap.size, 0, none⟩ = some (.int .i64 t.kind) ∧ w'.cell? ⟨w.heap.size, 1, none⟩ = some (.string t.name) ∧ w'.cell? ⟨w.heap.size, 2, none⟩ = some (.string t.other) ∧ w'.cell? ⟨w.heap.size, 3, none⟩ = some (.int .i64 t.n) ∧ w'.cell? ⟨w.heap.size, 4, none⟩ = some (.int .i64 t.ty.kind) ∧ w'.cell? ⟨w.heap.size, 5, none⟩ = some (.slice tp t.ty.args.length tc) ∧ w'.cell? ⟨w.heap.size, 6, none⟩ = some (.int .i64 t.res.kind) ∧ w'.cell? ⟨w.heap.size, 7, none⟩ = some (.slice rp t.res.args.length rc))
        (first
          | with_reducible exact HS0.out
          | with_reducible exact HS4.out
          | with_reducible exact (cp_set (cp_set (cp_set (cp_set (cp_set (cp_set (cp_set (cp_set (cp_set HS4.out HLE.out HNE.out) HLE.out HNE.out) HLE.out HNE.out) HLE.out HNE.out) HLE.out HNE.out) HLE.out HNE.out) HLE.out HNE.out) HLE.out HNE.out) HLE.out HNE.out)
          | with_reducible exact cp_keep (al_below w4 _) HS4.out
          | with_reducible exact cp_keep hb1 (by assumption)
          | with_reducible exact cp_keep (al_below _ _) (by assumption)
          | (go_keep; done)
          | fail)
        (first
          | (go_at_call_of 129 (Value.agg #[.int .i64 t.ty.kind, .slice tp t.ty.args.length tc]); refine (HA.out _ (And.left (by assumption))).mono ?_; rintro e w3 ⟨v1, rfl, ⟨s1, rfl, hs1⟩, hb1⟩; obtain ⟨p1, c1, rfl⟩ := hs1.form)
          | (go_at_call_of 129 (Value.agg #[.int .i64 t.res.kind, .slice rp t.res.args.length rc]); refine (HB.out _ (And.left (by assumption))).mono ?_; rintro e w4 ⟨v2, rfl, ⟨s2, rfl, hs2⟩, hb2⟩; obtain ⟨p2, c2, rfl⟩ := hs2.form; have HS4 : Hid (Below wl.heap.size wl w4 ∧ w4.cell? ⟨w.heap.size, 0, none⟩ = some (.int .i64 t.kind) ∧ w4.cell? ⟨w.heap.size, 1, none⟩ = some (.string t.name) ∧ w4.cell? ⟨w.heap.size, 2, none⟩ = some (.string t.other) ∧ w4.cell? ⟨w.heap.size, 3, none⟩ = some (.int .i64 t.n) ∧ w4.cell? ⟨w.heap.size, 4, none⟩ = some (.int .i64 t.ty.kind) ∧ w4.cell? ⟨w.heap.size, 5, none⟩ = some (.slice tp t.ty.args.length tc) ∧ w4.cell? ⟨w.heap.size, 6, none⟩ = some (.int .i64 t.res.kind) ∧ w4.cell? ⟨w.heap.size, 7, none⟩ = some (.slice rp t.res.args.length rc)) := Lib.hid (cp_keep hb2 (by assumption)); (first
              | (have zb : w4.heap[wl.heap.size]? = some (.cells #[.int .i64 0, .string ⟨#[]⟩, .string ⟨#[]⟩, .int .i64 0, .int .i64 0, .slice none 0 0, .int .i64 0, .slice none 0 0, .slice none 0 0] 29 (0, 0)) := (hb2.block wl.heap.size (by have := hb1.size; simp at this ⊢; omega)).trans ((hb1.block wl.heap.size (by simp)).trans (blk_new wl.drew _)); have HZB := Lib.hid zb; have y0 : w4.cell? ⟨wl.heap.size, 0, none⟩ = some (.int .i64 0) := cell_of_blk zb 0; have y1 : w4.cell? ⟨wl.heap.size, 1, none⟩ = some (.string ⟨#[]⟩) := cell_of_blk zb 1; have y2 : w4.cell? ⟨wl.heap.size, 2, none⟩ = some (.string ⟨#[]⟩) := cell_of_blk zb 2; have y3 : w4.cell? ⟨wl.heap.size, 3, none⟩ = some (.int .i64 0) := cell_of_blk zb 3; have y4 : w4.cell? ⟨wl.heap.size, 4, none⟩ = some (.int .i64 0) := cell_of_blk zb 4; have y5 : w4.cell? ⟨wl.heap.size, 5, none⟩ = some (.slice none 0 0) := cell_of_blk zb 5; have y6 : w4.cell? ⟨wl.heap.size, 6, none⟩ = some (.int .i64 0) := cell_of_blk zb 6; have y7 : w4.cell? ⟨wl.heap.size, 7, none⟩ = some (.slice none 0 0) := cell_of_blk zb 7; have y8 : w4.cell? ⟨wl.heap.size, 8, none⟩ = some (.slice none 0 0) := cell_of_blk zb 8; have yz := unfrozen_of_blk zb; clear zb; have HLE : Hid (wl.heap.size ≤ wl.heap.size) := Lib.hid (Nat.le_refl _); have HNE : Hid (w.heap.size ≠ wl.heap.size) := Lib.hid (by have := HLE.out; have := HSZ.out; omega); have HT1 : Hid (TS w4 (fun z => wl.heap.size ≤ z ∧ z ≠ wl.heap.size) t.ty.args (.slice p1 t.ty.args.length c1)) := Lib.hid ((hs1.mono (fun z hz _ => ⟨by simp at hz; omega, by simp at hz; omega⟩)).keep hb2); have HT2 : Hid (TS w4 (fun z => wl.heap.size ≤ z ∧ z ≠ wl.heap.size) t.res.args (.slice p2 t.res.args.length c2)) := Lib.hid (hs2.mono (fun z hz _ => by have := hb1.size; simp at this; exact ⟨by omega, by omega⟩)))
              | (have zb : w4.heap[w3.heap.size]? = some (.cells #[.int .i64 0, .string ⟨#[]⟩, .string ⟨#[]⟩, .int .i64 0, .int .i64 0, .slice none 0 0, .int .i64 0, .slice none 0 0, .slice none 0 0] 29 (0, 0)) := (hb2.block w3.heap.size (by simp)).trans (blk_new w3 _); have HZB := Lib.hid zb; have y0 : w4.cell? ⟨w3.heap.size, 0, none⟩ = some (.int .i64 0) := cell_of_blk zb 0; have y1 : w4.cell? ⟨w3.heap.size, 1, none⟩ = some (.string ⟨#[]⟩) := cell_of_blk zb 1; have y2 : w4.cell? ⟨w3.heap.size, 2, none⟩ = some (.string ⟨#[]⟩) := cell_of_blk zb 2; have y3 : w4.cell? ⟨w3.heap.size, 3, none⟩ = some (.int .i64 0) := cell_of_blk zb 3; have y4 : w4.cell? ⟨w3.heap.size, 4, none⟩ = some (.int .i64 0) := cell_of_blk zb 4; have y5 : w4.cell? ⟨w3.heap.size, 5, none⟩ = some (.slice none 0 0) := cell_of_blk zb 5; have y6 : w4.cell? ⟨w3.heap.size, 6, none⟩ = some (.int .i64 0) := cell_of_blk zb 6; have y7 : w4.cell? ⟨w3.heap.size, 7, none⟩ = some (.slice none 0 0) := cell_of_blk zb 7; have y8 : w4.cell? ⟨w3.heap.size, 8, none⟩ = some (.slice none 0 0) := cell_of_blk zb 8; have yz := unfrozen_of_blk zb; clear zb; have HLE : Hid (wl.heap.size ≤ w3.heap.size) := Lib.hid hb1.size; have HNE : Hid (w.heap.size ≠ w3.heap.size) := Lib.hid (by have := HLE.out; have := HSZ.out; omega); have HT1 : Hid (TS w4 (fun z => wl.heap.size ≤ z ∧ z ≠ w3.heap.size) t.ty.args (.slice p1 t.ty.args.length c1)) := Lib.hid (((hs1.mono (C' := fun z => wl.heap.size ≤ z ∧ z ≠ w3.heap.size) (fun z hz hl => ⟨hz, by omega⟩)).keep (al_below w3 _)).keep hb2); have HT2 : Hid (TS w4 (fun z => wl.heap.size ≤ z ∧ z ≠ w3.heap.size) t.res.args (.slice p2 t.res.args.length c2)) := Lib.hid (hs2.mono (fun z hz _ => by have := hb1.size; simp at hz this; exact ⟨by omega, by omega⟩)))
              | (have HB1 : Hid (Below wl.heap.size wl w3) := Lib.hid ((Below.refl _ wl).drew.trans hb1); have HS1 : Hid (TS w3 (fun z => wl.heap.size ≤ z) t.ty.args (.slice p1 t.ty.args.length c1)) := Lib.hid hs1; have HB2 : Hid (Below w3.heap.size w3 w4) := Lib.hid hb2; have HS2 : Hid (TS w4 (fun z => w3.heap.size ≤ z) t.res.args (.slice p2 t.res.args.length c2)) := Lib.hid hs2)))
          | fail)
      all_goals
        go_wp2_with fail
        go_meet
        first
          | with_reducible exact cpd_set HZB.out HLE.out HT1.out HT2.out HS4.out.1
          | with_reducible exact cpd_A HB1.out HS1.out HB2.out HS2.out
          | fail
    case rest =>
      obtain ⟨bx, p1, c1, p2, c2, rfl, hbk, hle, hT1, hT2, hbw⟩ := hcut
      have HI0 : Hid (CInv wl bx wc (.mk t.kind t.name t.other t.n t.ty t.res []) p1 c1 p2 c2 none 0 []) := Lib.hid ⟨hbw, hbk, ⟨hT1.mono (fun z hz _ => ⟨hz, by simp [Value.ownBlock]⟩), hT2.mono (fun z hz _ => ⟨hz, by simp [Value.ownBlock]⟩), RowM.start _ _ _⟩, hle⟩
      have HT := Lib.hid (hT.stays (.of_below HBL.out))
      have HM := Lib.hid hm
      have HNE := Lib.hid t.nodes_eq
      have HNW := Lib.hid hn
      have hwa : wtS t.args ≤ 1048576 := by have := t.wt_eq; omega
      have hlen := wtS_ge t.args
      have hl0 : t.args.length ≤ 1048576 := by omega
      clear hbk hle hT1 hT2 hbw hT hm hn HA HB HWL hlen
      go_wp2_with fail
      go_loopw [4] (fun i wr => ∃ (k : Nat) (pp : Option Addr) (cc : Nat) (xs : List Value), k ≤ t.args.length ∧ i = .int .i64 k ∧ CInv wl bx wr (.mk t.kind t.name t.other t.n t.ty t.res (t.args.take k)) p1 c1 p2 c2 pp cc xs) (fun i _ => t.args.length - (intOf i).toNat)
      case atStart => exact ⟨0, none, 0, [], Nat.zero_le _, rfl, by rw [List.take_zero]; exact HI0.out⟩
      case round =>
        obtain ⟨k, pp, cc, xs, hk, rfl, hI⟩ := hrel
        have HI := Lib.hid hI
        have hx0 := (hI.below.block w.heap.size (by have := HSZ.out; omega)).trans HQ0.out
        have hx1 := (hI.below.block (w.heap.size + 1) (by have := HSZ.out; omega)).trans HQ1.out
        have x8 : wr.cell? ⟨w.heap.size, 8, none⟩ = some (.slice p t.args.length c) := cell_of_blk hx0 8
        by_cases hlk : k < t.args.length
        · obtain ⟨b, o, tp2, tc2, rp2, rc2, p3, c3, rfl, hC, hb, h9, hP⟩ := tm_part HT.out.args k hlk
          obtain ⟨g0, g1, g2, g3, g4, g5, g6, g7, g8⟩ := h9 wr (.of_below hI.below)
          have n4 := nodesM_at t.args k hlk
          have n5 := wtS_at t.args k hlk
          have hmk : t.args[k].nodes ≤ m := by have := HM.out; have := HNE.out; omega
          have hi0 : (0 : Int) ≤ (k : Int) := Int.natCast_nonneg _
          have hi1 : (k : Int) < (t.args.length : Int) := by omega
          have HC := Lib.hid (copyM_any m wr.drew hmk (hP.stays (.of_below hI.below.drew)) (by omega))
          have e1 : (t.args.take k).length = k := by rw [List.length_take]; omega
          have HE1 := Lib.hid e1
          have HL := Lib.hid hI.lt
          have y8 := hI.facts.1.2.2.2.2.2.2.2.2
          rw [e1] at y8
          have yz := hI.facts.2
          clear hC hb h9 hP n4 n5 hmk hx0 hx1 hI e1
          go_wp2_with fail
          go_region_law (first
            | (refine step_app1 (w0 := w1) (v := .slice pp k cc) (n := k) (xs := xs) rfl (.tmp 28) (.tmp 35) rfl Tryz.underlying27 hi hz0 hz1 hz2 rfl (by decide) rfl HOW.out _ rfl (by simp) rfl (fun u hu => by simp at hu; rcases hu with rfl | rfl | rfl | rfl | rfl | rfl | rfl | rfl | rfl <;> rfl) (by unfold maxLen; omega) (by omega) HSW.out ?_; intro w' g2' cap2 hA; have d6b := (hA.kept bx HI1.out.bxlt (fun e => by have hE := HE1.out; rw [← hE] at e; exact (HI1.out.new.row.blk _ e).2 rfl)).1.trans HI1.out.box; have d6 : w'.cell? ⟨bx, 8, none⟩ = some (.slice pp k cc) := by have := cell8 d6b; have hE := HE1.out; rw [hE] at this; exact this
               have d6z := unfrozen_of_blk d6b)
            | (go_simp; go_at_call 77; refine HC.out.mono ?_; rintro e w1 ⟨tp3, tc3, rp3, rc3, p4, c4, xs3, rfl, hN, hb1⟩; have hI1 := (HI.out.keep ((Below.refl _ wr).drew)).keep hb1; have HI1 := Lib.hid hI1; have HN := Lib.hid hN; have HB1 := Lib.hid hb1; have HOW : Hid (w1.ownsRow wl.heap.size 29 9 (.slice pp k cc) k xs) := Lib.hid (by have hE := HE1.out; have := hI1.own; rw [hE] at this; exact this)
               have HSW : Hid (wl.heap.size ≤ w1.heap.size) := Lib.hid hI1.below.size
               have d4 : w1.cell? ⟨bx, 8, none⟩ = some (.slice pp k cc) := by have := hI1.facts.1.2.2.2.2.2.2.2.2; have hE := HE1.out; rw [hE] at this; exact this
               have d4z := hI1.facts.2
               have d5 := fun (o : Obj) => al_cell d4 o
               clear hI1 hN hb1))
          all_goals
            have HAA := Lib.hid hA
            clear hA d4 d4z d5 d6b d6 d6z g0 g1 g2 g3 g4 g5 g6 g7 g8 x8 y8 yz
            go_wp2_with fail
            go_roundw
            case rel =>
              refine ⟨k + 1, some ⟨g2', 0, none⟩, cap2, xs ++ [.int .i64 t.args[k].kind, .string t.args[k].name, .string t.args[k].other, .int .i64 t.args[k].n, .int .i64 t.args[k].ty.kind, .slice tp3 t.args[k].ty.args.length tc3, .int .i64 t.args[k].res.kind, .slice rp3 t.args[k].res.args.length rc3, .slice p4 t.args[k].args.length c4], by omega, by go_num, ?_⟩
              have hE := HE1.out
              have hA2 := HAA.out
              have := HI1.out.app (x := t.args[k]) (us := [.int .i64 t.args[k].kind, .string t.args[k].name, .string t.args[k].other, .int .i64 t.args[k].n, .int .i64 t.args[k].ty.kind, .slice tp3 t.args[k].ty.args.length tc3, .int .i64 t.args[k].res.kind, .slice rp3 t.args[k].res.args.length rc3, .slice p4 t.args[k].args.length c4]) (g := g2') (cap := cap2) (by rw [hE]; exact hA2) (HN.out.tm.mono (fun z hz _ => ?_)).ms
              · rw [hE] at this
                rw [tm_take_next hlk]
                exact this
              · have l1 := HI.out.below.size
                have l2 := HI.out.bxlt
                have hz' : wr.heap.size ≤ z := hz
                refine ⟨⟨by omega, by omega⟩, fun e => ?_⟩
                have := (HI.out.new.row.own.lt _ e).2
                omega
            case measure => simp [intOf]; omega
        · obtain rfl : k = t.args.length := by omega
          rw [List.take_length] at hI HI
          obtain ⟨⟨d0, d1, d2, d3, d4, d5, d6, d7, d8⟩, dz⟩ := hI.facts
          have r0 := cell_of_blk hx1 0
          have r1 := cell_of_blk hx1 1
          have r2 := cell_of_blk hx1 2
          have r3 := cell_of_blk hx1 3
          have r4 := cell_of_blk hx1 4
          have r5 := cell_of_blk hx1 5
          have r6 := cell_of_blk hx1 6
          have r7 := cell_of_blk hx1 7
          have r8 := cell_of_blk hx1 8
          have rz := unfrozen_of_blk hx1
          simp only [List.getElem?_toArray, List.getElem?_cons_zero, List.getElem?_cons_succ] at r0 r1 r2 r3 r4 r5 r6 r7 r8
          clear hx0 hx1 hI
          go_wp2_with fail
          refine bodyPost_ret (v := tmV t p1 c1 p2 c2 pp cc) ?_ rfl ?_
          · rw [results_cell1 rfl]
            go_simp
            all_goals (repeat' apply And.intro) <;> rfl
          · have h1 := HI.out
            rw [← t.eta] at h1
            have := h1.fin HBL.out HSZ.out
            rw [setN9] at this
            exact this
end Go.Proofs.YtfeijijeohfpgaaGreatDoor
namespace Go.Proofs.YtfeijijeohfpgaaGreatDoor
open Go
theorem and255 (n : Int) : bits .and .i64 n 255 = n % 256 := by
  have h127 : (BitVec.ofInt 64 255).toNat = 2 ^ 8 - 1 := by decide
  have key : (BitVec.ofInt 64 n &&& BitVec.ofInt 64 255).toNat = (n % ((2 ^ 64 : Nat) : Int)).toNat % 2 ^ 8 := by
    rw [BitVec.toNat_and, BitVec.toNat_ofInt, h127, Nat.and_two_pow_sub_one_eq_mod]
  show IntKind.i64.wrap ((BitVec.ofInt 64 n &&& BitVec.ofInt 64 255).toNat : Nat) = n % 256
  rw [key, IntKind.wrap_i64]
  omega
theorem and30 (n : Int) : bits .and .i64 n 1073741823 = n % 1073741824 := by
  have h127 : (BitVec.ofInt 64 1073741823).toNat = 2 ^ 30 - 1 := by decide
  have key : (BitVec.ofInt 64 n &&& BitVec.ofInt 64 1073741823).toNat = (n % ((2 ^ 64 : Nat) : Int)).toNat % 2 ^ 30 := by
    rw [BitVec.toNat_and, BitVec.toNat_ofInt, h127, Nat.and_two_pow_sub_one_eq_mod]
  show IntKind.i64.wrap ((BitVec.ofInt 64 n &&& BitVec.ofInt 64 1073741823).toNat : Nat) = n % 1073741824
  rw [key, IntKind.wrap_i64]
  omega
end Go.Proofs.YtfeijijeohfpgaaGreatDoor
