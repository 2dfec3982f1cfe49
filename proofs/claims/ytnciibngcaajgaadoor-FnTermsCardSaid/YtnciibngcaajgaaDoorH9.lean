/-
  Several texts of the proof in one (each says below what it holds): DrawT2 DrawT3 TmLeaf DrawT4 TmBox.
-/
import Derived.Test.YtnciibngcaajgaaDoorH7
import Derived.Test.YtnciibngcaajgaaDoorH8
import Derived.Test.YtnciibngcaajgaaDoorH2
import Derived.Test.YtnciibngcaajgaaDoorH6
/- DrawT2: The contract of the draws' l3Fun: a function over two copies. -/
namespace Go.Proofs.YtnciibngcaajgaaDoor
open Go Go.RowKit

theorem Two.four {w : World} {k1 k2 : Int} {s1 s2 : Value} {W : World} (h : Two w k1 k2 s1 s2 W) : W.cell? ⟨w.heap.size, 0, none⟩ = some (.int .i64 k1) ∧ W.cell? ⟨w.heap.size, 1, none⟩ = some s1 ∧ W.cell? ⟨w.heap.size + 1, 0, none⟩ = some (.int .i64 k2) ∧ W.cell? ⟨w.heap.size + 1, 1, none⟩ = some s2 :=
  ⟨h.b1.1, h.b1.2, h.b2.1, h.b2.2⟩
theorem keepS4 {W : World} {b i a1 a2 a3 a4 i1 i2 i3 i4 : Nat} {v u1 u2 u3 u4 : Value} (h : W.cell? ⟨a1, i1, none⟩ = some u1 ∧ W.cell? ⟨a2, i2, none⟩ = some u2 ∧ W.cell? ⟨a3, i3, none⟩ = some u3 ∧ W.cell? ⟨a4, i4, none⟩ = some u4) (h1 : a1 ≠ b) (h2 : a2 ≠ b) (h3 : a3 ≠ b) (h4 : a4 ≠ b) :
    (W.setCell ⟨b, i, none⟩ v).cell? ⟨a1, i1, none⟩ = some u1 ∧ (W.setCell ⟨b, i, none⟩ v).cell? ⟨a2, i2, none⟩ = some u2 ∧ (W.setCell ⟨b, i, none⟩ v).cell? ⟨a3, i3, none⟩ = some u3 ∧ (W.setCell ⟨b, i, none⟩ v).cell? ⟨a4, i4, none⟩ = some u4 := by
  have k : ∀ {p : Addr} {u : Value}, W.cell? p = some u → p.block ≠ b → (W.setCell ⟨b, i, none⟩ v).cell? p = some u := fun {p u} hp hne => (World.cell?_of_block (heap_setCell_other W ⟨b, i, none⟩ p.block v hne)).trans hp
  exact ⟨k h.1 h1, k h.2.1 h2, k h.2.2.1 h3, k h.2.2.2 h4⟩
def TwoRet (t : Ty) (w : World) (k1 k2 : Int) (s1 s2 : Value) (W : World) (e : Ending) (W' : World) : Prop :=
  ∃ (p : Option Addr) (c : Nat), e = .returned (.agg #[.int .i64 t.kind, .slice p t.args.length c]) ∧ TS W' (fun z => w.heap.size + 3 ≤ z) t.args (.slice p t.args.length c) ∧ Two w k1 k2 s1 s2 W' ∧ Below W.heap.size W W'
theorem two_ret {t : Ty} {C : Nat → Prop} {v : Value} {w W : World} {k1 k2 : Int} {s1 s2 : Value} (h : TT w C t v) (hI : Two w k1 k2 s1 s2 W) (hn : nodesS t.args ≤ 1048576) :
    Calls Tryd.prog 54 #[v] W (TwoRet t w k1 k2 s1 s2 W) := by
  refine (copyT_any (h.keep hI.below) hn).mono ?_
  rintro e W' ⟨v', rfl, ⟨s, rfl, hs⟩, hb⟩
  obtain ⟨p, c, rfl⟩ := hs.form
  exact ⟨p, c, rfl, hs.mono (fun z hz _ => by have := hI.ge; show _ ≤ z; have : W.heap.size ≤ z := hz; omega), hI.keep hb, hb⟩

set_option maxRecDepth 100000 in
set_option maxHeartbeats 2000000 in
theorem l3Fun_any {C C' : Nat → Prop} {t u : Ty} {v x : Value} {w : World} (h : TT w C t v) (h2 : TT w C' u x) (hn : nodesS t.args ≤ 1048576) (hn2 : nodesS u.args ≤ 1048576) :
    Calls Tryd.prog 73 #[v, x] w (GrowRet (.mk 3 [t, u]) w) := by
  have hA := fun (k1 k2 : Int) (s1 s2 : Value) (W : World) (hI : Two w k1 k2 s1 s2 W) => two_ret h hI hn
  have hB := fun (k1 k2 : Int) (s1 s2 : Value) (W : World) (hI : Two w k1 k2 s1 s2 W) => two_ret h2 hI hn2
  obtain ⟨s, rfl, hS⟩ := h
  obtain ⟨p, c, rfl⟩ := hS.form
  obtain ⟨s2, rfl, hS2⟩ := h2
  obtain ⟨p2, c2, rfl⟩ := hS2.form
  have HA := Lib.hid (hA t.kind u.kind (.slice p t.args.length c) (.slice p2 u.args.length c2))
  have HB := Lib.hid (hB t.kind u.kind (.slice p t.args.length c) (.slice p2 u.args.length c2))
  clear hS hS2 hA hB
  have hK : Two w t.kind u.kind (.slice p t.args.length c) (.slice p2 u.args.length c2) (((w.alloc (.cells #[.int .i64 t.kind, .slice p t.args.length c] 26)).alloc (.cells #[.int .i64 u.kind, .slice p2 u.args.length c2] 26)).alloc (.cells #[.int .i64 0, .slice none 0 0] 26)).drew := by
    obtain ⟨wl, hwl, hsz, hbl, q0, q1, q2⟩ := loop_world3 w #[.int .i64 t.kind, .slice p t.args.length c] #[.int .i64 u.kind, .slice p2 u.args.length c2] #[.int .i64 0, .slice none 0 0] 26 26 26
    rw [hwl]
    have : Two w t.kind u.kind (.slice p t.args.length c) (.slice p2 u.args.length c2) wl := ⟨⟨cell_of_blk q0 0, cell_of_blk q0 1⟩, ⟨cell_of_blk q1 0, cell_of_blk q1 1⟩, q2, hbl, by omega⟩
    exact this.keep (Below.refl _ _).drew
  have HI0 := Lib.hid hK
  clear hK
  go_enter Tryd.func73, Tryd.ntmps73
  go_wp2_with fail
  go_region_held3 (fun w' => w'.cell? ⟨w.heap.size, 0, none⟩ = some (.int .i64 t.kind) ∧ w'.cell? ⟨w.heap.size, 1, none⟩ = some (.slice p t.args.length c) ∧ w'.cell? ⟨w.heap.size + 1, 0, none⟩ = some (.int .i64 u.kind) ∧ w'.cell? ⟨w.heap.size + 1, 1, none⟩ = some (.slice p2 u.args.length c2))
    (first
      | (go_keep; done)
      | exact ⟨by simp [*], by simp [*], by simp [*], by simp [*]⟩
      | exact HI1.out.four
      | exact HI2.out.four
      | exact keepS4 (keepS4 (by assumption) (by omega) (by omega) (by omega) (by omega)) (by omega) (by omega) (by omega) (by omega))
    (first
      | (go_at_call_of 54 (Value.agg #[.int .i64 t.kind, .slice p t.args.length c]); (first | refine (HA.out _ HI0.out).mono ?_ | refine (HA.out _ HI2.out).mono ?_); rintro e w1 ⟨p3, c3, rfl, hs1, hI1, hb1⟩; have HI1 := Lib.hid hI1; have HS1 := Lib.hid hs1; have HB1 := Lib.hid hb1; have g12 := al_cell (cell_of_blk hI1.r 0); have g13 := al_cell (cell_of_blk hI1.r 1); have g14 := al_frz hI1.r; clear hs1 hI1 hb1)
      | (go_at_call_of 54 (Value.agg #[.int .i64 u.kind, .slice p2 u.args.length c2]); (first | refine (HB.out _ HI0.out).mono ?_ | refine (HB.out _ HI1.out).mono ?_); rintro e w2 ⟨p4, c4, rfl, hs2, hI2, hb2⟩; have HI2 := Lib.hid hI2; have HS2 := Lib.hid hs2; have HB2 := Lib.hid hb2; have g22 := al_cell (cell_of_blk hI2.r 0); have g23 := al_cell (cell_of_blk hI2.r 1); have g24 := al_frz hI2.r; clear hs2 hI2 hb2))
  go_wp2_with fail
  refine bodyPost_ret (v := .agg #[.int .i64 3, .slice (some ⟨w2.heap.size, 0, none⟩) 2 2]) ?_ rfl ?_
  · rw [results_cell1 rfl]
    go_simp
  · exact two_fin HI2.out (HS1.out.keep HB2.out) HS2.out
end Go.Proofs.YtnciibngcaajgaaDoor
/- DrawT3: The draws of a number out of a literal, told exactly; what stands ready while a type is drawn. -/
namespace Go.Proofs.YtnciibngcaajgaaDoor
open Go Go.RowKit

def GInt (P : Int → Prop) (b : Nat) (w : World) (e : Ending) (w' : World) : Prop := ∃ x : Int, P x ∧ e = .returned (.int .i64 x) ∧ Cur w' b ∧ w.grownBy w' (some b)
theorem cur_alloc {b : Nat} {w : World} (hc : Cur w b) (o : Obj) : Cur (w.alloc o) b := hc.below ((Below.refl _ _).alloc (Nat.le_refl _) _)
theorem pickInt_litG (L : List Int) (n b : Nat) (w : World) (cs : Array Value) (hn : L.length = n) (h1 : 1 ≤ n) (h2 : n ≤ 1048576) (hcs : cs = (L.map (Value.int .i64)).toArray) (hc : Cur w b) :
    Calls Tryd.prog 49 #[.pointer (some ⟨b, 0, none⟩), .slice (some ⟨w.heap.size, 0, none⟩) n n] (w.alloc (.cells cs 3)) (GInt (· ∈ L) b w) := by
  subst hn; subst hcs
  have hlt := hc.lt
  refine (pickInt_any L w.heap.size b _ (by omega) h1 h2 (fun j x hj => ?_) (cur_alloc hc _)).mono ?_
  · rw [World.cell?_alloc_at _ _ _ _ rfl, List.getElem?_toArray, List.getElem?_map, hj]; rfl
  · rintro e w' ⟨x, hx, rfl, hc', hg⟩
    exact ⟨x, hx, rfl, hc', grownBy_trans (World.grownBy_alloc _ _ _) hg⟩

/-- The bytes that the cursor reads, too, lie below B. -/
theorem grown_below {w w1 w2 : World} {b B : Nat} (h : w.grownBy w1 (some b)) (hB : w.heap.size ≤ B) (hb : Below B w1 w2) : w.grownBy w2 (some b) :=
  ⟨hb.os.trans h.os, hb.tape.trans h.tape, hb.output.trans h.output, Nat.le_trans h.size hb.size, fun k hk hne => (hb.block k (by omega)).trans (h.block k hk hne)⟩


/-- While a type is drawn: the cursor, the result's cell (made first) as it was. -/
structure Rdy (w : World) (b : Nat) (W : World) : Prop where
  cur : Cur W b
  grown : w.grownBy W (some b)
  r : W.heap[w.heap.size]? = some (.cells #[.int .i64 0, .slice none 0 0] 26 (0, 0))
theorem Rdy.lt {w W : World} {b : Nat} (h : Rdy w b W) : w.heap.size < W.heap.size := (Array.getElem?_eq_some_iff.1 h.r).1
theorem Rdy.step {w W W' : World} {b : Nat} (h : Rdy w b W) (hbw : b < w.heap.size) (hc : Cur W' b) (hg : W.grownBy W' (some b)) : Rdy w b W' :=
  ⟨hc, grownBy_trans h.grown hg, (hg.block _ h.lt (fun e => by have := Option.some.inj e; omega)).trans h.r⟩
theorem Rdy.below {w W W' : World} {b : Nat} (h : Rdy w b W) (hb : Below W.heap.size W W') : Rdy w b W' :=
  ⟨h.cur.below hb, grown_below h.grown (Nat.le_of_lt h.lt) hb, (hb.block _ h.lt).trans h.r⟩
theorem Rdy.start {w : World} {b : Nat} (hc : Cur w b) : Rdy w b (w.alloc (.cells #[.int .i64 0, .slice none 0 0] 26)) :=
  ⟨cur_alloc hc _, World.grownBy_alloc _ _ _, blk_new w _⟩

/-- A call that draws a type of fewer than 2^d nodes. -/
def DrawT (d b : Nat) (w : World) (e : Ending) (w' : World) : Prop := ∃ v t, e = .returned v ∧ t.nodes + 1 ≤ 2 ^ d ∧ NewG t w.heap.size w' v ∧ Cur w' b ∧ w.grownBy w' (some b)
theorem NewG.grown {t : Ty} {base b : Nat} {w w' : World} {v : Value} (h : NewG t base w v) (hb : b < base) (hg : w.grownBy w' (some b)) : NewG t base w' v := by
  obtain ⟨s, es, h1, h2, h3⟩ := h
  have hst : Stays (fun z => base ≤ z) w w' := ⟨hg.size, fun k hk hl => hg.block k hl (fun e => by have := Option.some.inj e; omega)⟩
  refine ⟨s, es, h1, h2, ⟨h3.own.1, ?_⟩, fun e he => ((h3.ts e he).stays (hst.mono (fun z hz => hz.1)))⟩
  rcases h3.own.2 with h0 | ⟨g, cap, cur, rfl, hbg, hblk, r⟩
  · exact Or.inl h0
  · exact Or.inr ⟨g, cap, cur, rfl, hbg, (hst.2 g hbg (Array.getElem?_eq_some_iff.1 hblk).1).trans hblk, r⟩
theorem small_args {t : Ty} {k : Nat} (h : t.nodes + 1 ≤ 2 ^ k) (hk : 2 ^ k ≤ 2 ^ 3) : nodesS t.args ≤ 1048576 := by
  rw [t.nodes_eq] at h; omega
theorem keep2 {W w1 : World} {p1 p2 : Addr} {v1 v2 : Value} (hb1 : Below W.heap.size W w1) (h : W.cell? p1 = some v1 ∧ W.cell? p2 = some v2) : w1.cell? p1 = some v1 ∧ w1.cell? p2 = some v2 :=
  ⟨(hb1.cell (World.block_lt_of_cell? W _ h.1)).trans h.1, (hb1.cell (World.block_lt_of_cell? W _ h.2)).trans h.2⟩
theorem keepS2 {W : World} {b i a1 a2 i1 i2 : Nat} {v u1 u2 : Value} (h : W.cell? ⟨a1, i1, none⟩ = some u1 ∧ W.cell? ⟨a2, i2, none⟩ = some u2) (h1 : a1 ≠ b) (h2 : a2 ≠ b) :
    (W.setCell ⟨b, i, none⟩ v).cell? ⟨a1, i1, none⟩ = some u1 ∧ (W.setCell ⟨b, i, none⟩ v).cell? ⟨a2, i2, none⟩ = some u2 :=
  ⟨(World.cell?_of_block (heap_setCell_other W ⟨b, i, none⟩ a1 v h1)).trans h.1, (World.cell?_of_block (heap_setCell_other W ⟨b, i, none⟩ a2 v h2)).trans h.2⟩
theorem draw_fin {w W : World} {b d base : Nat} {t : Ty} {s : Value} (h : Rdy w b W) (hbw : b < w.heap.size) (hn : NewG t base W (.agg #[.int .i64 t.kind, s])) (hbase : w.heap.size + 1 ≤ base) (hd : t.nodes + 1 ≤ 2 ^ d) :
    DrawT d b w (.returned (.agg #[.int .i64 t.kind, s])) ((W.setCell ⟨w.heap.size, 0, none⟩ (.int .i64 t.kind)).setCell ⟨w.heap.size, 1, none⟩ s) := by
  obtain ⟨s', es, h1, h2, h3⟩ := hn
  have hbl : Below w.heap.size W ((W.setCell ⟨w.heap.size, 0, none⟩ (.int .i64 t.kind)).setCell ⟨w.heap.size, 1, none⟩ s) := ((Below.refl _ W).setCell (p := ⟨w.heap.size, 0, none⟩) (Nat.le_refl _) _).setCell (p := ⟨w.heap.size, 1, none⟩) (Nat.le_refl _) _
  exact ⟨_, t, rfl, hd, ⟨s', es, h1, h2, ((h3.set w.heap.size 0 _ (by omega)).set w.heap.size 1 _ (by omega)).base (by omega)⟩, h.cur.belowAt hbw hbl, grown_below h.grown (Nat.le_refl _) hbl⟩
theorem leaf_fin {w W : World} {b d : Nat} {x : Int} (h : Rdy w b W) (hbw : b < w.heap.size) :
    DrawT (d + 1) b w (.returned (.agg #[.int .i64 x, .slice none 0 0])) ((W.setCell ⟨w.heap.size, 0, none⟩ (.int .i64 x)).setCell ⟨w.heap.size, 1, none⟩ (.slice none 0 0)) :=
  draw_fin (t := .mk x []) h hbw ⟨_, [], rfl, rfl, Grow.start W (w.heap.size + 1)⟩ (Nat.le_refl _) (by have := Nat.one_le_two_pow (n := d); simp only [Ty.nodes, nodesS, Nat.pow_succ]; omega)

set_option maxRecDepth 100000 in
set_option maxHeartbeats 2000000 in
theorem draw_step (k : Nat) (D : Int) (hD : D = (k : Int) + 1) (hk : k ≤ 3)
    (IH : 1 ≤ k → ∀ (b : Nat) (W : World), Cur W b → Calls Tryd.prog 70 #[.pointer (some ⟨b, 0, none⟩), .int .i64 (D - 1)] W (DrawT k b W)) (b : Nat) (w : World) (hc : Cur w b) :
    Calls Tryd.prog 70 #[.pointer (some ⟨b, 0, none⟩), .int .i64 D] w (DrawT (k + 1) b w) := by
  have hbw := hc.lt
  have hsz := fun (W : World) (h : Rdy w b W) => h.lt
  have HSZ := Lib.hid hsz
  clear hsz
  have d1 : 1 ≤ D := by omega
  have d4 : D ≤ 4 := by omega
  have HR0 := Lib.hid (Rdy.start hc)
  have HIH := Lib.hid IH
  have hp := pickInt_litG [1, 1, 2] 3 b (w.alloc (.cells #[.int .i64 0, .slice none 0 0] 26)) #[.int .i64 1, .int .i64 1, .int .i64 2] rfl (by decide) (by decide) rfl HR0.out.cur
  rw [World.size_alloc] at hp
  have HP := Lib.hid hp
  have HD := Lib.hid hD
  clear IH hc hp hD
  go_enter Tryd.func70, Tryd.ntmps70
  by_cases h2 : D < 2
  · go_wp2_with fail
    refine HP.out.mono ?_
    rintro e w1 ⟨x, _, rfl, hc1, hg1⟩
    have hr1 := HR0.out.step hbw hc1 hg1
    have g0 : w1.cell? ⟨w.heap.size, 0, none⟩ = some (.int .i64 0) := cell_of_blk hr1.r 0
    have g1 : w1.cell? ⟨w.heap.size, 1, none⟩ = some (.slice none 0 0) := cell_of_blk hr1.r 1
    have gz := unfrozen_of_blk hr1.r
    have HR1 := Lib.hid hr1
    clear hc1 hg1 hr1
    go_wp2_with fail
    refine bodyPost_ret (v := .agg #[.int .i64 x, .slice none 0 0]) ?_ rfl ?_
    · rw [results_cell1 rfl]
      go_simp
    · exact leaf_fin HR1.out hbw
  · have k1 : 1 ≤ k := by have := HD.out; omega
    have HIK := Lib.hid (HIH.out k1)
    go_wp2_with fail
    refine (once_any b 2 _ (by decide) (by decide) HR0.out.cur).mono ?_
    rintro e w1 ⟨x, rfl, hc1, hg1⟩
    have HR1 := Lib.hid (HR0.out.step hbw hc1 hg1)
    clear hc1 hg1
    cases x
    · go_wp2_with fail
      refine (once_any b 2 _ (by decide) (by decide) HR1.out.cur).mono ?_
      rintro e w2 ⟨y, rfl, hc2, hg2⟩
      have HR2 := Lib.hid (HR1.out.step hbw hc2 hg2)
      clear hc2 hg2
      cases y
      · go_wp2_with fail
        refine (HIK.out b w2 HR2.out.cur).mono ?_
        rintro e w3 ⟨v3, t3, rfl, hn3, hg3, hc3, hgr3⟩
        have hr3 := HR2.out.step hbw hc3 hgr3
        have hq : t3.nodes + 1 ≤ 8 := Nat.le_trans hn3 (Nat.pow_le_pow_right (n := 2) (by decide) hk)
        obtain ⟨s3, hv3, hs3⟩ := hg3.tt
        obtain ⟨p3, c3, rfl⟩ := hs3.form
        subst hv3
        have hba := alloc_below w3 (.cells #[.int .i64 t3.kind, .slice p3 t3.args.length c3] 26)
        have hbd := hba.drew
        have HRb := Lib.hid (hr3.below hbd)
        have hgb := HRb.out.cur
        have l23 := hgr3.size
        have l02 := HR2.out.lt
        have l03 := hr3.lt
        have HT4 := Lib.hid (fun (W : World) (hW : ((w3.alloc (.cells #[.int .i64 t3.kind, .slice p3 t3.args.length c3] 26)).drew).grownBy W (some b)) =>
          (⟨_, rfl, (hs3.keep hbd).stays (C := fun z => w2.heap.size ≤ z) ⟨hW.size, fun k hk hl => hW.block k hl (fun e => by have := Option.some.inj e; omega)⟩⟩ : TT W _ t3 (.agg #[.int .i64 t3.kind, .slice p3 t3.args.length c3])))
        have HX4 := Lib.hid (fun (W : World) (hW : ((w3.alloc (.cells #[.int .i64 t3.kind, .slice p3 t3.args.length c3] 26)).drew).grownBy W (some b)) =>
          (⟨hW.cell (Bx.new w3 t3.kind (.slice p3 t3.args.length c3) 26).1 (fun e => by have : w3.heap.size = b := Option.some.inj e; omega), hW.cell (Bx.new w3 t3.kind (.slice p3 t3.args.length c3) 26).2 (fun e => by have : w3.heap.size = b := Option.some.inj e; omega)⟩ :
            W.cell? ⟨w3.heap.size, 0, none⟩ = some (.int .i64 t3.kind) ∧ W.cell? ⟨w3.heap.size, 1, none⟩ = some (.slice p3 t3.args.length c3)))
        have HN3 := Lib.hid hn3
        have HQ3 : Hid (nodesS t3.args ≤ 1048576) := Lib.hid (by rw [t3.nodes_eq] at hq; omega)
        have hk8 := Nat.pow_le_pow_right (n := 2) (by decide) hk
        have HK8 := Lib.hid hk8
        clear hg3 hc3 hgr3 hn3 hr3 hs3 hba hbd hgb hq hk8
        go_wp2_with fail
        have a3 : IntKind.i64.wrap (D - 1) = D - 1 := IntWalk.i64_in _ (by omega)
        have a4 : wrap64 (D - 1) = D - 1 := by unfold wrap64; omega
        go_region_held3 (fun w' => w'.cell? ⟨w3.heap.size, 0, none⟩ = some (.int .i64 t3.kind) ∧ w'.cell? ⟨w3.heap.size, 1, none⟩ = some (.slice p3 t3.args.length c3))
          (first
            | (go_keep; done)
            | exact ⟨by simp [*], by simp [*]⟩
            | exact HS5.out
            | exact HS4.out
            | exact keepS2 (keepS2 (by assumption) (by omega) (by omega)) (by omega) (by omega))
          (first
            | (go_at_call 70; refine (HIK.out b _ HRb.out.cur).mono ?_; rintro e w4 ⟨v4, t4, rfl, hn4, hg4, hc4, hgr4⟩; have HS4 := Lib.hid (HX4.out w4 hgr4); have HT3 := Lib.hid (HT4.out w4 hgr4); have HR4 := Lib.hid (HRb.out.step hbw hc4 hgr4); have HG4 := Lib.hid hg4; have HN4 := Lib.hid hn4; obtain ⟨s4, hv4, hs4⟩ := hg4.tt; obtain ⟨p4, c4, rfl⟩ := hs4.form; subst hv4; clear hg4 hc4 hgr4 hn4 hs4)
            | (go_at_call 73; refine (l3Fun_any HT3.out HG4.out.tt HQ3.out (small_args HN4.out HK8.out)).mono ?_; rintro e w5 ⟨v5, rfl, hg5, hb5⟩; obtain ⟨s5, hv5, hs5⟩ := hg5.tt; obtain ⟨p5, c5, rfl⟩ := hs5.form; subst hv5; have HS5 := Lib.hid (keep2 hb5 HS4.out); have hr5 := HR4.out.below hb5; have HR5 := Lib.hid hr5; have HG5 := Lib.hid hg5; have g0 : w5.cell? ⟨w.heap.size, 0, none⟩ = some (.int .i64 0) := cell_of_blk hr5.r 0; have g1 : w5.cell? ⟨w.heap.size, 1, none⟩ = some (.slice none 0 0) := cell_of_blk hr5.r 1; have gz := unfrozen_of_blk hr5.r; clear hg5 hb5 hr5 hs5))
        go_wp2_with fail
        refine bodyPost_ret (v := .agg #[.int .i64 3, .slice p5 2 c5]) ?_ rfl ?_
        · rw [results_cell1 rfl]
          go_simp
        · exact draw_fin (t := .mk 3 [t3, t4]) HR5.out hbw HG5.out (by have := HR4.out.lt; omega) (by have := HN3.out; have := HN4.out; simp only [Ty.nodes, nodesS, Nat.pow_succ]; omega)
      · go_wp2_with fail
        refine (HIK.out b w2 HR2.out.cur).mono ?_
        rintro e w3 ⟨v3, t3, rfl, hn3, hg3, hc3, hgr3⟩
        have HR3 := Lib.hid (HR2.out.step hbw hc3 hgr3)
        have hq : t3.nodes + 1 ≤ 8 := Nat.le_trans hn3 (Nat.pow_le_pow_right (n := 2) (by decide) hk)
        have HN3 := Lib.hid hn3
        have HC3 := Lib.hid (l3Code_any hg3.tt (by rw [t3.nodes_eq] at hq; omega))
        clear hg3 hc3 hgr3 hn3
        go_wp2_with fail
        refine HC3.out.mono ?_
        rintro e w4 ⟨v4, rfl, hg4, hb4⟩
        have hr4 := HR3.out.below hb4
        have g0 : w4.cell? ⟨w.heap.size, 0, none⟩ = some (.int .i64 0) := cell_of_blk hr4.r 0
        have g1 : w4.cell? ⟨w.heap.size, 1, none⟩ = some (.slice none 0 0) := cell_of_blk hr4.r 1
        have gz := unfrozen_of_blk hr4.r
        obtain ⟨p4, c4, hv4⟩ : ∃ p c, v4 = .agg #[.int .i64 4, .slice p 1 c] := by
          obtain ⟨s, hv, hs⟩ := hg4.tt
          obtain ⟨p, c, rfl⟩ := hs.form
          exact ⟨p, c, hv⟩
        subst hv4
        have HR4 := Lib.hid hr4
        have HG4 := Lib.hid hg4
        have HB4 := Lib.hid hb4.size
        clear hg4 hb4 hr4
        go_wp2_with fail
        refine bodyPost_ret (v := .agg #[.int .i64 4, .slice p4 1 c4]) ?_ rfl ?_
        · rw [results_cell1 rfl]
          go_simp
        · exact draw_fin (t := .mk 4 [t3]) HR4.out hbw HG4.out (by have := HR3.out.lt; omega) (by have := HN3.out; simp only [Ty.nodes, nodesS, Nat.pow_succ]; omega)
    · go_wp2_with fail
      refine (pickInt_litG [1, 1, 2] 3 b w1 _ rfl (by decide) (by decide) rfl HR1.out.cur).mono ?_
      rintro e w2 ⟨x, _, rfl, hc2, hg2⟩
      have hr2 := HR1.out.step hbw hc2 hg2
      have g0 : w2.cell? ⟨w.heap.size, 0, none⟩ = some (.int .i64 0) := cell_of_blk hr2.r 0
      have g1 : w2.cell? ⟨w.heap.size, 1, none⟩ = some (.slice none 0 0) := cell_of_blk hr2.r 1
      have gz := unfrozen_of_blk hr2.r
      have HR2 := Lib.hid hr2
      clear hc2 hg2 hr2
      go_wp2_with fail
      refine bodyPost_ret (v := .agg #[.int .i64 x, .slice none 0 0]) ?_ rfl ?_
      · rw [results_cell1 rfl]
        go_simp
      · exact leaf_fin HR2.out hbw
end Go.Proofs.YtnciibngcaajgaaDoor
/- TmLeaf: The contracts of the draws' l5Var, l5Int, l5Bool, l5Leaf: a term without parts. -/
namespace Go.Proofs.YtnciibngcaajgaaDoor
open Go Go.RowKit

abbrev leaf (k : Int) (s : ByteArray) (n : Int) : Tm := .mk k s ⟨#[]⟩ n (.mk 0 []) (.mk 0 []) []
abbrev leafV (k : Int) (s : ByteArray) (n : Int) : Value := .agg #[.int .i64 k, .string s, .string ⟨#[]⟩, .int .i64 n, .int .i64 0, .slice none 0 0, .int .i64 0, .slice none 0 0, .slice none 0 0]
abbrev zero9 : Array Value := #[.int .i64 0, .string ⟨#[]⟩, .string ⟨#[]⟩, .int .i64 0, .int .i64 0, .slice none 0 0, .int .i64 0, .slice none 0 0, .slice none 0 0]
theorem leaf_new (w : World) (base : Nat) (C : Nat → Prop) (k : Int) (s : ByteArray) (n : Int) : NewTm w base C (leaf k s n) none 0 none 0 none 0 [] := ⟨.nil _ _, .nil _ _, RowM.start _ _ _⟩
/-- While a term is drawn: the cursor, the result's cells (made first) as they were. -/
structure RdyM (w : World) (b : Nat) (W : World) : Prop where
  cur : Cur W b
  grown : w.grownBy W (some b)
  r : W.heap[w.heap.size]? = some (.cells zero9 29 (0, 0))
theorem RdyM.lt {w W : World} {b : Nat} (h : RdyM w b W) : w.heap.size < W.heap.size := (Array.getElem?_eq_some_iff.1 h.r).1
theorem RdyM.step {w W W' : World} {b : Nat} (h : RdyM w b W) (hbw : b < w.heap.size) (hc : Cur W' b) (hg : W.grownBy W' (some b)) : RdyM w b W' :=
  ⟨hc, grownBy_trans h.grown hg, (hg.block _ h.lt (fun e => by have := Option.some.inj e; omega)).trans h.r⟩
theorem RdyM.below {w W W' : World} {b : Nat} (h : RdyM w b W) (hb : Below W.heap.size W W') : RdyM w b W' :=
  ⟨h.cur.below hb, grown_below h.grown (Nat.le_of_lt h.lt) hb, (hb.block _ h.lt).trans h.r⟩
theorem RdyM.start {w : World} {b : Nat} (hc : Cur w b) : RdyM w b (w.alloc (.cells zero9 29)) := ⟨cur_alloc hc _, World.grownBy_alloc _ _ _, blk_new w _⟩
theorem RdyM.fin {w W : World} {b : Nat} (h : RdyM w b W) (hbw : b < w.heap.size) (vs : List Value) : Cur (setN W w.heap.size 0 vs) b ∧ w.grownBy (setN W w.heap.size 0 vs) (some b) ∧ Stays (fun z => w.heap.size + 1 ≤ z) W (setN W w.heap.size 0 vs) :=
  have hb := setN_below vs w.heap.size W w.heap.size 0 (Nat.le_refl _)
  ⟨h.cur.belowAt hbw hb, grown_below h.grown (Nat.le_refl _) hb, setN_stays vs _ W _ 0 (by omega)⟩
/-- The cells of the result, as the walk wants them. -/
theorem RdyM.facts {w W : World} {b : Nat} (h : RdyM w b W) : (W.cell? ⟨w.heap.size, 0, none⟩ = some (.int .i64 0) ∧ W.cell? ⟨w.heap.size, 1, none⟩ = some (.string ⟨#[]⟩) ∧ W.cell? ⟨w.heap.size, 2, none⟩ = some (.string ⟨#[]⟩) ∧ W.cell? ⟨w.heap.size, 3, none⟩ = some (.int .i64 0) ∧ W.cell? ⟨w.heap.size, 4, none⟩ = some (.int .i64 0) ∧ W.cell? ⟨w.heap.size, 5, none⟩ = some (.slice none 0 0) ∧ W.cell? ⟨w.heap.size, 6, none⟩ = some (.int .i64 0) ∧ W.cell? ⟨w.heap.size, 7, none⟩ = some (.slice none 0 0) ∧ W.cell? ⟨w.heap.size, 8, none⟩ = some (.slice none 0 0)) ∧ ∀ i, W.frozen? ⟨w.heap.size, i, none⟩ = false :=
  ⟨⟨cell_of_blk h.r 0, cell_of_blk h.r 1, cell_of_blk h.r 2, cell_of_blk h.r 3, cell_of_blk h.r 4, cell_of_blk h.r 5, cell_of_blk h.r 6, cell_of_blk h.r 7, cell_of_blk h.r 8⟩, unfrozen_of_blk h.r⟩

def LeafRet (k : Int) (s : ByteArray) (n : Int) (w : World) (e : Ending) (w' : World) : Prop := e = .returned (leafV k s n) ∧ Below w.heap.size w w'
set_option maxRecDepth 100000 in
set_option maxHeartbeats 1000000 in
theorem l5Var_any (s : ByteArray) (w : World) : Calls Tryd.prog 50 #[.string s] w (LeafRet 1 s 0 w) := by
  go_enter Tryd.func50, Tryd.ntmps50
  go_wp2_with fail
  refine bodyPost_ret (v := leafV 1 s 0) ?_ rfl ?_
  · rw [results_cell1 rfl]
    go_simp
  · exact ⟨rfl, al_below _ _⟩
set_option maxRecDepth 100000 in
set_option maxHeartbeats 1000000 in
theorem l5Int_any (n : Int) (w : World) : Calls Tryd.prog 87 #[.int .i64 n] w (LeafRet 2 ⟨#[]⟩ n w) := by
  go_enter Tryd.func87, Tryd.ntmps87
  go_wp2_with fail
  refine bodyPost_ret (v := leafV 2 ⟨#[]⟩ n) ?_ rfl ?_
  · rw [results_cell1 rfl]
    go_simp
  · exact ⟨rfl, al_below _ _⟩
set_option maxRecDepth 100000 in
set_option maxHeartbeats 1000000 in
theorem l5Bool_any (n : Int) (w : World) : Calls Tryd.prog 88 #[.int .i64 n] w (LeafRet 3 ⟨#[]⟩ n w) := by
  go_enter Tryd.func88, Tryd.ntmps88
  go_wp2_with fail
  refine bodyPost_ret (v := leafV 3 ⟨#[]⟩ n) ?_ rfl ?_
  · rw [results_cell1 rfl]
    go_simp
  · exact ⟨rfl, al_below _ _⟩

/-- A call that draws a term without parts. -/
def LeafG (b : Nat) (w : World) (e : Ending) (w' : World) : Prop := ∃ (k : Int) (s : ByteArray) (n : Int), e = .returned (leafV k s n) ∧ s.size ≤ 1 ∧ Cur w' b ∧ w.grownBy w' (some b)
theorem leafM_fin {w W : World} {b : Nat} (h : RdyM w b W) (hbw : b < w.heap.size) (k : Int) (s : ByteArray) (n : Int) (hs : s.size ≤ 1) :
    LeafG b w (.returned (leafV k s n)) (setN W w.heap.size 0 [.int .i64 k, .string s, .string ⟨#[]⟩, .int .i64 n, .int .i64 0, .slice none 0 0, .int .i64 0, .slice none 0 0, .slice none 0 0]) :=
  have hf := h.fin hbw _
  ⟨k, s, n, rfl, hs, hf.1, hf.2.1⟩

set_option maxRecDepth 100000 in
set_option maxHeartbeats 2000000 in
theorem leafM_any (b : Nat) (w : World) (hc : Cur w b) : Calls Tryd.prog 69 #[.pointer (some ⟨b, 0, none⟩)] w (LeafG b w) := by
  have hbw := hc.lt
  have HR0 := Lib.hid (RdyM.start hc)
  clear hc
  go_enter Tryd.func69, Tryd.ntmps69
  go_wp2_with fail
  refine (below_any b 4 _ (by decide) (by decide) HR0.out.cur).mono ?_
  rintro e w1 ⟨x, hx, rfl, hc1, hg1⟩
  have HR1 := Lib.hid (HR0.out.step hbw hc1 hg1)
  obtain ⟨x0, x4⟩ := hx
  clear hc1 hg1
  rcases (show x = 0 ∨ x = 1 ∨ 2 ≤ x by omega) with rfl | rfl | h2
  · go_wp2_with fail
    refine (pickInt_litG [0, 1, 2, 3, 10006] 5 b w1 _ rfl (by decide) (by decide) rfl HR1.out.cur).mono ?_
    rintro e w2 ⟨n, hn, rfl, hc2, hg2⟩
    have HR2 := Lib.hid (HR1.out.step hbw hc2 hg2)
    clear hn hc2 hg2
    go_wp2_with fail
    refine (l5Int_any n w2).mono ?_
    rintro e w3 ⟨rfl, hb3⟩
    have hr3 := HR2.out.below hb3
    have HR3 := Lib.hid hr3
    obtain ⟨⟨g0, g1, g2, g3, g4, g5, g6, g7, g8⟩, gz⟩ := hr3.facts
    clear hr3 hb3
    go_wp2_with fail
    refine bodyPost_ret (v := leafV 2 ⟨#[]⟩ n) ?_ rfl ?_
    · rw [results_cell1 rfl]
      go_simp
    · have := leafM_fin HR3.out hbw 2 ⟨#[]⟩ n (by decide)
      rw [setN9] at this
      exact this
  · go_wp2_with fail
    refine (below_any b 2 w1 (by decide) (by decide) HR1.out.cur).mono ?_
    rintro e w2 ⟨n, hn, rfl, hc2, hg2⟩
    have HR2 := Lib.hid (HR1.out.step hbw hc2 hg2)
    clear hn hc2 hg2
    go_wp2_with fail
    refine (l5Bool_any n w2).mono ?_
    rintro e w3 ⟨rfl, hb3⟩
    have hr3 := HR2.out.below hb3
    have HR3 := Lib.hid hr3
    obtain ⟨⟨g0, g1, g2, g3, g4, g5, g6, g7, g8⟩, gz⟩ := hr3.facts
    clear hr3 hb3
    go_wp2_with fail
    refine bodyPost_ret (v := leafV 3 ⟨#[]⟩ n) ?_ rfl ?_
    · rw [results_cell1 rfl]
      go_simp
    · have := leafM_fin HR3.out hbw 3 ⟨#[]⟩ n (by decide)
      rw [setN9] at this
      exact this
  · have e0 : (x == 0) = false := by rw [beq_eq_false_iff_ne]; omega
    have e1 : (x == 1) = false := by rw [beq_eq_false_iff_ne]; omega
    go_wp2_with fail
    refine (pickS_litG [⟨#[120]⟩, ⟨#[121]⟩, ⟨#[102]⟩] 3 b w1 _ rfl (by decide) (by decide) rfl HR1.out.cur).mono ?_
    rintro e w2 ⟨s, hs, rfl, hc2, hg2⟩
    have HR2 := Lib.hid (HR1.out.step hbw hc2 hg2)
    have HS := Lib.hid (show s.size ≤ 1 by simp at hs; rcases hs with rfl | rfl | rfl <;> decide)
    clear hs hc2 hg2
    go_wp2_with fail
    refine (l5Var_any s w2).mono ?_
    rintro e w3 ⟨rfl, hb3⟩
    have hr3 := HR2.out.below hb3
    have HR3 := Lib.hid hr3
    obtain ⟨⟨g0, g1, g2, g3, g4, g5, g6, g7, g8⟩, gz⟩ := hr3.facts
    clear hr3 hb3
    go_wp2_with fail
    refine bodyPost_ret (v := leafV 1 s 0) ?_ rfl ?_
    · rw [results_cell1 rfl]
      go_simp
    · have := leafM_fin HR3.out hbw 1 s 0 HS.out
      rw [setN9] at this
      exact this
end Go.Proofs.YtnciibngcaajgaaDoor
/- DrawT4: The contract of the draws' l3Bent: a drawn type, now and then bent at one place; it has at most 127 nodes. -/
namespace Go.Proofs.YtnciibngcaajgaaDoor
open Go Go.RowKit

/-- THE DRAW OF A VALID TYPE of at most a depth. -/
theorem draw_any : ∀ k : Nat, 1 ≤ k → k ≤ 4 → ∀ (b : Nat) (w : World), Cur w b → Calls Tryd.prog 70 #[.pointer (some ⟨b, 0, none⟩), .int .i64 k] w (DrawT k b w)
  | 0, h, _ => by omega
  | k + 1, _, h4 => fun b w hc => draw_step k ((k + 1 : Nat) : Int) (by simp) (by omega) (fun h1 b W hW => by
      have := draw_any k h1 (by omega) b W hW
      rwa [show (((k + 1 : Nat) : Int) - 1) = (k : Int) by omega]) b w hc

/-- While a drawn type is bent: what stands ready, the box bx that holds it. -/
structure Box (w : World) (b bx : Nat) (W : World) (t : Ty) (s : Value) : Prop where
  rdy : Rdy w b W
  box : W.heap[bx]? = some (.cells #[.int .i64 t.kind, s] 26 (0, 0))
  ts : TS W (fun z => w.heap.size + 1 ≤ z ∧ z ≠ bx) t.args s
  lt : w.heap.size + 1 ≤ bx
theorem Box.bxlt {w W : World} {b bx : Nat} {t : Ty} {s : Value} (h : Box w b bx W t s) : bx < W.heap.size := (Array.getElem?_eq_some_iff.1 h.box).1
theorem Box.step {w W W' : World} {b bx : Nat} {t : Ty} {s : Value} (h : Box w b bx W t s) (hbw : b < w.heap.size) (hc : Cur W' b) (hg : W.grownBy W' (some b)) : Box w b bx W' t s :=
  have hl := h.lt
  ⟨h.rdy.step hbw hc hg, (hg.block _ h.bxlt (fun e => by have := Option.some.inj e; omega)).trans h.box, h.ts.stays ⟨hg.size, fun z hz hl => hg.block z hl (fun e => by have := Option.some.inj e; omega)⟩, h.lt⟩
theorem Box.below {w W W' : World} {b bx : Nat} {t : Ty} {s : Value} (h : Box w b bx W t s) (hb : Below W.heap.size W W') : Box w b bx W' t s :=
  ⟨h.rdy.below hb, (hb.block _ h.bxlt).trans h.box, h.ts.keep hb, h.lt⟩
theorem Rdy.set {w W : World} {b bx i : Nat} {v : Value} (h : Rdy w b W) (hbw : b < w.heap.size) (hlt : w.heap.size < bx) : Rdy w b (W.setCell ⟨bx, i, none⟩ v) := by
  have hb : Below bx W (W.setCell ⟨bx, i, none⟩ v) := (Below.refl _ W).setCell (p := ⟨bx, i, none⟩) (Nat.le_refl _) _
  exact ⟨h.cur.belowAt (by omega) hb, grown_below h.grown (by omega) hb, (hb.block _ hlt).trans h.r⟩
theorem Box.set {w W : World} {b bx : Nat} {t u : Ty} {s s' : Value} (h : Box w b bx W t s) (hbw : b < w.heap.size) (hu : TS W (fun z => w.heap.size + 1 ≤ z ∧ z ≠ bx) u.args s') :
    Box w b bx ((W.setCell ⟨bx, 0, none⟩ (.int .i64 u.kind)).setCell ⟨bx, 1, none⟩ s') u s' := by
  have hl := h.lt
  refine ⟨(h.rdy.set hbw (by omega)).set hbw (by omega), ?_, hu.stays ((setCell_stays _ _ _ _ _ (by omega)).trans (setCell_stays _ _ _ _ _ (by omega))), h.lt⟩
  rw [Go.Joins.block_setCell (Go.Joins.block_setCell h.box _) _]
  rfl
theorem Box.setKind {w W : World} {b bx : Nat} {t : Ty} {s : Value} (h : Box w b bx W t s) (hbw : b < w.heap.size) (y : Int) : Box w b bx (W.setCell ⟨bx, 0, none⟩ (.int .i64 y)) (.mk y t.args) s := by
  have hl := h.lt
  refine ⟨h.rdy.set hbw (by omega), ?_, h.ts.stays (setCell_stays _ _ _ _ _ (by omega)), h.lt⟩
  rw [Go.Joins.block_setCell h.box _]
  rfl
/-- A new type out of a call, for the box. -/
theorem NewG.ts {u : Ty} {w W W' : World} {bx : Nat} {v : Value} (h : NewG u W.heap.size W' v) (h1 : w.heap.size + 1 ≤ W.heap.size) (h2 : bx < W.heap.size) : ∃ s, v = .agg #[.int .i64 u.kind, s] ∧ TS W' (fun z => w.heap.size + 1 ≤ z ∧ z ≠ bx) u.args s := by
  obtain ⟨s, rfl, hs⟩ := h.tt
  exact ⟨s, rfl, hs.mono (fun z hz _ => by have : W.heap.size ≤ z := hz; exact ⟨by omega, by omega⟩)⟩
theorem Grow.stays {w w' : World} {base : Nat} {v : Value} {st : Got} (h : Grow w base v st) (hst : Stays (fun z => base ≤ z) w w') : Grow w' base v st := by
  refine ⟨⟨h.own.1, ?_⟩, fun e he => ((h.ts e he).stays (hst.mono (fun z hz => hz.1)))⟩
  rcases h.own.2 with h0 | ⟨g, cap, cur, rfl, hbg, hblk, r⟩
  · exact Or.inl h0
  · exact Or.inr ⟨g, cap, cur, rfl, hbg, (hst.2 g hbg (Array.getElem?_eq_some_iff.1 hblk).1).trans hblk, r⟩
theorem Box.tt {w W : World} {b bx : Nat} {t : Ty} {s : Value} (h : Box w b bx W t s) : TT W (fun z => w.heap.size + 1 ≤ z ∧ z ≠ bx) t (.agg #[.int .i64 t.kind, s]) := ⟨s, rfl, h.ts⟩
/-- What the walk wants to know of the two blocks. -/
theorem Box.facts {w W : World} {b bx : Nat} {t : Ty} {s : Value} (h : Box w b bx W t s) :
    (W.cell? ⟨bx, 0, none⟩ = some (.int .i64 t.kind) ∧ W.cell? ⟨bx, 1, none⟩ = some s ∧ ∀ i, W.frozen? ⟨bx, i, none⟩ = false) ∧
    W.cell? ⟨w.heap.size, 0, none⟩ = some (.int .i64 0) ∧ W.cell? ⟨w.heap.size, 1, none⟩ = some (.slice none 0 0) ∧ ∀ i, W.frozen? ⟨w.heap.size, i, none⟩ = false :=
  ⟨⟨cell_of_blk h.box 0, cell_of_blk h.box 1, unfrozen_of_blk h.box⟩, cell_of_blk h.rdy.r 0, cell_of_blk h.rdy.r 1, unfrozen_of_blk h.rdy.r⟩

/-- A call that draws a type, bent or not. -/
def BentT (b : Nat) (w : World) (e : Ending) (w' : World) : Prop := ∃ v t, e = .returned v ∧ t.nodes ≤ 200 ∧ TT w' (fun z => w.heap.size ≤ z) t v ∧ Cur w' b ∧ w.grownBy w' (some b)
theorem bent_fin {w W : World} {b bx : Nat} {t : Ty} {s : Value} (h : Box w b bx W t s) (hbw : b < w.heap.size) (hn : t.nodes ≤ 200) :
    BentT b w (.returned (.agg #[.int .i64 t.kind, s])) ((W.setCell ⟨w.heap.size, 0, none⟩ (.int .i64 t.kind)).setCell ⟨w.heap.size, 1, none⟩ s) := by
  have hbl : Below w.heap.size W ((W.setCell ⟨w.heap.size, 0, none⟩ (.int .i64 t.kind)).setCell ⟨w.heap.size, 1, none⟩ s) := ((Below.refl _ W).setCell (p := ⟨w.heap.size, 0, none⟩) (Nat.le_refl _) _).setCell (p := ⟨w.heap.size, 1, none⟩) (Nat.le_refl _) _
  exact ⟨_, t, rfl, hn, ⟨s, rfl, (h.ts.stays ((setCell_stays _ _ _ _ _ (by omega)).trans (setCell_stays _ _ _ _ _ (by omega)))).mono (fun z hz _ => by omega)⟩, h.rdy.cur.belowAt hbw hbl, grown_below h.rdy.grown (Nat.le_refl _) hbl⟩

theorem ts_of_row {w : World} {C : Nat → Prop} {base : Nat} {v : Value} {st : Got} (h : w.ownsRow base 26 2 v st.length (ecells st)) (hC : ∀ g, v.ownBlock = some g → C g) (hts : ∀ e ∈ st, TS w C e.1.args e.2) : TS w C (st.map (·.1)) v := by
  rcases h.2 with ⟨rfl, h0⟩ | ⟨g, cap, cur, rfl, hg, hblk, h1, h2, h3, h4⟩
  · obtain rfl := List.eq_nil_of_length_eq_zero h0
    exact .nil _ _
  · by_cases hz : st.length = 0
    · obtain rfl := List.eq_nil_of_length_eq_zero hz
      exact .nil _ _
    · have hlt := (Array.getElem?_eq_some_iff.1 hblk).1
      have hl : (st.map (·.1)).length = st.length := List.length_map _
      have at_ : ∀ j x, (st.map (·.1))[j]? = some x → ∃ hj : j < st.length, x = st[j].1 := fun j x hj => by
        rw [List.getElem?_map, Option.map_eq_some_iff] at hj
        obtain ⟨e, he, rfl⟩ := hj
        obtain ⟨hj, rfl⟩ := List.getElem?_eq_some_iff.1 he
        exact ⟨hj, rfl⟩
      have key := TS.cons (w := w) (C := C) (ts := st.map (·.1)) (b := g) (o := 0) (c := cap) (fun j => (st[j]?.getD (.mk 0 [], .nilIface)).2) (by omega) (by omega) (by unfold maxLen at h2; omega) (hC g rfl) hlt
        (fun j x hj => by
          obtain ⟨hj', rfl⟩ := at_ j x hj
          rw [Nat.zero_add, h.cellAt (j * 2) (by omega), (ecells_at st j hj').1])
        (fun j x hj => by
          obtain ⟨hj', rfl⟩ := at_ j x hj
          rw [Nat.zero_add, h.cellAt (j * 2 + 1) (by omega), (ecells_at st j hj').2, List.getElem?_eq_getElem hj']
          rfl)
        (fun j x hj => by
          obtain ⟨hj', rfl⟩ := at_ j x hj
          rw [List.getElem?_eq_getElem hj']
          exact hts _ (List.getElem_mem hj'))
      rw [hl] at key
      exact key

/-- One part put behind a drawn type's parts, and the box's second cell turned. -/
theorem Grow.app_at {w1 W w' : World} {base bx g cap : Nat} {v s u : Value} {st : Got} {x : Ty} (h : Grow w1 base v st) (hbx : bx = w1.heap.size) (hs : Stays (fun z => base ≤ z) w1 W) (hlt : bx < W.heap.size)
    (hA : Appd W w' base 26 2 v st.length (ecells st) [.int .i64 x.kind, s] g cap) (hx : x.args = []) (hsv : s = .slice none 0 0) :
    TS (w'.setCell ⟨bx, 1, none⟩ u) (fun z => base ≤ z ∧ z ≠ bx) (st.map (·.1) ++ [x]) (.slice (some ⟨g, 0, none⟩) (st.length + 1) cap) := by
  have hgb : g ≠ bx := (hA.kept bx hlt (fun e => by have := (h.own.lt _ e).2; omega)).2
  have hst : Stays (fun z => base ≤ z ∧ v.ownBlock ≠ some z ∧ z < bx) w1 (w'.setCell ⟨bx, 1, none⟩ u) := by
    refine ⟨Nat.le_trans hs.1 (Nat.le_trans hA.size (by simp [World.setCell])), fun z hz hl => ?_⟩
    rw [Below.heap_setCell _ _ _ _ (by show z ≠ bx; omega)]
    exact (hA.kept z (Nat.lt_of_lt_of_le hl hs.1) hz.2.1).1.trans (hs.2 z hz.1 hl)
  have key := ts_of_row (w := w'.setCell ⟨bx, 1, none⟩ u) (C := fun z => base ≤ z ∧ z ≠ bx) (base := base) (v := .slice (some ⟨g, 0, none⟩) (st.length + 1) cap) (st := st ++ [(x, s)]) ?_ ?_ ?_
  · rw [List.map_append] at key
    exact key
  · rw [List.length_append, ecells_snoc]
    refine ⟨hA.own.1, ?_⟩
    rcases hA.own.2 with h0 | ⟨g', cap', cur, hv, hg, hblk, r⟩
    · exact Or.inl h0
    · have : g = g' := by cases hv; rfl
      subst this
      exact Or.inr ⟨g, cap', cur, hv, hg, (Below.heap_setCell _ _ _ _ hgb).trans hblk, r⟩
  · intro g' hg'
    have : g' = g := by simp [Value.ownBlock] at hg'; omega
    subst this
    exact ⟨(hA.own.lt g' hg').1, hgb⟩
  · intro e he
    rcases List.mem_append.1 he with he | he
    · exact (((h.ts e he).mono (C' := fun z => base ≤ z ∧ v.ownBlock ≠ some z ∧ z < bx) (fun z hz hl => ⟨hz.1, hz.2, by omega⟩)).stays hst).mono (fun z hz _ => ⟨hz.1, by omega⟩)
    · simp only [List.mem_singleton] at he
      subst he
      show TS _ _ x.args s
      rw [hx, hsv]
      exact .nil _ _
theorem box_app {w w1 W w' : World} {b bx g cap : Nat} {t : Ty} {v : Value} {st : Got} (h : Box w b bx W t v) (hbw : b < w.heap.size) (hG : Grow w1 (w.heap.size + 1) v st) (hbx : bx = w1.heap.size) (hs : Stays (fun z => w.heap.size + 1 ≤ z) w1 W)
    (hA : Appd W w' (w.heap.size + 1) 26 2 v st.length (ecells st) [.int .i64 1, .slice none 0 0] g cap) (hes : st.map (·.1) = t.args) :
    Box w b bx (w'.setCell ⟨bx, 1, none⟩ (.slice (some ⟨g, 0, none⟩) (st.length + 1) cap)) (.mk t.kind (t.args ++ [.mk 1 []])) (.slice (some ⟨g, 0, none⟩) (st.length + 1) cap) := by
  have hl := h.lt
  have hblk := (hA.kept bx h.bxlt (fun e => by have := (hG.own.lt _ e).2; omega)).1.trans h.box
  have hr : Rdy w b w' := ⟨h.rdy.cur.belowAt (by omega) hA.below, grown_below h.rdy.grown (by omega) hA.below, (hA.below.block _ (by omega)).trans h.rdy.r⟩
  have ht := hG.app_at (x := .mk 1 []) (u := .slice (some ⟨g, 0, none⟩) (st.length + 1) cap) hbx hs h.bxlt hA rfl rfl
  rw [hes] at ht
  refine ⟨hr.set hbw (by omega), ?_, ht, hl⟩
  rw [Go.Joins.block_setCell hblk _]
  rfl
end Go.Proofs.YtnciibngcaajgaaDoor
/- TmBox: A term that is drawn in a box: its cells, one set after the other. -/
namespace Go.Proofs.YtnciibngcaajgaaDoor
open Go Go.RowKit

abbrev InBox (w : World) (bx : Nat) : Nat → Prop := fun z => w.heap.size + 1 ≤ z ∧ z ≠ bx
/-- While a term is drawn into the box bx. -/
structure BoxM (w : World) (b bx : Nat) (W : World) (t : Tm) (tp : Option Addr) (tc : Nat) (rp : Option Addr) (rc : Nat) (p : Option Addr) (c : Nat) (xs : List Value) : Prop where
  rdy : RdyM w b W
  box : W.heap[bx]? = some (.cells (tmC t tp tc rp rc p c) 29 (0, 0))
  new : NewTm W (w.heap.size + 1) (InBox w bx) t tp tc rp rc p c xs
  lt : w.heap.size + 1 ≤ bx

section
variable {w W W' : World} {b bx : Nat} {t : Tm} {k n : Int} {a o : ByteArray} {ty res : Ty} {ts : List Tm} {tp rp p : Option Addr} {tc rc c : Nat} {xs : List Value}
theorem BoxM.bxlt (h : BoxM w b bx W t tp tc rp rc p c xs) : bx < W.heap.size := (Array.getElem?_eq_some_iff.1 h.box).1
theorem BoxM.step (h : BoxM w b bx W t tp tc rp rc p c xs) (hbw : b < w.heap.size) (hc : Cur W' b) (hg : W.grownBy W' (some b)) : BoxM w b bx W' t tp tc rp rc p c xs :=
  have hl := h.lt
  ⟨h.rdy.step hbw hc hg, (hg.block _ h.bxlt (fun e => by have := Option.some.inj e; omega)).trans h.box, h.new.stays ⟨hg.size, fun z hz hl => hg.block z hl (fun e => by have := Option.some.inj e; omega)⟩, h.lt⟩
theorem BoxM.below (h : BoxM w b bx W t tp tc rp rc p c xs) (hb : Below W.heap.size W W') : BoxM w b bx W' t tp tc rp rc p c xs :=
  ⟨h.rdy.below hb, (hb.block _ h.bxlt).trans h.box, h.new.stays (.of_below hb), h.lt⟩
theorem RdyM.set (h : RdyM w b W) (hbw : b < w.heap.size) (hlt : w.heap.size < bx) (i : Nat) (v : Value) : RdyM w b (W.setCell ⟨bx, i, none⟩ v) := by
  have hb : Below bx W (W.setCell ⟨bx, i, none⟩ v) := (Below.refl _ W).setCell (p := ⟨bx, i, none⟩) (Nat.le_refl _) _
  exact ⟨h.cur.belowAt (by omega) hb, grown_below h.grown (by omega) hb, (hb.block _ hlt).trans h.r⟩
theorem inbox_stays (i : Nat) (v : Value) : Stays (InBox w bx) W (W.setCell ⟨bx, i, none⟩ v) := setCell_stays _ _ _ _ _ (by simp)
theorem BoxM.setName (h : BoxM w b bx W (.mk k a o n ty res ts) tp tc rp rc p c xs) (hbw : b < w.heap.size) (a' : ByteArray) : BoxM w b bx (W.setCell ⟨bx, 1, none⟩ (.string a')) (.mk k a' o n ty res ts) tp tc rp rc p c xs := by
  have hl := h.lt
  have hn := h.new.stays (inbox_stays 1 (.string a'))
  refine ⟨h.rdy.set hbw (by omega) _ _, ?_, ⟨hn.ty, hn.res, hn.row⟩, h.lt⟩
  rw [Go.Joins.block_setCell h.box _]
  rfl
theorem BoxM.setOther (h : BoxM w b bx W (.mk k a o n ty res ts) tp tc rp rc p c xs) (hbw : b < w.heap.size) (a' : ByteArray) : BoxM w b bx (W.setCell ⟨bx, 2, none⟩ (.string a')) (.mk k a a' n ty res ts) tp tc rp rc p c xs := by
  have hl := h.lt
  have hn := h.new.stays (inbox_stays 2 (.string a'))
  refine ⟨h.rdy.set hbw (by omega) _ _, ?_, ⟨hn.ty, hn.res, hn.row⟩, h.lt⟩
  rw [Go.Joins.block_setCell h.box _]
  rfl
theorem BoxM.setKind (h : BoxM w b bx W (.mk k a o n ty res ts) tp tc rp rc p c xs) (hbw : b < w.heap.size) (y : Int) : BoxM w b bx (W.setCell ⟨bx, 0, none⟩ (.int .i64 y)) (.mk y a o n ty res ts) tp tc rp rc p c xs := by
  have hl := h.lt
  have hn := h.new.stays (inbox_stays 0 (.int .i64 y))
  refine ⟨h.rdy.set hbw (by omega) _ _, ?_, ⟨hn.ty, hn.res, hn.row⟩, h.lt⟩
  rw [Go.Joins.block_setCell h.box _]
  rfl
theorem BoxM.setNum (h : BoxM w b bx W (.mk k a o n ty res ts) tp tc rp rc p c xs) (hbw : b < w.heap.size) (y : Int) : BoxM w b bx (W.setCell ⟨bx, 3, none⟩ (.int .i64 y)) (.mk k a o y ty res ts) tp tc rp rc p c xs := by
  have hl := h.lt
  have hn := h.new.stays (inbox_stays 3 (.int .i64 y))
  refine ⟨h.rdy.set hbw (by omega) _ _, ?_, ⟨hn.ty, hn.res, hn.row⟩, h.lt⟩
  rw [Go.Joins.block_setCell h.box _]
  rfl
theorem BoxM.setTy {u : Ty} {q : Option Addr} {d : Nat} (h : BoxM w b bx W (.mk k a o n ty res ts) tp tc rp rc p c xs) (hbw : b < w.heap.size)
    (hu : TS W (fun z => InBox w bx z ∧ (Value.slice p ts.length c).ownBlock ≠ some z) u.args (.slice q u.args.length d)) :
    BoxM w b bx ((W.setCell ⟨bx, 4, none⟩ (.int .i64 u.kind)).setCell ⟨bx, 5, none⟩ (.slice q u.args.length d)) (.mk k a o n u res ts) q d rp rc p c xs := by
  have hl := h.lt
  have st : Stays (InBox w bx) W ((W.setCell ⟨bx, 4, none⟩ (.int .i64 u.kind)).setCell ⟨bx, 5, none⟩ (.slice q u.args.length d)) := (inbox_stays _ _).trans (inbox_stays _ _)
  have hn := h.new.stays st
  refine ⟨(h.rdy.set hbw (by omega) _ _).set hbw (by omega) _ _, ?_, ⟨hu.stays (st.mono (fun _ hz => hz.1)), hn.res, hn.row⟩, h.lt⟩
  rw [Go.Joins.block_setCell (Go.Joins.block_setCell h.box _) _]
  rfl
theorem BoxM.setRes {u : Ty} {q : Option Addr} {d : Nat} (h : BoxM w b bx W (.mk k a o n ty res ts) tp tc rp rc p c xs) (hbw : b < w.heap.size)
    (hu : TS W (fun z => InBox w bx z ∧ (Value.slice p ts.length c).ownBlock ≠ some z) u.args (.slice q u.args.length d)) :
    BoxM w b bx ((W.setCell ⟨bx, 6, none⟩ (.int .i64 u.kind)).setCell ⟨bx, 7, none⟩ (.slice q u.args.length d)) (.mk k a o n ty u ts) tp tc q d p c xs := by
  have hl := h.lt
  have st : Stays (InBox w bx) W ((W.setCell ⟨bx, 6, none⟩ (.int .i64 u.kind)).setCell ⟨bx, 7, none⟩ (.slice q u.args.length d)) := (inbox_stays _ _).trans (inbox_stays _ _)
  have hn := h.new.stays st
  refine ⟨(h.rdy.set hbw (by omega) _ _).set hbw (by omega) _ _, ?_, ⟨hn.ty, hu.stays (st.mono (fun _ hz => hz.1)), hn.row⟩, h.lt⟩
  rw [Go.Joins.block_setCell (Go.Joins.block_setCell h.box _) _]
  rfl
/-- One part put behind the others. -/
theorem BoxM.app {g cap : Nat} {x : Tm} {us : List Value} (h : BoxM w b bx W (.mk k a o n ty res ts) tp tc rp rc p c xs) (hbw : b < w.heap.size)
    (hA : Appd W W' (w.heap.size + 1) 29 9 (.slice p ts.length c) ts.length xs us g cap) (hx : MS W (fun z => InBox w bx z ∧ (Value.slice p ts.length c).ownBlock ≠ some z) x.ds us) :
    BoxM w b bx (W'.setCell ⟨bx, 8, none⟩ (.slice (some ⟨g, 0, none⟩) (ts.length + 1) cap)) (.mk k a o n ty res (ts ++ [x])) tp tc rp rc (some ⟨g, 0, none⟩) cap (xs ++ us) := by
  have hl := h.lt
  have hob : (Value.slice p ts.length c).ownBlock ≠ some bx := fun e => (h.new.row.blk _ e).2 rfl
  have hkb := hA.kept bx h.bxlt hob
  have hblk := hkb.1.trans h.box
  have hgb : InBox w bx g := ⟨(hA.own.lt g rfl).1, hkb.2⟩
  have hr : RdyM w b W' := ⟨h.rdy.cur.belowAt (by omega) hA.below, grown_below h.rdy.grown (by omega) hA.below, (hA.below.block _ (by omega)).trans h.rdy.r⟩
  have go : ∀ {us : List Ty} {v : Value}, TS W (fun z => InBox w bx z ∧ (Value.slice p ts.length c).ownBlock ≠ some z) us v → TS (W'.setCell ⟨bx, 8, none⟩ (.slice (some ⟨g, 0, none⟩) (ts.length + 1) cap)) (fun z => InBox w bx z ∧ (Value.slice (some ⟨g, 0, none⟩) (ts.length + 1) cap).ownBlock ≠ some z) us v := fun {us v} hd => by
    refine (((hd.mono (C' := fun z => (InBox w bx z ∧ (Value.slice p ts.length c).ownBlock ≠ some z) ∧ z < W.heap.size) (fun _ hz hl => ⟨hz, hl⟩)).stays (w' := W') ⟨hA.size, fun z hz hl => (hA.kept z hl hz.1.2).1⟩).stays (setCell_stays _ _ _ _ _ (fun hz => hz.1.1.2 rfl))).mono (fun z hz _ => ⟨hz.1.1, fun e => ?_⟩)
    have := (hA.kept z hz.2 hz.1.2).2
    simp [Value.ownBlock] at e
    omega
  have hrow := (h.new.row.app hA hgb hx).stays (inbox_stays 8 (.slice (some ⟨g, 0, none⟩) (ts.length + 1) cap))
  have e1 : (ts ++ [x]).length = ts.length + 1 := by simp
  refine ⟨hr.set hbw (by omega) _ _, ?_, ⟨?_, ?_, ?_⟩, h.lt⟩
  · rw [Go.Joins.block_setCell hblk _]
    show _ = some (Obj.cells (tmC (.mk k a o n ty res (ts ++ [x])) tp tc rp rc (some ⟨g, 0, none⟩) cap) _ _)
    simp only [tmC, Tm.args, e1]
    rfl
  · show TS _ (fun z => _ ∧ (Value.slice _ (ts ++ [x]).length _).ownBlock ≠ _) _ _
    rw [e1]; exact go h.new.ty
  · show TS _ (fun z => _ ∧ (Value.slice _ (ts ++ [x]).length _).ownBlock ≠ _) _ _
    rw [e1]; exact go h.new.res
  · show RowM _ _ _ (.slice _ (ts ++ [x]).length _) _ _
    rw [e1]; exact hrow
/-- What the walk wants to know of the box and of the result's cells. -/
theorem BoxM.facts (h : BoxM w b bx W (.mk k a o n ty res ts) tp tc rp rc p c xs) :
    (W.cell? ⟨bx, 0, none⟩ = some (.int .i64 k) ∧ W.cell? ⟨bx, 1, none⟩ = some (.string a) ∧ W.cell? ⟨bx, 2, none⟩ = some (.string o) ∧ W.cell? ⟨bx, 3, none⟩ = some (.int .i64 n) ∧ W.cell? ⟨bx, 4, none⟩ = some (.int .i64 ty.kind) ∧ W.cell? ⟨bx, 5, none⟩ = some (.slice tp ty.args.length tc) ∧ W.cell? ⟨bx, 6, none⟩ = some (.int .i64 res.kind) ∧ W.cell? ⟨bx, 7, none⟩ = some (.slice rp res.args.length rc) ∧ W.cell? ⟨bx, 8, none⟩ = some (.slice p ts.length c)) ∧ ∀ i, W.frozen? ⟨bx, i, none⟩ = false :=
  ⟨⟨cell_of_blk h.box 0, cell_of_blk h.box 1, cell_of_blk h.box 2, cell_of_blk h.box 3, cell_of_blk h.box 4, cell_of_blk h.box 5, cell_of_blk h.box 6, cell_of_blk h.box 7, cell_of_blk h.box 8⟩, unfrozen_of_blk h.box⟩
end

/-- A call that draws a term that weighs at most m. -/
def DrawM (m b : Nat) (w : World) (e : Ending) (w' : World) : Prop := ∃ (t : Tm) (tp : Option Addr) (tc : Nat) (rp : Option Addr) (rc : Nat) (p : Option Addr) (c : Nat) (xs : List Value),
  e = .returned (tmV t tp tc rp rc p c) ∧ t.wt ≤ m ∧ NewTm w' w.heap.size (fun z => w.heap.size ≤ z) t tp tc rp rc p c xs ∧ Cur w' b ∧ w.grownBy w' (some b)
theorem BoxM.fin {w W : World} {b bx m : Nat} {t : Tm} {tp rp p : Option Addr} {tc rc c : Nat} {xs : List Value} (h : BoxM w b bx W t tp tc rp rc p c xs) (hbw : b < w.heap.size) (hn : t.wt ≤ m) :
    DrawM m b w (.returned (tmV t tp tc rp rc p c)) (setN W w.heap.size 0 [.int .i64 t.kind, .string t.name, .string t.other, .int .i64 t.n, .int .i64 t.ty.kind, .slice tp t.ty.args.length tc, .int .i64 t.res.kind, .slice rp t.res.args.length rc, .slice p t.args.length c]) :=
  have hf := h.rdy.fin hbw _
  have h1 : NewTm W (w.heap.size + 1) (fun z => w.heap.size + 1 ≤ z) t tp tc rp rc p c xs := h.new.base (Nat.le_refl _) (fun _ hz _ => hz.1)
  ⟨t, tp, tc, rp, rc, p, c, xs, rfl, hn, (h1.stays hf.2.2).base (by omega) (fun z hz _ => by have : w.heap.size + 1 ≤ z := hz; omega), hf.1, hf.2.1⟩
end Go.Proofs.YtnciibngcaajgaaDoor
