/-
  The draws of a number out of a literal, told exactly; what stands ready while a type is drawn.
-/
import Derived.Test.YtjobmgbchpoheaaOnceI
import Derived.Test.YtjobmgbchpoheaaDrawT2
namespace Go.Proofs.Ytjobmgbchpoheaa
open Go Go.RowKit

def GInt (P : Int → Prop) (b : Nat) (w : World) (e : Ending) (w' : World) : Prop := ∃ x : Int, P x ∧ e = .returned (.int .i64 x) ∧ Cur w' b ∧ w.grownBy w' (some b)
theorem cur_alloc {b : Nat} {w : World} (hc : Cur w b) (o : Obj) : Cur (w.alloc o) b := hc.below ((Below.refl _ _).alloc (Nat.le_refl _) _)
theorem pickInt_litG (L : List Int) (n b : Nat) (w : World) (cs : Array Value) (hn : L.length = n) (h1 : 1 ≤ n) (h2 : n ≤ 1048576) (hcs : cs = (L.map (Value.int .i64)).toArray) (hc : Cur w b) :
    Calls Try.prog 58 #[.pointer (some ⟨b, 0, none⟩), .slice (some ⟨w.heap.size, 0, none⟩) n n] (w.alloc (.cells cs 3)) (GInt (· ∈ L) b w) := by
  subst hn; subst hcs
  have hlt := hc.lt
  refine (pickInt_any L w.heap.size b _ (by omega) h1 h2 (fun j x hj => ?_) (cur_alloc hc _)).mono ?_
  · rw [World.cell?_alloc_at _ _ _ _ rfl, List.getElem?_toArray, List.getElem?_map, hj]; rfl
  · rintro e w' ⟨x, hx, rfl, hc', hg⟩
    exact ⟨x, hx, rfl, hc', grownBy_trans (World.grownBy_alloc _ _ _) hg⟩

/-- The bytes that the cursor reads, too, lie below B. -/
theorem grown_below {w w1 w2 : World} {b B : Nat} (h : w.grownBy w1 (some b)) (hB : w.heap.size ≤ B) (hb : Below B w1 w2) : w.grownBy w2 (some b) :=
  ⟨hb.os.trans h.os, hb.tape.trans h.tape, hb.output.trans h.output, Nat.le_trans h.size hb.size, fun k hk hne => (hb.block k (by omega)).trans (h.block k hk hne)⟩


/-- While a type is drawn: the cursor, the result's cell (made first) as it was. -/
structure Rdy (w : World) (b : Nat) (W : World) : Prop where
  cur : Cur W b
  grown : w.grownBy W (some b)
  r : W.heap[w.heap.size]? = some (.cells #[.int .i64 0, .slice none 0 0] 26 (0, 0))
theorem Rdy.lt {w W : World} {b : Nat} (h : Rdy w b W) : w.heap.size < W.heap.size := (Array.getElem?_eq_some_iff.1 h.r).1
theorem Rdy.step {w W W' : World} {b : Nat} (h : Rdy w b W) (hbw : b < w.heap.size) (hc : Cur W' b) (hg : W.grownBy W' (some b)) : Rdy w b W' :=
  ⟨hc, grownBy_trans h.grown hg, (hg.block _ h.lt (fun e => by have := Option.some.inj e; omega)).trans h.r⟩
theorem Rdy.below {w W W' : World} {b : Nat} (h : Rdy w b W) (hb : Below W.heap.size W W') : Rdy w b W' :=
  ⟨h.cur.below hb, grown_below h.grown (Nat.le_of_lt h.lt) hb, (hb.block _ h.lt).trans h.r⟩
theorem Rdy.start {w : World} {b : Nat} (hc : Cur w b) : Rdy w b (w.alloc (.cells #[.int .i64 0, .slice none 0 0] 26)) :=
  ⟨cur_alloc hc _, World.grownBy_alloc _ _ _, blk_new w _⟩

/-- A call that draws a type of fewer than 2^d nodes. -/
def DrawT (d b : Nat) (w : World) (e : Ending) (w' : World) : Prop := ∃ v t, e = .returned v ∧ t.nodes + 1 ≤ 2 ^ d ∧ NewG t w.heap.size w' v ∧ Cur w' b ∧ w.grownBy w' (some b)
theorem NewG.grown {t : Ty} {base b : Nat} {w w' : World} {v : Value} (h : NewG t base w v) (hb : b < base) (hg : w.grownBy w' (some b)) : NewG t base w' v := by
  obtain ⟨s, es, h1, h2, h3⟩ := h
  have hst : Stays (fun z => base ≤ z) w w' := ⟨hg.size, fun k hk hl => hg.block k hl (fun e => by have := Option.some.inj e; omega)⟩
  refine ⟨s, es, h1, h2, ⟨h3.own.1, ?_⟩, fun e he => ((h3.ts e he).stays (hst.mono (fun z hz => hz.1)))⟩
  rcases h3.own.2 with h0 | ⟨g, cap, cur, rfl, hbg, hblk, r⟩
  · exact Or.inl h0
  · exact Or.inr ⟨g, cap, cur, rfl, hbg, (hst.2 g hbg (Array.getElem?_eq_some_iff.1 hblk).1).trans hblk, r⟩
theorem small_args {t : Ty} {k : Nat} (h : t.nodes + 1 ≤ 2 ^ k) (hk : 2 ^ k ≤ 2 ^ 3) : nodesS t.args ≤ 1048576 := by
  rw [t.nodes_eq] at h; omega
theorem keep2 {W w1 : World} {p1 p2 : Addr} {v1 v2 : Value} (hb1 : Below W.heap.size W w1) (h : W.cell? p1 = some v1 ∧ W.cell? p2 = some v2) : w1.cell? p1 = some v1 ∧ w1.cell? p2 = some v2 :=
  ⟨(hb1.cell (World.block_lt_of_cell? W _ h.1)).trans h.1, (hb1.cell (World.block_lt_of_cell? W _ h.2)).trans h.2⟩
theorem keepS2 {W : World} {b i a1 a2 i1 i2 : Nat} {v u1 u2 : Value} (h : W.cell? ⟨a1, i1, none⟩ = some u1 ∧ W.cell? ⟨a2, i2, none⟩ = some u2) (h1 : a1 ≠ b) (h2 : a2 ≠ b) :
    (W.setCell ⟨b, i, none⟩ v).cell? ⟨a1, i1, none⟩ = some u1 ∧ (W.setCell ⟨b, i, none⟩ v).cell? ⟨a2, i2, none⟩ = some u2 :=
  ⟨(World.cell?_of_block (heap_setCell_other W ⟨b, i, none⟩ a1 v h1)).trans h.1, (World.cell?_of_block (heap_setCell_other W ⟨b, i, none⟩ a2 v h2)).trans h.2⟩
theorem draw_fin {w W : World} {b d base : Nat} {t : Ty} {s : Value} (h : Rdy w b W) (hbw : b < w.heap.size) (hn : NewG t base W (.agg #[.int .i64 t.kind, s])) (hbase : w.heap.size + 1 ≤ base) (hd : t.nodes + 1 ≤ 2 ^ d) :
    DrawT d b w (.returned (.agg #[.int .i64 t.kind, s])) ((W.setCell ⟨w.heap.size, 0, none⟩ (.int .i64 t.kind)).setCell ⟨w.heap.size, 1, none⟩ s) := by
  obtain ⟨s', es, h1, h2, h3⟩ := hn
  have hbl : Below w.heap.size W ((W.setCell ⟨w.heap.size, 0, none⟩ (.int .i64 t.kind)).setCell ⟨w.heap.size, 1, none⟩ s) := ((Below.refl _ W).setCell (p := ⟨w.heap.size, 0, none⟩) (Nat.le_refl _) _).setCell (p := ⟨w.heap.size, 1, none⟩) (Nat.le_refl _) _
  exact ⟨_, t, rfl, hd, ⟨s', es, h1, h2, ((h3.set w.heap.size 0 _ (by omega)).set w.heap.size 1 _ (by omega)).base (by omega)⟩, h.cur.belowAt hbw hbl, grown_below h.grown (Nat.le_refl _) hbl⟩
theorem leaf_fin {w W : World} {b d : Nat} {x : Int} (h : Rdy w b W) (hbw : b < w.heap.size) :
    DrawT (d + 1) b w (.returned (.agg #[.int .i64 x, .slice none 0 0])) ((W.setCell ⟨w.heap.size, 0, none⟩ (.int .i64 x)).setCell ⟨w.heap.size, 1, none⟩ (.slice none 0 0)) :=
  draw_fin (t := .mk x []) h hbw ⟨_, [], rfl, rfl, Grow.start W (w.heap.size + 1)⟩ (Nat.le_refl _) (by have := Nat.one_le_two_pow (n := d); simp only [Ty.nodes, nodesS, Nat.pow_succ]; omega)

set_option maxRecDepth 100000 in
set_option maxHeartbeats 2000000 in
theorem draw_step (k : Nat) (D : Int) (hD : D = (k : Int) + 1) (hk : k ≤ 3)
    (IH : 1 ≤ k → ∀ (b : Nat) (W : World), Cur W b → Calls Try.prog 51 #[.pointer (some ⟨b, 0, none⟩), .int .i64 (D - 1)] W (DrawT k b W)) (b : Nat) (w : World) (hc : Cur w b) :
    Calls Try.prog 51 #[.pointer (some ⟨b, 0, none⟩), .int .i64 D] w (DrawT (k + 1) b w) := by
  have hbw := hc.lt
  have hsz := fun (W : World) (h : Rdy w b W) => h.lt
  have HSZ := Lib.hid hsz
  clear hsz
  have d1 : 1 ≤ D := by omega
  have d4 : D ≤ 4 := by omega
  have HR0 := Lib.hid (Rdy.start hc)
  have HIH := Lib.hid IH
  have hp := pickInt_litG [1, 1, 2] 3 b (w.alloc (.cells #[.int .i64 0, .slice none 0 0] 26)) #[.int .i64 1, .int .i64 1, .int .i64 2] rfl (by decide) (by decide) rfl HR0.out.cur
  rw [World.size_alloc] at hp
  have HP := Lib.hid hp
  have HD := Lib.hid hD
  clear IH hc hp hD
  go_enter Try.func51, Try.ntmps51
  by_cases h2 : D < 2
  · go_wp2_with fail
    refine HP.out.mono ?_
    rintro e w1 ⟨x, _, rfl, hc1, hg1⟩
    have hr1 := HR0.out.step hbw hc1 hg1
    have g0 : w1.cell? ⟨w.heap.size, 0, none⟩ = some (.int .i64 0) := cell_of_blk hr1.r 0
    have g1 : w1.cell? ⟨w.heap.size, 1, none⟩ = some (.slice none 0 0) := cell_of_blk hr1.r 1
    have gz := unfrozen_of_blk hr1.r
    have HR1 := Lib.hid hr1
    clear hc1 hg1 hr1
    go_wp2_with fail
    refine bodyPost_ret (v := .agg #[.int .i64 x, .slice none 0 0]) ?_ rfl ?_
    · rw [results_cell1 rfl]
      go_simp
    · exact leaf_fin HR1.out hbw
  · have k1 : 1 ≤ k := by have := HD.out; omega
    have HIK := Lib.hid (HIH.out k1)
    go_wp2_with fail
    refine (once_any b 2 _ (by decide) (by decide) HR0.out.cur).mono ?_
    rintro e w1 ⟨x, rfl, hc1, hg1⟩
    have HR1 := Lib.hid (HR0.out.step hbw hc1 hg1)
    clear hc1 hg1
    cases x
    · go_wp2_with fail
      refine (once_any b 2 _ (by decide) (by decide) HR1.out.cur).mono ?_
      rintro e w2 ⟨y, rfl, hc2, hg2⟩
      have HR2 := Lib.hid (HR1.out.step hbw hc2 hg2)
      clear hc2 hg2
      cases y
      · go_wp2_with fail
        refine (HIK.out b w2 HR2.out.cur).mono ?_
        rintro e w3 ⟨v3, t3, rfl, hn3, hg3, hc3, hgr3⟩
        have hr3 := HR2.out.step hbw hc3 hgr3
        have hq : t3.nodes + 1 ≤ 8 := Nat.le_trans hn3 (Nat.pow_le_pow_right (n := 2) (by decide) hk)
        obtain ⟨s3, hv3, hs3⟩ := hg3.tt
        obtain ⟨p3, c3, rfl⟩ := hs3.form
        subst hv3
        have hba := alloc_below w3 (.cells #[.int .i64 t3.kind, .slice p3 t3.args.length c3] 26)
        have hbd := hba.drew
        have HRb := Lib.hid (hr3.below hbd)
        have hgb := HRb.out.cur
        have l23 := hgr3.size
        have l02 := HR2.out.lt
        have l03 := hr3.lt
        have HT4 := Lib.hid (fun (W : World) (hW : ((w3.alloc (.cells #[.int .i64 t3.kind, .slice p3 t3.args.length c3] 26)).drew).grownBy W (some b)) =>
          (⟨_, rfl, (hs3.keep hbd).stays (C := fun z => w2.heap.size ≤ z) ⟨hW.size, fun k hk hl => hW.block k hl (fun e => by have := Option.some.inj e; omega)⟩⟩ : TT W _ t3 (.agg #[.int .i64 t3.kind, .slice p3 t3.args.length c3])))
        have HX4 := Lib.hid (fun (W : World) (hW : ((w3.alloc (.cells #[.int .i64 t3.kind, .slice p3 t3.args.length c3] 26)).drew).grownBy W (some b)) =>
          (⟨hW.cell (Bx.new w3 t3.kind (.slice p3 t3.args.length c3) 26).1 (fun e => by have : w3.heap.size = b := Option.some.inj e; omega), hW.cell (Bx.new w3 t3.kind (.slice p3 t3.args.length c3) 26).2 (fun e => by have : w3.heap.size = b := Option.some.inj e; omega)⟩ :
            W.cell? ⟨w3.heap.size, 0, none⟩ = some (.int .i64 t3.kind) ∧ W.cell? ⟨w3.heap.size, 1, none⟩ = some (.slice p3 t3.args.length c3)))
        have HN3 := Lib.hid hn3
        have HQ3 : Hid (nodesS t3.args ≤ 1048576) := Lib.hid (by rw [t3.nodes_eq] at hq; omega)
        have hk8 := Nat.pow_le_pow_right (n := 2) (by decide) hk
        have HK8 := Lib.hid hk8
        clear hg3 hc3 hgr3 hn3 hr3 hs3 hba hbd hgb hq hk8
        go_wp2_with fail
        have a3 : IntKind.i64.wrap (D - 1) = D - 1 := IntWalk.i64_in _ (by omega)
        have a4 : wrap64 (D - 1) = D - 1 := by unfold wrap64; omega
        go_region_held3 (fun w' => w'.cell? ⟨w3.heap.size, 0, none⟩ = some (.int .i64 t3.kind) ∧ w'.cell? ⟨w3.heap.size, 1, none⟩ = some (.slice p3 t3.args.length c3))
          (first
            | (go_keep; done)
            | exact ⟨by simp [*], by simp [*]⟩
            | exact HS5.out
            | exact HS4.out
            | exact keepS2 (keepS2 (by assumption) (by omega) (by omega)) (by omega) (by omega))
          (first
            | (go_at_call 51; refine (HIK.out b _ HRb.out.cur).mono ?_; rintro e w4 ⟨v4, t4, rfl, hn4, hg4, hc4, hgr4⟩; have HS4 := Lib.hid (HX4.out w4 hgr4); have HT3 := Lib.hid (HT4.out w4 hgr4); have HR4 := Lib.hid (HRb.out.step hbw hc4 hgr4); have HG4 := Lib.hid hg4; have HN4 := Lib.hid hn4; obtain ⟨s4, hv4, hs4⟩ := hg4.tt; obtain ⟨p4, c4, rfl⟩ := hs4.form; subst hv4; clear hg4 hc4 hgr4 hn4 hs4)
            | (go_at_call 55; refine (l3Fun_any HT3.out HG4.out.tt HQ3.out (small_args HN4.out HK8.out)).mono ?_; rintro e w5 ⟨v5, rfl, hg5, hb5⟩; obtain ⟨s5, hv5, hs5⟩ := hg5.tt; obtain ⟨p5, c5, rfl⟩ := hs5.form; subst hv5; have HS5 := Lib.hid (keep2 hb5 HS4.out); have hr5 := HR4.out.below hb5; have HR5 := Lib.hid hr5; have HG5 := Lib.hid hg5; have g0 : w5.cell? ⟨w.heap.size, 0, none⟩ = some (.int .i64 0) := cell_of_blk hr5.r 0; have g1 : w5.cell? ⟨w.heap.size, 1, none⟩ = some (.slice none 0 0) := cell_of_blk hr5.r 1; have gz := unfrozen_of_blk hr5.r; clear hg5 hb5 hr5 hs5))
        go_wp2_with fail
        refine bodyPost_ret (v := .agg #[.int .i64 3, .slice p5 2 c5]) ?_ rfl ?_
        · rw [results_cell1 rfl]
          go_simp
        · exact draw_fin (t := .mk 3 [t3, t4]) HR5.out hbw HG5.out (by have := HR4.out.lt; omega) (by have := HN3.out; have := HN4.out; simp only [Ty.nodes, nodesS, Nat.pow_succ]; omega)
      · go_wp2_with fail
        refine (HIK.out b w2 HR2.out.cur).mono ?_
        rintro e w3 ⟨v3, t3, rfl, hn3, hg3, hc3, hgr3⟩
        have HR3 := Lib.hid (HR2.out.step hbw hc3 hgr3)
        have hq : t3.nodes + 1 ≤ 8 := Nat.le_trans hn3 (Nat.pow_le_pow_right (n := 2) (by decide) hk)
        have HN3 := Lib.hid hn3
        have HC3 := Lib.hid (l3Code_any hg3.tt (by rw [t3.nodes_eq] at hq; omega))
        clear hg3 hc3 hgr3 hn3
        go_wp2_with fail
        refine HC3.out.mono ?_
        rintro e w4 ⟨v4, rfl, hg4, hb4⟩
        have hr4 := HR3.out.below hb4
        have g0 : w4.cell? ⟨w.heap.size, 0, none⟩ = some (.int .i64 0) := cell_of_blk hr4.r 0
        have g1 : w4.cell? ⟨w.heap.size, 1, none⟩ = some (.slice none 0 0) := cell_of_blk hr4.r 1
        have gz := unfrozen_of_blk hr4.r
        obtain ⟨p4, c4, hv4⟩ : ∃ p c, v4 = .agg #[.int .i64 4, .slice p 1 c] := by
          obtain ⟨s, hv, hs⟩ := hg4.tt
          obtain ⟨p, c, rfl⟩ := hs.form
          exact ⟨p, c, hv⟩
        subst hv4
        have HR4 := Lib.hid hr4
        have HG4 := Lib.hid hg4
        have HB4 := Lib.hid hb4.size
        clear hg4 hb4 hr4
        go_wp2_with fail
        refine bodyPost_ret (v := .agg #[.int .i64 4, .slice p4 1 c4]) ?_ rfl ?_
        · rw [results_cell1 rfl]
          go_simp
        · exact draw_fin (t := .mk 4 [t3]) HR4.out hbw HG4.out (by have := HR3.out.lt; omega) (by have := HN3.out; simp only [Ty.nodes, nodesS, Nat.pow_succ]; omega)
    · go_wp2_with fail
      refine (pickInt_litG [1, 1, 2] 3 b w1 _ rfl (by decide) (by decide) rfl HR1.out.cur).mono ?_
      rintro e w2 ⟨x, _, rfl, hc2, hg2⟩
      have hr2 := HR1.out.step hbw hc2 hg2
      have g0 : w2.cell? ⟨w.heap.size, 0, none⟩ = some (.int .i64 0) := cell_of_blk hr2.r 0
      have g1 : w2.cell? ⟨w.heap.size, 1, none⟩ = some (.slice none 0 0) := cell_of_blk hr2.r 1
      have gz := unfrozen_of_blk hr2.r
      have HR2 := Lib.hid hr2
      clear hc2 hg2 hr2
      go_wp2_with fail
      refine bodyPost_ret (v := .agg #[.int .i64 x, .slice none 0 0]) ?_ rfl ?_
      · rw [results_cell1 rfl]
        go_simp
      · exact leaf_fin HR2.out hbw
end Go.Proofs.Ytjobmgbchpoheaa

