/-
  Several texts of the proof in one (each says below what it holds): DrawT3 TmLeaf OwnApp.
-/
import Derived.Test.YtjobmgbchpoheaaGreatDoorPB17
import Derived.Test.YtjobmgbchpoheaaGreatDoorPB1
import Derived.Test.YtjobmgbchpoheaaGreatDoorPB3
namespace Go.Proofs.YtjobmgbchpoheaaGreatDoor
open Go Go.RowKit

def GInt (P : Int → Prop) (b : Nat) (w : World) (e : Ending) (w' : World) : Prop := ∃ x : Int, P x ∧ e = .returned (.int .i64 x) ∧ Cur w' b ∧ w.grownBy w' (some b)
theorem cur_alloc {b : Nat} {w : World} (hc : Cur w b) (o : Obj) : Cur (w.alloc o) b := hc.below ((Below.refl _ _).alloc (Nat.le_refl _) _)
theorem pickInt_litG (L : List Int) (n b : Nat) (w : World) (cs : Array Value) (hn : L.length = n) (h1 : 1 ≤ n) (h2 : n ≤ 1048576) (hcs : cs = (L.map (Value.int .i64)).toArray) (hc : Cur w b) :
    Calls Tryz.prog 46 #[.pointer (some ⟨b, 0, none⟩), .slice (some ⟨w.heap.size, 0, none⟩) n n] (w.alloc (.cells cs 3)) (GInt (· ∈ L) b w) := by
  subst hn; subst hcs
  have hlt := hc.lt
  refine (pickInt_any L w.heap.size b _ (by omega) h1 h2 (fun j x hj => ?_) (cur_alloc hc _)).mono ?_
  · rw [World.cell?_alloc_at _ _ _ _ rfl, List.getElem?_toArray, List.getElem?_map, hj]; rfl
  · rintro e w' ⟨x, hx, rfl, hc', hg⟩
    exact ⟨x, hx, rfl, hc', grownBy_trans (World.grownBy_alloc _ _ _) hg⟩
theorem grown_below {w w1 w2 : World} {b B : Nat} (h : w.grownBy w1 (some b)) (hB : w.heap.size ≤ B) (hb : Below B w1 w2) : w.grownBy w2 (some b) :=
  ⟨hb.os.trans h.os, hb.tape.trans h.tape, hb.output.trans h.output, Nat.le_trans h.size hb.size, fun k hk hne => (hb.block k (by omega)).trans (h.block k hk hne)⟩
structure Rdy (w : World) (b : Nat) (W : World) : Prop where
  cur : Cur W b
  grown : w.grownBy W (some b)
  r : W.heap[w.heap.size]? = some (.cells #[.int .i64 0, .slice none 0 0] 26 (0, 0))
theorem Rdy.lt {w W : World} {b : Nat} (h : Rdy w b W) : w.heap.size < W.heap.size := (Array.getElem?_eq_some_iff.1 h.r).1
theorem Rdy.step {w W W' : World} {b : Nat} (h : Rdy w b W) (hbw : b < w.heap.size) (hc : Cur W' b) (hg : W.grownBy W' (some b)) : Rdy w b W' :=
  ⟨hc, grownBy_trans h.grown hg, (hg.block _ h.lt (fun e => by have := Option.some.inj e; omega)).trans h.r⟩
theorem Rdy.below {w W W' : World} {b : Nat} (h : Rdy w b W) (hb : Below W.heap.size W W') : Rdy w b W' :=
  ⟨h.cur.below hb, grown_below h.grown (Nat.le_of_lt h.lt) hb, (hb.block _ h.lt).trans h.r⟩
theorem Rdy.start {w : World} {b : Nat} (hc : Cur w b) : Rdy w b (w.alloc (.cells #[.int .i64 0, .slice none 0 0] 26)) :=
  ⟨cur_alloc hc _, World.grownBy_alloc _ _ _, blk_new w _⟩
def DrawT (d b : Nat) (w : World) (e : Ending) (w' : World) : Prop := ∃ v t, e = .returned v ∧ t.nodes + 1 ≤ 2 ^ d ∧ NewG t w.heap.size w' v ∧ Cur w' b ∧ w.grownBy w' (some b)
theorem small_args {t : Ty} {k : Nat} (h : t.nodes + 1 ≤ 2 ^ k) (hk : 2 ^ k ≤ 2 ^ 3) : nodesS t.args ≤ 1048576 := by
  rw [t.nodes_eq] at h; omega
theorem keep2 {W w1 : World} {p1 p2 : Addr} {v1 v2 : Value} (hb1 : Below W.heap.size W w1) (h : W.cell? p1 = some v1 ∧ W.cell? p2 = some v2) : w1.cell? p1 = some v1 ∧ w1.cell? p2 = some v2 :=
  ⟨(hb1.cell (World.block_lt_of_cell? W _ h.1)).trans h.1, (hb1.cell (World.block_lt_of_cell? W _ h.2)).trans h.2⟩
theorem keepS2 {W : World} {b i a1 a2 i1 i2 : Nat} {v u1 u2 : Value} (h : W.cell? ⟨a1, i1, none⟩ = some u1 ∧ W.cell? ⟨a2, i2, none⟩ = some u2) (h1 : a1 ≠ b) (h2 : a2 ≠ b) :
    (W.setCell ⟨b, i, none⟩ v).cell? ⟨a1, i1, none⟩ = some u1 ∧ (W.setCell ⟨b, i, none⟩ v).cell? ⟨a2, i2, none⟩ = some u2 :=
  ⟨(World.cell?_of_block (heap_setCell_other W ⟨b, i, none⟩ a1 v h1)).trans h.1, (World.cell?_of_block (heap_setCell_other W ⟨b, i, none⟩ a2 v h2)).trans h.2⟩
theorem draw_fin {w W : World} {b d base : Nat} {t : Ty} {s : Value} (h : Rdy w b W) (hbw : b < w.heap.size) (hn : NewG t base W (.agg #[.int .i64 t.kind, s])) (hbase : w.heap.size + 1 ≤ base) (hd : t.nodes + 1 ≤ 2 ^ d) :
    DrawT d b w (.returned (.agg #[.int .i64 t.kind, s])) ((W.setCell ⟨w.heap.size, 0, none⟩ (.int .i64 t.kind)).setCell ⟨w.heap.size, 1, none⟩ s) := by
  obtain ⟨s', es, h1, h2, h3⟩ := hn
  have hbl : Below w.heap.size W ((W.setCell ⟨w.heap.size, 0, none⟩ (.int .i64 t.kind)).setCell ⟨w.heap.size, 1, none⟩ s) := ((Below.refl _ W).setCell (p := ⟨w.heap.size, 0, none⟩) (Nat.le_refl _) _).setCell (p := ⟨w.heap.size, 1, none⟩) (Nat.le_refl _) _
  exact ⟨_, t, rfl, hd, ⟨s', es, h1, h2, ((h3.set w.heap.size 0 _ (by omega)).set w.heap.size 1 _ (by omega)).base (by omega)⟩, h.cur.belowAt hbw hbl, grown_below h.grown (Nat.le_refl _) hbl⟩
theorem leaf_fin {w W : World} {b d : Nat} {x : Int} (h : Rdy w b W) (hbw : b < w.heap.size) :
    DrawT (d + 1) b w (.returned (.agg #[.int .i64 x, .slice none 0 0])) ((W.setCell ⟨w.heap.size, 0, none⟩ (.int .i64 x)).setCell ⟨w.heap.size, 1, none⟩ (.slice none 0 0)) :=
  draw_fin (t := .mk x []) h hbw ⟨_, [], rfl, rfl, Grow.start W (w.heap.size + 1)⟩ (Nat.le_refl _) (by have := Nat.one_le_two_pow (n := d); simp only [Ty.nodes, nodesS, Nat.pow_succ]; omega)

set_option maxRecDepth 100000 in
set_option maxHeartbeats 2000000 in
theorem draw_step (k : Nat) (D : Int) (hD : D = (k : Int) + 1) (hk : k ≤ 3)
    (IH : 1 ≤ k → ∀ (b : Nat) (W : World), Cur W b → Calls Tryz.prog 83 #[.pointer (some ⟨b, 0, none⟩), .int .i64 (D - 1)] W (DrawT k b W)) (b : Nat) (w : World) (hc : Cur w b) :
    Calls Tryz.prog 83 #[.pointer (some ⟨b, 0, none⟩), .int .i64 D] w (DrawT (k + 1) b w) := by
  have hbw := hc.lt
  have hsz := fun (W : World) (h : Rdy w b W) => h.lt
  have HSZ := Lib.hid hsz
  clear hsz
  have d1 : 1 ≤ D := by omega
  have d4 : D ≤ 4 := by omega
  have HR0 := Lib.hid (Rdy.start hc)
  have HIH := Lib.hid IH
  have hp := pickInt_litG [1, 1, 2] 3 b (w.alloc (.cells #[.int .i64 0, .slice none 0 0] 26)) #[.int .i64 1, .int .i64 1, .int .i64 2] rfl (by decide) (by decide) rfl HR0.out.cur
  rw [World.size_alloc] at hp
  have HP := Lib.hid hp
  have HD := Lib.hid hD
  clear IH hc hp hD
  go_enter Tryz.func83, Tryz.ntmps83
  by_cases h2 : D < 2
  · go_wp2_with fail
    refine HP.out.mono ?_
    rintro e w1 ⟨x, _, rfl, hc1, hg1⟩
    have hr1 := HR0.out.step hbw hc1 hg1
    have g0 : w1.cell? ⟨w.heap.size, 0, none⟩ = some (.int .i64 0) := cell_of_blk hr1.r 0
    have g1 : w1.cell? ⟨w.heap.size, 1, none⟩ = some (.slice none 0 0) := cell_of_blk hr1.r 1
    have gz := unfrozen_of_blk hr1.r
    have HR1 := Lib.hid hr1
    clear hc1 hg1 hr1
    go_wp2_with fail
    refine bodyPost_ret (v := .agg #[.int .i64 x, .slice none 0 0]) ?_ rfl ?_
    · rw [results_cell1 rfl]
      go_simp
    · exact leaf_fin HR1.out hbw
  · have k1 : 1 ≤ k := by have := HD.out; omega
    have HIK := Lib.hid (HIH.out k1)
    go_wp2_with fail
    refine (once_any b 2 _ (by decide) (by decide) HR0.out.cur).mono ?_
    rintro e w1 ⟨x, rfl, hc1, hg1⟩
    have HR1 := Lib.hid (HR0.out.step hbw hc1 hg1)
    clear hc1 hg1
    cases x
    · go_wp2_with fail
      refine (once_any b 2 _ (by decide) (by decide) HR1.out.cur).mono ?_
      rintro e w2 ⟨y, rfl, hc2, hg2⟩
      have HR2 := Lib.hid (HR1.out.step hbw hc2 hg2)
      clear hc2 hg2
      cases y
      · go_wp2_with fail
        refine (HIK.out b w2 HR2.out.cur).mono ?_
        rintro e w3 ⟨v3, t3, rfl, hn3, hg3, hc3, hgr3⟩
        have hr3 := HR2.out.step hbw hc3 hgr3
        have hq : t3.nodes + 1 ≤ 8 := Nat.le_trans hn3 (Nat.pow_le_pow_right (n := 2) (by decide) hk)
        obtain ⟨s3, hv3, hs3⟩ := hg3.tt
        obtain ⟨p3, c3, rfl⟩ := hs3.form
        subst hv3
        have hba := alloc_below w3 (.cells #[.int .i64 t3.kind, .slice p3 t3.args.length c3] 26)
        have hbd := hba.drew
        have HRb := Lib.hid (hr3.below hbd)
        have hgb := HRb.out.cur
        have l23 := hgr3.size
        have l02 := HR2.out.lt
        have l03 := hr3.lt
        have HT4 := Lib.hid (fun (W : World) (hW : ((w3.alloc (.cells #[.int .i64 t3.kind, .slice p3 t3.args.length c3] 26)).drew).grownBy W (some b)) =>
          (⟨_, rfl, (hs3.keep hbd).stays (C := fun z => w2.heap.size ≤ z) ⟨hW.size, fun k hk hl => hW.block k hl (fun e => by have := Option.some.inj e; omega)⟩⟩ : TT W _ t3 (.agg #[.int .i64 t3.kind, .slice p3 t3.args.length c3])))
        have HX4 := Lib.hid (fun (W : World) (hW : ((w3.alloc (.cells #[.int .i64 t3.kind, .slice p3 t3.args.length c3] 26)).drew).grownBy W (some b)) =>
          (⟨hW.cell (Bx.new w3 t3.kind (.slice p3 t3.args.length c3) 26).1 (fun e => by have : w3.heap.size = b := Option.some.inj e; omega), hW.cell (Bx.new w3 t3.kind (.slice p3 t3.args.length c3) 26).2 (fun e => by have : w3.heap.size = b := Option.some.inj e; omega)⟩ :
            W.cell? ⟨w3.heap.size, 0, none⟩ = some (.int .i64 t3.kind) ∧ W.cell? ⟨w3.heap.size, 1, none⟩ = some (.slice p3 t3.args.length c3)))
        have HN3 := Lib.hid hn3
        have HQ3 : Hid (nodesS t3.args ≤ 1048576) := Lib.hid (by rw [t3.nodes_eq] at hq; omega)
        have hk8 := Nat.pow_le_pow_right (n := 2) (by decide) hk
        have HK8 := Lib.hid hk8
        clear hg3 hc3 hgr3 hn3 hr3 hs3 hba hbd hgb hq hk8
        go_wp2_with fail
        have a3 : IntKind.i64.wrap (D - 1) = D - 1 := IntWalk.i64_in _ (by omega)
        have a4 : wrap64 (D - 1) = D - 1 := by unfold wrap64; omega
        go_region_held3 (fun w' => w'.cell? ⟨w3.heap.size, 0, none⟩ = some (.int .i64 t3.kind) ∧ w'.cell? ⟨w3.heap.size, 1, none⟩ = some (.slice p3 t3.args.length c3))
          (first
            | (go_keep; done)
            | exact ⟨by simp [*], by simp [*]⟩
            | exact HS5.out
            | exact HS4.out
            | exact keepS2 (keepS2 (by assumption) (by omega) (by omega)) (by omega) (by omega))
          (first
            | (go_at_call 83; refine (HIK.out b _ HRb.out.cur).mono ?_; rintro e w4 ⟨v4, t4, rfl, hn4, hg4, hc4, hgr4⟩; have HS4 := Lib.hid (HX4.out w4 hgr4); have HT3 := Lib.hid (HT4.out w4 hgr4); have HR4 := Lib.hid (HRb.out.step hbw hc4 hgr4); have HG4 := Lib.hid hg4; have HN4 := Lib.hid hn4; obtain ⟨s4, hv4, hs4⟩ := hg4.tt; obtain ⟨p4, c4, rfl⟩ := hs4.form; subst hv4; clear hg4 hc4 hgr4 hn4 hs4)
            | (go_at_call 87; refine (l3Fun_any HT3.out HG4.out.tt HQ3.out (small_args HN4.out HK8.out)).mono ?_; rintro e w5 ⟨v5, rfl, hg5, hb5⟩; obtain ⟨s5, hv5, hs5⟩ := hg5.tt; obtain ⟨p5, c5, rfl⟩ := hs5.form; subst hv5; have HS5 := Lib.hid (keep2 hb5 HS4.out); have hr5 := HR4.out.below hb5; have HR5 := Lib.hid hr5; have HG5 := Lib.hid hg5; have g0 : w5.cell? ⟨w.heap.size, 0, none⟩ = some (.int .i64 0) := cell_of_blk hr5.r 0; have g1 : w5.cell? ⟨w.heap.size, 1, none⟩ = some (.slice none 0 0) := cell_of_blk hr5.r 1; have gz := unfrozen_of_blk hr5.r; clear hg5 hb5 hr5 hs5))
        go_wp2_with fail
        refine bodyPost_ret (v := .agg #[.int .i64 3, .slice p5 2 c5]) ?_ rfl ?_
        · rw [results_cell1 rfl]
          go_simp
        · exact draw_fin (t := .mk 3 [t3, t4]) HR5.out hbw HG5.out (by have := HR4.out.lt; omega) (by have := HN3.out; have := HN4.out; simp only [Ty.nodes, nodesS, Nat.pow_succ]; omega)
      · go_wp2_with fail
        refine (HIK.out b w2 HR2.out.cur).mono ?_
        rintro e w3 ⟨v3, t3, rfl, hn3, hg3, hc3, hgr3⟩
        have HR3 := Lib.hid (HR2.out.step hbw hc3 hgr3)
        have hq : t3.nodes + 1 ≤ 8 := Nat.le_trans hn3 (Nat.pow_le_pow_right (n := 2) (by decide) hk)
        have HN3 := Lib.hid hn3
        have HC3 := Lib.hid (l3Code_any hg3.tt (by rw [t3.nodes_eq] at hq; omega))
        clear hg3 hc3 hgr3 hn3
        go_wp2_with fail
        refine HC3.out.mono ?_
        rintro e w4 ⟨v4, rfl, hg4, hb4⟩
        have hr4 := HR3.out.below hb4
        have g0 : w4.cell? ⟨w.heap.size, 0, none⟩ = some (.int .i64 0) := cell_of_blk hr4.r 0
        have g1 : w4.cell? ⟨w.heap.size, 1, none⟩ = some (.slice none 0 0) := cell_of_blk hr4.r 1
        have gz := unfrozen_of_blk hr4.r
        obtain ⟨p4, c4, hv4⟩ : ∃ p c, v4 = .agg #[.int .i64 4, .slice p 1 c] := by
          obtain ⟨s, hv, hs⟩ := hg4.tt
          obtain ⟨p, c, rfl⟩ := hs.form
          exact ⟨p, c, hv⟩
        subst hv4
        have HR4 := Lib.hid hr4
        have HG4 := Lib.hid hg4
        have HB4 := Lib.hid hb4.size
        clear hg4 hb4 hr4
        go_wp2_with fail
        refine bodyPost_ret (v := .agg #[.int .i64 4, .slice p4 1 c4]) ?_ rfl ?_
        · rw [results_cell1 rfl]
          go_simp
        · exact draw_fin (t := .mk 4 [t3]) HR4.out hbw HG4.out (by have := HR3.out.lt; omega) (by have := HN3.out; simp only [Ty.nodes, nodesS, Nat.pow_succ]; omega)
    · go_wp2_with fail
      refine (pickInt_litG [1, 1, 2] 3 b w1 _ rfl (by decide) (by decide) rfl HR1.out.cur).mono ?_
      rintro e w2 ⟨x, _, rfl, hc2, hg2⟩
      have hr2 := HR1.out.step hbw hc2 hg2
      have g0 : w2.cell? ⟨w.heap.size, 0, none⟩ = some (.int .i64 0) := cell_of_blk hr2.r 0
      have g1 : w2.cell? ⟨w.heap.size, 1, none⟩ = some (.slice none 0 0) := cell_of_blk hr2.r 1
      have gz := unfrozen_of_blk hr2.r
      have HR2 := Lib.hid hr2
      clear hc2 hg2 hr2
      go_wp2_with fail
      refine bodyPost_ret (v := .agg #[.int .i64 x, .slice none 0 0]) ?_ rfl ?_
      · rw [results_cell1 rfl]
        go_simp
      · exact leaf_fin HR2.out hbw
end Go.Proofs.YtjobmgbchpoheaaGreatDoor
namespace Go.Proofs.YtjobmgbchpoheaaGreatDoor
open Go Go.RowKit

abbrev leaf (k : Int) (s : ByteArray) (n : Int) : Tm := .mk k s ⟨#[]⟩ n (.mk 0 []) (.mk 0 []) []
abbrev leafV (k : Int) (s : ByteArray) (n : Int) : Value := .agg #[.int .i64 k, .string s, .string ⟨#[]⟩, .int .i64 n, .int .i64 0, .slice none 0 0, .int .i64 0, .slice none 0 0, .slice none 0 0]
abbrev zero9 : Array Value := #[.int .i64 0, .string ⟨#[]⟩, .string ⟨#[]⟩, .int .i64 0, .int .i64 0, .slice none 0 0, .int .i64 0, .slice none 0 0, .slice none 0 0]
theorem leaf_new (w : World) (base : Nat) (C : Nat → Prop) (k : Int) (s : ByteArray) (n : Int) : NewTm w base C (leaf k s n) none 0 none 0 none 0 [] := ⟨.nil _ _, .nil _ _, RowM.start _ _ _⟩
structure RdyM (w : World) (b : Nat) (W : World) : Prop where
  cur : Cur W b
  grown : w.grownBy W (some b)
  r : W.heap[w.heap.size]? = some (.cells zero9 29 (0, 0))
theorem RdyM.lt {w W : World} {b : Nat} (h : RdyM w b W) : w.heap.size < W.heap.size := (Array.getElem?_eq_some_iff.1 h.r).1
theorem RdyM.step {w W W' : World} {b : Nat} (h : RdyM w b W) (hbw : b < w.heap.size) (hc : Cur W' b) (hg : W.grownBy W' (some b)) : RdyM w b W' :=
  ⟨hc, grownBy_trans h.grown hg, (hg.block _ h.lt (fun e => by have := Option.some.inj e; omega)).trans h.r⟩
theorem RdyM.below {w W W' : World} {b : Nat} (h : RdyM w b W) (hb : Below W.heap.size W W') : RdyM w b W' :=
  ⟨h.cur.below hb, grown_below h.grown (Nat.le_of_lt h.lt) hb, (hb.block _ h.lt).trans h.r⟩
theorem RdyM.start {w : World} {b : Nat} (hc : Cur w b) : RdyM w b (w.alloc (.cells zero9 29)) := ⟨cur_alloc hc _, World.grownBy_alloc _ _ _, blk_new w _⟩
theorem RdyM.fin {w W : World} {b : Nat} (h : RdyM w b W) (hbw : b < w.heap.size) (vs : List Value) : Cur (setN W w.heap.size 0 vs) b ∧ w.grownBy (setN W w.heap.size 0 vs) (some b) ∧ Stays (fun z => w.heap.size + 1 ≤ z) W (setN W w.heap.size 0 vs) :=
  have hb := setN_below vs w.heap.size W w.heap.size 0 (Nat.le_refl _)
  ⟨h.cur.belowAt hbw hb, grown_below h.grown (Nat.le_refl _) hb, setN_stays vs _ W _ 0 (by omega)⟩
theorem RdyM.facts {w W : World} {b : Nat} (h : RdyM w b W) : (W.cell? ⟨w.heap.size, 0, none⟩ = some (.int .i64 0) ∧ W.cell? ⟨w.heap.size, 1, none⟩ = some (.string ⟨#[]⟩) ∧ W.cell? ⟨w.heap.size, 2, none⟩ = some (.string ⟨#[]⟩) ∧ W.cell? ⟨w.heap.size, 3, none⟩ = some (.int .i64 0) ∧ W.cell? ⟨w.heap.size, 4, none⟩ = some (.int .i64 0) ∧ W.cell? ⟨w.heap.size, 5, none⟩ = some (.slice none 0 0) ∧ W.cell? ⟨w.heap.size, 6, none⟩ = some (.int .i64 0) ∧ W.cell? ⟨w.heap.size, 7, none⟩ = some (.slice none 0 0) ∧ W.cell? ⟨w.heap.size, 8, none⟩ = some (.slice none 0 0)) ∧ ∀ i, W.frozen? ⟨w.heap.size, i, none⟩ = false :=
  ⟨⟨cell_of_blk h.r 0, cell_of_blk h.r 1, cell_of_blk h.r 2, cell_of_blk h.r 3, cell_of_blk h.r 4, cell_of_blk h.r 5, cell_of_blk h.r 6, cell_of_blk h.r 7, cell_of_blk h.r 8⟩, unfrozen_of_blk h.r⟩

def LeafRet (k : Int) (s : ByteArray) (n : Int) (w : World) (e : Ending) (w' : World) : Prop := e = .returned (leafV k s n) ∧ Below w.heap.size w w'
set_option maxRecDepth 100000 in
set_option maxHeartbeats 1000000 in
theorem l5Var_any (s : ByteArray) (w : World) : Calls Tryz.prog 48 #[.string s] w (LeafRet 1 s 0 w) := by
  go_enter Tryz.func48, Tryz.ntmps48
  go_wp2_with fail
  refine bodyPost_ret (v := leafV 1 s 0) ?_ rfl ?_
  · rw [results_cell1 rfl]
    go_simp
  · exact ⟨rfl, al_below _ _⟩
set_option maxRecDepth 100000 in
set_option maxHeartbeats 1000000 in
theorem l5Int_any (n : Int) (w : World) : Calls Tryz.prog 120 #[.int .i64 n] w (LeafRet 2 ⟨#[]⟩ n w) := by
  go_enter Tryz.func120, Tryz.ntmps120
  go_wp2_with fail
  refine bodyPost_ret (v := leafV 2 ⟨#[]⟩ n) ?_ rfl ?_
  · rw [results_cell1 rfl]
    go_simp
  · exact ⟨rfl, al_below _ _⟩
set_option maxRecDepth 100000 in
set_option maxHeartbeats 1000000 in
theorem l5Bool_any (n : Int) (w : World) : Calls Tryz.prog 72 #[.int .i64 n] w (LeafRet 3 ⟨#[]⟩ n w) := by
  go_enter Tryz.func72, Tryz.ntmps72
  go_wp2_with fail
  refine bodyPost_ret (v := leafV 3 ⟨#[]⟩ n) ?_ rfl ?_
  · rw [results_cell1 rfl]
    go_simp
  · exact ⟨rfl, al_below _ _⟩
def LeafG (b : Nat) (w : World) (e : Ending) (w' : World) : Prop := ∃ (k : Int) (s : ByteArray) (n : Int), e = .returned (leafV k s n) ∧ s.size ≤ 1 ∧ Cur w' b ∧ w.grownBy w' (some b)
theorem leafM_fin {w W : World} {b : Nat} (h : RdyM w b W) (hbw : b < w.heap.size) (k : Int) (s : ByteArray) (n : Int) (hs : s.size ≤ 1) :
    LeafG b w (.returned (leafV k s n)) (setN W w.heap.size 0 [.int .i64 k, .string s, .string ⟨#[]⟩, .int .i64 n, .int .i64 0, .slice none 0 0, .int .i64 0, .slice none 0 0, .slice none 0 0]) :=
  have hf := h.fin hbw _
  ⟨k, s, n, rfl, hs, hf.1, hf.2.1⟩

set_option maxRecDepth 100000 in
set_option maxHeartbeats 2000000 in
theorem leafM_any (b : Nat) (w : World) (hc : Cur w b) : Calls Tryz.prog 82 #[.pointer (some ⟨b, 0, none⟩)] w (LeafG b w) := by
  have hbw := hc.lt
  have HR0 := Lib.hid (RdyM.start hc)
  clear hc
  go_enter Tryz.func82, Tryz.ntmps82
  go_wp2_with fail
  refine (below_any b 4 _ (by decide) (by decide) HR0.out.cur).mono ?_
  rintro e w1 ⟨x, hx, rfl, hc1, hg1⟩
  have HR1 := Lib.hid (HR0.out.step hbw hc1 hg1)
  obtain ⟨x0, x4⟩ := hx
  clear hc1 hg1
  rcases (show x = 0 ∨ x = 1 ∨ 2 ≤ x by omega) with rfl | rfl | h2
  · go_wp2_with fail
    refine (pickInt_litG [0, 1, 2, 3, 10006] 5 b w1 _ rfl (by decide) (by decide) rfl HR1.out.cur).mono ?_
    rintro e w2 ⟨n, hn, rfl, hc2, hg2⟩
    have HR2 := Lib.hid (HR1.out.step hbw hc2 hg2)
    clear hn hc2 hg2
    go_wp2_with fail
    refine (l5Int_any n w2).mono ?_
    rintro e w3 ⟨rfl, hb3⟩
    have hr3 := HR2.out.below hb3
    have HR3 := Lib.hid hr3
    obtain ⟨⟨g0, g1, g2, g3, g4, g5, g6, g7, g8⟩, gz⟩ := hr3.facts
    clear hr3 hb3
    go_wp2_with fail
    refine bodyPost_ret (v := leafV 2 ⟨#[]⟩ n) ?_ rfl ?_
    · rw [results_cell1 rfl]
      go_simp
    · have := leafM_fin HR3.out hbw 2 ⟨#[]⟩ n (by decide)
      rw [setN9] at this
      exact this
  · go_wp2_with fail
    refine (below_any b 2 w1 (by decide) (by decide) HR1.out.cur).mono ?_
    rintro e w2 ⟨n, hn, rfl, hc2, hg2⟩
    have HR2 := Lib.hid (HR1.out.step hbw hc2 hg2)
    clear hn hc2 hg2
    go_wp2_with fail
    refine (l5Bool_any n w2).mono ?_
    rintro e w3 ⟨rfl, hb3⟩
    have hr3 := HR2.out.below hb3
    have HR3 := Lib.hid hr3
    obtain ⟨⟨g0, g1, g2, g3, g4, g5, g6, g7, g8⟩, gz⟩ := hr3.facts
    clear hr3 hb3
    go_wp2_with fail
    refine bodyPost_ret (v := leafV 3 ⟨#[]⟩ n) ?_ rfl ?_
    · rw [results_cell1 rfl]
      go_simp
    · have := leafM_fin HR3.out hbw 3 ⟨#[]⟩ n (by decide)
      rw [setN9] at this
      exact this
  · have e0 : (x == 0) = false := by rw [beq_eq_false_iff_ne]; omega
    have e1 : (x == 1) = false := by rw [beq_eq_false_iff_ne]; omega
    go_wp2_with fail
    refine (pickS_litG [⟨#[120]⟩, ⟨#[121]⟩, ⟨#[102]⟩] 3 b w1 _ rfl (by decide) (by decide) rfl HR1.out.cur).mono ?_
    rintro e w2 ⟨s, hs, rfl, hc2, hg2⟩
    have HR2 := Lib.hid (HR1.out.step hbw hc2 hg2)
    have HS := Lib.hid (show s.size ≤ 1 by simp at hs; rcases hs with rfl | rfl | rfl <;> decide)
    clear hs hc2 hg2
    go_wp2_with fail
    refine (l5Var_any s w2).mono ?_
    rintro e w3 ⟨rfl, hb3⟩
    have hr3 := HR2.out.below hb3
    have HR3 := Lib.hid hr3
    obtain ⟨⟨g0, g1, g2, g3, g4, g5, g6, g7, g8⟩, gz⟩ := hr3.facts
    clear hr3 hb3
    go_wp2_with fail
    refine bodyPost_ret (v := leafV 1 s 0) ?_ rfl ?_
    · rw [results_cell1 rfl]
      go_simp
    · have := leafM_fin HR3.out hbw 1 s 0 HS.out
      rw [setN9] at this
      exact this
end Go.Proofs.YtjobmgbchpoheaaGreatDoor
namespace Go.Proofs.YtjobmgbchpoheaaGreatDoor
open Go Go.RowKit

theorem rflat_len (A B : Nat → Value) (n : Nat) : ((List.range n).flatMap fun j => [A j, B j]).length = n * 2 := by
  induction n with
  | zero => rfl
  | succ n ih => rw [List.range_succ, List.flatMap_append, List.length_append, ih]; simp; omega
theorem rflat_at (A B : Nat → Value) (n j : Nat) (h : j < n) : ((List.range n).flatMap fun j => [A j, B j])[j * 2]? = some (A j) ∧ ((List.range n).flatMap fun j => [A j, B j])[j * 2 + 1]? = some (B j) := by
  induction n with
  | zero => omega
  | succ n ih =>
    rw [List.range_succ, List.flatMap_append]
    have hl := rflat_len A B n
    by_cases e : j = n
    · subst e
      rw [List.getElem?_append_right (by omega), List.getElem?_append_right (by omega), hl]
      rw [show j * 2 - j * 2 = 0 by omega, show j * 2 + 1 - j * 2 = 1 by omega]
      simp
    · obtain ⟨h1, h2⟩ := ih (by omega)
      rw [List.getElem?_append_left (by omega), List.getElem?_append_left (by omega)]
      exact ⟨h1, h2⟩
theorem os_inHeap {w : World} {F : Nat → Prop} {ts : List Ty} {v : Value} (h : OS w ts v F) : OS w ts v (fun z => F z ∧ z < w.heap.size) := by
  induction h with
  | none F => exact .none _
  | @row ts b c F K S G hrow hm hF hk hr hG hd ih =>
    exact .row K S (fun j z => G j z ∧ z < w.heap.size) hrow hm ⟨hF, hrow.lt⟩ hk ih (fun j z hj hz => ⟨⟨(hG j z hj hz.1).1, hz.2⟩, (hG j z hj hz.1).2⟩) (fun i j z hi hj hij h1 h2 => hd i j z hi hj hij h1.1 h2.1)
theorem os_grow {w : World} {base : Nat} {ts : List Ty} {v : Value} {F1 F2 : Nat → Prop} {x : Ty} {s : Value} (h : OS w ts v F1) (hx : OS w x.args s F2)
    (h1 : ∀ z, F1 z → base ≤ z ∧ ¬ F2 z) (h2 : ∀ z, F2 z → base ≤ z ∧ z < w.heap.size) :
    ∃ xs, w.ownsRow base 26 2 v ts.length xs ∧ ∀ (w' : World) (g cap : Nat), Appd w w' base 26 2 v ts.length xs [.int .i64 x.kind, s] g cap →
      OS w' (ts ++ [x]) (.slice (some ⟨g, 0, none⟩) (ts.length + 1) cap) (fun z => base ≤ z ∧ z < w'.heap.size) := by
  cases h with
  | none =>
    refine ⟨[], World.ownsRow_nil w base _ 2, fun w' g cap hA => ?_⟩
    obtain ⟨hrow, hb, hc⟩ := Row.of_owns (K := fun _ => x.kind) (S := fun _ => s) hA.own (fun j hj => by
      obtain rfl : j = 0 := by have : j < 0 + 1 := hj; omega
      exact ⟨rfl, rfl⟩)
    have hlt := hrow.lt
    have hs : Stays F2 w w' := ⟨hA.size, fun b hb hl => (hA.kept b hl (by simp [Value.ownBlock])).1⟩
    refine OS.row (ts := [x]) (fun _ => x.kind) (fun _ => s) (fun _ => F2) hrow hc ⟨hb, hlt⟩ (fun j y hj => ?_) (fun j y hj => ?_) (fun j z hj hz => ?_) (fun i j z hi hj hij => ?_)
    · match j, hj with
      | 0, hj => cases hj; rfl
    · match j, hj with
      | 0, hj => cases hj; exact hx.stays hs
    · obtain ⟨e1, e2⟩ := h2 z hz
      have := hA.size
      exact ⟨⟨e1, by omega⟩, fun e => (hA.kept z e2 (by simp [Value.ownBlock])).2 e.symm⟩
    · have hi' : i < 1 := hi
      have hj' : j < 1 := hj
      omega
  | @row ts b c F K S G hrow hm hF hk hr hG hd =>
    have hbase := (h1 b hF).1
    refine ⟨_, hrow.to_owns base hbase hm, fun w' g cap hA => ?_⟩
    have hl := rflat_len (fun j => .int .i64 (K j)) S ts.length
    have hF2b : ∀ z, F2 z → z ≠ b := fun z hz e => (h1 b hF).2 (e ▸ hz)
    have ob : ∀ z, z ≠ b → (Value.slice (some ⟨b, 0, Option.none⟩) ts.length c).ownBlock ≠ some z := fun z hz => by simp only [Value.ownBlock, ne_eq, Option.some.injEq]; omega
    obtain ⟨hrow', hb', hc'⟩ := Row.of_owns (K := fun j => if j < ts.length then K j else x.kind) (S := fun j => if j < ts.length then S j else s) hA.own (fun j hj => by
      by_cases e : j < ts.length
      · obtain ⟨e1, e2⟩ := rflat_at (fun j => .int .i64 (K j)) S ts.length j e
        rw [List.getElem?_append_left (by omega), List.getElem?_append_left (by omega), if_pos e, if_pos e]
        exact ⟨e1, e2⟩
      · obtain rfl : j = ts.length := by omega
        rw [List.getElem?_append_right (by omega), List.getElem?_append_right (by omega), hl, if_neg e, if_neg e]
        rw [show ts.length * 2 - ts.length * 2 = 0 by omega, show ts.length * 2 + 1 - ts.length * 2 = 1 by omega]
        exact ⟨rfl, rfl⟩)
    have hlt := hrow'.lt
    have hlen : (ts ++ [x]).length = ts.length + 1 := by simp
    have gl : ∀ j z, j < ts.length → G j z → base ≤ z ∧ z ≠ b := fun j z hj hz => ⟨(h1 z (hG j z hj hz).1).1, (hG j z hj hz).2⟩
    have key := OS.row (w := w') (ts := ts ++ [x]) (b := g) (c := cap) (F := fun z => base ≤ z ∧ z < w'.heap.size) (fun j => if j < ts.length then K j else x.kind) (fun j => if j < ts.length then S j else s)
      (fun j z => if j < ts.length then G j z ∧ z < w.heap.size else F2 z) (by rw [hlen]; exact hrow') hc' ⟨hb', hlt⟩ (fun j y hj => ?_) (fun j y hj => ?_) (fun j z hj hz => ?_) (fun i j z hi hj hij hz1 hz2 => ?_)
    · rw [hlen] at key; exact key
    · by_cases e : j < ts.length
      · rw [List.getElem?_append_left e] at hj
        simp only [if_pos e]
        exact hk j y hj
      · rw [List.getElem?_append_right (by omega)] at hj
        have : j - ts.length = 0 := by have := (List.getElem?_eq_some_iff.1 hj).1; simp at this; omega
        rw [this] at hj
        cases hj
        simp only [if_neg e]
    · by_cases e : j < ts.length
      · rw [List.getElem?_append_left e] at hj
        simp only [if_pos e]
        have h3 := (hr j y hj)
        have : OS w y.args (S j) (fun z => G j z ∧ z < w.heap.size) := os_inHeap h3
        exact this.stays ⟨hA.size, fun z hz hl => (hA.kept z hl (ob z (gl j z e hz.1).2)).1⟩
      · rw [List.getElem?_append_right (by omega)] at hj
        have : j - ts.length = 0 := by have := (List.getElem?_eq_some_iff.1 hj).1; simp at this; omega
        rw [this] at hj
        cases hj
        simp only [if_neg e]
        exact hx.stays ⟨hA.size, fun z hz hl => (hA.kept z hl (ob z (hF2b z hz))).1⟩
    · have hs := hA.size
      by_cases e : j < ts.length
      · simp only [if_pos e] at hz
        obtain ⟨e1, e2⟩ := gl j z e hz.1
        exact ⟨⟨e1, by omega⟩, fun e => (hA.kept z hz.2 (ob z e2)).2 e.symm⟩
      · simp only [if_neg e] at hz
        obtain ⟨e1, e2⟩ := h2 z hz
        exact ⟨⟨e1, by omega⟩, fun e => (hA.kept z e2 (ob z (hF2b z hz))).2 e.symm⟩
    · rw [hlen] at hi hj
      by_cases ei : i < ts.length
      · simp only [if_pos ei] at hz1
        by_cases ej : j < ts.length
        · simp only [if_pos ej] at hz2
          exact hd i j z ei ej hij hz1.1 hz2.1
        · simp only [if_neg ej] at hz2
          exact (h1 z (hG i z ei hz1.1).1).2 hz2
      · simp only [if_neg ei] at hz1
        by_cases ej : j < ts.length
        · simp only [if_pos ej] at hz2
          exact (h1 z (hG j z ej hz2.1).1).2 hz1
        · omega
end Go.Proofs.YtjobmgbchpoheaaGreatDoor
