/-
  The contract of the program's ParseType.
-/
import Derived.Test.YtnciibngcaajgaaTypI
import Derived.Test.YtnciibngcaajgaaValidT
import Derived.RegionTactic
import Derived.ChangeAlike
import Derived.Laws.EntriesVeiled
import Derived.Test.YtnciibngcaajgaaParseS
namespace Go.Proofs.Ytnciibngcaajgaa
open Go Go.RowKit

/-- What leadingType leaves. -/
def LeadRet (s : ByteArray) (w : World) (e : Ending) (w' : World) : Prop :=
  Below w.heap.size w w' ∧ ∃ (t : Ty) (p : Option Addr) (c : Nat) (n : Nat),
    ((pty s.data.toList 8 0 = some (t, n) ∧ e = .returned (.tuple #[.agg #[.int .i64 t.kind, .slice p t.args.length c], .int .i64 n, .bool true]) ∧ OS w' t.args (.slice p t.args.length c) (fun z => w.heap.size ≤ z ∧ z < w'.heap.size)) ∨
     (pty s.data.toList 8 0 = none ∧ e = .returned (.tuple #[.agg #[.int .i64 t.kind, .slice p t.args.length c], .int .i64 n, .bool false])))

theorem lead_world (w : World) (s : ByteArray) : ∃ wl,
    (((((w.alloc (.cells #[.string s] 9)).alloc (.cells #[.int .i64 0, .slice none 0 0] 26)).alloc (.cells #[.int .i64 0] 3)).alloc (.cells #[.func (.func 98) #[] #[.pointer (some ⟨w.heap.size + 1 + 1, 0, none⟩), .pointer (some ⟨w.heap.size, 0, none⟩)]] 117)).alloc
      (.cells #[.func (.func 100) #[] #[.pointer (some ⟨w.heap.size + 1 + 1 + 1, 0, none⟩), .pointer (some ⟨w.heap.size + 1 + 1 + 1 + 1 + 1, 0, none⟩)]] 118)).alloc
      (.cells #[.func (.func 99) #[] #[.pointer (some ⟨w.heap.size + 1 + 1 + 1 + 1, 0, none⟩), .pointer (some ⟨w.heap.size + 1 + 1 + 1, 0, none⟩)]] 119) = wl ∧
    Cl w.heap.size s 0 wl ∧ wl.heap[w.heap.size + 1]? = some (.cells #[.int .i64 0, .slice none 0 0] 26 (0, 0)) ∧ wl.heap.size = w.heap.size + 6 ∧ Below w.heap.size w wl := by
  refine ⟨_, rfl, ⟨?_, ?_, ?_, ?_, ?_⟩, ?_, ?_, ?_⟩
  · exact al_blk (al_blk (al_blk (al_blk (al_blk (blk_new _ _) _) _) _) _) _
  · have := al_blk (al_blk (al_blk (blk_new ((w.alloc (.cells #[.string s] 9)).alloc (.cells #[.int .i64 0, .slice none 0 0] 26)) (.cells #[.int .i64 0] 3)) (.cells #[.func (.func 98) #[] #[.pointer (some ⟨w.heap.size + 1 + 1, 0, none⟩), .pointer (some ⟨w.heap.size, 0, none⟩)]] 117))
      (.cells #[.func (.func 100) #[] #[.pointer (some ⟨w.heap.size + 1 + 1 + 1, 0, none⟩), .pointer (some ⟨w.heap.size + 1 + 1 + 1 + 1 + 1, 0, none⟩)]] 118))
      (.cells #[.func (.func 99) #[] #[.pointer (some ⟨w.heap.size + 1 + 1 + 1 + 1, 0, none⟩), .pointer (some ⟨w.heap.size + 1 + 1 + 1, 0, none⟩)]] 119)
    rw [World.size_alloc, World.size_alloc] at this
    exact this
  · refine al_blk (al_blk ?_ _) _
    have := blk_new (((w.alloc (.cells #[.string s] 9)).alloc (.cells #[.int .i64 0, .slice none 0 0] 26)).alloc (.cells #[.int .i64 0] 3)) (.cells #[fAcc w.heap.size] 117)
    rw [World.size_alloc, World.size_alloc, World.size_alloc] at this
    exact this
  · refine al_blk ?_ _
    have := blk_new ((((w.alloc (.cells #[.string s] 9)).alloc (.cells #[.int .i64 0, .slice none 0 0] 26)).alloc (.cells #[.int .i64 0] 3)).alloc (.cells #[fAcc w.heap.size] 117)) (.cells #[fTyp w.heap.size] 118)
    rw [World.size_alloc, World.size_alloc, World.size_alloc, World.size_alloc] at this
    exact this
  · have := blk_new (((((w.alloc (.cells #[.string s] 9)).alloc (.cells #[.int .i64 0, .slice none 0 0] 26)).alloc (.cells #[.int .i64 0] 3)).alloc (.cells #[fAcc w.heap.size] 117)).alloc (.cells #[fTyp w.heap.size] 118)) (.cells #[fPar w.heap.size] 119)
    rw [World.size_alloc, World.size_alloc, World.size_alloc, World.size_alloc, World.size_alloc] at this
    exact this
  · refine al_blk (al_blk (al_blk (al_blk ?_ _) _) _) _
    have := blk_new (w.alloc (.cells #[.string s] 9)) (.cells #[.int .i64 0, .slice none 0 0] 26)
    rw [World.size_alloc] at this
    exact this
  · simp only [World.size_alloc]
  · exact (((((alloc_below _ _).trans ((alloc_below _ _).mono (by simp))).trans ((alloc_below _ _).mono (by simp; omega))).trans ((alloc_below _ _).mono (by simp; omega))).trans ((alloc_below _ _).mono (by simp; omega))).trans ((alloc_below _ _).mono (by simp; omega))

/-- The result's cell is written twice. -/
abbrev wr4 (W : World) (b : Nat) (q : Int) (v : Value) : World := ((((W.setCell ⟨b, 0, none⟩ (.int .i64 q)).setCell ⟨b, 1, none⟩ v).setCell ⟨b, 0, none⟩ (.int .i64 q)).setCell ⟨b, 1, none⟩ v).drew
theorem wr4_stays (W : World) (b : Nat) (q : Int) (v : Value) (F : Nat → Prop) (h : ¬ F b) : Stays F W (wr4 W b q v) :=
  ((((setCell_stays _ _ _ _ F h).trans (setCell_stays _ _ _ _ F h)).trans (setCell_stays _ _ _ _ F h)).trans (setCell_stays _ _ _ _ F h))
theorem wr4_below (W : World) (b D : Nat) (q : Int) (v : Value) (h : D ≤ b) : Below D W (wr4 W b q v) :=
  (((((Below.refl D W).setCell (p := ⟨b, 0, none⟩) h _).setCell (p := ⟨b, 1, none⟩) h _).setCell (p := ⟨b, 0, none⟩) h _).setCell (p := ⟨b, 1, none⟩) h _).drew
theorem wr4_size (W : World) (b : Nat) (q : Int) (v : Value) : (wr4 W b q v).heap.size = W.heap.size := by simp [World.setCell]
theorem wr4_cells {W : World} {b : Nat} {T : TypeId} {u0 u1 : Value} (h : W.heap[b]? = some (.cells #[u0, u1] T (0, 0))) (q : Int) (v : Value) :
    ((((W.setCell ⟨b, 0, none⟩ (.int .i64 q)).setCell ⟨b, 1, none⟩ v).setCell ⟨b, 0, none⟩ (.int .i64 q)).setCell ⟨b, 1, none⟩ v).cell? ⟨b, 1, none⟩ = some v := by
  have h1 := heap_setCell_same W b 0 _ _ (.int .i64 q) h
  have h2 := heap_setCell_same _ b 1 _ _ v h1
  have h3 := heap_setCell_same _ b 0 _ _ (.int .i64 q) h2
  have h4 := heap_setCell_same _ b 1 _ _ v h3
  rw [cell_of_blk h4 1]
  rfl
theorem lead_yes {s : ByteArray} {w w1 : World} {n j : Nat} {t : Ty} {p : Option Addr} {c : Nat} (hb : Below w.heap.size w w1) (hn : n = w.heap.size + 6) (hp : pty s.data.toList 8 0 = some (t, j)) (ho : OS w1 t.args (.slice p t.args.length c) (fun z => n ≤ z ∧ z < w1.heap.size)) :
    LeadRet s w (.returned (.tuple #[.agg #[.int .i64 t.kind, .slice p t.args.length c], .int .i64 j, .bool true])) (wr4 w1 (w.heap.size + 1) t.kind (.slice p t.args.length c)) :=
  ⟨hb.trans (wr4_below _ _ _ _ _ (by omega)), t, p, c, j, Or.inl ⟨hp, rfl, (ho.stays (wr4_stays _ _ _ _ _ (by omega))).mono (fun z hz => by rw [wr4_size]; omega)⟩⟩
theorem lead_no {s : ByteArray} {w w1 : World} {j : Nat} {t : Ty} {p : Option Addr} {c : Nat} (hb : Below w.heap.size w w1) (hp : pty s.data.toList 8 0 = none) :
    LeadRet s w (.returned (.tuple #[.agg #[.int .i64 t.kind, .slice p t.args.length c], .int .i64 j, .bool false])) (wr4 w1 (w.heap.size + 1) t.kind (.slice p t.args.length c)) :=
  ⟨hb.trans (wr4_below _ _ _ _ _ (by omega)), t, p, c, j, Or.inr ⟨hp, rfl⟩⟩

set_option maxRecDepth 100000 in
set_option maxHeartbeats 1000000 in
theorem lead_any (s : ByteArray) (hs : s.size ≤ 1073741824) (w : World) : Calls Try.prog 73 #[.string s] w (LeadRet s w) := by
  obtain ⟨wl, hwl, hcl, hr, hsz, hbl⟩ := lead_world w s
  have hC := at_any w.heap.size s hs 8 (Nat.le_refl _) 0 wl (Nat.zero_le _) hcl
  rw [← hwl] at hC
  have HC := Lib.hid hC
  have HWL := Lib.hid hwl
  have HR := Lib.hid hr
  have HSZ := Lib.hid hsz
  have HBL := Lib.hid hbl
  clear hwl hcl hr hsz hbl hC
  go_enter Try.func73, Try.ntmps73
  go_wp2_with fail
  refine HC.out.mono ?_
  rintro e w1 ⟨hg1, t, p, c, ho⟩
  rw [HWL.out] at hg1 ho
  have hsz := HSZ.out
  have hs1 := hg1.size
  have hr1 := (hg1.block (w.heap.size + 1) (by omega) (fun e => by have := Option.some.inj e; omega)).trans HR.out
  have g0 : w1.cell? ⟨w.heap.size + 1, 0, none⟩ = some (.int .i64 0) := cell_of_blk hr1 0
  have g1 : w1.cell? ⟨w.heap.size + 1, 1, none⟩ = some (.slice none 0 0) := cell_of_blk hr1 1
  have gz := unfrozen_of_blk hr1
  have hB1 : Below w.heap.size w w1 := HBL.out.grown hg1 (by omega) (fun k hk => by cases hk; omega)
  have HB1 := Lib.hid hB1
  have LT := Lib.hid hsz
  rcases ho with ⟨j, hp, rfl, hos, hcl⟩ | ⟨hp, rfl, j, hj, hcl⟩
  · have a0 : w1.cell? ⟨w.heap.size + 1 + 1, 0, none⟩ = some (.int .i64 j) := cell_of_blk hcl.ba 0
    have HOS := Lib.hid hos
    have HP := Lib.hid hp
    have q1 := wr4_cells hr1 t.kind (.slice p t.args.length c)
    clear hp hos hcl hg1 hB1 hr1 hsz hs1
    go_wp2_with fail
    go_region
    go_wp2_with fail
    refine bodyPost_ret (v := .tuple #[.agg #[.int .i64 t.kind, .slice p t.args.length c], .int .i64 j, .bool true]) ?_ rfl ?_
    · rw [results_css rfl]
      go_simp
    · exact lead_yes HB1.out LT.out HP.out HOS.out
  · have a0 : w1.cell? ⟨w.heap.size + 1 + 1, 0, none⟩ = some (.int .i64 j) := cell_of_blk hcl.ba 0
    have HP := Lib.hid hp
    have q1 := wr4_cells hr1 t.kind (.slice p t.args.length c)
    clear hp hcl hg1 hB1 hr1 hsz hs1
    go_wp2_with fail
    go_region
    go_wp2_with fail
    refine bodyPost_ret (v := .tuple #[.agg #[.int .i64 t.kind, .slice p t.args.length c], .int .i64 j, .bool false]) ?_ rfl ?_
    · rw [results_css rfl]
      go_simp
    · exact lead_no HB1.out HP.out
end Go.Proofs.Ytnciibngcaajgaa
namespace Go.Proofs.Ytnciibngcaajgaa
open Go Go.RowKit

/-- What ParseType answers, in memory of its own. -/
def ParseOwn (s : ByteArray) (w : World) (e : Ending) (w' : World) : Prop :=
  ∃ v, e = .returned (.tuple #[v, .bool (parseT s.data.toList).isSome]) ∧ OT w' ((parseT s.data.toList).getD (.mk 0 [])) v (fun z => w.heap.size ≤ z ∧ z < w'.heap.size) ∧ Below w.heap.size w w'
theorem own_fin {w W : World} {s : ByteArray} {t : Ty} {p : Value} {o : Bool} (hb : Below w.heap.size w W) (hT : OS W t.args p (fun z => w.heap.size + 1 ≤ z ∧ z < W.heap.size))
    (ho : (parseT s.data.toList = some t ∧ o = true) ∨ (parseT s.data.toList = none ∧ t = .mk 0 [] ∧ o = false)) :
    ParseOwn s w (.returned (.tuple #[.agg #[.int .i64 t.kind, p], .bool o])) ((W.setCell ⟨w.heap.size, 0, none⟩ (.int .i64 t.kind)).setCell ⟨w.heap.size, 1, none⟩ p) := by
  have hst : ∀ F : Nat → Prop, ¬ F w.heap.size → Stays F W ((W.setCell ⟨w.heap.size, 0, none⟩ (.int .i64 t.kind)).setCell ⟨w.heap.size, 1, none⟩ p) := fun F hF => (setCell_stays _ _ _ _ F hF).trans (setCell_stays _ _ _ _ F hF)
  have hbl : Below w.heap.size W ((W.setCell ⟨w.heap.size, 0, none⟩ (.int .i64 t.kind)).setCell ⟨w.heap.size, 1, none⟩ p) := ((Below.refl _ W).setCell (p := ⟨w.heap.size, 0, none⟩) (Nat.le_refl _) _).setCell (p := ⟨w.heap.size, 1, none⟩) (Nat.le_refl _) _
  have hsz : ((W.setCell ⟨w.heap.size, 0, none⟩ (.int .i64 t.kind)).setCell ⟨w.heap.size, 1, none⟩ p).heap.size = W.heap.size := by simp [World.setCell]
  have hT' : OT ((W.setCell ⟨w.heap.size, 0, none⟩ (.int .i64 t.kind)).setCell ⟨w.heap.size, 1, none⟩ p) t (.agg #[.int .i64 t.kind, p]) (fun z => w.heap.size ≤ z ∧ z < ((W.setCell ⟨w.heap.size, 0, none⟩ (.int .i64 t.kind)).setCell ⟨w.heap.size, 1, none⟩ p).heap.size) :=
    ⟨p, rfl, (hT.stays (hst _ (by omega))).mono (fun z hz => by rw [hsz]; omega)⟩
  rcases ho with ⟨h, rfl⟩ | ⟨h, ht, rfl⟩
  · exact ⟨_, by rw [h]; rfl, by rw [h]; exact hT', hb.trans hbl⟩
  · exact ⟨_, by rw [h]; rfl, by rw [h]; subst ht; exact hT', hb.trans hbl⟩

set_option maxRecDepth 100000 in
set_option maxHeartbeats 1000000 in
theorem parseI_any (s : ByteArray) (hs : s.size ≤ 1073741824) (w : World) : Calls Try.prog 33 #[.string s] w (ParseOwn s w) := by
  have ha := alloc_below w (.cells #[.int .i64 0, .slice none 0 0] 26)
  have HR := Lib.hid (blk_new w (.cells #[.int .i64 0, .slice none 0 0] 26))
  have HC := Lib.hid (lead_any s hs (w.alloc (.cells #[.int .i64 0, .slice none 0 0] 26)))
  have HA := Lib.hid ha
  clear ha
  go_enter Try.func33, Try.ntmps33
  go_wp2_with fail
  refine HC.out.mono ?_
  rintro e w1 ⟨hb1, t, p, c, n, ho⟩
  have hs1 := hb1.size
  rw [World.size_alloc] at hb1 hs1 ho
  have hr1 := (hb1.block w.heap.size (by omega)).trans HR.out
  have hba := alloc_below w1 (.cells #[.int .i64 t.kind, .slice p t.args.length c] 26)
  have hr2 := (hba.block _ (by omega)).trans hr1
  have hB2 := Lib.hid (HA.out.trans ((hb1.mono (by omega)).trans (hba.mono (by omega))))
  have g0 : (w1.alloc (.cells #[.int .i64 t.kind, .slice p t.args.length c] 26)).cell? ⟨w.heap.size, 0, none⟩ = some (.int .i64 0) := cell_of_blk hr2 0
  have g1 : (w1.alloc (.cells #[.int .i64 t.kind, .slice p t.args.length c] 26)).cell? ⟨w.heap.size, 1, none⟩ = some (.slice none 0 0) := cell_of_blk hr2 1
  have gz := unfrozen_of_blk hr2
  obtain ⟨x0, x1⟩ := Bx.new w1 t.kind (.slice p t.args.length c) 26
  have HBX := Lib.hid (Bx.new w1 t.kind (.slice p t.args.length c) 26)
  have HR2 := Lib.hid hr2
  have HBA := Lib.hid hba
  have LT := Lib.hid hs1
  clear hb1 hs1 hr1 hba hr2
  rcases ho with ⟨hp, rfl, hos⟩ | ⟨hp, rfl⟩
  · have hg := pty_good _ _ _ _ _ hp
    have hgn := hg.nodes
    have hgl := hg.le
    rw [size_list] at hgl
    have hn : nodesS t.args ≤ 1048576 := by rw [t.nodes_eq] at hgn; omega
    have HP := Lib.hid (parse_of hp)
    have HOS := Lib.hid (hos.keep HBA.out)
    clear hp hg hgn hos
    by_cases hlt : n < s.size
    · go_wp2_with fail
      refine bodyPost_ret (v := .tuple #[.agg #[.int .i64 0, .slice none 0 0], .bool false]) ?_ rfl ?_
      · rw [results_cs rfl]
        go_simp
      · exact own_fin (t := .mk 0 []) hB2.out (.none _) (Or.inr ⟨by rw [HP.out, if_neg (fun h => by have := h.1; rw [size_list] at this; omega)], rfl, rfl⟩)
    · have HV := Lib.hid (validI_any (C := fun z => w.heap.size + 1 ≤ z ∧ z < w1.heap.size) (t := t) (v := .agg #[.int .i64 t.kind, .slice p t.args.length c]) ⟨_, rfl, HOS.out.ts⟩ hn)
      have hj : n = s.size := by omega
      have HJ := Lib.hid (hj.trans (size_list s).symm)
      clear hj
      go_wp2_with fail
      refine HV.out.mono ?_
      rintro e w3 ⟨b, hb, rfl, hb3⟩
      have hr3 := (hb3.block _ (Array.getElem?_eq_some_iff.1 HR2.out).1).trans HR2.out
      have HB3 := Lib.hid (hB2.out.trans (hb3.mono hB2.out.size))
      obtain ⟨y0, y1⟩ := HBX.out.keep hb3
      have f0 : w3.cell? ⟨w.heap.size, 0, none⟩ = some (.int .i64 0) := cell_of_blk hr3 0
      have f1 : w3.cell? ⟨w.heap.size, 1, none⟩ = some (.slice none 0 0) := cell_of_blk hr3 1
      have fz := unfrozen_of_blk hr3
      have HO3 := Lib.hid ((HOS.out.keep hb3).mono (F' := fun z => w.heap.size + 1 ≤ z ∧ z < w3.heap.size) (fun z hz => ⟨hz.1, by have := hb3.size; have := HBA.out.size; omega⟩))
      have HV := Lib.hid hb
      clear hb3 hr3 g0 g1 gz x0 x1 hb
      cases b
      · go_wp2_with fail
        refine bodyPost_ret (v := .tuple #[.agg #[.int .i64 0, .slice none 0 0], .bool false]) ?_ rfl ?_
        · rw [results_cs rfl]
          go_simp
        · exact own_fin (t := .mk 0 []) HB3.out (.none _) (Or.inr ⟨by rw [HP.out, if_neg (fun h => by have := HV.out.trans h.2; cases this)], rfl, rfl⟩)
      · go_wp2_with fail
        refine bodyPost_ret (v := .tuple #[.agg #[.int .i64 t.kind, .slice p t.args.length c], .bool true]) ?_ rfl ?_
        · rw [results_cs rfl]
          go_simp
        · exact own_fin HB3.out HO3.out (Or.inl ⟨by rw [HP.out, if_pos ⟨HJ.out, HV.out.symm⟩], rfl⟩)
  · have HP := Lib.hid hp
    clear hp
    go_wp2_with fail
    refine bodyPost_ret (v := .tuple #[.agg #[.int .i64 0, .slice none 0 0], .bool false]) ?_ rfl ?_
    · rw [results_cs rfl]
      go_simp
    · exact own_fin (t := .mk 0 []) hB2.out (.none _) (Or.inr ⟨parse_no HP.out, rfl, rfl⟩)
end Go.Proofs.Ytnciibngcaajgaa

