/-
  Several texts of the proof in one (each says below what it holds): Bld NodesM.
-/
import Derived.Test.YtjobmgbchpoheaaGreatDoorPB14
import Derived.Test.YtjobmgbchpoheaaGreatDoorPB1
import Derived.Test.YtjobmgbchpoheaaGreatDoorPB3
import Derived.Test.YtjobmgbchpoheaaGreatDoorPB7
import Derived.Shelf.Strings.Builder1
import Derived.Laws.Entries
import Derived.Lib.UnsafeStr
import Derived.RangeFuncNested
import Derived.RangeFuncBound
import Derived.RangeFuncCalls
import Derived.Shelf.Abstract
import Derived.IntWalk
import Derived.Shelf.RegionOpen
import Derived.WalkKit
import Derived.TacticsInMore
import Derived.LoopNIn
import Derived.LoopIn
import Derived.Sort.LoopGhostIn
namespace Go.Proofs.YtjobmgbchpoheaaGreatDoor
open Go Go.RowKit

abbrev TB : TypeId := 52
theorem sizeB : (Tryz.prog.info? 52).map (fun i => (i.zero, i.size)) = some (some (.agg #[.pointer none, .slice none 0 0]), 2) := by kernel_rfl
theorem infoU8 : (Tryz.prog.info? 5).map (fun i => (i.zero, i.size, i.bytes)) = some (some (.int .u8 0), 1, 1) := by kernel_rfl
set_option maxHeartbeats 1000000 in
set_option maxRecDepth 100000 in
theorem check_used (b : Nat) (w : World) (h0 : w.cell? ⟨b, 0, none⟩ = some (.pointer (some ⟨b, 0, none⟩))) :
    Calls Tryz.prog 70 #[.pointer (some ⟨b, 0, none⟩)] w fun e w' => e = .returned (.tuple #[]) ∧ w' = w := by
  obtain ⟨j, hj, hjz⟩ := Option.map_eq_some_iff.1 sizeB
  go_enter Tryz.func70, Tryz.ntmps70
  go_wp2
  rw [Lib.run_neq_ptr_same w _ Tryz.underlying50 hj]
  go_wp2
  go_end0
  exact ⟨rfl, rfl⟩
set_option maxHeartbeats 1000000 in
set_option maxRecDepth 100000 in
theorem check_fresh (b : Nat) (w : World) (h0 : w.cell? ⟨b, 0, none⟩ = some (.pointer none)) (hsh : w.shape? b = some (TB, 2)) (hfz : w.frozen? ⟨b, 0, none⟩ = false) :
    Calls Tryz.prog 70 #[.pointer (some ⟨b, 0, none⟩)] w fun e w' => e = .returned (.tuple #[]) ∧ w' = w.setCell ⟨b, 0, none⟩ (.pointer (some ⟨b, 0, none⟩)) := by
  obtain ⟨j, hj, hjz⟩ := Option.map_eq_some_iff.1 sizeB
  have hjs : j.size = 2 := (Prod.mk.inj hjz).2
  go_enter Tryz.func70, Tryz.ntmps70
  go_wp2
  rw [Lib.run_to_unsafe w ⟨b, 0, none⟩ Tryz.underlying50 Tryz.underlying128 hj (by rw [hjs]; decide) hsh (Nat.zero_lt_succ 1)]
  simp only [Result.andThen]
  rw [Oper.upon_value]
  go_wp2
  rw [run_callFunc_extern Tryz.func114 (by kernel_rfl) (by kernel_rfl) (by kernel_rfl) (e := Extern.AbiNoEscape.same) (by kernel_rfl)]
  rw [Lib.run_noEscape]
  simp only [Result.andThen]
  rw [Oper.upon_value]
  go_wp2
  rw [Lib.run_from_unsafe w ⟨b, 0, none⟩ Tryz.underlying128 Tryz.underlying50 hj hsh Tryz.Builder_Extra_169.liesBuilder]
  simp only [Result.andThen]
  rw [Oper.upon_value]
  go_wp2
  go_end0
  exact ⟨rfl, rfl⟩
abbrev IsB (B b : Nat) (l : List UInt8) (w : World) : Prop := Lib.IsBuilder 52 5 B b (Lib.byteCells l) w
theorem run_str {P : Program} (w : World) (base : Nat) (t u ty e : TypeId) (i : TypeInfo) (ht : P.underlying t = some (.slice e)) (hu : P.underlying u = some .string) (hi : P.info? e = some i) (hz : i.zero = some (.int .u8 0))
    (hsize : i.size = 1) (hby : i.bytes = 1) (v : Value) (n : Nat) (xs : List Value) (hown : w.ownsRow base e 1 v n xs) (s : ByteArray)
    (h63 : n + s.size ≤ maxLen) (hbytes : n + s.size ≤ 140737488355328) (hbase : base ≤ w.heap.size) :
    ∃ v' w', (Builtin.append_ #[t, u] ty #[v, .string s]).run P w = .ok v' w' ∧ w'.ownsRow base e 1 v' (n + s.size) (xs ++ Lib.strCells s) ∧ w.grownBy w' v.ownBlock ∧
      ∀ g, v'.ownBlock = some g → v.ownBlock = some g ∨ w.heap.size ≤ g := by
  rcases hown.2 with ⟨rfl, rfl⟩ | ⟨g, cap, cur, rfl, hbg, hg, hnc, hcm, hcs, htake⟩
  · have hx : xs = [] := List.eq_nil_of_length_eq_zero (by simpa using hown.1)
    subst hx
    obtain ⟨v', w', hr, ho, hgr, _⟩ := Lib.run_append_own_string (P := P) w w.heap.size t u ty e i ht hu hi hz hsize hby _ 0 [] (World.ownsRow_nil w _ e 1) s h63 hbytes (Nat.le_refl _)
    exact ⟨v', w', hr, ⟨ho.1, ho.2.elim Or.inl (fun ⟨g, cap, cur, hv, hb, r⟩ => Or.inr ⟨g, cap, cur, hv, Nat.le_trans hbase hb, r⟩)⟩, hgr, fun g hg => Or.inr (ho.lt g hg).1⟩
  · obtain ⟨v', w', hr, ho, hgr, _⟩ := Lib.run_append_own_string (P := P) w base t u ty e i ht hu hi hz hsize hby _ n xs hown s h63 hbytes hbase
    refine ⟨v', w', hr, ho, hgr, fun k hk => ?_⟩
    have hcs' : cur.size = cap := by simpa using hcs
    by_cases hroom : n + s.size ≤ cap
    · have h2 := Lib.run_append_room_string (P := P) w t u ty e i ht hu hi hsize g n cap cur hg s hroom (by omega)
      rw [hr] at h2
      simp only [Result.ok.injEq] at h2
      rw [h2.1] at hk
      exact Or.inl hk
    · have hxl : xs.length = n := by simpa using hown.1
      have holds : ∀ j u, xs[j]? = some u → w.cell? ((⟨g, 0, none⟩ : Addr).add j) = some u := hown.cells (g := g) rfl
      have h2 := Lib.run_append_grow_string (P := P) w t u ty e i (.int .u8 0) ht hu hi hz ⟨g, 0, none⟩ n cap xs (by rw [hsize]; simpa using hxl) holds s (by omega) (by unfold maxLen at h63; omega) (by rw [hby]; exact growslice_fits (by omega) (by omega))
      rw [hr] at h2
      simp only [Result.ok.injEq] at h2
      rw [h2.1] at hk
      simp only [Value.ownBlock, Option.some.injEq] at hk
      exact Or.inr (by omega)
theorem wpList_str {P : Program} {w : World} {ops : Array Oper} {rest : List Oper} {o : Oper} {a : Act} {Q : Exit → Act → World → Prop} (hgd : o.guard = none) (sl x : Operand) (t u : TypeId)
    (ho : o.op = .call { callee := .builtin .append, args := #[sl, x], argTypes := #[t, u] })
    (base : Nat) (e : TypeId) (i : TypeInfo) (ht : P.underlying t = some (.slice e)) (hu : P.underlying u = some .string) (hi : P.info? e = some i) (hz : i.zero = some (.int .u8 0))
    (hsize : i.size = 1) (hby : i.bytes = 1)
    (v : Value) (n : Nat) (xs : List Value) (hs : a.eval sl = v) (hown : w.ownsRow base e 1 v n xs) (s : ByteArray) (hx : a.eval x = .string s)
    (h63 : n + s.size ≤ maxLen) (hbytes : n + s.size ≤ 140737488355328) (hbase : base ≤ w.heap.size)
    (h : ∀ v' w', w'.ownsRow base e 1 v' (n + s.size) (xs ++ Lib.strCells s) → w.grownBy w' v.ownBlock → (∀ g, v'.ownBlock = some g → v.ownBlock = some g ∨ w.heap.size ≤ g) → wpList P ops Q rest (a.put o.dst v') w') : wpList P ops Q (o :: rest) a w := by
  refine wpList_plain hgd fun K hK => ?_
  obtain ⟨v', w', hr, h2, h3, h4⟩ := run_str (P := P) w base t u o.type e i ht hu hi hz hsize hby v n xs hown s h63 hbytes hbase
  unfold Oper.wp execOp
  simp only [ho, resolve, invoke, builtin, Sem.run_bind, Sem.run_pure, Result.andThen_ok, List.map_toArray, List.map_cons, List.map_nil, hs, hx, hr]
  exact hK _ _ (h v' w' h2 h3 h4)
structure Bu (B R : Nat) (v : Value) (l : List UInt8) (W : World) : Prop where
  le : B ≤ R
  blk : ∃ p, (p = .pointer none ∨ p = .pointer (some ⟨R, 0, none⟩)) ∧ W.heap[R]? = some (.cells #[p, v] 52 (0, 0))
  own : W.ownsRow B 5 1 v (Lib.byteCells l).length (Lib.byteCells l)
  ne : v.ownBlock ≠ some R
theorem Bu.is {B R : Nat} {v : Value} {l : List UInt8} {W : World} (h : Bu B R v l W) : IsB B R l W := by
  obtain ⟨p, hp, hb⟩ := h.blk
  rcases hp with rfl | rfl
  · exact Or.inl ⟨h.le, v, hb, h.own, h.ne⟩
  · exact Or.inr ⟨h.le, v, hb, h.own, h.ne⟩
theorem Bu.lt {B R : Nat} {v : Value} {l : List UInt8} {W : World} (h : Bu B R v l W) : R < W.heap.size := by
  obtain ⟨p, _, hb⟩ := h.blk
  exact (Array.getElem?_eq_some_iff.1 hb).1
theorem Bu.fresh (w : World) : Bu w.heap.size w.heap.size (.slice none 0 0) [] (w.alloc (.cells #[.pointer none, .slice none 0 0] 52)) :=
  ⟨Nat.le_refl _, ⟨_, Or.inl rfl, blk_new w _⟩, World.ownsRow_nil _ _ _ _, by simp [Value.ownBlock]⟩
theorem Bu.keep {B R : Nat} {v : Value} {l : List UInt8} {W W' : World} (h : Bu B R v l W) (hR : W'.heap[R]? = W.heap[R]?) (hv : ∀ g, v.ownBlock = some g → W'.heap[g]? = W.heap[g]?) : Bu B R v l W' := by
  obtain ⟨h1, ⟨p, hp, hb⟩, h2, h3⟩ := h
  refine ⟨h1, ⟨p, hp, hR.trans hb⟩, ⟨h2.1, ?_⟩, h3⟩
  rcases h2.2 with h0 | ⟨g, cap, cur, rfl, hg, hblk, r⟩
  · exact Or.inl h0
  · exact Or.inr ⟨g, cap, cur, rfl, hg, (hv g rfl).trans hblk, r⟩
set_option maxHeartbeats 1000000 in
set_option maxRecDepth 100000 in
theorem wstr_any (B R : Nat) (v : Value) (l : List UInt8) (s : ByteArray) (w : World) (h : Bu B R v l w) (hlen : l.length + s.size ≤ 140737488355328) (hBw : B ≤ w.heap.size) :
    Calls Tryz.prog 34 #[.pointer (some ⟨R, 0, none⟩), .string s] w fun e w' => e = .returned (.tuple #[.int .i64 s.size, .nilIface]) ∧ Below B w w' ∧
      ∃ v', Bu B R v' (l ++ s.data.toList) w' ∧ (∀ k, k < w.heap.size → k ≠ R → v.ownBlock ≠ some k → w'.heap[k]? = w.heap[k]?) ∧ ∀ g, v'.ownBlock = some g → v.ownBlock = some g ∨ w.heap.size ≤ g := by
  obtain ⟨i0, hi, hz0, hz1, hz2⟩ := info_parts infoU8
  have hlb : (Lib.byteCells l).length = l.length := by simp [Lib.byteCells]
  have hchk : Calls Tryz.prog 70 #[.pointer (some ⟨R, 0, none⟩)] w fun e w1 => e = .returned (.tuple #[]) ∧ Below B w w1 ∧ w1.heap.size = w.heap.size ∧ w1.heap[R]? = some (.cells #[.pointer (some ⟨R, 0, none⟩), v] 52 (0, 0)) ∧ ∀ k, k ≠ R → w1.heap[k]? = w.heap[k]? := by
    obtain ⟨p, hp, hb⟩ := h.blk
    rcases hp with rfl | rfl
    · have hx : Lib.BuilderAt 52 5 B R (.pointer none) (Lib.byteCells l) w := ⟨h.le, v, hb, h.own, h.ne⟩
      refine (check_fresh R w hx.cell0 hx.shape hx.frozen0).mono ?_
      rintro e w' ⟨rfl, rfl⟩
      exact ⟨rfl, (Below.refl B w).setCell (p := ⟨R, 0, none⟩) h.le _, by simp [World.setCell], heap_setCell_same w R 0 _ _ _ hb, fun k hk => heap_setCell_other w ⟨R, 0, none⟩ k _ hk⟩
    · have hx : Lib.BuilderAt 52 5 B R (.pointer (some ⟨R, 0, none⟩)) (Lib.byteCells l) w := ⟨h.le, v, hb, h.own, h.ne⟩
      refine (check_used R w hx.cell0).mono ?_
      rintro e w' ⟨rfl, rfl⟩
      exact ⟨rfl, Below.refl B _, rfl, hb, fun k _ => rfl⟩
  have HC := Lib.hid hchk
  have HH := Lib.hid h
  clear hchk h
  go_enter Tryz.func34, Tryz.ntmps34
  go_wp2_with (go_at_call 70; refine HC.out.mono ?_)
  rintro e w1 ⟨rfl, hb1, hsz1, hbk, hoth⟩
  have c0 : w1.cell? ⟨R, 0, none⟩ = some (.pointer (some ⟨R, 0, none⟩)) := by rw [Lib.cell_of_heap hbk]; rfl
  have c1 : w1.cell? ⟨R, 1, none⟩ = some v := by rw [Lib.cell_of_heap hbk]; rfl
  have hown : w1.ownsRow B 5 1 v (Lib.byteCells l).length (Lib.byteCells l) := by
    refine ⟨HH.out.own.1, ?_⟩
    rcases HH.out.own.2 with h0 | ⟨g, cap, cur, hv, hg, hblk, r⟩
    · exact Or.inl h0
    · exact Or.inr ⟨g, cap, cur, hv, hg, (hoth g (fun e => HH.out.ne (by rw [hv, e]; rfl))).trans hblk, r⟩
  have HO := Lib.hid hoth
  have HBK := Lib.hid hbk
  have HB1 := Lib.hid hb1
  clear hoth hbk hb1
  go_wp2_with (at_builtin; refine wpList_str rfl _ _ 22 9 rfl B 5 i0 Tryz.underlying22 Tryz.underlying9 hi hz0 hz1 hz2 _ _ _ rfl hown s rfl ?c3 ?c4 ?c5 ?_)
  case c3 => unfold maxLen; omega
  case c4 => omega
  case c5 => omega
  intro v' w2 hown' hgrow hwhere
  have hlt : R < w1.heap.size := (Array.getElem?_eq_some_iff.1 HBK.out).1
  have hb2 : w2.heap[R]? = some (.cells #[.pointer (some ⟨R, 0, none⟩), v] 52 (0, 0)) := by
    rw [hgrow.block R hlt (fun e => HH.out.ne e.symm)]
    exact HBK.out
  have d0 : w2.cell? ⟨R, 0, none⟩ = some (.pointer (some ⟨R, 0, none⟩)) := by rw [Lib.cell_of_heap hb2]; rfl
  have d1 : w2.cell? ⟨R, 1, none⟩ = some v := by rw [Lib.cell_of_heap hb2]; rfl
  have f1 : w2.frozen? ⟨R, 1, none⟩ = false := Lib.frozen_of_heap hb2 1
  obtain ⟨ao, n', cap, rfl⟩ : ∃ ao n' cap, v' = .slice ao n' cap := by
    rcases hown'.2 with ⟨hv, _⟩ | ⟨g, cap, cur, hv, _⟩
    · exact ⟨_, _, _, hv⟩
    · exact ⟨_, _, _, hv⟩
  have hne' : (Value.slice ao n' cap).ownBlock ≠ some R := fun e => by
    rcases hwhere R e with h | h
    · exact HH.out.ne h
    · omega
  have HX := Lib.hid (And.intro hown' (And.intro hgrow hwhere))
  have HB2 := Lib.hid hb2
  clear hown' hgrow hwhere hb2
  go_wp2
  go_ret2
  obtain ⟨ho, hg, hw⟩ := HX.out
  have hat := Lib.BuilderAt.put (T := 52) (e := 5) HH.out.le HB2.out (bs' := Lib.byteCells l ++ Lib.strCells s) (by rw [List.length_append, Lib.strCells_length, hlb]; exact ho) (by decide)
  obtain ⟨_, v3, hv3, ho3, hn3⟩ := hat
  have hs3 := heap_setCell_same w2 R 1 _ _ (Value.slice ao n' cap) HB2.out
  have e3 : v3 = .slice ao n' cap := by
    have := hv3.symm.trans hs3
    simp only [Option.some.injEq, Obj.cells.injEq] at this
    have h2 := this.1
    simpa using h2
  subst e3
  refine ⟨rfl, ?_, _, ⟨HH.out.le, ⟨_, Or.inr rfl, hv3⟩, ?_, hn3⟩, fun k hk hkR hkv => ?_, fun g hg' => ?_⟩
  · exact (HB1.out.grown hg (by have := HB1.out.size; omega) (fun k hk => (HH.out.own.lt k hk).1)).setCell (p := ⟨R, 1, none⟩) HH.out.le _
  · rw [Lib.byteCells_append, ← Lib.strCells_eq]; exact ho3
  · rw [heap_setCell_other w2 ⟨R, 1, none⟩ k _ hkR, hg.block k (by omega) (fun e => hkv e.symm), HO.out k hkR]
  · rcases hw g hg' with h | h
    · exact Or.inl h
    · exact Or.inr (by omega)
theorem bstr_any (B R : Nat) (v : Value) (l : List UInt8) (w : World) (h : Bu B R v l w) (hBw : B ≤ w.heap.size) :
    Calls Tryz.prog 35 #[.pointer (some ⟨R, 0, none⟩)] w fun e w' => e = .returned (.string ⟨l.toArray⟩) ∧ Below B w w' := Tryz.Builder_String_any B R l w h.is hBw
end Go.Proofs.YtjobmgbchpoheaaGreatDoor
namespace Go.Proofs.YtjobmgbchpoheaaGreatDoor
open Go Go.RowKit Go.Shelf
attribute [local go_sem] Oper.semAt_some

abbrev LM (w : World) (C : Nat → Prop) (l : List Tm) (v : Value) : Prop := DM w C (tmD l) v
abbrev NM (w : World) (C : Nat → Prop) (t : Tm) (v : Value) : Prop := TM w C t v
theorem ntM_mk {w : World} {C : Nat → Prop} {t : Tm} {tp : Option Addr} {tc : Nat} {rp : Option Addr} {rc : Nat} {p : Option Addr} {c : Nat} (h : TM' w C t tp tc rp rc p c) : NM w C t (tmV t tp tc rp rc p c) := ⟨_, _, _, _, _, _, rfl, h⟩

mutual
def walkM : Tm → Nat → List (Tm × Nat)
  | .mk k a b n t r ts, d => (.mk k a b n t r ts, d) :: walkSM ts (d + 1)
def walkSM : List Tm → Nat → List (Tm × Nat)
  | [], _ => []
  | t :: ts, d => walkM t d ++ walkSM ts d
end
theorem walkM_eq (t : Tm) (d : Nat) : walkM t d = (t, d) :: walkSM t.args (d + 1) := by cases t; rfl
theorem walkSM_one (t : Tm) (d : Nat) : walkSM [t] d = walkM t d := by simp [walkSM]
mutual
theorem walkM_length : ∀ (t : Tm) (d : Nat), (walkM t d).length = t.nodes
  | .mk k a b n t r ts, d => by simp only [walkM, List.length_cons, walkSM_length ts, Tm.nodes]; omega
theorem walkSM_length : ∀ (ts : List Tm) (d : Nat), (walkSM ts d).length = nodesM ts
  | [], d => by simp [walkSM, nodesM]
  | t :: ts, d => by simp only [walkSM, List.length_append, walkSM_length ts, walkM_length t, nodesM]
end
abbrev WaitM := List (List Tm × Value)
def rWM : WaitM → List (Tm × Nat)
  | [] => []
  | e :: r => walkSM e.1 (r.length + 1) ++ rWM r
def stWalkM (st : WaitM) : List (Tm × Nat) := rWM st.reverse
theorem stWalkM_snoc (st : WaitM) (e : List Tm × Value) : stWalkM (st ++ [e]) = walkSM e.1 (st.length + 1) ++ stWalkM st := by simp [stWalkM, rWM]
theorem stWalkM_nil : stWalkM [] = [] := rfl

theorem wsndM_last (st : WaitM) (e : List Tm × Value) : ((st ++ [e]).map (·.2))[st.length]? = some e.2 := by simp
theorem wsndM_take (st : WaitM) (e : List Tm × Value) : ((st ++ [e]).map (·.2)).take (st.length * 1) = st.map (·.2) := by simp
theorem wsndM_set (st : WaitM) (e : List Tm × Value) (l : List Tm) (u : Value) : ((st ++ [e]).map (·.2)).set st.length u = (st ++ [(l, u)]).map (·.2) := by
  simp

theorem infoLM : (Tryz.prog.info? 27).map (fun i => (i.zero, i.size, i.bytes)) = some (some (.slice none 0 0), 1, 24) := by kernel_rfl
structure MidM (W wr : World) (C : Nat → Prop) (t : Tm) (tp : Option Addr) (tc : Nat) (rp : Option Addr) (rc : Nat) (p : Option Addr) (c : Nat) (J : List (Tm × Nat) → World → Prop) (pre : List (Tm × Nat)) (st : WaitM) (g cap : Nat) : Prop where
  own : wr.ownsRow (W.heap.size + 1) 27 1 (.slice (some ⟨g, 0, none⟩) st.length cap) st.length (st.map (·.2))
  j : J pre wr
  ts : ∀ e ∈ st, LM W C e.1 e.2 ∨ e = ([t], .slice (some ⟨W.heap.size, 0, none⟩) 1 1)
  stays : Stays C W wr
  size : W.heap.size ≤ wr.heap.size
  root : wr.heap[W.heap.size]? = some (.cells (tmC t tp tc rp rc p c) 29 (0, 0))
  node : TM' W C t tp tc rp rc p c
  cnt : st.length ≤ pre.length + 1

theorem MidM.lt {W wr : World} {C : Nat → Prop} {t : Tm} {tp : Option Addr} {tc : Nat} {rp : Option Addr} {rc : Nat} {p : Option Addr} {c : Nat} {J : List (Tm × Nat) → World → Prop} {pre : List (Tm × Nat)} {st : WaitM} {g cap : Nat} (h : MidM W wr C t tp tc rp rc p c J pre st g cap) : W.heap.size < wr.heap.size := (Array.getElem?_eq_some_iff.1 h.root).1
theorem MidM.open {W wr : World} {C : Nat → Prop} {t : Tm} {tp : Option Addr} {tc : Nat} {rp : Option Addr} {rc : Nat} {p : Option Addr} {c : Nat} {J : List (Tm × Nat) → World → Prop} {pre : List (Tm × Nat)} {st : WaitM} {g cap : Nat} {x : Tm} {l : List Tm} {v : Value} (h : MidM W wr C t tp tc rp rc p c J pre (st ++ [(x :: l, v)]) g cap) :
    ∃ (b o c : Nat) (tp' : Option Addr) (tc' : Nat) (rp' : Option Addr) (rc' : Nat) (p' : Option Addr) (c' : Nat), v = .slice (some ⟨b, o, none⟩) (l.length + 1) c ∧ l.length + 1 ≤ c ∧ c ≤ 9223372036854775807 ∧ (C b ∨ b = W.heap.size) ∧ b < wr.heap.size ∧
      At9 wr b o x tp' tc' rp' rc' p' c' ∧ TM' W C x tp' tc' rp' rc' p' c' ∧ ∀ q, (l ≠ [] → q = some ⟨b, o + 9, none⟩) → LM W C l (.slice q l.length (c - 1)) := by
  rcases h.ts (x :: l, v) (by simp) with hT | he
  · simp only at hT
    obtain ⟨q0, d0, hv0⟩ := hT.form
    have hT0 := hT
    rw [hv0] at hT0
    obtain ⟨b', o', tp', tc', rp', rc', p', c', hq, hC', hb', h9, hx⟩ := tm_part hT0 0 (by simp)
    cases hT with
    | @rows _ _ _ b o c _ V h1 hc hm hl hC hb hv hr =>
      simp only [Value.slice.injEq] at hv0
      obtain ⟨e1, _, _⟩ := hv0
      have e2 := e1.trans hq
      simp only [Option.some.injEq, Addr.mk.injEq] at e2
      obtain ⟨rfl, rfl, _⟩ := e2
      have h9' := h9 wr h.stays
      rw [Nat.zero_mul, Nat.add_zero] at h9'
      refine ⟨b, o, c, tp', tc', rp', rc', p', c', rfl, hc, hm, Or.inl hC, Nat.lt_of_lt_of_le hb h.size, h9', hx, fun q hq => ?_⟩
      have hf : flatTm (x :: l) = x.ds ++ flatTm l := rfl
      have hsh : ∀ i, (flatTm (x :: l))[i + 9]? = (flatTm l)[i]? := fun i => by
        rw [hf, List.getElem?_append_right (by rw [x.ds_len]; omega), x.ds_len, Nat.add_sub_cancel]
      by_cases hl' : l = []
      · subst hl'; exact .nil _ _ _ _
      · rw [hq hl']
        have hl1 : 1 ≤ l.length := by cases l with | nil => exact absurd rfl hl' | cons => simp
        simp only [List.length_cons] at hc
        refine .rows (fun i => V (i + 9)) hl1 (by omega) (by omega) (flatTm_len l) hC hb (fun i d hi => ?_) (fun i d hi => hr (i + 9) d (by rw [hsh]; exact hi))
        have := hv (i + 9) d (by rw [hsh]; exact hi)
        rw [show o + (i + 9) = o + 9 + i by omega] at this; exact this
  · simp only [Prod.mk.injEq, List.cons.injEq] at he
    obtain ⟨⟨rfl, rfl⟩, rfl⟩ := he
    refine ⟨W.heap.size, 0, 1, tp, tc, rp, rc, p, c, rfl, by simp, by omega, Or.inr rfl, h.lt, ?_, h.node, fun q hq => ?_⟩
    · have hr := h.root
      exact ⟨cell_of_blk hr 0, cell_of_blk hr 1, cell_of_blk hr 2, cell_of_blk hr 3, cell_of_blk hr 4, cell_of_blk hr 5, cell_of_blk hr 6, cell_of_blk hr 7, cell_of_blk hr 8⟩
    · exact .nil _ _ _ _

theorem argsM_any (t : Tm) (tp : Option Addr) (tc : Nat) (rp : Option Addr) (rc : Nat) (p : Option Addr) (c : Nat) (w : World) : Calls Tryz.prog 30 #[tmV t tp tc rp rc p c] w fun e w' => e = .returned (.slice p t.args.length c) ∧ Below w.heap.size w w' := by
  go_enter Tryz.func30, Tryz.ntmps30
  go_wp2
  go_ret
  exact ⟨rfl, (Below.refl _ _).alloc (Nat.le_refl _) _⟩

set_option maxRecDepth 100000 in
set_option maxHeartbeats 4000000 in
theorem nodesM_it (l Bt Bp : Nat) (t : Tm) (tp : Option Addr) (tc : Nat) (rp : Option Addr) (rc : Nat) (p : Option Addr) (c : Nat) (Cb C : Nat → Prop) (W : World) (J Jx : List (Tm × Nat) → World → Prop)
    (hBt : W.heap[Bt]? = some (.cells (tmC t tp tc rp rc p c) 29 (0, 0))) (hBp : W.heap[Bp]? = some (.cells #[.func (.func 30) #[] #[]] 49 (0, 0))) (hT : TM' W C t tp tc rp rc p c) (hn : t.nodes ≤ 2097153)
    (hCb : ∀ b, Cb b → b < W.heap.size) (hC : ∀ b, C b → ¬ Cb b ∧ b < W.heap.size) (hCp : C Bp)
    (hJ : ∀ pre A B, J pre A → Below W.heap.size A B → J pre B)
    (hY : ∀ pre x v d W1, J pre W1 → pre ++ [(x, d)] <+: walkM t 1 → NM W1 C x v → YieldAt Fence.wide 0 Tryz.prog l #[v, .int .i64 (d : Nat)] W1 fun e W' =>
      (e = .returned (.bool true) ∧ J (pre ++ [(x, d)]) W' ∧ Holds Cb W1 W') ∨ (e = .returned (.bool false) ∧ Jx (pre ++ [(x, d)]) W'))
    (h0 : J [] W) :
    CallsIn Fence.wide 1 Tryz.prog 122 #[.func (.yield l) #[] #[], .pointer (some ⟨Bt, 0, none⟩), .pointer (some ⟨Bp, 0, none⟩)] W fun e W' =>
      (∃ v, e = .returned v) ∧ (J (walkM t 1) W' ∨ ∃ pre, pre <+: walkM t 1 ∧ Jx pre W') := by
  obtain ⟨i0, hi, hz0, hz1, hz2⟩ := info_parts infoLM
  have HT := Lib.hid hT
  have HY := Lib.hid hY
  have HJ := Lib.hid hJ
  have HJ0 := Lib.hid h0
  have HCb := Lib.hid hCb
  have HC := Lib.hid hC
  have HCP := Lib.hid hCp
  have HBP := Lib.hid hBp
  have HN := Lib.hid hn
  obtain ⟨k0, k1, k2, k3, k4, k5, k6, k7, k8⟩ := Bx9.of hBt
  have kp := cell_of_blk hBp 0
  simp only [List.getElem?_toArray, List.getElem?_cons_zero] at kp
  clear hT hY hJ h0 hCb hC hBt hBp hn
  refine callsIn_of_wp Tryz.func122 rfl trivial ?_ rfl
  simp only [Tryz.ntmps122, List.size_toArray, List.length_cons, List.length_nil, Nat.reduceAdd, Nat.reduceSub, Array.replicate_succ, Array.replicate_zero, List.push_toArray, List.append_toArray, List.nil_append, List.cons_append]
  gi_wp2_with fail
  gi_loopg [4] (2 * (walkM t 1).length + 1) (fun k v wr => ∃ (pre : List (Tm × Nat)) (st : WaitM) (g cap : Nat), v = .slice (some ⟨g, 0, none⟩) st.length cap ∧ k = 2 * (stWalkM st).length + st.length ∧ pre ++ stWalkM st = walkM t 1 ∧ MidM W wr C t tp tc rp rc p c J pre st g cap)
  case atStart =>
    refine ⟨[], [([t], .slice (some ⟨W.heap.size, 0, none⟩) 1 1)], W.heap.size + 1, 1, rfl, by simp [stWalkM, rWM, walkSM_one], by simp [stWalkM, rWM, walkSM_one], ?_⟩
    have hb : Below W.heap.size W ((W.alloc (.cells (tmC t tp tc rp rc p c) 29)).alloc (.cells #[.slice (some ⟨W.heap.size, 0, none⟩) 1 1] 27)) := ((Below.refl _ W).alloc (Nat.le_refl _) _).alloc (by simp) _
    refine ⟨?_, HJ.out _ _ _ HJ0.out hb, ?_, .of_below hb, hb.size, ?_, HT.out, by simp⟩
    · have h1 := World.ownsRow_lit (base := W.heap.size + 1) (e := 27) (size := 1) (W.alloc (.cells (tmC t tp tc rp rc p c) 29)) #[.slice (some ⟨W.heap.size, 0, none⟩) 1 1] 1 (by simp) (by unfold maxLen; omega) rfl
      rw [show (W.alloc (.cells (tmC t tp tc rp rc p c) 29)).heap.size = W.heap.size + 1 by simp] at h1
      exact h1
    · intro e he
      simp only [List.mem_singleton] at he
      exact Or.inr he
    · rw [Below.heap_alloc _ _ _ (by simp)]
      exact blk_new _ _
  case round =>
    rename World => wo
    obtain ⟨pre, st, g, cap, rfl, rfl, hord, hM⟩ := hrel
    rcases snoc_cases st with rfl | ⟨st0, ⟨ls, sl⟩, rfl⟩
    · have HM := Lib.hid hM
      have HO := Lib.hid hord
      clear hM hord
      gi_wp2
      go_end0
      have hp : pre = walkM t 1 := by have := HO.out; simpa [stWalkM, rWM] using this
      exact ⟨⟨_, rfl⟩, .inl (hp ▸ HM.out.j)⟩
    · have hlen : (st0 ++ [((ls, sl) : List Tm × Value)]).length = st0.length + 1 := by simp
      have hown := hM.own
      rw [hlen] at hown
      rw [hlen]
      obtain ⟨hcap1, hcap2, hg1, hg2⟩ := row_cap hown
      have k0 := (hown.cellAt st0.length (by omega)).trans (wsndM_last st0 _)
      have kz := hown.frozenAt st0.length
      simp only at k0
      unfold maxLen at hcap2
      have i0' : (0 : Int) ≤ (st0.length : Int) := Int.natCast_nonneg _
      have i1' : (st0.length : Int) < ((st0.length : Int) + 1) := by omega
      have hcnt : st0.length ≤ 2097153 := by
        have h1 := hM.cnt
        have h2 := congrArg List.length hord
        have h3 := HN.out
        rw [List.length_append, walkM_length] at h2
        rw [hlen] at h1
        omega
      cases ls with
      | nil =>
        have HM := Lib.hid hM
        have HO := Lib.hid hord
        have HOWN := Lib.hid hown
        obtain ⟨a, c0, hsl⟩ : ∃ a c, sl = .slice a 0 c := by
          rcases hM.ts ([], sl) (by simp) with h1 | h1
          · exact h1.form
          · simp at h1
        subst hsl
        clear hM hord hown
        gi_wp2_with fail
        go_roundg (2 * (stWalkM st0).length + st0.length)
        case rel =>
          have h1 := row_take HOWN.out (Nat.le_succ st0.length)
          rw [wsndM_take] at h1
          refine ⟨pre, st0, g, cap, rfl, rfl, by have := HO.out; rwa [stWalkM_snoc] at this, h1, HM.out.j, fun e he => HM.out.ts e (List.mem_append_left _ he), HM.out.stays, HM.out.size, HM.out.root, HM.out.node, ?_⟩
          have := HM.out.cnt
          rw [List.length_append] at this
          omega
        case measure =>
          rw [stWalkM_snoc, List.length_append, List.length_append]
          simp only [walkSM, List.length_nil, List.length_singleton]
          omega
      | cons x ls =>
        obtain ⟨b, o, c0, tp', tc', rp', rc', p', c', rfl, hlc, hc63, hbC, hbw, hcell, hnx, htail⟩ := hM.open
        have hbg : b ≠ g := by
          have h1 := hg1
          rcases hbC with h2 | h2
          · have := (HC.out b h2).2
            omega
          · omega
        obtain ⟨q, hq⟩ : ∃ q, (if c0 = 1 then some (⟨b, o, none⟩ : Addr) else some ⟨b, o + 9, none⟩) = q := ⟨_, rfl⟩
        have htl : LM W C ls (.slice q ls.length (c0 - 1)) := htail q (fun hne => by
          have h1 : 1 ≤ ls.length := by cases ls with | nil => exact absurd rfl hne | cons => simp
          rw [← hq, if_neg (by omega)])
        obtain ⟨hst, hgr⟩ := hown.stored st0.length (.slice q ls.length (c0 - 1))
        rw [wsndM_set st0 _ ls] at hst
        have hb1 : Below (W.heap.size + 1) wo (wo.setCell ⟨g, st0.length, none⟩ (.slice q ls.length (c0 - 1))) := (Below.refl _ wo).setCell (p := ⟨g, st0.length, none⟩) hg1 _
        have hcC : ∀ z, C z → z < W.heap.size := fun z hz => (HC.out z hz).2
        have hst1 : Stays C W (wo.setCell ⟨g, st0.length, none⟩ (.slice q ls.length (c0 - 1))) := hM.stays.trans ⟨hb1.size, fun z hz _ => hb1.block z (by have := hcC z hz; omega)⟩
        have hpre : pre ++ [(x, st0.length + 1)] <+: walkM t 1 := ⟨walkSM x.args (st0.length + 1 + 1) ++ (walkSM ls (st0.length + 1) ++ stWalkM st0), by rw [← hord, stWalkM_snoc]; simp only [walkSM, walkM_eq, List.cons_append, List.append_assoc, List.nil_append]⟩
        obtain ⟨fn, tmps, assign, body, hy, hR⟩ := HY.out pre x (tmV x tp' tc' rp' rc' p' c') (st0.length + 1) _ (HJ.out _ _ _ hM.j (hb1.mono (by omega))) hpre (ntM_mk (hnx.stays hst1))
        rw [show ((st0.length + 1 : Nat) : Int) = (st0.length : Int) + 1 from rfl] at hy
        have hroot : (wo.setCell ⟨g, st0.length, none⟩ (.slice q ls.length (c0 - 1))).heap[W.heap.size]? = some (.cells (tmC t tp tc rp rc p c) 29 (0, 0)) := (hb1.block _ (by omega)).trans hM.root
        have HM := Lib.hid hM
        have HO := Lib.hid hord
        have HST := Lib.hid hst
        have HB1 := Lib.hid hb1
        have HST1 := Lib.hid hst1
        have HPRE := Lib.hid hpre
        have HR := Lib.hid hR
        have HTL := Lib.hid htl
        have HNX := Lib.hid hnx
        have HBC := Lib.hid hbC
        have HROOT := Lib.hid hroot
        have HQ := Lib.hid hlc
        obtain ⟨f0, f1, f2, f3, f4, f5, f6, f7, f8⟩ := hcell
        have hl1 : (1 : Int) ≤ ((ls.length : Int) + 1) := by omega
        clear hM hord hown hst hgr hb1 hst1 hpre hR htl htail hnx hbC hcC hroot
        gi_wp2_with fail
        refine HR.out.mono ?_
        rintro e W3 (⟨rfl, hJ3, hH3⟩ | ⟨rfl, hJx3⟩)
        · have hbnC : ¬ Cb b := by
            rcases HBC.out with h1 | h1
            · exact (HC.out b h1).1
            · intro hc; have := HCb.out b hc; omega
          have hgnC : ¬ Cb g := fun hc => by have := HCb.out g hc; omega
          have hs1 := HB1.out.size
          have hb3 : W3.heap[b]? = wo.heap[b]? := (hH3.2 b (by omega) hbnC).trans (Below.heap_setCell _ _ _ _ hbg)
          have hp3 : W3.heap[Bp]? = W.heap[Bp]? := by
            have h1 := HC.out Bp hCp
            have h2 := HM.out.size
            rw [hH3.2 Bp (by omega) h1.1]
            exact HST1.out.2 Bp hCp h1.2
          have hown3 := row_of_block HST.out (hH3.2 g (by omega) hgnC)
          have hr3 : W3.heap[W.heap.size]? = some (.cells (tmC t tp tc rp rc p c) 29 (0, 0)) := by
            rw [hH3.2 W.heap.size (by have := HM.out.lt; omega) (fun hc => by have := HCb.out _ hc; omega)]
            exact HROOT.out
          have hlen3 : (st0 ++ [(ls, Value.slice q ls.length (c0 - 1))]).length = st0.length + 1 := by simp
          have hM3 : MidM W W3 C t tp tc rp rc p c J (pre ++ [(x, st0.length + 1)]) (st0 ++ [(ls, .slice q ls.length (c0 - 1))]) g cap := by
            refine ⟨?_, hJ3, fun e he => ?_, HST1.out.trans ⟨hH3.1, fun z hz hl => hH3.2 z hl (HC.out z hz).1⟩, ?_, hr3, HM.out.node, ?_⟩
            · rw [hlen3]; exact hown3
            · rcases List.mem_append.1 he with he | he
              · exact HM.out.ts e (List.mem_append_left _ he)
              · simp only [List.mem_singleton] at he
                subst he
                exact Or.inl HTL.out
            · have := hH3.1
              have := HM.out.size
              omega
            · have := HM.out.cnt
              rw [hlen] at this
              rw [hlen3, List.length_append, List.length_singleton]
              omega
          have g0 := (World.cell?_of_block (a := ⟨b, o, none⟩) hb3).trans f0
          have g1 := (World.cell?_of_block (a := ⟨b, o + 1, none⟩) hb3).trans f1
          have g2 := (World.cell?_of_block (a := ⟨b, o + 2, none⟩) hb3).trans f2
          have g3 := (World.cell?_of_block (a := ⟨b, o + 3, none⟩) hb3).trans f3
          have g4 := (World.cell?_of_block (a := ⟨b, o + 4, none⟩) hb3).trans f4
          have g5 := (World.cell?_of_block (a := ⟨b, o + 5, none⟩) hb3).trans f5
          have g6 := (World.cell?_of_block (a := ⟨b, o + 6, none⟩) hb3).trans f6
          have g7 := (World.cell?_of_block (a := ⟨b, o + 7, none⟩) hb3).trans f7
          have g8 := (World.cell?_of_block (a := ⟨b, o + 8, none⟩) hb3).trans f8
          have kp3 := cell_of_blk (hp3.trans HBP.out) 0
          simp only [List.getElem?_toArray, List.getElem?_cons_zero] at kp3
          have HM3 := Lib.hid hM3
          have HOWN3 := Lib.hid hown3
          have hsz3 := hM3.lt
          clear hJ3 hH3 hown3 hM3 hy HR k0 kz hb3 hp3 hr3 hbnC hgnC f0 f1 f2 f3 f4 f5 f6 f7 f8 HB1 HST1 HST
          gi_wp2_with fail
          refine wpIn_wide.2 ?_
          go_region_law (first
            | (refine step_app1 (w0 := w1) (base := W.heap.size + 1) (v := .slice (some ⟨g, 0, none⟩) (st0.length + 1) cap) (n := st0.length + 1) (xs := (st0 ++ [(ls, Value.slice q ls.length (c0 - 1))]).map (·.2)) (cs := [.slice p' x.args.length c']) rfl (.tmp 40) (.tmp 46) rfl Tryz.underlying135 hi hz0 hz1 hz2 rfl (by decide) rfl (row_below HOWN3.out ((Below.refl W3.heap.size W3).drew.trans hb1)) _ rfl (by simp) rfl (fun u hu => by simp at hu; subst hu; rfl) (by unfold maxLen; omega) (by omega) (by have := hb1.size; simp at this; omega) ?_; intro w' g2 cap2 hA)
            | (go_simp; go_at_call 30; refine (argsM_any _ _ _ _ _ _ _ _).mono ?_; rintro e w1 ⟨rfl, hb1⟩))
          all_goals
            have HA := Lib.hid hA
            have HB := Lib.hid hb1
            clear hA hb1
            gi_wp2_with fail
            go_roundg (2 * (stWalkM ((st0 ++ [(ls, Value.slice q ls.length (c0 - 1))]) ++ [(x.args, .slice p' x.args.length c')])).length + (st0.length + 2))
            case rel =>
              have hb3 : Below W3.heap.size W3 w1 := (Below.refl W3.heap.size W3).drew.trans HB.out
              have hlen3 : (st0 ++ [(ls, Value.slice q ls.length (c0 - 1))]).length = st0.length + 1 := by simp
              have hg3 := (row_cap HOWN3.out).2.2
              have hs3 := hb3.size
              have hbw : Below (W.heap.size + 1) W3 w' := (hb3.mono (by omega)).trans HA.out.below
              refine ⟨pre ++ [(x, st0.length + 1)], (st0 ++ [(ls, .slice q ls.length (c0 - 1))]) ++ [(x.args, .slice p' x.args.length c')], g2, cap2, by rw [List.length_append, hlen3]; rfl, by rw [List.length_append, hlen3]; rfl, ?_, ?_⟩
              · rw [stWalkM_snoc, hlen3, stWalkM_snoc, ← HO.out, stWalkM_snoc]
                simp only [walkSM, walkM_eq, List.cons_append, List.append_assoc, List.nil_append]
              · refine ⟨?_, HJ.out _ _ _ HM3.out.j (hbw.mono (by omega)), fun e he => ?_, HM3.out.stays.trans ⟨hbw.size, fun z hz _ => hbw.block z (by have := (HC.out z hz).2; omega)⟩, by have := hbw.size; have := HM3.out.size; omega, (hbw.block _ (by omega)).trans HM3.out.root, HM3.out.node, ?_⟩
                · rw [List.map_append, List.length_append, hlen3]
                  exact HA.out.own
                · rcases List.mem_append.1 he with he | he
                  · exact HM3.out.ts e he
                  · simp only [List.mem_singleton] at he
                    subst he
                    exact Or.inl (TM'.args HNX.out)
                · have := HM.out.cnt
                  rw [hlen] at this
                  simp only [List.length_append, List.length_cons, List.length_nil]
                  omega
            case measure =>
              have h1 := HO.out
              simp only [stWalkM_snoc, walkSM, walkM_eq, List.length_append, List.length_cons, List.length_nil, Nat.zero_add]
              omega
        · gi_wp2_with fail
          refine bodyPost_ret (results_none rfl _ _ _) rfl ?_
          exact ⟨⟨_, rfl⟩, .inr ⟨pre ++ [(x, st0.length + 1)], HPRE.out, hJx3⟩⟩
end Go.Proofs.YtjobmgbchpoheaaGreatDoor
