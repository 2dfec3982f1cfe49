/-
  Several texts of the proof in one (each says below what it holds): ParI TypI SizesT.
-/
import Derived.Test.YtjobmgbchpoheaaGreatDoorPB6
import Derived.Test.YtjobmgbchpoheaaGreatDoorPB18
import Derived.Test.YtjobmgbchpoheaaGreatDoorPB4
namespace Go.Proofs.YtjobmgbchpoheaaGreatDoor
open Go Go.RowKit

abbrev fAcc (B : Nat) : Value := .func (.func 143) #[] #[.pointer (some ⟨B + 2, 0, none⟩), .pointer (some ⟨B, 0, none⟩)]
abbrev fTyp (B : Nat) : Value := .func (.func 145) #[] #[.pointer (some ⟨B + 3, 0, none⟩), .pointer (some ⟨B + 5, 0, none⟩)]
abbrev fPar (B : Nat) : Value := .func (.func 144) #[] #[.pointer (some ⟨B + 4, 0, none⟩), .pointer (some ⟨B + 3, 0, none⟩)]
structure Cl (B : Nat) (s : ByteArray) (i : Nat) (W : World) : Prop where
  bs : W.heap[B]? = some (.cells #[.string s] 9 (0, 0))
  ba : W.heap[B + 2]? = some (.cells #[.int .i64 i] 3 (0, 0))
  bf : W.heap[B + 3]? = some (.cells #[fAcc B] 164 (0, 0))
  bt : W.heap[B + 4]? = some (.cells #[fTyp B] 165 (0, 0))
  bp : W.heap[B + 5]? = some (.cells #[fPar B] 167 (0, 0))
namespace Cl
variable {B i : Nat} {s : ByteArray} {W W' : World}
theorem lt (h : Cl B s i W) : B + 5 < W.heap.size := (Array.getElem?_eq_some_iff.1 h.bp).1
theorem cells (h : Cl B s i W) : W.cell? ⟨B, 0, none⟩ = some (.string s) ∧ W.cell? ⟨B + 2, 0, none⟩ = some (.int .i64 i) ∧ W.cell? ⟨B + 3, 0, none⟩ = some (fAcc B) ∧ W.cell? ⟨B + 4, 0, none⟩ = some (fTyp B) ∧ W.cell? ⟨B + 5, 0, none⟩ = some (fPar B) ∧ W.frozen? ⟨B + 2, 0, none⟩ = false :=
  ⟨cell_of_blk h.bs 0, cell_of_blk h.ba 0, cell_of_blk h.bf 0, cell_of_blk h.bt 0, cell_of_blk h.bp 0, unfrozen_of_blk h.ba 0⟩
theorem belowAt {D : Nat} (h : Cl B s i W) (hD : B + 6 ≤ D) (hb : Below D W W') : Cl B s i W' :=
  ⟨(hb.block _ (by omega)).trans h.bs, (hb.block _ (by omega)).trans h.ba, (hb.block _ (by omega)).trans h.bf, (hb.block _ (by omega)).trans h.bt, (hb.block _ (by omega)).trans h.bp⟩
theorem below (h : Cl B s i W) (hb : Below W.heap.size W W') : Cl B s i W' := h.belowAt (by have := h.lt; omega) hb
theorem move (h : Cl B s i W) (j : Nat) : Cl B s j (W.setCell ⟨B + 2, 0, none⟩ (.int .i64 j)) ∧ W.grownBy (W.setCell ⟨B + 2, 0, none⟩ (.int .i64 j)) (some (B + 2)) := by
  have k : ∀ b, b ≠ B + 2 → (W.setCell ⟨B + 2, 0, none⟩ (.int .i64 j)).heap[b]? = W.heap[b]? := fun b hb => heap_setCell_other W ⟨B + 2, 0, none⟩ b _ hb
  exact ⟨⟨(k _ (by omega)).trans h.bs, heap_setCell_same W (B + 2) 0 _ _ _ h.ba, (k _ (by omega)).trans h.bf, (k _ (by omega)).trans h.bt, (k _ (by omega)).trans h.bp⟩,
    ⟨rfl, rfl, rfl, by simp, fun b _ hb => k b (fun e => hb (by simp [e]))⟩⟩
end Cl
def AccRet (B : Nat) (s : ByteArray) (i : Nat) (c : UInt8) (w : World) (e : Ending) (w' : World) : Prop :=
  (bt s i = some c ∧ e = .returned (.bool true) ∧ Cl B s (i + 1) w' ∧ w.grownBy w' (some (B + 2))) ∨ (¬ bt s i = some c ∧ e = .returned (.bool false) ∧ Cl B s i w' ∧ w.grownBy w' (some (B + 2)))

set_option maxRecDepth 100000 in
set_option maxHeartbeats 1000000 in
theorem acc_any (B : Nat) (s : ByteArray) (i : Nat) (n : Int) (c : UInt8) (hn : n = c.toNat) (w : World) (hs : s.size ≤ 1073741824) (hi : i ≤ s.size) (h : Cl B s i w) :
    Calls Tryz.prog 143 #[.int .u8 n, .pointer (some ⟨B + 2, 0, none⟩), .pointer (some ⟨B, 0, none⟩)] w (AccRet B s i c w) := by
  obtain ⟨c0, c1, _, _, _, z1⟩ := h.cells
  have HC := Lib.hid h
  clear h
  by_cases hlt : i < s.size
  · have i0 : (0 : Int) ≤ (i : Int) := by omega
    have i1 : (i : Int) < (s.size : Int) := by omega
    have HA := Lib.hid (at_byte hlt)
    by_cases hc : s[i] = c
    · have he : ((s[i].toNat : Int) == n) = true := by rw [hn, hc]; simp
      have HH := Lib.hid hc
      clear hc hn
      go_enter Tryz.func143, Tryz.ntmps143
      go_wp2_with fail
      go_ret
      refine Or.inl ⟨by rw [← HH.out]; exact HA.out, rfl, ?_⟩
      rw [show ((i : Int) + 1) = ((i + 1 : Nat) : Int) by omega]
      exact HC.out.move (i + 1)
    · have he : ((s[i].toNat : Int) == n) = false := by
        rw [beq_eq_false_iff_ne, hn]
        exact fun e => hc (UInt8.toNat_inj.1 (by omega))
      have HH := Lib.hid hc
      clear hc hn
      go_enter Tryz.func143, Tryz.ntmps143
      go_wp2_with fail
      go_ret
      exact Or.inr ⟨fun e => HH.out (Option.some.inj (HA.out.symm.trans e)), rfl, HC.out, grown_refl _ _⟩
  · have i1 : (s.size : Int) ≤ (i : Int) := by omega
    clear hn
    go_enter Tryz.func143, Tryz.ntmps143
    go_wp2_with fail
    go_ret
    exact Or.inr ⟨fun e => (by rw [bt, at_none hlt] at e; cases e), rfl, HC.out, grown_refl _ _⟩
end Go.Proofs.YtjobmgbchpoheaaGreatDoor
namespace Go.Proofs.YtjobmgbchpoheaaGreatDoor
open Go Go.RowKit
def AtRet (B : Nat) (s : ByteArray) (k i : Nat) (w : World) (e : Ending) (w' : World) : Prop :=
  w.grownBy w' (some (B + 2)) ∧ ∃ (t : Ty) (p : Option Addr) (c : Nat),
    ((∃ j, pty s.data.toList k i = some (t, j) ∧ e = .returned (.tuple #[.agg #[.int .i64 t.kind, .slice p t.args.length c], .bool true]) ∧ OS w' t.args (.slice p t.args.length c) (fun z => w.heap.size ≤ z ∧ z < w'.heap.size) ∧ Cl B s j w') ∨
     (pty s.data.toList k i = none ∧ e = .returned (.tuple #[.agg #[.int .i64 t.kind, .slice p t.args.length c], .bool false]) ∧ (t.args = [] ∧ p = none ∧ c = 0) ∧ ∃ j, j ≤ s.size ∧ Cl B s j w'))
def ParRet (B : Nat) (s : ByteArray) (k i : Nat) (es : List UInt8) (w : World) (e : Ending) (w' : World) : Prop :=
  w.grownBy w' (some (B + 2)) ∧ ∃ v,
    ((∃ ts j, ptys (pty s.data.toList k) s.data.toList es i = some (ts, j) ∧ e = .returned (.tuple #[v, .bool true]) ∧ OS w' ts v (fun z => w.heap.size ≤ z ∧ z < w'.heap.size) ∧ Cl B s j w') ∨
     (ptys (pty s.data.toList k) s.data.toList es i = none ∧ v = .slice none 0 0 ∧ e = .returned (.tuple #[v, .bool false]) ∧ ∃ j, j ≤ s.size ∧ Cl B s j w'))
structure Par (B : Nat) (s : ByteArray) (k i : Nat) (es : List UInt8) (w : World) (j : Nat) (v : Value) (wr : World) : Prop where
  mk ::
  n : ∃ (ts : List Ty) (n : Nat), n ≤ s.size ∧ ts.length = j ∧ ptys (pty s.data.toList k) s.data.toList (es.take j) i = some (ts, n) ∧ OS wr ts v (fun z => w.heap.size ≤ z ∧ z < wr.heap.size) ∧ Cl B s n wr
  g : w.grownBy wr (some (B + 2))

theorem OS.grown {w w' : World} {R : Nat} {F : Nat → Prop} {ts : List Ty} {v : Value} (h : OS w ts v F) (hg : w.grownBy w' (some R)) (hF : ∀ z, F z → z ≠ R) : OS w' ts v F := h.stays (stays_grown hg hF)
theorem Bx.drew {w : World} {b : Nat} {k : Int} {s : Value} (h : Bx w b k s) : Bx w.drew b k s := h
theorem par_none {s : ByteArray} {k i j n : Nat} {es : List UInt8} {ts : List Ty} (h : ptys (pty s.data.toList k) s.data.toList (es.take j) i = some (ts, n)) (hj : j < es.length)
    (ho : pty s.data.toList k n = none ∨ ∃ t m, pty s.data.toList k n = some (t, m) ∧ ¬ s.data.toList[m]? = some es[j]) : ptys (pty s.data.toList k) s.data.toList es i = none := by
  refine ptys_none (j := j + 1) ?_
  rw [List.take_add_one, List.getElem?_eq_getElem hj]
  show ptys _ _ (es.take j ++ [es[j]]) i = none
  rw [ptys_snoc h]
  rcases ho with ho | ⟨t, m, ho, hc⟩
  · rw [ho]
  · rw [ho]; dsimp only; rw [if_neg hc]
theorem par_next {s : ByteArray} {k i j n m : Nat} {es : List UInt8} {ts : List Ty} {t : Ty} (h : ptys (pty s.data.toList k) s.data.toList (es.take j) i = some (ts, n)) (hj : j < es.length)
    (ho : pty s.data.toList k n = some (t, m)) (hc : s.data.toList[m]? = some es[j]) : ptys (pty s.data.toList k) s.data.toList (es.take (j + 1)) i = some (ts ++ [t], m + 1) := by
  rw [List.take_add_one, List.getElem?_eq_getElem hj]
  show ptys _ _ (es.take j ++ [es[j]]) i = _
  rw [ptys_snoc h, ho]
  dsimp only
  rw [if_pos hc]

theorem Cl.drewN {B i : Nat} {s : ByteArray} {W : World} (h : Cl B s i W) (n : Nat) : Cl B s i (W.drewN n) := ⟨h.bs, h.ba, h.bf, h.bt, h.bp⟩
theorem grown_drew {w W : World} {r : Option Nat} (h : w.grownBy W r) : w.grownBy W.drew r := ⟨h.os, h.tape, h.output, h.size, h.block⟩
theorem grown_more {w w1 w2 : World} {r : Option Nat} {D : Nat} (h : w.grownBy w1 r) (hD : w.heap.size ≤ D) (hb : Below D w1 w2) : w.grownBy w2 r :=
  ⟨hb.os.trans h.os, hb.tape.trans h.tape, hb.output.trans h.output, Nat.le_trans h.size hb.size, fun k hk hne => (hb.block k (by omega)).trans (h.block k hk hne)⟩
theorem par_fail {B : Nat} {s : ByteArray} {k i m : Nat} {es : List UInt8} {w W : World} (hg : w.grownBy W (some (B + 2))) (hp : ptys (pty s.data.toList k) s.data.toList es i = none) (hm : m ≤ s.size) (hc : Cl B s m W) :
    ParRet B s k i es w (.returned (.tuple #[.slice none 0 0, .bool false])) W := ⟨hg, _, Or.inr ⟨hp, rfl, rfl, m, hm, hc⟩⟩
theorem acc_yes (B : Nat) (s : ByteArray) (i : Nat) (n : Int) (c : UInt8) (hn : n = c.toNat) (w : World) (hs : s.size ≤ 1073741824) (hi : i ≤ s.size) (h : Cl B s i w) (hc : bt s i = some c) :
    Calls Tryz.prog 143 #[.int .u8 n, .pointer (some ⟨B + 2, 0, none⟩), .pointer (some ⟨B, 0, none⟩)] w fun e w' => e = .returned (.bool true) ∧ Cl B s (i + 1) w' ∧ w.grownBy w' (some (B + 2)) := by
  refine (acc_any B s i n c hn w hs hi h).mono ?_
  rintro e w' (⟨h1, h2⟩ | ⟨h1, _⟩)
  · exact h2
  · exact absurd hc h1
theorem acc_no (B : Nat) (s : ByteArray) (i : Nat) (n : Int) (c : UInt8) (hn : n = c.toNat) (w : World) (hs : s.size ≤ 1073741824) (hi : i ≤ s.size) (h : Cl B s i w) (hc : ¬ bt s i = some c) :
    Calls Tryz.prog 143 #[.int .u8 n, .pointer (some ⟨B + 2, 0, none⟩), .pointer (some ⟨B, 0, none⟩)] w fun e w' => e = .returned (.bool false) ∧ Cl B s i w' ∧ w.grownBy w' (some (B + 2)) := by
  refine (acc_any B s i n c hn w hs hi h).mono ?_
  rintro e w' (⟨h1, _⟩ | ⟨h1, h2⟩)
  · exact absurd h1 hc
  · exact h2
theorem byte_list {es : ByteArray} {j : Nat} (h' : j < es.data.toList.length) : es.data.toList[j] = es[j]'(by simpa using h') := by rw [Array.getElem_toList]; rfl

set_option maxRecDepth 100000 in
set_option maxHeartbeats 2000000 in
theorem par_step (B : Nat) (s : ByteArray) (k : Nat) (D : Int) (hs : s.size ≤ 1073741824)
    (IH : ∀ (i : Nat) (W : World), i ≤ s.size → Cl B s i W → Calls Tryz.prog 145 #[.int .i64 D, .pointer (some ⟨B + 3, 0, none⟩), .pointer (some ⟨B + 5, 0, none⟩)] W (AtRet B s k i W))
    (es : ByteArray) (he : es.size ≤ 2) (i : Nat) (w : World) (hi : i ≤ s.size) (h : Cl B s i w) :
    Calls Tryz.prog 144 #[.string es, .int .i64 D, .pointer (some ⟨B + 4, 0, none⟩), .pointer (some ⟨B + 3, 0, none⟩)] w (ParRet B s k i es.data.toList w) := by
  obtain ⟨i0, hi0, hz0, hz1, hz2⟩ := info_parts infoTy
  have hBw := h.lt
  have HC := Lib.hid h
  have HI := Lib.hid IH
  clear h IH
  go_enter Tryz.func144, Tryz.ntmps144
  go_wp2_with fail
  go_loopw [8, 14] (fun v c wr => ∃ j : Nat, j ≤ es.size ∧ c = .int .i64 j ∧ Par B s k i es.data.toList w j v wr) (fun _ c _ => es.size - (intOf c).toNat)
  case atStart => exact ⟨0, Nat.zero_le _, rfl, ⟨[], i, hi, rfl, by rw [List.take_zero]; rfl, .none _, HC.out⟩, grown_refl _ _⟩
  case round =>
    obtain ⟨j, hj, rfl, ⟨ts, n, hn, htl, hp, hos, hcl⟩, hg⟩ := hrel
    have HP := Lib.hid hp
    have HO := Lib.hid hos
    have HCL := Lib.hid hcl
    have HG := Lib.hid hg
    have HTL := Lib.hid htl
    obtain ⟨_, c1, c2, c3, _, _⟩ := hcl.cells
    have hsz := hg.size
    clear hp hos hcl hg htl
    by_cases hlt : j < es.size
    · have jl : j < es.data.toList.length := by simpa using hlt
      have j0 : (0 : Int) ≤ (j : Int) := by omega
      have j1 : (j : Int) < (es.size : Int) := by omega
      go_wp2_with fail
      refine (HI.out n wr hn HCL.out).mono ?_
      rintro e w1 ⟨hg1, t1, p1, q1, ho1⟩
      have hba := (alloc_below w1 (.cells #[.int .i64 t1.kind, .slice p1 t1.args.length q1] 26)).drew
      have hsz1 := hg1.size
      clear c1
      rcases ho1 with ⟨m, hp1, rfl, hos1, hcl1⟩ | ⟨hp1, rfl, -, m, hm, hcl1⟩
      · have hm : m ≤ s.size := by have := (pty_good _ _ _ _ _ hp1).le; simpa using this
        have hbl := byte_list jl
        have HD := Lib.hid (hcl1.below hba)
        have HP1 := Lib.hid hp1
        have HOS1 := Lib.hid hos1
        have HG1 := Lib.hid (grownBy_trans HG.out hg1)
        have HBA := Lib.hid hba
        obtain ⟨_, _, c4, _, _, _⟩ := HD.out.cells
        have HX := Lib.hid ((Bx.new w1 t1.kind (.slice p1 t1.args.length q1) 26).drew)
        have HO1 := Lib.hid (HO.out.grown hg1 (fun z hz => by omega))
        have HBL := Lib.hid hbl
        clear hg1 hp1 hos1 hcl1 hba hbl c2 c3
        by_cases hc : bt s m = some es[j]
        · have HY := Lib.hid (acc_yes B s m (es[j].toNat : Int) es[j] rfl _ hs hm HD.out hc)
          have HCC := Lib.hid hc
          clear hc
          go_wp2_with fail
          go_region_held3 (fun w' => w'.cell? ⟨B + 3, 0, none⟩ = some (fAcc B))
            (first
              | (go_keep; done)
              | exact c4
              | exact hcl2.cells.2.2.1)
            (first
              | (go_at_call 143; refine HY.out.mono ?_; rintro e w2 ⟨rfl, hcl2, hg2⟩))
          have hne : B + 2 ≠ w1.heap.size := by omega
          obtain ⟨x0, x1⟩ := HX.out.grown hg2 hne
          have hz2' := hg2.size
          have hz3 := HBA.out.size
          have hos2 := (HO1.out.keep HBA.out).grown hg2 (fun z hz => by omega)
          have hop2 := (HOS1.out.keep HBA.out).grown hg2 (fun z hz => by omega)
          obtain ⟨xs, hown, hnext⟩ := os_grow (base := w.heap.size) (x := t1) hos2 hop2 (fun z hz => ⟨hz.1, by omega⟩) (fun z hz => by omega)
          have HW := Lib.hid hown
          have HN := Lib.hid hnext
          have HC2 := Lib.hid hcl2
          have HG2 := Lib.hid (grownBy_trans (grown_drew (grownBy_trans HG1.out (World.grownBy_alloc w1 (.cells #[.int .i64 t1.kind, .slice p1 t1.args.length q1] 26) _))) hg2)
          have htl : ts.length = j := HTL.out
          have htb : ts.length ≤ 2 := by omega
          clear hown hnext hcl2 hg2 hos2 hop2 hz2' hz3 htl
          go_wp2_with (at_builtin; refine wpList_app1 (w0 := w2) rfl _ _ rfl Tryz.underlying24 hi0 hz0 hz1 hz2 rfl (by decide) rfl HW.out _ rfl (by simp) rfl ?n1 (by unfold maxLen; omega) (by omega) (by have := HG2.out.size; omega) ?_)
          case n1 => intro u hu; simp at hu; rcases hu with rfl | rfl <;> rfl
          intro w3 g2 cap2 hA
          have HA := Lib.hid hA
          clear hA
          go_wp2_with fail
          go_roundw
          case rel => exact ⟨j + 1, by omega, by go_num, ⟨ts ++ [t1], m + 1, bt_lt HCC.out, by rw [List.length_append, HTL.out]; rfl, par_next HP.out jl HP1.out (by rw [HBL.out]; exact HCC.out), HN.out w3 g2 cap2 HA.out, HC2.out.belowAt (by omega) HA.out.below⟩, grown_more HG2.out (Nat.le_refl _) HA.out.below⟩
          case measure => simp [intOf]; omega
        · have HY := Lib.hid (acc_no B s m (es[j].toNat : Int) es[j] rfl _ hs hm HD.out hc)
          have HCC := Lib.hid hc
          clear hc
          go_wp2_with fail
          go_region_held3 (fun w' => w'.cell? ⟨B + 3, 0, none⟩ = some (fAcc B))
            (first
              | (go_keep; done)
              | exact c4
              | exact hcl2.cells.2.2.1)
            (first
              | (go_at_call 143; refine HY.out.mono ?_; rintro e w2 ⟨rfl, hcl2, hg2⟩))
          have HC2 := Lib.hid hcl2
          have HG2 := Lib.hid (grownBy_trans (grown_drew (grownBy_trans HG1.out (World.grownBy_alloc w1 (.cells #[.int .i64 t1.kind, .slice p1 t1.args.length q1] 26) _))) hg2)
          clear hcl2 hg2
          go_wp2_with fail
          go_ret2
          exact par_fail HG2.out (par_none HP.out jl (Or.inr ⟨t1, m, HP1.out, by rw [HBL.out]; exact HCC.out⟩)) hm HC2.out
      · have HD := Lib.hid (hcl1.below (alloc_below w1 (.cells #[.int .i64 t1.kind, .slice p1 t1.args.length q1] 26)))
        have HP1 := Lib.hid hp1
        have HG1 := Lib.hid (grownBy_trans HG.out hg1)
        clear hg1 hp1 hcl1 hba c2 c3
        go_wp2_with fail
        go_quiet (fail)
        go_wp2_with fail
        go_ret2
        exact par_fail (grownBy_drewN (grownBy_trans HG1.out (World.grownBy_alloc _ _ _)) _) (par_none HP.out jl (Or.inl HP1.out)) hm (HD.out.drewN _)
    · obtain rfl : j = es.size := by omega
      have hall : es.data.toList.take es.size = es.data.toList := List.take_of_length_le (by simp)
      have HA := Lib.hid hall
      clear hall c1 c2 c3
      go_wp2_with fail
      go_ret2
      refine ⟨HG.out, _, Or.inl ⟨ts, n, ?_, rfl, HO.out, HCL.out⟩⟩
      have := HP.out
      rwa [HA.out] at this
end Go.Proofs.YtjobmgbchpoheaaGreatDoor
namespace Go.Proofs.YtjobmgbchpoheaaGreatDoor
open Go Go.RowKit
structure TI (w : World) (B : Nat) (s : ByteArray) (i : Nat) (W : World) : Prop where
  cl : Cl B s i W
  grown : w.grownBy W (some (B + 2))
  r : W.heap[w.heap.size]? = some (.cells #[.int .i64 0, .slice none 0 0] 26 (0, 0))
  hB : B + 5 < w.heap.size
section
variable {w W W' : World} {B i j k : Nat} {s : ByteArray}
theorem TI.lt (h : TI w B s i W) : w.heap.size < W.heap.size := (Array.getElem?_eq_some_iff.1 h.r).1
theorem TI.step (h : TI w B s i W) (hc : Cl B s j W') (hg : W.grownBy W' (some (B + 2))) : TI w B s j W' :=
  ⟨hc, grownBy_trans h.grown hg, (hg.block _ h.lt (fun e => by have := Option.some.inj e; have := h.hB; omega)).trans h.r, h.hB⟩
theorem TI.start (h : Cl B s i w) : TI w B s i (w.alloc (.cells #[.int .i64 0, .slice none 0 0] 26)) :=
  ⟨h.below (alloc_below _ _), World.grownBy_alloc _ _ _, blk_new w _, h.lt⟩
theorem TI.facts (h : TI w B s i W) : (W.cell? ⟨w.heap.size, 0, none⟩ = some (.int .i64 0) ∧ W.cell? ⟨w.heap.size, 1, none⟩ = some (.slice none 0 0) ∧ ∀ j, W.frozen? ⟨w.heap.size, j, none⟩ = false) ∧ W.cell? ⟨B + 3, 0, none⟩ = some (fAcc B) ∧ W.cell? ⟨B + 5, 0, none⟩ = some (fPar B) :=
  ⟨⟨cell_of_blk h.r 0, cell_of_blk h.r 1, unfrozen_of_blk h.r⟩, cell_of_blk h.cl.bf 0, cell_of_blk h.cl.bp 0⟩
theorem at_end (h : TI w B s j W) (q : Int) (v : Value) :
    w.grownBy ((W.setCell ⟨w.heap.size, 0, none⟩ (.int .i64 q)).setCell ⟨w.heap.size, 1, none⟩ v) (some (B + 2)) ∧ Cl B s j ((W.setCell ⟨w.heap.size, 0, none⟩ (.int .i64 q)).setCell ⟨w.heap.size, 1, none⟩ v) := by
  have hbl : Below w.heap.size W ((W.setCell ⟨w.heap.size, 0, none⟩ (.int .i64 q)).setCell ⟨w.heap.size, 1, none⟩ v) := ((Below.refl _ W).setCell (p := ⟨w.heap.size, 0, none⟩) (Nat.le_refl _) _).setCell (p := ⟨w.heap.size, 1, none⟩) (Nat.le_refl _) _
  exact ⟨grown_more h.grown (Nat.le_refl _) hbl, h.cl.belowAt (by have := h.hB; omega) hbl⟩
theorem at_no (h : TI w B s j W) (hj : j ≤ s.size) (hp : pty s.data.toList k i = none) (q : Int) :
    AtRet B s k i w (.returned (.tuple #[.agg #[.int .i64 q, .slice none 0 0], .bool false])) ((W.setCell ⟨w.heap.size, 0, none⟩ (.int .i64 q)).setCell ⟨w.heap.size, 1, none⟩ (.slice none 0 0)) := by
  obtain ⟨h1, h2⟩ := at_end h q (.slice none 0 0)
  exact ⟨h1, .mk q [], none, 0, Or.inr ⟨hp, rfl, ⟨rfl, rfl, rfl⟩, j, hj, h2⟩⟩
theorem at_no0 (h : TI w B s j W) (hj : j ≤ s.size) (hp : pty s.data.toList k i = none) : AtRet B s k i w (.returned (.tuple #[.agg #[.int .i64 0, .slice none 0 0], .bool false])) W :=
  ⟨h.grown, .mk 0 [], none, 0, Or.inr ⟨hp, rfl, ⟨rfl, rfl, rfl⟩, j, hj, h.cl⟩⟩
theorem at_yes (h : TI w B s j W) {q : Int} {ts : List Ty} {p : Option Addr} {c : Nat} (hp : pty s.data.toList k i = some (.mk q ts, j)) (ho : OS W ts (.slice p ts.length c) (fun z => w.heap.size + 1 ≤ z ∧ z < W.heap.size)) :
    AtRet B s k i w (.returned (.tuple #[.agg #[.int .i64 q, .slice p ts.length c], .bool true])) ((W.setCell ⟨w.heap.size, 0, none⟩ (.int .i64 q)).setCell ⟨w.heap.size, 1, none⟩ (.slice p ts.length c)) := by
  obtain ⟨h1, h2⟩ := at_end h q (.slice p ts.length c)
  refine ⟨h1, .mk q ts, p, c, Or.inl ⟨j, hp, rfl, ?_, h2⟩⟩
  refine (ho.stays ((setCell_stays _ _ _ _ _ (by omega)).trans (setCell_stays _ _ _ _ _ (by omega)))).mono (fun z hz => ?_)
  have : ((W.setCell ⟨w.heap.size, 0, none⟩ (.int .i64 q)).setCell ⟨w.heap.size, 1, none⟩ (.slice p ts.length c)).heap.size = W.heap.size := by simp [World.setCell]
  omega
end

set_option maxRecDepth 100000 in
set_option maxHeartbeats 1000000 in
theorem at_deep (B : Nat) (s : ByteArray) (D : Int) (hD : 8 < D) (i : Nat) (w : World) (hi : i ≤ s.size) (h : Cl B s i w) :
    Calls Tryz.prog 145 #[.int .i64 D, .pointer (some ⟨B + 3, 0, none⟩), .pointer (some ⟨B + 5, 0, none⟩)] w (AtRet B s 0 i w) := by
  have hT := TI.start h
  obtain ⟨⟨g0, g1, gz⟩, _, _⟩ := hT.facts
  have HT := Lib.hid hT
  clear h hT
  go_enter Tryz.func145, Tryz.ntmps145
  go_wp2_with fail
  refine bodyPost_ret (v := .tuple #[.agg #[.int .i64 0, .slice none 0 0], .bool false]) ?_ rfl ?_
  · rw [results_cs rfl]
    go_simp
  · exact at_no0 HT.out hi (show pty s.data.toList 0 i = none from rfl)

set_option maxRecDepth 100000 in
set_option maxHeartbeats 2000000 in
theorem at_step (B : Nat) (s : ByteArray) (hs : s.size ≤ 1073741824) (k : Nat) (D : Int) (d8 : D ≤ 8) (d1 : 1 ≤ D)
    (P : ∀ (es : ByteArray), es.size ≤ 2 → ∀ (i : Nat) (W : World), i ≤ s.size → Cl B s i W →
      Calls Tryz.prog 144 #[.string es, .int .i64 (D + 1), .pointer (some ⟨B + 4, 0, none⟩), .pointer (some ⟨B + 3, 0, none⟩)] W (ParRet B s k i es.data.toList W))
    (i : Nat) (w : World) (hi : i ≤ s.size) (h : Cl B s i w) :
    Calls Tryz.prog 145 #[.int .i64 D, .pointer (some ⟨B + 3, 0, none⟩), .pointer (some ⟨B + 5, 0, none⟩)] w (AtRet B s (k + 1) i w) := by
  have hT := TI.start h
  obtain ⟨_, c0, _⟩ := hT.facts
  have HT0 := Lib.hid hT
  have HP := Lib.hid P
  have dd : decide (8 < D) = false := decide_eq_false (by omega)
  clear h hT P
  go_enter Tryz.func145, Tryz.ntmps145
  go_wp2_with fail
  refine (acc_any B s i 73 73 rfl _ hs hi HT0.out.cl).mono ?_
  rintro e w1 (⟨h1, rfl, hc1, hg1⟩ | ⟨h1, rfl, hc1, hg1⟩)
  · have hT1 := HT0.out.step hc1 hg1
    obtain ⟨⟨g0, g1, gz⟩, _, _⟩ := hT1.facts
    have HT1 := Lib.hid hT1
    have H1 := Lib.hid h1
    clear hc1 hg1 h1 hT1 c0
    go_wp2_with fail
    refine bodyPost_ret (v := .tuple #[.agg #[.int .i64 1, .slice none 0 0], .bool true]) ?_ rfl ?_
    · rw [results_cs rfl]
      go_simp
    · exact at_yes (ts := []) HT1.out (pty_1 H1.out) (.none _)
  have hT1 := HT0.out.step hc1 hg1
  clear c0
  obtain ⟨_, c0, _⟩ := hT1.facts
  have HT1 := Lib.hid hT1
  have H1 := Lib.hid h1
  clear hc1 hg1 h1 hT1
  go_wp2_with fail
  refine (acc_any B s i 66 66 rfl _ hs hi HT1.out.cl).mono ?_
  rintro e w2 (⟨h2, rfl, hc2, hg2⟩ | ⟨h2, rfl, hc2, hg2⟩)
  · have hT2 := HT1.out.step hc2 hg2
    obtain ⟨⟨g0, g1, gz⟩, _, _⟩ := hT2.facts
    have HT2 := Lib.hid hT2
    have H2 := Lib.hid h2
    clear hc2 hg2 h2 hT2 c0
    go_wp2_with fail
    refine bodyPost_ret (v := .tuple #[.agg #[.int .i64 2, .slice none 0 0], .bool true]) ?_ rfl ?_
    · rw [results_cs rfl]
      go_simp
    · exact at_yes (ts := []) HT2.out (pty_2 H2.out) (.none _)
  have hT2 := HT1.out.step hc2 hg2
  clear c0
  obtain ⟨_, c0, _⟩ := hT2.facts
  have HT2 := Lib.hid hT2
  have H2 := Lib.hid h2
  clear hc2 hg2 h2 hT2
  go_wp2_with fail
  refine (acc_any B s i 40 40 rfl _ hs hi HT2.out.cl).mono ?_
  rintro e w3 (⟨h3, rfl, hc3, hg3⟩ | ⟨h3, rfl, hc3, hg3⟩)
  · have hT3 := HT2.out.step hc3 hg3
    obtain ⟨_, _, c5⟩ := hT3.facts
    have HT3 := Lib.hid hT3
    have H3 := Lib.hid h3
    have hi3 := bt_lt h3
    clear hc3 hg3 h3 hT3 c0
    go_wp2_with fail
    refine (HP.out ⟨#[62, 41]⟩ (by decide) (i + 1) w3 hi3 HT3.out.cl).mono ?_
    rintro e w4 ⟨hg4, v4, ho4⟩
    have hlt := HT3.out.lt
    rcases ho4 with ⟨ts, j, hp, rfl, hos, hcl⟩ | ⟨hp, rfl, rfl, j, hj, hcl⟩
    · obtain ⟨p4, c4, rfl⟩ := hos.form
      have hT4 := HT3.out.step hcl hg4
      obtain ⟨⟨g0, g1, gz⟩, _, _⟩ := hT4.facts
      have HT4 := Lib.hid hT4
      have HP4 := Lib.hid hp
      have HO4 := Lib.hid (hos.mono (F' := fun z => w.heap.size + 1 ≤ z ∧ z < w4.heap.size) (fun z hz => ⟨by omega, hz.2⟩))
      clear hp hos hcl hg4 hT4 c5
      go_wp2_with fail
      refine bodyPost_ret (v := .tuple #[.agg #[.int .i64 3, .slice p4 ts.length c4], .bool true]) ?_ rfl ?_
      · rw [results_cs rfl]
        go_simp
      · exact at_yes HT4.out (by rw [pty_3 H3.out]; exact congrArg _ HP4.out) HO4.out
    · have hT4 := HT3.out.step hcl hg4
      obtain ⟨⟨g0, g1, gz⟩, _, _⟩ := hT4.facts
      have HT4 := Lib.hid hT4
      have HP4 := Lib.hid hp
      clear hp hcl hg4 hT4 c5
      go_wp2_with fail
      refine bodyPost_ret (v := .tuple #[.agg #[.int .i64 3, .slice none 0 0], .bool false]) ?_ rfl ?_
      · rw [results_cs rfl]
        go_simp
      · exact at_no HT4.out hj (by rw [pty_3 H3.out]; exact congrArg _ HP4.out) 3
  have hT3 := HT2.out.step hc3 hg3
  clear c0
  obtain ⟨_, c0, _⟩ := hT3.facts
  have HT3 := Lib.hid hT3
  have H3 := Lib.hid h3
  clear hc3 hg3 h3 hT3
  go_wp2_with fail
  refine (acc_any B s i 60 60 rfl _ hs hi HT3.out.cl).mono ?_
  rintro e w4 (⟨h4, rfl, hc4, hg4⟩ | ⟨h4, rfl, hc4, hg4⟩)
  · have hT4 := HT3.out.step hc4 hg4
    obtain ⟨_, _, c5⟩ := hT4.facts
    have HT4 := Lib.hid hT4
    have H4 := Lib.hid h4
    have hi4 := bt_lt h4
    clear hc4 hg4 h4 hT4 c0
    go_wp2_with fail
    refine (HP.out ⟨#[62]⟩ (by decide) (i + 1) w4 hi4 HT4.out.cl).mono ?_
    rintro e w5 ⟨hg5, v5, ho5⟩
    have hlt := HT4.out.lt
    rcases ho5 with ⟨ts, j, hp, rfl, hos, hcl⟩ | ⟨hp, rfl, rfl, j, hj, hcl⟩
    · obtain ⟨p5, q5, rfl⟩ := hos.form
      have hT5 := HT4.out.step hcl hg5
      obtain ⟨⟨g0, g1, gz⟩, _, _⟩ := hT5.facts
      have HT5 := Lib.hid hT5
      have HP5 := Lib.hid hp
      have HO5 := Lib.hid (hos.mono (F' := fun z => w.heap.size + 1 ≤ z ∧ z < w5.heap.size) (fun z hz => ⟨by omega, hz.2⟩))
      clear hp hos hcl hg5 hT5 c5
      go_wp2_with fail
      refine bodyPost_ret (v := .tuple #[.agg #[.int .i64 4, .slice p5 ts.length q5], .bool true]) ?_ rfl ?_
      · rw [results_cs rfl]
        go_simp
      · exact at_yes HT5.out (by rw [pty_4 H4.out]; exact congrArg _ HP5.out) HO5.out
    · have hT5 := HT4.out.step hcl hg5
      obtain ⟨⟨g0, g1, gz⟩, _, _⟩ := hT5.facts
      have HT5 := Lib.hid hT5
      have HP5 := Lib.hid hp
      clear hp hcl hg5 hT5 c5
      go_wp2_with fail
      refine bodyPost_ret (v := .tuple #[.agg #[.int .i64 4, .slice none 0 0], .bool false]) ?_ rfl ?_
      · rw [results_cs rfl]
        go_simp
      · exact at_no HT5.out hj (by rw [pty_4 H4.out]; exact congrArg _ HP5.out) 4
  have hT4 := HT3.out.step hc4 hg4
  clear c0
  obtain ⟨⟨g0, g1, gz⟩, _, _⟩ := hT4.facts
  have HT4 := Lib.hid hT4
  have H4 := Lib.hid h4
  clear hc4 hg4 h4 hT4
  go_wp2_with fail
  refine bodyPost_ret (v := .tuple #[.agg #[.int .i64 0, .slice none 0 0], .bool false]) ?_ rfl ?_
  · rw [results_cs rfl]
    go_simp
  · exact at_no HT4.out hi (pty_0 H1.out H2.out H3.out H4.out) 0
theorem at_any (B : Nat) (s : ByteArray) (hs : s.size ≤ 1073741824) : ∀ (k : Nat), k ≤ 8 → ∀ (i : Nat) (W : World), i ≤ s.size → Cl B s i W →
    Calls Tryz.prog 145 #[.int .i64 (9 - (k : Int)), .pointer (some ⟨B + 3, 0, none⟩), .pointer (some ⟨B + 5, 0, none⟩)] W (AtRet B s k i W)
  | 0, _, i, W, hi, h => at_deep B s _ (by omega) i W hi h
  | k + 1, hk, i, W, hi, h => at_step B s hs k _ (by omega) (by omega) (fun es he i W hi h => by
      rw [show 9 - ((k + 1 : Nat) : Int) + 1 = (9 - (k : Int)) by omega]
      exact par_step B s k _ hs (fun i W hi h => at_any B s hs k (by omega) i W hi h) es he i W hi h) i W hi h
end Go.Proofs.YtjobmgbchpoheaaGreatDoor
namespace Go.Proofs.YtjobmgbchpoheaaGreatDoor
open Go Go.RowKit Go.Shelf
attribute [local go_sem] Oper.semAt_some

theorem nstaysT {w w' : World} {C : Nat → Prop} {t : Ty} {v : Value} (h : NT w C t v) (hs : Stays C w w') : NT w' C t v := by
  obtain ⟨s, hv, h⟩ := h
  exact ⟨s, hv, h.stays hs⟩
abbrev encNT (x : Ty × Value × Nat) : Array Value := #[x.2.1, .int .i64 (x.2.2 : Nat)]
abbrev keyNT (x : Ty × Value × Nat) : Ty × Nat := (x.1, x.2.2)
abbrev GoodNT (C : Nat → Prop) (x : Ty × Value × Nat) (W : World) : Prop := NT W C x.1 x.2.1
structure IterT (w : World) (t : Ty) (p : Option Addr) (c : Nat) (Bt Bp : Nat) : Prop where
  bt : w.heap[Bt]? = some (.cells #[.int .i64 t.kind, .slice p t.args.length c] 26 (0, 0))
  bp : w.heap[Bp]? = some (.cells #[.func (.func 110) #[] #[]] 127 (0, 0))
  node : TS' w (· < w.heap.size) t p c
abbrev iterT (Bt Bp : Nat) : Value := .func (.func 153) #[] #[.pointer (some ⟨Bt, 0, none⟩), .pointer (some ⟨Bp, 0, none⟩)]

theorem nodesT_seq {w wl : World} {t : Ty} {p : Option Addr} {c : Nat} {Bt Bp : Nat} (h : IterT w t p c Bt Bp) (hn : t.nodes ≤ 2097153) (hb : Below w.heap.size w wl) (Cb : Nat → Prop) (hCb : ∀ b, Cb b → w.heap.size ≤ b ∧ b < wl.heap.size) :
    SeqT Fence.wide 1 Tryz.prog 153 #[.pointer (some ⟨Bt, 0, none⟩), .pointer (some ⟨Bp, 0, none⟩)] encNT keyNT (GoodNT (· < w.heap.size)) Cb (walkT t 1) wl := by
  intro l J Jx W hbW hJ hY hJ0
  have hbt := (Array.getElem?_eq_some_iff.1 h.bt).1
  have hbp := (Array.getElem?_eq_some_iff.1 h.bp).1
  have hbb : Below w.heap.size w W := hb.trans (hbW.mono hb.size)
  exact nodesT_it l Bt Bp t p c Cb (· < w.heap.size) W J Jx ((hbb.block _ hbt).trans h.bt) ((hbb.block _ hbp).trans h.bp) (h.node.stays (.of_below hbb)) hn
    (fun b hc => Nat.lt_of_lt_of_le (hCb b hc).2 hbW.size) (fun b hc => ⟨fun h2 => by have := (hCb b h2).1; omega, Nat.lt_of_lt_of_le hc hbb.size⟩) hbp hJ (fun pre x v d W1 h1 h2 h3 => hY pre (x, v, d) W1 h1 h2 h3) hJ0

theorem goodT_keep {C : Nat → Prop} {n : Nat} (hC : ∀ b, C b → b < n) (x : Ty × Value × Nat) (A B : World) (h : GoodNT C x A) (hb : Below n A B) : GoodNT C x B :=
  nstaysT h ⟨hb.size, fun b hc _ => hb.block b (hC b hc)⟩

def MakesIterT (t : Ty) (p : Option Addr) (c : Nat) (w : World) (e : Ending) (w' : World) : Prop := ∃ Bt Bp, e = .returned (iterT Bt Bp) ∧ IterT w' t p c Bt Bp ∧ Below w.heap.size w w' ∧ w.heap.size ≤ Bt ∧ w.heap.size ≤ Bp
set_option maxRecDepth 100000 in
theorem tnT_any {C : Nat → Prop} {t : Ty} {p : Option Addr} {c : Nat} {w : World} (h : TS' w C t p c) : Calls Tryz.prog 127 #[.agg #[.int .i64 t.kind, .slice p t.args.length c]] w (MakesIterT t p c w) := by
  have HT := Lib.hid (h.mono (C' := (· < w.heap.size)) (fun _ _ hl => hl))
  clear h
  go_enter Tryz.func127, Tryz.ntmps127
  go_wp2
  obtain ⟨wl, hwl, hsz, hbl, _, k1, k2⟩ := box_new3 w #[.int .i64 t.kind, .slice p t.args.length c] #[.int .i64 t.kind, .slice p t.args.length c] #[.func (.func 110) #[] #[]] 26 26 127
  rw [hwl]
  go_ret
  exact ⟨_, _, rfl, ⟨k1, k2, (HT.out.stays (.of_below hbl)).mono (fun z hz _ => by omega)⟩, hbl, by omega, by omega⟩

theorem walkT_pre {pre : List (Ty × Nat)} {t : Ty} (h : pre <+: walkT t 1) (hn : t.nodes ≤ 2097153) : pre.length ≤ 2097153 := by
  have h1 := h.length_le
  rw [walkT_length] at h1
  omega
def maxdT : List (Ty × Nat) → Nat
  | [] => 0
  | e :: l => max e.2 (maxdT l)
theorem maxdT_append (a b : List (Ty × Nat)) : maxdT (a ++ b) = max (maxdT a) (maxdT b) := by
  induction a with
  | nil => simp [maxdT]
  | cons e a ih => simp only [List.cons_append, maxdT, ih]; omega
theorem maxdT_snoc (a : List (Ty × Nat)) (e : Ty × Nat) : maxdT (a ++ [e]) = max (maxdT a) e.2 := by rw [maxdT_append]; simp [maxdT]
theorem maxdT_prefix {a b : List (Ty × Nat)} (h : a <+: b) : maxdT a ≤ maxdT b := by
  obtain ⟨c, rfl⟩ := h
  rw [maxdT_append]
  omega
theorem maxdT_le {l : List (Ty × Nat)} {n : Nat} : maxdT l ≤ n ↔ ∀ e ∈ l, e.2 ≤ n := by
  induction l with
  | nil => simp [maxdT]
  | cons e l ih =>
    rw [List.forall_mem_cons, ← ih]
    simp only [maxdT]
    omega
mutual
theorem maxdT_walk : ∀ (t : Ty) (d : Nat), maxdT (walkT t d) + 1 = d + t.depth
  | .mk k ts, d => by
    have h := maxdT_walkS ts d
    simp only [walkT, maxdT, Ty.depth]
    omega
theorem maxdT_walkS : ∀ (ts : List Ty) (d : Nat), max d (maxdT (walkST ts (d + 1))) = d + depthS ts
  | [], d => by simp [walkST, maxdT, depthS]
  | t :: ts, d => by
    have h1 := maxdT_walkS ts d
    have h2 := maxdT_walk t (d + 1)
    simp only [walkST, maxdT_append, depthS]
    omega
end

end Go.Proofs.YtjobmgbchpoheaaGreatDoor
