/-
  Several texts of the proof in one (each says below what it holds): ScopeF OccA FreeQ OccB OccC FvI RsI.
-/
import Derived.Test.YtfeijijeohfpgaaDoorCq10
import Derived.Test.YtfeijijeohfpgaaDoorCq5
import Derived.Test.YtfeijijeohfpgaaDoorCq8
set_option linter.unusedVariables false
set_option linter.unusedSimpArgs false
namespace Go.Proofs.YtfeijijeohfpgaaDoor
open Go Go.RowKit Go.Maps
def lenAt (w : World) (a : Addr) : Nat := match w.cell? a with
  | some (.slice _ n _) => n
  | _ => 0
theorem ScopeIs.around {w : World} {bs : Nat} {st : List (List ByteArray)} {fl : List ByteArray} {B N : Nat → Prop} {c : Nat} {va : Value} {bm n : Nat} {f : ByteArray → Value} {xs : List Value} (h : ScopeIs w bs st fl B N c va bm n f xs) :
    ∃ q cp, va = .slice q st.length cp ∧ w.cell? ⟨bs, 0, none⟩ = some (.slice q st.length cp) ∧ lenAt w ⟨bs, 0, none⟩ = st.length := by
  obtain ⟨q, cp, e⟩ : ∃ q cp, va = .slice q st.length cp := by
    rcases h.own.2 with ⟨e1, e2⟩ | ⟨g, cap, cur, e1, _⟩
    · exact ⟨none, 0, by rw [e1, e2]⟩
    · exact ⟨_, _, e1⟩
  subst e
  have c0 := cell_of_blk h.blk 0
  simp only [List.getElem?_toArray, List.getElem?_cons_zero] at c0
  exact ⟨q, cp, rfl, c0, by simp [lenAt, c0]⟩
theorem ScopeIs.push' {w w1 : World} {bs : Nat} {st : List (List ByteArray)} {nm fl : List ByteArray} {B N : Nat → Prop} {c : Nat} {va pv : Value} {bm n g cap m : Nat} {f : ByteArray → Value} {xs : List Value} (h : ScopeIs w bs st fl B N c va bm n f xs) (hm : st.length = m)
    (hnm : NamesAt w N nm pv) (hA : Appd w w1 0 62 1 va m xs [pv] g cap) (hB : ∀ b, w.heap.size ≤ b → B b) (hN : ∀ b, N b → ¬ B b) :
    ScopeIs (w1.setCell ⟨bs, 0, none⟩ (.slice (some ⟨g, 0, none⟩) (m + 1) cap)) bs (st ++ [nm]) fl B N c (.slice (some ⟨g, 0, none⟩) (m + 1) cap) bm n f (xs ++ [pv]) := by
  subst hm
  exact h.push hnm hA hB hN
theorem infoSS : (Tryd.prog.info? 62).map (fun i => (i.zero, i.size, i.bytes)) = some (some (.slice none 0 0), 1, 24) := by kernel_rfl
def Entered (w : World) (bs : Nat) (st : List (List ByteArray)) (B N : Nat → Prop) (c bm : Nat) (w' : World) : Prop :=
  ∃ va n f xs, ScopeIs w' bs st st.flatten (fun b => B b ∨ w.heap.size ≤ b) N (c + 4) va bm n f xs ∧ Turns (fun b => B b ∨ w.heap.size ≤ b) w w'
set_option maxRecDepth 100000 in
set_option maxHeartbeats 4000000 in
theorem enter_any {w : World} {bs : Nat} {st : List (List ByteArray)} {nm : List ByteArray} {B N : Nat → Prop} {c : Nat} {va pt pv : Value} {bm n d : Nat} {f : ByteArray → Value} {xs : List Value}
    (h : ScopeIs w bs st st.flatten B N c va bm n f xs) (hnm : NamesAt w N nm pv) (hz : ∀ l ∈ st, ∀ x ∈ l, x.size ≤ maxLen) (hz' : ∀ x ∈ nm, x.size ≤ maxLen) (hN : ∀ b, N b → ¬ B b ∧ b < w.heap.size) (hBl : ∀ b, B b → b < w.heap.size)
    (hc : c ≤ 1099511627776) (hd : 1 ≤ d) (hdl : d ≤ st.length + 1) (hsl : st.length ≤ 1099511627776) (hnl : nm.length ≤ 2) :
    Calls Tryd.prog 99 #[.pointer (some ⟨bs, 0, none⟩), .agg #[pt, pv], .int .i64 d] w fun e w' => (∃ v, e = .returned v) ∧ Entered w bs (st.take (d - 1) ++ [nm]) B N c bm w' := by
  obtain ⟨pq, pc, rfl, hcell⟩ : ∃ pq pc, pv = .slice pq nm.length pc ∧ ∀ (j : Nat) (hj : j < nm.length), ∃ g, pq = some ⟨g, 0, none⟩ ∧ N g ∧ g < w.heap.size ∧ w.cell? ⟨g, j, none⟩ = some (.string nm[j]) := by
    rcases hnm with ⟨rfl, rfl⟩ | ⟨_, g, cap, rfl, h1, h2, h3⟩
    · exact ⟨none, 0, rfl, fun j hj => by simp at hj⟩
    · exact ⟨_, cap, rfl, fun j hj => ⟨g, rfl, h1, h2, h3 j _ (List.getElem?_eq_getElem hj)⟩⟩
  have HCE := Lib.hid hcell
  clear hcell
  have HH := Lib.hid h
  have HZ := Lib.hid hz
  have HZ' := Lib.hid hz'
  have HN := Lib.hid hN
  have HNM := Lib.hid hnm
  have HBL := Lib.hid hBl
  clear h hz hz' hN hnm hBl
  go_enter Tryd.func99, Tryd.ntmps99
  go_wp2_with fail
  go_loopw [16] (fun _ wr => ∃ (k n' : Nat) (va' : Value) (f' : ByteArray → Value) (xs' : List Value), d ≤ k + 1 ∧ k ≤ st.length ∧ ScopeIs wr bs (st.take k) (st.take k).flatten B N c va' bm n' f' xs' ∧ Turns B (w.alloc (.cells #[pt, .slice pq nm.length pc] 111)) wr) (fun _ wr => lenAt wr ⟨bs, 0, none⟩)
  case atStart => exact ⟨st.length, n, va, f, xs, hdl, Nat.le_refl _, by
    rw [List.take_length]
    exact HH.out.keep (by simp) (fun b _ hl => Below.heap_alloc _ _ _ hl), Turns.refl _ _⟩
  case round =>
    obtain ⟨k, n', va', f', xs', hk, hk2, hsc, htu⟩ := hrel
    obtain ⟨q, cp, hva, c0, hln⟩ := hsc.around
    have htl : (st.take k).length = k := by rw [List.length_take]; omega
    rw [htl] at hva c0 hln
    subst hva
    have hown := hsc.own
    rw [htl] at hown
    have HOW := Lib.hid hown
    have HTL := Lib.hid htl
    clear hown
    have cz := unfrozen_of_blk hsc.blk
    have HS := Lib.hid hsc
    have HT := Lib.hid htu
    have HL := Lib.hid hln
    clear hsc htu hln htl
    by_cases hdk : d ≤ k
    · obtain ⟨k0, rfl⟩ : ∃ k0, k = k0 + 1 := ⟨k - 1, by omega⟩
      have i1 : (d : Int) ≤ ((k0 + 1 : Nat) : Int) := by omega
      have i2 : (d : Int) ≤ (k0 : Int) + 1 := by omega
      have hk0 : k0 < st.length := by omega
      have hsp : st.take (k0 + 1) = st.take k0 ++ [st[k0]] := by simp
      have HSP := Lib.hid hsp
      clear hsp
      go_wp2_with (go_at_call 113; refine (leave_any (bs := bs) (st := st.take k0) (nm := st[k0]) (B := B) (N := N) (c := c) (va := _) (bm := bm) (n := n') (f := f') (xs := xs') (HSP.out ▸ HS.out) (HZ.out _ (List.getElem_mem hk0)) (fun b hb => (HN.out b hb).1) hc).mono ?_; rintro e w2 ⟨⟨v, rfl⟩, va2, n2, f2, xs2, h2, t2⟩; have HS2 := Lib.hid h2; have HT2 := Lib.hid t2; clear h2 t2; go_frame)
      have hl2 := HS2.out.around
      obtain ⟨_, _, _, _, hl2⟩ := hl2
      exact ⟨⟨k0, n2, va2, f2, xs2, by omega, by omega, HS2.out, HT.out.trans HT2.out⟩, by rw [hl2, HL.out, List.length_take]; omega⟩
    · obtain rfl : d = k + 1 := by omega
      have i1 : ¬ ((k + 1 : Nat) : Int) ≤ (k : Int) := by omega
      have i2 : ¬ (k : Int) + 1 ≤ (k : Int) := by omega
      have p0 : wr.heap[w.heap.size]? = some (.cells #[pt, .slice pq nm.length pc] 111 (0, 0)) := (HT.out.kept w.heap.size (by simp) (fun hb => by have := HBL.out _ hb; omega)).trans (World.alloc_heap_new w _)
      have p1 := cell_of_blk p0 1
      simp only [List.getElem?_toArray, List.getElem?_cons_zero, List.getElem?_cons_succ] at p1
      have HP0 := Lib.hid p0
      clear p0
      go_upto_region 3 with fail
      go_cut [17] from 17 to 27 (fun _ wx => ∃ (va2 : Value) (xs2 : List Value), ScopeIs wx bs (st.take k ++ [nm]) (st.take k).flatten (fun b => B b ∨ w.heap.size + 1 ≤ b) N c va2 bm n' f' xs2 ∧ Turns (fun b => B b ∨ w.heap.size + 1 ≤ b) (w.alloc (.cells #[pt, .slice pq nm.length pc] 111)) wx)
      case first =>
        obtain ⟨i, hi, hz0, hz1, hz2⟩ : ∃ i, Tryd.prog.info? 62 = some i ∧ i.zero = some (.slice none 0 0) ∧ i.size = 1 ∧ i.bytes = 24 := by
          have h := infoSS
          cases hi : Tryd.prog.info? 62 with
          | none => rw [hi] at h; simp at h
          | some i => rw [hi] at h; simp at h; exact ⟨i, rfl, h⟩
        have hbl := (Array.getElem?_eq_some_iff.1 HS.out.blk).1
        have e0 : (wr.alloc (Obj.cells #[.slice pq nm.length pc] 62)).cell? ⟨bs, 0, none⟩ = some (.slice q k cp) := by rw [World.cell?_of_block (w := wr) (a := ⟨bs, 0, none⟩) (Below.heap_alloc _ _ _ hbl)]; exact c0
        have hs9 : w.heap.size < wr.heap.size := by have := HT.out.size; simp at this; omega
        have e1 : (wr.alloc (Obj.cells #[.slice pq nm.length pc] 62)).cell? ⟨w.heap.size, 1, none⟩ = some (.slice pq nm.length pc) := by rw [World.cell?_of_block (w := wr) (a := ⟨w.heap.size, 1, none⟩) (Below.heap_alloc _ _ _ (by have := HT.out.size; simp at this; omega))]; exact p1
        have HBS0 := Lib.hid HS.out.blk
        have HBS := Lib.hid (show bs < wr.heap.size ∧ (Value.slice q k cp).ownBlock ≠ some bs from ⟨(Array.getElem?_eq_some_iff.1 HS.out.blk).1, fun e => by
          rcases HOW.out.2 with ⟨e1, _⟩ | ⟨g', cap', cur, e1, _, hblk, _⟩
          · rw [e1] at e; cases e
          · rw [e1] at e
            simp only [Value.ownBlock, Option.some.injEq] at e
            rw [e, HBS0.out] at hblk
            simp at hblk⟩)
        go_region_law (first
          | (refine step_app1 (w0 := wr.drew) (base := 0) (v := .slice q k cp) (n := k) (xs := xs') (cs := [.slice pq nm.length pc]) rfl (.tmp 21) (.tmp 24) rfl Tryd.underlying102 hi hz0 hz1 hz2 rfl (by decide) rfl (row_below HOW.out ((Below.refl _ wr).drew)) _ rfl (by simp) rfl (fun u hu => by simp at hu; subst hu; rfl) (by unfold maxLen; omega) (by omega) (Nat.zero_le _) ?_; intro w' g2 cap2 hA; have d6b := (hA.kept bs HBS.out.1 HBS.out.2).1.trans HBS0.out; have d6 := cell_of_blk d6b 0; simp only [List.getElem?_toArray, List.getElem?_cons_zero] at d6; have d6z := unfrozen_of_blk d6b))
        all_goals
          go_wp2_with fail
          go_meet
          case rel =>
            have hsz0 : w.heap.size + 1 ≤ wr.heap.size := by have := HT.out.size; simpa using this
            have hdr : ScopeIs wr.drew bs (st.take k) (st.take k).flatten (fun b => B b ∨ w.heap.size + 1 ≤ b) N c (.slice q k cp) bm n' f' xs' := (HS.out.keep (w' := wr.drew) (Nat.le_refl _) (fun _ _ _ => rfl)).wide (fun b hb => Or.inl hb) (fun _ h => h) (Nat.le_refl _)
            have hst : Stays N w wr.drew := ⟨Nat.le_trans (Nat.le_succ _) hsz0, fun b hb hl => (HT.out.kept b (by simp; omega) (HN.out b hb).1).trans (Below.heap_alloc _ _ _ hl)⟩
            refine ⟨_, _, hdr.push' HTL.out (HNM.out.stays hst) hA (fun b hb => Or.inr (Nat.le_trans hsz0 hb)) (fun b hb => ?_), (((HT.out.wide (fun b hb => Or.inl hb)).drew).trans (Turns.app hA (fun b hb => hdr.inB.2.2.1 b hb))).set hdr.inB.1 0 _⟩
            rintro (h | h)
            · exact (HN.out b hb).1 h
            · have := (HN.out b hb).2
              omega
      case rest =>
        obtain ⟨va2, xs2, hsc, htu⟩ := hcut
        have HS1 := Lib.hid hsc
        have HT1 := Lib.hid htu
        clear hsc htu c0 cz p1
        have p0 : wc.heap[w.heap.size]? = some (.cells #[pt, .slice pq nm.length pc] 111 (0, 0)) := (HT1.out.kept w.heap.size (by simp) (fun hb => by
          rcases hb with hb | hb
          · have := HBL.out _ hb; omega
          · omega)).trans (World.alloc_heap_new w _)
        have p1 := cell_of_blk p0 1
        simp only [List.getElem?_toArray, List.getElem?_cons_zero, List.getElem?_cons_succ] at p1
        have HP1 := Lib.hid p0
        clear p0
        have hNB : ∀ b, N b → ¬ (B b ∨ w.heap.size + 1 ≤ b) := fun b hb h => by
          rcases h with h | h
          · exact (HN.out b hb).1 h
          · have := (HN.out b hb).2
            omega
        have HNB := Lib.hid hNB
        clear hNB
        go_wp2_with fail
        go_loopw [31] (fun i wx => ∃ (j n2 : Nat) (f2 : ByteArray → Value), j ≤ nm.length ∧ i = .int .i64 j ∧ ScopeIs wx bs (st.take k ++ [nm]) ((st.take k).flatten ++ nm.take j) (fun b => B b ∨ w.heap.size + 1 ≤ b) N (c + 2 * j) va2 bm n2 f2 xs2 ∧ Turns (fun b => B b ∨ w.heap.size + 1 ≤ b) (w.alloc (.cells #[pt, .slice pq nm.length pc] 111)) wx) (fun i _ => nm.length - (intOf i).toNat)
        case atStart => exact ⟨0, n', f', Nat.zero_le _, rfl, by simpa using HS1.out, HT1.out⟩
        case round =>
          obtain ⟨j, n2, f2, hj, rfl, hsc, htu⟩ := hrel
          have HS2 := Lib.hid hsc
          have HT2 := Lib.hid htu
          clear hsc htu
          by_cases hlj : j < nm.length
          · obtain ⟨g, rfl, hNg, hgl, hcg⟩ := HCE.out j hlj
            have hcr := (World.cell?_of_block (a := ⟨g, j, none⟩) ((HT2.out.kept g (by simp; omega) (HNB.out g hNg)).trans (Below.heap_alloc _ _ _ hgl))).trans hcg
            have hx := HZ'.out _ (List.getElem_mem hlj)
            obtain ⟨x, hxe⟩ : ∃ x, nm[j] = x := ⟨_, rfl⟩
            rw [hxe] at hcr hx
            have HXE := Lib.hid hxe
            clear hxe hcg
            obtain ⟨m, hm⟩ : ∃ m, cntN x ((st.take k).flatten ++ nm.take j) = m := ⟨_, rfl⟩
            obtain ⟨ys, hown, hys⟩ := (HS2.out.rows x).own
            rw [hm] at hown
            have HM := Lib.hid hm
            have hmc : m ≤ ((st.take k).flatten ++ nm.take j).length := hm ▸ List.length_filter_le _ _
            have hcn := HS2.out.cnt
            obtain ⟨fv, hfv⟩ : ∃ fv, f2 x = fv := ⟨_, rfl⟩
            rw [hfv] at hown
            have HFV := Lib.hid hfv
            have HOW := Lib.hid hown
            have HYS := Lib.hid hys
            have hmb : m ≤ 1099511627780 := by omega
            have hnb : n2 ≤ 1099511627780 := by omega
            clear hm hfv hown hys hmc hcn
            have hlk := (HS2.out.map.of_block (w' := wr.drew) rfl).look lawKeyN Tryd.underlying9 Tryd.underlying103 (zeroInts wr.drew) hx
            rw [HFV.out] at hlk
            have b1 := cell_of_blk HS2.out.blk 1
            simp only [List.getElem?_toArray, List.getElem?_cons_zero, List.getElem?_cons_succ] at b1
            have hbl := (Array.getElem?_eq_some_iff.1 HS2.out.blk).1
            have hpo : (1 : Int) ≤ 2 * ((k : Int) + 1) + (j : Int) ∧ 2 * ((k : Int) + 1) + (j : Int) ≤ 9223372036854775807 := by omega
            have HPO := Lib.hid hpo
            have a1 : IntKind.i64.wrap (2 * ((k : Int) + 1)) = 2 * ((k : Int) + 1) := IntWalk.i64_in _ (by omega)
            have a2 : IntKind.i64.wrap (2 * ((k : Int) + 1) + (j : Int)) = 2 * ((k : Int) + 1) + (j : Int) := IntWalk.i64_in _ (by omega)
            clear hpo
            have e0 : (wr.alloc (Obj.cells #[.int .i64 (2 * ((k : Int) + 1) + (j : Int))] 3)).cell? ⟨bs, 1, none⟩ = some (.map (some bm)) := by rw [World.cell?_of_block (w := wr) (a := ⟨bs, 1, none⟩) (Below.heap_alloc _ _ _ hbl)]; exact b1
            have hlk2 := (HS2.out.map.of_block (w' := (wr.alloc (Obj.cells #[.int .i64 (2 * ((k : Int) + 1) + (j : Int))] 3)).drew) (Below.heap_alloc _ _ _ HS2.out.map.lt)).look lawKeyN Tryd.underlying9 Tryd.underlying103 (zeroInts _) hx
            rw [HFV.out] at hlk2
            obtain ⟨i, hi, hz0, hz1, hz2⟩ : ∃ i, Tryd.prog.info? 3 = some i ∧ i.zero = some (.int .i64 0) ∧ i.size = 1 ∧ i.bytes = 8 := by
              have h := infoInt
              cases hi : Tryd.prog.info? 3 with
              | none => rw [hi] at h; simp at h
              | some i => rw [hi] at h; simp at h; exact ⟨i, rfl, h⟩
            have HBS0 := Lib.hid HS2.out.blk
            have notint : ∀ (b : Nat) (o : Obj), wr.heap[b]? = some o → (∀ cs, o ≠ .cells cs 3 (0, 0)) → fv.ownBlock ≠ some b := fun b o hb hT e => by
              rw [← HFV.out] at e
              obtain ⟨cs, hc⟩ := (HS2.out.rows x).lt e
              rw [hb] at hc
              exact hT cs (Option.some.inj hc)
            have HBS := Lib.hid (notint bs _ HS2.out.blk (fun cs e => by simp at e))
            obtain ⟨es, clk, hbm⟩ : ∃ es k, wr.heap[bm]? = some (.map es k) := by
              obtain ⟨D, ⟨es, clock, hb0, _⟩, _⟩ := HS2.out.map
              exact ⟨_, _, hb0⟩
            have HBM := Lib.hid (show bm < wr.heap.size ∧ fv.ownBlock ≠ some bm from ⟨(Array.getElem?_eq_some_iff.1 hbm).1, notint bm _ hbm (fun cs e => by cases e)⟩)
            have HSZ := Lib.hid hbl
            have HSW := Lib.hid (show w.heap.size + 1 ≤ wr.heap.size by have := HT2.out.size; simpa using this)
            have HTK := Lib.hid (show (st.take k).flatten ++ nm.take (j + 1) = ((st.take k).flatten ++ nm.take j) ++ [x] by rw [← HXE.out]; simp)
            have HX := Lib.hid hx
            clear hbm notint hbl hx
            go_upto_region 7 with fail
            go_region_law (first
              | (refine step_look rfl _ _ _ rfl rfl rfl hlk ?_)
              | (refine step_look rfl _ _ _ rfl rfl rfl hlk2 ?_)
              | (refine step_app1 (w0 := wr.drew) (base := 0) (v := fv) (n := m) (xs := ys) (cs := [.int .i64 (2 * ((k : Int) + 1) + (j : Int))]) rfl (.tmp 46) (.tmp 51) rfl Tryd.underlying66 hi hz0 hz1 hz2 rfl (by decide) rfl (row_below HOW.out ((Below.refl _ wr).drew)) _ rfl (by simp) rfl (fun u hu => by simp at hu; subst hu; rfl) (by unfold maxLen; omega) (by omega) (Nat.zero_le _) ?_; intro w' g2 cap2 hA; have d6b := (hA.kept bs HSZ.out HBS.out).1.trans HBS0.out; have d6 := cell_of_blk d6b 1; simp only [List.getElem?_toArray, List.getElem?_cons_zero, List.getElem?_cons_succ] at d6; obtain ⟨w4, hup, hmv, hg2⟩ := (HS2.out.map.of_block (w' := w') ((hA.kept bm HBM.out.1 HBM.out.2).1)).store (t := 103) lawKeyN Tryd.underlying9 Tryd.underlying103 (by unfold maxLen; omega) HX.out (.slice (some ⟨g2, 0, none⟩) (m + 1) cap2); clear d6b; have HMV := Lib.hid hmv; have HG2 := Lib.hid hg2; clear hmv hg2)
              | (refine step_upd rfl _ _ _ _ rfl rfl rfl rfl hup ?_))
            all_goals
              go_wp2_with fail
              have hdr : ScopeIs wr.drew bs (st.take k ++ [nm]) ((st.take k).flatten ++ nm.take j) (fun b => B b ∨ w.heap.size + 1 ≤ b) N (c + 2 * j) va2 bm n2 f2 xs2 := HS2.out.keep (w' := wr.drew) (Nat.le_refl _) (fun _ _ _ => rfl)
              have hnew := hdr.add HM.out HYS.out HPO.out (by rw [HFV.out]; exact hA) HMV.out HG2.out (fun b hb => Or.inr (Nat.le_trans HSW.out hb)) HNB.out
              rw [← HTK.out] at hnew
              have hown2 : ∀ b, fv.ownBlock = some b → (fun b => B b ∨ w.heap.size + 1 ≤ b) b := fun b hb => hdr.inB.2.2.2 x b (by rw [HFV.out]; exact hb)
              have htn := (((HT2.out.drew).trans (Turns.app hA hown2)).grown HG2.out hdr.inB.2.1)
              exact ⟨⟨j + 1, n2 + 1, _, hlj, by go_num, hnew, htn⟩, by simp [intOf]; omega⟩
          · have e5 : j = nm.length := by omega
            subst e5
            have hlast : ¬ (nm.length : Int) < (nm.length : Int) := by omega
            go_wp2_with fail
            go_end0
            have hs := HS2.out
            rw [List.take_length] at hs
            refine ⟨⟨_, rfl⟩, va2, n2, f2, xs2, ?_, (Turns.alloc (B := fun b => B b ∨ w.heap.size ≤ b) (w := w) _).trans (HT2.out.wide (fun b hb => hb.imp id (fun h => by omega)))⟩
            rw [show (st.take k ++ [nm]).flatten = (st.take k).flatten ++ nm by simp]
            exact hs.wide (fun b hb => hb.imp id (fun h => by omega)) (fun _ h => h) (by omega)
end Go.Proofs.YtfeijijeohfpgaaDoor
namespace Go.Proofs.YtfeijijeohfpgaaDoor
open Go Go.RowKit Go.Shelf Go.Maps

theorem nodesQ_seq {w : World} {C : Nat → Prop} {t : Tm} {b0 o0 Bt Bp : Nat} (hBt : w.heap[Bt]? = some (.cells #[.pointer (some ⟨b0, o0, none⟩), .slice none 0 0] 111 (0, 0))) (hBp : w.heap[Bp]? = some (.cells #[.func (.func 98) #[] #[]] 112 (0, 0)))
    (hT : TermAt w C t b0 o0) (hn : t.wt ≤ 2097152) (hka : KA w) (hkc : C 1) (hC : ∀ b, C b → b < w.heap.size) (hCp : C Bp) :
    SeqD Fence.wide 1 Tryd.prog 110 #[.pointer (some ⟨Bt, 0, none⟩), .pointer (some ⟨Bp, 0, none⟩)] encQ keyQ (GoodQ C) C (walkQ t [] 1) w := by
  intro l J Jx B0 W hbW hCB hB0 hJ _ hY h0
  exact nodesQ_it l Bt Bp t b0 o0 C B0 W J Jx ((hbW.block _ (Array.getElem?_eq_some_iff.1 hBt).1).trans hBt) ((hbW.block _ (Array.getElem?_eq_some_iff.1 hBp).1).trans hBp) (hT.stays (.of_below hbW)) hn (hka.below hbW) hkc (fun b hb => Nat.lt_of_lt_of_le (hC b hb) hbW.size) hCB hB0 hCp hJ hY h0
theorem goodQ_loop {C : Nat → Prop} {x : QA} {Y : Nat → Prop} {A A' : World} {l : Nat} {r : Loop} (h : GoodQ C x Y A) (hl : A.heap[l]? = some (.loop r)) (hA : Holds (fun b => b = l) A A') (hC : ¬ C l) : GoodQ C x Y A' := by
  obtain ⟨h1, h2, h3⟩ := h
  refine ⟨h1.stays ⟨hA.1, fun b hb hlt => hA.2 b hlt (fun e => hC (e ▸ hb))⟩, h2.stays ⟨hA.1, fun b hb hlt => ?_⟩, h3⟩
  have hv := h3 b hb
  rcases h2 with ⟨_, e⟩ | ⟨h0, g, cap, e, _, hg, hcell⟩
  · rw [e] at hv; cases hv
  · rw [e] at hv
    simp only [Value.ownBlock, Option.some.injEq] at hv
    subst hv
    refine hA.2 g hlt (fun e2 => ?_)
    obtain ⟨y, ys, hy⟩ := List.exists_cons_of_ne_nil h0
    have := hcell 0 y (by rw [hy]; rfl)
    rw [e2] at this
    simp [World.cell?, hl] at this
theorem goodQ_cells {C : Nat → Prop} {x : QA} {Y : Nat → Prop} {A : World} {z : Nat} (h : GoodQ C x Y A) (hz : Y z) : ∃ cs T fr, A.heap[z]? = some (.cells cs T fr) := by
  obtain ⟨_, h2, h3⟩ := h
  have hv := h3 z hz
  rcases h2 with ⟨_, e⟩ | ⟨h0, g, cap, e, _, hg, hcell⟩
  · rw [e] at hv; cases hv
  · rw [e] at hv
    simp only [Value.ownBlock, Option.some.injEq] at hv
    subst hv
    obtain ⟨y, ys, hy⟩ := List.exists_cons_of_ne_nil h0
    have h4 := hcell 0 y (by rw [hy]; rfl)
    cases h5 : A.heap[g]? with
    | none => simp [World.cell?, h5] at h4
    | some o =>
      cases o with
      | cells cs T fr => exact ⟨cs, T, fr, rfl⟩
      | _ => simp [World.cell?, h5] at h4
theorem YieldAt.any {a b l : Nat} {P : Program} {args : Array Value} {W : World} {R : Ending → World → Prop} (h : YieldAt Fence.wide a P l args W R) (l' : Nat) : YieldAt (Fence.wide.inRound l') b P l args W R := by
  obtain ⟨fn, tmps, assign, body, h1, h2⟩ := h
  exact ⟨fn, tmps, assign, body, h1, h2.1, fun c cs _ => h2.2 c cs (room_wide _)⟩
set_option maxRecDepth 100000 in
theorem newScope_any (w : World) : Calls Tryd.prog 96 #[] w fun e w' =>
    ∃ bm, e = .returned (.agg #[.slice none 0 0, .map (some bm)]) ∧ MapV Tryd.prog 9 w' bm 0 (.slice none 0 0) (fun _ => .slice none 0 0) ∧ w.heap.size ≤ bm ∧ Below w.heap.size w w' := by
  go_enter Tryd.func96, Tryd.ntmps96
  have hmm := @run_makeMap Tryd.prog
  go_wp2_with fail
  have s1 : (w.alloc (Obj.cells #[Value.slice none 0 0, Value.map (some (w.heap.size + 1))] 105)).heap.size = w.heap.size + 1 := by simp
  have hM := mapV_made (w.alloc (Obj.cells #[Value.slice none 0 0, Value.map (some (w.heap.size + 1))] 105)) Tryd.prog 9 (.slice none 0 0)
  rw [s1] at hM
  have hb : Below w.heap.size w ((w.alloc (Obj.cells #[Value.slice none 0 0, Value.map (some (w.heap.size + 1))] 105)).alloc (Obj.map #[] 0)) := ((Below.refl _ w).alloc (Nat.le_refl _) _).alloc (by simp) _
  have hblk : ((w.alloc (Obj.cells #[Value.slice none 0 0, Value.map (some (w.heap.size + 1))] 105)).alloc (Obj.map #[] 0)).heap[w.heap.size]? = some (.cells #[Value.slice none 0 0, Value.map (some (w.heap.size + 1))] 105 (0, 0)) := by
    rw [Below.heap_alloc _ _ _ (by simp)]
    exact blk_new _ _
  have c0 := cell_of_blk hblk 0
  have c1 := cell_of_blk hblk 1
  simp only [List.getElem?_toArray, List.getElem?_cons_zero, List.getElem?_cons_succ] at c0 c1
  generalize (w.alloc (Obj.cells #[Value.slice none 0 0, Value.map (some (w.heap.size + 1))] 105)).alloc (Obj.map #[] 0) = wl at *
  refine bodyPost_ret (v := .agg #[.slice none 0 0, .map (some (w.heap.size + 1))]) ?_ rfl ?_
  · rw [results_cell1 rfl]
    go_simp
  · exact ⟨_, rfl, hM, by omega, hb⟩
def IterQ (w : World) (b0 o0 Bt Bp : Nat) : Prop := w.heap[Bt]? = some (.cells #[.pointer (some ⟨b0, o0, none⟩), .slice none 0 0] 111 (0, 0)) ∧ w.heap[Bp]? = some (.cells #[.func (.func 98) #[] #[]] 112 (0, 0))
set_option maxRecDepth 100000 in
theorem nodesOfQ_any (w : World) (b0 o0 : Nat) : Calls Tryd.prog 97 #[.agg #[.pointer (some ⟨b0, o0, none⟩), .slice none 0 0], .func (.func 98) #[] #[]] w fun e w' =>
    ∃ Bt Bp, e = .returned (.func (.func 110) #[] #[.pointer (some ⟨Bt, 0, none⟩), .pointer (some ⟨Bp, 0, none⟩)]) ∧ IterQ w' b0 o0 Bt Bp ∧ w.heap.size ≤ Bt ∧ w.heap.size ≤ Bp ∧ Below w.heap.size w w' := by
  go_enter Tryd.func97, Tryd.ntmps97
  go_wp2
  obtain ⟨wl, hwl, hsz, hbl, k1, k2⟩ := box_new2 w #[.pointer (some ⟨b0, o0, none⟩), .slice none 0 0] #[.func (.func 98) #[] #[]] 111 112
  rw [hwl]
  go_ret
  exact ⟨_, _, rfl, ⟨k1, k2⟩, by omega, by omega, hbl⟩
end Go.Proofs.YtfeijijeohfpgaaDoor
namespace Go.Proofs.YtfeijijeohfpgaaDoor
open Go Go.RowKit

def stkQ (st : List (List ByteArray)) (pre : List QI) : List (List ByteArray) := pre.foldl (fun st x => pushQ st x.2.1 x.2.2) st
theorem stkQ_snoc (st : List (List ByteArray)) (pre : List QI) (x : QI) : stkQ st (pre ++ [x]) = pushQ (stkQ st pre) x.2.1 x.2.2 := by simp [stkQ]
def OkQ : List QI → List (List ByteArray) → Prop
  | [], _ => True
  | x :: r, st => 1 ≤ x.2.2 ∧ x.2.2 ≤ st.length + 1 ∧ OkQ r (pushQ st x.2.1 x.2.2)
theorem okQ_at : ∀ (pre : List QI) (x : QI) (r : List QI) (st : List (List ByteArray)), OkQ (pre ++ x :: r) st → 1 ≤ x.2.2 ∧ x.2.2 ≤ (stkQ st pre).length + 1
  | [], x, r, st, h => ⟨h.1, h.2.1⟩
  | y :: pre, x, r, st, h => okQ_at pre x r _ h.2.2
mutual
theorem ok_walk : ∀ (t : Tm) (nm : List ByteArray) (d : Nat) (st : List (List ByteArray)) (r : List QI), 1 ≤ d → d - 1 ≤ st.length → (∀ st' : List (List ByteArray), d - 1 ≤ st'.length → OkQ r st') → OkQ (walkQ t nm d ++ r) st
  | .mk k a o n t x ts, nm, d, st, r, h1, hd, hr => by
    have hl := pushQ_len (nm := nm) h1 hd
    rw [walkQ, List.cons_append]
    refine ⟨h1, by show d ≤ st.length + 1; omega, ?_⟩
    by_cases hk : k = 1
    · rw [if_pos hk, List.nil_append]
      exact hr _ (by show d - 1 ≤ (pushQ st nm d).length; omega)
    · rw [if_neg hk]
      exact ok_walkS _ 0 ts (d + 1) _ r (by omega) (by show d + 1 - 1 ≤ (pushQ st nm d).length; omega) (fun st' h => hr st' (by omega))
theorem ok_walkS : ∀ (b : Nat → List ByteArray) (k : Nat) (ts : List Tm) (d : Nat) (st : List (List ByteArray)) (r : List QI), 1 ≤ d → d - 1 ≤ st.length → (∀ st' : List (List ByteArray), d - 1 ≤ st'.length → OkQ r st') → OkQ (walkQS b k ts d ++ r) st
  | b, k, [], d, st, r, h1, hd, hr => by rw [walkQS, List.nil_append]; exact hr st hd
  | b, k, t :: ts, d, st, r, h1, hd, hr => by
    rw [walkQS, List.append_assoc]
    exact ok_walk t (b k) d st _ h1 hd (fun st' h => ok_walkS b (k + 1) ts d st' r h1 h hr)
end
theorem ok_all (t : Tm) : OkQ (walkQ t [] 1) [] := by
  have h := ok_walk t [] 1 [] [] (Nat.le_refl _) (Nat.zero_le _) (fun _ _ => trivial)
  rwa [List.append_nil] at h
theorem ok_pre {t : Tm} {pre : List QI} {x : QI} (h : pre ++ [x] <+: walkQ t [] 1) : 1 ≤ x.2.2 ∧ x.2.2 ≤ (stkQ [] pre).length + 1 := by
  obtain ⟨r, hr⟩ := h
  have h1 := ok_all t
  rw [← hr, List.append_assoc] at h1
  exact okQ_at pre x r [] h1
theorem bndAt_size (t : Tm) (k : Nat) {s : ByteArray} (hs : s ∈ t.bndAt k) : s.size ≤ t.wt := by
  have h1 := t.wt_eq
  unfold Tm.bndAt at hs
  split at hs
  · unfold Tm.bnd at hs
    have h2 : s = t.name ∨ s = t.other := by
      repeat' split at hs
      all_goals simp at hs
      all_goals first
        | exact Or.inl hs
        | exact hs
    rcases h2 with rfl | rfl <;> omega
  · simp at hs
mutual
theorem memQ : ∀ (t : Tm) (nm : List ByteArray) (d : Nat) (x : QI), x ∈ walkQ t nm d → x.1.wt ≤ t.wt ∧ ∀ s ∈ x.2.1, s ∈ nm ∨ s.size ≤ t.wt
  | .mk k a o n t u ts, nm, d, x, h => by
    rw [walkQ] at h
    rcases List.mem_cons.1 h with rfl | h
    · exact ⟨Nat.le_refl _, fun s hs => Or.inl hs⟩
    · split at h
      · simp at h
      · obtain ⟨h1, h2⟩ := memQS _ 0 ts (d + 1) x h
        have hw := (Tm.mk k a o n t u ts).wt_eq
        have hw2 : wtS ts ≤ (Tm.mk k a o n t u ts).wt := by rw [hw]; simp only [Tm.args]; omega
        exact ⟨Nat.le_trans h1 hw2, fun s hs => Or.inr ((h2 s hs).elim (fun ⟨i, hi⟩ => bndAt_size _ _ hi) (fun h => Nat.le_trans h hw2))⟩
theorem memQS : ∀ (b : Nat → List ByteArray) (k : Nat) (ts : List Tm) (d : Nat) (x : QI), x ∈ walkQS b k ts d → x.1.wt ≤ wtS ts ∧ ∀ s ∈ x.2.1, (∃ i, s ∈ b i) ∨ s.size ≤ wtS ts
  | b, k, [], d, x, h => by simp [walkQS] at h
  | b, k, t :: ts, d, x, h => by
    rw [walkQS] at h
    have hw : t.wt ≤ wtS (t :: ts) ∧ wtS ts ≤ wtS (t :: ts) := by simp only [wtS]; omega
    rcases List.mem_append.1 h with h | h
    · obtain ⟨h1, h2⟩ := memQ t (b k) d x h
      exact ⟨Nat.le_trans h1 hw.1, fun s hs => (h2 s hs).imp (fun h => ⟨k, h⟩) (fun h => Nat.le_trans h hw.1)⟩
    · obtain ⟨h1, h2⟩ := memQS b (k + 1) ts d x h
      exact ⟨Nat.le_trans h1 hw.2, fun s hs => (h2 s hs).imp id (fun h => Nat.le_trans h hw.2)⟩
end
theorem stkQ_mem : ∀ (pre : List QI) (st : List (List ByteArray)) (l : List ByteArray), l ∈ stkQ st pre → l ∈ st ∨ ∃ x ∈ pre, l = x.2.1
  | [], st, l, h => Or.inl h
  | y :: pre, st, l, h => by
    rcases stkQ_mem pre _ l h with h | ⟨x, h1, h2⟩
    · unfold pushQ at h
      rcases List.mem_append.1 h with h | h
      · exact Or.inl (List.mem_of_mem_take h)
      · exact Or.inr ⟨y, List.mem_cons_self .., by simpa using h⟩
    · exact Or.inr ⟨x, List.mem_cons_of_mem _ h1, h2⟩
theorem stkQ_len : ∀ (pre : List QI) (st : List (List ByteArray)), (stkQ st pre).length ≤ st.length + pre.length
  | [], st => Nat.le_refl _
  | y :: pre, st => by
    have h := stkQ_len pre (pushQ st y.2.1 y.2.2)
    have h2 : (pushQ st y.2.1 y.2.2).length ≤ st.length + 1 := by simp [pushQ]; omega
    show (stkQ (pushQ st y.2.1 y.2.2) pre).length ≤ _
    simp only [List.length_cons]
    omega
theorem stkQ_small {t : Tm} {pre : List QI} (h : pre <+: walkQ t [] 1) (hn : t.wt ≤ 2097152) : ∀ l ∈ stkQ [] pre, ∀ s ∈ l, s.size ≤ maxLen := fun l hl s hs => by
  rcases stkQ_mem pre [] l hl with h1 | ⟨x, h1, rfl⟩
  · simp at h1
  · rcases (memQ t [] 1 x (h.subset h1)).2 s hs with h2 | h2
    · simp at h2
    · unfold maxLen; omega
theorem foundQ_snoc : ∀ (pre : List QI) (r : List QI) (st : List (List ByteArray)), foundQ (pre ++ r) st = foundQ pre st ++ foundQ r (stkQ st pre)
  | [], r, st => by simp [foundQ, stkQ]
  | y :: pre, r, st => by
    rw [List.cons_append]
    simp only [foundQ]
    rw [foundQ_snoc pre r, List.append_assoc]
    rfl
end Go.Proofs.YtfeijijeohfpgaaDoor
namespace Go.Proofs.YtfeijijeohfpgaaDoor
open Go Go.RowKit Go.Shelf
attribute [local go_sem] Oper.semAt_some
structure OccI (m : Nat) (Cx : Nat → Prop) (W : World) (l bs : Nat) (J : List ByteArray → (Nat → Prop) → (Nat → Prop) → World → Prop) (pre : List QI) (Bi Ni : Nat → Prop) (Wx : World) (Bs Bo No : Nat → Prop) (va : Value) (bm n : Nat) (f : ByteArray → Value) (xs : List Value) : Prop where
  split : ∀ z, Bi z ↔ Bs z ∨ Bo z
  apart : ∀ z, Bs z → ¬ Bo z ∧ W.heap.size < z
  names : ∀ z, Ni z → ¬ Bs z ∧ ¬ Bo z ∧ z < Wx.heap.size
  lt : ∀ z, Bi z → z < Wx.heap.size ∧ z ≠ W.heap.size
  none : ∀ z, ¬ No z
  ty : ∀ z, Bs z → ∀ cs fr, Wx.heap[z]? ≠ some (.cells cs 111 fr)
  sc : ScopeIs Wx bs (stkQ [] pre) (stkQ [] pre).flatten Bs Ni (4 * pre.length) va bm n f xs
  j : J (foundQ pre []) Bo No Wx
  yb : Wx.heap[W.heap.size]? = some (.cells #[.func (.yield l) #[] #[]] 74 (0, 0))
  size : m ≤ Wx.heap.size
  cb : ∀ z, Bs z → ¬ Cx z
theorem OccI.keep {Cx : Nat → Prop} {W A A' : World} {l bs : Nat} {J : List ByteArray → (Nat → Prop) → (Nat → Prop) → World → Prop} {pre : List QI} {Bi Ni Bs Bo No : Nat → Prop} {va : Value} {bm n m : Nat} {f : ByteArray → Value} {xs : List Value} (h : OccI m Cx W l bs J pre Bi Ni A Bs Bo No va bm n f xs) (hm : W.heap.size < m)
    (hJ : ∀ pre B N A A', J pre B N A → Keep W.heap.size (fun z => B z ∨ N z) A A' → J pre B N A') (hk : Keep m (fun z => Bi z ∨ Ni z) A A') : OccI m Cx W l bs J pre Bi Ni A' Bs Bo No va bm n f xs := by
  have hs := hk.1.size
  refine ⟨h.split, h.apart, fun z hz => ⟨(h.names z hz).1, (h.names z hz).2.1, Nat.lt_of_lt_of_le (h.names z hz).2.2 hs⟩, fun z hz => ⟨Nat.lt_of_lt_of_le (h.lt z hz).1 hs, (h.lt z hz).2⟩, h.none, fun z hz cs fr => ?_, h.sc.keep hs (fun b hb hl => hk.2 b (hb.imp (fun h2 => (h.split b).2 (Or.inl h2)) id) hl), hJ _ _ _ _ _ h.j (hk.mono (Nat.le_of_lt hm) (fun b hb => hb.elim (fun h2 => Or.inl ((h.split b).2 (Or.inr h2))) (fun h2 => absurd h2 (h.none b)))), (hk.1.block _ hm).trans h.yb, Nat.le_trans h.size hs, h.cb⟩
  have hb := (h.split z).2 (Or.inl hz)
  rw [hk.2 z (Or.inl hb) (h.lt z hb).1]
  exact h.ty z hz cs fr
theorem bndAt_len (t : Tm) (k : Nat) : (t.bndAt k).length ≤ 2 := by
  unfold Tm.bndAt
  split
  · exact bnd_len t
  · simp
mutual
theorem lenQ : ∀ (t : Tm) (nm : List ByteArray) (d : Nat) (x : QI), nm.length ≤ 2 → x ∈ walkQ t nm d → x.2.1.length ≤ 2
  | .mk k a o n t u ts, nm, d, x, hn, h => by
    rw [walkQ] at h
    rcases List.mem_cons.1 h with rfl | h
    · exact hn
    · split at h
      · simp at h
      · exact lenQS _ 0 ts (d + 1) x (bndAt_len _) h
theorem lenQS : ∀ (b : Nat → List ByteArray) (k : Nat) (ts : List Tm) (d : Nat) (x : QI), (∀ i, (b i).length ≤ 2) → x ∈ walkQS b k ts d → x.2.1.length ≤ 2
  | b, k, [], d, x, hb, h => by simp [walkQS] at h
  | b, k, t :: ts, d, x, hb, h => by
    rw [walkQS] at h
    rcases List.mem_append.1 h with h | h
    · exact lenQ t (b k) d x (hb k) h
    · exact lenQS b (k + 1) ts d x hb h
end
theorem TermAt.mono {w : World} {C C' : Nat → Prop} {t : Tm} {b o : Nat} (h : TermAt w C t b o) (hC : ∀ z, C z → C' z) : TermAt w C' t b o := by
  obtain ⟨tp, tc, rp, rc, p, c, h1, h2, h3, h4⟩ := h
  exact ⟨tp, tc, rp, rc, p, c, hC _ h1, h2, h3, h4.mono (fun z hz _ => hC z hz)⟩
def scB (bs bm : Nat) (va : Value) (f : ByteArray → Value) : Nat → Prop := fun z => z = bs ∨ z = bm ∨ va.ownBlock = some z ∨ ∃ s, (f s).ownBlock = some z
theorem ScopeIs.exact {w : World} {bs : Nat} {st : List (List ByteArray)} {fl : List ByteArray} {B N : Nat → Prop} {c : Nat} {va : Value} {bm n : Nat} {f : ByteArray → Value} {xs : List Value} (h : ScopeIs w bs st fl B N c va bm n f xs) :
    ScopeIs w bs st fl (scB bs bm va f) N c va bm n f xs ∧ (∀ z, scB bs bm va f z → B z) ∧ (∀ z, scB bs bm va f z → z < w.heap.size ∧ ∀ cs fr, w.heap[z]? ≠ some (.cells cs 111 fr)) := by
  refine ⟨⟨h.blk, h.own, h.nms, h.map, h.cnt, h.rows, h.apart, Or.inl rfl, Or.inr (Or.inl rfl), fun g hg => Or.inr (Or.inr (Or.inl hg)), fun s g hg => Or.inr (Or.inr (Or.inr ⟨s, hg⟩))⟩, fun z hz => ?_, fun z hz => ?_⟩
  · rcases hz with rfl | rfl | hz | ⟨s, hz⟩
    · exact h.inB.1
    · exact h.inB.2.1
    · exact h.inB.2.2.1 z hz
    · exact h.inB.2.2.2 s z hz
  · have fin : ∀ o, w.heap[z]? = some o → (∀ cs fr, o ≠ .cells cs 111 fr) → z < w.heap.size ∧ ∀ cs fr, w.heap[z]? ≠ some (.cells cs 111 fr) := fun o ho hne => ⟨(Array.getElem?_eq_some_iff.1 ho).1, fun cs fr e => hne cs fr (by rw [ho] at e; exact Option.some.inj e)⟩
    rcases hz with rfl | rfl | hz | ⟨s, hz⟩
    · exact fin _ h.blk (fun cs fr e => by simp at e)
    · obtain ⟨D, ⟨es, clock, hb0, _⟩, _⟩ := h.map
      exact fin _ hb0 (fun cs fr e => by cases e)
    · rcases h.own.2 with ⟨e1, _⟩ | ⟨g', cap', cur, e1, _, hblk, _⟩
      · rw [e1] at hz; cases hz
      · rw [e1] at hz
        simp only [Value.ownBlock, Option.some.injEq] at hz
        subst hz
        exact fin _ hblk (fun cs fr e => by simp at e)
    · obtain ⟨cs, hc⟩ := (h.rows s).lt hz
      exact fin _ hc (fun cs fr e => by simp at e)
theorem OccI.step {m : Nat} {Cx : Nat → Prop} {W Wx W2 W3 : World} {l bs : Nat} {J : List ByteArray → (Nat → Prop) → (Nat → Prop) → World → Prop} {pre : List QI} {x : QI} {B N Y Bs Bo No Bo' No' : Nat → Prop} {va va2 : Value} {bm n n2 : Nat} {f f2 : ByteArray → Value} {xs xs2 : List Value}
    (h : OccI m Cx W l bs J pre B N Wx Bs Bo No va bm n f xs) (hm : W.heap.size < m) (hCx : ∀ z, Cx z → z < m)
    (hsc : ScopeIs W2 bs (stkQ [] (pre ++ [x])) (stkQ [] (pre ++ [x])).flatten (fun b => Bs b ∨ Wx.heap.size ≤ b) (fun z => N z ∨ Y z) (4 * pre.length + 4) va2 bm n2 f2 xs2) (htu : Turns (fun b => Bs b ∨ Wx.heap.size ≤ b) Wx W2)
    (hY : ∀ z, Y z → ¬ B z ∧ z < Wx.heap.size) (hj : J (foundQ (pre ++ [x]) []) Bo' No' W3) (hno : ∀ z, ¬ No' z) (hgr : Grew Bo Bo' W2.heap.size W3.heap.size) (hh : Holds Bo W2 W3) :
    ∃ B' N', Grew B B' Wx.heap.size W3.heap.size ∧ (∀ z, N' z → N z ∨ Y z) ∧ Holds B Wx W3 ∧ ∃ (Bs Bo No : Nat → Prop) (va : Value) (n : Nat) (f : ByteArray → Value) (xs : List Value), OccI m Cx W l bs J (pre ++ [x]) B' N' W3 Bs Bo No va bm n f xs := by
  obtain ⟨hx1, hx2, hx3⟩ := hsc.exact
  have s1 := htu.size
  have s2 := hh.1
  have s0 := h.size
  have hBs : ∀ z, Bs z → B z := fun z hz => (h.split z).2 (Or.inl hz)
  have hBo : ∀ z, Bo z → B z := fun z hz => (h.split z).2 (Or.inr hz)
  have hold : Holds B Wx W3 := ⟨Nat.le_trans s1 s2, fun b hl hb => (hh.2 b (Nat.lt_of_lt_of_le hl s1) (fun e => hb (hBo b e))).trans (htu.kept b hl (fun e => e.elim (fun e => hb (hBs b e)) (fun e => by omega)))⟩
  have hgrew : Grew B (fun z => scB bs bm va2 f2 z ∨ Bo' z) Wx.heap.size W3.heap.size := by
    rintro b (hb | hb)
    · exact ⟨(hx2 b hb).imp (hBs b) id, Nat.lt_of_lt_of_le (hx3 b hb).1 s2⟩
    · obtain ⟨h1, h2⟩ := hgr b hb
      exact ⟨h1.imp (hBo b) (fun e => Nat.le_trans s1 e), h2⟩
  have hnb : ∀ z, scB bs bm va2 f2 z → ¬ Bo z := fun z hz hb => by
    rcases hx2 z hz with e | e
    · exact (h.apart z e).1 hb
    · have := (h.lt z (hBo z hb)).1; omega
  have hnn : ∀ z, N z ∨ Y z → ¬ B z ∧ z < Wx.heap.size := fun z hz => by
    rcases hz with hz | hz
    · exact ⟨fun e => ((h.split z).1 e).elim (h.names z hz).1 (h.names z hz).2.1, (h.names z hz).2.2⟩
    · exact hY z hz
  refine ⟨fun z => scB bs bm va2 f2 z ∨ Bo' z, fun z => N z ∨ Y z, hgrew, fun z hz => hz, hold, scB bs bm va2 f2, Bo', No', va2, n2, f2, xs2, ⟨fun _ => Iff.rfl, fun z hz => ⟨fun hb => ?_, ?_⟩, fun z hz => ⟨fun e => ?_, fun e => ?_, by have := (hnn z hz).2; omega⟩, fun z hz => ⟨(hgrew z hz).2, fun e => ?_⟩, hno, fun z hz cs fr => ?_, ?_, hj, ?_, by omega, fun z hz hc => ?_⟩⟩
  · rcases (hgr z hb).1 with e | e
    · exact hnb z hz e
    · have := (hx3 z hz).1; omega
  · rcases hx2 z hz with e | e
    · exact (h.apart z e).2
    · omega
  · rcases hx2 z e with e | e
    · exact (hnn z hz).1 (hBs z e)
    · have := (hnn z hz).2; omega
  · rcases (hgr z e).1 with e | e
    · exact (hnn z hz).1 (hBo z e)
    · have := (hnn z hz).2; omega
  · rcases (hgrew z hz).1 with e2 | e2
    · exact (h.lt z e2).2 e
    · omega
  · rw [hh.2 z (hx3 z hz).1 (hnb z hz)]
    exact (hx3 z hz).2 cs fr
  · refine (hx1.keep s2 (fun b hb hl => hh.2 b hl (fun e => ?_))).wide (fun _ h => h) (fun _ h => h) (by rw [List.length_append, List.length_singleton]; omega)
    rcases hb with hb | hb
    · exact hnb b hb e
    · exact (hnn b hb).1 (hBo b e)
  · exact (hold.2 W.heap.size (by omega) (fun e => (h.lt _ e).2 rfl)).trans h.yb
  · rcases hx2 z hz with e | e
    · exact h.cb z e hc
    · have := hCx z hc; omega
theorem OccI.stop {m : Nat} {Cx : Nat → Prop} {W Wx W2 W3 : World} {l bs : Nat} {J Jx : List ByteArray → (Nat → Prop) → (Nat → Prop) → World → Prop} {pre : List QI} {B N Y Bs Bo No Bo' No' : Nat → Prop} {va : Value} {bm n : Nat} {f : ByteArray → Value} {xs : List Value} {all q : List ByteArray}
    (h : OccI m Cx W l bs J pre B N Wx Bs Bo No va bm n f xs) (htu : Turns (fun b => Bs b ∨ Wx.heap.size ≤ b) Wx W2) (hgr : Grew Bo Bo' W2.heap.size W3.heap.size) (hh : Holds Bo W2 W3) (hno : ∀ z, ¬ No' z) (hq : q <+: all) (hj : Jx q Bo' No' W3) :
    ∃ B' N' : Nat → Prop, Grew B B' Wx.heap.size W3.heap.size ∧ (∀ z, N' z → N z ∨ Y z) ∧ Holds B Wx W3 ∧ ∃ (Bo No : Nat → Prop) (q : List ByteArray), q <+: all ∧ (∀ z, Bo z → B' z) ∧ (∀ z, ¬ No z) ∧ Jx q Bo No W3 := by
  have s1 := htu.size
  have s2 := hh.1
  refine ⟨Bo', fun _ => False, fun z hz => ?_, fun z hz => hz.elim, ⟨Nat.le_trans s1 s2, fun b hl hb => ?_⟩, Bo', No', q, hq, fun z hz => hz, hno, hj⟩
  · obtain ⟨h1, h2⟩ := hgr z hz
    exact ⟨h1.imp (fun e => (h.split z).2 (Or.inr e)) (fun e => Nat.le_trans s1 e), h2⟩
  · refine (hh.2 b (Nat.lt_of_lt_of_le hl s1) (fun e => hb ((h.split b).2 (Or.inr e)))).trans (htu.kept b hl (fun e => e.elim (fun e => hb ((h.split b).2 (Or.inl e))) (fun e => by omega)))
theorem scope_start {w : World} {bs bm : Nat} {N : Nat → Prop} (hb : w.heap[bs]? = some (.cells #[.slice none 0 0, .map (some bm)] 105 (0, 0))) (hm : MapV Tryd.prog 9 w bm 0 (.slice none 0 0) (fun _ => .slice none 0 0)) :
    ScopeIs w bs [] [] (fun z => z = bs ∨ z = bm) N 0 (.slice none 0 0) bm 0 (fun _ => .slice none 0 0) [] :=
  ⟨hb, World.ownsRow_nil w _ _ _, fun i nm v h1 _ => (by simp at h1), hm, (by simp), fun s => ⟨[], World.ownsRow_nil w _ _ _, fun y hy => (by simp at hy)⟩, fun _ _ g _ h _ => (by cases h), Or.inl rfl, Or.inr rfl, fun g h => (by cases h), fun _ g h => (by cases h)⟩
end Go.Proofs.YtfeijijeohfpgaaDoor
namespace Go.Proofs.YtfeijijeohfpgaaDoor
open Go Go.RowKit Go.Shelf
attribute [local go_sem] Oper.semAt_some

set_option maxRecDepth 100000 in
set_option maxHeartbeats 4000000 in
theorem occ_it (l Be : Nat) (t : Tm) (C B0 : Nat → Prop) (W : World) (J Jx : List ByteArray → (Nat → Prop) → (Nat → Prop) → World → Prop)
    (hT : TermAt W C t Be 0) (hn : t.wt ≤ 2097152) (hka : KA W) (hkc : C 1) (hC : ∀ b, C b → b < W.heap.size) (hCB : ∀ b, C b → ¬ B0 b) (hB0 : ∀ b, B0 b → b < W.heap.size)
    (hJ : ∀ pre B N A A', J pre B N A → Keep W.heap.size (fun z => B z ∨ N z) A A' → J pre B N A') (hJx : ∀ pre B N A A', Jx pre B N A → Keep W.heap.size (fun z => B z ∨ N z) A A' → Jx pre B N A')
    (hY : ∀ (pre : List ByteArray) (x : ByteArray) (Y B N : Nat → Prop) (W1 : World), J pre B N W1 → pre ++ [x] <+: t.occ [] → (∀ z : Nat, ¬ Y z) → YieldAt Fence.wide 1 Tryd.prog l #[.string x] W1 fun e W' =>
      ∃ B' N', Grew B B' W1.heap.size W'.heap.size ∧ (∀ z, N' z → N z ∨ Y z) ∧ ((e = .returned (.bool true) ∧ J (pre ++ [x]) B' N' W' ∧ Holds B W1 W') ∨ (e = .returned (.bool false) ∧ Jx (pre ++ [x]) B' N' W' ∧ Holds B W1 W')))
    (h0 : J [] B0 (fun _ => False) W) :
    CallsIn Fence.wide 2 Tryd.prog 95 #[.func (.yield l) #[] #[], .pointer (some ⟨Be, 0, none⟩)] W fun e W' =>
      (∃ v, e = .returned v) ∧ ((∃ B' N', J (t.occ []) B' N' W') ∨ ∃ pre B' N', pre <+: t.occ [] ∧ Jx pre B' N' W') := by
  have HLN : (walkQ t [] 1).length ≤ 2097153 := Nat.le_trans (walkQ_nodes t [] 1) (by have := t.nodes_wt; omega)
  have HT := Lib.hid hT
  have HY := Lib.hid hY
  have HJ := Lib.hid hJ
  have HJX := Lib.hid hJx
  have HJ0 := Lib.hid h0
  have HB0 := Lib.hid hB0
  have HC := Lib.hid hC
  have HCB := Lib.hid hCB
  have HN := Lib.hid hn
  have HKA := Lib.hid hka
  have HKC := Lib.hid hkc
  clear hT hY hJ hJx h0 hB0 hC hCB hn hka hkc
  refine callsIn_of_wp_marks Tryd.func95 rfl trivial ?_ rfl
  simp only [Tryd.ntmps95, List.size_toArray, List.length_cons, List.length_nil, Nat.reduceAdd, Nat.reduceSub, Array.replicate_succ, Array.replicate_zero, List.push_toArray, List.append_toArray, List.nil_append, List.cons_append]
  refine wpIn_wide.2 ?_
  go_wp2_with fail
  obtain ⟨wy, hwy, hsy, hby, ky⟩ := box_new W #[.func (.yield l) #[] #[]] 74
  rw [hwy]
  refine (newScope_any wy).mono ?_
  rintro e wa ⟨bm, rfl, hmap, hbm, hba⟩
  have HWY := Lib.hid (And.intro hsy (And.intro hby ky))
  have HMP := Lib.hid hmap
  have HBA := Lib.hid hba
  clear hwy hsy hby ky hmap hba
  go_wp2_with fail
  obtain ⟨wb, hwb, hsb, hbb, kb⟩ := box_new wa #[.slice none 0 0, .map (some bm)] 105
  rw [hwb]
  refine (nodesOfQ_any wb Be 0).mono ?_
  rintro e wc ⟨Bt, Bp, rfl, hit, hbt, hbp, hbc⟩
  have HWB := Lib.hid (And.intro hsb (And.intro hbb kb))
  have HIT := Lib.hid hit
  have HBC := Lib.hid hbc
  clear hwb hsb hbb kb hit hbc
  go_wp2_with fail
  obtain ⟨s1, b1, y1⟩ := HWY.out
  obtain ⟨s2, b2, k2⟩ := HWB.out
  have sa := HBA.out.size
  have sc := HBC.out.size
  have hbW : Below W.heap.size W wc := (b1.trans (HBA.out.mono (by omega))).trans ((b2.mono (by omega)).trans (HBC.out.mono (by omega)))
  have HBW := Lib.hid hbW
  have yc : wc.heap[W.heap.size]? = some (.cells #[.func (.yield l) #[] #[]] 74 (0, 0)) := (HBC.out.block _ (by omega)).trans ((b2.block _ (by omega)).trans ((HBA.out.block _ (by omega)).trans y1))
  have kc : wc.heap[wa.heap.size]? = some (.cells #[.slice none 0 0, .map (some bm)] 105 (0, 0)) := (HBC.out.block _ (by omega)).trans k2
  have hbml := HMP.out.lt
  have hmc := HMP.out.of_block (w' := wc) ((HBC.out.block _ (by omega)).trans (b2.block _ (by omega)))
  have hstart := scope_start (N := fun _ => False) kc hmc
  have HSTART := Lib.hid hstart
  have HYC := Lib.hid yc
  have HBM := Lib.hid hbml
  clear hbW yc kc hmc hstart y1 k2 b1 b2
  refine (wpIn_wide (n := 2)).1 ?_
  refine rangeD_law (F := Fence.wide) (n := 2) rfl (by omega) (gf := 110) (lb := #[.pointer (some ⟨Bt, 0, none⟩), .pointer (some ⟨Bp, 0, none⟩)]) rfl trivial (enters_of Tryd.func110 (by kernel_rfl) rfl)
    (B0 := fun z => (z = wa.heap.size ∨ z = bm) ∨ B0 z)
    (nodesQ_seq (C := fun z => C z ∨ z = Bp) HIT.out.1 HIT.out.2 ?hT HN.out (HKA.out.below HBW.out) (Or.inl HKC.out) (fun b hb => ?hC) (Or.inr rfl)) (fun _ => rfl) (fun b hb => ?hCB) (fun b hb => ?hC2) (fun b hb => ?hB0)
    (fun pre B N Wx => ∃ (Bs Bo No : Nat → Prop) (va : Value) (n : Nat) (f : ByteArray → Value) (xs : List Value), OccI wc.heap.size (fun z => C z ∨ z = Bp) W l wa.heap.size J pre B N Wx Bs Bo No va bm n f xs)
    (fun c pre B N Wx => c = .ret ∧ ∃ (Bo No : Nat → Prop) (q : List ByteArray), q <+: t.occ [] ∧ (∀ z, Bo z → B z) ∧ (∀ z, ¬ No z) ∧ Jx q Bo No Wx)
    ?hI ?hIx ?hG (fun pre B N A h z hz => by obtain ⟨Bs, Bo, No, va, n, f, xs, h⟩ := h; exact (h.lt z hz).1) (fun x Y A z hg hz => goodQ_cells hg hz) ?h0
    (fun x _ a' Wx => ∃ b4 : Nat, a' = { tmps := #[.func (.yield l) #[] #[], .pointer (some ⟨Be, 0, none⟩), .pointer (some ⟨W.heap.size, 0, none⟩), .pointer (some ⟨wa.heap.size, 0, none⟩), .pointer (some ⟨b4, 0, none⟩), .int .i64 (x.1.2.2 : Nat), .agg #[.slice none 0 0, .map (some bm)], .agg #[.pointer (some ⟨Be, 0, none⟩), .slice none 0 0], .func (.func 110) #[] #[.pointer (some ⟨Bt, 0, none⟩), .pointer (some ⟨Bp, 0, none⟩)], .agg #[.pointer (some ⟨x.2.1, x.2.2.1, none⟩), x.2.2.2], .int .i64 (x.1.2.2 : Nat), undef, undef, undef, undef, undef, undef, undef, undef, undef, undef, undef, undef, undef, undef, undef, undef, undef, undef, undef, undef, undef, undef, undef, undef, undef, undef, undef, undef], defers := [] } ∧ Wx.heap[b4]? = some (.cells #[.pointer (some ⟨x.2.1, x.2.2.1, none⟩), x.2.2.2] 111 (0, 0)))
    ?hAx ?assign ?body ?done ?stop
  case hT => exact (HT.out.stays (.of_below HBW.out)).mono (fun z hz => Or.inl hz)
  case hC =>
    rcases hb with hb | rfl
    · exact Nat.lt_of_lt_of_le (HC.out b hb) HBW.out.size
    · exact (Array.getElem?_eq_some_iff.1 HIT.out.2).1
  case hC2 =>
    rcases hb with hb | rfl
    · exact Nat.lt_of_lt_of_le (HC.out b hb) HBW.out.size
    · exact (Array.getElem?_eq_some_iff.1 HIT.out.2).1
  case hCB =>
    have hbm1 := HBM.out
    rintro ((rfl | rfl) | h)
    · rcases hb with hb | hb
      · have := HC.out _ hb; omega
      · omega
    · rcases hb with hb | hb
      · have := HC.out _ hb; omega
      · omega
    · rcases hb with hb | hb
      · exact HCB.out b hb h
      · have := HB0.out b h; omega
  case hB0 =>
    have hbm1 := HBM.out
    rcases hb with (rfl | rfl) | h
    · omega
    · omega
    · have := HB0.out b h; omega
  case hI =>
    rintro pre B N A A' ⟨Bs, Bo, No, va, n, f, xs, h⟩ hk
    exact ⟨Bs, Bo, No, va, n, f, xs, h.keep (by omega) HJ.out hk⟩
  case hIx =>
    rintro c pre B N A A' ⟨e, Bo, No, q, h1, h2, h3, h4⟩ hk
    exact ⟨e, Bo, No, q, h1, h2, h3, HJX.out _ _ _ _ _ h4 (hk.mono (by omega) (fun b hb => hb.elim (fun h => Or.inl (h2 b h)) (fun h => absurd h (h3 b))))⟩
  case hG =>
    intro x Y A A' l' r hl hg hr hA
    refine goodQ_loop hg hr hA (fun h => ?_)
    rcases h with h | h
    · have := HC.out _ h; omega
    · have := (Array.getElem?_eq_some_iff.1 HIT.out.2).1; omega
  case h0 =>
    have hbm1 := HBM.out
    obtain ⟨_, _, hty⟩ := HSTART.out.exact
    refine ⟨fun z => z = wa.heap.size ∨ z = bm, B0, fun _ => False, .slice none 0 0, 0, fun _ => .slice none 0 0, [], ⟨fun _ => Iff.rfl, fun z hz => ⟨fun h => ?_, ?_⟩, fun z hz => hz.elim, fun z hz => ⟨?_, ?_⟩, fun z hz => hz, fun z hz => (hty z (hz.imp id Or.inl)).2, HSTART.out, HJ.out _ _ _ _ _ HJ0.out (.of_below (Nat.le_refl _) HBW.out), HYC.out, Nat.le_refl _, fun z hz h => ?_⟩⟩
    · have := HB0.out z h
      rcases hz with rfl | rfl <;> omega
    · rcases hz with rfl | rfl <;> omega
    · rcases hz with (rfl | rfl) | h
      · omega
      · omega
      · have := HB0.out z h; omega
    · rcases hz with (rfl | rfl) | h
      · omega
      · omega
      · have := HB0.out z h; omega
    · rcases h with h | h
      · have := HC.out z h
        rcases hz with rfl | rfl <;> omega
      · rcases hz with rfl | rfl <;> omega
  case hAx =>
    rintro x _ a' Wx l' r o ⟨b4, e, h⟩ hl
    exact ⟨b4, e, (World.putObj_heap_other (by rintro rfl; rw [hl] at h; cases h)).trans h⟩
  case assign =>
    intro l' x Y Wx K hg hK
    obtain ⟨⟨xt, xn, xd⟩, xb, xo, sv⟩ := x
    obtain ⟨q, cp, rfl⟩ : ∃ q cp, sv = .slice q xn.length cp := by
      rcases hg.2.1 with ⟨e0, e⟩ | ⟨_, g, cap, e, _⟩
      · simp only at e0 e
        exact ⟨_, _, by rw [e, e0]; rfl⟩
      · exact ⟨_, _, e⟩
    gi_wp2
    exact hK _ _ ((Below.refl _ Wx).alloc (Nat.le_refl _) _) ⟨_, rfl, blk_new _ _⟩
  case done =>
    rintro D B N Wx hD hne ⟨Bs, Bo, No, va, n, f, xs, hI⟩ hK
    gi_wp2
    refine ⟨by simp, .inl ⟨_, _, rfl, run_takeDeferred hK, ?_⟩⟩
    refine ⟨_, results_none rfl _ _ _, ⟨_, rfl⟩, .inl ⟨Bo, No, ?_⟩⟩
    rw [← found_occ]
    exact HJ.out _ _ _ _ _ hI.j ⟨below_putObj _ _ _ _ (by omega), fun z hz _ => World.putObj_heap_other (hz.elim (fun h => hne z (Or.inl ((hI.split z).2 (Or.inr h)))) (fun h => absurd h (hI.none z)))⟩
  case stop =>
    rintro D c pre B N Wx hD hne hpre ⟨rfl, Bo, No, q, h1, h2, h3, h4⟩ hK
    gi_wp2
    refine ⟨by simp, .inl ⟨_, _, rfl, run_takeDeferred hK, ?_⟩⟩
    refine ⟨_, results_none rfl _ _ _, ⟨_, rfl⟩, .inr ⟨q, Bo, No, h1, ?_⟩⟩
    exact HJX.out _ _ _ _ _ h4 ⟨below_putObj _ _ _ _ (by omega), fun z hz _ => World.putObj_heap_other (hz.elim (fun h => hne z (Or.inl (h2 z h))) (fun h => absurd h (h3 z)))⟩
  case body =>
    rintro l' pre x _ a' Y B N Wx ⟨Bs, Bo, No, va, n, f, xs, hI⟩ hpre hg hYB _ ⟨b4, rfl, hb4⟩ ⟨r, hl⟩ hBl
    obtain ⟨⟨xt, xn, xd⟩, xb, xo, sv⟩ := x
    have hpre : pre ++ [(xt, xn, xd)] <+: walkQ t [] 1 := hpre
    have hb4 : Wx.heap[b4]? = some (.cells #[.pointer (some ⟨xb, xo, none⟩), sv] 111 (0, 0)) := hb4
    have hg1 : TermAt Wx (fun z => C z ∨ z = Bp) xt xb xo := hg.1
    have hg2 : NamesAt Wx Y xn sv := hg.2.1
    have hg3 : ∀ z, Y z → sv.ownBlock = some z := hg.2.2
    have hmem : (xt, xn, xd) ∈ walkQ t [] 1 := hpre.subset (by simp)
    have hwt := memQ t [] 1 _ hmem
    have hlen2 := lenQ t [] 1 _ (by simp) hmem
    have hok := ok_pre hpre
    have hplen : pre.length + 1 ≤ 2097153 := by
      have h1 := hpre.length_le
      have h2 := HLN
      rw [List.length_append, List.length_singleton] at h1
      omega
    have hYlt : ∀ z, Y z → z < Wx.heap.size := fun z hz => by
      have hv := hg3 z hz
      rcases hg2 with ⟨_, e⟩ | ⟨_, g, cap, e, _, h3, _⟩
      · rw [e] at hv; cases hv
      · rw [e] at hv
        simp only [Value.ownBlock, Option.some.injEq] at hv
        omega
    have hstl := stkQ_len pre []
    have hent := enter_any (w := Wx) (bs := wa.heap.size) (st := stkQ [] pre) (nm := xn) (B := Bs) (N := fun z => N z ∨ Y z) (c := 4 * pre.length) (va := va) (pt := .pointer (some ⟨xb, xo, none⟩)) (pv := sv) (bm := bm) (n := n) (d := xd) (f := f) (xs := xs)
      (hI.sc.wide (fun _ h => h) (fun _ h => Or.inl h) (Nat.le_refl _)) (hg2.mono (fun z hz _ => Or.inr hz)) (stkQ_small ⟨_, (List.append_assoc ..).symm.trans hpre.choose_spec⟩ HN.out)
      (fun s hs => by
        rcases hwt.2 s hs with h | h
        · simp at h
        · have := HN.out; unfold maxLen; omega)
      (fun z hz => by
        rcases hz with hz | hz
        · exact ⟨(hI.names z hz).1, (hI.names z hz).2.2⟩
        · exact ⟨fun h => hYB z hz ((hI.split z).2 (Or.inl h)), hYlt z hz⟩)
      (fun z hz => (hI.lt z ((hI.split z).2 (Or.inl hz))).1) (by omega) hok.1 hok.2 (by simp only [List.length_nil] at hstl; omega) hlen2
    have HENT := Lib.hid hent
    generalize hQx : postD B N Y _ _ _ Wx = Qx
    have HQX := Lib.hid hQx
    clear hQx
    have d0 := cell_of_blk hb4 0
    have d1 := cell_of_blk hb4 1
    simp only [List.getElem?_toArray, List.getElem?_cons_zero, List.getElem?_cons_succ] at d0 d1
    have HI := Lib.hid hI
    have HP := Lib.hid hpre
    have HG := Lib.hid (And.intro hg1 (And.intro hg2 hg3))
    have HB4 := Lib.hid hb4
    have HYB := Lib.hid hYB
    have HYL := Lib.hid hYlt
    have HW := Lib.hid hwt
    clear hent hI hpre hg hg1 hg2 hg3 hb4 hmem hwt hok hYB hYlt hstl hl
    gi_wp2_with fail
    refine ⟨trivial, rfl, ?_⟩
    refine (CallsIn.inRound l' (callsIn_wide.2 HENT.out)).mono ?_
    rintro e W2 ⟨⟨v, rfl⟩, va2, n2, f2, xs2, hsc2, htu⟩
    have hst : Stays (fun z => C z ∨ z = Bp) Wx W2 := ⟨htu.size, fun z hz hl => htu.kept z hl (fun h => by
      rcases h with h | h
      · exact HI.out.cb z h hz
      · omega)⟩
    obtain ⟨xp, xq, xr, xs0, xu, xv, hcx, hcl, h9, hTM⟩ := HG.out.1.stays hst
    have hb42 : W2.heap[b4]? = some (.cells #[.pointer (some ⟨xb, xo, none⟩), sv] 111 (0, 0)) := (htu.kept b4 (Array.getElem?_eq_some_iff.1 HB4.out).1 (fun h => by
      rcases h with h | h
      · exact HI.out.ty b4 h _ _ HB4.out
      · have := (Array.getElem?_eq_some_iff.1 HB4.out).1; omega)).trans HB4.out
    have e0 := cell_of_blk hb42 0
    have e1 := cell_of_blk hb42 1
    simp only [List.getElem?_toArray, List.getElem?_cons_zero, List.getElem?_cons_succ] at e0 e1
    have k9 := h9.kind
    have n9 := h9.name
    have HSC := Lib.hid hsc2
    have HTU := Lib.hid htu
    have HST := Lib.hid hst
    have H9 := Lib.hid h9
    have HB42 := Lib.hid hb42
    clear hsc2 htu hst h9 hb42 hTM d0 d1 hcx hcl
    have hsz := HI.out.size
    have hsub : ∀ z, Bs z ∨ Wx.heap.size ≤ z → W.heap.size ≤ z := fun z hz => hz.elim (fun h => Nat.le_of_lt (HI.out.apart z h).2) (fun h => by omega)
    have hbel : Below W.heap.size Wx W2.drew := (HTU.out.below W.heap.size (by omega) hsub).drew
    have hj0 : J (foundQ pre []) Bo No W2.drew := HJ.out _ _ _ _ _ HI.out.j ⟨hbel, fun z hz hl => HTU.out.kept z hl (fun e => by
      rcases hz with hz | hz
      · rcases e with e | e
        · exact (HI.out.apart z e).1 hz
        · omega
      · exact HI.out.none z hz)⟩
    have hCx : ∀ z, C z ∨ z = Bp → z < wc.heap.size := fun z hz => hz.elim (fun h => by have := HC.out z h; omega) (fun h => by rw [h]; exact (Array.getElem?_eq_some_iff.1 HIT.out.2).1)
    have hBoW : ∀ z, Bo z → z < W2.drew.heap.size := fun z hz => Nat.lt_of_lt_of_le (HI.out.lt z ((HI.out.split z).2 (Or.inr hz))).1 HTU.out.size
    have hend := fun (W3 : World) (Bo' No' : Nat → Prop) (h1 : J (foundQ (pre ++ [(xt, xn, xd)]) []) Bo' No' W3) (h2 : ∀ z, ¬ No' z) (h3 : Grew Bo Bo' W2.heap.size W3.heap.size) (h4 : Holds Bo W2 W3) =>
      OccI.step (W2 := W2) (W3 := W3) HI.out (by omega) hCx (by rw [stkQ_snoc]; exact HSC.out) HTU.out (fun z hz => ⟨HYB.out z hz, HYL.out z hz⟩) h1 h2 h3 h4
    have hnohit : foundQ [(xt, xn, xd)] (stkQ [] pre) = [] → ∀ a, Qx Exit.normal a W2.drew := fun h a => by
      rw [← HQX.out]
      exact hend W2.drew Bo No (by rw [foundQ_snoc, h, List.append_nil]; exact hj0) HI.out.none (Grew.refl hBoW) (Holds.refl _ _)
    have yb2 : W2.heap[W.heap.size]? = some (.cells #[.func (.yield l) #[] #[]] 74 (0, 0)) := (HTU.out.kept _ (by omega) (fun e => by
      rcases e with e | e
      · exact (HI.out.lt _ ((HI.out.split _).2 (Or.inl e))).2 rfl
      · omega)).trans HI.out.yb
    have yc0 := cell_of_blk yb2 0
    simp only [List.getElem?_toArray, List.getElem?_cons_zero] at yc0
    have HEND := Lib.hid hend
    have HNH := Lib.hid hnohit
    have HJ1 := Lib.hid hj0
    have HBOW := Lib.hid hBoW
    clear hend hnohit hj0 hBoW hCx hbel hsub yb2 hsz
    by_cases hk : xt.kind = 1
    · have q0 : (xt.kind == 1) = true := by simp [hk]
      have HK := Lib.hid hk
      clear hk
      have hfn : ∀ k, Fence.wide.fn k := fun _ => trivial
      have hfo : Tryd.prog.follows .mixedOrders = true := by kernel_rfl
      have hnz : xt.name.size ≤ maxLen := by
        have h1 : xt.wt ≤ t.wt := HW.out.1
        have h2 := xt.wt_eq
        have h3 := HN.out
        unfold maxLen
        omega
      have hpl := placeOf_any (HSC.out.keep (w' := W2.drew) (Nat.le_refl _) (fun _ _ _ => rfl)) xt.name hnz
      have HPL := Lib.hid hpl
      clear hpl hnz
      cases hb : hasN xt.name (stkQ [] (pre ++ [(xt, xn, xd)])).flatten with
      | true =>
        have hpl2 : Calls Tryd.prog 100 #[.pointer (some ⟨wa.heap.size, 0, none⟩), .string xt.name] W2.drew (fun e w' => (∃ p : Int, e = .returned (.int .i64 p) ∧ (p == 0) = false) ∧ w' = W2.drew) := HPL.out.mono (by
          rintro e w' ⟨⟨p, he, hp⟩, hw⟩
          refine ⟨⟨p, he, ?_⟩, hw⟩
          have h0 : ¬ p = 0 := fun h => by
            have h2 := hp.1 h
            rw [stkQ_snoc] at hb
            exact absurd (h2.symm.trans hb) (by simp)
          simp [h0])
        have HPL2 := Lib.hid hpl2
        rw [stkQ_snoc] at hb
        have HBD := Lib.hid hb
        clear hpl2 hb HPL
        gi_wp2_with fail
        gi_region_with_o (first | refine ⟨trivial, rfl, ?_⟩ | refine ⟨rfl, ?_⟩ | skip; refine (CallsIn.inRound l' (callsIn_wide.2 HPL2.out)).mono ?_; rintro e w1 ⟨⟨p, rfl, hp⟩, rfl⟩)
        all_goals
          gi_wp2_with fail
          exact HNH.out (by simp only [foundQ, hitQ, HBD.out]; simp) _
      | false =>
        rw [stkQ_snoc] at hb
        have hpl2 : Calls Tryd.prog 100 #[.pointer (some ⟨wa.heap.size, 0, none⟩), .string xt.name] W2.drew (fun e w' => e = .returned (.int .i64 0) ∧ w' = W2.drew) := HPL.out.mono (by
          rintro e w' ⟨⟨p, he, hp⟩, hw⟩
          rw [he, hp.2 hb]
          exact ⟨rfl, hw⟩)
        have HPL2 := Lib.hid hpl2
        have hhit : foundQ [(xt, xn, xd)] (stkQ [] pre) = [xt.name] := by simp only [foundQ, hitQ, hb, HK.out]; simp
        have hpocc : foundQ pre [] ++ [xt.name] <+: t.occ [] := by
          obtain ⟨r, hr⟩ := HP.out
          rw [← found_occ, ← hr, foundQ_snoc, foundQ_snoc, hhit]
          exact List.prefix_append _ _
        obtain ⟨fn, tmps, assign, body, hy, hR⟩ := YieldAt.any (b := 0) (HY.out (foundQ pre []) xt.name (fun _ => False) Bo No W2.drew HJ1.out hpocc (fun _ h => h)) l'
        have HR := Lib.hid hR
        have HHIT := Lib.hid hhit
        have HPO := Lib.hid hpocc
        clear hpl2 hb HPL hhit hpocc hR
        gi_wp2_with fail
        gi_region_with_o (first | ((first | refine ⟨trivial, rfl, ?_⟩ | refine ⟨rfl, ?_⟩ | skip); refine HR.out.mono ?_; rintro e W3 ⟨Bo', No', hgr3, hno3, hcase⟩; obtain ⟨bb, rfl, hcase2⟩ : ∃ bb : Bool, e = .returned (.bool bb) ∧ ((bb = true ∧ J (foundQ pre [] ++ [xt.name]) Bo' No' W3 ∧ Holds Bo W2.drew W3) ∨ (bb = false ∧ Jx (foundQ pre [] ++ [xt.name]) Bo' No' W3 ∧ Holds Bo W2.drew W3)) := hcase.elim (fun h => ⟨true, h.1, Or.inl ⟨rfl, h.2⟩⟩) (fun h => ⟨false, h.1, Or.inr ⟨rfl, h.2⟩⟩)) | ((first | refine ⟨trivial, rfl, ?_⟩ | refine ⟨rfl, ?_⟩ | skip); refine (CallsIn.inRound l' (callsIn_wide.2 HPL2.out)).mono ?_; rintro e w1 ⟨rfl, rfl⟩))
        all_goals
          have HCASE := Lib.hid (And.intro hgr3 (And.intro hno3 hcase2))
          clear hgr3 hno3 hcase2
          cases bb with
          | true =>
            gi_wp2_with fail
            rw [← HQX.out]
            obtain ⟨hg3, hn3, hc3⟩ := HCASE.out
            rcases hc3 with ⟨-, hj3, hh3⟩ | ⟨hf, _⟩
            · exact HEND.out W3 Bo' No' (by rw [foundQ_snoc, HHIT.out]; exact hj3) (fun z hz => (hn3 z hz).elim (HI.out.none z) id) hg3 hh3
            · cases hf
          | false =>
            gi_wp2_with fail
            rw [← HQX.out]
            obtain ⟨hg3, hn3, hc3⟩ := HCASE.out
            rcases hc3 with ⟨hf, _⟩ | ⟨-, hj3, hh3⟩
            · cases hf
            · obtain ⟨B', N', h1, h2, h3, h4⟩ := OccI.stop (W2 := W2) (Y := Y) HI.out HTU.out hg3 hh3 (fun z hz => (hn3 z hz).elim (HI.out.none z) id) HPO.out hj3
              exact ⟨B', N', h1, h2, h3, rfl, h4⟩
    · have q0 : (xt.kind == 1) = false := by simp [hk]
      have HK := Lib.hid hk
      clear hk
      have hfn : ∀ k, Fence.wide.fn k := fun _ => trivial
      have hfo : Tryd.prog.follows .mixedOrders = true := by kernel_rfl
      gi_wp2_with fail
      gi_region_o
      all_goals
        gi_wp2_with fail
        exact HNH.out (by simp [foundQ, hitQ, HK.out]) _
end Go.Proofs.YtfeijijeohfpgaaDoor
namespace Go.Proofs.YtfeijijeohfpgaaDoor
open Go Go.RowKit Go.Shelf
attribute [local go_sem] Oper.semAt_some

abbrev iterO (Be : Nat) : Value := .func (.func 95) #[] #[.pointer (some ⟨Be, 0, none⟩)]
abbrev encO (x : ByteArray) : Array Value := #[.string x]
def GoodO (_ : ByteArray) (Y : Nat → Prop) (_ : World) : Prop := ∀ z, ¬ Y z
theorem occ_seq {w wl : World} {C : Nat → Prop} {t : Tm} {Be : Nat} (hT : TermAt w C t Be 0) (hn : t.wt ≤ 2097152) (hka : KA w) (hkc : C 1) (hb : Below w.heap.size w wl) (hC : ∀ b, C b → b < w.heap.size) :
    SeqD Fence.wide 2 Tryd.prog 95 #[.pointer (some ⟨Be, 0, none⟩)] encO id GoodO C (t.occ []) wl := by
  intro l J Jx B0 W hbW hCB hB0 hJ hJx hY h0
  have hbb : Below w.heap.size w W := hb.trans (hbW.mono hb.size)
  exact occ_it l Be t C B0 W J Jx (hT.stays (.of_below hbb)) hn (hka.below hbb) hkc (fun b hc => Nat.lt_of_lt_of_le (hC b hc) hbb.size) hCB hB0 hJ hJx (fun pre x Y B N W1 h1 h2 h3 => hY pre x Y B N W1 h1 h2 h3 (fun z hz => absurd hz (h3 z))) h0
set_option maxRecDepth 100000 in
theorem fo_any (t : Tm) (tp : Option Addr) (tc : Nat) (rp : Option Addr) (rc : Nat) (p : Option Addr) (c : Nat) (w : World) : Calls Tryd.prog 72 #[tmV t tp tc rp rc p c] w fun e w' =>
    ∃ Be, e = .returned (iterO Be) ∧ w'.heap[Be]? = some (.cells (tmC t tp tc rp rc p c) 35 (0, 0)) ∧ Below w.heap.size w w' ∧ w.heap.size ≤ Be := by
  go_enter Tryd.func72, Tryd.ntmps72
  go_wp2
  obtain ⟨wl, hwl, hsz, hbl, k1⟩ := box_new w (tmC t tp tc rp rc p c) 35
  rw [hwl]
  go_ret
  exact ⟨_, rfl, k1, hbl, Nat.le_refl _⟩
theorem termAt_blk {w : World} {C : Nat → Prop} {t : Tm} {tp : Option Addr} {tc : Nat} {rp : Option Addr} {rc : Nat} {p : Option Addr} {c : Nat} {Be : Nat} (h : w.heap[Be]? = some (.cells (tmC t tp tc rp rc p c) 35 (0, 0))) (hT : TM' w C t tp tc rp rc p c) (hC : C Be) : TermAt w C t Be 0 :=
  ⟨tp, tc, rp, rc, p, c, hC, (Array.getElem?_eq_some_iff.1 h).1, ⟨cell_of_blk h 0, cell_of_blk h 1, cell_of_blk h 2, cell_of_blk h 3, cell_of_blk h 4, cell_of_blk h 5, cell_of_blk h 6, cell_of_blk h 7, cell_of_blk h 8⟩, hT⟩

set_option maxRecDepth 100000 in
set_option maxHeartbeats 2000000 in
theorem closedI_any {C : Nat → Prop} {t : Tm} {v : Value} {w : World} (hka : KA w) (h : TM w C t v) (hn : t.wt ≤ 2097152) :
    Calls Tryd.prog 46 #[v] w (BoolRet (fun r => r = true ↔ t.fv = []) w) := by
  have HKA := Lib.hid (fun (w' : World) (hb : Below w.heap.size w w') => hka.below hb)
  have hkl := hka.2
  have HWT := Lib.hid hn
  clear hka hn
  obtain ⟨tp, tc, rp, rc, p, c, rfl, hT⟩ := h
  have HT := Lib.hid (hT.mono (C' := (· < w.heap.size)) (fun _ _ h => h))
  clear hT
  have hfv : t.fv = [] ↔ t.occ [] = [] := by
    rw [t.fv_occ]
    constructor
    · intro h
      cases ho : t.occ [] with
      | nil => rfl
      | cons x l =>
        have hm := (add_mem (x := x) (t.occ []) []).2 (Or.inr (by rw [ho]; simp))
        rw [h] at hm
        simp at hm
    · intro h; rw [h]; rfl
  have HFV := Lib.hid hfv
  clear hfv
  refine (callsIn_wide (n := 3)).1 ?_
  refine callsIn_of_wp_marks Tryd.func46 rfl trivial ?_ rfl
  simp only [Tryd.ntmps46, List.size_toArray, List.length_cons, List.length_nil, Nat.reduceAdd, Nat.reduceSub, Array.replicate_succ, Array.replicate_zero, List.push_toArray, List.append_toArray, List.nil_append, List.cons_append]
  gi_wp2_with fail
  obtain ⟨w0, hw0, hs0, hb0, hk0, hk1⟩ := box_new2 w (tmC t tp tc rp rc p c) #[.bool false] 35 4
  rw [hw0]
  refine ⟨trivial, ?_⟩
  refine (callsIn_wide.2 (fo_any t tp tc rp rc p c w0)).mono ?_
  rintro e wl ⟨Be, rfl, hI, hbw, hBe⟩
  have hsz := hbw.size
  have hbl : Below w.heap.size w wl := hb0.trans (hbw.mono hb0.size)
  have k1 : wl.heap[w.heap.size + 1]? = some (.cells #[.bool false] 4 (0, 0)) := (hbw.block _ (by omega)).trans hk1
  have HSL : TM' wl (fun b => b < w.heap.size ∨ b = Be) t tp tc rp rc p c := (HT.out.stays (.of_below hbl)).mono (fun z hz _ => Or.inl hz)
  have hel := (Array.getElem?_eq_some_iff.1 hI).1
  clear hk0 hk1 hb0 hw0
  gi_wp2_with fail
  refine rangeD_law (F := Fence.wide) (n := 3) rfl (by omega) (gf := 95) (lb := #[.pointer (some ⟨Be, 0, none⟩)]) rfl trivial (enters_of Tryd.func95 (by kernel_rfl) rfl)
    (B0 := fun b => b = w.heap.size + 1) (occ_seq (termAt_blk hI HSL (Or.inr rfl)) HWT.out (HKA.out wl hbl) (Or.inl hkl) (Below.refl _ _) (fun b h => by omega)) (fun _ => rfl) (fun b h h2 => by omega) (fun b h => by omega) (fun b h => by omega)
    (fun pre B N W => (∀ z, B z ↔ z = w.heap.size + 1) ∧ (∀ z, ¬ N z) ∧ W.heap[w.heap.size + 1]? = some (.cells #[.bool false] 4 (0, 0)) ∧ pre = [] ∧ Below w.heap.size w W)
    (fun j pre B N W => (∀ z, B z ↔ z = w.heap.size + 1) ∧ j = .ret ∧ W.cell? ⟨w.heap.size + 1, 0, none⟩ = some (.bool false) ∧ pre ≠ [] ∧ Below w.heap.size w W)
    (fun pre B N A A' h hk => ⟨h.1, h.2.1, (hk.1.block _ (by omega)).trans h.2.2.1, h.2.2.2.1, h.2.2.2.2.trans (hk.1.mono (by omega))⟩)
    (fun j pre B N A A' h hk => ⟨h.1, h.2.1, (hk.1.cell (by show w.heap.size + 1 < _; omega)).trans h.2.2.1, h.2.2.2.1, h.2.2.2.2.trans (hk.1.mono (by omega))⟩)
    (fun x Y A A' l r hl hg hr hA => hg) (fun pre B N A h z hz => by rw [(h.1 z).1 hz]; exact (Array.getElem?_eq_some_iff.1 h.2.2.1).1) (fun x Y A z hg hz => absurd hz (hg z)) ⟨fun _ => Iff.rfl, fun _ h => h, k1, rfl, hbl⟩
    (fun x s a' W => a' = { tmps := #[tmV t tp tc rp rc p c, .pointer (some ⟨w.heap.size, 0, none⟩), .pointer (some ⟨w.heap.size + 1, 0, none⟩), tmV t tp tc rp rc p c, iterO Be, .string x], defers := [] })
    (fun x s a' W l r o h hl => h) ?assign ?body ?done ?stop
  case assign =>
    rintro l x Y W K hG hK
    have HK := Lib.hid hK
    clear hK
    gi_wp2
    exact HK.out _ _ (Below.refl _ _) (by simp)
  case body =>
    rintro l pre x s a' Y B N W ⟨hBo, hNo, hr, rfl, hB⟩ hpre hG hYB hs rfl hlp hBl
    have r2 := cell_of_blk hr 0
    have rz := unfrozen_of_blk hr 0
    simp only [List.getElem?_toArray, List.getElem?_cons_zero] at r2
    have hcc := World.cell?_setCell_same' W ⟨w.heap.size + 1, 0, none⟩ (.bool false) (by rw [r2]; rfl)
    have HCC := Lib.hid hcc
    have HBO := Lib.hid hBo
    have HB := Lib.hid hB
    have HL := Lib.hid (Array.getElem?_eq_some_iff.1 hr).1
    clear hcc hBo hB hr hpre hG hYB hs hlp hBl k1 HSL hbl hbw hI hNo hel
    gi_wp2_with fail
    refine ⟨B, fun _ => False, Grew.refl (fun b hb => ?_), fun z hz => hz.elim, Holds.setCell (Holds.refl _ _) ⟨w.heap.size + 1, 0, none⟩ ((HBO.out _).2 rfl) _, HBO.out, rfl, HCC.out, by simp, HB.out.setCell (p := ⟨w.heap.size + 1, 0, none⟩) (by show w.heap.size ≤ w.heap.size + 1; omega) _⟩
    rw [(HBO.out b).1 hb]
    have := HL.out
    simpa [World.setCell] using this
  case done =>
    rintro D B N W hD hne ⟨hBo, hNo, hr, hso, hB⟩ hK
    have r0 := cell_of_blk hr 0
    have rz := unfrozen_of_blk hr 0
    simp only [List.getElem?_toArray, List.getElem?_cons_zero] at r0
    have HV := Lib.hid hso
    have HB := Lib.hid hB
    have hK' : (W.setCell ⟨w.heap.size + 1, 0, none⟩ (.bool true)).heap[D]? = some (.deferred (some [])) := (Below.heap_setCell _ _ _ _ (by show D ≠ w.heap.size + 1; omega)).trans hK
    clear hso hB hr hK k1 HSL hbl hbw hI hBo hNo hne hel
    gi_wp2_with fail
    refine ⟨by simp, .inl ⟨_, _, rfl, run_takeDeferred hK', ?_⟩⟩
    have hc := (World.cell?_of_block (a := ⟨w.heap.size + 1, 0, none⟩) (w' := (W.setCell ⟨w.heap.size + 1, 0, none⟩ (.bool true)).putObj D (.deferred none)) (World.putObj_heap_other (by show w.heap.size + 1 ≠ D; omega))).trans (World.cell?_setCell_same' W ⟨w.heap.size + 1, 0, none⟩ (.bool true) (by rw [r0]; rfl))
    refine ⟨.bool true, ?_, true, by simp only [true_iff]; exact HFV.out.2 HV.out, rfl, (HB.out.setCell (p := ⟨w.heap.size + 1, 0, none⟩) (by show w.heap.size ≤ w.heap.size + 1; omega) _).trans (below_putObj _ _ _ _ (by omega))⟩
    rw [results_cell1 rfl]
    go_simp
  case stop =>
    rintro D c pre B N W hD hne hpre ⟨hBo, rfl, hr, hv, hB⟩ hK
    have HB := Lib.hid hB
    have HV := Lib.hid (show t.occ [] ≠ [] from fun h => hv (by rw [h] at hpre; exact List.prefix_nil.1 hpre))
    clear hv hB k1 HSL hbl hbw hI hBo hne hel
    gi_wp2_with fail
    refine ⟨by simp, .inl ⟨_, _, rfl, run_takeDeferred hK, ?_⟩⟩
    have hc := (World.cell?_of_block (a := ⟨w.heap.size + 1, 0, none⟩) (w' := W.putObj D (.deferred none)) (World.putObj_heap_other (by show w.heap.size + 1 ≠ D; omega))).trans hr
    refine ⟨.bool false, ?_, false, by simp only [Bool.false_eq_true, false_iff]; exact fun h => HV.out (HFV.out.1 h), rfl, HB.out.trans (below_putObj _ _ _ _ (by omega))⟩
    rw [results_cell1 rfl]
    go_simp
end Go.Proofs.YtfeijijeohfpgaaDoor
namespace Go.Proofs.YtfeijijeohfpgaaDoor
open Go Go.RowKit

variable {C : Nat → Prop} {t : Tm} {v : Value} {w : World}
set_option maxRecDepth 100000 in
set_option maxHeartbeats 1000000 in
theorem rslI_any (hka : KA w) (h : TM w C t v) (hn : t.wt ≤ 2097152) : Calls Tryd.prog 20 #[v] w (Tells t.Rsl w) := by
  have HN := Lib.hid hn
  have HKA := Lib.hid (fun (w' : World) (hb : Below w.heap.size w w') => hka.below hb)
  obtain ⟨tp, tc, rp, rc, p, c, rfl, hT⟩ := h
  have HT := Lib.hid hT
  have HX0 := Lib.hid (Bx9.new w t tp tc rp rc p c 35)
  have HB0 := Lib.hid (al_below w (.cells (tmC t tp tc rp rc p c) 35))
  clear hT hn hka
  by_cases hs : stuckK t.kind
  · have HS := Lib.hid hs
    obtain ⟨g0, g1, g2, g3, g4, g5, g6, g7, g8⟩ := HX0.out
    have HR := Lib.hid (show t.Rsl ↔ t.IsT from ⟨fun h => h.1, fun h => ⟨h, Or.inl HS.out⟩⟩)
    have HC := Lib.hid (isTermI_any (v := tmV t tp tc rp rc p c) (HKA.out _ HB0.out) ⟨_, _, _, _, _, _, rfl, HT.out.stays (.of_below HB0.out)⟩ HN.out)
    go_enter Tryd.func20, Tryd.ntmps20
    rcases hs with hk | hk | hk | hk
    · have t1 : (t.kind == 2) = true := by rw [hk]; rfl
      have t2 : (t.kind == 3) = false := by rw [hk]; rfl
      have t3 : (t.kind == 6) = false := by rw [hk]; rfl
      have t4 : (t.kind == 9) = false := by rw [hk]; rfl
      have t5 : (t.kind == 10) = false := by rw [hk]; rfl
      clear hk
      go_wp2_with fail
      refine HC.out.mono ?_
      rintro e w2 ⟨r2, hr2, rfl, hb2⟩
      have HR2 := Lib.hid hr2
      have HB2 := Lib.hid (HB0.out.trans (hb2.mono HB0.out.size))
      clear hr2 hb2
      go_wp2_with fail
      go_ret
      exact ⟨r2, by rw [HR.out]; exact HR2.out, rfl, HB2.out⟩
    · have t1 : (t.kind == 2) = false := by rw [hk]; rfl
      have t2 : (t.kind == 3) = true := by rw [hk]; rfl
      have t3 : (t.kind == 6) = false := by rw [hk]; rfl
      have t4 : (t.kind == 9) = false := by rw [hk]; rfl
      have t5 : (t.kind == 10) = false := by rw [hk]; rfl
      clear hk
      go_wp2_with fail
      refine HC.out.mono ?_
      rintro e w2 ⟨r2, hr2, rfl, hb2⟩
      have HR2 := Lib.hid hr2
      have HB2 := Lib.hid (HB0.out.trans (hb2.mono HB0.out.size))
      clear hr2 hb2
      go_wp2_with fail
      go_ret
      exact ⟨r2, by rw [HR.out]; exact HR2.out, rfl, HB2.out⟩
    · have t1 : (t.kind == 2) = false := by rw [hk]; rfl
      have t2 : (t.kind == 3) = false := by rw [hk]; rfl
      have t3 : (t.kind == 6) = true := by rw [hk]; rfl
      have t4 : (t.kind == 9) = false := by rw [hk]; rfl
      have t5 : (t.kind == 10) = false := by rw [hk]; rfl
      clear hk
      go_wp2_with fail
      refine HC.out.mono ?_
      rintro e w2 ⟨r2, hr2, rfl, hb2⟩
      have HR2 := Lib.hid hr2
      have HB2 := Lib.hid (HB0.out.trans (hb2.mono HB0.out.size))
      clear hr2 hb2
      go_wp2_with fail
      go_ret
      exact ⟨r2, by rw [HR.out]; exact HR2.out, rfl, HB2.out⟩
    · have t1 : (t.kind == 2) = false := by rw [hk]; rfl
      have t2 : (t.kind == 3) = false := by rw [hk]; rfl
      have t3 : (t.kind == 6) = false := by rw [hk]; rfl
      have t4 : (t.kind == 9) = true := by rw [hk]; rfl
      have t5 : (t.kind == 10) = false := by rw [hk]; rfl
      clear hk
      go_wp2_with fail
      refine HC.out.mono ?_
      rintro e w2 ⟨r2, hr2, rfl, hb2⟩
      have HR2 := Lib.hid hr2
      have HB2 := Lib.hid (HB0.out.trans (hb2.mono HB0.out.size))
      clear hr2 hb2
      go_wp2_with fail
      go_ret
      exact ⟨r2, by rw [HR.out]; exact HR2.out, rfl, HB2.out⟩
  by_cases hk : t.kind = 10
  · have HC := Lib.hid (formI_any _ (HKA.out _ HB0.out) (HT.out.stays (.of_below HB0.out)) HN.out)
    have HK := Lib.hid hk
    obtain ⟨g0, g1, g2, g3, g4, g5, g6, g7, g8⟩ := HX0.out
    have t1 : (t.kind == 2) = false := by rw [hk]; rfl
    have t2 : (t.kind == 3) = false := by rw [hk]; rfl
    have t3 : (t.kind == 6) = false := by rw [hk]; rfl
    have t4 : (t.kind == 9) = false := by rw [hk]; rfl
    have t5 : (t.kind == 10) = true := by rw [hk]; rfl
    clear hk hs
    go_enter Tryd.func20, Tryd.ntmps20
    go_wp2_with fail
    refine HC.out.mono ?_
    rintro e w1 ⟨r, hr, rfl, hb1⟩
    have HR := Lib.hid hr
    have HB1 := Lib.hid (HB0.out.trans (hb1.mono HB0.out.size))
    clear g0 g1 g2 g3 g4 g5 g6 g7 g8
    obtain ⟨g0, g1, g2, g3, g4, g5, g6, g7, g8⟩ := HX0.out.keep hb1
    clear hr hb1 HC
    cases r with
    | false =>
      go_wp2_with fail
      go_ret
      exact ⟨false, by simp only [Bool.false_eq_true, false_iff]; exact fun h => (by have := HR.out.2 ((isT_node t).1 h.1).1; cases this), rfl, HB1.out⟩
    | true =>
      obtain ⟨x, hx⟩ := List.length_eq_one_iff.1 (isT_one (HR.out.1 rfl) (Or.inl HK.out))
      obtain ⟨b, o, tp2, tc2, rp2, rc2, p2, c2, rfl, hC, hb, h9, hP⟩ := tm_part HT.out.args 0 (by rw [hx]; simp)
      have hx0 : t.args[0]'(by rw [hx]; simp) = x := by simp [hx]
      rw [hx0] at h9 hP
      simp only [Nat.zero_mul, Nat.add_zero] at h9
      have hl1 : t.args.length = 1 := by rw [hx]; rfl
      have HWX := Lib.hid (show x.wt ≤ 2097152 by have h1 := t.wt_eq; rw [hx] at h1; simp only [wtS] at h1; have := HN.out; omega)
      have HQ := Lib.hid (rsl_quote HK.out hx)
      obtain ⟨a0, a1, a2, a3, a4, a5, a6, a7, a8⟩ := h9 w1 (.of_below HB1.out)
      have HC := Lib.hid (genI_any (v := tmV x tp2 tc2 rp2 rc2 p2 c2) 1 (HKA.out _ HB1.out) ⟨_, _, _, _, _, _, rfl, hP.stays (.of_below HB1.out)⟩ HWX.out)
      have l8 := g8
      rw [hl1] at l8
      clear h9 hP hx hx0 g8 hC hb hl1
      go_wp2_with fail
      refine HC.out.mono ?_
      rintro e w2 ⟨r2, hr2, rfl, hb2⟩
      have HR2 := Lib.hid hr2
      have HB2 := Lib.hid (HB1.out.trans (hb2.mono HB1.out.size))
      clear hr2 hb2
      go_wp2_with fail
      go_ret
      exact ⟨r2, by rw [HQ.out]; exact ⟨fun h => ⟨HR.out.1 (by trivial), HR2.out.1 h⟩, fun h => HR2.out.2 h.2⟩, rfl, HB2.out⟩
  · have HQ := Lib.hid (rsl_not hs hk)
    obtain ⟨g0, g1, g2, g3, g4, g5, g6, g7, g8⟩ := HX0.out
    have t1 : (t.kind == 2) = false := by simp; exact fun h => hs (Or.inl h)
    have t2 : (t.kind == 3) = false := by simp; exact fun h => hs (Or.inr (Or.inl h))
    have t3 : (t.kind == 6) = false := by simp; exact fun h => hs (Or.inr (Or.inr (Or.inl h)))
    have t4 : (t.kind == 9) = false := by simp; exact fun h => hs (Or.inr (Or.inr (Or.inr h)))
    have t5 : (t.kind == 10) = false := by simp; exact hk
    clear hs hk
    go_enter Tryd.func20, Tryd.ntmps20
    go_wp2_with fail
    go_ret
    exact ⟨false, by simp only [Bool.false_eq_true, false_iff]; exact HQ.out, rfl, HB0.out⟩
set_option maxRecDepth 100000 in
theorem opnI_any (hka : KA w) (h : TM w C t v) (hn : t.wt ≤ 1048576) : Calls Tryd.prog 22 #[v] w (Tells t.Opn w) := by
  have HN := Lib.hid hn
  have HKA := Lib.hid (fun (w' : World) (hb : Below w.heap.size w w') => hka.below hb)
  obtain ⟨tp, tc, rp, rc, p, c, rfl, hT⟩ := h
  have HT := Lib.hid hT
  have HX0 := Lib.hid (Bx9.new w t tp tc rp rc p c 35)
  have HB0 := Lib.hid (al_below w (.cells (tmC t tp tc rp rc p c) 35))
  clear hT hn hka
  go_enter Tryd.func22, Tryd.ntmps22
  obtain ⟨g0, g1, g2, g3, g4, g5, g6, g7, g8⟩ := HX0.out
  go_wp2_with fail
  refine (levI_any 0 (HKA.out _ HB0.out) ⟨_, _, _, _, _, _, rfl, HT.out.stays (.of_below HB0.out)⟩ (Nat.le_trans HN.out (by decide))).mono ?_
  rintro e w1 ⟨r, hr, rfl, hb1⟩
  have HR := Lib.hid hr
  have HB1 := Lib.hid (HB0.out.trans (hb1.mono HB0.out.size))
  clear g0 g1 g2 g3 g4 g5 g6 g7 g8
  obtain ⟨g0, g1, g2, g3, g4, g5, g6, g7, g8⟩ := HX0.out.keep hb1
  clear hr hb1
  cases r with
  | false =>
    go_wp2_with fail
    go_ret
    exact ⟨false, by simp only [Bool.false_eq_true, false_iff]; exact fun h => (by have := HR.out.2 h.1; cases this), rfl, HB1.out⟩
  | true =>
    go_wp2_with fail
    refine (closedI_any (HKA.out _ HB1.out) ⟨_, _, _, _, _, _, rfl, HT.out.stays (.of_below HB1.out)⟩ (Nat.le_trans HN.out (by decide))).mono ?_
    rintro e w2 ⟨r2, hr2, rfl, hb2⟩
    have HR2 := Lib.hid hr2
    have HB2 := Lib.hid (HB1.out.trans (hb2.mono HB1.out.size))
    clear hr2 hb2
    go_wp2_with fail
    go_ret
    exact ⟨!r2, by cases r2 <;> simp only [Bool.not_true, Bool.not_false, Bool.false_eq_true, false_iff, true_iff] <;> first | exact ⟨HR.out.1 (by trivial), fun h => by have := HR2.out.2 h; cases this⟩ | exact fun h => h.2 (HR2.out.1 rfl), rfl, HB2.out⟩
end Go.Proofs.YtfeijijeohfpgaaDoor
