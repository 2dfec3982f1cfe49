/-
  Several texts of the proof in one (each says below what it holds): CxRow Cwth Clst Csaf Ckno Gbas.
-/
import Derived.Test.YtfeijijeohfpgaaGreatDoorLv5
import Derived.Test.YtfeijijeohfpgaaGreatDoorLv1
import Derived.Test.YtfeijijeohfpgaaGreatDoorLv3
import Derived.Deep.RegionHeldLaw
import Derived.Deep.RegionHeld3
set_option linter.unusedVariables false
set_option linter.unusedSimpArgs false
namespace Go.Proofs.YtfeijijeohfpgaaGreatDoor
open Go Go.RowKit

theorem infoCx : (Tryz.prog.info? 79).map (fun i => (i.zero, i.size, i.bytes)) = some (some (.agg #[.string ⟨#[]⟩, .int .i64 0, .slice none 0 0, .int .i64 0]), 4, 56) := by kernel_rfl
theorem RowCx.mono {w : World} {base : Nat} {C C' : Nat → Prop} {L : List Tg} {v : Value} {xs : List Value} (h : RowCx w base C L v xs) (hC : ∀ z, C z → C' z) : RowCx w base C' L v xs := ⟨h.own, fun j x hj => (h.cells j x hj).mono (fun z hz _ => hC z hz)⟩
structure SafeI (w : World) (L' : List Tg) (v : Value) (us : List Value) (D : Nat → Prop) (W : World) : Prop where
  below : Below w.heap.size w W
  row : RowCx W w.heap.size D L' v us
  dom : ∀ z, D z → w.heap.size ≤ z ∧ z < W.heap.size ∧ v.ownBlock ≠ some z
theorem SafeI.keep {w W W' : World} {L' : List Tg} {v : Value} {us : List Value} {D : Nat → Prop} (h : SafeI w L' v us D W) (hb : Below W.heap.size W W') : SafeI w L' v us D W' :=
  ⟨h.below.trans (hb.mono h.below.size), h.row.keep (.of_below hb) (fun g hg => hb.block g (h.row.own.lt g hg).2), fun z hz => ⟨(h.dom z hz).1, Nat.lt_of_lt_of_le (h.dom z hz).2.1 hb.size, (h.dom z hz).2.2⟩⟩
theorem SafeI.app {w W w1 w2 : World} {L' : List Tg} {v : Value} {us cs : List Value} {D : Nat → Prop} {x : Tg} {g cap : Nat} (h : SafeI w L' v us D W) (hb : Below W.heap.size W w1) (hA : Appd w1 w2 w.heap.size 79 4 v L'.length us cs g cap) (hx : TgV w1 (fun z => W.heap.size ≤ z ∧ z < w1.heap.size) x cs) :
    SafeI w (L' ++ [x]) (.slice (some ⟨g, 0, none⟩) (L'.length + 1) cap) (us ++ cs) (fun z => D z ∨ (W.heap.size ≤ z ∧ z < w1.heap.size)) w2 := by
  have h1 := h.keep hb
  have l1 := h.below.size
  obtain ⟨hr, hc⟩ := (h1.row.mono (C' := fun z => D z ∨ (W.heap.size ≤ z ∧ z < w1.heap.size)) (fun z hz => Or.inl hz)).app hA (hx.mono (fun z hz _ => Or.inr hz)) (fun z hz => by
    rcases hz with hz | hz
    · exact ⟨(h1.dom z hz).2.1, (h1.dom z hz).2.2⟩
    · exact ⟨hz.2, fun e => by have := (h.row.own.lt z e).2; omega⟩)
  refine ⟨h1.below.trans hA.below, hr, fun z hz => ⟨?_, (hc z hz).1, (hc z hz).2⟩⟩
  rcases hz with hz | hz
  · exact (h.dom z hz).1
  · omega
end Go.Proofs.YtfeijijeohfpgaaGreatDoor
namespace Go.Proofs.YtfeijijeohfpgaaGreatDoor
open Go Go.RowKit

section
variable {P : Program} {w0 : World} {base : Nat} {t e : TypeId} {i : TypeInfo} {z : Value} {size bytes : Nat} {v : Value} {n : Nat} {xs : List Value}
theorem wpList_appn {ops : Array Oper} {rest : List Oper} {o : Oper} {a : Act} {Q : Exit → Act → World → Prop} (hgd : o.guard = none) (s x : Operand)
    (ho : o.op = .call { callee := .builtin .append, args := #[s, x], argTypes := #[t, t] }) (ht : P.underlying t = some (.slice e)) (hi : P.info? e = some i) (hz : i.zero = some z) (hsize : i.size = size) (hby : i.bytes = bytes) (hzs : z.cells.size = size) (hsz : 0 < size)
    (hs : a.eval s = v) (hown : w0.ownsRow base e size v n xs) (ar : Addr) (m c : Nat) (hx : a.eval x = .slice (some ar) m c) (news : List Value) (hl : news.length = m * size) (hnews : ∀ j u, news[j]? = some u → w0.cell? (ar.add j) = some u) (h1 : ∀ u ∈ news, u.oneCell' = true) (h63 : n + m ≤ maxLen) (hbytes : (n + m) * bytes ≤ 140737488355328) (hbase : base ≤ w0.heap.size)
    (h : ∀ v' w', w'.ownsRow base e size v' (n + m) (xs ++ news) → w0.grownBy w' v.ownBlock → (∀ g, v'.ownBlock = some g → v.ownBlock = some g ∨ w0.heap.size ≤ g) → wpList P ops Q rest (a.put o.dst v') w') :
    wpList P ops Q (o :: rest) a w0 := by
  refine wpList_plain hgd fun K hK => ?_
  obtain ⟨v', w', hrun, hA, hg, hwh⟩ := run_app (P := P) base t o.type e i z size bytes ht hi hz hsize hby hzs hsz v n xs hown ar m c news hl hnews h1 h63 hbytes hbase
  unfold Oper.wp
  simp [execOp, ho, resolve, invoke, builtin, hs, hx, hrun, Result.andThen]
  exact hK _ _ (h v' w' hA hg hwh)
end
theorem cx_cells {w : World} {C : Nat → Prop} {L : List Tg} {a : Addr} {c : Nat} (h : DM w C (cxD L) (.slice (some a) L.length c)) :
    ∃ news : List Value, news.length = L.length * 4 ∧ (∀ j u, news[j]? = some u → ∀ w', Stays C w w' → w'.cell? (a.add j) = some u) ∧ (∀ j x, L[j]? = some x → TgV w C x ((news.drop (j * 4)).take 4)) := by
  by_cases h0 : L.length = 0
  · obtain rfl := List.eq_nil_of_length_eq_zero h0
    exact ⟨[], rfl, by simp, by simp⟩
  obtain ⟨b, o, V, hq, hC, hb, hp⟩ := h.part (by rw [flatCx_len]; omega)
  obtain rfl := Option.some.inj hq
  have hadd : ∀ j, (⟨b, o, none⟩ : Addr).add j = ⟨b, o + j, none⟩ := fun j => by unfold Addr.add; split <;> simp_all
  refine ⟨(List.range (L.length * 4)).map V, by simp, fun j u hj w' hw => ?_, fun j x hj => ?_⟩
  · rw [List.getElem?_map] at hj
    have hlt : j < L.length * 4 := by
      rcases Nat.lt_or_ge j (L.length * 4) with h | h
      · exact h
      · rw [List.getElem?_eq_none (by simpa using h)] at hj; cases hj
    rw [List.getElem?_range hlt] at hj
    simp only [Option.map_some, Option.some.injEq] at hj
    subst hj
    obtain ⟨d, hd⟩ : ∃ d, (flatCx L)[j]? = some d := ⟨_, List.getElem?_eq_getElem (by rw [flatCx_len]; exact hlt)⟩
    rw [hadd]
    exact (hp j d hd).2 w' hw
  · have hjl : j < L.length := (List.getElem?_eq_some_iff.1 hj).1
    have hx : L[j] = x := (List.getElem?_eq_some_iff.1 hj).2
    have part : ∀ (i : Nat) (d : D), i < 4 → (x.ds)[i]? = some d → DM w C d (V (j * 4 + i)) := fun i d hi hd =>
      (hp (j * 4 + i) d (by rw [flatCx_at L j i hjl hi, hx]; exact hd)).1
    have a0 := part 0 _ (by omega) rfl
    have a1 := part 1 _ (by omega) rfl
    have a2 := part 2 _ (by omega) rfl
    have a3 := part 3 _ (by omega) rfl
    obtain ⟨p, c', e2⟩ := a2.form
    have hl : (((List.range (L.length * 4)).map V).drop (j * 4)).take 4 = [V (j * 4), V (j * 4 + 1), V (j * 4 + 2), V (j * 4 + 3)] := by
      apply List.ext_getElem?
      intro i
      rw [List.getElem?_take]
      by_cases hi : i < 4
      · rw [if_pos hi, List.getElem?_drop, List.getElem?_map, List.getElem?_range (by omega)]
        have : i = 0 ∨ i = 1 ∨ i = 2 ∨ i = 3 := by omega
        rcases this with rfl | rfl | rfl | rfl <;> rfl
      · rw [if_neg hi, List.getElem?_eq_none (by simp; omega)]
    rw [hl]
    have e0 := a0.val
    have e1 := a1.val
    have e3 := a3.val
    rw [e2] at a2
    refine ⟨p, c', ?_, a2.ts _ (Nat.le_refl _)⟩
    rw [show V (j * 4) = _ from e0, e1, e2, e3]
theorem cx_one {w : World} {C : Nat → Prop} {L : List Tg} {news : List Value} (hl : news.length = L.length * 4) (h : ∀ j x, L[j]? = some x → TgV w C x ((news.drop (j * 4)).take 4)) : ∀ u ∈ news, u.oneCell' = true := fun u hu => by
  obtain ⟨i, hi, rfl⟩ := List.mem_iff_getElem.1 hu
  have hj : i / 4 < L.length := by omega
  obtain ⟨p, c, he, _⟩ := h (i / 4) _ (List.getElem?_eq_getElem hj)
  have hm : news[i] ∈ (news.drop (i / 4 * 4)).take 4 := by
    rw [List.mem_iff_getElem?]
    exact ⟨i % 4, by rw [List.getElem?_take, if_pos (by omega), List.getElem?_drop, show i / 4 * 4 + i % 4 = i by omega, List.getElem?_eq_getElem hi]⟩
  rw [he] at hm
  simp only [List.mem_cons, List.not_mem_nil, or_false] at hm
  rcases hm with e | e | e | e <;> rw [e] <;> rfl

def WithDm (C : Nat → Prop) (L : List Tg) (x : Tg) (w : World) (e : Ending) (w' : World) : Prop := ∃ (a : Addr) (c : Nat), e = .returned (.slice (some a) (L.length + 1) c) ∧ DM w' (fun z => C z ∨ w.heap.size ≤ z) (cxD (L ++ [x])) (.slice (some a) (L.length + 1) c) ∧ Below w.heap.size w w'
set_option maxRecDepth 100000 in
set_option maxHeartbeats 1000000 in
theorem with_dm {C : Nat → Prop} {L : List Tg} {a : Addr} {c : Nat} {t : Ty} {vt : Value} {w : World} (s : ByteArray) (n : Int) (h : DM w C (cxD L) (.slice (some a) L.length c)) (ht : TT w C t vt) (hL : L.length ≤ 4194304) :
    Calls Tryz.prog 147 #[.slice (some a) L.length c, .string s, vt, .int .i64 n] w (WithDm C L ⟨s, t, n⟩ w) := by
  obtain ⟨st, rfl, hst0⟩ := ht
  obtain ⟨pt, ct, rfl⟩ := hst0.form
  obtain ⟨i0, hi, hz0, hz1, hz2⟩ := info_parts infoCx
  obtain ⟨news, hl, hcells, htg⟩ := cx_cells h
  obtain ⟨wl, hwl, hsz, hbl, qt, q0⟩ := box_new2 w #[.int .i64 t.kind, .slice pt t.args.length ct] #[] 26 79
  have hown : wl.ownsRow w.heap.size 79 4 (.slice (some ⟨w.heap.size + 1, 0, none⟩) 0 0) 0 [] := ⟨rfl, Or.inr ⟨w.heap.size + 1, 0, #[], rfl, by omega, q0, Nat.le_refl _, by decide, rfl, rfl⟩⟩
  have HNW := Lib.hid (fun j u (hj : news[j]? = some u) => hcells j u hj wl (.of_below hbl))
  have HONE := Lib.hid (cx_one hl htg)
  have HOW := Lib.hid hown
  have HWL := Lib.hid hwl
  have HQT := Lib.hid qt
  have HSZ := Lib.hid hsz
  have HBL := Lib.hid hbl
  have HTG := Lib.hid htg
  clear h
  have HT := Lib.hid hst0
  clear hcells hwl hsz hbl qt q0 hown htg hst0
  go_enter Tryz.func147, Tryz.ntmps147
  go_wp2_with (first
    | (at_builtin; rw [show (w.alloc (.cells #[.int .i64 t.kind, .slice pt t.args.length ct] 26)).alloc (.cells #[] 79) = wl from HWL.out]; refine wpList_appn rfl _ _ rfl Tryz.underlying46 hi hz0 hz1 hz2 rfl (by decide) rfl HOW.out a L.length c rfl news hl HNW.out HONE.out (by unfold maxLen; omega) (by omega) (by have := HSZ.out; omega) ?_; intro v1 w1 hown1 hg1 hwh1
       have hg1 : wl.grownBy w1 (some (w.heap.size + 1)) := hg1
       have hwh1 : ∀ g, v1.ownBlock = some g → some (w.heap.size + 1) = some g ∨ wl.heap.size ≤ g := hwh1
       have hbk := (hg1.block w.heap.size (by have := HSZ.out; omega) (by simp)).trans HQT.out
       have t0 := cell_of_blk hbk 0
       have t1 := cell_of_blk hbk 1
       simp only [List.getElem?_toArray, List.getElem?_cons_zero, List.getElem?_cons_succ] at t0 t1
       simp only [Nat.zero_add, List.nil_append] at hown1
       have HO1 := Lib.hid hown1
       have HG1 := Lib.hid hg1
       have HW1 := Lib.hid hwh1
       clear hown1 hg1 hwh1 hbk)
    | (at_builtin; refine wpList_app1 (w0 := w1) rfl _ _ rfl Tryz.underlying46 hi hz0 hz1 hz2 rfl (by decide) rfl HO1.out _ rfl (by simp) rfl (fun u hu => by simp at hu; rcases hu with rfl | rfl | rfl | rfl <;> rfl) (by unfold maxLen; omega) (by omega) (by have := HG1.out.size; have := HSZ.out; omega) ?_; intro w2 g cap hA
       have HA := Lib.hid hA
       clear hA t0 t1))
  go_ret
  show WithDm C L ⟨s, t, n⟩ w (.returned (.slice (some ⟨g, 0, none⟩) (L.length + 1) cap)) w2
  have l1 := HSZ.out
  have l2 := HG1.out.size
  have hst1 : Stays (fun z => C z ∧ z < w.heap.size) w w1 := ⟨by omega, fun z hz hlt => (HG1.out.block z (by omega) (fun e => by have := Option.some.inj e; omega)).trans (HBL.out.block z hlt)⟩
  have hrow : RowCx w1 w.heap.size (fun z => C z ∧ z < w.heap.size) L v1 news := ⟨HO1.out, fun j x hj => ((HTG.out j x hj).mono (fun z hz hlt => ⟨hz, hlt⟩)).stays hst1⟩
  have hx : TgV w1 (fun z => C z ∧ z < w.heap.size) ⟨s, t, n⟩ [.string s, .int .i64 t.kind, .slice pt t.args.length ct, .int .i64 n] := ⟨pt, ct, rfl, (HT.out.mono (fun z hz hlt => ⟨hz, hlt⟩)).stays hst1⟩
  have hvb : ∀ z, z < w.heap.size → v1.ownBlock ≠ some z := fun z hz e => by
    rcases HW1.out z e with e2 | e2
    · have := Option.some.inj e2
      omega
    · omega
  obtain ⟨hr2, hc2⟩ := hrow.app HA.out hx (fun z hz => ⟨by have := hz.2; omega, hvb z hz.2⟩)
  refine ⟨_, cap, rfl, ?_, (HBL.out.trans ((Below.refl w.heap.size wl).grown HG1.out (by omega) (fun k hk => by have := Option.some.inj hk; omega))).trans HA.out.below⟩
  · have := hr2.dm (C' := fun z => C z ∨ w.heap.size ≤ z) (fun z hz => Or.inl hz.1) (fun g hg => Or.inr (hr2.own.lt g hg).1)
    rw [cxD, List.length_append, List.length_singleton] at this
    rw [cxD, List.length_append, List.length_singleton]
    exact this
def WithRet (C : Nat → Prop) (L : List Tg) (x : Tg) (w : World) (e : Ending) (w' : World) : Prop := ∃ (a : Addr) (c : Nat), e = .returned (.slice (some a) (L.length + 1) c) ∧ CX w' (fun z => C z ∨ w.heap.size ≤ z) (L ++ [x]) (.slice (some a) (L.length + 1) c) ∧ Below w.heap.size w w'
theorem with_any {C : Nat → Prop} {L : List Tg} {a : Addr} {c : Nat} {t : Ty} {vt : Value} {w : World} (s : ByteArray) (n : Int) (h : CX w C L (.slice (some a) L.length c)) (ht : TT w C t vt) (hL : L.length ≤ 1000) (hnt : nodesS t.args ≤ 100) (hs : s.size ≤ 100) :
    Calls Tryz.prog 147 #[.slice (some a) L.length c, .string s, vt, .int .i64 n] w (WithRet C L ⟨s, t, n⟩ w) := by
  refine (with_dm s n h.dm ht (by omega)).mono ?_
  rintro e w' ⟨a', c', rfl, hd, hb⟩
  refine ⟨a', c', rfl, ⟨hd, fun x hx => ?_, fun x hx => ?_⟩, hb⟩
  · rcases List.mem_append.1 hx with hx | hx
    · exact h.ty x hx
    · rw [List.mem_singleton.1 hx]; exact hnt
  · rcases List.mem_append.1 hx with hx | hx
    · exact h.nm x hx
    · rw [List.mem_singleton.1 hx]; exact hs
end Go.Proofs.YtfeijijeohfpgaaGreatDoor
namespace Go.Proofs.YtfeijijeohfpgaaGreatDoor
open Go Go.RowKit

set_option maxRecDepth 100000 in
set_option maxHeartbeats 1000000 in
theorem last_any {C : Nat → Prop} {L : List Tg} {v : Value} {w : World} (s : ByteArray) (h : CX w C L v) (hn : L.length ≤ 1000) :
    Calls Tryz.prog 165 #[v, .string s] w (fun e w' => ∃ r : Int, e = .returned (.int .i64 r) ∧ w' = w) := by
  obtain ⟨q, c, rfl⟩ := h.form
  have HP := Lib.hid (fun (j : Nat) (hj : j < L.length) => show ∃ (b o : Nat), q = some ⟨b, o, none⟩ ∧ w.cell? ⟨b, o + j * 4, none⟩ = some (.string L[j].nm) from by
    obtain ⟨b, o, p, c', hq, _, _, hat, _⟩ := cx_part h.dm j hj
    exact ⟨b, o, hq, (hat w (Stays.refl _ _)).nm⟩)
  clear h
  go_enter Tryz.func165, Tryz.ntmps165
  go_wp2_with fail
  go_loop [5] (fun i => i = .int .i64 (-1) ∨ ∃ k : Nat, k < L.length ∧ i = .int .i64 k) (fun i => (intOf i + 1).toNat)
  case atStart =>
    by_cases h0 : L.length = 0
    · exact Or.inl (by simp only [h0]; rfl)
    · exact Or.inr ⟨L.length - 1, by omega, by congr 1; omega⟩
  case round =>
    rcases hrel with rfl | ⟨k, hk, rfl⟩
    · go_wp2_with fail
      go_ret
      exact ⟨⟨_, rfl⟩, rfl⟩
    · obtain ⟨b, o, rfl, c1⟩ := HP.out k hk
      by_cases hx : L[k].nm = s
      · have t := str_yes hx
        clear hx
        go_wp2_with fail
        go_ret
        exact ⟨⟨_, rfl⟩, rfl⟩
      · have t := str_no hx
        clear hx
        go_wp2_with fail
        go_round
        case rel =>
          by_cases h0 : k = 0
          · exact Or.inl (by subst h0; rfl)
          · exact Or.inr ⟨k - 1, by omega, by congr 1; omega⟩
        case measure => simp [intOf]
end Go.Proofs.YtfeijijeohfpgaaGreatDoor
namespace Go.Proofs.YtfeijijeohfpgaaGreatDoor
open Go Go.RowKit

def SafeRet (L : List Tg) (w : World) (e : Ending) (w' : World) : Prop := ∃ (L' : List Tg) (a : Addr) (c : Nat), e = .returned (.slice (some a) L'.length c) ∧ L'.length ≤ L.length ∧ CX w' (fun z => w.heap.size ≤ z) L' (.slice (some a) L'.length c) ∧ Below w.heap.size w w'

set_option maxRecDepth 100000 in
set_option maxHeartbeats 1000000 in
theorem safe_any {C : Nat → Prop} {L : List Tg} {a : Addr} {c : Nat} {w : World} (n : Int) (h : CX w C L (.slice (some a) L.length c)) (hL : L.length ≤ 1000) :
    Calls Tryz.prog 189 #[.slice (some a) L.length c, .int .i64 n] w (SafeRet L w) := by
  obtain ⟨i0, hi, hz0, hz1, hz2⟩ := info_parts infoCx
  obtain ⟨wl, hwl, hsz, hbl, q0⟩ := box_new w #[] 79
  have HI0 : Hid (SafeI w [] (.slice (some ⟨w.heap.size, 0, none⟩) 0 0) [] (fun _ => False) wl) := Lib.hid ⟨hbl, ⟨⟨rfl, Or.inr ⟨w.heap.size, 0, #[], rfl, Nat.le_refl _, q0, Nat.le_refl _, by decide, rfl, rfl⟩⟩, by simp⟩, fun z hz => hz.elim⟩
  have HH := Lib.hid h
  have HSZ := Lib.hid hsz
  have HWL := Lib.hid hwl
  clear h hsz hbl q0 hwl
  go_enter Tryz.func189, Tryz.ntmps189
  go_wp2_with fail
  rw [show w.alloc (.cells #[] 79) = wl from HWL.out]
  go_loopw [5, 6] (fun o i wr => ∃ (k : Nat) (L' : List Tg) (ar : Addr) (cc : Nat) (us : List Value) (D : Nat → Prop), k ≤ L.length ∧ i = .int .i64 k ∧ L'.length ≤ k ∧ (∀ x ∈ L', nodesS x.ty.args ≤ 100 ∧ x.nm.size ≤ 100) ∧ o = .slice (some ar) L'.length cc ∧ SafeI w L' (.slice (some ar) L'.length cc) us D wr) (fun _ i _ => L.length - (intOf i).toNat)
  case atStart => exact ⟨0, [], _, 0, [], _, Nat.zero_le _, rfl, Nat.zero_le _, by simp, rfl, HI0.out⟩
  case round =>
    obtain ⟨k, L', ar, cc, us, D, hk, rfl, hL', hsm, rfl, hI⟩ := hrel
    have HI := Lib.hid hI
    have HSM := Lib.hid hsm
    clear hI hsm
    by_cases hlk : k < L.length
    · obtain ⟨b, o, p, c', hq, hC, hb, hat, hts⟩ := cx_part HH.out.dm k hlk
      obtain rfl := Option.some.inj hq
      have HAT := Lib.hid hat
      have HTS := Lib.hid hts
      obtain ⟨g0, g1, g2, g3⟩ := hat wr (.of_below HI.out.below)
      clear hq hC hb hat hts
      go_wp2_with fail
      refine (base_any ⟨_, rfl, HTS.out.stays (.of_below HI.out.below)⟩).mono ?_
      rintro e w1 ⟨q1, -, rfl, hb1⟩
      have HI1 := Lib.hid (HI.out.keep hb1)
      obtain ⟨k0, k1, k2, k3⟩ := HAT.out w1 (.of_below HI1.out.below)
      have HB1 := Lib.hid hb1
      clear hb1 g0 g1 g2 g3
      cases q1 with
      | false =>
        go_wp2_with fail
        go_roundw
        case rel => exact ⟨k + 1, L', ar, cc, us, D, by omega, by go_num, by omega, HSM.out, rfl, HI1.out⟩
        case measure => simp [intOf]; omega
      | true =>
        by_cases hlv : L[k].lv ≤ n
        · go_wp2_with fail
          refine (last_any L[k].nm (HH.out.stays (.of_below HI1.out.below)) hL).mono ?_
          rintro e w2 ⟨r, rfl, rfl⟩
          by_cases hr : r = (k : Int)
          · have HC := Lib.hid (copyT_any (⟨_, rfl, HTS.out.stays (.of_below HI1.out.below.drew)⟩ : TT w2.drew C L[k].ty (.agg #[.int .i64 L[k].ty.kind, .slice p L[k].ty.args.length c'])) (by have := HH.out.ty L[k] (List.getElem_mem hlk); omega))
            go_wp2_with fail
            go_region_law (first
              | (refine step_app1 (w0 := w3) rfl (.tmp 40) (.tmp 58) rfl Tryz.underlying46 hi hz0 hz1 hz2 rfl (by decide) rfl HI3.out.row.own _ rfl (by simp) rfl (fun u hu => by simp at hu; rcases hu with rfl | rfl | rfl | rfl <;> rfl) (by unfold maxLen; omega) (by omega) HI3.out.below.size ?_; intro w4 g cap hA; have HA := Lib.hid hA; clear hA)
              | (go_simp; go_at_call 129; refine HC.out.mono ?_; rintro e w3 ⟨v3, rfl, ⟨s3, rfl, hT3⟩, hb3⟩; obtain ⟨p3, c3, rfl⟩ := hT3.form
                 have HI3 := Lib.hid ((HI1.out.keep (Below.refl _ w2).drew).keep hb3)
                 have HT3 := Lib.hid hT3
                 have HB3 := Lib.hid hb3
                 obtain ⟨m0, m1, m2, m3⟩ := HAT.out w3 (.of_below HI3.out.below)
                 clear hT3 hb3))
            all_goals
              clear k0 k1 k2 k3 m0 m1 m2 m3
              go_wp2_with fail
              go_roundw
              case rel =>
                refine ⟨k + 1, L' ++ [L[k]], ⟨g, 0, none⟩, cap, us ++ [.string L[k].nm, .int .i64 L[k].ty.kind, .slice p3 L[k].ty.args.length c3, .int .i64 L[k].lv], fun z => D z ∨ (w2.drew.heap.size ≤ z ∧ z < w3.heap.size), by omega, by go_num, by simp; omega, fun x hx => ?_, by simp, ?_⟩
                · rcases List.mem_append.1 hx with hx | hx
                  · exact HSM.out x hx
                  · rw [List.mem_singleton.1 hx]; exact ⟨HH.out.ty _ (List.getElem_mem hlk), HH.out.nm _ (List.getElem_mem hlk)⟩
                · have h9 := (HI1.out.keep (Below.refl _ w2).drew).app HB3.out HA.out ⟨p3, c3, rfl, HT3.out.mono (fun z hz hl => ⟨hz, hl⟩)⟩
                  rw [List.length_append, List.length_singleton]
                  exact h9
              case measure => simp [intOf]; omega
          · go_wp2_with fail
            go_roundw
            case rel => exact ⟨k + 1, L', ar, cc, us, D, by omega, by go_num, by omega, HSM.out, rfl, HI1.out⟩
            case measure => simp [intOf]; omega
        · go_wp2_with fail
          go_roundw
          case rel => exact ⟨k + 1, L', ar, cc, us, D, by omega, by go_num, by omega, HSM.out, rfl, HI1.out⟩
          case measure => simp [intOf]; omega
    · obtain rfl : k = L.length := by omega
      go_wp2_with fail
      go_ret
      show SafeRet L w (.returned (.slice (some ar) L'.length cc)) wr
      exact ⟨L', ar, cc, rfl, hL', ⟨HI.out.row.dm (fun z hz => (HI.out.dom z hz).1) (fun g hg => (HI.out.row.own.lt g hg).1), fun x hx => (HSM.out x hx).1, fun x hx => (HSM.out x hx).2⟩, HI.out.below⟩
end Go.Proofs.YtfeijijeohfpgaaGreatDoor
namespace Go.Proofs.YtfeijijeohfpgaaGreatDoor
open Go Go.RowKit
def KnowT (N b : Nat) (w : World) (e : Ending) (w' : World) : Prop := ∃ (x : Tm) (v : Value) (q : Bool), e = .returned (.tuple #[v, .bool q]) ∧ x.wt ≤ N ∧ TM w' (fun z => w.heap.size ≤ z) x v ∧ Cur w' b ∧ w.grownBy w' (some b)
theorem KnowT.of_gen {N b : Nat} {w w' : World} {v : Value} (q : Bool) (h : GenT N b w (.returned v) w') : KnowT N b w (.returned (.tuple #[v, .bool q])) w' := by
  obtain ⟨x, v', e, h2⟩ := h
  cases e
  exact ⟨x, v, q, rfl, h2⟩
structure KI (w wl : World) (ts : List Tm) (v : Value) (us : List Value) (W : World) : Prop where
  below : Below (w.heap.size + 2) wl W
  row : RowM W (w.heap.size + 2) (fun z => w.heap.size + 2 ≤ z) v ts us
  start : Below w.heap.size w wl
  two : w.heap.size + 2 ≤ wl.heap.size
section
variable {w wl W W' : World} {ts : List Tm} {v : Value} {us : List Value}
theorem KI.size (h : KI w wl ts v us W) : w.heap.size + 2 ≤ W.heap.size := Nat.le_trans h.two h.below.size
theorem KI.toW (h : KI w wl ts v us W) : Below w.heap.size w W := h.start.trans (h.below.mono (by omega))
theorem KI.keep (h : KI w wl ts v us W) (hb : Below W.heap.size W W') : KI w wl ts v us W' :=
  ⟨h.below.trans (hb.mono h.size), h.row.stays (.of_below hb), h.start, h.two⟩
theorem KI.app {x : Tm} {cs : List Value} {g cap : Nat} (h : KI w wl ts v us W) (hA : Appd W W' (w.heap.size + 2) 29 9 v ts.length us cs g cap) (hx : MS W (fun z => (w.heap.size + 2 ≤ z) ∧ v.ownBlock ≠ some z) x.ds cs) :
    KI w wl (ts ++ [x]) (.slice (some ⟨g, 0, none⟩) (ts.length + 1) cap) (us ++ cs) W' :=
  ⟨h.below.trans hA.below, h.row.app hA (hA.own.lt g rfl).1 hx, h.start, h.two⟩
end

abbrev kop0 : Oper := ({ dst := some 19, op := Op.move (Operand.tmp 1), type := 46, pos := "l09_typing.go:165", after := #[], guard := none } : Oper)
abbrev kop1 : Oper := ({ dst := some 20, op := Op.move (Operand.tmp 11), type := 3, pos := "l09_typing.go:165", after := #[], guard := none } : Oper)
abbrev kop2 : Oper := ({ dst := some 21, op := Op.indexAddr 46 (Operand.tmp 19) (Operand.tmp 20), type := 0, pos := "l09_typing.go:165", after := #[{ on := 0, ground := Ground.data }, { on := 1, ground := Ground.data }], guard := none } : Oper)
abbrev kop3 : Oper := ({ dst := some 22, op := Op.fieldAddr 79 (Operand.tmp 21) 2, type := 0, pos := "l09_typing.go:165", after := #[{ on := 2, ground := Ground.data }], guard := none } : Oper)
abbrev kop4 : Oper := ({ dst := some 23, op := Op.load 3 (Operand.tmp 22), type := 3, pos := "l09_typing.go:165", after := #[{ on := 3, ground := Ground.data }], guard := none } : Oper)
abbrev kop5 : Oper := ({ dst := some 24, op := Op.move (Operand.tmp 3), type := 3, pos := "l09_typing.go:165", after := #[], guard := none } : Oper)
abbrev kop6 : Oper := ({ dst := some 25, op := Op.binOp BinOp.eql 3 (Operand.tmp 23) (Operand.tmp 24) 3, type := 4, pos := "l09_typing.go:165", after := #[{ on := 4, ground := Ground.data }, { on := 5, ground := Ground.data }], guard := none } : Oper)
abbrev kop7 : Oper := ({ dst := some 26, op := Op.move (Operand.tmp 25), type := 4, pos := "l09_typing.go:165", after := #[{ on := 6, ground := Ground.data }], guard := none } : Oper)
abbrev kop8 : Oper := ({ dst := some 27, op := Op.move (Operand.tmp 1), type := 46, pos := "l09_typing.go:165", after := #[{ on := 7, ground := Ground.guard }], guard := some (7, true) } : Oper)
abbrev kop9 : Oper := ({ dst := some 28, op := Op.move (Operand.tmp 11), type := 3, pos := "l09_typing.go:165", after := #[{ on := 7, ground := Ground.guard }], guard := some (7, true) } : Oper)
abbrev kop10 : Oper := ({ dst := some 29, op := Op.indexAddr 46 (Operand.tmp 27) (Operand.tmp 28), type := 0, pos := "l09_typing.go:165", after := #[{ on := 8, ground := Ground.data }, { on := 9, ground := Ground.data }, { on := 7, ground := Ground.guard }], guard := some (7, true) } : Oper)
abbrev kop11 : Oper := ({ dst := some 30, op := Op.fieldAddr 79 (Operand.tmp 29) 1, type := 0, pos := "l09_typing.go:165", after := #[{ on := 10, ground := Ground.data }, { on := 7, ground := Ground.guard }], guard := some (7, true) } : Oper)
abbrev kop12 : Oper := ({ dst := some 31, op := Op.load 26 (Operand.tmp 30), type := 26, pos := "l09_typing.go:165", after := #[{ on := 11, ground := Ground.data }, { on := 7, ground := Ground.guard }], guard := some (7, true) } : Oper)
abbrev kop13 : Oper := ({ dst := some 32, op := Op.load 26 (Operand.tmp 6), type := 26, pos := "l09_typing.go:165", after := #[{ on := 7, ground := Ground.guard }], guard := some (7, true) } : Oper)
abbrev kop14 : Oper := ({ dst := some 33, op := Op.call { callee := Callee.value (Operand.func 185), args := #[Operand.tmp 31, Operand.tmp 32], argTypes := #[26, 26] }, type := 4, pos := "l09_typing.go:165", after := #[{ on := 12, ground := Ground.data }, { on := 13, ground := Ground.data }, { on := 7, ground := Ground.chain }, { on := 7, ground := Ground.guard }], guard := some (7, true) } : Oper)
abbrev kop15 : Oper := ({ dst := some 34, op := Op.pick (Operand.tmp 26) (Operand.tmp 33) (Operand.const (Value.bool false)), type := 4, pos := "l09_typing.go:165", after := #[{ on := 7, ground := Ground.data }, { on := 14, ground := Ground.data }], guard := none } : Oper)
abbrev kop16 : Oper := ({ dst := some 35, op := Op.move (Operand.tmp 34), type := 4, pos := "l09_typing.go:165", after := #[{ on := 15, ground := Ground.data }, { on := 14, ground := Ground.chain }], guard := none } : Oper)
abbrev kop17 : Oper := ({ dst := some 36, op := Op.move (Operand.tmp 1), type := 46, pos := "l09_typing.go:165", after := #[{ on := 16, ground := Ground.guard }], guard := some (16, true) } : Oper)
abbrev kop18 : Oper := ({ dst := some 37, op := Op.move (Operand.tmp 1), type := 46, pos := "l09_typing.go:165", after := #[{ on := 16, ground := Ground.guard }], guard := some (16, true) } : Oper)
abbrev kop19 : Oper := ({ dst := some 38, op := Op.move (Operand.tmp 11), type := 3, pos := "l09_typing.go:165", after := #[{ on := 16, ground := Ground.guard }], guard := some (16, true) } : Oper)
abbrev kop20 : Oper := ({ dst := some 39, op := Op.indexAddr 46 (Operand.tmp 37) (Operand.tmp 38), type := 0, pos := "l09_typing.go:165", after := #[{ on := 18, ground := Ground.data }, { on := 19, ground := Ground.data }, { on := 16, ground := Ground.guard }], guard := some (16, true) } : Oper)
abbrev kop21 : Oper := ({ dst := some 40, op := Op.fieldAddr 79 (Operand.tmp 39) 0, type := 0, pos := "l09_typing.go:165", after := #[{ on := 20, ground := Ground.data }, { on := 16, ground := Ground.guard }], guard := some (16, true) } : Oper)
abbrev kop22 : Oper := ({ dst := some 41, op := Op.load 9 (Operand.tmp 40), type := 9, pos := "l09_typing.go:165", after := #[{ on := 21, ground := Ground.data }, { on := 16, ground := Ground.guard }], guard := some (16, true) } : Oper)
abbrev kop23 : Oper := ({ dst := some 42, op := Op.call { callee := Callee.value (Operand.func 165), args := #[Operand.tmp 36, Operand.tmp 41], argTypes := #[46, 9] }, type := 3, pos := "l09_typing.go:165", after := #[{ on := 17, ground := Ground.data }, { on := 22, ground := Ground.data }, { on := 16, ground := Ground.chain }, { on := 16, ground := Ground.guard }], guard := some (16, true) } : Oper)
abbrev kop24 : Oper := ({ dst := some 43, op := Op.move (Operand.tmp 11), type := 3, pos := "l09_typing.go:165", after := #[{ on := 16, ground := Ground.guard }], guard := some (16, true) } : Oper)
abbrev kop25 : Oper := ({ dst := some 44, op := Op.binOp BinOp.eql 3 (Operand.tmp 42) (Operand.tmp 43) 3, type := 4, pos := "l09_typing.go:165", after := #[{ on := 23, ground := Ground.data }, { on := 24, ground := Ground.data }, { on := 16, ground := Ground.guard }], guard := some (16, true) } : Oper)
abbrev kop26 : Oper := ({ dst := some 45, op := Op.pick (Operand.tmp 35) (Operand.tmp 44) (Operand.const (Value.bool false)), type := 4, pos := "l09_typing.go:165", after := #[{ on := 16, ground := Ground.data }, { on := 25, ground := Ground.data }], guard := none } : Oper)
set_option maxRecDepth 100000 in
set_option maxHeartbeats 8000000 in
theorem known_any {C : Nat → Prop} {L : List Tg} {a : Addr} {c : Nat} {t : Ty} {vt : Value} {w : World} (b : Nat) (n : Int) (h : CX w C L (.slice (some a) L.length c)) (ht : TT w C t vt) (hL : L.length ≤ 1000) (hc : Cur w b) :
    Calls Tryz.prog 142 #[.pointer (some ⟨b, 0, none⟩), .slice (some a) L.length c, vt, .int .i64 n] w (KnowT 100 b w) := by
  obtain ⟨i0, hi, hz0, hz1, hz2⟩ := info_parts infoTm
  obtain ⟨st, rfl, hst0⟩ := ht
  obtain ⟨pt, ct, rfl⟩ := hst0.form
  have hbw := hc.lt
  obtain ⟨wl, hwl, hsz, hbl, qt, qr, q0⟩ := box_new3 w #[.int .i64 t.kind, .slice pt t.args.length ct] zero9 #[] 26 29 29
  have HI0 : Hid (KI w wl [] (.slice (some ⟨w.heap.size + 1 + 1, 0, none⟩) 0 0) [] wl) := Lib.hid ⟨Below.refl _ _, ⟨⟨rfl, Or.inr ⟨w.heap.size + 1 + 1, 0, #[], rfl, Nat.le_refl _, q0, Nat.le_refl _, by decide, rfl, rfl⟩⟩, fun g hg => by simp [Value.ownBlock] at hg; omega, ⟨rfl, fun i d v hd _ => by simp [flatTm] at hd⟩⟩, hbl, by omega⟩
  have HH := Lib.hid h
  have HTT := Lib.hid hst0
  have HQT := Lib.hid qt
  have HQR := Lib.hid qr
  have HSZ := Lib.hid hsz
  have HWL := Lib.hid hwl
  have HCU := Lib.hid hc
  clear h hst0 hsz hbl qt qr q0 hwl hc
  go_enter Tryz.func142, Tryz.ntmps142
  go_wp2_with fail
  rw [show ((w.alloc (.cells #[.int .i64 t.kind, .slice pt t.args.length ct] 26)).alloc (.cells zero9 29)).alloc (.cells #[] 29) = wl from HWL.out]
  go_loopw [10, 11] (fun o i wr => ∃ (k : Nat) (ts : List Tm) (ar : Addr) (cc : Nat) (us : List Value), k ≤ L.length ∧ i = .int .i64 k ∧ ts.length ≤ k ∧ (∀ x ∈ ts, x.wt ≤ 100) ∧ o = .slice (some ar) ts.length cc ∧ KI w wl ts (.slice (some ar) ts.length cc) us wr) (fun _ i _ => L.length - (intOf i).toNat)
  case atStart => exact ⟨0, [], _, 0, [], Nat.zero_le _, rfl, Nat.zero_le _, by simp, rfl, HI0.out⟩
  case round =>
    obtain ⟨k, ts, ar, cc, us, hk, rfl, hts, hsm, rfl, hI⟩ := hrel
    have HI := Lib.hid hI
    have HSM := Lib.hid hsm
    clear hI hsm
    by_cases hlk : k < L.length
    · obtain ⟨bo, oo, p, c', hq, hC, hb, hat, htp⟩ := cx_part HH.out.dm k hlk
      obtain rfl := Option.some.inj hq
      have HAT := Lib.hid hat
      have HTS := Lib.hid htp
      have HS := Lib.hid (fun (W : World) (hW : Below wr.heap.size wr W) => show Below wr.heap.size wr W ∧ W.cell? ⟨bo, oo + k * 4, none⟩ = some (.string L[k].nm) ∧ W.cell? ⟨bo, oo + k * 4 + 1, none⟩ = some (.int .i64 L[k].ty.kind) ∧ W.cell? ⟨bo, oo + k * 4 + 2, none⟩ = some (.slice p L[k].ty.args.length c') ∧ W.cell? ⟨bo, oo + k * 4 + 3, none⟩ = some (.int .i64 L[k].lv) ∧ W.cell? ⟨w.heap.size, 0, none⟩ = some (.int .i64 t.kind) ∧ W.cell? ⟨w.heap.size, 1, none⟩ = some (.slice pt t.args.length ct) from by
        have h4 := HAT.out W (.of_below (HI.out.toW.trans (hW.mono HI.out.toW.size)))
        have hb := ((HI.out.keep hW).below.block w.heap.size (by omega)).trans HQT.out
        exact ⟨hW, h4.nm, h4.kind, h4.args, h4.lv, cell_of_blk hb 0, cell_of_blk hb 1⟩)
      clear hq hC hb hat htp
      have hi0 : (0 : Int) ≤ (k : Int) := Int.natCast_nonneg _
      have hi1 : (k : Int) < (L.length : Int) := by omega
      by_cases hlv : L[k].lv = n
      · go_wp2_with fail
        refine wp_region_noPanic ?_
        refine wp_region_held_drew (S := (fun w' => Below wr.heap.size wr w' ∧ w'.cell? ⟨bo, oo + k * 4, none⟩ = some (.string L[k].nm) ∧ w'.cell? ⟨bo, oo + k * 4 + 1, none⟩ = some (.int .i64 L[k].ty.kind) ∧ w'.cell? ⟨bo, oo + k * 4 + 2, none⟩ = some (.slice p L[k].ty.args.length c') ∧ w'.cell? ⟨bo, oo + k * 4 + 3, none⟩ = some (.int .i64 L[k].lv) ∧ w'.cell? ⟨w.heap.size, 0, none⟩ = some (.int .i64 t.kind) ∧ w'.cell? ⟨w.heap.size, 1, none⟩ = some (.slice pt t.args.length ct))) (by kernel_rfl) ?_ (fun hHeld => ?_)
        · try dsimp only
          exact HS.out _ (Below.refl _ wr).drew
        refine wpAnyH_take (i := 0) (oi := kop0) (v := ?_) rfl (by kernel_rfl) (by kernel_rfl) (by kernel_rfl) (fun _ _ _ h => h) (Or.inl ⟨by rfl, ?_⟩) (by assumption) ?_
        rotate_left
        · intro w hSw
          try dsimp only at hSw
          go_simp
          try with_reducible rfl
        try simp only [Act.put, List.setIfInBounds_toArray, List.set_cons_zero, List.set_cons_succ]
        refine wpAnyH_take (i := 1) (oi := kop1) (v := ?_) rfl (by kernel_rfl) (by kernel_rfl) (by kernel_rfl) (fun _ _ _ h => h) (Or.inl ⟨by rfl, ?_⟩) (by assumption) ?_
        rotate_left
        · intro w hSw
          try dsimp only at hSw
          go_simp
          try with_reducible rfl
        try simp only [Act.put, List.setIfInBounds_toArray, List.set_cons_zero, List.set_cons_succ]
        refine wpAnyH_take (i := 2) (oi := kop2) (v := ?_) rfl (by kernel_rfl) (by kernel_rfl) (by kernel_rfl) (fun _ _ _ h => h) (Or.inl ⟨by rfl, ?_⟩) (by assumption) ?_
        rotate_left
        · intro w hSw
          try dsimp only at hSw
          go_simp
          try with_reducible rfl
        try simp only [Act.put, List.setIfInBounds_toArray, List.set_cons_zero, List.set_cons_succ]
        refine wpAnyH_take (i := 3) (oi := kop3) (v := ?_) rfl (by kernel_rfl) (by kernel_rfl) (by kernel_rfl) (fun _ _ _ h => h) (Or.inl ⟨by rfl, ?_⟩) (by assumption) ?_
        rotate_left
        · intro w hSw
          try dsimp only at hSw
          go_simp
          try with_reducible rfl
        try simp only [Act.put, List.setIfInBounds_toArray, List.set_cons_zero, List.set_cons_succ]
        refine wpAnyH_take (i := 4) (oi := kop4) (v := ?_) rfl (by kernel_rfl) (by kernel_rfl) (by kernel_rfl) (fun _ _ _ h => h) (Or.inl ⟨by rfl, ?_⟩) (by assumption) ?_
        rotate_left
        · intro w hSw
          try dsimp only at hSw
          go_simp
          try with_reducible rfl
        try simp only [Act.put, List.setIfInBounds_toArray, List.set_cons_zero, List.set_cons_succ]
        refine wpAnyH_take (i := 5) (oi := kop5) (v := ?_) rfl (by kernel_rfl) (by kernel_rfl) (by kernel_rfl) (fun _ _ _ h => h) (Or.inl ⟨by rfl, ?_⟩) (by assumption) ?_
        rotate_left
        · intro w hSw
          try dsimp only at hSw
          go_simp
          try with_reducible rfl
        try simp only [Act.put, List.setIfInBounds_toArray, List.set_cons_zero, List.set_cons_succ]
        refine wpAnyH_take (i := 6) (oi := kop6) (v := ?_) rfl (by kernel_rfl) (by kernel_rfl) (by kernel_rfl) (fun _ _ _ h => h) (Or.inl ⟨by rfl, ?_⟩) (by assumption) ?_
        rotate_left
        · intro w hSw
          try dsimp only at hSw
          go_simp
          try with_reducible rfl
        try simp only [Act.put, List.setIfInBounds_toArray, List.set_cons_zero, List.set_cons_succ]
        refine wpAnyH_take (i := 7) (oi := kop7) (v := ?_) rfl (by kernel_rfl) (by kernel_rfl) (by kernel_rfl) (fun _ _ _ h => h) (Or.inl ⟨by rfl, ?_⟩) (by assumption) ?_
        rotate_left
        · intro w hSw
          try dsimp only at hSw
          go_simp
          try with_reducible rfl
        try simp only [Act.put, List.setIfInBounds_toArray, List.set_cons_zero, List.set_cons_succ]
        refine wpAnyH_take (i := 8) (oi := kop8) (v := ?_) rfl (by kernel_rfl) (by kernel_rfl) (by kernel_rfl) (fun _ _ _ h => h) (Or.inl ⟨by rfl, ?_⟩) (by assumption) ?_
        rotate_left
        · intro w hSw
          try dsimp only at hSw
          go_simp
          try with_reducible rfl
        try simp only [Act.put, List.setIfInBounds_toArray, List.set_cons_zero, List.set_cons_succ]
        refine wpAnyH_take (i := 9) (oi := kop9) (v := ?_) rfl (by kernel_rfl) (by kernel_rfl) (by kernel_rfl) (fun _ _ _ h => h) (Or.inl ⟨by rfl, ?_⟩) (by assumption) ?_
        rotate_left
        · intro w hSw
          try dsimp only at hSw
          go_simp
          try with_reducible rfl
        try simp only [Act.put, List.setIfInBounds_toArray, List.set_cons_zero, List.set_cons_succ]
        refine wpAnyH_take (i := 10) (oi := kop10) (v := ?_) rfl (by kernel_rfl) (by kernel_rfl) (by kernel_rfl) (fun _ _ _ h => h) (Or.inl ⟨by rfl, ?_⟩) (by assumption) ?_
        rotate_left
        · intro w hSw
          try dsimp only at hSw
          go_simp
          try with_reducible rfl
        try simp only [Act.put, List.setIfInBounds_toArray, List.set_cons_zero, List.set_cons_succ]
        refine wpAnyH_take (i := 11) (oi := kop11) (v := ?_) rfl (by kernel_rfl) (by kernel_rfl) (by kernel_rfl) (fun _ _ _ h => h) (Or.inl ⟨by rfl, ?_⟩) (by assumption) ?_
        rotate_left
        · intro w hSw
          try dsimp only at hSw
          go_simp
          try with_reducible rfl
        try simp only [Act.put, List.setIfInBounds_toArray, List.set_cons_zero, List.set_cons_succ]
        refine wpAnyH_take (i := 12) (oi := kop12) (v := ?_) rfl (by kernel_rfl) (by kernel_rfl) (by kernel_rfl) (fun _ _ _ h => h) (Or.inl ⟨by rfl, ?_⟩) (by assumption) ?_
        rotate_left
        · intro w hSw
          try dsimp only at hSw
          go_simp
          try with_reducible rfl
        try simp only [Act.put, List.setIfInBounds_toArray, List.set_cons_zero, List.set_cons_succ]
        refine wpAnyH_take (i := 13) (oi := kop13) (v := ?_) rfl (by kernel_rfl) (by kernel_rfl) (by kernel_rfl) (fun _ _ _ h => h) (Or.inl ⟨by rfl, ?_⟩) (by assumption) ?_
        rotate_left
        · intro w hSw
          try dsimp only at hSw
          go_simp
          try with_reducible rfl
        try simp only [Act.put, List.setIfInBounds_toArray, List.set_cons_zero, List.set_cons_succ]
        refine wpAnyH_ready (rs := [14]) (by kernel_rfl) (by simp) ?_
        refine AllReadyH.cons (o := kop14) rfl (fun K hK => ?_) AllReadyH.nil
        go_simp
        go_at_call 185
        refine (eqSpT_any (⟨_, rfl, HTS.out.stays (.of_below (HI.out.toW.trans ((Below.refl _ wr).drew.mono HI.out.toW.size)))⟩ : TT wr.drew C L[k].ty (.agg #[.int .i64 L[k].ty.kind, .slice p L[k].ty.args.length c'])) (⟨_, rfl, HTT.out.stays (.of_below (HI.out.toW.trans ((Below.refl _ wr).drew.mono HI.out.toW.size)))⟩ : TT wr.drew C t (.agg #[.int .i64 t.kind, .slice pt t.args.length ct]))).mono ?_
        rintro e w1 ⟨q1, -, rfl, hb1⟩
        have HB1 := Lib.hid ((Below.refl wr.heap.size wr).drew.trans hb1)
        have HI1 := Lib.hid (HI.out.keep HB1.out)
        clear hb1
        refine hK.out _ _ ?_ (fun hHeld1 => ?_)
        · try dsimp only
          exact HS.out _ HB1.out
        clear hK K
        try simp only [Act.put, List.setIfInBounds_toArray, List.set_cons_zero, List.set_cons_succ]
        cases q1 with
        | false =>
          refine wpAnyH_take (i := 15) (oi := kop15) (v := ?_) rfl (by kernel_rfl) (by kernel_rfl) (by kernel_rfl) (fun _ _ _ h => h) (Or.inl ⟨by rfl, ?_⟩) (by assumption) ?_
          rotate_left
          · intro w hSw
            try dsimp only at hSw
            go_simp
            try with_reducible rfl
          try simp only [Act.put, List.setIfInBounds_toArray, List.set_cons_zero, List.set_cons_succ]
          refine wpAnyH_take (i := 16) (oi := kop16) (v := ?_) rfl (by kernel_rfl) (by kernel_rfl) (by kernel_rfl) (fun _ _ _ h => h) (Or.inl ⟨by rfl, ?_⟩) (by assumption) ?_
          rotate_left
          · intro w hSw
            try dsimp only at hSw
            go_simp
            try with_reducible rfl
          try simp only [Act.put, List.setIfInBounds_toArray, List.set_cons_zero, List.set_cons_succ]
          refine wpAnyH_take (i := 17) (oi := kop17) (v := undef) rfl (by kernel_rfl) (by kernel_rfl) (by kernel_rfl) (fun _ _ _ h => h) (Or.inr ⟨by rfl, rfl⟩) (by assumption) ?_
          try simp only [Act.put, List.setIfInBounds_toArray, List.set_cons_zero, List.set_cons_succ]
          refine wpAnyH_take (i := 18) (oi := kop18) (v := undef) rfl (by kernel_rfl) (by kernel_rfl) (by kernel_rfl) (fun _ _ _ h => h) (Or.inr ⟨by rfl, rfl⟩) (by assumption) ?_
          try simp only [Act.put, List.setIfInBounds_toArray, List.set_cons_zero, List.set_cons_succ]
          refine wpAnyH_take (i := 19) (oi := kop19) (v := undef) rfl (by kernel_rfl) (by kernel_rfl) (by kernel_rfl) (fun _ _ _ h => h) (Or.inr ⟨by rfl, rfl⟩) (by assumption) ?_
          try simp only [Act.put, List.setIfInBounds_toArray, List.set_cons_zero, List.set_cons_succ]
          refine wpAnyH_take (i := 20) (oi := kop20) (v := undef) rfl (by kernel_rfl) (by kernel_rfl) (by kernel_rfl) (fun _ _ _ h => h) (Or.inr ⟨by rfl, rfl⟩) (by assumption) ?_
          try simp only [Act.put, List.setIfInBounds_toArray, List.set_cons_zero, List.set_cons_succ]
          refine wpAnyH_take (i := 21) (oi := kop21) (v := undef) rfl (by kernel_rfl) (by kernel_rfl) (by kernel_rfl) (fun _ _ _ h => h) (Or.inr ⟨by rfl, rfl⟩) (by assumption) ?_
          try simp only [Act.put, List.setIfInBounds_toArray, List.set_cons_zero, List.set_cons_succ]
          refine wpAnyH_take (i := 22) (oi := kop22) (v := undef) rfl (by kernel_rfl) (by kernel_rfl) (by kernel_rfl) (fun _ _ _ h => h) (Or.inr ⟨by rfl, rfl⟩) (by assumption) ?_
          try simp only [Act.put, List.setIfInBounds_toArray, List.set_cons_zero, List.set_cons_succ]
          refine wpAnyH_take (i := 23) (oi := kop23) (v := undef) rfl (by kernel_rfl) (by kernel_rfl) (by kernel_rfl) (fun _ _ _ h => h) (Or.inr ⟨by rfl, rfl⟩) (by assumption) ?_
          try simp only [Act.put, List.setIfInBounds_toArray, List.set_cons_zero, List.set_cons_succ]
          refine wpAnyH_take (i := 24) (oi := kop24) (v := undef) rfl (by kernel_rfl) (by kernel_rfl) (by kernel_rfl) (fun _ _ _ h => h) (Or.inr ⟨by rfl, rfl⟩) (by assumption) ?_
          try simp only [Act.put, List.setIfInBounds_toArray, List.set_cons_zero, List.set_cons_succ]
          refine wpAnyH_take (i := 25) (oi := kop25) (v := undef) rfl (by kernel_rfl) (by kernel_rfl) (by kernel_rfl) (fun _ _ _ h => h) (Or.inr ⟨by rfl, rfl⟩) (by assumption) ?_
          try simp only [Act.put, List.setIfInBounds_toArray, List.set_cons_zero, List.set_cons_succ]
          refine wpAnyH_take (i := 26) (oi := kop26) (v := ?_) rfl (by kernel_rfl) (by kernel_rfl) (by kernel_rfl) (fun _ _ _ h => h) (Or.inl ⟨by rfl, ?_⟩) (by assumption) ?_
          rotate_left
          · intro w hSw
            try dsimp only at hSw
            go_simp
            try with_reducible rfl
          try simp only [Act.put, List.setIfInBounds_toArray, List.set_cons_zero, List.set_cons_succ]
          refine wpAnyH_done (by kernel_rfl) ?_ _
          refine NoPanic.normal ?_
          try clear hHeld
          try clear hHeld1
          try clear hHeld2
          go_wp2_with fail
          go_roundw
          case rel => exact ⟨k + 1, ts, ar, cc, us, by omega, by go_num, by omega, HSM.out, rfl, HI1.out⟩
          case measure => simp [intOf]; omega
        | true =>
          refine wpAnyH_take (i := 15) (oi := kop15) (v := ?_) rfl (by kernel_rfl) (by kernel_rfl) (by kernel_rfl) (fun _ _ _ h => h) (Or.inl ⟨by rfl, ?_⟩) (by assumption) ?_
          rotate_left
          · intro w hSw
            try dsimp only at hSw
            go_simp
            try with_reducible rfl
          try simp only [Act.put, List.setIfInBounds_toArray, List.set_cons_zero, List.set_cons_succ]
          refine wpAnyH_take (i := 16) (oi := kop16) (v := ?_) rfl (by kernel_rfl) (by kernel_rfl) (by kernel_rfl) (fun _ _ _ h => h) (Or.inl ⟨by rfl, ?_⟩) (by assumption) ?_
          rotate_left
          · intro w hSw
            try dsimp only at hSw
            go_simp
            try with_reducible rfl
          try simp only [Act.put, List.setIfInBounds_toArray, List.set_cons_zero, List.set_cons_succ]
          refine wpAnyH_take (i := 17) (oi := kop17) (v := ?_) rfl (by kernel_rfl) (by kernel_rfl) (by kernel_rfl) (fun _ _ _ h => h) (Or.inl ⟨by rfl, ?_⟩) (by assumption) ?_
          rotate_left
          · intro w hSw
            try dsimp only at hSw
            go_simp
            try with_reducible rfl
          try simp only [Act.put, List.setIfInBounds_toArray, List.set_cons_zero, List.set_cons_succ]
          refine wpAnyH_take (i := 18) (oi := kop18) (v := ?_) rfl (by kernel_rfl) (by kernel_rfl) (by kernel_rfl) (fun _ _ _ h => h) (Or.inl ⟨by rfl, ?_⟩) (by assumption) ?_
          rotate_left
          · intro w hSw
            try dsimp only at hSw
            go_simp
            try with_reducible rfl
          try simp only [Act.put, List.setIfInBounds_toArray, List.set_cons_zero, List.set_cons_succ]
          refine wpAnyH_take (i := 19) (oi := kop19) (v := ?_) rfl (by kernel_rfl) (by kernel_rfl) (by kernel_rfl) (fun _ _ _ h => h) (Or.inl ⟨by rfl, ?_⟩) (by assumption) ?_
          rotate_left
          · intro w hSw
            try dsimp only at hSw
            go_simp
            try with_reducible rfl
          try simp only [Act.put, List.setIfInBounds_toArray, List.set_cons_zero, List.set_cons_succ]
          refine wpAnyH_take (i := 20) (oi := kop20) (v := ?_) rfl (by kernel_rfl) (by kernel_rfl) (by kernel_rfl) (fun _ _ _ h => h) (Or.inl ⟨by rfl, ?_⟩) (by assumption) ?_
          rotate_left
          · intro w hSw
            try dsimp only at hSw
            go_simp
            try with_reducible rfl
          try simp only [Act.put, List.setIfInBounds_toArray, List.set_cons_zero, List.set_cons_succ]
          refine wpAnyH_take (i := 21) (oi := kop21) (v := ?_) rfl (by kernel_rfl) (by kernel_rfl) (by kernel_rfl) (fun _ _ _ h => h) (Or.inl ⟨by rfl, ?_⟩) (by assumption) ?_
          rotate_left
          · intro w hSw
            try dsimp only at hSw
            go_simp
            try with_reducible rfl
          try simp only [Act.put, List.setIfInBounds_toArray, List.set_cons_zero, List.set_cons_succ]
          refine wpAnyH_take (i := 22) (oi := kop22) (v := ?_) rfl (by kernel_rfl) (by kernel_rfl) (by kernel_rfl) (fun _ _ _ h => h) (Or.inl ⟨by rfl, ?_⟩) (by assumption) ?_
          rotate_left
          · intro w hSw
            try dsimp only at hSw
            go_simp
            try with_reducible rfl
          try simp only [Act.put, List.setIfInBounds_toArray, List.set_cons_zero, List.set_cons_succ]
          refine wpAnyH_take (i := 24) (oi := kop24) (v := ?_) rfl (by kernel_rfl) (by kernel_rfl) (by kernel_rfl) (fun _ _ _ h => h) (Or.inl ⟨by rfl, ?_⟩) (by assumption) ?_
          rotate_left
          · intro w hSw
            try dsimp only at hSw
            go_simp
            try with_reducible rfl
          try simp only [Act.put, List.setIfInBounds_toArray, List.set_cons_zero, List.set_cons_succ]
          refine wpAnyH_ready (rs := [23]) (by kernel_rfl) (by simp) ?_
          refine AllReadyH.cons (o := kop23) rfl (fun K hK => ?_) AllReadyH.nil
          go_simp
          go_at_call 165
          refine (last_any L[k].nm (HH.out.stays (.of_below HI1.out.toW)) hL).mono ?_
          rintro e w2 ⟨r, rfl, hw2⟩
          subst hw2
          refine hK.out _ _ ?_ (fun hHeld2 => ?_)
          · try dsimp only
            exact HS.out _ HB1.out
          clear hK K
          try simp only [Act.put, List.setIfInBounds_toArray, List.set_cons_zero, List.set_cons_succ]
          by_cases hr : r = (k : Int)
          · skip
            refine wpAnyH_take (i := 25) (oi := kop25) (v := ?_) rfl (by kernel_rfl) (by kernel_rfl) (by kernel_rfl) (fun _ _ _ h => h) (Or.inl ⟨by rfl, ?_⟩) (by assumption) ?_
            rotate_left
            · intro w hSw
              try dsimp only at hSw
              go_simp
              try with_reducible rfl
            try simp only [Act.put, List.setIfInBounds_toArray, List.set_cons_zero, List.set_cons_succ]
            refine wpAnyH_take (i := 26) (oi := kop26) (v := ?_) rfl (by kernel_rfl) (by kernel_rfl) (by kernel_rfl) (fun _ _ _ h => h) (Or.inl ⟨by rfl, ?_⟩) (by assumption) ?_
            rotate_left
            · intro w hSw
              try dsimp only at hSw
              go_simp
              try with_reducible rfl
            try simp only [Act.put, List.setIfInBounds_toArray, List.set_cons_zero, List.set_cons_succ]
            refine wpAnyH_done (by kernel_rfl) ?_ _
            refine NoPanic.normal ?_
            clear hHeld hHeld1 hHeld2
            obtain ⟨m0, m1, m2, m3⟩ := HAT.out w2 (.of_below HI1.out.toW)
            go_wp2_with fail
            refine (l5Var_any L[k].nm _).mono ?_
            rintro e w6 ⟨rfl, hb6⟩
            have HI7 := Lib.hid (HI1.out.keep hb6)
            clear hb6 m0 m1 m2 m3
            go_wp2_with (at_builtin; refine wpList_app1 (w0 := w6) rfl _ _ rfl Tryz.underlying27 hi hz0 hz1 hz2 rfl (by decide) rfl HI7.out.row.own _ rfl (by simp) rfl (fun u hu => by simp at hu; rcases hu with rfl | rfl | rfl | rfl | rfl | rfl | rfl | rfl | rfl <;> rfl) (by unfold maxLen; omega) (by omega) HI7.out.size ?_; intro w8 g cap hA; have HA := Lib.hid hA; clear hA; go_frame)
            all_goals
              go_roundw
              case rel =>
                refine ⟨k + 1, ts ++ [leaf 1 L[k].nm 0], ⟨g, 0, none⟩, cap, us ++ [.int .i64 1, .string L[k].nm, .string ⟨#[]⟩, .int .i64 0, .int .i64 0, .slice none 0 0, .int .i64 0, .slice none 0 0, .slice none 0 0], by omega, by go_num, by simp; omega, fun x hx => ?_, by simp, ?_⟩
                · rcases List.mem_append.1 hx with hx | hx
                  · exact HSM.out x hx
                  · rw [List.mem_singleton.1 hx, leaf_wt]; exact HH.out.nm _ (List.getElem_mem hlk)
                · have h9 := HI7.out.app HA.out (leaf_tm' _ _ 1 L[k].nm 0).ms
                  rw [List.length_append, List.length_singleton]
                  exact h9
              case measure => simp [intOf]; omega
          · skip
            refine wpAnyH_take (i := 25) (oi := kop25) (v := ?_) rfl (by kernel_rfl) (by kernel_rfl) (by kernel_rfl) (fun _ _ _ h => h) (Or.inl ⟨by rfl, ?_⟩) (by assumption) ?_
            rotate_left
            · intro w hSw
              try dsimp only at hSw
              go_simp
              try with_reducible rfl
            try simp only [Act.put, List.setIfInBounds_toArray, List.set_cons_zero, List.set_cons_succ]
            refine wpAnyH_take (i := 26) (oi := kop26) (v := ?_) rfl (by kernel_rfl) (by kernel_rfl) (by kernel_rfl) (fun _ _ _ h => h) (Or.inl ⟨by rfl, ?_⟩) (by assumption) ?_
            rotate_left
            · intro w hSw
              try dsimp only at hSw
              go_simp
              try with_reducible rfl
            try simp only [Act.put, List.setIfInBounds_toArray, List.set_cons_zero, List.set_cons_succ]
            refine wpAnyH_done (by kernel_rfl) ?_ _
            refine NoPanic.normal ?_
            try clear hHeld
            try clear hHeld1
            try clear hHeld2
            go_wp2_with fail
            go_roundw
            case rel => exact ⟨k + 1, ts, ar, cc, us, by omega, by go_num, by omega, HSM.out, rfl, HI1.out⟩
            case measure => simp [intOf]; omega
      · have hd1 : decide (L[k].lv = n) = false := decide_eq_false hlv
        have hd2 : (L[k].lv == n) = false := by simp [hlv]
        go_wp2_with fail
        refine wp_region_noPanic ?_
        refine wp_region_held_drew (S := (fun w' => Below wr.heap.size wr w' ∧ w'.cell? ⟨bo, oo + k * 4, none⟩ = some (.string L[k].nm) ∧ w'.cell? ⟨bo, oo + k * 4 + 1, none⟩ = some (.int .i64 L[k].ty.kind) ∧ w'.cell? ⟨bo, oo + k * 4 + 2, none⟩ = some (.slice p L[k].ty.args.length c') ∧ w'.cell? ⟨bo, oo + k * 4 + 3, none⟩ = some (.int .i64 L[k].lv) ∧ w'.cell? ⟨w.heap.size, 0, none⟩ = some (.int .i64 t.kind) ∧ w'.cell? ⟨w.heap.size, 1, none⟩ = some (.slice pt t.args.length ct))) (by kernel_rfl) ?_ (fun hHeld => ?_)
        · try dsimp only
          exact HS.out _ (Below.refl _ wr).drew
        refine wpAnyH_take (i := 0) (oi := kop0) (v := ?_) rfl (by kernel_rfl) (by kernel_rfl) (by kernel_rfl) (fun _ _ _ h => h) (Or.inl ⟨by rfl, ?_⟩) (by assumption) ?_
        rotate_left
        · intro w hSw
          try dsimp only at hSw
          go_simp
          try with_reducible rfl
        try simp only [Act.put, List.setIfInBounds_toArray, List.set_cons_zero, List.set_cons_succ]
        refine wpAnyH_take (i := 1) (oi := kop1) (v := ?_) rfl (by kernel_rfl) (by kernel_rfl) (by kernel_rfl) (fun _ _ _ h => h) (Or.inl ⟨by rfl, ?_⟩) (by assumption) ?_
        rotate_left
        · intro w hSw
          try dsimp only at hSw
          go_simp
          try with_reducible rfl
        try simp only [Act.put, List.setIfInBounds_toArray, List.set_cons_zero, List.set_cons_succ]
        refine wpAnyH_take (i := 2) (oi := kop2) (v := ?_) rfl (by kernel_rfl) (by kernel_rfl) (by kernel_rfl) (fun _ _ _ h => h) (Or.inl ⟨by rfl, ?_⟩) (by assumption) ?_
        rotate_left
        · intro w hSw
          try dsimp only at hSw
          go_simp
          try with_reducible rfl
        try simp only [Act.put, List.setIfInBounds_toArray, List.set_cons_zero, List.set_cons_succ]
        refine wpAnyH_take (i := 3) (oi := kop3) (v := ?_) rfl (by kernel_rfl) (by kernel_rfl) (by kernel_rfl) (fun _ _ _ h => h) (Or.inl ⟨by rfl, ?_⟩) (by assumption) ?_
        rotate_left
        · intro w hSw
          try dsimp only at hSw
          go_simp
          try with_reducible rfl
        try simp only [Act.put, List.setIfInBounds_toArray, List.set_cons_zero, List.set_cons_succ]
        refine wpAnyH_take (i := 4) (oi := kop4) (v := ?_) rfl (by kernel_rfl) (by kernel_rfl) (by kernel_rfl) (fun _ _ _ h => h) (Or.inl ⟨by rfl, ?_⟩) (by assumption) ?_
        rotate_left
        · intro w hSw
          try dsimp only at hSw
          go_simp
          try with_reducible rfl
        try simp only [Act.put, List.setIfInBounds_toArray, List.set_cons_zero, List.set_cons_succ]
        refine wpAnyH_take (i := 5) (oi := kop5) (v := ?_) rfl (by kernel_rfl) (by kernel_rfl) (by kernel_rfl) (fun _ _ _ h => h) (Or.inl ⟨by rfl, ?_⟩) (by assumption) ?_
        rotate_left
        · intro w hSw
          try dsimp only at hSw
          go_simp
          try with_reducible rfl
        try simp only [Act.put, List.setIfInBounds_toArray, List.set_cons_zero, List.set_cons_succ]
        refine wpAnyH_take (i := 6) (oi := kop6) (v := ?_) rfl (by kernel_rfl) (by kernel_rfl) (by kernel_rfl) (fun _ _ _ h => h) (Or.inl ⟨by rfl, ?_⟩) (by assumption) ?_
        rotate_left
        · intro w hSw
          try dsimp only at hSw
          go_simp
          try with_reducible rfl
        try simp only [Act.put, List.setIfInBounds_toArray, List.set_cons_zero, List.set_cons_succ]
        refine wpAnyH_take (i := 7) (oi := kop7) (v := ?_) rfl (by kernel_rfl) (by kernel_rfl) (by kernel_rfl) (fun _ _ _ h => h) (Or.inl ⟨by rfl, ?_⟩) (by assumption) ?_
        rotate_left
        · intro w hSw
          try dsimp only at hSw
          go_simp
          try with_reducible rfl
        try simp only [Act.put, List.setIfInBounds_toArray, List.set_cons_zero, List.set_cons_succ]
        refine wpAnyH_take (i := 8) (oi := kop8) (v := undef) rfl (by kernel_rfl) (by kernel_rfl) (by kernel_rfl) (fun _ _ _ h => h) (Or.inr ⟨by rfl, rfl⟩) (by assumption) ?_
        try simp only [Act.put, List.setIfInBounds_toArray, List.set_cons_zero, List.set_cons_succ]
        refine wpAnyH_take (i := 9) (oi := kop9) (v := undef) rfl (by kernel_rfl) (by kernel_rfl) (by kernel_rfl) (fun _ _ _ h => h) (Or.inr ⟨by rfl, rfl⟩) (by assumption) ?_
        try simp only [Act.put, List.setIfInBounds_toArray, List.set_cons_zero, List.set_cons_succ]
        refine wpAnyH_take (i := 10) (oi := kop10) (v := undef) rfl (by kernel_rfl) (by kernel_rfl) (by kernel_rfl) (fun _ _ _ h => h) (Or.inr ⟨by rfl, rfl⟩) (by assumption) ?_
        try simp only [Act.put, List.setIfInBounds_toArray, List.set_cons_zero, List.set_cons_succ]
        refine wpAnyH_take (i := 11) (oi := kop11) (v := undef) rfl (by kernel_rfl) (by kernel_rfl) (by kernel_rfl) (fun _ _ _ h => h) (Or.inr ⟨by rfl, rfl⟩) (by assumption) ?_
        try simp only [Act.put, List.setIfInBounds_toArray, List.set_cons_zero, List.set_cons_succ]
        refine wpAnyH_take (i := 12) (oi := kop12) (v := undef) rfl (by kernel_rfl) (by kernel_rfl) (by kernel_rfl) (fun _ _ _ h => h) (Or.inr ⟨by rfl, rfl⟩) (by assumption) ?_
        try simp only [Act.put, List.setIfInBounds_toArray, List.set_cons_zero, List.set_cons_succ]
        refine wpAnyH_take (i := 13) (oi := kop13) (v := undef) rfl (by kernel_rfl) (by kernel_rfl) (by kernel_rfl) (fun _ _ _ h => h) (Or.inr ⟨by rfl, rfl⟩) (by assumption) ?_
        try simp only [Act.put, List.setIfInBounds_toArray, List.set_cons_zero, List.set_cons_succ]
        refine wpAnyH_take (i := 14) (oi := kop14) (v := undef) rfl (by kernel_rfl) (by kernel_rfl) (by kernel_rfl) (fun _ _ _ h => h) (Or.inr ⟨by rfl, rfl⟩) (by assumption) ?_
        try simp only [Act.put, List.setIfInBounds_toArray, List.set_cons_zero, List.set_cons_succ]
        refine wpAnyH_take (i := 15) (oi := kop15) (v := ?_) rfl (by kernel_rfl) (by kernel_rfl) (by kernel_rfl) (fun _ _ _ h => h) (Or.inl ⟨by rfl, ?_⟩) (by assumption) ?_
        rotate_left
        · intro w hSw
          try dsimp only at hSw
          go_simp
          try with_reducible rfl
        try simp only [Act.put, List.setIfInBounds_toArray, List.set_cons_zero, List.set_cons_succ]
        refine wpAnyH_take (i := 16) (oi := kop16) (v := ?_) rfl (by kernel_rfl) (by kernel_rfl) (by kernel_rfl) (fun _ _ _ h => h) (Or.inl ⟨by rfl, ?_⟩) (by assumption) ?_
        rotate_left
        · intro w hSw
          try dsimp only at hSw
          go_simp
          try with_reducible rfl
        try simp only [Act.put, List.setIfInBounds_toArray, List.set_cons_zero, List.set_cons_succ]
        refine wpAnyH_take (i := 17) (oi := kop17) (v := undef) rfl (by kernel_rfl) (by kernel_rfl) (by kernel_rfl) (fun _ _ _ h => h) (Or.inr ⟨by rfl, rfl⟩) (by assumption) ?_
        try simp only [Act.put, List.setIfInBounds_toArray, List.set_cons_zero, List.set_cons_succ]
        refine wpAnyH_take (i := 18) (oi := kop18) (v := undef) rfl (by kernel_rfl) (by kernel_rfl) (by kernel_rfl) (fun _ _ _ h => h) (Or.inr ⟨by rfl, rfl⟩) (by assumption) ?_
        try simp only [Act.put, List.setIfInBounds_toArray, List.set_cons_zero, List.set_cons_succ]
        refine wpAnyH_take (i := 19) (oi := kop19) (v := undef) rfl (by kernel_rfl) (by kernel_rfl) (by kernel_rfl) (fun _ _ _ h => h) (Or.inr ⟨by rfl, rfl⟩) (by assumption) ?_
        try simp only [Act.put, List.setIfInBounds_toArray, List.set_cons_zero, List.set_cons_succ]
        refine wpAnyH_take (i := 20) (oi := kop20) (v := undef) rfl (by kernel_rfl) (by kernel_rfl) (by kernel_rfl) (fun _ _ _ h => h) (Or.inr ⟨by rfl, rfl⟩) (by assumption) ?_
        try simp only [Act.put, List.setIfInBounds_toArray, List.set_cons_zero, List.set_cons_succ]
        refine wpAnyH_take (i := 21) (oi := kop21) (v := undef) rfl (by kernel_rfl) (by kernel_rfl) (by kernel_rfl) (fun _ _ _ h => h) (Or.inr ⟨by rfl, rfl⟩) (by assumption) ?_
        try simp only [Act.put, List.setIfInBounds_toArray, List.set_cons_zero, List.set_cons_succ]
        refine wpAnyH_take (i := 22) (oi := kop22) (v := undef) rfl (by kernel_rfl) (by kernel_rfl) (by kernel_rfl) (fun _ _ _ h => h) (Or.inr ⟨by rfl, rfl⟩) (by assumption) ?_
        try simp only [Act.put, List.setIfInBounds_toArray, List.set_cons_zero, List.set_cons_succ]
        refine wpAnyH_take (i := 23) (oi := kop23) (v := undef) rfl (by kernel_rfl) (by kernel_rfl) (by kernel_rfl) (fun _ _ _ h => h) (Or.inr ⟨by rfl, rfl⟩) (by assumption) ?_
        try simp only [Act.put, List.setIfInBounds_toArray, List.set_cons_zero, List.set_cons_succ]
        refine wpAnyH_take (i := 24) (oi := kop24) (v := undef) rfl (by kernel_rfl) (by kernel_rfl) (by kernel_rfl) (fun _ _ _ h => h) (Or.inr ⟨by rfl, rfl⟩) (by assumption) ?_
        try simp only [Act.put, List.setIfInBounds_toArray, List.set_cons_zero, List.set_cons_succ]
        refine wpAnyH_take (i := 25) (oi := kop25) (v := undef) rfl (by kernel_rfl) (by kernel_rfl) (by kernel_rfl) (fun _ _ _ h => h) (Or.inr ⟨by rfl, rfl⟩) (by assumption) ?_
        try simp only [Act.put, List.setIfInBounds_toArray, List.set_cons_zero, List.set_cons_succ]
        refine wpAnyH_take (i := 26) (oi := kop26) (v := ?_) rfl (by kernel_rfl) (by kernel_rfl) (by kernel_rfl) (fun _ _ _ h => h) (Or.inl ⟨by rfl, ?_⟩) (by assumption) ?_
        rotate_left
        · intro w hSw
          try dsimp only at hSw
          go_simp
          try with_reducible rfl
        try simp only [Act.put, List.setIfInBounds_toArray, List.set_cons_zero, List.set_cons_succ]
        refine wpAnyH_done (by kernel_rfl) ?_ _
        refine NoPanic.normal ?_
        try clear hHeld
        try clear hHeld1
        try clear hHeld2
        go_wp2_with fail
        go_roundw
        case rel => exact ⟨k + 1, ts, ar, cc, us, by omega, by go_num, by omega, HSM.out, rfl, HI.out.keep (Below.refl _ wr).drew⟩
        case measure => simp [intOf]; omega
    · obtain rfl : k = L.length := by omega
      obtain ⟨⟨r0, r1, r2, r3, r4, r5, r6, r7, r8⟩, rz⟩ := zero9_facts ((HI.out.below.block (w.heap.size + 1) (by omega)).trans HQR.out)
      have HSL : Hid (Slot w b (w.heap.size + 1) wr) := Lib.hid ⟨HCU.out.below HI.out.toW, grown_below (grownB_refl w _) (Nat.le_refl _) HI.out.toW, (HI.out.below.block (w.heap.size + 1) (by omega)).trans HQR.out, by omega, hbw⟩
      by_cases h0 : ts.length = 0
      · go_wp2_with fail
        refine bodyPost_ret (v := .tuple #[leafV 0 ⟨#[]⟩ 0, .bool false]) ?_ rfl ?_
        · rw [results_ct rfl]
          go_simp
        · exact .of_gen _ (HSL.out.fin9 (x := leaf 0 ⟨#[]⟩ 0) (by rw [leaf_wt]; exact Nat.zero_le _) (leaf_tm' _ _ 0 ⟨#[]⟩ 0))
      · clear r0 r1 r2 r3 r4 r5 r6 r7 r8 rz
        go_wp2_with fail
        refine (below_any b ts.length wr (by omega) (by omega) HSL.out.cur).mono ?_
        rintro e w1 ⟨x, ⟨hx0, hx1⟩, rfl, hc1, hg1⟩
        obtain ⟨j, rfl⟩ : ∃ j : Nat, x = (j : Int) := ⟨x.toNat, by omega⟩
        have hj : j < ts.length := by omega
        have HS1 := Lib.hid (HSL.out.step hc1 hg1)
        obtain ⟨⟨r0, r1, r2, r3, r4, r5, r6, r7, r8⟩, rz⟩ := zero9_facts HS1.out.box
        obtain ⟨bo, oo, tp2, tc2, rp2, rc2, p3, c3, hq, hC, hb, h9, hP⟩ := tm_part HI.out.row.dm j hj
        obtain rfl := Option.some.inj hq
        have hst : Stays (fun z => w.heap.size + 2 ≤ z) wr w1 := grown_stays hg1 (fun z hz => by omega)
        obtain ⟨g0, g1, g2, g3, g4, g5, g6, g7, g8⟩ := h9 w1 hst
        have HP := Lib.hid (hP.stays hst)
        have hbo : w.heap.size + 2 ≤ bo := hC
        clear hc1 hg1 hC hb h9 hP hst
        go_wp2_with fail
        refine bodyPost_ret (v := .tuple #[tmV ts[j] tp2 tc2 rp2 rc2 p3 c3, .bool true]) ?_ rfl ?_
        · rw [results_ct rfl]
          go_simp
          all_goals (repeat' apply And.intro) <;> rfl
        · exact .of_gen _ (HS1.out.fin9 (x := ts[j]) (HSM.out _ (List.getElem_mem hj)) (HP.out.mono (fun z hz _ => by have hz' : w.heap.size + 2 ≤ z := hz; exact ⟨by omega, by omega⟩)))
end Go.Proofs.YtfeijijeohfpgaaGreatDoor
namespace Go.Proofs.YtfeijijeohfpgaaGreatDoor
open Go Go.RowKit
def gB : Nat → Nat
  | 0 => 100
  | d + 1 => 3 * gB d + 300
def GenH (b d : Nat) (D : Int) : Prop := ∀ (C : Nat → Prop) (L : List Tg) (a : Addr) (c : Nat) (t : Ty) (vt : Value) (n : Int) (W : World), CX W C L (.slice (some a) L.length c) → TT W C t vt → t.form = true → t.nodes + d ≤ 100 → L.length + d ≤ 1000 → (∀ z, C z → z ≠ b) → Cur W b →
  Calls Tryz.prog 92 #[.pointer (some ⟨b, 0, none⟩), .slice (some a) L.length c, vt, .int .i64 n, .int .i64 D] W (GenT (gB d) b W)

set_option maxRecDepth 100000 in
set_option maxHeartbeats 4000000 in
theorem base_step {C : Nat → Prop} {L : List Tg} {a : Addr} {c : Nat} {t : Ty} {vt : Value} {w : World} (b d : Nat) (D n : Int) (hD0 : 2 ≤ D) (hD : D ≤ 9) (hgd : gB d ≤ 100000) (IH : GenH b d (D - 1)) (h : CX w C L (.slice (some a) L.length c)) (ht : TT w C t vt) (hd : d ≤ 90) (hL : L.length + d ≤ 1000) (hCb : ∀ z, C z → z ≠ b) (hc : Cur w b) :
    Calls Tryz.prog 145 #[.pointer (some ⟨b, 0, none⟩), .slice (some a) L.length c, vt, .int .i64 n, .int .i64 D] w (GenT (gB (d + 1)) b w) := by
  have hwr : IntKind.i64.wrap (D - 1) = D - 1 := IntWalk.i64_in _ (by omega)
  obtain ⟨st, rfl, hst0⟩ := ht
  obtain ⟨pt, ct, rfl⟩ := hst0.form
  have hbw := hc.lt
  generalize t.kind = kk at *
  obtain ⟨wl, hwl, hsz, hbl, qt, qr⟩ := box_new2 w #[.int .i64 kk, .slice pt t.args.length ct] zero9 26 29
  have HSL : Hid (Slot w b (w.heap.size + 1) wl) := Lib.hid ⟨hc.below hbl, grown_below (grownB_refl w _) (Nat.le_refl _) hbl, qr, by omega, hbw⟩
  have HH := Lib.hid h
  have HIH := Lib.hid IH
  have HWL := Lib.hid hwl
  have HQT := Lib.hid qt
  have HSZ := Lib.hid hsz
  have HBL := Lib.hid hbl
  clear hwl hsz hbl qt qr hc h IH
  go_enter Tryz.func145, Tryz.ntmps145
  go_wp2_with fail
  rw [show (w.alloc (.cells #[.int .i64 kk, .slice pt t.args.length ct] 26)).alloc (.cells zero9 29) = wl from HWL.out]
  refine (l3Int_any wl).mono ?_
  rintro e w1 ⟨rfl, hb1⟩
  obtain ⟨wi, hwi, hsi, hbi, qi⟩ := box_new w1 #[.int .i64 1, .slice none 0 0] 26
  have HWI := Lib.hid hwi
  clear hwi
  go_wp2_with fail
  rw [show w1.alloc (.cells #[.int .i64 1, .slice none 0 0] 26) = wi from HWI.out]
  refine (l3Bool_any wi).mono ?_
  rintro e w2 ⟨rfl, hb2⟩
  obtain ⟨wb, hwb, hsb, hbb, qb⟩ := box_new w2 #[.int .i64 2, .slice none 0 0] 26
  have HSB := Lib.hid ((((HSL.out.below hb1).below hbi).below hb2).below hbb)
  have hlt1 : w.heap.size + 2 ≤ w1.heap.size := by have := hb1.size; have := HSZ.out; omega
  have hlt2 : w1.heap.size + 1 ≤ w2.heap.size := by have := hb2.size; omega
  have HF := Lib.hid (fun (W : World) (hW : wb.grownBy W (some b)) => show (W.cell? ⟨w1.heap.size, 0, none⟩ = some (.int .i64 1) ∧ W.cell? ⟨w1.heap.size, 1, none⟩ = some (.slice none 0 0)) ∧ (W.cell? ⟨w2.heap.size, 0, none⟩ = some (.int .i64 2) ∧ W.cell? ⟨w2.heap.size, 1, none⟩ = some (.slice none 0 0)) from by
    have ci := (hW.block w1.heap.size (by omega) (fun e => by have := Option.some.inj e; omega)).trans ((hbb.block _ (by omega)).trans ((hb2.block _ (by omega)).trans qi))
    have cb := (hW.block w2.heap.size (by omega) (fun e => by have := Option.some.inj e; omega)).trans qb
    exact ⟨⟨cell_of_blk ci 0, cell_of_blk ci 1⟩, ⟨cell_of_blk cb 0, cell_of_blk cb 1⟩⟩)
  have HWB := Lib.hid hwb
  have HBB : Hid (Below w.heap.size w wb) := Lib.hid ((((HBL.out.trans (hb1.mono HBL.out.size)).trans (hbi.mono (by omega))).trans (hb2.mono (by omega))).trans (hbb.mono (by omega)))
  have HST := Lib.hid (fun (W : World) (hW : wb.grownBy W (some b)) => grown_stays (C := C) (grownBy_trans (grown_below (grownB_refl w (some b)) (Nat.le_refl _) HBB.out) hW) hCb)
  have hk0 : wb.cell? ⟨w.heap.size, 0, none⟩ = some (.int .i64 kk) := cell_of_blk ((hbb.block _ (by omega)).trans ((hb2.block _ (by omega)).trans ((hbi.block _ (by omega)).trans ((hb1.block _ (by have := HSZ.out; omega)).trans HQT.out)))) 0
  rw [← hwb] at hk0
  clear hb1 hb2 hsi hbi qi hsb hbb qb hwb
  by_cases hk : kk = 1
  · subst hk
    go_wp2_with fail
    rw [show w2.alloc (.cells #[.int .i64 2, .slice none 0 0] 26) = wb from HWB.out]
    have HSD := Lib.hid (HSB.out.below (Below.refl _ wb).drew)
    have HGD : Hid (wb.grownBy wb.drew (some b)) := Lib.hid (grown_drewB (grownB_refl wb _))
    have hp3 := pickS_litG [⟨#[43]⟩, ⟨#[42]⟩, ⟨#[45]⟩, ⟨#[43]⟩] 4 b wb.drew #[.string ⟨#[43]⟩, .string ⟨#[42]⟩, .string ⟨#[45]⟩, .string ⟨#[43]⟩] rfl (by decide) (by decide) rfl HSD.out.cur
    rw [show wb.drew.heap.size = wb.heap.size from rfl] at hp3
    have hp4 := fun (cs : Array Value) (w' : World) (hcs : cs = #[.string ⟨#[43]⟩, .string ⟨#[42]⟩, .string ⟨#[45]⟩, .string ⟨#[43]⟩]) (hw' : w' = wb.drew.alloc (.cells cs 9)) => by subst hcs; subst hw'; exact hp3
    have HP3 := Lib.hid hp4
    have HGA : Hid (∀ (o : Obj), wb.grownBy (wb.alloc o).drew (some b)) := Lib.hid (fun (o : Obj) => grown_below HGD.out HGD.out.size (al_below wb.drew o))
    clear hp3 hp4
    go_region_held3 (fun w' => w'.cell? ⟨w1.heap.size, 0, none⟩ = some (.int .i64 1) ∧ w'.cell? ⟨w1.heap.size, 1, none⟩ = some (.slice none 0 0))
      (first
        | with_reducible exact (HF.out _ HGD.out).1
        | with_reducible exact (HF.out _ (HGA.out _)).1
        | with_reducible exact (HF.out _ HG4.out).1
        | with_reducible exact (HF.out _ HG5.out).1
        | with_reducible exact (HF.out _ HG6.out).1
        | with_reducible exact (HF.out _ HG7.out).1
        | with_reducible exact (HF.out _ (grown_below HG6.out HG6.out.size (al_below _ _))).1
        | with_reducible exact ⟨keep9 (HF.out _ HG7.out).1.1 (by omega), keep9 (HF.out _ HG7.out).1.2 (by omega)⟩
        | (go_keep; done))
      (first
        | (go_at_call 84; refine (HP3.out _ _ rfl rfl).mono ?_; rintro e w4 ⟨sx, hsx, rfl, hc4, hg4⟩
           have HSX : Hid (sx.size ≤ 1) := Lib.hid (by simp at hsx; rcases hsx with rfl | rfl | rfl | rfl <;> decide)
           have HS4 := Lib.hid (HSD.out.step hc4 hg4)
           have HG4 : Hid (wb.grownBy w4 (some b)) := Lib.hid (grownBy_trans HGD.out hg4)
           clear hsx hc4 hg4)
        | (go_at_call 92; refine (HIH.out C L a c (.mk 1 []) _ n w4 (HH.out.stays (HST.out _ HG4.out)) ⟨_, rfl, .nil _ _⟩ rfl (by show 1 + d ≤ 100; omega) hL hCb HS4.out.cur).mono ?_; rintro e w5 ⟨x1, v1, rfl, hx1, ⟨tp1, tc1, rp1, rc1, p1, c1, rfl, ht1⟩, hc5, hg5⟩
           have HX1 := Lib.hid hx1
           have HT1 := Lib.hid ht1
           have HS5 := Lib.hid (HS4.out.step hc5 hg5)
           have HG5 : Hid (wb.grownBy w5 (some b)) := Lib.hid (grownBy_trans HG4.out hg5)
           have HL5 := Lib.hid hg5.size
           clear hx1 ht1 hc5 hg5)
        | (go_at_call 92; refine (HIH.out C L a c (.mk 1 []) _ n w5 (HH.out.stays (HST.out _ HG5.out)) ⟨_, rfl, .nil _ _⟩ rfl (by show 1 + d ≤ 100; omega) hL hCb HS5.out.cur).mono ?_; rintro e w6 ⟨x2, v2, rfl, hx2, ⟨tp2, tc2, rp2, rc2, p2, c2, rfl, ht2⟩, hc6, hg6⟩
           have HX2 := Lib.hid hx2
           have HT2 := Lib.hid (ht2.mono (C' := fun z => w4.heap.size ≤ z) (fun z hz _ => Nat.le_trans HL5.out hz))
           have HT3 := Lib.hid (HT1.out.stays (grown_stays hg6 (fun z hz => by have hz' : w4.heap.size ≤ z := hz; have := HS4.out.lt; have := HS4.out.lo; omega)))
           have HS6 := Lib.hid (HS5.out.step hc6 hg6)
           have HG6 : Hid (wb.grownBy w6 (some b)) := Lib.hid (grownBy_trans HG5.out hg6)
           have HL6 := Lib.hid hg6.size
           clear hx2 ht2 hc6 hg6)
        | (go_at_call 190
           have hal := al_below w6 (.cells ([Value.int .i64 x1.kind, .string x1.name, .string x1.other, .int .i64 x1.n, .int .i64 x1.ty.kind, .slice tp1 x1.ty.args.length tc1, .int .i64 x1.res.kind, .slice rp1 x1.res.args.length rc1, .slice p1 x1.args.length c1] ++ [Value.int .i64 x2.kind, .string x2.name, .string x2.other, .int .i64 x2.n, .int .i64 x2.ty.kind, .slice tp2 x2.ty.args.length tc2, .int .i64 x2.res.kind, .slice rp2 x2.res.args.length rc2, .slice p2 x2.args.length c2]).toArray 29)
           refine (op_any (C := fun z => w4.heap.size ≤ z) (ts := [x1, x2]) sx (dm_lit (ts := [x1, x2]) (blk_new w6 _) (ms_cons (HT3.out.stays (.of_below hal)) (ms_one (HT2.out.stays (.of_below hal)))) (by have := HL5.out; have := HL6.out; omega) (by simp) (by simp)) (by have := HX1.out; have := HX2.out; simp only [wtS]; omega)).mono ?_
           rintro e w7 ⟨tp, tc, rp, rc, p, cc, xs, rfl, hN, hb7⟩
           have HN := Lib.hid hN
           have HS7 := Lib.hid ((HS6.out.below hal).below hb7)
           have HG7 : Hid (wb.grownBy w7 (some b)) := Lib.hid (grown_below (grown_below HG6.out HG6.out.size hal) (Nat.le_trans HG6.out.size hal.size) hb7)
           have HL7 := Lib.hid hal.size
           obtain ⟨⟨r0, r1, r2, r3, r4, r5, r6, r7, r8⟩, rz⟩ := zero9_facts HS7.out.box
           clear hN hb7 hal))
    go_wp2_with fail
    refine bodyPost_ret (v := tmV (.mk 4 sx ⟨#[]⟩ 0 zTy zTy [x1, x2]) tp tc rp rc p cc) ?_ rfl ?_
    · rw [results_cell1 rfl]
      go_simp
      all_goals (repeat' apply And.intro) <;> rfl
    · refine HS7.out.fin9 ?_ (HN.out.tm.mono (fun z hz _ => ?_))
      · have h1 := HX1.out
        have h2 := HX2.out
        have h3 := HSX.out
        have e1 : (⟨#[]⟩ : ByteArray).size = 0 := rfl
        have e2 : nodesS zTy.args = 0 := rfl
        simp only [Tm.wt, wtS, gB, e1, e2]
        omega
      · have h1 := HS6.out.lt
        have h2 := HL7.out
        have hz' : _ ≤ z := hz
        have h3 := HS6.out.lo
        exact ⟨by omega, by omega⟩
  · go_wp2_with fail
    rw [show w2.alloc (.cells #[.int .i64 2, .slice none 0 0] 26) = wb from HWB.out]
    refine (below_any b 4 wb (by decide) (by decide) HSB.out.cur).mono ?_
    rintro e w3 ⟨x, hx, rfl, hc3, hg3⟩
    have HS3 := Lib.hid (HSB.out.step hc3 hg3)
    have HG3 := Lib.hid hg3
    clear hc3 hg3 hk0 hk
    rcases (show x = 0 ∨ x = 1 ∨ (x ≠ 0 ∧ x ≠ 1) by omega) with rfl | rfl | ⟨hx0, hx1⟩
    · obtain ⟨_, k0, k1⟩ := HF.out _ HG3.out
      go_wp2_with fail
      refine (HIH.out C L a c (.mk 2 []) _ n w3 (HH.out.stays (HST.out _ HG3.out)) ⟨_, rfl, .nil _ _⟩ rfl (by show 1 + d ≤ 100; omega) hL hCb HS3.out.cur).mono ?_
      rintro e w4 ⟨x1, v1, rfl, hx1, ⟨tp1, tc1, rp1, rc1, p1, c1, rfl, ht1⟩, hc4, hg4⟩
      have HX1 := Lib.hid hx1
      have HT1 := Lib.hid ht1
      have HS4 := Lib.hid (HS3.out.step hc4 hg4)
      have HL4 := Lib.hid hg4.size
      clear hx1 ht1 hc4 hg4 k0 k1
      have hal := al_below w4 (.cells [Value.int .i64 x1.kind, .string x1.name, .string x1.other, .int .i64 x1.n, .int .i64 x1.ty.kind, .slice tp1 x1.ty.args.length tc1, .int .i64 x1.res.kind, .slice rp1 x1.res.args.length rc1, .slice p1 x1.args.length c1].toArray 29)
      have HC := Lib.hid (op_any (C := fun z => w3.heap.size ≤ z) (ts := [x1]) ⟨#[33]⟩ (dm_lit (ts := [x1]) (blk_new w4 _) (ms_one (HT1.out.stays (.of_below hal))) (by have := HL4.out; omega) (by simp) (by simp)) (by have := HX1.out; simp only [wtS]; omega))
      have HAL := Lib.hid hal
      clear hal
      go_wp2_with fail
      refine HC.out.mono ?_
      rintro e w7 ⟨tp, tc, rp, rc, p, cc, xs, rfl, hN, hb7⟩
      have HN := Lib.hid hN
      have HS7 := Lib.hid ((HS4.out.below HAL.out).below hb7)
      obtain ⟨⟨r0, r1, r2, r3, r4, r5, r6, r7, r8⟩, rz⟩ := zero9_facts HS7.out.box
      clear hN hb7
      go_wp2_with fail
      refine bodyPost_ret (v := tmV (.mk 4 ⟨#[33]⟩ ⟨#[]⟩ 0 zTy zTy [x1]) tp tc rp rc p cc) ?_ rfl ?_
      · rw [results_cell1 rfl]
        go_simp
        all_goals (repeat' apply And.intro) <;> rfl
      · refine HS7.out.fin9 ?_ (HN.out.tm.mono (fun z hz _ => ?_))
        · have h1 := HX1.out
          have e0 : (⟨#[33]⟩ : ByteArray).size = 1 := rfl
          have e1 : (⟨#[]⟩ : ByteArray).size = 0 := rfl
          have e2 : nodesS zTy.args = 0 := rfl
          simp only [Tm.wt, wtS, gB, e0, e1, e2]
          omega
        · have h1 := HS4.out.lt
          have h2 := HAL.out.size
          have hz' : _ ≤ z := hz
          have h3 := HS4.out.lo
          exact ⟨by omega, by omega⟩
    · go_wp2_with fail
      have HSD := Lib.hid (HS3.out.below (Below.refl _ w3).drew)
      have HGD : Hid (wb.grownBy w3.drew (some b)) := Lib.hid (grown_drewB HG3.out)
      have hp3 := pickS_litG [⟨#[38]⟩, ⟨#[124]⟩] 2 b w3.drew #[.string ⟨#[38]⟩, .string ⟨#[124]⟩] rfl (by decide) (by decide) rfl HSD.out.cur
      rw [show w3.drew.heap.size = w3.heap.size from rfl] at hp3
      have hp4 := fun (cs : Array Value) (w' : World) (hcs : cs = #[.string ⟨#[38]⟩, .string ⟨#[124]⟩]) (hw' : w' = w3.drew.alloc (.cells cs 9)) => by subst hcs; subst hw'; exact hp3
      have HP3 := Lib.hid hp4
      have HGA : Hid (∀ (o : Obj), wb.grownBy (w3.alloc o).drew (some b)) := Lib.hid (fun (o : Obj) => grown_below HGD.out HGD.out.size (al_below w3.drew o))
      clear hp3 hp4
      go_region_held3 (fun w' => w'.cell? ⟨w2.heap.size, 0, none⟩ = some (.int .i64 2) ∧ w'.cell? ⟨w2.heap.size, 1, none⟩ = some (.slice none 0 0))
        (first
          | with_reducible exact (HF.out _ HGD.out).2
          | with_reducible exact (HF.out _ (HGA.out _)).2
          | with_reducible exact (HF.out _ HG4.out).2
          | with_reducible exact (HF.out _ HG5.out).2
          | with_reducible exact (HF.out _ HG6.out).2
          | with_reducible exact (HF.out _ HG7.out).2
          | with_reducible exact (HF.out _ (grown_below HG6.out HG6.out.size (al_below _ _))).2
          | with_reducible exact ⟨keep9 (HF.out _ HG7.out).2.1 (by omega), keep9 (HF.out _ HG7.out).2.2 (by omega)⟩
          | (go_keep; done))
        (first
          | (go_at_call 84; refine (HP3.out _ _ rfl rfl).mono ?_; rintro e w4 ⟨sx, hsx, rfl, hc4, hg4⟩
             have HSX : Hid (sx.size ≤ 1) := Lib.hid (by simp at hsx; rcases hsx with rfl | rfl <;> decide)
             have HS4 := Lib.hid (HSD.out.step hc4 hg4)
             have HG4 : Hid (wb.grownBy w4 (some b)) := Lib.hid (grownBy_trans HGD.out hg4)
             clear hsx hc4 hg4)
          | (go_at_call 92; refine (HIH.out C L a c (.mk 2 []) _ n w4 (HH.out.stays (HST.out _ HG4.out)) ⟨_, rfl, .nil _ _⟩ rfl (by show 1 + d ≤ 100; omega) hL hCb HS4.out.cur).mono ?_; rintro e w5 ⟨x1, v1, rfl, hx1, ⟨tp1, tc1, rp1, rc1, p1, c1, rfl, ht1⟩, hc5, hg5⟩
             have HX1 := Lib.hid hx1
             have HT1 := Lib.hid ht1
             have HS5 := Lib.hid (HS4.out.step hc5 hg5)
             have HG5 : Hid (wb.grownBy w5 (some b)) := Lib.hid (grownBy_trans HG4.out hg5)
             have HL5 := Lib.hid hg5.size
             clear hx1 ht1 hc5 hg5)
          | (go_at_call 92; refine (HIH.out C L a c (.mk 2 []) _ n w5 (HH.out.stays (HST.out _ HG5.out)) ⟨_, rfl, .nil _ _⟩ rfl (by show 1 + d ≤ 100; omega) hL hCb HS5.out.cur).mono ?_; rintro e w6 ⟨x2, v2, rfl, hx2, ⟨tp2, tc2, rp2, rc2, p2, c2, rfl, ht2⟩, hc6, hg6⟩
             have HX2 := Lib.hid hx2
             have HT2 := Lib.hid (ht2.mono (C' := fun z => w4.heap.size ≤ z) (fun z hz _ => Nat.le_trans HL5.out hz))
             have HT3 := Lib.hid (HT1.out.stays (grown_stays hg6 (fun z hz => by have hz' : w4.heap.size ≤ z := hz; have := HS4.out.lt; have := HS4.out.lo; omega)))
             have HS6 := Lib.hid (HS5.out.step hc6 hg6)
             have HG6 : Hid (wb.grownBy w6 (some b)) := Lib.hid (grownBy_trans HG5.out hg6)
             have HL6 := Lib.hid hg6.size
             clear hx2 ht2 hc6 hg6)
          | (go_at_call 190
             have hal := al_below w6 (.cells ([Value.int .i64 x1.kind, .string x1.name, .string x1.other, .int .i64 x1.n, .int .i64 x1.ty.kind, .slice tp1 x1.ty.args.length tc1, .int .i64 x1.res.kind, .slice rp1 x1.res.args.length rc1, .slice p1 x1.args.length c1] ++ [Value.int .i64 x2.kind, .string x2.name, .string x2.other, .int .i64 x2.n, .int .i64 x2.ty.kind, .slice tp2 x2.ty.args.length tc2, .int .i64 x2.res.kind, .slice rp2 x2.res.args.length rc2, .slice p2 x2.args.length c2]).toArray 29)
             refine (op_any (C := fun z => w4.heap.size ≤ z) (ts := [x1, x2]) sx (dm_lit (ts := [x1, x2]) (blk_new w6 _) (ms_cons (HT3.out.stays (.of_below hal)) (ms_one (HT2.out.stays (.of_below hal)))) (by have := HL5.out; have := HL6.out; omega) (by simp) (by simp)) (by have := HX1.out; have := HX2.out; simp only [wtS]; omega)).mono ?_
             rintro e w7 ⟨tp, tc, rp, rc, p, cc, xs, rfl, hN, hb7⟩
             have HN := Lib.hid hN
             have HS7 := Lib.hid ((HS6.out.below hal).below hb7)
             have HG7 : Hid (wb.grownBy w7 (some b)) := Lib.hid (grown_below (grown_below HG6.out HG6.out.size hal) (Nat.le_trans HG6.out.size hal.size) hb7)
             have HL7 := Lib.hid hal.size
             obtain ⟨⟨r0, r1, r2, r3, r4, r5, r6, r7, r8⟩, rz⟩ := zero9_facts HS7.out.box
             clear hN hb7 hal))
      go_wp2_with fail
      refine bodyPost_ret (v := tmV (.mk 4 sx ⟨#[]⟩ 0 zTy zTy [x1, x2]) tp tc rp rc p cc) ?_ rfl ?_
      · rw [results_cell1 rfl]
        go_simp
        all_goals (repeat' apply And.intro) <;> rfl
      · refine HS7.out.fin9 ?_ (HN.out.tm.mono (fun z hz _ => ?_))
        · have h1 := HX1.out
          have h2 := HX2.out
          have h3 := HSX.out
          have e1 : (⟨#[]⟩ : ByteArray).size = 0 := rfl
          have e2 : nodesS zTy.args = 0 := rfl
          simp only [Tm.wt, wtS, gB, e1, e2]
          omega
        · have h1 := HS6.out.lt
          have h2 := HL7.out
          have hz' : _ ≤ z := hz
          have h3 := HS6.out.lo
          exact ⟨by omega, by omega⟩
    · go_wp2_with fail
      have HSD := Lib.hid (HS3.out.below (Below.refl _ w3).drew)
      have HGD : Hid (wb.grownBy w3.drew (some b)) := Lib.hid (grown_drewB HG3.out)
      have hp3 := pickS_litG [⟨#[61]⟩, ⟨#[60]⟩] 2 b w3.drew #[.string ⟨#[61]⟩, .string ⟨#[60]⟩] rfl (by decide) (by decide) rfl HSD.out.cur
      rw [show w3.drew.heap.size = w3.heap.size from rfl] at hp3
      have hp4 := fun (cs : Array Value) (w' : World) (hcs : cs = #[.string ⟨#[61]⟩, .string ⟨#[60]⟩]) (hw' : w' = w3.drew.alloc (.cells cs 9)) => by subst hcs; subst hw'; exact hp3
      have HP3 := Lib.hid hp4
      have HGA : Hid (∀ (o : Obj), wb.grownBy (w3.alloc o).drew (some b)) := Lib.hid (fun (o : Obj) => grown_below HGD.out HGD.out.size (al_below w3.drew o))
      clear hp3 hp4
      go_region_held3 (fun w' => w'.cell? ⟨w1.heap.size, 0, none⟩ = some (.int .i64 1) ∧ w'.cell? ⟨w1.heap.size, 1, none⟩ = some (.slice none 0 0))
        (first
          | with_reducible exact (HF.out _ HGD.out).1
          | with_reducible exact (HF.out _ (HGA.out _)).1
          | with_reducible exact (HF.out _ HG4.out).1
          | with_reducible exact (HF.out _ HG5.out).1
          | with_reducible exact (HF.out _ HG6.out).1
          | with_reducible exact (HF.out _ HG7.out).1
          | with_reducible exact (HF.out _ (grown_below HG6.out HG6.out.size (al_below _ _))).1
          | with_reducible exact ⟨keep9 (HF.out _ HG7.out).1.1 (by omega), keep9 (HF.out _ HG7.out).1.2 (by omega)⟩
          | (go_keep; done))
        (first
          | (go_at_call 84; refine (HP3.out _ _ rfl rfl).mono ?_; rintro e w4 ⟨sx, hsx, rfl, hc4, hg4⟩
             have HSX : Hid (sx.size ≤ 1) := Lib.hid (by simp at hsx; rcases hsx with rfl | rfl <;> decide)
             have HS4 := Lib.hid (HSD.out.step hc4 hg4)
             have HG4 : Hid (wb.grownBy w4 (some b)) := Lib.hid (grownBy_trans HGD.out hg4)
             clear hsx hc4 hg4)
          | (go_at_call 92; refine (HIH.out C L a c (.mk 1 []) _ n w4 (HH.out.stays (HST.out _ HG4.out)) ⟨_, rfl, .nil _ _⟩ rfl (by show 1 + d ≤ 100; omega) hL hCb HS4.out.cur).mono ?_; rintro e w5 ⟨x1, v1, rfl, hx1, ⟨tp1, tc1, rp1, rc1, p1, c1, rfl, ht1⟩, hc5, hg5⟩
             have HX1 := Lib.hid hx1
             have HT1 := Lib.hid ht1
             have HS5 := Lib.hid (HS4.out.step hc5 hg5)
             have HG5 : Hid (wb.grownBy w5 (some b)) := Lib.hid (grownBy_trans HG4.out hg5)
             have HL5 := Lib.hid hg5.size
             clear hx1 ht1 hc5 hg5)
          | (go_at_call 92; refine (HIH.out C L a c (.mk 1 []) _ n w5 (HH.out.stays (HST.out _ HG5.out)) ⟨_, rfl, .nil _ _⟩ rfl (by show 1 + d ≤ 100; omega) hL hCb HS5.out.cur).mono ?_; rintro e w6 ⟨x2, v2, rfl, hx2, ⟨tp2, tc2, rp2, rc2, p2, c2, rfl, ht2⟩, hc6, hg6⟩
             have HX2 := Lib.hid hx2
             have HT2 := Lib.hid (ht2.mono (C' := fun z => w4.heap.size ≤ z) (fun z hz _ => Nat.le_trans HL5.out hz))
             have HT3 := Lib.hid (HT1.out.stays (grown_stays hg6 (fun z hz => by have hz' : w4.heap.size ≤ z := hz; have := HS4.out.lt; have := HS4.out.lo; omega)))
             have HS6 := Lib.hid (HS5.out.step hc6 hg6)
             have HG6 : Hid (wb.grownBy w6 (some b)) := Lib.hid (grownBy_trans HG5.out hg6)
             have HL6 := Lib.hid hg6.size
             clear hx2 ht2 hc6 hg6)
          | (go_at_call 190
             have hal := al_below w6 (.cells ([Value.int .i64 x1.kind, .string x1.name, .string x1.other, .int .i64 x1.n, .int .i64 x1.ty.kind, .slice tp1 x1.ty.args.length tc1, .int .i64 x1.res.kind, .slice rp1 x1.res.args.length rc1, .slice p1 x1.args.length c1] ++ [Value.int .i64 x2.kind, .string x2.name, .string x2.other, .int .i64 x2.n, .int .i64 x2.ty.kind, .slice tp2 x2.ty.args.length tc2, .int .i64 x2.res.kind, .slice rp2 x2.res.args.length rc2, .slice p2 x2.args.length c2]).toArray 29)
             refine (op_any (C := fun z => w4.heap.size ≤ z) (ts := [x1, x2]) sx (dm_lit (ts := [x1, x2]) (blk_new w6 _) (ms_cons (HT3.out.stays (.of_below hal)) (ms_one (HT2.out.stays (.of_below hal)))) (by have := HL5.out; have := HL6.out; omega) (by simp) (by simp)) (by have := HX1.out; have := HX2.out; simp only [wtS]; omega)).mono ?_
             rintro e w7 ⟨tp, tc, rp, rc, p, cc, xs, rfl, hN, hb7⟩
             have HN := Lib.hid hN
             have HS7 := Lib.hid ((HS6.out.below hal).below hb7)
             have HG7 : Hid (wb.grownBy w7 (some b)) := Lib.hid (grown_below (grown_below HG6.out HG6.out.size hal) (Nat.le_trans HG6.out.size hal.size) hb7)
             have HL7 := Lib.hid hal.size
             obtain ⟨⟨r0, r1, r2, r3, r4, r5, r6, r7, r8⟩, rz⟩ := zero9_facts HS7.out.box
             clear hN hb7 hal))
      go_wp2_with fail
      refine bodyPost_ret (v := tmV (.mk 4 sx ⟨#[]⟩ 0 zTy zTy [x1, x2]) tp tc rp rc p cc) ?_ rfl ?_
      · rw [results_cell1 rfl]
        go_simp
        all_goals (repeat' apply And.intro) <;> rfl
      · refine HS7.out.fin9 ?_ (HN.out.tm.mono (fun z hz _ => ?_))
        · have h1 := HX1.out
          have h2 := HX2.out
          have h3 := HSX.out
          have e1 : (⟨#[]⟩ : ByteArray).size = 0 := rfl
          have e2 : nodesS zTy.args = 0 := rfl
          simp only [Tm.wt, wtS, gB, e1, e2]
          omega
        · have h1 := HS6.out.lt
          have h2 := HL7.out
          have hz' : _ ≤ z := hz
          have h3 := HS6.out.lo
          exact ⟨by omega, by omega⟩
end Go.Proofs.YtfeijijeohfpgaaGreatDoor
