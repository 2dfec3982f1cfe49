/-
  Several texts of the proof in one (each says below what it holds): EqTreeM.
-/
import Derived.Test.YtjobmgbchpoheaaGreatDoorPB34
import Derived.Test.YtjobmgbchpoheaaGreatDoorPB4
import Derived.Test.YtjobmgbchpoheaaGreatDoorPB17
import Derived.RegionTactic
import Derived.ChangeAlike
namespace Go.Proofs.YtjobmgbchpoheaaGreatDoor
open Go Go.RowKit Go.Shelf
abbrev PairsM := List (List Tm × Value × List Tm × Value)
def pcellsM (st : PairsM) : List Value := st.flatMap fun e => [e.2.1, e.2.2.2]
theorem pcellsM_length (st : PairsM) : (pcellsM st).length = st.length * 2 := by
  induction st with
  | nil => rfl
  | cons e st ih => simp only [pcellsM, List.flatMap_cons, List.length_append, List.length_cons, List.length_nil] at *; omega
theorem pcellsM_snoc (st : PairsM) (e : List Tm × Value × List Tm × Value) : pcellsM (st ++ [e]) = pcellsM st ++ [e.2.1, e.2.2.2] := by simp [pcellsM]
theorem pcellsM_take (st : PairsM) (e : List Tm × Value × List Tm × Value) : (pcellsM (st ++ [e])).take (st.length * 2) = pcellsM st := by
  rw [pcellsM_snoc, ← pcellsM_length, List.take_left]
theorem pcellsM_last (st : PairsM) (e : List Tm × Value × List Tm × Value) : (pcellsM (st ++ [e]))[st.length * 2]? = some e.2.1 ∧ (pcellsM (st ++ [e]))[st.length * 2 + 1]? = some e.2.2.2 := by
  have h := pcellsM_length st
  rw [pcellsM_snoc]
  refine ⟨?_, ?_⟩ <;> (rw [List.getElem?_append_right (by omega), h]; simp)
theorem pcellsM_set (st : PairsM) (e : List Tm × Value × List Tm × Value) (xs ys : List Tm) (u v : Value) : ((pcellsM (st ++ [e])).set (st.length * 2) u).set (st.length * 2 + 1) v = pcellsM (st ++ [(xs, u, ys, v)]) := by
  have h := pcellsM_length st
  rw [pcellsM_snoc, pcellsM_snoc, List.set_append, if_neg (by omega), List.set_append, if_neg (by omega), h]
  simp
def ploadM (st : PairsM) : Nat := (st.map fun e => nodesM e.1).sum
theorem ploadM_snoc (st : PairsM) (e : List Tm × Value × List Tm × Value) : ploadM (st ++ [e]) = ploadM st + nodesM e.1 := by simp [ploadM]
theorem infoPrM : (Tryz.prog.info? 96).map (fun i => (i.zero, i.size, i.bytes)) = some (some (.agg #[.slice none 0 0, .slice none 0 0]), 2, 48) := by kernel_rfl
theorem oneM {W : World} {C : Nat → Prop} {t : Tm} {tp : Option Addr} {tc : Nat} {rp : Option Addr} {rc : Nat} {p : Option Addr} {c : Nat} {r : Nat} (h : TM' W C t tp tc rp rc p c) (hr : W.heap[r]? = some (.cells (tmC t tp tc rp rc p c) 29 (0, 0))) (hC : C r) : LM W C [t] (.slice (some ⟨r, 0, none⟩) 1 1) := by
  have hlt := (Array.getElem?_eq_some_iff.1 hr).1
  have hms := TM'.ms h
  have hf : flatTm [t] = t.ds := by simp [flatTm]
  show DM _ _ (.rows _ 9 1 (flatTm [t])) _
  rw [hf]
  have hcell : ∀ i d, t.ds[i]? = some d → W.cell? ⟨r, 0 + i, none⟩ = some ((tmC t tp tc rp rc p c).toList[i]?.getD .nilIface) := fun i d hd => by
    have hi := (List.getElem?_eq_some_iff.1 hd).1
    rw [t.ds_len] at hi
    rw [Nat.zero_add, cell_of_blk hr i]
    rw [← Array.getElem?_toList, List.getElem?_eq_getElem (by simpa using hi)]
    rfl
  exact DM.rows (fun i => (tmC t tp tc rp rc p c).toList[i]?.getD .nilIface) (by omega) (by omega) (by omega) (by rw [t.ds_len]) hC hlt hcell
    (fun i d hd => hms.2 i d _ hd (by
      have hi := (List.getElem?_eq_some_iff.1 hd).1
      rw [t.ds_len] at hi
      rw [List.getElem?_eq_getElem (by simpa using hi)]
      rfl))
theorem openM {W wr : World} {C : Nat → Prop} {x : Tm} {l : List Tm} {v : Value} (hT : LM W C (x :: l) v) (h : Stays C W wr) :
    ∃ (b o c : Nat) (tp' : Option Addr) (tc' : Nat) (rp' : Option Addr) (rc' : Nat) (p' : Option Addr) (c' : Nat), v = .slice (some ⟨b, o, none⟩) (l.length + 1) c ∧ l.length + 1 ≤ c ∧ c ≤ 9223372036854775807 ∧ C b ∧ b < wr.heap.size ∧
      At9 wr b o x tp' tc' rp' rc' p' c' ∧ TM' W C x tp' tc' rp' rc' p' c' ∧ ∀ q, (l ≠ [] → q = some ⟨b, o + 9, none⟩) → LM W C l (.slice q l.length (c - 1)) := by
  obtain ⟨q0, d0, hv0⟩ := hT.form
  have hT0 := hT
  rw [hv0] at hT0
  obtain ⟨b', o', tp', tc', rp', rc', p', c', hq, hC', hb', h9, hx⟩ := tm_part hT0 0 (by simp)
  cases hT with
  | @rows _ _ _ b o c _ V h1 hc hm hl hC hb hv hr =>
    simp only [Value.slice.injEq] at hv0
    obtain ⟨e1, _, _⟩ := hv0
    have e2 := e1.trans hq
    simp only [Option.some.injEq, Addr.mk.injEq] at e2
    obtain ⟨rfl, rfl, _⟩ := e2
    have h9' := h9 wr h
    rw [Nat.zero_mul, Nat.add_zero] at h9'
    refine ⟨b, o, c, tp', tc', rp', rc', p', c', rfl, hc, hm, hC, Nat.lt_of_lt_of_le hb h.1, h9', hx, fun q hq => ?_⟩
    have hf : flatTm (x :: l) = x.ds ++ flatTm l := rfl
    have hsh : ∀ i, (flatTm (x :: l))[i + 9]? = (flatTm l)[i]? := fun i => by
      rw [hf, List.getElem?_append_right (by rw [x.ds_len]; omega), x.ds_len, Nat.add_sub_cancel]
    by_cases hl' : l = []
    · subst hl'; exact .nil _ _ _ _
    · rw [hq hl']
      have hl1 : 1 ≤ l.length := by cases l with | nil => exact absurd rfl hl' | cons => simp
      simp only [List.length_cons] at hc
      refine .rows (fun i => V (i + 9)) hl1 (by omega) (by omega) (flatTm_len l) hC hb (fun i d hi => ?_) (fun i d hi => hr (i + 9) d (by rw [hsh]; exact hi))
      have := hv (i + 9) d (by rw [hsh]; exact hi)
      rw [show o + (i + 9) = o + 9 + i by omega] at this; exact this
theorem tailM_q {W : World} {C : Nat → Prop} {l : List Tm} {b o c : Nat} (hlc : l.length + 1 ≤ c) (h : ∀ q, (l ≠ [] → q = some ⟨b, o + 9, none⟩) → LM W C l (.slice q l.length (c - 1))) :
    ∃ q, (if c = 1 then some (⟨b, o, none⟩ : Addr) else some ⟨b, o + 9, none⟩) = q ∧ LM W C l (.slice q l.length (c - 1)) :=
  ⟨_, rfl, h _ (fun hne => by
    have h1 : 1 ≤ l.length := by cases l with | nil => exact absurd rfl hne | cons => simp
    rw [if_neg (by omega)])⟩

theorem keepUM {W w1 : World} {p : Addr} {v : Value} (hb1 : Below W.heap.size W w1) (h : W.cell? p = some v) : w1.cell? p = some v := (hb1.cell (World.block_lt_of_cell? W _ h)).trans h
theorem keepSM {W w1 : World} {p0 p1 p2 p3 p4 p5 p6 p7 p8 p9 p10 p11 p12 p13 p14 p15 p16 p17 : Addr} {v0 v1 v2 v3 v4 v5 v6 v7 v8 v9 v10 v11 v12 v13 v14 v15 v16 v17 : Value} (hb1 : Below W.heap.size W w1) (h : W.cell? p0 = some v0 ∧ W.cell? p1 = some v1 ∧ W.cell? p2 = some v2 ∧ W.cell? p3 = some v3 ∧ W.cell? p4 = some v4 ∧ W.cell? p5 = some v5 ∧ W.cell? p6 = some v6 ∧ W.cell? p7 = some v7 ∧ W.cell? p8 = some v8 ∧ W.cell? p9 = some v9 ∧ W.cell? p10 = some v10 ∧ W.cell? p11 = some v11 ∧ W.cell? p12 = some v12 ∧ W.cell? p13 = some v13 ∧ W.cell? p14 = some v14 ∧ W.cell? p15 = some v15 ∧ W.cell? p16 = some v16 ∧ W.cell? p17 = some v17) : w1.cell? p0 = some v0 ∧ w1.cell? p1 = some v1 ∧ w1.cell? p2 = some v2 ∧ w1.cell? p3 = some v3 ∧ w1.cell? p4 = some v4 ∧ w1.cell? p5 = some v5 ∧ w1.cell? p6 = some v6 ∧ w1.cell? p7 = some v7 ∧ w1.cell? p8 = some v8 ∧ w1.cell? p9 = some v9 ∧ w1.cell? p10 = some v10 ∧ w1.cell? p11 = some v11 ∧ w1.cell? p12 = some v12 ∧ w1.cell? p13 = some v13 ∧ w1.cell? p14 = some v14 ∧ w1.cell? p15 = some v15 ∧ w1.cell? p16 = some v16 ∧ w1.cell? p17 = some v17 := by
  obtain ⟨h0, h1, h2, h3, h4, h5, h6, h7, h8, h9, h10, h11, h12, h13, h14, h15, h16, h17⟩ := h
  exact ⟨keepUM hb1 h0, keepUM hb1 h1, keepUM hb1 h2, keepUM hb1 h3, keepUM hb1 h4, keepUM hb1 h5, keepUM hb1 h6, keepUM hb1 h7, keepUM hb1 h8, keepUM hb1 h9, keepUM hb1 h10, keepUM hb1 h11, keepUM hb1 h12, keepUM hb1 h13, keepUM hb1 h14, keepUM hb1 h15, keepUM hb1 h16, keepUM hb1 h17⟩
theorem keepAM {w0 w' : World} {base : Nat} {e : TypeId} {size n m c g cap g0 : Nat} {xs cs : List Value} {b1 b3 o0 o1 o2 o3 o4 o5 o6 o7 o8 o9 o10 o11 o12 o13 o14 o15 o16 o17 : Nat} {v0 v1 v2 v3 v4 v5 v6 v7 v8 v9 v10 v11 v12 v13 v14 v15 v16 v17 : Value} (hA : Appd w0 w' base e size (.slice (some ⟨g0, 0, none⟩) m c) n xs cs g cap) (h1 : b1 ≠ g0) (h3 : b3 ≠ g0) (h : w0.cell? ⟨b1, o0, none⟩ = some v0 ∧ w0.cell? ⟨b1, o1, none⟩ = some v1 ∧ w0.cell? ⟨b1, o2, none⟩ = some v2 ∧ w0.cell? ⟨b1, o3, none⟩ = some v3 ∧ w0.cell? ⟨b1, o4, none⟩ = some v4 ∧ w0.cell? ⟨b1, o5, none⟩ = some v5 ∧ w0.cell? ⟨b1, o6, none⟩ = some v6 ∧ w0.cell? ⟨b1, o7, none⟩ = some v7 ∧ w0.cell? ⟨b1, o8, none⟩ = some v8 ∧ w0.cell? ⟨b3, o9, none⟩ = some v9 ∧ w0.cell? ⟨b3, o10, none⟩ = some v10 ∧ w0.cell? ⟨b3, o11, none⟩ = some v11 ∧ w0.cell? ⟨b3, o12, none⟩ = some v12 ∧ w0.cell? ⟨b3, o13, none⟩ = some v13 ∧ w0.cell? ⟨b3, o14, none⟩ = some v14 ∧ w0.cell? ⟨b3, o15, none⟩ = some v15 ∧ w0.cell? ⟨b3, o16, none⟩ = some v16 ∧ w0.cell? ⟨b3, o17, none⟩ = some v17) : w'.cell? ⟨b1, o0, none⟩ = some v0 ∧ w'.cell? ⟨b1, o1, none⟩ = some v1 ∧ w'.cell? ⟨b1, o2, none⟩ = some v2 ∧ w'.cell? ⟨b1, o3, none⟩ = some v3 ∧ w'.cell? ⟨b1, o4, none⟩ = some v4 ∧ w'.cell? ⟨b1, o5, none⟩ = some v5 ∧ w'.cell? ⟨b1, o6, none⟩ = some v6 ∧ w'.cell? ⟨b1, o7, none⟩ = some v7 ∧ w'.cell? ⟨b1, o8, none⟩ = some v8 ∧ w'.cell? ⟨b3, o9, none⟩ = some v9 ∧ w'.cell? ⟨b3, o10, none⟩ = some v10 ∧ w'.cell? ⟨b3, o11, none⟩ = some v11 ∧ w'.cell? ⟨b3, o12, none⟩ = some v12 ∧ w'.cell? ⟨b3, o13, none⟩ = some v13 ∧ w'.cell? ⟨b3, o14, none⟩ = some v14 ∧ w'.cell? ⟨b3, o15, none⟩ = some v15 ∧ w'.cell? ⟨b3, o16, none⟩ = some v16 ∧ w'.cell? ⟨b3, o17, none⟩ = some v17 := by
  obtain ⟨q0, q1, q2, q3, q4, q5, q6, q7, q8, q9, q10, q11, q12, q13, q14, q15, q16, q17⟩ := h
  have k1 : (Value.slice (some ⟨g0, 0, none⟩) m c).ownBlock ≠ some b1 := by simp [Value.ownBlock]; omega
  have k3 : (Value.slice (some ⟨g0, 0, none⟩) m c).ownBlock ≠ some b3 := by simp [Value.ownBlock]; omega
  exact ⟨keepApp hA q0 k1, keepApp hA q1 k1, keepApp hA q2 k1, keepApp hA q3 k1, keepApp hA q4 k1, keepApp hA q5 k1, keepApp hA q6 k1, keepApp hA q7 k1, keepApp hA q8 k1, keepApp hA q9 k3, keepApp hA q10 k3, keepApp hA q11 k3, keepApp hA q12 k3, keepApp hA q13 k3, keepApp hA q14 k3, keepApp hA q15 k3, keepApp hA q16 k3, keepApp hA q17 k3⟩

structure CmpM (Q : Tm → Prop) (w wr : World) (st : PairsM) (g cap : Nat) : Prop where
  own : wr.ownsRow w.heap.size 96 2 (.slice (some ⟨g, 0, none⟩) st.length cap) st.length (pcellsM st)
  ts : ∀ e ∈ st, LM w (· < w.heap.size) e.1 e.2.1 ∧ LM w (· < w.heap.size) e.2.2.1 e.2.2.2
  below : Below w.heap.size w wr
  q : ∀ e ∈ st, ∀ y ∈ e.1, Q y

set_option maxRecDepth 100000 in
set_option maxHeartbeats 4000000 in
theorem eqTreesM_any {C : Nat → Prop} {t u : Tm} {v1 v2 : Value} {w : World} (h1 : NM w C t v1) (h2 : NM w C u v2) (hn : t.nodes ≤ 2097153) (eqn : Tm → Tm → Prop) (Q : Tm → Prop) (hQ : ∀ x, Q x → ∀ y ∈ x.args, Q y) (hQt : Q t) (hext : ∀ x y, x = y ↔ eqn x y ∧ x.args = y.args)
    (hp : ∀ (x y : Tm) (v1 v2 : Value) (W : World) (C : Nat → Prop), Q x → NM W C x v1 → NM W C y v2 → Calls Tryz.prog 31 #[v1, v2] W (BoolRet (fun b => b = true ↔ eqn x y) W)) :
    Calls Tryz.prog 29 #[v1, v2, .func (.func 30) #[] #[], .func (.func 31) #[] #[]] w (BoolRet (fun b => b = true ↔ t = u) w) := by
  obtain ⟨i0, hi, hz0, hz1, hz2⟩ := info_parts infoPrM
  obtain ⟨tp1, tc1, rp1, rc1, p1, c1, rfl, hT1⟩ := h1
  obtain ⟨tp2, tc2, rp2, rc2, p2, c2, rfl, hT2⟩ := h2
  have HP := Lib.hid hp
  have HE := Lib.hid hext
  have HQ := Lib.hid hQ
  have HQT := Lib.hid hQt
  clear hp hext hQ hQt
  go_enter Tryz.func29, Tryz.ntmps29
  go_wp2_with fail
  obtain ⟨W0, hW0, hs0, hb0, _, _, r1, r2⟩ := box_new4 w (tmC t tp1 tc1 rp1 rc1 p1 c1) (tmC u tp2 tc2 rp2 rc2 p2 c2) (tmC t tp1 tc1 rp1 rc1 p1 c1) (tmC u tp2 tc2 rp2 rc2 p2 c2) 29 29 29 29
  rw [hW0]
  have HL1 := Lib.hid (oneM (C := (· < W0.heap.size)) ((hT1.stays (.of_below hb0)).mono (fun _ _ hl => hl)) r1 (by omega))
  have HL2 := Lib.hid (oneM (C := (· < W0.heap.size)) ((hT2.stays (.of_below hb0)).mono (fun _ _ hl => hl)) r2 (by omega))
  have HB0 := Lib.hid hb0
  have HS0 := Lib.hid hs0
  have hnt := hn
  rw [show w.heap.size + 1 + 1 + 1 + 1 = W0.heap.size by omega]
  clear hT1 hT2 r1 r2 hb0 hW0 hs0
  go_loopg [9] (2 * t.nodes + 1) (fun gk v wr => ∃ (st : PairsM) (g cap : Nat), v = .slice (some ⟨g, 0, none⟩) st.length cap ∧ gk = 2 * ploadM st + st.length ∧ st.length + ploadM st ≤ t.nodes + 1 ∧ ((∀ e ∈ st, e.1 = e.2.2.1) ↔ t = u) ∧ CmpM Q W0 wr st g cap)
  case atStart =>
    refine ⟨[([t], .slice (some ⟨w.heap.size + 1 + 1, 0, none⟩) 1 1, [u], .slice (some ⟨w.heap.size + 1 + 1 + 1, 0, none⟩) 1 1)], W0.heap.size, 1, rfl, by simp [ploadM, nodesM], by simp [ploadM, nodesM]; omega, by simp, ?_, ?_, ?_, ?_⟩
    · exact World.ownsRow_lit (base := W0.heap.size) (e := 96) (size := 2) W0 #[.slice (some ⟨w.heap.size + 1 + 1, 0, none⟩) 1 1, .slice (some ⟨w.heap.size + 1 + 1 + 1, 0, none⟩) 1 1] 1 (Nat.le_refl _) (by unfold maxLen; omega) rfl
    · intro e he
      simp only [List.mem_singleton] at he
      subst he
      exact ⟨HL1.out, HL2.out⟩
    · exact (Below.refl _ W0).alloc (Nat.le_refl _) _
    · intro e he y hy
      simp only [List.mem_singleton] at he
      subst he
      simp only [List.mem_singleton] at hy
      subst hy
      exact HQT.out
  case round =>
    obtain ⟨st, g, cap, rfl, rfl, hle, hiff, hM⟩ := hrel
    rename World => wo
    rcases snoc_cases st with rfl | ⟨st0, ⟨xs, s1, ys, s2⟩, rfl⟩
    · have HI := Lib.hid hiff
      have HB := Lib.hid (HB0.out.trans (hM.below.mono HB0.out.size))
      clear hM hiff hle
      go_wp2_with fail
      go_ret
      exact ⟨true, by have := HI.out; simpa using this, rfl, HB.out⟩
    · obtain ⟨hTx, hTy⟩ := hM.ts (xs, s1, ys, s2) (by simp)
      simp only at hTx hTy
      obtain ⟨p1, c1, rfl⟩ := hTx.form
      obtain ⟨p3, c3, rfl⟩ := hTy.form
      have hlen : (st0 ++ [((xs, Value.slice p1 xs.length c1, ys, Value.slice p3 ys.length c3) : List Tm × Value × List Tm × Value)]).length = st0.length + 1 := by simp
      have hown := hM.own
      rw [hlen] at hown
      rw [hlen]
      obtain ⟨hcap1, hcap2, hg1, hg2⟩ := row_cap hown
      have k0 := (hown.cellAt (st0.length * 2) (by omega)).trans (pcellsM_last st0 _).1
      have k1 := (hown.cellAt (st0.length * 2 + 1) (by omega)).trans (pcellsM_last st0 _).2
      have kz := fun j => hown.frozenAt j
      simp only at k0 k1
      unfold maxLen at hcap2
      have hcnt : st0.length ≤ 2097153 := by
        rw [hlen] at hle
        omega
      have HM := Lib.hid hM
      have HI := Lib.hid hiff
      have HOWN := Lib.hid hown
      have HLE := Lib.hid hle
      have hlx := hTx.len
      have hly := hTy.len
      have HTX := Lib.hid hTx
      have HTY := Lib.hid hTy
      clear hM hiff hown hle hTx hTy
      have i0' : (0 : Int) ≤ (st0.length : Int) := Int.natCast_nonneg _
      have i1' : (st0.length : Int) < ((st0.length : Int) + 1) := by omega
      go_wp2_with fail
      go_region
      by_cases hl : xs.length = ys.length
      · cases xs with
        | nil =>
          obtain rfl : ys = [] := List.eq_nil_of_length_eq_zero hl.symm
          clear k0 k1 hl
          go_wp2_with fail
          go_roundg (2 * ploadM st0 + st0.length)
          case rel =>
            have h1 := row_take HOWN.out (Nat.le_succ st0.length)
            rw [pcellsM_take] at h1
            refine ⟨st0, g, cap, rfl, rfl, ?_, ?_, ⟨h1.drew, fun e he => HM.out.ts e (List.mem_append_left _ he), HM.out.below.drew, fun e he => HM.out.q e (List.mem_append_left _ he)⟩⟩
            · have := HLE.out
              rw [hlen, ploadM_snoc] at this
              omega
            · rw [← HI.out, List.forall_mem_append, List.forall_mem_singleton]
              simp
          case measure =>
            rw [ploadM_snoc, List.length_append, List.length_singleton]
            simp only [nodesM]
            omega
        | cons x xs =>
          cases ys with
          | nil => simp at hl
          | cons y ys =>
            have hl' : xs.length = ys.length := by simpa using hl
            obtain ⟨b1, o1, d1, tp'1, tc'1, rp'1, rc'1, p'1, c'1, e1, hlc1, h63, hC1, hbw1, hcell1, hnx1, ht1⟩ := openM HTX.out (wr := wo) (.of_below HM.out.below)
            obtain ⟨b3, o3, d3, tp'3, tc'3, rp'3, rc'3, p'3, c'3, e3, hlc3, h633, hC3, hbw3, hcell3, hnx3, ht3⟩ := openM HTY.out (wr := wo) (.of_below HM.out.below)
            simp only [Value.slice.injEq] at e1 e3
            obtain ⟨rfl, _, rfl⟩ := e1
            obtain ⟨rfl, _, rfl⟩ := e3
            obtain ⟨q1, hq1, hT1⟩ := tailM_q hlc1 ht1
            obtain ⟨q3, hq3, hT3⟩ := tailM_q hlc3 ht3
            obtain ⟨f0, f1, f2, f3, f4, f5, f6, f7, f8⟩ := hcell1
            obtain ⟨g0, g1, g2, g3, g4, g5, g6, g7, g8⟩ := hcell3
            have HT1 := Lib.hid hT1
            have HT3 := Lib.hid hT3
            have HNX1 := Lib.hid hnx1
            have HNX3 := Lib.hid hnx3
            have hb1g : b1 ≠ g := by omega
            have hb3g : b3 ≠ g := by omega
            have HHL := Lib.hid hl'
            have hqx : Q x := HM.out.q _ (List.mem_append_right _ (List.mem_singleton_self _)) x (by simp)
            have hqs : ∀ y ∈ xs, Q y := fun y hy => HM.out.q _ (List.mem_append_right _ (List.mem_singleton_self _)) y (by simp [hy])
            have HQX := Lib.hid hqx
            have HQS := Lib.hid hqs
            have HC := Lib.hid (fun (W : World) (hW : Below wo.drew.heap.size wo.drew W) =>
              have hst : Stays (· < W0.heap.size) W0 W := .of_below (HM.out.below.trans (((Below.refl wo.heap.size wo).drew.trans hW).mono HM.out.below.size))
              HP.out x y (tmV x tp'1 tc'1 rp'1 rc'1 p'1 c'1) (tmV y tp'3 tc'3 rp'3 rc'3 p'3 c'3) W (· < W0.heap.size) hqx (ntM_mk (HNX1.out.stays hst)) (ntM_mk (HNX3.out.stays hst)))
            have l0 : (0 : Int) < ((xs.length : Int) + 1) := by omega
            have l1 : (0 : Int) < ((ys.length : Int) + 1) := by omega
            simp only [List.length_cons] at hl
            rw [← hl'] at *
            clear hqx hqs hl hT1 hT3 ht1 ht3 hnx1 hnx3 k0 k1
            go_wp2_with fail
            go_region_held3 (fun w' => w'.cell? ⟨b1, o1, none⟩ = some (.int .i64 x.kind) ∧ w'.cell? ⟨b1, o1 + 1, none⟩ = some (.string x.name) ∧ w'.cell? ⟨b1, o1 + 2, none⟩ = some (.string x.other) ∧ w'.cell? ⟨b1, o1 + 3, none⟩ = some (.int .i64 x.n) ∧ w'.cell? ⟨b1, o1 + 4, none⟩ = some (.int .i64 x.ty.kind) ∧ w'.cell? ⟨b1, o1 + 5, none⟩ = some (.slice tp'1 x.ty.args.length tc'1) ∧ w'.cell? ⟨b1, o1 + 6, none⟩ = some (.int .i64 x.res.kind) ∧ w'.cell? ⟨b1, o1 + 7, none⟩ = some (.slice rp'1 x.res.args.length rc'1) ∧ w'.cell? ⟨b1, o1 + 8, none⟩ = some (.slice p'1 x.args.length c'1) ∧ w'.cell? ⟨b3, o3, none⟩ = some (.int .i64 y.kind) ∧ w'.cell? ⟨b3, o3 + 1, none⟩ = some (.string y.name) ∧ w'.cell? ⟨b3, o3 + 2, none⟩ = some (.string y.other) ∧ w'.cell? ⟨b3, o3 + 3, none⟩ = some (.int .i64 y.n) ∧ w'.cell? ⟨b3, o3 + 4, none⟩ = some (.int .i64 y.ty.kind) ∧ w'.cell? ⟨b3, o3 + 5, none⟩ = some (.slice tp'3 y.ty.args.length tc'3) ∧ w'.cell? ⟨b3, o3 + 6, none⟩ = some (.int .i64 y.res.kind) ∧ w'.cell? ⟨b3, o3 + 7, none⟩ = some (.slice rp'3 y.res.args.length rc'3) ∧ w'.cell? ⟨b3, o3 + 8, none⟩ = some (.slice p'3 y.args.length c'3))
              (first
                | (go_keep; done)
                | exact keepSM hb1 (by assumption)
                | exact ⟨f0, f1, f2, f3, f4, f5, f6, f7, f8, g0, g1, g2, g3, g4, g5, g6, g7, g8⟩
                | fail)
              (first
                | (go_at_call 31; refine (HC.out _ (Below.refl _ _)).mono ?_; rintro e w1 ⟨r, hr, rfl, hb1⟩)
                | (go_at_call 31; refine (HC.out _ (Below.refl _ _).drew).mono ?_; rintro e w1 ⟨r, hr, rfl, hb1⟩))
            have HR := Lib.hid hr
            have hb1' : Below wo.heap.size wo w1 := (Below.refl wo.heap.size wo).drew.drew.trans hb1
            have hb1W : Below W0.heap.size W0 w1 := HM.out.below.trans (hb1'.mono HM.out.below.size)
            have HB1 := Lib.hid hb1'
            have HB1W := Lib.hid hb1W
            clear hr hb1 hb1' hb1W kz
            cases r with
            | false =>
              have HN := Lib.hid (show ¬ t = u from fun e => by
                have h1 := HI.out.2 e _ (List.mem_append_right _ (List.mem_singleton_self _))
                simp only [List.cons.injEq] at h1
                have h2 := HR.out.2 ((HE.out x y).1 h1.1).1
                cases h2)
              go_wp2_with fail
              go_ret
              exact ⟨false, by simpa using HN.out, rfl, HB0.out.trans (HB1W.out.mono HB0.out.size)⟩
            | true =>
              have hbw := HB1.out.block
              have hown1 := row_of_block HOWN.out (hbw g hg2)
              have kz := fun j => hown1.frozenAt j
              obtain ⟨hs1, hgr1⟩ := hown1.stored (st0.length * 2) (.slice q1 xs.length (c1 - 1))
              obtain ⟨hs2, hgr2⟩ := hs1.stored (st0.length * 2 + 1) (.slice q3 xs.length (c3 - 1))
              rw [pcellsM_set st0 _ xs ys] at hs2
              have k0 := hown1.cellAt (st0.length * 2) (by omega)
              have k1 := hown1.cellAt (st0.length * 2 + 1) (by omega)
              rw [(pcellsM_last st0 _).1] at k0
              rw [(pcellsM_last st0 _).2] at k1
              have HS2 := Lib.hid hs2
              have HOWN1 := Lib.hid hown1
              clear hs1 hs2 hgr1 hgr2 hown1 hbw
              go_wp2_with fail
              go_region
              obtain ⟨w2, hw2⟩ : ∃ w2, (w1.setCell ⟨g, st0.length * 2, none⟩ (.slice q1 xs.length (c1 - 1))).setCell ⟨g, st0.length * 2 + 1, none⟩ (.slice q3 xs.length (c3 - 1)) = w2 := ⟨_, rfl⟩
              have hb2 : Below W0.heap.size w1 w2 := by
                rw [← hw2]
                exact ((Below.refl _ w1).setCell (p := ⟨g, st0.length * 2, none⟩) hg1 _).setCell (p := ⟨g, st0.length * 2 + 1, none⟩) hg1 _
              have hoth : ∀ z, z ≠ g → w2.heap[z]? = w1.heap[z]? := fun z hz => by
                rw [← hw2, Below.heap_setCell _ _ _ _ hz, Below.heap_setCell _ _ _ _ hz]
              have hsz2 : w1.heap.size ≤ w2.heap.size := hb2.size
              rw [hw2]
              have hs2 := HS2.out
              rw [hw2] at hs2
              have hb1w : ∀ z, z < wo.heap.size → z ≠ g → w2.heap[z]? = wo.heap[z]? := fun z hz hne => (hoth z hne).trans (HB1.out.block z hz)
              have f0 := (World.cell?_of_block (a := ⟨b1, o1, none⟩) (hb1w b1 hbw1 hb1g)).trans f0
              have f1 := (World.cell?_of_block (a := ⟨b1, o1 + 1, none⟩) (hb1w b1 hbw1 hb1g)).trans f1
              have f2 := (World.cell?_of_block (a := ⟨b1, o1 + 2, none⟩) (hb1w b1 hbw1 hb1g)).trans f2
              have f3 := (World.cell?_of_block (a := ⟨b1, o1 + 3, none⟩) (hb1w b1 hbw1 hb1g)).trans f3
              have f4 := (World.cell?_of_block (a := ⟨b1, o1 + 4, none⟩) (hb1w b1 hbw1 hb1g)).trans f4
              have f5 := (World.cell?_of_block (a := ⟨b1, o1 + 5, none⟩) (hb1w b1 hbw1 hb1g)).trans f5
              have f6 := (World.cell?_of_block (a := ⟨b1, o1 + 6, none⟩) (hb1w b1 hbw1 hb1g)).trans f6
              have f7 := (World.cell?_of_block (a := ⟨b1, o1 + 7, none⟩) (hb1w b1 hbw1 hb1g)).trans f7
              have f8 := (World.cell?_of_block (a := ⟨b1, o1 + 8, none⟩) (hb1w b1 hbw1 hb1g)).trans f8
              have g0 := (World.cell?_of_block (a := ⟨b3, o3, none⟩) (hb1w b3 hbw3 hb3g)).trans g0
              have g1 := (World.cell?_of_block (a := ⟨b3, o3 + 1, none⟩) (hb1w b3 hbw3 hb3g)).trans g1
              have g2 := (World.cell?_of_block (a := ⟨b3, o3 + 2, none⟩) (hb1w b3 hbw3 hb3g)).trans g2
              have g3 := (World.cell?_of_block (a := ⟨b3, o3 + 3, none⟩) (hb1w b3 hbw3 hb3g)).trans g3
              have g4 := (World.cell?_of_block (a := ⟨b3, o3 + 4, none⟩) (hb1w b3 hbw3 hb3g)).trans g4
              have g5 := (World.cell?_of_block (a := ⟨b3, o3 + 5, none⟩) (hb1w b3 hbw3 hb3g)).trans g5
              have g6 := (World.cell?_of_block (a := ⟨b3, o3 + 6, none⟩) (hb1w b3 hbw3 hb3g)).trans g6
              have g7 := (World.cell?_of_block (a := ⟨b3, o3 + 7, none⟩) (hb1w b3 hbw3 hb3g)).trans g7
              have g8 := (World.cell?_of_block (a := ⟨b3, o3 + 8, none⟩) (hb1w b3 hbw3 hb3g)).trans g8
              have HS3 := Lib.hid hs2
              have HB2 := Lib.hid (HB1W.out.trans hb2)
              clear hw2 hb2 hoth HS2 HOWN1 hs2 k0 k1 kz hb1w
              go_wp2_with fail
              have HBJ := Lib.hid (fun (Wa Wb : World) (h3 : Below w2.drew.drew.heap.size w2.drew.drew Wa) (h4 : Below Wa.heap.size Wa Wb) => (((Below.refl w2.heap.size w2).drew.drew.trans h3).trans (h4.mono (by have := h3.size; simp at this; omega)) : Below w2.heap.size w2 Wb))
              have HKA := Lib.hid (fun (Wb w' : World) (gr cr : Nat) (hW : Below w2.heap.size w2 Wb) (hA : Appd Wb w' W0.heap.size 96 2 (.slice (some ⟨g, 0, none⟩) (st0.length + 1) cap) (st0.length + 1) (pcellsM (st0 ++ [(xs, .slice q1 xs.length (c1 - 1), ys, .slice q3 xs.length (c3 - 1))])) [.slice p'1 x.args.length c'1, .slice p'3 y.args.length c'3] gr cr) =>
                (keepAM hA hb1g hb3g (keepSM hW ⟨f0, f1, f2, f3, f4, f5, f6, f7, f8, g0, g1, g2, g3, g4, g5, g6, g7, g8⟩) : w'.cell? ⟨b1, o1, none⟩ = some (.int .i64 x.kind) ∧ w'.cell? ⟨b1, o1 + 1, none⟩ = some (.string x.name) ∧ w'.cell? ⟨b1, o1 + 2, none⟩ = some (.string x.other) ∧ w'.cell? ⟨b1, o1 + 3, none⟩ = some (.int .i64 x.n) ∧ w'.cell? ⟨b1, o1 + 4, none⟩ = some (.int .i64 x.ty.kind) ∧ w'.cell? ⟨b1, o1 + 5, none⟩ = some (.slice tp'1 x.ty.args.length tc'1) ∧ w'.cell? ⟨b1, o1 + 6, none⟩ = some (.int .i64 x.res.kind) ∧ w'.cell? ⟨b1, o1 + 7, none⟩ = some (.slice rp'1 x.res.args.length rc'1) ∧ w'.cell? ⟨b1, o1 + 8, none⟩ = some (.slice p'1 x.args.length c'1) ∧ w'.cell? ⟨b3, o3, none⟩ = some (.int .i64 y.kind) ∧ w'.cell? ⟨b3, o3 + 1, none⟩ = some (.string y.name) ∧ w'.cell? ⟨b3, o3 + 2, none⟩ = some (.string y.other) ∧ w'.cell? ⟨b3, o3 + 3, none⟩ = some (.int .i64 y.n) ∧ w'.cell? ⟨b3, o3 + 4, none⟩ = some (.int .i64 y.ty.kind) ∧ w'.cell? ⟨b3, o3 + 5, none⟩ = some (.slice tp'3 y.ty.args.length tc'3) ∧ w'.cell? ⟨b3, o3 + 6, none⟩ = some (.int .i64 y.res.kind) ∧ w'.cell? ⟨b3, o3 + 7, none⟩ = some (.slice rp'3 y.res.args.length rc'3) ∧ w'.cell? ⟨b3, o3 + 8, none⟩ = some (.slice p'3 y.args.length c'3)))
              have hsz4 : W0.heap.size ≤ w2.heap.size := HB2.out.size
              go_region_held3 (fun w' => w'.cell? ⟨b1, o1, none⟩ = some (.int .i64 x.kind) ∧ w'.cell? ⟨b1, o1 + 1, none⟩ = some (.string x.name) ∧ w'.cell? ⟨b1, o1 + 2, none⟩ = some (.string x.other) ∧ w'.cell? ⟨b1, o1 + 3, none⟩ = some (.int .i64 x.n) ∧ w'.cell? ⟨b1, o1 + 4, none⟩ = some (.int .i64 x.ty.kind) ∧ w'.cell? ⟨b1, o1 + 5, none⟩ = some (.slice tp'1 x.ty.args.length tc'1) ∧ w'.cell? ⟨b1, o1 + 6, none⟩ = some (.int .i64 x.res.kind) ∧ w'.cell? ⟨b1, o1 + 7, none⟩ = some (.slice rp'1 x.res.args.length rc'1) ∧ w'.cell? ⟨b1, o1 + 8, none⟩ = some (.slice p'1 x.args.length c'1) ∧ w'.cell? ⟨b3, o3, none⟩ = some (.int .i64 y.kind) ∧ w'.cell? ⟨b3, o3 + 1, none⟩ = some (.string y.name) ∧ w'.cell? ⟨b3, o3 + 2, none⟩ = some (.string y.other) ∧ w'.cell? ⟨b3, o3 + 3, none⟩ = some (.int .i64 y.n) ∧ w'.cell? ⟨b3, o3 + 4, none⟩ = some (.int .i64 y.ty.kind) ∧ w'.cell? ⟨b3, o3 + 5, none⟩ = some (.slice tp'3 y.ty.args.length tc'3) ∧ w'.cell? ⟨b3, o3 + 6, none⟩ = some (.int .i64 y.res.kind) ∧ w'.cell? ⟨b3, o3 + 7, none⟩ = some (.slice rp'3 y.res.args.length rc'3) ∧ w'.cell? ⟨b3, o3 + 8, none⟩ = some (.slice p'3 y.args.length c'3))
                (first
                  | (go_keep; done)
                  | exact HKA.out _ _ _ _ (HBJ.out _ _ hb3 hb4) hA
                  | exact keepSM hb4 (by assumption)
                  | exact keepSM hb3 (by assumption)
                  | exact ⟨f0, f1, f2, f3, f4, f5, f6, f7, f8, g0, g1, g2, g3, g4, g5, g6, g7, g8⟩
                  | fail)
                (first
                  | (go_at_call_of 30 (Value.agg #[.int .i64 x.kind, .string x.name, .string x.other, .int .i64 x.n, .int .i64 x.ty.kind, .slice tp'1 x.ty.args.length tc'1, .int .i64 x.res.kind, .slice rp'1 x.res.args.length rc'1, .slice p'1 x.args.length c'1]); refine (argsM_any _ _ _ _ _ _ _ _).mono ?_; rintro e w3 ⟨rfl, hb3⟩)
                  | (go_at_call_of 30 (Value.agg #[.int .i64 y.kind, .string y.name, .string y.other, .int .i64 y.n, .int .i64 y.ty.kind, .slice tp'3 y.ty.args.length tc'3, .int .i64 y.res.kind, .slice rp'3 y.res.args.length rc'3, .slice p'3 y.args.length c'3]); refine (argsM_any _ _ _ _ _ _ _ _).mono ?_; rintro e w4 ⟨rfl, hb4⟩)
                  | (refine step_app1 (w0 := w4) (base := W0.heap.size) (v := .slice (some ⟨g, 0, none⟩) (st0.length + 1) cap) (n := st0.length + 1) (xs := pcellsM (st0 ++ [(xs, .slice q1 xs.length (c1 - 1), ys, .slice q3 xs.length (c3 - 1))])) (cs := [.slice p'1 x.args.length c'1, .slice p'3 y.args.length c'3]) rfl (.tmp 63) (.tmp 75) rfl Tryz.underlying97 hi hz0 hz1 hz2 rfl (by decide) rfl (row_below HS3.out (HBJ.out _ _ hb3 hb4)) _ rfl (by simp) rfl (fun u hu => by simp at hu; rcases hu with rfl | rfl <;> rfl) (by unfold maxLen; omega) (by omega) (Nat.le_trans hsz4 (HBJ.out _ _ hb3 hb4).size) ?_; intro w' gr cr hA)
                  | fail)
              have HA := Lib.hid hA
              have HB4 := Lib.hid (HBJ.out _ _ hb3 hb4)
              clear hA hb3 hb4
              go_wp2_with fail
              have hlen3 : (st0 ++ [((xs, Value.slice q1 xs.length (c1 - 1), ys, Value.slice q3 xs.length (c3 - 1)) : List Tm × Value × List Tm × Value)]).length = st0.length + 1 := by simp
              go_roundg (2 * ploadM ((st0 ++ [(xs, Value.slice q1 xs.length (c1 - 1), ys, Value.slice q3 xs.length (c3 - 1))]) ++ [(x.args, .slice p'1 x.args.length c'1, y.args, .slice p'3 y.args.length c'3)]) + (st0.length + 2))
              case rel =>
                refine ⟨(st0 ++ [(xs, .slice q1 xs.length (c1 - 1), ys, .slice q3 xs.length (c3 - 1))]) ++ [(x.args, .slice p'1 x.args.length c'1, y.args, .slice p'3 y.args.length c'3)], gr, cr, by rw [List.length_append, hlen3]; rfl, by rw [List.length_append, hlen3]; rfl, ?_, ?_, ⟨?_, fun e he => ?_, HB2.out.trans ((HB4.out.mono HB2.out.size).trans HA.out.below), fun e he => ?_⟩⟩
                · have h1 := HLE.out
                  rw [hlen, ploadM_snoc] at h1
                  rw [List.length_append, hlen3, ploadM_snoc, ploadM_snoc]
                  have h2 := Tm.nodes_eq x
                  simp only [nodesM, List.length_singleton] at h1 ⊢
                  omega
                · rw [← HI.out]
                  have h3 := (HE.out x y)
                  have h4 : eqn x y := by simpa using HR.out
                  simp only [List.forall_mem_append, List.forall_mem_singleton, List.cons.injEq]
                  constructor
                  · rintro ⟨⟨a1, a2⟩, a3⟩
                    exact ⟨a1, h3.2 ⟨h4, a3⟩, a2⟩
                  · rintro ⟨a1, a2, a3⟩
                    exact ⟨⟨a1, a3⟩, by rw [a2]⟩
                · rw [pcellsM_snoc, List.length_append, hlen3]
                  exact HA.out.own
                · rcases List.mem_append.1 he with he | he
                  · rcases List.mem_append.1 he with he | he
                    · exact HM.out.ts e (List.mem_append_left _ he)
                    · simp only [List.mem_singleton] at he
                      subst he
                      exact ⟨HT1.out, HT3.out⟩
                  · simp only [List.mem_singleton] at he
                    subst he
                    exact ⟨TM'.args HNX1.out, TM'.args HNX3.out⟩
                · rcases List.mem_append.1 he with he | he
                  · rcases List.mem_append.1 he with he | he
                    · exact HM.out.q e (List.mem_append_left _ he)
                    · simp only [List.mem_singleton] at he
                      subst he
                      exact HQS.out
                  · simp only [List.mem_singleton] at he
                    subst he
                    exact HQ.out x HQX.out
              case measure =>
                rw [ploadM_snoc, ploadM_snoc, ploadM_snoc, List.length_append, List.length_singleton]
                have h2 := Tm.nodes_eq x
                simp only [nodesM]
                omega
      · have HN := Lib.hid (fun (e : t = u) => hl (by have := HI.out.2 e (xs, .slice p1 xs.length c1, ys, .slice p3 ys.length c3) (by simp); simp only at this; rw [this]))
        have HB := Lib.hid (HB0.out.trans (HM.out.below.mono HB0.out.size))
        go_wp2_with fail
        go_ret
        exact ⟨false, by simpa using HN.out, rfl, HB.out.drew⟩
end Go.Proofs.YtjobmgbchpoheaaGreatDoor
