/-
  Several texts of the proof in one (each says below what it holds): TmMark TmMark2 TmHeld.
-/
import Derived.Test.YtjobmgbchpoheaaGreatDoorPA4
import Derived.Test.YtjobmgbchpoheaaGreatDoorPA17
import Derived.Test.YtjobmgbchpoheaaGreatDoorPA39
import Derived.Test.YtjobmgbchpoheaaGreatDoorPA38
import Derived.Lib.SmallJoins
namespace Go.Proofs.YtjobmgbchpoheaaGreatDoor
open Go Go.RowKit

mutual
def Tm.cnt : Tm → Nat
  | .mk _ _ _ _ t r ts => 6 + nodesS t.args + nodesS r.args + cntM ts
def cntM : List Tm → Nat
  | [] => 0
  | t :: ts => t.cnt + cntM ts
end
theorem Tm.cnt_eq (t : Tm) : t.cnt = 6 + nodesS t.ty.args + nodesS t.res.args + cntM t.args := by cases t; simp [Tm.cnt, Tm.ty, Tm.res, Tm.args]
theorem cntM_append (a b : List Tm) : cntM (a ++ b) = cntM a + cntM b := by
  induction a with
  | nil => simp [cntM]
  | cons x a ih => simp only [List.cons_append, cntM, ih]; omega
theorem cntM_take (ts : List Tm) (k : Nat) (h : k < ts.length) : cntM (ts.take (k + 1)) = cntM (ts.take k) + ts[k].cnt := by
  rw [tm_take_next h, cntM_append]; simp [cntM]
theorem cntM_take_le (ts : List Tm) (k : Nat) : cntM (ts.take k) ≤ cntM ts := by
  have h := cntM_append (ts.take k) (ts.drop k)
  rw [List.take_append_drop] at h
  omega
theorem cntM_ge (ts : List Tm) : ts.length ≤ cntM ts := by
  induction ts with
  | nil => simp
  | cons a ts ih => simp only [List.length_cons, cntM, Tm.cnt_eq]; omega
mutual
theorem cntM_wt : ∀ ts : List Tm, cntM ts ≤ 6 * wtS ts
  | [] => by simp [cntM]
  | t :: ts => by
    have h1 := Tm.cnt_wt t
    have h2 := cntM_wt ts
    simp only [cntM, wtS]
    omega
theorem Tm.cnt_wt : ∀ t : Tm, t.cnt ≤ 6 + 6 * t.wt
  | .mk k a b n t r ts => by
    have := cntM_wt ts
    simp only [Tm.cnt, Tm.wt]
    omega
end
mutual
def Tm.mark : Nat → Tm → Tm
  | k, .mk _ _ _ _ t r ts => .mk (k : Nat) (Go.Proofs.YtjobmgbchpoheaaGreatDoor.mk (k + 1)) (Go.Proofs.YtjobmgbchpoheaaGreatDoor.mk (k + 2)) ((k + 3 : Nat) : Int) (.mk ((k + 4 : Nat) : Int) (markS (k + 5) t.args)) (.mk ((k + 5 + nodesS t.args : Nat) : Int) (markS (k + 6 + nodesS t.args) r.args)) (markM (k + 6 + nodesS t.args + nodesS r.args) ts)
def markM : Nat → List Tm → List Tm
  | _, [] => []
  | k, t :: ts => t.mark k :: markM (k + t.cnt) ts
end
theorem tm_mark_eq (k : Nat) (t : Tm) : t.mark k = .mk (k : Nat) (mk (k + 1)) (mk (k + 2)) ((k + 3 : Nat) : Int) (.mk ((k + 4 : Nat) : Int) (markS (k + 5) t.ty.args)) (.mk ((k + 5 + nodesS t.ty.args : Nat) : Int) (markS (k + 6 + nodesS t.ty.args) t.res.args)) (markM (k + 6 + nodesS t.ty.args + nodesS t.res.args) t.args) := by cases t; rfl
theorem markM_at (ts : List Tm) : ∀ (k j : Nat), (markM k ts)[j]? = (ts[j]?).map (fun x => x.mark (k + cntM (ts.take j))) := by
  induction ts with
  | nil => intro k j; simp [markM]
  | cons t ts ih =>
    intro k j
    cases j with
    | zero => simp [markM, cntM]
    | succ j => simp only [markM, List.getElem?_cons_succ, ih, List.take_succ_cons, cntM, Nat.add_assoc]
theorem markM_length (ts : List Tm) : ∀ k : Nat, (markM k ts).length = ts.length := by
  induction ts with
  | nil => intro k; rfl
  | cons t ts ih => intro k; simp [markM, ih]
theorem markM_get (ts : List Tm) (k j : Nat) (h : j < ts.length) : (markM k ts)[j]'(by rw [markM_length]; exact h) = ts[j].mark (k + cntM (ts.take j)) := by
  have := markM_at ts k j
  rw [List.getElem?_eq_getElem h, List.getElem?_eq_getElem (by rw [markM_length]; exact h)] at this
  simpa using this
theorem markM_cell (ts : List Tm) (k j i : Nat) (h : j < ts.length) (hi : i < 9) : (flatTm (markM k ts))[j * 9 + i]? = ((ts[j].mark (k + cntM (ts.take j))).ds)[i]? := by
  rw [flatTm_at _ j i (by rw [markM_length]; exact h) hi, markM_get ts k j h]
def cellD (V : Nat → Value) (es : List D) (i : Nat) : Value := match es[i]? with
  | some (.cell u) => u
  | _ => V i
structure MInvD (w0 w wr : World) (T : TypeId) (N b L : Nat) (V : Nat → Value) (G : Nat → Nat → Prop) (F : Nat → Prop) (es : List D) (m : Nat) : Prop where
  blk : ∃ cur : Array Value, wr.heap[b]? = some (.cells cur T (0, 0)) ∧ cur.size = L ∧ ∀ i, i < N → cur[i]? = some (if i < m then cellD V es i else V i)
  done : ∀ i d, i < m → es[i]? = some d → DO wr d (cellD V es i) (G i)
  rest : ∀ i, m ≤ i → i < N → Stays (G i) w0 wr
  but : But F w wr
section
variable {w0 w wr w2 : World} {T : TypeId} {N b L : Nat} {V : Nat → Value} {G : Nat → Nat → Prop} {F : Nat → Prop} {es : List D} {m : Nat}
theorem MInvD.cell (h : MInvD w0 w wr T N b L V G F es m) {i : Nat} (hi : i < N) : wr.cell? ⟨b, i, none⟩ = some (if i < m then cellD V es i else V i) := by
  obtain ⟨cur, hb, _, hc⟩ := h.blk
  rw [cell_of_blk hb]
  exact hc i hi
theorem MInvD.frozen (h : MInvD w0 w wr T N b L V G F es m) (i : Nat) : wr.frozen? ⟨b, i, none⟩ = false := by
  obtain ⟨cur, hb, _, _⟩ := h.blk
  exact unfrozen_of_blk hb i
theorem MInvD.below (h : MInvD w0 w wr T N b L V G F es m) (hb : Below wr.heap.size wr w2) : MInvD w0 w w2 T N b L V G F es m := by
  obtain ⟨cur, h1, h2, h3⟩ := h.blk
  exact ⟨⟨cur, (hb.block b (blk_lt h1)).trans h1, h2, h3⟩, fun i d hi hd => (h.done i d hi hd).keep hb, fun i h1 h2 => (h.rest i h1 h2).trans (.of_below hb),
    ⟨Nat.le_trans h.but.size hb.size, fun x hx hn => (hb.block x (Nat.lt_of_lt_of_le hx h.but.size)).trans (h.but.kept x hx hn), fun base h1 h2 => (h.but.below base h1 h2).trans (hb.mono (Nat.le_trans h1 h.but.size))⟩⟩
theorem MInvD.set (h : MInvD w0 w wr T N b L V G F es m) (hF : F b) (hG : ∀ i z, i < N → G i z → F z ∧ z ≠ b) (hm : m < N) (hL : N ≤ L) {u : Value} (he : es[m]? = some (.cell u)) : MInvD w0 w (wr.setCell ⟨b, m, none⟩ u) T N b L V G F es (m + 1) := by
  obtain ⟨cur, h1, h2, h3⟩ := h.blk
  have st : ∀ i, i < N → Stays (G i) wr (wr.setCell ⟨b, m, none⟩ u) := fun i hi => setCell_stays wr b m u (G i) (fun e => (hG i b hi e).2 rfl)
  have hu : cellD V es m = u := by unfold cellD; rw [he]
  refine ⟨⟨cur.setIfInBounds m u, Go.Joins.block_setCell h1 _, by simpa using h2, fun i hi => ?_⟩, fun i d hi hd => ?_, fun i a1 a2 => (h.rest i (by omega) a2).trans (st i a2), h.but.set hF _ _⟩
  · rw [Array.getElem?_setIfInBounds]
    by_cases e : m = i
    · subst e
      rw [if_pos rfl, if_pos (by omega), if_pos (by omega), hu]
    · rw [if_neg e, h3 i hi]
      by_cases e2 : i < m
      · rw [if_pos e2, if_pos (by omega)]
      · rw [if_neg e2, if_neg (by omega)]
  · by_cases e : i = m
    · subst e
      rw [he] at hd
      obtain rfl := Option.some.inj hd
      rw [hu]
      exact .cell _ _
    · exact (h.done i d (by omega) hd).stays (st i (by omega))
theorem MInvD.call (h : MInvD w0 w wr T N b L V G F es m) (hG : ∀ i z, i < N → G i z → F z ∧ z ≠ b) (hd : ∀ i j z, i < N → j < N → i ≠ j → G i z → G j z → False) (hm : m < N) {d : D} (he : es[m]? = some d) (hv : cellD V es m = V m)
    (hO : DO w2 d (V m) (G m)) (hB : But (G m) wr w2) : MInvD w0 w w2 T N b L V G F es (m + 1) := by
  obtain ⟨cur, h1, h2, h3⟩ := h.blk
  have st : ∀ i, i < N → i ≠ m → Stays (G i) wr w2 := fun i hi hne => hB.stays (fun x h1 h2 => hd m i x hm hi (fun e => hne e.symm) h1 h2)
  refine ⟨⟨cur, (hB.kept b (blk_lt h1) (fun e => (hG m b hm e).2 rfl)).trans h1, h2, fun i hi => ?_⟩, fun i x hi hx => ?_, fun i a1 a2 => (h.rest i (by omega) a2).trans (st i a2 (by omega)), h.but.trans (hB.mono (fun x hx => (hG m x hm hx).1))⟩
  · rw [h3 i hi]
    by_cases e : i = m
    · subst e
      rw [if_neg (by omega), if_pos (by omega), hv]
    · by_cases e2 : i < m
      · rw [if_pos e2, if_pos (by omega)]
      · rw [if_neg e2, if_neg (by omega)]
  · by_cases e : i = m
    · subst e
      rw [he] at hx
      obtain rfl := Option.some.inj hx
      rw [hv]
      exact hO
    · exact (h.done i x (by omega) hx).stays (st i (by omega) e)
theorem MInvD.all {k n c : Nat} (h : MInvD w0 w wr T (n * k) b (c * k) V G F es (n * k)) (hF : F b) (hl : es.length = n * k) (hn : n ≤ c) (hm : c ≤ maxLen) (hG : ∀ i z, i < n * k → G i z → F z ∧ z ≠ b)
    (hd : ∀ i j z, i < n * k → j < n * k → i ≠ j → G i z → G j z → False) : DO wr (.rows T k n es) (.slice (some ⟨b, 0, none⟩) n c) F := by
  obtain ⟨cur, h1, h2, h3⟩ := h.blk
  exact .rows cur (cellD V es) G h1 h2 hn hm hl hF (fun i hi => by rw [h3 i hi, if_pos hi]) (fun i d hi => h.done i d (ds_lt hi hl) hi) hG hd
end

def MarkedM (ts : List Tm) (v : Value) (F : Nat → Prop) (k : Nat) (w : World) (e : Ending) (w' : World) : Prop :=
  e = .returned (.int .i64 ((k + cntM ts : Nat) : Int)) ∧ DO w' (tmD (markM k ts)) v F ∧ But F w w'
theorem markD_any {w0 : World} {F : Nat → Prop} {ts : List Ty} {v : Value} (h : DO w0 (tyD ts) v F) (w : World) (k : Nat) (hs : Stays F w0 w) (hn : k + nodesS ts ≤ 1099511627776) :
    Calls Tryz.prog 78 #[v, .int .i64 k] w fun e w' => e = .returned (.int .i64 ((k + nodesS ts : Nat) : Int)) ∧ DO w' (tyD (markS k ts)) v F ∧ But F w w' :=
  (markS_any (DO.os _ (Nat.le_refl _) h) w k hs hn).mono fun _ _ ⟨h1, h2, h3⟩ => ⟨h1, h2.dO, h3⟩
end Go.Proofs.YtjobmgbchpoheaaGreatDoor
namespace Go.Proofs.YtjobmgbchpoheaaGreatDoor
open Go Go.RowKit
theorem marked9 (ts : List Tm) (k j n : Nat) (h : j < ts.length) (hn : n = k + cntM (ts.take j)) :
    (flatTm (markM k ts))[j * 9]? = some (.cell (.int .i64 (n : Int))) ∧ (flatTm (markM k ts))[j * 9 + 1]? = some (.cell (.string (mk (n + 1)))) ∧ (flatTm (markM k ts))[j * 9 + 2]? = some (.cell (.string (mk (n + 2)))) ∧
    (flatTm (markM k ts))[j * 9 + 3]? = some (.cell (.int .i64 ((n : Int) + 1 + 1 + 1))) ∧ (flatTm (markM k ts))[j * 9 + 4]? = some (.cell (.int .i64 ((n : Int) + 1 + 1 + 1 + 1))) ∧ (flatTm (markM k ts))[j * 9 + 5]? = some (tyD (markS (n + 5) ts[j].ty.args)) ∧
    (flatTm (markM k ts))[j * 9 + 6]? = some (.cell (.int .i64 ((n + 5 + nodesS ts[j].ty.args : Nat) : Int))) ∧ (flatTm (markM k ts))[j * 9 + 7]? = some (tyD (markS (n + 6 + nodesS ts[j].ty.args) ts[j].res.args)) ∧
    (flatTm (markM k ts))[j * 9 + 8]? = some (tmD (markM (n + 6 + nodesS ts[j].ty.args + nodesS ts[j].res.args) ts[j].args)) := by
  have key := fun i (hi : i < 9) => markM_cell ts k j i h hi
  rw [← hn, Tm.ds_eq, tm_mark_eq] at key
  rw [show ((n : Int) + 1 + 1 + 1) = ((n + 3 : Nat) : Int) by omega, show (((n + 3 : Nat) : Int) + 1) = ((n + 4 : Nat) : Int) by omega]
  refine ⟨key 0 (by omega), key 1 (by omega), key 2 (by omega), key 3 (by omega), key 4 (by omega), key 5 (by omega), key 6 (by omega), key 7 (by omega), key 8 (by omega)⟩
theorem cellD_slice {V : Nat → Value} {es : List D} {i : Nat} {T : TypeId} {k n : Nat} {ds : List D} (h : es[i]? = some (.rows T k n ds)) : cellD V es i = V i := by
  unfold cellD
  rw [h]
set_option maxRecDepth 100000 in
set_option maxHeartbeats 8000000 in
theorem markMS_row {w0 : World} {F : Nat → Prop} {ts : List Tm} {b c : Nat} {V : Nat → Value} {G : Nat → Nat → Prop} (cur : Array Value) (hblk : w0.heap[b]? = some (.cells cur 29 (0, 0))) (hsz : cur.size = c * 9) (hnc : ts.length ≤ c) (hm : c ≤ maxLen)
    (hF : F b) (hv : ∀ i, i < ts.length * 9 → cur[i]? = some (V i)) (hr : ∀ i d, (flatTm ts)[i]? = some d → DO w0 d (V i) (G i)) (hG : ∀ i z, i < ts.length * 9 → G i z → F z ∧ z ≠ b)
    (hd : ∀ i j z, i < ts.length * 9 → j < ts.length * 9 → i ≠ j → G i z → G j z → False)
    (IH : ∀ (j : Nat) (hj : j < ts.length) (W : World) (K : Nat), Stays (G (j * 9 + 8)) w0 W → 1 ≤ K → K + cntM ts[j].args ≤ 1099511627776 → Calls Tryz.prog 41 #[V (j * 9 + 8), .int .i64 K] W (MarkedM ts[j].args (V (j * 9 + 8)) (G (j * 9 + 8)) K W))
    (w : World) (k : Nat) (hst : Stays F w0 w) (hk : 1 ≤ k) (hn : k + cntM ts ≤ 1099511627776) :
    Calls Tryz.prog 41 #[.slice (some ⟨b, 0, none⟩) ts.length c, .int .i64 k] w (MarkedM ts (.slice (some ⟨b, 0, none⟩) ts.length c) F k w) := by
  have hlen := cntM_ge ts
  have hTY : ∀ (j : Nat) (hj : j < ts.length), DO w0 (tyD ts[j].ty.args) (V (j * 9 + 5)) (G (j * 9 + 5)) := fun j hj => hr _ _ (by rw [flatTm_at ts j 5 hj (by omega), Tm.ds_eq]; rfl)
  have hRE : ∀ (j : Nat) (hj : j < ts.length), DO w0 (tyD ts[j].res.args) (V (j * 9 + 7)) (G (j * 9 + 7)) := fun j hj => hr _ _ (by rw [flatTm_at ts j 7 hj (by omega), Tm.ds_eq]; rfl)
  have hAR : ∀ (j : Nat) (hj : j < ts.length), DO w0 (tmD ts[j].args) (V (j * 9 + 8)) (G (j * 9 + 8)) := fun j hj => hr _ _ (by rw [flatTm_at ts j 8 hj (by omega), Tm.ds_eq]; rfl)
  have HTY := Lib.hid hTY
  have HRE := Lib.hid hRE
  have HAR := Lib.hid hAR
  have HIH := Lib.hid IH
  have HG := Lib.hid hG
  have HD := Lib.hid hd
  have HM := Lib.hid hm
  have HNC := Lib.hid hnc
  have HF := Lib.hid hF
  have HL := Lib.hid (show (flatTm (markM k ts)).length = ts.length * 9 by rw [flatTm_len, markM_length])
  have HCL := Lib.hid (show ts.length * 9 ≤ c * 9 by omega)
  have H0 : Hid (MInvD w0 w w 29 (ts.length * 9) b (c * 9) V G F (flatTm (markM k ts)) 0) := Lib.hid ⟨⟨cur, (hst.2 b hF (blk_lt hblk)).trans hblk, hsz, fun i hi => by rw [if_neg (by omega)]; exact hv i hi⟩, fun i d hi => by omega, fun i _ hi => ⟨hst.1, fun x hx hl => hst.2 x (hG i x hi hx).1 hl⟩, But.refl F w⟩
  clear IH hr hG hd hm hF hv hblk hsz hnc hst hTY hRE hAR
  go_enter Tryz.func41, Tryz.ntmps41
  go_wp2_with fail
  go_loopw [1, 5] (fun q i wr => ∃ (j n : Nat), j ≤ ts.length ∧ i = .int .i64 j ∧ q = .int .i64 n ∧ n = k + cntM (ts.take j) ∧ MInvD w0 w wr 29 (ts.length * 9) b (c * 9) V G F (flatTm (markM k ts)) (j * 9)) (fun _ i _ => ts.length - (intOf i).toNat)
  case atStart => exact ⟨0, k, Nat.zero_le _, rfl, rfl, by simp [cntM], by rw [Nat.zero_mul]; exact H0.out⟩
  case round =>
    obtain ⟨j, n, hj, rfl, rfl, hn2, hinv⟩ := hrel
    have HI := Lib.hid hinv
    have HN := Lib.hid hn2
    have hnb : n ≤ 1099511627776 := by have := cntM_take_le ts j; omega
    clear hinv hn2
    by_cases hlj : j < ts.length
    · have hj9 : j * 9 + 9 ≤ ts.length * 9 := by omega
      have HJ9 := Lib.hid hj9
      obtain ⟨e0, e1, e2, e3, e4, e5, e6, e7, e8⟩ := marked9 ts k j n hlj HN.out
      have hc2 := cntM_take ts j hlj
      have hc3 := cntM_take_le ts (j + 1)
      have hcq := ts[j].cnt_eq
      have HC2 := Lib.hid hc2
      have HCQ := Lib.hid hcq
      have hbnd : n + 6 + nodesS ts[j].ty.args + nodesS ts[j].res.args + cntM ts[j].args ≤ 1099511627776 := by have := HN.out; omega
      clear hc2 hc3 hcq
      obtain ⟨p5, c5, f5⟩ := (HTY.out j hlj).form
      obtain ⟨p7, c7, f7⟩ := (HRE.out j hlj).form
      obtain ⟨p8, c8, f8⟩ := (HAR.out j hlj).form
      have F5 := Lib.hid f5
      have F7 := Lib.hid f7
      have F8 := Lib.hid f8
      have E0 := Lib.hid e0
      have E1 := Lib.hid e1
      have E2 := Lib.hid e2
      have E3 := Lib.hid e3
      have E4 := Lib.hid e4
      have E5 := Lib.hid e5
      have E6 := Lib.hid e6
      have E7 := Lib.hid e7
      have E8 := Lib.hid e8
      clear f5 f7 f8 e0 e1 e2 e3 e4 e5 e6 e7 e8
      have i0 : (0 : Int) ≤ (j : Int) := Int.natCast_nonneg _
      have i1 : (j : Int) < (ts.length : Int) := by omega
      have c0 := HI.out.cell (i := j * 9) (by omega)
      have kz := HI.out.frozen
      have HI1 := Lib.hid (HI.out.set HF.out HG.out (by omega) HCL.out E0.out)
      have HC1 := Lib.hid (markText_any (n + 1) (by omega) (by omega) (wr.setCell ⟨b, j * 9, none⟩ (.int .i64 (n : Int))))
      go_wp2_with fail
      refine HC1.out.mono ?_
      rintro e w1 ⟨rfl, hb1⟩
      have HI1b := Lib.hid (HI1.out.below hb1)
      clear c0 kz hb1
      have c1 := HI1b.out.cell (i := j * 9 + 1) (by omega)
      have kz := HI1b.out.frozen
      have HI2 := Lib.hid (HI1b.out.set HF.out HG.out (by omega) HCL.out E1.out)
      have HC2b := Lib.hid (markText_any (n + 2) (by omega) (by omega) (w1.setCell ⟨b, j * 9 + 1, none⟩ (.string (mk (n + 1)))))
      go_wp2_with fail
      refine HC2b.out.mono ?_
      rintro e w2 ⟨rfl, hb2⟩
      have HI2b := Lib.hid (HI2.out.below hb2)
      clear c1 kz hb2
      have hI3 : MInvD w0 w (w2.setCell ⟨b, j * 9 + 2, none⟩ (.string (mk (n + 2)))) 29 (ts.length * 9) b (c * 9) V G F (flatTm (markM k ts)) (j * 9 + 3) := HI2b.out.set HF.out HG.out (by omega) HCL.out E2.out
      have hI4 : MInvD w0 w ((w2.setCell ⟨b, j * 9 + 2, none⟩ (.string (mk (n + 2)))).setCell ⟨b, j * 9 + 3, none⟩ (.int .i64 ((n : Int) + 1 + 1 + 1))) 29 (ts.length * 9) b (c * 9) V G F (flatTm (markM k ts)) (j * 9 + 4) := hI3.set HF.out HG.out (by omega) HCL.out E3.out
      have hI5 : MInvD w0 w (((w2.setCell ⟨b, j * 9 + 2, none⟩ (.string (mk (n + 2)))).setCell ⟨b, j * 9 + 3, none⟩ (.int .i64 ((n : Int) + 1 + 1 + 1))).setCell ⟨b, j * 9 + 4, none⟩ (.int .i64 ((n : Int) + 1 + 1 + 1 + 1))) 29 (ts.length * 9) b (c * 9) V G F (flatTm (markM k ts)) (j * 9 + 5) := hI4.set HF.out HG.out (by omega) HCL.out E4.out
      have c2 := HI2b.out.cell (i := j * 9 + 2) (by omega)
      have c3 := HI2b.out.cell (i := j * 9 + 3) (by omega)
      have c4 := HI2b.out.cell (i := j * 9 + 4) (by omega)
      have c5' := HI2b.out.cell (i := j * 9 + 5) (by omega)
      rw [if_neg (by omega), F5.out] at c5'
      have kz := HI2b.out.frozen
      have hC5 := markD_any (HTY.out j hlj) _ (n + 5) (hI5.rest (j * 9 + 5) (by omega) (by omega)) (by omega)
      rw [F5.out, show ((n + 5 : Nat) : Int) = (n : Int) + 1 + 1 + 1 + 1 + 1 by omega] at hC5
      have HC5 := Lib.hid hC5
      have HI5 := Lib.hid hI5
      clear hI3 hI4 hI5 hC5
      go_wp2_with fail
      refine HC5.out.mono ?_
      rintro e w3 ⟨rfl, ho3, hb3⟩
      rw [← F5.out] at ho3
      have HI6 := Lib.hid (HI5.out.call HG.out HD.out (by omega) E5.out (cellD_slice E5.out) ho3 hb3)
      clear c2 c3 c4 c5' kz ho3 hb3
      have hI7 : MInvD w0 w (w3.setCell ⟨b, j * 9 + 6, none⟩ (.int .i64 ((n + 5 + nodesS ts[j].ty.args : Nat) : Int))) 29 (ts.length * 9) b (c * 9) V G F (flatTm (markM k ts)) (j * 9 + 7) := HI6.out.set HF.out HG.out (by omega) HCL.out E6.out
      have c6 := HI6.out.cell (i := j * 9 + 6) (by omega)
      have c7' := HI6.out.cell (i := j * 9 + 7) (by omega)
      rw [if_neg (by omega), F7.out] at c7'
      have kz := HI6.out.frozen
      have hC7 := markD_any (HRE.out j hlj) _ (n + 6 + nodesS ts[j].ty.args) (hI7.rest (j * 9 + 7) (by omega) (by omega)) (by omega)
      rw [F7.out, show ((n + 6 + nodesS ts[j].ty.args : Nat) : Int) = ((n + 5 + nodesS ts[j].ty.args : Nat) : Int) + 1 by omega] at hC7
      have HC7 := Lib.hid hC7
      have HI7 := Lib.hid hI7
      clear hI7 hC7
      go_wp2_with fail
      refine HC7.out.mono ?_
      rintro e w4 ⟨rfl, ho4, hb4⟩
      rw [← F7.out] at ho4
      have HI8 := Lib.hid (HI7.out.call HG.out HD.out (by omega) E7.out (cellD_slice E7.out) ho4 hb4)
      clear c6 c7' kz ho4 hb4
      have d8 := HI8.out.cell (i := j * 9 + 8) (by omega)
      rw [if_neg (by omega), F8.out] at d8
      have kz := HI8.out.frozen
      have hC8 := HIH.out j hlj w4 (n + 6 + nodesS ts[j].ty.args + nodesS ts[j].res.args) (HI8.out.rest (j * 9 + 8) (by omega) (by omega)) (by omega) (by omega)
      rw [F8.out] at hC8
      have HC8 := Lib.hid hC8
      clear hC8
      go_wp2_with fail
      refine HC8.out.mono ?_
      rintro e w5 ⟨rfl, ho5, hb5⟩
      rw [← F8.out] at ho5
      have HI9 := Lib.hid (HI8.out.call HG.out HD.out (by omega) E8.out (cellD_slice E8.out) ho5 hb5)
      clear d8 kz ho5 hb5
      go_wp2_with fail
      go_roundw
      case rel =>
        refine ⟨j + 1, n + 6 + nodesS ts[j].ty.args + nodesS ts[j].res.args + cntM ts[j].args, by omega, by go_num, rfl, by have := HC2.out; have := HCQ.out; have := HN.out; omega, ?_⟩
        rw [show (j + 1) * 9 = j * 9 + 8 + 1 by omega]
        exact HI9.out
      case measure => simp [intOf]; omega
    · obtain rfl : j = ts.length := by omega
      go_wp2_with fail
      go_ret
      have h1 := HN.out
      rw [List.take_length] at h1
      subst h1
      refine ⟨rfl, ?_, HI.out.but⟩
      have key := HI.out.all HF.out HL.out HNC.out HM.out HG.out HD.out
      show DO wr (.rows 29 9 (markM k ts).length (flatTm (markM k ts))) _ F
      rw [markM_length]
      exact key
set_option maxRecDepth 100000 in
theorem markMS_nil (F : Nat → Prop) (w : World) (k : Nat) : Calls Tryz.prog 41 #[.slice none 0 0, .int .i64 k] w (MarkedM [] (.slice none 0 0) F k w) := by
  go_enter Tryz.func41, Tryz.ntmps41
  go_wp2_with fail
  go_loopw [1, 5] (fun q i wr => q = .int .i64 k ∧ i = .int .i64 0 ∧ wr = w) (fun _ _ _ => 0)
  case atStart => exact ⟨rfl, rfl, rfl⟩
  case round =>
    obtain ⟨rfl, rfl, rfl⟩ := hrel
    go_wp2_with fail
    go_ret
    exact ⟨by simp [cntM], .nil _ _ F, But.refl F _⟩
theorem markMS_any : ∀ (M : Nat) {w0 : World} {F : Nat → Prop} {ts : List Tm} {v : Value}, nodesM ts ≤ M → DO w0 (tmD ts) v F → ∀ (w : World) (k : Nat), Stays F w0 w → 1 ≤ k → k + cntM ts ≤ 1099511627776 →
    Calls Tryz.prog 41 #[v, .int .i64 k] w (MarkedM ts v F k w)
  | M, w0, F, ts, v, hM, h, w, k, hst, hk, hn => by
    rcases h.inv with ⟨h0, _, rfl⟩ | ⟨b, c, cur, V, G, rfl, hblk, hsz, hnc, hm, hl, hF, hv, hr, hG, hd⟩
    · obtain rfl := List.eq_nil_of_length_eq_zero h0
      exact markMS_nil F w k
    · refine markMS_row cur hblk hsz hnc hm hF hv hr hG hd (fun j hj W K hs h1 hb => ?_) w k hst hk hn
      have hle := nodesM_at ts j hj
      rw [Tm.nodes_eq] at hle
      match M, hM with
      | 0, hM => omega
      | M + 1, hM => exact markMS_any M (by omega) (hr _ _ (by rw [flatTm_at ts j 8 hj (by omega), Tm.ds_eq]; rfl)) W K hs h1 hb
end Go.Proofs.YtjobmgbchpoheaaGreatDoor
namespace Go.Proofs.YtjobmgbchpoheaaGreatDoor
open Go Go.RowKit

theorem But.of_below {F : Nat → Prop} {w w' : World} (h : Below w.heap.size w w') : But F w w' :=
  ⟨h.size, fun x hx _ => h.block x hx, fun _ hb _ => h.mono hb⟩
theorem keep_bothM {w W w1 : World} {p : Addr} {v : Value} (hb1 : Below W.heap.size W w1) (h : W.cell? p = some v ∧ Below w.heap.size w W) : w1.cell? p = some v ∧ Below w.heap.size w w1 :=
  ⟨(hb1.cell (World.block_lt_of_cell? W p h.1)).trans h.1, h.2.trans (hb1.mono h.2.size)⟩
set_option maxRecDepth 100000 in
set_option maxHeartbeats 8000000 in
theorem heldMS_any {w0 : World} {C : Nat → Prop} {us : List Tm} {v : Value} (h : DM w0 C (tmD us) v) : ∀ (w : World) (k : Nat) (ts : List Tm), us = markM k ts → Stays C w0 w → 1 ≤ k → k + cntM ts ≤ 1099511627776 →
    Calls Tryz.prog 43 #[v, .int .i64 k] w (IntRet (fun r => r = ((k + cntM ts : Nat) : Int)) w) := by
  refine tm_ind (motive := fun us v => ∀ (w : World) (k : Nat) (ts : List Tm), us = markM k ts → Stays C w0 w → 1 ≤ k → k + cntM ts ≤ 1099511627776 →
    Calls Tryz.prog 43 #[v, .int .i64 k] w (IntRet (fun r => r = ((k + cntM ts : Nat) : Int)) w)) ?_ _ (Nat.le_refl _) h
  intro us q d hl H w k ts hu hst hk hn
  have hlu : us.length = ts.length := by rw [hu, markM_length]
  have hlen := cntM_ge ts
  have HH := Lib.hid H
  have HST := Lib.hid hst
  have HLU := Lib.hid hlu
  have HU := Lib.hid (fun j (hj : j < us.length) (hj2 : j < ts.length) => show us[j] = ts[j].mark (k + cntM (ts.take j)) by
    subst hu
    exact markM_get ts k j hj2)
  rw [hlu] at hl ⊢
  clear H hst hu hlu
  go_enter Tryz.func43, Tryz.ntmps43
  go_wp2_with fail
  go_loopw [1, 5] (fun q i wr => ∃ (j n : Nat), j ≤ ts.length ∧ i = .int .i64 j ∧ q = .int .i64 n ∧ n = k + cntM (ts.take j) ∧ Below w.heap.size w wr) (fun _ i _ => ts.length - (intOf i).toNat)
  case atStart => exact ⟨0, k, Nat.zero_le _, rfl, rfl, by simp [cntM], Below.refl _ _⟩
  case round =>
    obtain ⟨j, n, hj, rfl, rfl, hn2, hbr⟩ := hrel
    have HN := Lib.hid hn2
    have HB := Lib.hid hbr
    have hnb : n ≤ 1099511627776 := by have := cntM_take_le ts j; omega
    clear hn2 hbr
    by_cases hlj : j < ts.length
    · have hju : j < us.length := by rw [HLU.out]; exact hlj
      obtain ⟨b, o, tp, tc, rp, rc, p, c, rfl, hC, hb, h9, hT, hI⟩ := HH.out j hju
      have hx := HU.out j hju hlj
      have hxm : us[j] = .mk (n : Nat) (mk (n + 1)) (mk (n + 2)) ((n + 3 : Nat) : Int) (.mk ((n + 4 : Nat) : Int) (markS (n + 5) ts[j].ty.args)) (.mk ((n + 5 + nodesS ts[j].ty.args : Nat) : Int) (markS (n + 6 + nodesS ts[j].ty.args) ts[j].res.args)) (markM (n + 6 + nodesS ts[j].ty.args + nodesS ts[j].res.args) ts[j].args) := by
        rw [hx, ← HN.out, tm_mark_eq]
      obtain ⟨x, hxx⟩ : ∃ x, us[j] = x := ⟨_, rfl⟩
      rw [hxx] at h9 hT hI hxm
      subst hxm
      have H9 := Lib.hid h9
      have HT := Lib.hid hT
      have HI := Lib.hid hI
      have hc2 := cntM_take ts j hlj
      have hc3 := cntM_take_le ts (j + 1)
      have hcq := ts[j].cnt_eq
      have HC2 := Lib.hid hc2
      have HCQ := Lib.hid hcq
      have hbnd : n + 6 + nodesS ts[j].ty.args + nodesS ts[j].res.args + cntM ts[j].args ≤ 1099511627776 := by have := HN.out; omega
      have i0 : (0 : Int) ≤ (j : Int) := Int.natCast_nonneg _
      have i1 : (j : Int) < (ts.length : Int) := by omega
      clear hx hxx hc2 hc3 hcq hT hI h9 hC
      obtain ⟨g0, g1, g2, g3, g4, g5, g6, g7, g8⟩ := H9.out wr (HST.out.trans (.of_below HB.out))
      simp only [cKind, cName, cOther, cN, cTy, cRes, cArgs, yKind, yArgs] at g0 g1 g2 g3 g4 g5 g6 g7 g8
      clear g2 g3 g4 g5 g6 g7 g8
      go_wp2_with fail
      go_region_held3 (fun w' => w'.cell? ⟨b, o + j * 9 + 1, none⟩ = some (.string (mk (n + 1))) ∧ Below w.heap.size w w')
        (first
          | (go_keep; done)
          | exact ⟨by simp [*], HB.out.trans ((Below.refl _ _).drew.mono HB.out.size)⟩
          | exact keep_bothM hb1 (by assumption))
        (first | (go_at_call 79; refine (markText_any (n + 1) (by omega) (by omega) _).mono ?_; rintro e w1 ⟨rfl, hb1⟩))
      rename_i hH
      have HB1 := Lib.hid hH.2
      clear hH hb1 g0 g1
      obtain ⟨g0, g1, g2, g3, g4, g5, g6, g7, g8⟩ := H9.out _ (HST.out.trans (.of_below HB1.out))
      simp only [cKind, cName, cOther, cN, cTy, cRes, cArgs, yKind, yArgs] at g0 g1 g2 g3 g4 g5 g6 g7 g8
      clear g0 g1 g3 g4 g5 g6 g7 g8
      go_wp2_with fail
      go_region_held3 (fun w' => w'.cell? ⟨b, o + j * 9 + 2, none⟩ = some (.string (mk (n + 2))) ∧ Below w.heap.size w w')
        (first
          | (go_keep; done)
          | exact ⟨by simp [*], HB1.out.trans ((Below.refl _ _).drew.mono HB1.out.size)⟩
          | exact keep_bothM hb1 (by assumption))
        (first | (go_at_call 79; refine (markText_any (n + 2) (by omega) (by omega) _).mono ?_; rintro e w2 ⟨rfl, hb1⟩))
      rename_i hH
      have HB2 := Lib.hid hH.2
      clear hH hb1 g2 HB1
      obtain ⟨g0, g1, g2, g3, g4, g5, g6, g7, g8⟩ := H9.out _ (HST.out.trans (.of_below HB2.out))
      simp only [cKind, cName, cOther, cN, cTy, cRes, cArgs, yKind, yArgs] at g0 g1 g2 g3 g4 g5 g6 g7 g8
      clear g0 g1 g2 g6 g7 g8
      have g3' := g3
      rw [show ((n + 3 : Nat) : Int) = (n : Int) + 1 + 1 + 1 by omega] at g3
      rw [show ((n + 4 : Nat) : Int) = (n : Int) + 1 + 1 + 1 + 1 by omega] at g4
      have hC5 := heldS_any HT.out.ty w2 (n + 5) ts[j].ty.args rfl (HST.out.trans (.of_below HB2.out)) (by omega)
      simp only [cTy, yArgs] at hC5
      rw [show ((n + 5 : Nat) : Int) = (n : Int) + 1 + 1 + 1 + 1 + 1 by omega] at hC5
      have HC5 := Lib.hid hC5
      clear hC5 g3'
      go_wp2_with fail
      refine HC5.out.mono ?_
      rintro e w3 ⟨r, rfl, rfl, hb3⟩
      have HB3 := Lib.hid (HB2.out.trans (hb3.mono HB2.out.size))
      have hnn : ¬ (((n + 5 + nodesS ts[j].ty.args : Nat) : Int) < 0) := by omega
      obtain ⟨h0, h1, h2, h3, h4, h5, h6, h7, h8⟩ := H9.out _ (HST.out.trans (.of_below HB3.out))
      simp only [cKind, cName, cOther, cN, cTy, cRes, cArgs, yKind, yArgs] at h0 h1 h2 h3 h4 h5 h6 h7 h8
      have hC7 := heldS_any HT.out.res w3 (n + 6 + nodesS ts[j].ty.args) ts[j].res.args rfl (HST.out.trans (.of_below HB3.out)) (by omega)
      simp only [cRes, yArgs] at hC7
      rw [show ((n + 6 + nodesS ts[j].ty.args : Nat) : Int) = ((n + 5 + nodesS ts[j].ty.args : Nat) : Int) + 1 by omega] at hC7
      have HC7 := Lib.hid hC7
      clear hC7 g3 g4 g5 hb3 HB2 h0 h1 h2 h3 h4 h5 h8
      go_wp2_with fail
      refine HC7.out.mono ?_
      rintro e w4 ⟨r, rfl, rfl, hb4⟩
      have HB4 := Lib.hid (HB3.out.trans (hb4.mono HB3.out.size))
      have hnn2 : ¬ (((n + 6 + nodesS ts[j].ty.args + nodesS ts[j].res.args : Nat) : Int) < 0) := by omega
      obtain ⟨h0, h1, h2, h3, h4, h5, h6', h7', h8⟩ := H9.out _ (HST.out.trans (.of_below HB4.out))
      simp only [cKind, cName, cOther, cN, cTy, cArgs, yKind, yArgs] at h0 h1 h2 h3 h4 h5 h8
      have hC8 := HI.out w4 (n + 6 + nodesS ts[j].ty.args + nodesS ts[j].res.args) ts[j].args rfl (HST.out.trans (.of_below HB4.out)) (by omega) (by omega)
      simp only [cArgs] at hC8
      have HC8 := Lib.hid hC8
      clear hC8 hb4 hnn h0 h1 h2 h3 h4 h5 h6 h7 h6' h7' HB3
      go_wp2_with fail
      refine HC8.out.mono ?_
      rintro e w5 ⟨r, rfl, rfl, hb5⟩
      have HB5 := Lib.hid (HB4.out.trans (hb5.mono HB4.out.size))
      have hnn : ¬ (((n + 6 + nodesS ts[j].ty.args + nodesS ts[j].res.args + cntM ts[j].args : Nat) : Int) < 0) := by omega
      clear hb5 h8 hnn2
      go_wp2_with fail
      go_roundw
      case rel => exact ⟨j + 1, n + 6 + nodesS ts[j].ty.args + nodesS ts[j].res.args + cntM ts[j].args, by omega, by go_num, rfl, by have := HC2.out; have := HCQ.out; have := HN.out; omega, HB5.out⟩
      case measure => simp [intOf]; omega
    · obtain rfl : j = ts.length := by omega
      have h1 := HN.out
      rw [List.take_length] at h1
      have H1 := Lib.hid h1
      clear h1
      go_wp2_with fail
      go_ret
      exact ⟨_, by rw [H1.out], rfl, HB.out⟩
def Tm.cntT (t : Tm) : Nat := nodesS t.ty.args + nodesS t.res.args + cntM t.args
def Tm.markT (k : Nat) (t : Tm) : Tm := .mk t.kind t.name t.other t.n (.mk t.ty.kind (markS k t.ty.args)) (.mk t.res.kind (markS (k + nodesS t.ty.args) t.res.args)) (markM (k + nodesS t.ty.args + nodesS t.res.args) t.args)
theorem Tm.cntT_wt (t : Tm) : t.cntT ≤ 6 * t.wt := by
  have := t.cnt_wt
  rw [t.cnt_eq] at this
  unfold Tm.cntT
  omega
theorem OSt.parts9 {w : World} {t : Tm} {tp rp p : Option Addr} {tc rc c : Nat} {F : Nat → Prop} (h : OSt w t.ds (tmL t tp tc rp rc p c) F) : ∃ F1 F2 F3 : Nat → Prop, OS w t.ty.args (.slice tp t.ty.args.length tc) F1 ∧ OS w t.res.args (.slice rp t.res.args.length rc) F2 ∧ DO w (tmD t.args) (.slice p t.args.length c) F3 ∧
    (∀ z, F1 z → F z ∧ ¬ F2 z ∧ ¬ F3 z ∧ z < w.heap.size) ∧ (∀ z, F2 z → F z ∧ ¬ F3 z ∧ z < w.heap.size) ∧ (∀ z, F3 z → F z ∧ z < w.heap.size) := by
  obtain ⟨hl, G, h1, h2, h3⟩ := h
  rw [t.ds_len] at h2 h3
  rw [t.ds_eq] at h1
  refine ⟨_, _, _, DO.os _ (Nat.le_refl _) (h1 5 _ _ rfl rfl).inHeap, DO.os _ (Nat.le_refl _) (h1 7 _ _ rfl rfl).inHeap, (h1 8 _ _ rfl rfl).inHeap, fun z hz => ⟨h2 5 z (by omega) hz.1, fun e => h3 5 7 z (by omega) (by omega) (by omega) hz.1 e.1, fun e => h3 5 8 z (by omega) (by omega) (by omega) hz.1 e.1, hz.2⟩,
    fun z hz => ⟨h2 7 z (by omega) hz.1, fun e => h3 7 8 z (by omega) (by omega) (by omega) hz.1 e.1, hz.2⟩, fun z hz => ⟨h2 8 z (by omega) hz.1, hz.2⟩⟩
theorem Bx9.but {F : Nat → Prop} {w w' : World} {b : Nat} {t : Tm} {tp rp p : Option Addr} {tc rc c : Nat} (h : Bx9 w b t tp tc rp rc p c) (hb : But F w w') (hn : ¬ F b) : Bx9 w' b t tp tc rp rc p c := h.at (hb.kept b h.lt hn)
set_option maxRecDepth 100000 in
set_option maxHeartbeats 4000000 in
theorem markTm_any {F : Nat → Prop} {t : Tm} {v : Value} {w : World} (h : OMv w t v F) (k : Nat) (hk : 1 ≤ k) (hn : k + t.cntT ≤ 1099511627776) :
    Calls Tryz.prog 18 #[v, .int .i64 k] w (fun e w' => e = .returned (.int .i64 ((k + t.cntT : Nat) : Int)) ∧ OMv w' (t.markT k) v F ∧ But F w w') := by
  obtain ⟨tp, tc, rp, rc, p, c, rfl, h⟩ := h
  obtain ⟨F1, F2, F3, o1, o2, o3, a1, a2, a3⟩ := h.parts9
  unfold Tm.cntT at hn
  have hb0 := al_below w (.cells (tmC t tp tc rp rc p c) 29)
  have HX0 := Lib.hid (Bx9.new w t tp tc rp rc p c 29)
  have HA1 := Lib.hid a1
  have HA2 := Lib.hid a2
  have HA3 := Lib.hid a3
  have hC5 := markT_any (t := t.ty) ⟨_, rfl, o1.keep hb0⟩ k (by omega)
  have HC5 := Lib.hid hC5
  have HO2 := Lib.hid (o2.keep hb0)
  have HO3 := Lib.hid (o3.keep hb0)
  have HB0 := Lib.hid hb0
  clear h o1 o2 o3 a1 a2 a3 hb0 hC5
  go_enter Tryz.func18, Tryz.ntmps18
  go_wp2_with fail
  refine HC5.out.mono ?_
  rintro e w1 ⟨rfl, ho1, wA, hbA, hbt⟩
  have hB1 := (But.of_below (F := F1) hbA).trans hbt
  obtain ⟨s1, hs1, ho1⟩ := ho1
  have hx1 := HX0.out.but hB1 (fun e => by have := (HA1.out _ e).2.2.2; omega)
  have ho2 := HO2.out.stays (hB1.stays (fun x h1 h2 => (HA1.out x h1).2.1 h2))
  have ho3 := HO3.out.stays (hB1.stays (fun x h1 h2 => (HA1.out x h1).2.2.1 h2))
  have HB1 := Lib.hid ((But.of_below (F := F) HB0.out).trans (hB1.mono (fun z hz => (HA1.out z hz).1)))
  have HO1 := Lib.hid ho1
  have HO3b := Lib.hid ho3
  have HX1 := Lib.hid hx1
  have HS1 := Lib.hid hs1
  have HC7 := Lib.hid (markT_any (t := t.res) ⟨_, rfl, ho2⟩ (k + nodesS t.ty.args) (by omega))
  obtain ⟨g0, g1, g2, g3, g4, g5, g6, g7, g8⟩ := hx1
  clear hbA hbt hB1 ho1 ho2 ho3 hs1 HO2 HO3 HX0
  go_wp2_with fail
  refine HC7.out.mono ?_
  rintro e w2 ⟨rfl, ho2, wA, hbA, hbt⟩
  have hB2 := (But.of_below (F := F2) hbA).trans hbt
  obtain ⟨s2, hs2, ho2⟩ := ho2
  have hx2 := HX1.out.but hB2 (fun e => by have := (HA2.out _ e).2.2; omega)
  have ho1 := HO1.out.stays (hB2.stays (fun x h1 h2 => (HA1.out x h2).2.1 h1))
  have ho3 := HO3b.out.stays (hB2.stays (fun x h1 h2 => (HA2.out x h1).2.1 h2))
  have HB2 := Lib.hid (HB1.out.trans (hB2.mono (fun z hz => (HA2.out z hz).1)))
  have HO1b := Lib.hid ho1
  have HO2 := Lib.hid ho2
  have HS2 := Lib.hid hs2
  have HC8 := Lib.hid (markMS_any _ (Nat.le_refl _) ho3 w2 (k + nodesS t.ty.args + nodesS t.res.args) ⟨Nat.le_refl _, fun _ _ _ => rfl⟩ (by omega) (by omega))
  clear g0 g1 g2 g3 g4 g5 g6 g7 g8
  obtain ⟨g0, g1, g2, g3, g4, g5, g6, g7, g8⟩ := hx2
  clear hbA hbt hB2 ho1 ho2 ho3 hs2 HO1 HO3b HX1
  go_wp2_with fail
  refine HC8.out.mono ?_
  rintro e w3 ⟨rfl, ho3, hb3⟩
  have HB3 := Lib.hid (HB2.out.trans (hb3.mono (fun z hz => (HA3.out z hz).1)))
  have HO3 := Lib.hid ho3
  have HO1c := Lib.hid (HO1b.out.stays (hb3.stays (fun x h1 h2 => (HA1.out x h2).2.2.1 h1)))
  have HO2c := Lib.hid (HO2.out.stays (hb3.stays (fun x h1 h2 => (HA2.out x h2).2.1 h1)))
  clear g0 g1 g2 g3 g4 g5 g6 g7 g8 ho3 hb3
  go_wp2_with fail
  go_ret
  have e1 : s1 = .slice tp t.ty.args.length tc := by have := HS1.out; simp at this; exact this.symm
  have e2 : s2 = .slice rp t.res.args.length rc := by have := HS2.out; simp at this; exact this.symm
  have q1 := HO1c.out
  have q2 := HO2c.out
  have q3 := HO3.out
  rw [e1] at q1
  rw [e2] at q2
  have l1 : (t.markT k).ty.args.length = t.ty.args.length := by simp [Tm.markT, cTy, markS_length]
  have l2 : (t.markT k).res.args.length = t.res.args.length := by simp [Tm.markT, cRes, markS_length]
  have l3 : (t.markT k).args.length = t.args.length := by simp [Tm.markT, cArgs, markM_length]
  have e0 : (k : Int) + (nodesS t.ty.args : Int) + (nodesS t.res.args : Int) + (cntM t.args : Int) = ((k + t.cntT : Nat) : Int) := by unfold Tm.cntT; omega
  refine ⟨congrArg (fun z => Ending.returned (Value.int IntKind.i64 z)) e0, ⟨tp, tc, rp, rc, p, c, ?_, ?_⟩, HB3.out⟩
  · unfold tmV
    rw [l1, l2, l3]
    rfl
  · refine OSt9 (F1 := F1) (F2 := F2) (F3 := F3) ?_ ?_ ?_ (fun z hz => ⟨(HA1.out z hz).1, (HA1.out z hz).2.1, (HA1.out z hz).2.2.1⟩) (fun z hz => ⟨(HA2.out z hz).1, (HA2.out z hz).2.1⟩) (fun z hz => (HA3.out z hz).1)
    · rw [l1]; exact q1
    · rw [l2]; exact q2
    · rw [l3]; exact q3
set_option maxRecDepth 100000 in
set_option maxHeartbeats 4000000 in
theorem heldTm_any {C : Nat → Prop} {t : Tm} {v : Value} {w : World} {k : Nat} (h : TM w C (t.markT k) v) (hk : 1 ≤ k) (hn : k + t.cntT ≤ 1099511627776) :
    Calls Tryz.prog 19 #[v, .int .i64 k] w (IntRet (fun r => r = ((k + t.cntT : Nat) : Int)) w) := by
  obtain ⟨tp, tc, rp, rc, p, c, rfl, h⟩ := h
  unfold Tm.cntT at hn
  have m1 : (t.markT k).ty.args = markS k t.ty.args := rfl
  have m2 : (t.markT k).res.args = markS (k + nodesS t.ty.args) t.res.args := rfl
  have m3 : (t.markT k).args = markM (k + nodesS t.ty.args + nodesS t.res.args) t.args := rfl
  obtain ⟨u, hu⟩ : ∃ u, t.markT k = u := ⟨_, rfl⟩
  rw [hu] at h m1 m2 m3 ⊢
  have HM1 := Lib.hid m1
  have HM2 := Lib.hid m2
  have HM3 := Lib.hid m3
  have hb0 := al_below w (.cells (tmC u tp tc rp rc p c) 29)
  have HX0 := Lib.hid (Bx9.new w u tp tc rp rc p c 29)
  have HB0 := Lib.hid hb0
  have HH := Lib.hid (fun w' (hb : Below w.heap.size w w') => h.stays (.of_below hb))
  have HC5 := Lib.hid (heldT_any (t := u.ty) (k := k) (ts := t.ty.args) ⟨_, rfl, (h.stays (.of_below hb0)).ty⟩ m1 (by omega))
  have HCN := Lib.hid (show t.cntT = nodesS t.ty.args + nodesS t.res.args + cntM t.args from rfl)
  clear h m1 m2 m3 hu hb0
  go_enter Tryz.func19, Tryz.ntmps19
  go_wp2_with fail
  refine HC5.out.mono ?_
  rintro e w1 ⟨r, rfl, rfl, hb1⟩
  have HB1 := Lib.hid (HB0.out.trans (hb1.mono HB0.out.size))
  have HX1 := Lib.hid (HX0.out.keep hb1)
  obtain ⟨g0, g1, g2, g3, g4, g5, g6, g7, g8⟩ := HX0.out.keep hb1
  have hn1 : ¬ (((k + nodesS t.ty.args : Nat) : Int) < 0) := by omega
  have HC7 := Lib.hid (heldT_any (t := u.res) (k := k + nodesS t.ty.args) (ts := t.res.args) ⟨_, rfl, (HH.out _ HB1.out).res⟩ HM2.out (by omega))
  clear hb1 HX0
  go_wp2_with fail
  refine HC7.out.mono ?_
  rintro e w2 ⟨r, rfl, rfl, hb2⟩
  have HB2 := Lib.hid (HB1.out.trans (hb2.mono HB1.out.size))
  clear g0 g1 g2 g3 g4 g5 g6 g7 g8 hn1
  obtain ⟨g0, g1, g2, g3, g4, g5, g6, g7, g8⟩ := HX1.out.keep hb2
  have hn1 : ¬ (((k + nodesS t.ty.args + nodesS t.res.args : Nat) : Int) < 0) := by omega
  have HC8 := Lib.hid (heldMS_any (HH.out _ HB2.out).args w2 (k + nodesS t.ty.args + nodesS t.res.args) t.args HM3.out ⟨Nat.le_refl _, fun _ _ _ => rfl⟩ (by omega) (by omega))
  clear hb2 HX1
  go_wp2_with fail
  refine HC8.out.mono ?_
  rintro e w3 ⟨r, rfl, rfl, hb3⟩
  have HB3 := Lib.hid (HB2.out.trans (hb3.mono HB2.out.size))
  clear g0 g1 g2 g3 g4 g5 g6 g7 g8 hn1 hb3
  have hn1 : ¬ (((k + nodesS t.ty.args + nodesS t.res.args + cntM t.args : Nat) : Int) < 0) := by omega
  go_wp2_with fail
  go_ret
  exact ⟨_, by rw [HCN.out]; omega, rfl, HB3.out⟩
end Go.Proofs.YtjobmgbchpoheaaGreatDoor
