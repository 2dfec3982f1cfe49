/-
  Several texts of the proof in one (each says below what it holds): TmMark TmMark2 Cf TmHeld Copy AppS MarkRow Eqs Index UniteSpec Without FreeP FreeS SpecTy.
-/
import Derived.Test.YtdfnjfelmfccjaaDoorFvg2
import Derived.Test.YtdfnjfelmfccjaaDoorFvg1
import Derived.Lib.SmallJoins
import Derived.Test.YtdfnjfelmfccjaaDoorProg
import Derived.WalkSmall
import Derived.Laws.OwnMore
import Derived.Laws.AppendOwn
import Derived.Deep.QuietTactic
import Derived.BigQuiet
/- TmMark: The contracts of the laws' markTermS, markTerm: every cell of a term of the call's own is numbered, nothing else turns; of heldTermS, heldTerm: the numbers are found again. -/
namespace Go.Proofs.YtdfnjfelmfccjaaDoor
open Go Go.RowKit

mutual
/-- The numbers that a term takes; that terms take. -/
def Tm.cnt : Tm → Nat
  | .mk _ _ _ _ t r ts => 6 + nodesS t.args + nodesS r.args + cntM ts
def cntM : List Tm → Nat
  | [] => 0
  | t :: ts => t.cnt + cntM ts
end
theorem Tm.cnt_eq (t : Tm) : t.cnt = 6 + nodesS t.ty.args + nodesS t.res.args + cntM t.args := by cases t; simp [Tm.cnt, Tm.ty, Tm.res, Tm.args]
theorem cntM_append (a b : List Tm) : cntM (a ++ b) = cntM a + cntM b := by
  induction a with
  | nil => simp [cntM]
  | cons x a ih => simp only [List.cons_append, cntM, ih]; omega
theorem cntM_take (ts : List Tm) (k : Nat) (h : k < ts.length) : cntM (ts.take (k + 1)) = cntM (ts.take k) + ts[k].cnt := by
  rw [tm_take_next h, cntM_append]; simp [cntM]
theorem cntM_take_le (ts : List Tm) (k : Nat) : cntM (ts.take k) ≤ cntM ts := by
  have h := cntM_append (ts.take k) (ts.drop k)
  rw [List.take_append_drop] at h
  omega
theorem cntM_ge (ts : List Tm) : ts.length ≤ cntM ts := by
  induction ts with
  | nil => simp
  | cons a ts ih => simp only [List.length_cons, cntM, Tm.cnt_eq]; omega
mutual
theorem cntM_wt : ∀ ts : List Tm, cntM ts ≤ 6 * wtS ts
  | [] => by simp [cntM]
  | t :: ts => by
    have h1 := Tm.cnt_wt t
    have h2 := cntM_wt ts
    simp only [cntM, wtS]
    omega
theorem Tm.cnt_wt : ∀ t : Tm, t.cnt ≤ 6 + 6 * t.wt
  | .mk k a b n t r ts => by
    have := cntM_wt ts
    simp only [Tm.cnt, Tm.wt]
    omega
end
mutual
def Tm.mark : Nat → Tm → Tm
  | k, .mk _ _ _ _ t r ts => .mk (k : Nat) (Go.Proofs.YtdfnjfelmfccjaaDoor.mk (k + 1)) (Go.Proofs.YtdfnjfelmfccjaaDoor.mk (k + 2)) ((k + 3 : Nat) : Int) (.mk ((k + 4 : Nat) : Int) (markS (k + 5) t.args)) (.mk ((k + 5 + nodesS t.args : Nat) : Int) (markS (k + 6 + nodesS t.args) r.args)) (markM (k + 6 + nodesS t.args + nodesS r.args) ts)
def markM : Nat → List Tm → List Tm
  | _, [] => []
  | k, t :: ts => t.mark k :: markM (k + t.cnt) ts
end
theorem tm_mark_eq (k : Nat) (t : Tm) : t.mark k = .mk (k : Nat) (mk (k + 1)) (mk (k + 2)) ((k + 3 : Nat) : Int) (.mk ((k + 4 : Nat) : Int) (markS (k + 5) t.ty.args)) (.mk ((k + 5 + nodesS t.ty.args : Nat) : Int) (markS (k + 6 + nodesS t.ty.args) t.res.args)) (markM (k + 6 + nodesS t.ty.args + nodesS t.res.args) t.args) := by cases t; rfl
theorem markM_at (ts : List Tm) : ∀ (k j : Nat), (markM k ts)[j]? = (ts[j]?).map (fun x => x.mark (k + cntM (ts.take j))) := by
  induction ts with
  | nil => intro k j; simp [markM]
  | cons t ts ih =>
    intro k j
    cases j with
    | zero => simp [markM, cntM]
    | succ j => simp only [markM, List.getElem?_cons_succ, ih, List.take_succ_cons, cntM, Nat.add_assoc]
theorem markM_length (ts : List Tm) : ∀ k : Nat, (markM k ts).length = ts.length := by
  induction ts with
  | nil => intro k; rfl
  | cons t ts ih => intro k; simp [markM, ih]
theorem markM_get (ts : List Tm) (k j : Nat) (h : j < ts.length) : (markM k ts)[j]'(by rw [markM_length]; exact h) = ts[j].mark (k + cntM (ts.take j)) := by
  have := markM_at ts k j
  rw [List.getElem?_eq_getElem h, List.getElem?_eq_getElem (by rw [markM_length]; exact h)] at this
  simpa using this
/-- One cell of the marked terms. -/
theorem markM_cell (ts : List Tm) (k j i : Nat) (h : j < ts.length) (hi : i < 9) : (flatTm (markM k ts))[j * 9 + i]? = ((ts[j].mark (k + cntM (ts.take j))).ds)[i]? := by
  rw [flatTm_at _ j i (by rw [markM_length]; exact h) hi, markM_get ts k j h]

/-- What cell i holds when it is marked: a slice stays where it was. -/
def cellD (V : Nat → Value) (es : List D) (i : Nat) : Value := match es[i]? with
  | some (.cell u) => u
  | _ => V i
/-- m cells of a row of structs are turned into es, the others are as they were. -/
structure MInvD (w0 w wr : World) (T : TypeId) (N b L : Nat) (V : Nat → Value) (G : Nat → Nat → Prop) (F : Nat → Prop) (es : List D) (m : Nat) : Prop where
  blk : ∃ cur : Array Value, wr.heap[b]? = some (.cells cur T (0, 0)) ∧ cur.size = L ∧ ∀ i, i < N → cur[i]? = some (if i < m then cellD V es i else V i)
  done : ∀ i d, i < m → es[i]? = some d → DO wr d (cellD V es i) (G i)
  rest : ∀ i, m ≤ i → i < N → Stays (G i) w0 wr
  but : But F w wr
section
variable {w0 w wr w2 : World} {T : TypeId} {N b L : Nat} {V : Nat → Value} {G : Nat → Nat → Prop} {F : Nat → Prop} {es : List D} {m : Nat}
theorem MInvD.lt (h : MInvD w0 w wr T N b L V G F es m) : b < wr.heap.size := by
  obtain ⟨cur, hb, _, _⟩ := h.blk
  exact blk_lt hb
theorem MInvD.cell (h : MInvD w0 w wr T N b L V G F es m) {i : Nat} (hi : i < N) : wr.cell? ⟨b, i, none⟩ = some (if i < m then cellD V es i else V i) := by
  obtain ⟨cur, hb, _, hc⟩ := h.blk
  rw [cell_of_blk hb]
  exact hc i hi
theorem MInvD.frozen (h : MInvD w0 w wr T N b L V G F es m) (i : Nat) : wr.frozen? ⟨b, i, none⟩ = false := by
  obtain ⟨cur, hb, _, _⟩ := h.blk
  exact unfrozen_of_blk hb i
theorem MInvD.below (h : MInvD w0 w wr T N b L V G F es m) (hb : Below wr.heap.size wr w2) : MInvD w0 w w2 T N b L V G F es m := by
  obtain ⟨cur, h1, h2, h3⟩ := h.blk
  exact ⟨⟨cur, (hb.block b (blk_lt h1)).trans h1, h2, h3⟩, fun i d hi hd => (h.done i d hi hd).keep hb, fun i h1 h2 => (h.rest i h1 h2).trans (.of_below hb),
    ⟨Nat.le_trans h.but.size hb.size, fun x hx hn => (hb.block x (Nat.lt_of_lt_of_le hx h.but.size)).trans (h.but.kept x hx hn), fun base h1 h2 => (h.but.below base h1 h2).trans (hb.mono (Nat.le_trans h1 h.but.size))⟩⟩
/-- The next cell is written. -/
theorem MInvD.set (h : MInvD w0 w wr T N b L V G F es m) (hF : F b) (hG : ∀ i z, i < N → G i z → F z ∧ z ≠ b) (hm : m < N) (hL : N ≤ L) {u : Value} (he : es[m]? = some (.cell u)) : MInvD w0 w (wr.setCell ⟨b, m, none⟩ u) T N b L V G F es (m + 1) := by
  obtain ⟨cur, h1, h2, h3⟩ := h.blk
  have st : ∀ i, i < N → Stays (G i) wr (wr.setCell ⟨b, m, none⟩ u) := fun i hi => setCell_stays wr b m u (G i) (fun e => (hG i b hi e).2 rfl)
  have hu : cellD V es m = u := by unfold cellD; rw [he]
  refine ⟨⟨cur.setIfInBounds m u, Go.Joins.block_setCell h1 _, by simpa using h2, fun i hi => ?_⟩, fun i d hi hd => ?_, fun i a1 a2 => (h.rest i (by omega) a2).trans (st i a2), h.but.set hF _ _⟩
  · rw [Array.getElem?_setIfInBounds]
    by_cases e : m = i
    · subst e
      rw [if_pos rfl, if_pos (by omega), if_pos (by omega), hu]
    · rw [if_neg e, h3 i hi]
      by_cases e2 : i < m
      · rw [if_pos e2, if_pos (by omega)]
      · rw [if_neg e2, if_neg (by omega)]
  · by_cases e : i = m
    · subst e
      rw [he] at hd
      obtain rfl := Option.some.inj hd
      rw [hu]
      exact .cell _ _
    · exact (h.done i d (by omega) hd).stays (st i (by omega))
/-- The next cell is a slice, whose rows have been turned. -/
theorem MInvD.call (h : MInvD w0 w wr T N b L V G F es m) (hG : ∀ i z, i < N → G i z → F z ∧ z ≠ b) (hd : ∀ i j z, i < N → j < N → i ≠ j → G i z → G j z → False) (hm : m < N) {d : D} (he : es[m]? = some d) (hv : cellD V es m = V m)
    (hO : DO w2 d (V m) (G m)) (hB : But (G m) wr w2) : MInvD w0 w w2 T N b L V G F es (m + 1) := by
  obtain ⟨cur, h1, h2, h3⟩ := h.blk
  have st : ∀ i, i < N → i ≠ m → Stays (G i) wr w2 := fun i hi hne => hB.stays (fun x h1 h2 => hd m i x hm hi (fun e => hne e.symm) h1 h2)
  refine ⟨⟨cur, (hB.kept b (blk_lt h1) (fun e => (hG m b hm e).2 rfl)).trans h1, h2, fun i hi => ?_⟩, fun i x hi hx => ?_, fun i a1 a2 => (h.rest i (by omega) a2).trans (st i a2 (by omega)), h.but.trans (hB.mono (fun x hx => (hG m x hm hx).1))⟩
  · rw [h3 i hi]
    by_cases e : i = m
    · subst e
      rw [if_neg (by omega), if_pos (by omega), hv]
    · by_cases e2 : i < m
      · rw [if_pos e2, if_pos (by omega)]
      · rw [if_neg e2, if_neg (by omega)]
  · by_cases e : i = m
    · subst e
      rw [he] at hx
      obtain rfl := Option.some.inj hx
      rw [hv]
      exact hO
    · exact (h.done i x (by omega) hx).stays (st i (by omega) e)
theorem MInvD.all {k n c : Nat} (h : MInvD w0 w wr T (n * k) b (c * k) V G F es (n * k)) (hF : F b) (hl : es.length = n * k) (hn : n ≤ c) (hm : c ≤ maxLen) (hG : ∀ i z, i < n * k → G i z → F z ∧ z ≠ b)
    (hd : ∀ i j z, i < n * k → j < n * k → i ≠ j → G i z → G j z → False) : DO wr (.rows T k n es) (.slice (some ⟨b, 0, none⟩) n c) F := by
  obtain ⟨cur, h1, h2, h3⟩ := h.blk
  exact .rows cur (cellD V es) G h1 h2 hn hm hl hF (fun i hi => by rw [h3 i hi, if_pos hi]) (fun i d hi => h.done i d (ds_lt hi hl) hi) hG hd
end

def MarkedM (ts : List Tm) (v : Value) (F : Nat → Prop) (k : Nat) (w : World) (e : Ending) (w' : World) : Prop :=
  e = .returned (.int .i64 ((k + cntM ts : Nat) : Int)) ∧ DO w' (tmD (markM k ts)) v F ∧ But F w w'
/-- The laws' markTypeS at data. -/
theorem markD_any {w0 : World} {F : Nat → Prop} {ts : List Ty} {v : Value} (h : DO w0 (tyD ts) v F) (w : World) (k : Nat) (hs : Stays F w0 w) (hn : k + nodesS ts ≤ 1099511627776) :
    Calls Tryd.prog 65 #[v, .int .i64 k] w fun e w' => e = .returned (.int .i64 ((k + nodesS ts : Nat) : Int)) ∧ DO w' (tyD (markS k ts)) v F ∧ But F w w' :=
  (markS_any (DO.os _ (Nat.le_refl _) h) w k hs hn).mono fun _ _ ⟨h1, h2, h3⟩ => ⟨h1, h2.dO, h3⟩
end Go.Proofs.YtdfnjfelmfccjaaDoor
/- TmMark2: The contracts of the laws' markTermS, markTerm, heldTermS, heldTerm (gentmm.py writes this text). -/
namespace Go.Proofs.YtdfnjfelmfccjaaDoor
open Go Go.RowKit

/-- The nine cells of a marked term. -/
theorem marked9 (ts : List Tm) (k j n : Nat) (h : j < ts.length) (hn : n = k + cntM (ts.take j)) :
    (flatTm (markM k ts))[j * 9]? = some (.cell (.int .i64 (n : Int))) ∧ (flatTm (markM k ts))[j * 9 + 1]? = some (.cell (.string (mk (n + 1)))) ∧ (flatTm (markM k ts))[j * 9 + 2]? = some (.cell (.string (mk (n + 2)))) ∧
    (flatTm (markM k ts))[j * 9 + 3]? = some (.cell (.int .i64 ((n : Int) + 1 + 1 + 1))) ∧ (flatTm (markM k ts))[j * 9 + 4]? = some (.cell (.int .i64 ((n : Int) + 1 + 1 + 1 + 1))) ∧ (flatTm (markM k ts))[j * 9 + 5]? = some (tyD (markS (n + 5) ts[j].ty.args)) ∧
    (flatTm (markM k ts))[j * 9 + 6]? = some (.cell (.int .i64 ((n + 5 + nodesS ts[j].ty.args : Nat) : Int))) ∧ (flatTm (markM k ts))[j * 9 + 7]? = some (tyD (markS (n + 6 + nodesS ts[j].ty.args) ts[j].res.args)) ∧
    (flatTm (markM k ts))[j * 9 + 8]? = some (tmD (markM (n + 6 + nodesS ts[j].ty.args + nodesS ts[j].res.args) ts[j].args)) := by
  have key := fun i (hi : i < 9) => markM_cell ts k j i h hi
  rw [← hn, Tm.ds_eq, tm_mark_eq] at key
  rw [show ((n : Int) + 1 + 1 + 1) = ((n + 3 : Nat) : Int) by omega, show (((n + 3 : Nat) : Int) + 1) = ((n + 4 : Nat) : Int) by omega]
  refine ⟨key 0 (by omega), key 1 (by omega), key 2 (by omega), key 3 (by omega), key 4 (by omega), key 5 (by omega), key 6 (by omega), key 7 (by omega), key 8 (by omega)⟩
theorem cellD_slice {V : Nat → Value} {es : List D} {i : Nat} {T : TypeId} {k n : Nat} {ds : List D} (h : es[i]? = some (.rows T k n ds)) : cellD V es i = V i := by
  unfold cellD
  rw [h]
set_option maxRecDepth 100000 in
set_option maxHeartbeats 8000000 in
theorem markMS_row {w0 : World} {F : Nat → Prop} {ts : List Tm} {b c : Nat} {V : Nat → Value} {G : Nat → Nat → Prop} (cur : Array Value) (hblk : w0.heap[b]? = some (.cells cur 36 (0, 0))) (hsz : cur.size = c * 9) (hnc : ts.length ≤ c) (hm : c ≤ maxLen)
    (hF : F b) (hv : ∀ i, i < ts.length * 9 → cur[i]? = some (V i)) (hr : ∀ i d, (flatTm ts)[i]? = some d → DO w0 d (V i) (G i)) (hG : ∀ i z, i < ts.length * 9 → G i z → F z ∧ z ≠ b)
    (hd : ∀ i j z, i < ts.length * 9 → j < ts.length * 9 → i ≠ j → G i z → G j z → False)
    (IH : ∀ (j : Nat) (hj : j < ts.length) (W : World) (K : Nat), Stays (G (j * 9 + 8)) w0 W → 1 ≤ K → K + cntM ts[j].args ≤ 1099511627776 → Calls Tryd.prog 41 #[V (j * 9 + 8), .int .i64 K] W (MarkedM ts[j].args (V (j * 9 + 8)) (G (j * 9 + 8)) K W))
    (w : World) (k : Nat) (hst : Stays F w0 w) (hk : 1 ≤ k) (hn : k + cntM ts ≤ 1099511627776) :
    Calls Tryd.prog 41 #[.slice (some ⟨b, 0, none⟩) ts.length c, .int .i64 k] w (MarkedM ts (.slice (some ⟨b, 0, none⟩) ts.length c) F k w) := by
  have hlen := cntM_ge ts
  have hTY : ∀ (j : Nat) (hj : j < ts.length), DO w0 (tyD ts[j].ty.args) (V (j * 9 + 5)) (G (j * 9 + 5)) := fun j hj => hr _ _ (by rw [flatTm_at ts j 5 hj (by omega), Tm.ds_eq]; rfl)
  have hRE : ∀ (j : Nat) (hj : j < ts.length), DO w0 (tyD ts[j].res.args) (V (j * 9 + 7)) (G (j * 9 + 7)) := fun j hj => hr _ _ (by rw [flatTm_at ts j 7 hj (by omega), Tm.ds_eq]; rfl)
  have hAR : ∀ (j : Nat) (hj : j < ts.length), DO w0 (tmD ts[j].args) (V (j * 9 + 8)) (G (j * 9 + 8)) := fun j hj => hr _ _ (by rw [flatTm_at ts j 8 hj (by omega), Tm.ds_eq]; rfl)
  have HTY := Lib.hid hTY
  have HRE := Lib.hid hRE
  have HAR := Lib.hid hAR
  have HIH := Lib.hid IH
  have HG := Lib.hid hG
  have HD := Lib.hid hd
  have HM := Lib.hid hm
  have HNC := Lib.hid hnc
  have HF := Lib.hid hF
  have HL := Lib.hid (show (flatTm (markM k ts)).length = ts.length * 9 by rw [flatTm_len, markM_length])
  have HCL := Lib.hid (show ts.length * 9 ≤ c * 9 by omega)
  have H0 : Hid (MInvD w0 w w 36 (ts.length * 9) b (c * 9) V G F (flatTm (markM k ts)) 0) := Lib.hid ⟨⟨cur, (hst.2 b hF (blk_lt hblk)).trans hblk, hsz, fun i hi => by rw [if_neg (by omega)]; exact hv i hi⟩, fun i d hi => by omega, fun i _ hi => ⟨hst.1, fun x hx hl => hst.2 x (hG i x hi hx).1 hl⟩, But.refl F w⟩
  clear IH hr hG hd hm hF hv hblk hsz hnc hst hTY hRE hAR
  go_enter Tryd.func41, Tryd.ntmps41
  go_wp2_with fail
  go_loopw [1, 5] (fun q i wr => ∃ (j n : Nat), j ≤ ts.length ∧ i = .int .i64 j ∧ q = .int .i64 n ∧ n = k + cntM (ts.take j) ∧ MInvD w0 w wr 36 (ts.length * 9) b (c * 9) V G F (flatTm (markM k ts)) (j * 9)) (fun _ i _ => ts.length - (intOf i).toNat)
  case atStart => exact ⟨0, k, Nat.zero_le _, rfl, rfl, by simp [cntM], by rw [Nat.zero_mul]; exact H0.out⟩
  case round =>
    obtain ⟨j, n, hj, rfl, rfl, hn2, hinv⟩ := hrel
    have HI := Lib.hid hinv
    have HN := Lib.hid hn2
    have hnb : n ≤ 1099511627776 := by have := cntM_take_le ts j; omega
    clear hinv hn2
    by_cases hlj : j < ts.length
    · have hj9 : j * 9 + 9 ≤ ts.length * 9 := by omega
      have HJ9 := Lib.hid hj9
      obtain ⟨e0, e1, e2, e3, e4, e5, e6, e7, e8⟩ := marked9 ts k j n hlj HN.out
      have hc2 := cntM_take ts j hlj
      have hc3 := cntM_take_le ts (j + 1)
      have hcq := ts[j].cnt_eq
      have HC2 := Lib.hid hc2
      have HCQ := Lib.hid hcq
      have hbnd : n + 6 + nodesS ts[j].ty.args + nodesS ts[j].res.args + cntM ts[j].args ≤ 1099511627776 := by have := HN.out; omega
      clear hc2 hc3 hcq
      obtain ⟨p5, c5, f5⟩ := (HTY.out j hlj).form
      obtain ⟨p7, c7, f7⟩ := (HRE.out j hlj).form
      obtain ⟨p8, c8, f8⟩ := (HAR.out j hlj).form
      have F5 := Lib.hid f5
      have F7 := Lib.hid f7
      have F8 := Lib.hid f8
      have E0 := Lib.hid e0
      have E1 := Lib.hid e1
      have E2 := Lib.hid e2
      have E3 := Lib.hid e3
      have E4 := Lib.hid e4
      have E5 := Lib.hid e5
      have E6 := Lib.hid e6
      have E7 := Lib.hid e7
      have E8 := Lib.hid e8
      clear f5 f7 f8 e0 e1 e2 e3 e4 e5 e6 e7 e8
      have i0 : (0 : Int) ≤ (j : Int) := Int.natCast_nonneg _
      have i1 : (j : Int) < (ts.length : Int) := by omega
      have c0 := HI.out.cell (i := j * 9) (by omega)
      have kz := HI.out.frozen
      have HI1 := Lib.hid (HI.out.set HF.out HG.out (by omega) HCL.out E0.out)
      have HC1 := Lib.hid (markText_any (n + 1) (by omega) (by omega) (wr.setCell ⟨b, j * 9, none⟩ (.int .i64 (n : Int))))
      go_wp2_with fail
      refine HC1.out.mono ?_
      rintro e w1 ⟨rfl, hb1⟩
      have HI1b := Lib.hid (HI1.out.below hb1)
      clear c0 kz hb1
      have c1 := HI1b.out.cell (i := j * 9 + 1) (by omega)
      have kz := HI1b.out.frozen
      have HI2 := Lib.hid (HI1b.out.set HF.out HG.out (by omega) HCL.out E1.out)
      have HC2b := Lib.hid (markText_any (n + 2) (by omega) (by omega) (w1.setCell ⟨b, j * 9 + 1, none⟩ (.string (mk (n + 1)))))
      go_wp2_with fail
      refine HC2b.out.mono ?_
      rintro e w2 ⟨rfl, hb2⟩
      have HI2b := Lib.hid (HI2.out.below hb2)
      clear c1 kz hb2
      have hI3 : MInvD w0 w (w2.setCell ⟨b, j * 9 + 2, none⟩ (.string (mk (n + 2)))) 36 (ts.length * 9) b (c * 9) V G F (flatTm (markM k ts)) (j * 9 + 3) := HI2b.out.set HF.out HG.out (by omega) HCL.out E2.out
      have hI4 : MInvD w0 w ((w2.setCell ⟨b, j * 9 + 2, none⟩ (.string (mk (n + 2)))).setCell ⟨b, j * 9 + 3, none⟩ (.int .i64 ((n : Int) + 1 + 1 + 1))) 36 (ts.length * 9) b (c * 9) V G F (flatTm (markM k ts)) (j * 9 + 4) := hI3.set HF.out HG.out (by omega) HCL.out E3.out
      have hI5 : MInvD w0 w (((w2.setCell ⟨b, j * 9 + 2, none⟩ (.string (mk (n + 2)))).setCell ⟨b, j * 9 + 3, none⟩ (.int .i64 ((n : Int) + 1 + 1 + 1))).setCell ⟨b, j * 9 + 4, none⟩ (.int .i64 ((n : Int) + 1 + 1 + 1 + 1))) 36 (ts.length * 9) b (c * 9) V G F (flatTm (markM k ts)) (j * 9 + 5) := hI4.set HF.out HG.out (by omega) HCL.out E4.out
      have c2 := HI2b.out.cell (i := j * 9 + 2) (by omega)
      have c3 := HI2b.out.cell (i := j * 9 + 3) (by omega)
      have c4 := HI2b.out.cell (i := j * 9 + 4) (by omega)
      have c5' := HI2b.out.cell (i := j * 9 + 5) (by omega)
      rw [if_neg (by omega), F5.out] at c5'
      have kz := HI2b.out.frozen
      have hC5 := markD_any (HTY.out j hlj) _ (n + 5) (hI5.rest (j * 9 + 5) (by omega) (by omega)) (by omega)
      rw [F5.out, show ((n + 5 : Nat) : Int) = (n : Int) + 1 + 1 + 1 + 1 + 1 by omega] at hC5
      have HC5 := Lib.hid hC5
      have HI5 := Lib.hid hI5
      clear hI3 hI4 hI5 hC5
      go_wp2_with fail
      refine HC5.out.mono ?_
      rintro e w3 ⟨rfl, ho3, hb3⟩
      rw [← F5.out] at ho3
      have HI6 := Lib.hid (HI5.out.call HG.out HD.out (by omega) E5.out (cellD_slice E5.out) ho3 hb3)
      clear c2 c3 c4 c5' kz ho3 hb3
      have hI7 : MInvD w0 w (w3.setCell ⟨b, j * 9 + 6, none⟩ (.int .i64 ((n + 5 + nodesS ts[j].ty.args : Nat) : Int))) 36 (ts.length * 9) b (c * 9) V G F (flatTm (markM k ts)) (j * 9 + 7) := HI6.out.set HF.out HG.out (by omega) HCL.out E6.out
      have c6 := HI6.out.cell (i := j * 9 + 6) (by omega)
      have c7' := HI6.out.cell (i := j * 9 + 7) (by omega)
      rw [if_neg (by omega), F7.out] at c7'
      have kz := HI6.out.frozen
      have hC7 := markD_any (HRE.out j hlj) _ (n + 6 + nodesS ts[j].ty.args) (hI7.rest (j * 9 + 7) (by omega) (by omega)) (by omega)
      rw [F7.out, show ((n + 6 + nodesS ts[j].ty.args : Nat) : Int) = ((n + 5 + nodesS ts[j].ty.args : Nat) : Int) + 1 by omega] at hC7
      have HC7 := Lib.hid hC7
      have HI7 := Lib.hid hI7
      clear hI7 hC7
      go_wp2_with fail
      refine HC7.out.mono ?_
      rintro e w4 ⟨rfl, ho4, hb4⟩
      rw [← F7.out] at ho4
      have HI8 := Lib.hid (HI7.out.call HG.out HD.out (by omega) E7.out (cellD_slice E7.out) ho4 hb4)
      clear c6 c7' kz ho4 hb4
      have d8 := HI8.out.cell (i := j * 9 + 8) (by omega)
      rw [if_neg (by omega), F8.out] at d8
      have kz := HI8.out.frozen
      have hC8 := HIH.out j hlj w4 (n + 6 + nodesS ts[j].ty.args + nodesS ts[j].res.args) (HI8.out.rest (j * 9 + 8) (by omega) (by omega)) (by omega) (by omega)
      rw [F8.out] at hC8
      have HC8 := Lib.hid hC8
      clear hC8
      go_wp2_with fail
      refine HC8.out.mono ?_
      rintro e w5 ⟨rfl, ho5, hb5⟩
      rw [← F8.out] at ho5
      have HI9 := Lib.hid (HI8.out.call HG.out HD.out (by omega) E8.out (cellD_slice E8.out) ho5 hb5)
      clear d8 kz ho5 hb5
      go_wp2_with fail
      go_roundw
      case rel =>
        refine ⟨j + 1, n + 6 + nodesS ts[j].ty.args + nodesS ts[j].res.args + cntM ts[j].args, by omega, by go_num, rfl, by have := HC2.out; have := HCQ.out; have := HN.out; omega, ?_⟩
        rw [show (j + 1) * 9 = j * 9 + 8 + 1 by omega]
        exact HI9.out
      case measure => simp [intOf]; omega
    · obtain rfl : j = ts.length := by omega
      go_wp2_with fail
      go_ret
      have h1 := HN.out
      rw [List.take_length] at h1
      subst h1
      refine ⟨rfl, ?_, HI.out.but⟩
      have key := HI.out.all HF.out HL.out HNC.out HM.out HG.out HD.out
      show DO wr (.rows 36 9 (markM k ts).length (flatTm (markM k ts))) _ F
      rw [markM_length]
      exact key
set_option maxRecDepth 100000 in
theorem markMS_nil (F : Nat → Prop) (w : World) (k : Nat) : Calls Tryd.prog 41 #[.slice none 0 0, .int .i64 k] w (MarkedM [] (.slice none 0 0) F k w) := by
  go_enter Tryd.func41, Tryd.ntmps41
  go_wp2_with fail
  go_loopw [1, 5] (fun q i wr => q = .int .i64 k ∧ i = .int .i64 0 ∧ wr = w) (fun _ _ _ => 0)
  case atStart => exact ⟨rfl, rfl, rfl⟩
  case round =>
    obtain ⟨rfl, rfl, rfl⟩ := hrel
    go_wp2_with fail
    go_ret
    exact ⟨by simp [cntM], .nil _ _ F, But.refl F _⟩
/-- THE LAWS' markTermS. -/
theorem markMS_any : ∀ (M : Nat) {w0 : World} {F : Nat → Prop} {ts : List Tm} {v : Value}, nodesM ts ≤ M → DO w0 (tmD ts) v F → ∀ (w : World) (k : Nat), Stays F w0 w → 1 ≤ k → k + cntM ts ≤ 1099511627776 →
    Calls Tryd.prog 41 #[v, .int .i64 k] w (MarkedM ts v F k w)
  | M, w0, F, ts, v, hM, h, w, k, hst, hk, hn => by
    rcases h.inv with ⟨h0, _, rfl⟩ | ⟨b, c, cur, V, G, rfl, hblk, hsz, hnc, hm, hl, hF, hv, hr, hG, hd⟩
    · obtain rfl := List.eq_nil_of_length_eq_zero h0
      exact markMS_nil F w k
    · refine markMS_row cur hblk hsz hnc hm hF hv hr hG hd (fun j hj W K hs h1 hb => ?_) w k hst hk hn
      have hle := nodesM_at ts j hj
      rw [Tm.nodes_eq] at hle
      match M, hM with
      | 0, hM => omega
      | M + 1, hM => exact markMS_any M (by omega) (hr _ _ (by rw [flatTm_at ts j 8 hj (by omega), Tm.ds_eq]; rfl)) W K hs h1 hb
end Go.Proofs.YtdfnjfelmfccjaaDoor
/- Cf: A term's or type's fields, where its form is written out. -/
namespace Go.Proofs.YtdfnjfelmfccjaaDoor
open Go

section
variable (k n : Int) (a o : ByteArray) (t r : Ty) (ts : List Tm) (us : List Ty)
theorem cKind : (Tm.mk k a o n t r ts).kind = k := rfl
theorem cName : (Tm.mk k a o n t r ts).name = a := rfl
theorem cOther : (Tm.mk k a o n t r ts).other = o := rfl
theorem cN : (Tm.mk k a o n t r ts).n = n := rfl
theorem cTy : (Tm.mk k a o n t r ts).ty = t := rfl
theorem cRes : (Tm.mk k a o n t r ts).res = r := rfl
theorem cArgs : (Tm.mk k a o n t r ts).args = ts := rfl
theorem yKind : (Ty.mk k us).kind = k := rfl
theorem yArgs : (Ty.mk k us).args = us := rfl
end
end Go.Proofs.YtdfnjfelmfccjaaDoor
/- TmHeld: The contracts of the laws' markTerm, heldTermS, heldTerm (gentmh.py writes this text). -/
namespace Go.Proofs.YtdfnjfelmfccjaaDoor
open Go Go.RowKit

theorem But.of_below {F : Nat → Prop} {w w' : World} (h : Below w.heap.size w w') : But F w w' :=
  ⟨h.size, fun x hx _ => h.block x hx, fun _ hb _ => h.mono hb⟩
theorem keep_bothM {w W w1 : World} {p : Addr} {v : Value} (hb1 : Below W.heap.size W w1) (h : W.cell? p = some v ∧ Below w.heap.size w W) : w1.cell? p = some v ∧ Below w.heap.size w w1 :=
  ⟨(hb1.cell (World.block_lt_of_cell? W p h.1)).trans h.1, h.2.trans (hb1.mono h.2.size)⟩
/-- The numbers that a term's parts take; the term with its parts marked. -/
def Tm.cntT (t : Tm) : Nat := nodesS t.ty.args + nodesS t.res.args + cntM t.args
def Tm.markT (k : Nat) (t : Tm) : Tm := .mk t.kind t.name t.other t.n (.mk t.ty.kind (markS k t.ty.args)) (.mk t.res.kind (markS (k + nodesS t.ty.args) t.res.args)) (markM (k + nodesS t.ty.args + nodesS t.res.args) t.args)
theorem Tm.cntT_wt (t : Tm) : t.cntT ≤ 6 * t.wt := by
  have := t.cnt_wt
  rw [t.cnt_eq] at this
  unfold Tm.cntT
  omega
theorem OSt.parts9 {w : World} {t : Tm} {tp rp p : Option Addr} {tc rc c : Nat} {F : Nat → Prop} (h : OSt w t.ds (tmL t tp tc rp rc p c) F) : ∃ F1 F2 F3 : Nat → Prop, OS w t.ty.args (.slice tp t.ty.args.length tc) F1 ∧ OS w t.res.args (.slice rp t.res.args.length rc) F2 ∧ DO w (tmD t.args) (.slice p t.args.length c) F3 ∧
    (∀ z, F1 z → F z ∧ ¬ F2 z ∧ ¬ F3 z ∧ z < w.heap.size) ∧ (∀ z, F2 z → F z ∧ ¬ F3 z ∧ z < w.heap.size) ∧ (∀ z, F3 z → F z ∧ z < w.heap.size) := by
  obtain ⟨hl, G, h1, h2, h3⟩ := h
  rw [t.ds_len] at h2 h3
  rw [t.ds_eq] at h1
  refine ⟨_, _, _, DO.os _ (Nat.le_refl _) (h1 5 _ _ rfl rfl).inHeap, DO.os _ (Nat.le_refl _) (h1 7 _ _ rfl rfl).inHeap, (h1 8 _ _ rfl rfl).inHeap, fun z hz => ⟨h2 5 z (by omega) hz.1, fun e => h3 5 7 z (by omega) (by omega) (by omega) hz.1 e.1, fun e => h3 5 8 z (by omega) (by omega) (by omega) hz.1 e.1, hz.2⟩,
    fun z hz => ⟨h2 7 z (by omega) hz.1, fun e => h3 7 8 z (by omega) (by omega) (by omega) hz.1 e.1, hz.2⟩, fun z hz => ⟨h2 8 z (by omega) hz.1, hz.2⟩⟩
theorem Bx9.but {F : Nat → Prop} {w w' : World} {b : Nat} {t : Tm} {tp rp p : Option Addr} {tc rc c : Nat} (h : Bx9 w b t tp tc rp rc p c) (hb : But F w w') (hn : ¬ F b) : Bx9 w' b t tp tc rp rc p c := h.at (hb.kept b h.lt hn)
set_option maxRecDepth 100000 in
set_option maxHeartbeats 4000000 in
/-- THE LAWS' markTerm. -/
theorem markTm_any {F : Nat → Prop} {t : Tm} {v : Value} {w : World} (h : OMv w t v F) (k : Nat) (hk : 1 ≤ k) (hn : k + t.cntT ≤ 1099511627776) :
    Calls Tryd.prog 15 #[v, .int .i64 k] w (fun e w' => e = .returned (.int .i64 ((k + t.cntT : Nat) : Int)) ∧ OMv w' (t.markT k) v F ∧ But F w w') := by
  obtain ⟨tp, tc, rp, rc, p, c, rfl, h⟩ := h
  obtain ⟨F1, F2, F3, o1, o2, o3, a1, a2, a3⟩ := h.parts9
  unfold Tm.cntT at hn
  have hb0 := al_below w (.cells (tmC t tp tc rp rc p c) 36)
  have HX0 := Lib.hid (Bx9.new w t tp tc rp rc p c 36)
  have HA1 := Lib.hid a1
  have HA2 := Lib.hid a2
  have HA3 := Lib.hid a3
  have hC5 := markT_any (t := t.ty) ⟨_, rfl, o1.keep hb0⟩ k (by omega)
  have HC5 := Lib.hid hC5
  have HO2 := Lib.hid (o2.keep hb0)
  have HO3 := Lib.hid (o3.keep hb0)
  have HB0 := Lib.hid hb0
  clear h o1 o2 o3 a1 a2 a3 hb0 hC5
  go_enter Tryd.func15, Tryd.ntmps15
  go_wp2_with fail
  refine HC5.out.mono ?_
  rintro e w1 ⟨rfl, ho1, wA, hbA, hbt⟩
  have hB1 := (But.of_below (F := F1) hbA).trans hbt
  obtain ⟨s1, hs1, ho1⟩ := ho1
  have hx1 := HX0.out.but hB1 (fun e => by have := (HA1.out _ e).2.2.2; omega)
  have ho2 := HO2.out.stays (hB1.stays (fun x h1 h2 => (HA1.out x h1).2.1 h2))
  have ho3 := HO3.out.stays (hB1.stays (fun x h1 h2 => (HA1.out x h1).2.2.1 h2))
  have HB1 := Lib.hid ((But.of_below (F := F) HB0.out).trans (hB1.mono (fun z hz => (HA1.out z hz).1)))
  have HO1 := Lib.hid ho1
  have HO3b := Lib.hid ho3
  have HX1 := Lib.hid hx1
  have HS1 := Lib.hid hs1
  have HC7 := Lib.hid (markT_any (t := t.res) ⟨_, rfl, ho2⟩ (k + nodesS t.ty.args) (by omega))
  obtain ⟨g0, g1, g2, g3, g4, g5, g6, g7, g8⟩ := hx1
  clear hbA hbt hB1 ho1 ho2 ho3 hs1 HO2 HO3 HX0
  go_wp2_with fail
  refine HC7.out.mono ?_
  rintro e w2 ⟨rfl, ho2, wA, hbA, hbt⟩
  have hB2 := (But.of_below (F := F2) hbA).trans hbt
  obtain ⟨s2, hs2, ho2⟩ := ho2
  have hx2 := HX1.out.but hB2 (fun e => by have := (HA2.out _ e).2.2; omega)
  have ho1 := HO1.out.stays (hB2.stays (fun x h1 h2 => (HA1.out x h2).2.1 h1))
  have ho3 := HO3b.out.stays (hB2.stays (fun x h1 h2 => (HA2.out x h1).2.1 h2))
  have HB2 := Lib.hid (HB1.out.trans (hB2.mono (fun z hz => (HA2.out z hz).1)))
  have HO1b := Lib.hid ho1
  have HO2 := Lib.hid ho2
  have HS2 := Lib.hid hs2
  have HC8 := Lib.hid (markMS_any _ (Nat.le_refl _) ho3 w2 (k + nodesS t.ty.args + nodesS t.res.args) ⟨Nat.le_refl _, fun _ _ _ => rfl⟩ (by omega) (by omega))
  clear g0 g1 g2 g3 g4 g5 g6 g7 g8
  obtain ⟨g0, g1, g2, g3, g4, g5, g6, g7, g8⟩ := hx2
  clear hbA hbt hB2 ho1 ho2 ho3 hs2 HO1 HO3b HX1
  go_wp2_with fail
  refine HC8.out.mono ?_
  rintro e w3 ⟨rfl, ho3, hb3⟩
  have HB3 := Lib.hid (HB2.out.trans (hb3.mono (fun z hz => (HA3.out z hz).1)))
  have HO3 := Lib.hid ho3
  have HO1c := Lib.hid (HO1b.out.stays (hb3.stays (fun x h1 h2 => (HA1.out x h2).2.2.1 h1)))
  have HO2c := Lib.hid (HO2.out.stays (hb3.stays (fun x h1 h2 => (HA2.out x h2).2.1 h1)))
  clear g0 g1 g2 g3 g4 g5 g6 g7 g8 ho3 hb3
  go_wp2_with fail
  go_ret
  have e1 : s1 = .slice tp t.ty.args.length tc := by have := HS1.out; simp at this; exact this.symm
  have e2 : s2 = .slice rp t.res.args.length rc := by have := HS2.out; simp at this; exact this.symm
  have q1 := HO1c.out
  have q2 := HO2c.out
  have q3 := HO3.out
  rw [e1] at q1
  rw [e2] at q2
  have l1 : (t.markT k).ty.args.length = t.ty.args.length := by simp [Tm.markT, cTy, markS_length]
  have l2 : (t.markT k).res.args.length = t.res.args.length := by simp [Tm.markT, cRes, markS_length]
  have l3 : (t.markT k).args.length = t.args.length := by simp [Tm.markT, cArgs, markM_length]
  have e0 : (k : Int) + (nodesS t.ty.args : Int) + (nodesS t.res.args : Int) + (cntM t.args : Int) = ((k + t.cntT : Nat) : Int) := by unfold Tm.cntT; omega
  refine ⟨congrArg (fun z => Ending.returned (Value.int IntKind.i64 z)) e0, ⟨tp, tc, rp, rc, p, c, ?_, ?_⟩, HB3.out⟩
  · unfold tmV
    rw [l1, l2, l3]
    rfl
  · refine OSt9 (F1 := F1) (F2 := F2) (F3 := F3) ?_ ?_ ?_ (fun z hz => ⟨(HA1.out z hz).1, (HA1.out z hz).2.1, (HA1.out z hz).2.2.1⟩) (fun z hz => ⟨(HA2.out z hz).1, (HA2.out z hz).2.1⟩) (fun z hz => (HA3.out z hz).1)
    · rw [l1]; exact q1
    · rw [l2]; exact q2
    · rw [l3]; exact q3
#print axioms markTm_any
end Go.Proofs.YtdfnjfelmfccjaaDoor
/- Copy: The contract of the laws' toStringS: a new slice with the same strings. -/
namespace Go.Proofs.YtdfnjfelmfccjaaDoor
open Go Go.RowKit

theorem infoStr : (Tryd.prog.info? 9).map (fun i => (i.zero, i.size, i.bytes)) = some (some (.string ⟨#[]⟩), 1, 16) := by kernel_rfl

def Filled (xs : List ByteArray) (k : Nat) : List Value := (xs.take k).map Value.string ++ List.replicate (xs.length - k) (.string ⟨#[]⟩)
theorem filled_zero (xs : List ByteArray) : Filled xs 0 = List.replicate xs.length (.string ⟨#[]⟩) := by simp [Filled]
theorem filled_all (xs : List ByteArray) : Filled xs xs.length = xs.map Value.string := by simp [Filled]
theorem filled_step (xs : List ByteArray) (k : Nat) (h : k < xs.length) : (Filled xs k).set k (.string xs[k]) = Filled xs (k + 1) := by
  have e : (xs.take (k + 1)).map Value.string = (xs.take k).map Value.string ++ [Value.string xs[k]] := by
    rw [List.take_add_one, List.getElem?_eq_getElem h, List.map_append]; rfl
  have hl : ((xs.take k).map Value.string).length = k := by rw [List.length_map, List.length_take]; omega
  unfold Filled
  rw [e, show xs.length - k = (xs.length - (k + 1)) + 1 by omega, List.replicate_succ, List.set_append_right _ _ (by omega), hl, Nat.sub_self, List.set_cons_zero, List.append_assoc]
  rfl

theorem filled_at (xs : List ByteArray) (k : Nat) (h : k < xs.length) : (Filled xs k)[k]? = some (.string ⟨#[]⟩) := by
  have hl : ((xs.take k).map Value.string).length = k := by rw [List.length_map, List.length_take]; omega
  unfold Filled
  rw [List.getElem?_append_right (by omega), hl, Nat.sub_self, show xs.length - k = (xs.length - (k + 1)) + 1 by omega, List.replicate_succ]
  rfl

end Go.Proofs.YtdfnjfelmfccjaaDoor
/- AppS: Appending one string to a slice of strings that the call made itself, at the operation. -/
namespace Go.Proofs.YtdfnjfelmfccjaaDoor
open Go Go.RowKit

/-- The slice v is a row of the call's own (from block base on) with just the strings xs. -/
def Own (w : World) (base : Nat) (v : Value) (xs : List ByteArray) : Prop := w.ownsRow base 9 1 v xs.length (xs.map Value.string)
theorem Own.ss {w : World} {base : Nat} {v : Value} {xs : List ByteArray} (h : Own w base v xs) : SS w v xs := SS_of_row h
theorem Own.below {w w' : World} {base : Nat} {v : Value} {xs : List ByteArray} (h : Own w base v xs) (hb : Below w.heap.size w w') : Own w' base v xs := ownsRow_below h hb
theorem own_nil (w : World) (base : Nat) : Own w base (.slice none 0 0) [] := ⟨rfl, Or.inl ⟨rfl, rfl⟩⟩
theorem own_empty (w : World) : Own (w.alloc (.cells #[] 9)) w.heap.size (.slice (some ⟨w.heap.size, 0, none⟩) 0 0) [] :=
  World.ownsRow_lit w #[] 0 (Nat.le_refl _) (Nat.zero_le _) rfl

theorem wpList_app_str {w0 : World} {ops : Array Oper} {rest : List Oper} {o : Oper} {a : Act} {Q : Exit → Act → World → Prop} (hgd : o.guard = none) (s x : Operand)
    (ho : o.op = .call { callee := .builtin .append, args := #[s, x], argTypes := #[29, 29] })
    (base : Nat) (v : Value) (xs : List ByteArray) (hs : a.eval s = v) (hown : Own w0 base v xs) (y : ByteArray)
    (hx : a.eval x = .slice (some ⟨w0.heap.size, 0, none⟩) 1 1) (hlen : xs.length ≤ 8388608) (hbase : base ≤ w0.heap.size)
    (h : ∀ v' w', Own w' base v' (xs ++ [y]) → Below base w0 w' → wpList Tryd.prog ops Q rest (a.put o.dst v') w') :
    wpList Tryd.prog ops Q (o :: rest) a (w0.alloc (.cells #[.string y] 9)) := by
  obtain ⟨i0, hi, hz0, hz1, hz2⟩ := info_parts infoStr
  have hown1 := hown.below ((Below.refl w0.heap.size w0).alloc (Nat.le_refl _) (.cells #[.string y] 9))
  refine wpList_append_own _ hgd s x 29 ho base 9 i0 (.string ⟨#[]⟩) 1 16 Tryd.underlying29 hi hz0 hz1 hz2 rfl (by decide) v xs.length (xs.map Value.string) hs hown1
    ⟨w0.heap.size, 0, none⟩ 1 1 [.string y] hx rfl (cell_one_new _ _ _) (fun u hu => by simp at hu; subst hu; rfl) (by unfold maxLen; omega) (by omega) (by simp; omega) ?_
  intro v' w' hown' hg _
  refine h v' w' ?_ ?_
  · have e : (xs ++ [y]).map Value.string = xs.map Value.string ++ [Value.string y] := by simp
    have e1 : (xs ++ [y]).length = xs.length + 1 := by simp
    unfold Own
    rw [e, e1]
    exact hown'
  · exact ((Below.refl base w0).alloc hbase _).grown hg (by simp; omega) (fun k hk => (hown1.lt k hk).1)
end Go.Proofs.YtdfnjfelmfccjaaDoor
/- MarkRow: Marking a slice of strings that is a call's own, empty or not, and what stays as it was: every other block. -/
namespace Go.Proofs.YtdfnjfelmfccjaaDoor
open Go Go.RowKit

/-- Every block but the row's own is as it was. -/
def ButV (v : Value) (w w' : World) : Prop := w.heap.size ≤ w'.heap.size ∧ ∀ k, k < w.heap.size → v.ownBlock ≠ some k → w'.heap[k]? = w.heap[k]?
theorem ButV.refl (v : Value) (w : World) : ButV v w w := ⟨Nat.le_refl _, fun _ _ _ => rfl⟩
theorem ButV.below {v : Value} {w w1 w' : World} (h : ButV v w w1) (hb : Below w1.heap.size w1 w') : ButV v w w' :=
  ⟨Nat.le_trans h.1 hb.size, fun k hk hne => (hb.block k (Nat.lt_of_lt_of_le hk h.1)).trans (h.2 k hk hne)⟩
theorem ButV.setCell {g n c j : Nat} {w w1 : World} (h : ButV (.slice (some ⟨g, 0, none⟩) n c) w w1) (u : Value) : ButV (.slice (some ⟨g, 0, none⟩) n c) w (w1.setCell ⟨g, j, none⟩ u) := by
  have hk : ∀ k, k ≠ g → (w1.setCell ⟨g, j, none⟩ u).heap[k]? = w1.heap[k]? := by
    intro k hk
    unfold World.setCell
    split
    all_goals
      show (w1.heap.modify g _)[k]? = _
      rw [Array.getElem?_modify, if_neg (fun e => hk e.symm)]
  refine ⟨Nat.le_trans h.1 ((Below.refl g w1).setCell (p := ⟨g, j, none⟩) (Nat.le_refl _) u).size, fun k hlt hne => ?_⟩
  rw [hk k (fun e => hne (by rw [e]; rfl))]
  exact h.2 k hlt hne

theorem Own.but {w w' : World} {base : Nat} {u v : Value} {xs : List ByteArray} (h : Own w base v xs) (hne : ∀ g, v.ownBlock = some g → u.ownBlock ≠ some g) (hb : ButV u w w') : Own w' base v xs := by
  refine ⟨h.1, ?_⟩
  rcases h.2 with h0 | ⟨g, cap, cur, rfl, hg, hblk, h1, h2, h3, h4⟩
  · exact Or.inl h0
  · refine Or.inr ⟨g, cap, cur, rfl, hg, ?_, h1, h2, h3, h4⟩
    rw [hb.2 g (h.lt g rfl).2 (hne g rfl)]; exact hblk

set_option maxRecDepth 100000 in
set_option maxHeartbeats 1000000 in
theorem mark_blk (xs : List ByteArray) (g cap : Nat) (K : Nat) (w : World) (base : Nat) (hK : 1 ≤ K) (hn : K + xs.length ≤ 9223372036854775807) (h : w.ownsRow base 9 1 (.slice (some ⟨g, 0, none⟩) xs.length cap) xs.length (xs.map Value.string)) :
    Calls Tryd.prog 16 #[.slice (some ⟨g, 0, none⟩) xs.length cap, .int .i64 K] w fun e w' => e = .returned (.int .i64 ((K + xs.length : Nat) : Int)) ∧
      w'.ownsRow base 9 1 (.slice (some ⟨g, 0, none⟩) xs.length cap) xs.length ((marks K xs.length).map Value.string) ∧ Below g w w' ∧ ButV (.slice (some ⟨g, 0, none⟩) xs.length cap) w w' := by
  have HO : Hid (w.ownsRow base 9 1 (.slice (some ⟨g, 0, none⟩) xs.length cap) xs.length (Marked xs K 0)) := Lib.hid (by rw [marked_zero]; exact h)
  have hg : g < w.heap.size := (h.lt g rfl).2
  clear h
  go_enter Tryd.func16, Tryd.ntmps16
  go_wp2_with fail
  go_loopw [1, 5] (fun q i wr => ∃ j : Nat, j ≤ xs.length ∧ i = .int .i64 j ∧ q = .int .i64 ((K + j : Nat) : Int) ∧ wr.ownsRow base 9 1 (.slice (some ⟨g, 0, none⟩) xs.length cap) xs.length (Marked xs K j) ∧ Below g w wr ∧ ButV (.slice (some ⟨g, 0, none⟩) xs.length cap) w wr) (fun _ i _ => xs.length - (intOf i).toNat)
  case atStart => exact ⟨0, Nat.zero_le _, rfl, rfl, HO.out, Below.refl _ _, ButV.refl _ _⟩
  case round =>
    obtain ⟨j, hj, rfl, rfl, hown, hbr, hbut⟩ := hrel
    have hgr : g < wr.heap.size := Nat.lt_of_lt_of_le hg hbr.size
    have HBU := Lib.hid hbut
    clear hbut
    by_cases hlj : j < xs.length
    · have HW := Lib.hid hown
      have HB := Lib.hid hbr
      clear hown hbr
      go_wp2_with fail
      refine (markText_any (K + j) (by omega) (by omega) wr).mono ?_
      rintro e w1 ⟨rfl, hb1⟩
      have hown1 := ownsRow_below HW.out hb1
      have c1 := (hown1.cellAt j (by omega)).trans (marked_at xs K j hlj)
      have z1 := hown1.frozenAt j
      have hst := hown1.stored j (.string (mk (K + j)))
      rw [marked_step xs K j hlj] at hst
      have HST := Lib.hid hst.1
      have HB1 := Lib.hid ((HB.out.trans (hb1.mono (Nat.le_of_lt hgr))).setCell (p := ⟨g, j, none⟩) (Nat.le_refl _) (.string (mk (K + j))))
      have HBU1 := Lib.hid ((HBU.out.below hb1).setCell (j := j) (.string (mk (K + j))))
      clear hst hown1 hb1
      go_wp2_with fail
      go_roundw
      case rel => exact ⟨j + 1, by omega, by go_num, by go_num, HST.out, HB1.out, HBU1.out⟩
      case measure => simp [intOf]; omega
    · obtain rfl : j = xs.length := by omega
      rw [marked_all] at hown
      have HW := Lib.hid hown
      clear hown
      go_wp2_with fail
      go_ret
      exact ⟨rfl, HW.out, hbr, HBU.out⟩

set_option maxRecDepth 100000 in
theorem mark_nil (K : Nat) (w : World) :
    Calls Tryd.prog 16 #[.slice none 0 0, .int .i64 K] w fun e w' => e = .returned (.int .i64 K) ∧ w' = w := by
  go_enter Tryd.func16, Tryd.ntmps16
  go_wp2_with fail
  go_loopw [1, 5] (fun q i wr => q = .int .i64 K ∧ i = .int .i64 0 ∧ wr = w) (fun _ _ _ => 0)
  case atStart => exact ⟨rfl, rfl, rfl⟩
  case round =>
    obtain ⟨rfl, rfl, rfl⟩ := hrel
    go_wp2_with fail
    go_ret
    exact ⟨rfl, rfl⟩

/-- Marking any row of the call's own. -/
theorem mark_row (xs : List ByteArray) (v : Value) (K : Nat) (w : World) (base : Nat) (hK : 1 ≤ K) (hn : K + xs.length ≤ 9223372036854775807) (h : Own w base v xs) :
    Calls Tryd.prog 16 #[v, .int .i64 K] w fun e w' => e = .returned (.int .i64 ((K + xs.length : Nat) : Int)) ∧
      SS w' v (marks K xs.length) ∧ Below base w w' ∧ ButV v w w' := by
  rcases h.2 with ⟨rfl, h0⟩ | ⟨g, cap, cur, rfl, hg, _⟩
  · obtain rfl : xs = [] := List.eq_nil_of_length_eq_zero h0
    exact (mark_nil K w).mono fun e w' ⟨he, hw⟩ => ⟨by simpa using he, Or.inl ⟨rfl, _, _, rfl⟩, by rw [hw]; exact Below.refl _ _, by rw [hw]; exact ButV.refl _ _⟩
  · exact (mark_blk xs g cap K w base hK hn h).mono fun e w' ⟨he, ho, hb, hbu⟩ => ⟨he, SS_of_row (n := xs.length) ho, hb.mono hg, hbu⟩
theorem mark_1 (xs : List ByteArray) (v : Value) (w : World) (base : Nat) (hn : xs.length ≤ 8388608) (h : Own w base v xs) :
    Calls Tryd.prog 16 #[v, .int .i64 1] w fun e w' => e = .returned (.int .i64 (1 + (xs.length : Int))) ∧ SS w' v (marks 1 xs.length) ∧ Below base w w' ∧ ButV v w w' := by
  have h1 := mark_row xs v 1 w base (Nat.le_refl _) (by omega) h
  rw [show ((1 + xs.length : Nat) : Int) = 1 + (xs.length : Int) by omega] at h1
  exact h1
theorem mark_2 (n : Nat) (xs : List ByteArray) (v : Value) (w : World) (base : Nat) (hn : n + xs.length ≤ 8388608) (h : Own w base v xs) :
    Calls Tryd.prog 16 #[v, .int .i64 (1 + (n : Int))] w fun e w' => e = .returned (.int .i64 (1 + (n : Int) + (xs.length : Int))) ∧ SS w' v (marks (1 + n) xs.length) ∧ Below base w w' ∧ ButV v w w' := by
  have h1 := mark_row xs v (1 + n) w base (by omega) (by omega) h
  rw [show ((1 + n + xs.length : Nat) : Int) = 1 + (n : Int) + (xs.length : Int) by omega, show ((1 + n : Nat) : Int) = 1 + (n : Int) by omega] at h1
  exact h1
theorem held_1 (n : Nat) (v : Value) (w : World) (hn : n ≤ 8388608) (h : SS w v (marks 1 n)) :
    Calls Tryd.prog 17 #[v, .int .i64 1] w fun e w' => e = .returned (.int .i64 (1 + (n : Int))) ∧ Below w.heap.size w w' := by
  have h1 := held_any n v 1 w (Nat.le_refl _) (by omega) h
  rw [show ((1 + n : Nat) : Int) = 1 + (n : Int) by omega] at h1
  exact h1
#print axioms mark_row
end Go.Proofs.YtdfnjfelmfccjaaDoor
/- Eqs: The contract of the laws' eqStringS at two slices of the same strings: true. -/
namespace Go.Proofs.YtdfnjfelmfccjaaDoor
open Go Go.RowKit

set_option maxRecDepth 100000 in
set_option maxHeartbeats 1000000 in
theorem eqs_some (xs : List ByteArray) (b o c b' o' c' : Nat) (w : World) (h1 : 1 ≤ xs.length) (hn : xs.length ≤ 9223372036854775807) (hb : b < w.heap.size) (hb' : b' < w.heap.size)
    (hcell : ∀ j x, xs[j]? = some x → w.cell? ⟨b, o + j, none⟩ = some (.string x)) (hcell' : ∀ j x, xs[j]? = some x → w.cell? ⟨b', o' + j, none⟩ = some (.string x)) :
    Calls Tryd.prog 13 #[.slice (some ⟨b, o, none⟩) xs.length c, .slice (some ⟨b', o', none⟩) xs.length c'] w fun e w' => e = .returned (.bool true) ∧ Below w.heap.size w w' := by
  have HC := Lib.hid hcell
  have HC' := Lib.hid hcell'
  clear hcell hcell'
  go_enter Tryd.func13, Tryd.ntmps13
  go_wp2_with fail
  go_loopw [5] (fun i wr => ∃ k : Nat, k ≤ xs.length ∧ i = .int .i64 k ∧ Below w.heap.size w wr) (fun i _ => xs.length - (intOf i).toNat)
  case atStart => exact ⟨0, Nat.zero_le _, rfl, Below.refl _ _⟩
  case round =>
    obtain ⟨k, hk, rfl, hbr⟩ := hrel
    by_cases hlk : k < xs.length
    · have c1 : wr.cell? ⟨b, o + k, none⟩ = some (.string xs[k]) := (hbr.cell (p := ⟨b, o + k, none⟩) hb).trans (HC.out k _ (List.getElem?_eq_getElem hlk))
      have c2 : wr.cell? ⟨b', o' + k, none⟩ = some (.string xs[k]) := (hbr.cell (p := ⟨b', o' + k, none⟩) hb').trans (HC'.out k _ (List.getElem?_eq_getElem hlk))
      have HB := Lib.hid hbr
      clear hbr
      go_wp2_with fail
      go_quiet (fail)
      go_wp2_with fail
      go_roundw
      case rel => exact ⟨k + 1, by omega, by go_num, below_drewN HB.out _⟩
      case measure => simp [intOf]; omega
    · go_wp2_with fail
      go_ret
      exact ⟨rfl, hbr⟩

set_option maxRecDepth 100000 in
set_option maxHeartbeats 1000000 in
theorem eqs_none (a a' : Option Addr) (c c' : Nat) (w : World) :
    Calls Tryd.prog 13 #[.slice a 0 c, .slice a' 0 c'] w fun e w' => e = .returned (.bool true) ∧ Below w.heap.size w w' := by
  go_enter Tryd.func13, Tryd.ntmps13
  go_wp2_with fail
  go_loopw [5] (fun i wr => i = .int .i64 0 ∧ wr = w) (fun _ _ => 0)
  case atStart => exact ⟨rfl, rfl⟩
  case round =>
    obtain ⟨rfl, rfl⟩ := hrel
    go_wp2_with fail
    go_ret
    exact ⟨rfl, Below.refl _ _⟩

/-- THE LAWS' eqStringS AT TWO SLICES OF THE SAME STRINGS. -/
theorem eqs_any (xs : List ByteArray) (v v' : Value) (w : World) (hn : xs.length ≤ 9223372036854775807) (h : SS w v xs) (h' : SS w v' xs) :
    Calls Tryd.prog 13 #[v, v'] w fun e w' => e = .returned (.bool true) ∧ Below w.heap.size w w' := by
  rcases h with ⟨rfl, a, c, rfl⟩ | ⟨h1, b, o, c, rfl, _, hb, hcell⟩
  · rcases h' with ⟨_, a', c', rfl⟩ | ⟨h1', _⟩
    · exact eqs_none a a' c c' w
    · simp at h1'
  · rcases h' with ⟨rfl, _⟩ | ⟨_, b', o', c', rfl, _, hb', hcell'⟩
    · simp at h1
    · exact eqs_some xs b o c b' o' c' w h1 hn hb hb' hcell hcell'
#print axioms eqs_any
end Go.Proofs.YtdfnjfelmfccjaaDoor
/- Index: The contracts of IndexOf, the program's and the model's: the first place of a string in a slice, or -1. -/
namespace Go.Proofs.YtdfnjfelmfccjaaDoor
open Go Go.RowKit

/-- The place of s in the list, counted from k on; -1 if it isn't there. -/
def ixFrom (s : ByteArray) : List ByteArray → Int → Int
  | [], _ => -1
  | x :: r, k => if x = s then k else ixFrom s r (k + 1)
def ixOf (xs : List ByteArray) (s : ByteArray) : Int := ixFrom s xs 0

theorem ix_here {xs : List ByteArray} {s : ByteArray} {k : Nat} {K : Int} (hk : k < xs.length) (h : xs[k] = s) : ixFrom s (xs.drop k) K = K := by
  rw [List.drop_eq_getElem_cons hk, ixFrom, if_pos h]
theorem ix_next {xs : List ByteArray} {s : ByteArray} {k : Nat} {K : Int} (hk : k < xs.length) (h : ¬ xs[k] = s) : ixFrom s (xs.drop k) K = ixFrom s (xs.drop (k + 1)) (K + 1) := by
  rw [List.drop_eq_getElem_cons hk, ixFrom, if_neg h]
theorem ix_end {xs : List ByteArray} {s : ByteArray} {K : Int} : ixFrom s (xs.drop xs.length) K = -1 := by
  rw [List.drop_of_length_le (Nat.le_refl _), ixFrom]
theorem ix_neg {s : ByteArray} : ∀ {xs : List ByteArray} {K : Int}, 0 ≤ K → (ixFrom s xs K < 0 ↔ s ∉ xs)
  | [], K, _ => by simp [ixFrom]
  | x :: r, K, h => by
    have := ix_neg (s := s) (xs := r) (K := K + 1) (by omega)
    rw [ixFrom]
    by_cases hx : x = s
    · rw [if_pos hx]
      simp [hx]
      omega
    · rw [if_neg hx, this]
      simp [show s ≠ x from fun h => hx h.symm]
theorem ixOf_neg {s : ByteArray} {xs : List ByteArray} : ixOf xs s < 0 ↔ s ∉ xs := ix_neg (by decide)
theorem ix_range {s : ByteArray} : ∀ {xs : List ByteArray} {K : Int}, 0 ≤ K → -1 ≤ ixFrom s xs K ∧ ixFrom s xs K ≤ K + xs.length
  | [], K, h => by rw [ixFrom]; simp; omega
  | x :: r, K, h => by
    have := ix_range (s := s) (xs := r) (K := K + 1) (by omega)
    rw [ixFrom]
    simp only [List.length_cons]
    split <;> omega
theorem ixOf_range (s : ByteArray) (xs : List ByteArray) : -1 ≤ ixOf xs s ∧ ixOf xs s ≤ xs.length := by
  have := ix_range (s := s) (xs := xs) (K := 0) (by decide)
  rw [Int.zero_add] at this
  exact this

def AnsI (n : Int) (w : World) (e : Ending) (w' : World) : Prop := e = .returned (.int .i64 n) ∧ w' = w

set_option maxRecDepth 100000 in
set_option maxHeartbeats 400000 in
theorem ixS_some (xs : List ByteArray) (s : ByteArray) (b o c : Nat) (w : World) (h1 : 1 ≤ xs.length) (hn : xs.length ≤ 9223372036854775807)
    (hcell : ∀ j x, xs[j]? = some x → w.cell? ⟨b, o + j, none⟩ = some (.string x)) :
    Calls Tryd.prog 55 #[.slice (some ⟨b, o, none⟩) xs.length c, .string s] w (AnsI (ixOf xs s) w) := by
  have HC := Lib.hid hcell
  clear hcell
  go_enter Tryd.func55, Tryd.ntmps55
  go_wp2_with fail
  go_loop [5] (fun i => ∃ k : Nat, k ≤ xs.length ∧ i = .int .i64 k ∧ Hid (ixFrom s (xs.drop k) k = ixOf xs s)) (fun i => xs.length - (intOf i).toNat)
  case atStart => exact ⟨0, Nat.zero_le _, rfl, Lib.hid rfl⟩
  case round =>
    obtain ⟨k, hk, rfl, HE⟩ := hrel
    by_cases hlk : k < xs.length
    · have c1 := HC.out k _ (List.getElem?_eq_getElem hlk)
      by_cases hx : xs[k] = s
      · have HX := Lib.hid (ix_here (K := k) hlk hx)
        have t := str_yes hx
        clear hx
        go_wp2_with fail
        go_ret
        exact ⟨by rw [← HE.out, HX.out]; rfl, rfl⟩
      · have HX := Lib.hid (ix_next (K := k) hlk hx)
        have t := str_no hx
        clear hx
        go_wp2_with fail
        go_round
        case rel => exact ⟨k + 1, by omega, by go_num, Lib.hid (by rw [← HE.out, HX.out]; rfl)⟩
        case measure => simp [intOf]; omega
    · obtain rfl : k = xs.length := by omega
      go_wp2_with fail
      go_ret
      exact ⟨by rw [← HE.out, ix_end]; rfl, rfl⟩

set_option maxRecDepth 100000 in
theorem ixS_none (a : Option Addr) (s : ByteArray) (c : Nat) (w : World) :
    Calls Tryd.prog 55 #[.slice a 0 c, .string s] w (AnsI (-1) w) := by
  go_enter Tryd.func55, Tryd.ntmps55
  go_wp2_with fail
  go_loop [5] (fun i => i = .int .i64 0) (fun _ => 0)
  case atStart => rfl
  case round =>
    obtain rfl := hrel
    go_wp2_with fail
    go_ret
    exact ⟨rfl, rfl⟩

theorem ixS_any (xs : List ByteArray) (v : Value) (s : ByteArray) (w : World) (hn : xs.length ≤ 9223372036854775807) (h : SS w v xs) :
    Calls Tryd.prog 55 #[v, .string s] w (AnsI (ixOf xs s) w) := by
  rcases h with ⟨rfl, a, c, rfl⟩ | ⟨h1, b, o, c, rfl, _, _, hcell⟩
  · exact ixS_none a s c w
  · exact ixS_some xs s b o c w h1 hn hcell

end Go.Proofs.YtdfnjfelmfccjaaDoor
/- UniteSpec: The contract of the model's UniteNames: the strings of both lists, each at its first place. -/
namespace Go.Proofs.YtdfnjfelmfccjaaDoor
open Go Go.RowKit

def hasN (x : ByteArray) (acc : List ByteArray) : Bool := acc.any fun y => decide (y = x)
theorem hasN_in {acc : List ByteArray} {x : ByteArray} (h : x ∈ acc) : hasN x acc = true := by
  unfold hasN
  rw [List.any_eq_true]
  exact ⟨x, h, by simp⟩
theorem hasN_out {acc : List ByteArray} {x : ByteArray} (h : x ∉ acc) : hasN x acc = false := by
  unfold hasN
  rw [List.any_eq_false]
  intro y hy hc
  exact h (by rw [← of_decide_eq_true hc]; exact hy)
theorem hasN_snoc (y : ByteArray) (acc : List ByteArray) (x : ByteArray) : (decide (y = x) || hasN y acc) = hasN y (acc ++ [x]) := by
  unfold hasN
  rw [List.any_append, Bool.or_comm]
  simp [eq_comm]
def addS (acc : List ByteArray) (x : ByteArray) : List ByteArray := if hasN x acc then acc else acc ++ [x]
def add (acc ys : List ByteArray) : List ByteArray := ys.foldl addS acc
def un (a b : List ByteArray) : List ByteArray := add (add [] a) b
theorem addS_in {acc : List ByteArray} {x : ByteArray} (h : x ∈ acc) : addS acc x = acc := by unfold addS; rw [if_pos (hasN_in h)]
theorem addS_out {acc : List ByteArray} {x : ByteArray} (h : x ∉ acc) : addS acc x = acc ++ [x] := by
  unfold addS
  rw [hasN_out h, if_neg (by decide)]
theorem add_nil (acc : List ByteArray) (ys : List ByteArray) : add acc (ys.take 0) = acc := rfl
theorem add_step (acc : List ByteArray) {ys : List ByteArray} {k : Nat} (hk : k < ys.length) : add acc (ys.take (k + 1)) = addS (add acc (ys.take k)) ys[k] := by
  rw [List.take_add_one, List.getElem?_eq_getElem hk]
  show add acc (ys.take k ++ [ys[k]]) = _
  unfold add
  rw [List.foldl_append]; rfl
theorem add_length : ∀ (ys acc : List ByteArray), (add acc ys).length ≤ acc.length + ys.length
  | [], acc => by simp [add]
  | y :: ys, acc => by
    have h := add_length ys (addS acc y)
    have h1 : (addS acc y).length ≤ acc.length + 1 := by
      unfold addS
      split
      · omega
      · simp
    have h2 : add acc (y :: ys) = add (addS acc y) ys := rfl
    rw [h2]
    simp only [List.length_cons]
    omega
theorem add_take_length (acc ys : List ByteArray) (k : Nat) : (add acc (ys.take k)).length ≤ acc.length + ys.length := by
  have h := add_length (ys.take k) acc
  have h1 := List.length_take_le' k ys
  omega

/-- A slice's place p bears the strings xs; of no string it says nothing. -/
def At (w : World) (p : Option Addr) (xs : List ByteArray) : Prop := ∀ j x, xs[j]? = some x → ∃ b o, p = some ⟨b, o, none⟩ ∧ b < w.heap.size ∧ w.cell? ⟨b, o + j, none⟩ = some (.string x)
theorem At.below {w w' : World} {p : Option Addr} {xs : List ByteArray} (h : At w p xs) (hb : Below w.heap.size w w') : At w' p xs := fun j x hj => by
  obtain ⟨b, o, rfl, hlt, hc⟩ := h j x hj
  exact ⟨b, o, rfl, Nat.lt_of_lt_of_le hlt hb.size, (hb.cell (p := ⟨b, o + j, none⟩) hlt).trans hc⟩
theorem SS.at {w : World} {v : Value} {xs : List ByteArray} (h : SS w v xs) : ∃ p c, v = .slice p xs.length c ∧ At w p xs := by
  rcases h with ⟨rfl, a, c, rfl⟩ | ⟨h1, b, o, c, rfl, _, hlt, hcell⟩
  · exact ⟨a, c, rfl, fun j x hj => by simp at hj⟩
  · exact ⟨_, c, rfl, fun j x hj => ⟨b, o, rfl, hlt, hcell j x hj⟩⟩

theorem ix_in {xs : List ByteArray} {s : ByteArray} (h : s ∈ xs) : decide (ixOf xs s < 0) = false := decide_eq_false (fun hc => ixOf_neg.1 hc h)
theorem ix_out {xs : List ByteArray} {s : ByteArray} (h : s ∉ xs) : decide (ixOf xs s < 0) = true := decide_eq_true (ixOf_neg.2 h)

/-- A call that returns a new slice with just the strings ys. -/
def NewS' (ys : List ByteArray) (w : World) (e : Ending) (w' : World) : Prop := ∃ v, e = .returned v ∧ Own w' w.heap.size v ys ∧ Below w.heap.size w w'

set_option maxRecDepth 100000 in
set_option maxHeartbeats 1000000 in
theorem unS_at (a b : List ByteArray) (p q : Option Addr) (c d : Nat) (w : World) (ha : a.length ≤ 1048576) (hb : b.length ≤ 1048576) (hA : At w p a) (hB : At w q b) :
    Calls Tryd.prog 32 #[.slice p a.length c, .slice q b.length d] w (NewS' (un a b) w) := by
  have HA := Lib.hid hA
  have HQ := Lib.hid hB
  clear hA hB
  go_enter Tryd.func32, Tryd.ntmps32
  go_wp2_with fail
  go_loopw [5, 6] (fun v i wr => ∃ k : Nat, k ≤ a.length ∧ i = .int .i64 k ∧ Own wr w.heap.size v (add [] (a.take k)) ∧ Below w.heap.size w wr) (fun _ i _ => a.length - (intOf i).toNat)
  case atStart => exact ⟨0, Nat.zero_le _, rfl, own_empty w, (Below.refl _ _).alloc (Nat.le_refl _) _⟩
  case round =>
    obtain ⟨k, hk, rfl, hown, hbr⟩ := hrel
    have hsz := hbr.size
    have HO := Lib.hid hown
    have HB := Lib.hid hbr
    clear hown hbr
    by_cases hlk : k < a.length
    · obtain ⟨b0, o0, rfl, hb0, c0⟩ := HA.out k _ (List.getElem?_eq_getElem hlk)
      have c1 : ∀ wx, Below wr.heap.size wr wx → wx.cell? ⟨b0, o0 + k, none⟩ = some (.string a[k]) := fun wx hx => (hx.cell (p := ⟨b0, o0 + k, none⟩) (Nat.lt_of_lt_of_le hb0 hsz)).trans ((HB.out.cell (p := ⟨b0, o0 + k, none⟩) hb0).trans c0)
      have c2 := c1 wr (Below.refl _ _)
      clear c0 c1
      have hL := add_take_length [] a k
      simp only [List.length_nil, Nat.zero_add] at hL
      have HST := Lib.hid (add_step [] hlk)
      go_wp2_with fail
      refine (ixS_any _ _ a[k] wr (by omega) HO.out.ss).mono ?_
      rintro e w1 ⟨rfl, rfl⟩
      by_cases hin : a[k] ∈ add [] (a.take k)
      · have t := ix_in hin
        have HX := Lib.hid (addS_in hin)
        clear hin
        go_wp2_with fail
        go_roundw
        case rel => exact ⟨k + 1, by omega, by go_num, by rw [HST.out, HX.out]; exact HO.out, HB.out⟩
        case measure => simp [intOf]; omega
      · have t := ix_out hin
        have HX := Lib.hid (addS_out hin)
        clear hin
        go_wp2_with (at_builtin; refine wpList_app_str rfl _ _ rfl w.heap.size _ _ rfl HO.out a[k] rfl (by omega) hsz ?_; intro v' w2 hown2 hb2)
        have HR : Hid (Own w2 w.heap.size v' (add [] (a.take (k + 1)))) := Lib.hid (by rw [HST.out, HX.out]; exact hown2)
        have HB2 := Lib.hid (HB.out.trans hb2)
        clear hown2 hb2
        go_roundw
        case rel => exact ⟨k + 1, by omega, by go_num, HR.out, HB2.out⟩
        case measure => simp [intOf]; omega
    · obtain rfl : k = a.length := by omega
      have HO1 : Hid (Own wr w.heap.size u5 (add [] a)) := Lib.hid (by have := HO.out; rw [List.take_length] at this; exact this)
      clear HO
      go_wp2_with fail
      go_loopw [5, 7] (fun v i wr => ∃ k : Nat, k ≤ b.length ∧ i = .int .i64 k ∧ Own wr w.heap.size v (add (add [] a) (b.take k)) ∧ Below w.heap.size w wr) (fun _ i _ => b.length - (intOf i).toNat)
      case atStart => exact ⟨0, Nat.zero_le _, rfl, HO1.out, HB.out⟩
      case round =>
        clear HO1 HB hsz
        obtain ⟨k, hk, rfl, hown, hbr⟩ := hrel
        have hsz := hbr.size
        have HO := Lib.hid hown
        have HB := Lib.hid hbr
        clear hown hbr
        by_cases hlk : k < b.length
        · obtain ⟨b0, o0, rfl, hb0, c0⟩ := HQ.out k _ (List.getElem?_eq_getElem hlk)
          have c2 := (HB.out.cell (p := ⟨b0, o0 + k, none⟩) hb0).trans c0
          clear c0
          have hL := add_take_length (add [] a) b k
          have hL0 := add_length a []
          simp only [List.length_nil, Nat.zero_add] at hL0
          have HST := Lib.hid (add_step (add [] a) hlk)
          go_wp2_with fail
          refine (ixS_any _ _ b[k] wr (by omega) HO.out.ss).mono ?_
          rintro e w1 ⟨rfl, rfl⟩
          by_cases hin : b[k] ∈ add (add [] a) (b.take k)
          · have t := ix_in hin
            have HX := Lib.hid (addS_in hin)
            clear hin
            go_wp2_with fail
            go_roundw
            case rel => exact ⟨k + 1, by omega, by go_num, by rw [HST.out, HX.out]; exact HO.out, HB.out⟩
            case measure => simp [intOf]; omega
          · have t := ix_out hin
            have HX := Lib.hid (addS_out hin)
            clear hin
            go_wp2_with (at_builtin; refine wpList_app_str rfl _ _ rfl w.heap.size _ _ rfl HO.out b[k] rfl (by omega) hsz ?_; intro v' w2 hown2 hb2)
            have HR : Hid (Own w2 w.heap.size v' (add (add [] a) (b.take (k + 1)))) := Lib.hid (by rw [HST.out, HX.out]; exact hown2)
            have HB2 := Lib.hid (HB.out.trans hb2)
            clear hown2 hb2
            go_roundw
            case rel => exact ⟨k + 1, by omega, by go_num, HR.out, HB2.out⟩
            case measure => simp [intOf]; omega
        · obtain rfl : k = b.length := by omega
          have HO1 : Hid (Own wr w.heap.size u5 (un a b)) := Lib.hid (by have := HO.out; rw [List.take_length] at this; exact this)
          clear HO
          go_wp2_with fail
          go_ret
          exact ⟨_, rfl, HO1.out, HB.out⟩

theorem unS_any (a b : List ByteArray) (u v : Value) (w : World) (ha : a.length ≤ 1048576) (hb : b.length ≤ 1048576) (hA : SS w u a) (hB : SS w v b) :
    Calls Tryd.prog 32 #[u, v] w (NewS' (un a b) w) := by
  obtain ⟨p, c, rfl, hp⟩ := hA.at
  obtain ⟨q, d, rfl, hq⟩ := hB.at
  exact unS_at a b p q c d w ha hb hp hq
#print axioms unS_any
end Go.Proofs.YtdfnjfelmfccjaaDoor
/- Without: The contracts of WithoutName, the program's and the model's: the strings of the list but for one. -/
namespace Go.Proofs.YtdfnjfelmfccjaaDoor
open Go Go.RowKit

/-- The list without s. -/
def wo (s : ByteArray) (xs : List ByteArray) : List ByteArray := xs.filter fun x => decide (x ≠ s)
theorem wo_zero (s : ByteArray) (xs : List ByteArray) : wo s (xs.take 0) = [] := by simp [wo]
theorem wo_same {s : ByteArray} {xs : List ByteArray} {k : Nat} (hk : k < xs.length) (h : xs[k] = s) : wo s (xs.take (k + 1)) = wo s (xs.take k) := by
  rw [List.take_add_one, List.getElem?_eq_getElem hk]
  simp [wo, h]
theorem wo_other {s : ByteArray} {xs : List ByteArray} {k : Nat} (hk : k < xs.length) (h : ¬ xs[k] = s) : wo s (xs.take (k + 1)) = wo s (xs.take k) ++ [xs[k]] := by
  rw [List.take_add_one, List.getElem?_eq_getElem hk]
  show wo s (xs.take k ++ [xs[k]]) = _
  unfold wo
  rw [List.filter_append, List.filter_cons_of_pos (by simpa using h), List.filter_nil]
theorem wo_length (s : ByteArray) (xs : List ByteArray) : (wo s xs).length ≤ xs.length := List.length_filter_le _ _
theorem wo_take_length (s : ByteArray) (xs : List ByteArray) (k : Nat) : (wo s (xs.take k)).length ≤ xs.length := by
  have h1 := wo_length s (xs.take k)
  have h2 := List.length_take_le k xs
  have h3 := List.length_take_le' k xs
  omega

/-- A call that returns a new slice with just the strings ys. -/
def NewS (ys : List ByteArray) (w : World) (e : Ending) (w' : World) : Prop := ∃ v, e = .returned v ∧ Own w' w.heap.size v ys ∧ Below w.heap.size w w'

set_option maxRecDepth 100000 in
set_option maxHeartbeats 1000000 in
theorem woS_some (xs : List ByteArray) (s : ByteArray) (b o c : Nat) (w : World) (h1 : 1 ≤ xs.length) (hn : xs.length ≤ 4194304) (hb : b < w.heap.size)
    (hcell : ∀ j x, xs[j]? = some x → w.cell? ⟨b, o + j, none⟩ = some (.string x)) :
    Calls Tryd.prog 31 #[.slice (some ⟨b, o, none⟩) xs.length c, .string s] w (NewS (wo s xs) w) := by
  have HC := Lib.hid hcell
  clear hcell
  go_enter Tryd.func31, Tryd.ntmps31
  go_wp2_with fail
  go_loopw [5, 6] (fun v i wr => ∃ k : Nat, k ≤ xs.length ∧ i = .int .i64 k ∧ Own wr w.heap.size v (wo s (xs.take k)) ∧ Below w.heap.size w wr) (fun _ i _ => xs.length - (intOf i).toNat)
  case atStart => exact ⟨0, Nat.zero_le _, rfl, by rw [wo_zero]; exact own_empty w, (Below.refl _ _).alloc (Nat.le_refl _) _⟩
  case round =>
    obtain ⟨k, hk, rfl, hown, hbr⟩ := hrel
    have hsz := hbr.size
    by_cases hlk : k < xs.length
    · have c1 : wr.cell? ⟨b, o + k, none⟩ = some (.string xs[k]) := (hbr.cell (p := ⟨b, o + k, none⟩) hb).trans (HC.out k _ (List.getElem?_eq_getElem hlk))
      have HO := Lib.hid hown
      have HB := Lib.hid hbr
      clear hown hbr
      by_cases hx : xs[k] = s
      · have t := str_yes hx
        have HX := Lib.hid (wo_same hlk hx)
        clear hx
        go_wp2_with fail
        go_roundw
        case rel => exact ⟨k + 1, by omega, by go_num, by rw [HX.out]; exact HO.out, HB.out⟩
        case measure => simp [intOf]; omega
      · have t := str_no hx
        have HX := Lib.hid (wo_other hlk hx)
        clear hx
        have hL := wo_take_length s xs k
        go_wp2_with (at_builtin; refine wpList_app_str rfl _ _ rfl w.heap.size _ _ rfl HO.out xs[k] rfl (by omega) hsz ?_; intro v' w2 hown2 hb2)
        have HR : Hid (Own w2 w.heap.size v' (wo s (xs.take (k + 1)))) := Lib.hid (by rw [HX.out]; exact hown2)
        have HB2 := Lib.hid (HB.out.trans hb2)
        clear hown2 hb2
        go_roundw
        case rel => exact ⟨k + 1, by omega, by go_num, HR.out, HB2.out⟩
        case measure => simp [intOf]; omega
    · obtain rfl : k = xs.length := by omega
      rw [List.take_length] at hown
      have HO := Lib.hid hown
      have HB := Lib.hid hbr
      clear hown hbr
      go_wp2_with fail
      go_ret
      exact ⟨_, rfl, HO.out, HB.out⟩

set_option maxRecDepth 100000 in
theorem woS_none (a : Option Addr) (s : ByteArray) (c : Nat) (w : World) :
    Calls Tryd.prog 31 #[.slice a 0 c, .string s] w (NewS [] w) := by
  go_enter Tryd.func31, Tryd.ntmps31
  go_wp2_with fail
  go_loopw [5, 6] (fun v i wr => v = .slice (some ⟨w.heap.size, 0, none⟩) 0 0 ∧ i = .int .i64 0 ∧ wr = w.alloc (.cells #[] 9)) (fun _ _ _ => 0)
  case atStart => exact ⟨rfl, rfl, rfl⟩
  case round =>
    obtain ⟨rfl, rfl, rfl⟩ := hrel
    go_wp2_with fail
    go_ret
    exact ⟨_, rfl, own_empty w, (Below.refl _ _).alloc (Nat.le_refl _) _⟩

theorem woS_any (xs : List ByteArray) (v : Value) (s : ByteArray) (w : World) (hn : xs.length ≤ 4194304) (h : SS w v xs) :
    Calls Tryd.prog 31 #[v, .string s] w (NewS (wo s xs) w) := by
  rcases h with ⟨rfl, a, c, rfl⟩ | ⟨h1, b, o, c, rfl, _, hb, hcell⟩
  · exact woS_none a s c w
  · exact woS_some xs s b o c w h1 hn hb hcell
#print axioms woS_any
end Go.Proofs.YtdfnjfelmfccjaaDoor
/- FreeP: Free names of terms, of no program: as the model gathers them, as they occur, and as a walk over the nodes with a stack of bound names finds them. -/
namespace Go.Proofs.YtdfnjfelmfccjaaDoor
open Go Go.RowKit

/-- The names that a form binds; the part in which it does. -/
def Tm.bnd (t : Tm) : List ByteArray :=
  if t.kind = 6 ∧ t.args.length = 1 then [t.name] else if t.kind = 8 ∧ t.args.length = 2 then [t.name] else if t.kind = 9 ∧ t.args.length = 1 then [t.name, t.other] else []
/-- The names bound in part k. -/
def Tm.bndAt (t : Tm) (k : Nat) : List ByteArray := if k + 1 = t.args.length then t.bnd else []

/-- What the model does with one part. -/
def minus (nb p : List ByteArray) : List ByteArray := nb.foldl (fun p x => wo x p) p
def gatherU (b : Nat → List ByteArray) : Nat → List ByteArray → List (List ByteArray) → List ByteArray
  | _, acc, [] => acc
  | k, acc, p :: ps => gatherU b (k + 1) (un acc (minus (b k) p)) ps
mutual
/-- The model's FreeVars. -/
def Tm.fv : Tm → List ByteArray
  | .mk k a o n t r ts => if k = 1 then [a] else gatherU (Tm.bndAt (.mk k a o n t r ts)) 0 [] (fvL ts)
def fvL : List Tm → List (List ByteArray)
  | [] => []
  | t :: ts => t.fv :: fvL ts
end
mutual
/-- The free occurrences, in order, where env is bound. -/
def Tm.occ : Tm → List ByteArray → List ByteArray
  | .mk k a o n t r ts, env => if k = 1 then (if hasN a env then [] else [a]) else occL (Tm.bndAt (.mk k a o n t r ts)) 0 ts env
def occL : (Nat → List ByteArray) → Nat → List Tm → List ByteArray → List ByteArray
  | _, _, [], _ => []
  | b, k, t :: ts, env => t.occ (env ++ b k) ++ occL b (k + 1) ts env
end

theorem add_app (acc a b : List ByteArray) : add acc (a ++ b) = add (add acc a) b := by unfold add; rw [List.foldl_append]
theorem add_mem {x : ByteArray} : ∀ (ys acc : List ByteArray), x ∈ add acc ys ↔ x ∈ acc ∨ x ∈ ys
  | [], acc => by simp [add]
  | y :: ys, acc => by
    have h : add acc (y :: ys) = add (addS acc y) ys := rfl
    rw [h, add_mem ys]
    by_cases hy : y ∈ acc
    · rw [addS_in hy]
      constructor
      · rintro (h | h)
        · exact Or.inl h
        · exact Or.inr (List.mem_cons_of_mem _ h)
      · rintro (h | h)
        · exact Or.inl h
        · rcases List.mem_cons.1 h with rfl | h
          · exact Or.inl hy
          · exact Or.inr h
    · rw [addS_out hy]
      rw [List.mem_append, List.mem_singleton, List.mem_cons, or_assoc]
theorem add_in : ∀ (pre acc : List ByteArray), (∀ x ∈ pre, x ∈ acc) → add acc pre = acc
  | [], acc, _ => rfl
  | x :: pre, acc, h => by
    have h1 : add acc (x :: pre) = add (addS acc x) pre := rfl
    rw [h1, addS_in (h x (by simp)), add_in pre acc (fun y hy => h y (List.mem_cons_of_mem _ hy))]
theorem add_add : ∀ (ys acc pre : List ByteArray), add acc (add pre ys) = add (add acc pre) ys
  | [], acc, pre => rfl
  | y :: ys, acc, pre => by
    have h1 : add pre (y :: ys) = add (addS pre y) ys := rfl
    have h2 : add (add acc pre) (y :: ys) = add (addS (add acc pre) y) ys := rfl
    rw [h1, h2, add_add ys]
    by_cases hy : y ∈ pre
    · rw [addS_in hy, addS_in ((add_mem pre acc).2 (Or.inr hy))]
    · rw [addS_out hy, add_app]
      rfl
theorem un_eq (a b : List ByteArray) : un a b = add [] (a ++ b) := by unfold un; rw [add_app]
theorem add_nil_add (a b : List ByteArray) : add [] (add [] a ++ add [] b) = add [] (a ++ b) := by
  rw [add_app, add_add, add_add, add_app]
  rfl
theorem wo_add (s : ByteArray) : ∀ (ys acc : List ByteArray), wo s (add acc ys) = add (wo s acc) (wo s ys)
  | [], acc => by simp [add, wo]
  | y :: ys, acc => by
    have h1 : add acc (y :: ys) = add (addS acc y) ys := rfl
    rw [h1, wo_add s ys]
    by_cases hys : y = s
    · subst hys
      have h2 : wo y (y :: ys) = wo y ys := by simp [wo]
      rw [h2]
      by_cases hy : y ∈ acc
      · rw [addS_in hy]
      · rw [addS_out hy]
        congr 1
        simp [wo]
    · have h2 : wo s (y :: ys) = y :: wo s ys := by simp [wo, hys]
      have h3 : add (wo s acc) (y :: wo s ys) = add (addS (wo s acc) y) (wo s ys) := rfl
      rw [h2, h3]
      congr 1
      by_cases hy : y ∈ acc
      · rw [addS_in hy, addS_in (by unfold wo; rw [List.mem_filter]; exact ⟨hy, by simpa using hys⟩)]
      · rw [addS_out hy, addS_out (by unfold wo; rw [List.mem_filter]; exact fun h => hy h.1)]
        simp [wo, hys]
theorem minus_add : ∀ (nb ys : List ByteArray), minus nb (add [] ys) = add [] (minus nb ys)
  | [], ys => rfl
  | x :: nb, ys => by
    have h1 : ∀ p, minus (x :: nb) p = minus nb (wo x p) := fun _ => rfl
    rw [h1, h1, wo_add]
    exact minus_add nb _
theorem minus_app : ∀ (nb a b : List ByteArray), minus nb (a ++ b) = minus nb a ++ minus nb b
  | [], a, b => rfl
  | x :: nb, a, b => by
    have h1 : ∀ p, minus (x :: nb) p = minus nb (wo x p) := fun _ => rfl
    rw [h1, h1, h1, ← minus_app nb]
    congr 1
    simp [wo]
theorem minus_minus (a b p : List ByteArray) : minus (a ++ b) p = minus b (minus a p) := by unfold minus; rw [List.foldl_append]
theorem minus_filter : ∀ (nb p : List ByteArray), minus nb p = p.filter fun x => !hasN x nb
  | [], p => by
    have h : p.filter (fun x => !hasN x []) = p := List.filter_eq_self.2 (fun _ _ => rfl)
    rw [h]; rfl
  | x :: nb, p => by
    have h1 : minus (x :: nb) p = minus nb (wo x p) := rfl
    rw [h1, minus_filter nb, wo, List.filter_filter]
    congr 1
    funext y
    have h2 : hasN y (x :: nb) = (decide (x = y) || hasN y nb) := by simp [hasN]
    rw [h2]
    by_cases h : y = x
    · subst h; simp
    · have h3 : ¬ x = y := fun e => h e.symm
      simp [h, h3]
theorem minus_comm (a b p : List ByteArray) : minus a (minus b p) = minus b (minus a p) := by
  simp only [minus_filter, List.filter_filter]
  congr 1
  funext x
  rw [Bool.and_comm]
theorem minus_nil : ∀ (nb : List ByteArray), minus nb [] = []
  | [] => rfl
  | x :: nb => minus_nil nb
theorem minus_one (nb : List ByteArray) (a : ByteArray) : minus nb [a] = if hasN a nb then [] else [a] := by
  rw [minus_filter]
  cases h : hasN a nb <;> simp [h]
theorem hasN_app (a : ByteArray) (x y : List ByteArray) : hasN a (x ++ y) = (hasN a x || hasN a y) := by simp [hasN]
mutual
theorem Tm.occ_env : ∀ (t : Tm) (env env' : List ByteArray), t.occ (env' ++ env) = minus env (t.occ env')
  | .mk k a o n t r ts, env, env' => by
    simp only [Tm.occ]
    by_cases hk : k = 1
    · rw [if_pos hk, if_pos hk]
      rw [hasN_app]
      cases h1 : hasN a env'
      · simp only [Bool.false_or, Bool.false_eq_true, if_false, minus_one]
      · simp only [Bool.true_or, if_true, minus_nil]
    · rw [if_neg hk, if_neg hk]
      exact occL_env _ 0 ts env env'
theorem occL_env : ∀ (b : Nat → List ByteArray) (k : Nat) (ts : List Tm) (env env' : List ByteArray), occL b k ts (env' ++ env) = minus env (occL b k ts env')
  | b, k, [], env, env' => by simp only [occL]; rw [minus_nil]
  | b, k, t :: ts, env, env' => by
    simp only [occL]
    rw [minus_app, occL_env b (k + 1) ts env env']
    congr 1
    rw [Tm.occ_env t (b k) (env' ++ env), Tm.occ_env t env env', Tm.occ_env t (b k) env']
    exact minus_comm _ _ _
end
mutual
theorem Tm.fv_occ : ∀ t : Tm, t.fv = add [] (t.occ [])
  | .mk k a o n t r ts => by
    simp only [Tm.fv, Tm.occ]
    by_cases hk : k = 1
    · rw [if_pos hk, if_pos hk]
      rfl
    · rw [if_neg hk, if_neg hk]
      exact gatherU_occ _ 0 ts []
theorem gatherU_occ : ∀ (b : Nat → List ByteArray) (k : Nat) (ts : List Tm) (A : List ByteArray), gatherU b k (add [] A) (fvL ts) = add [] (A ++ occL b k ts [])
  | b, k, [], A => by simp only [fvL, gatherU, occL, List.append_nil]
  | b, k, t :: ts, A => by
    simp only [fvL, gatherU, occL]
    rw [un_eq, Tm.fv_occ t, minus_add, add_nil_add, gatherU_occ b (k + 1) ts, Tm.occ_env t (b k) [], List.append_assoc]
end
mutual
/-- The nodes in the order of the visit: each with the names that the form around binds in it, and its depth. -/
def walkQ : Tm → List ByteArray → Nat → List (Tm × List ByteArray × Nat)
  | .mk k a o n t r ts, nm, d => (.mk k a o n t r ts, nm, d) :: (if k = 1 then [] else walkQS (Tm.bndAt (.mk k a o n t r ts)) 0 ts (d + 1))
def walkQS : (Nat → List ByteArray) → Nat → List Tm → Nat → List (Tm × List ByteArray × Nat)
  | _, _, [], _ => []
  | b, k, t :: ts, d => walkQ t (b k) d ++ walkQS b (k + 1) ts d
end
/-- What a node adds: its name, if it is a variable that is not bound. -/
def hitQ (t : Tm) (st : List (List ByteArray)) : List ByteArray := if t.kind = 1 ∧ hasN t.name st.flatten = false then [t.name] else []
/-- The stack behind a node: what was bound around it, and in it. -/
def pushQ (st : List (List ByteArray)) (nm : List ByteArray) (d : Nat) : List (List ByteArray) := st.take (d - 1) ++ [nm]
def foundQ : List (Tm × List ByteArray × Nat) → List (List ByteArray) → List ByteArray
  | [], _ => []
  | (t, nm, d) :: r, st => hitQ t (pushQ st nm d) ++ foundQ r (pushQ st nm d)
theorem pushQ_flat {st : List (List ByteArray)} {nm : List ByteArray} {d : Nat} : (pushQ st nm d).flatten = (st.take (d - 1)).flatten ++ nm := by simp [pushQ]
theorem pushQ_len {st : List (List ByteArray)} {nm : List ByteArray} {d : Nat} (h1 : 1 ≤ d) (h : d - 1 ≤ st.length) : (pushQ st nm d).length = d := by
  simp only [pushQ, List.length_append, List.length_take, List.length_singleton]
  omega
mutual
theorem found_walk : ∀ (t : Tm) (nm : List ByteArray) (d : Nat) (st : List (List ByteArray)) (r : List (Tm × List ByteArray × Nat)), 1 ≤ d → d - 1 ≤ st.length →
    ∃ st', st'.take (d - 1) = st.take (d - 1) ∧ d - 1 ≤ st'.length ∧ foundQ (walkQ t nm d ++ r) st = t.occ ((st.take (d - 1)).flatten ++ nm) ++ foundQ r st'
  | .mk k a o n t x ts, nm, d, st, r, h1, hd => by
    have hl := pushQ_len (nm := nm) h1 hd
    have hp : (pushQ st nm d).take (d - 1) = st.take (d - 1) := by
      unfold pushQ
      rw [List.take_append_of_le_length (by rw [List.length_take]; omega), List.take_take, Nat.min_self]
    simp only [walkQ, Tm.occ, List.cons_append, foundQ, ← pushQ_flat (nm := nm)]
    by_cases hk : k = 1
    · rw [if_pos hk, if_pos hk]
      refine ⟨pushQ st nm d, hp, by omega, ?_⟩
      rw [List.nil_append]
      congr 1
      unfold hitQ
      simp only [Tm.kind, Tm.name, hk, true_and]
      cases hasN a (pushQ st nm d).flatten <;> rfl
    · rw [if_neg hk, if_neg hk]
      obtain ⟨st', e1, e2, e3⟩ := found_walkS (Tm.bndAt (.mk k a o n t x ts)) 0 ts (d + 1) (pushQ st nm d) r (by omega) (by omega)
      have hd1 : d + 1 - 1 = d := by omega
      rw [hd1] at e1 e2 e3
      rw [List.take_of_length_le (by omega : (pushQ st nm d).length ≤ d)] at e1 e3
      refine ⟨st', ?_, by omega, ?_⟩
      · rw [← hp, ← e1, List.take_take, Nat.min_eq_left (by omega)]
      · rw [e3]
        have hh : hitQ (.mk k a o n t x ts) (pushQ st nm d) = [] := by
          unfold hitQ
          rw [if_neg (fun h => hk h.1)]
        rw [hh, List.nil_append]
theorem found_walkS : ∀ (b : Nat → List ByteArray) (k : Nat) (ts : List Tm) (d : Nat) (st : List (List ByteArray)) (r : List (Tm × List ByteArray × Nat)), 1 ≤ d → d - 1 ≤ st.length →
    ∃ st', st'.take (d - 1) = st.take (d - 1) ∧ d - 1 ≤ st'.length ∧ foundQ (walkQS b k ts d ++ r) st = occL b k ts (st.take (d - 1)).flatten ++ foundQ r st'
  | b, k, [], d, st, r, h1, hd => ⟨st, rfl, hd, by simp only [walkQS, occL, List.nil_append]⟩
  | b, k, t :: ts, d, st, r, h1, hd => by
    obtain ⟨st1, e1, e2, e3⟩ := found_walk t (b k) d st (walkQS b (k + 1) ts d ++ r) h1 hd
    obtain ⟨st2, f1, f2, f3⟩ := found_walkS b (k + 1) ts d st1 r h1 e2
    refine ⟨st2, f1.trans e1, f2, ?_⟩
    simp only [walkQS, occL]
    rw [List.append_assoc, e3, f3, e1, List.append_assoc]
end
/-- The walk finds the free occurrences. -/
theorem found_occ (t : Tm) : foundQ (walkQ t [] 1) [] = t.occ [] := by
  obtain ⟨st', _, _, h⟩ := found_walk t [] 1 [] [] (Nat.le_refl _) (Nat.zero_le _)
  rw [List.append_nil] at h
  rw [h]
  simp [foundQ]
mutual
theorem walkQ_nodes : ∀ (t : Tm) (nm : List ByteArray) (d : Nat), (walkQ t nm d).length ≤ t.nodes
  | .mk k a o n t x ts, nm, d => by
    simp only [walkQ, List.length_cons, Tm.nodes]
    by_cases hk : k = 1
    · rw [if_pos hk]; simp only [List.length_nil]; omega
    · rw [if_neg hk]
      have := walkQS_nodes (Tm.bndAt (.mk k a o n t x ts)) 0 ts (d + 1)
      omega
theorem walkQS_nodes : ∀ (b : Nat → List ByteArray) (k : Nat) (ts : List Tm) (d : Nat), (walkQS b k ts d).length ≤ nodesM ts
  | b, k, [], d => by simp [walkQS]
  | b, k, t :: ts, d => by
    have h1 := walkQ_nodes t (b k) d
    have h2 := walkQS_nodes b (k + 1) ts d
    simp only [walkQS, List.length_append, nodesM]
    omega
end
end Go.Proofs.YtdfnjfelmfccjaaDoor
/- FreeS: The contracts of the model's l7Bound, FreeVars, IsClosed. -/
namespace Go.Proofs.YtdfnjfelmfccjaaDoor
open Go Go.RowKit

theorem fvL_map (ts : List Tm) : fvL ts = ts.map Tm.fv := by
  induction ts with
  | nil => rfl
  | cons t ts ih => simp [fvL, ih]
theorem gatherU_snoc (b : Nat → List ByteArray) (p : List ByteArray) : ∀ (ps : List (List ByteArray)) (k : Nat) (acc : List ByteArray), gatherU b k acc (ps ++ [p]) = un (gatherU b k acc ps) (minus (b (k + ps.length)) p)
  | [], k, acc => by simp [gatherU]
  | q :: ps, k, acc => by
    simp only [List.cons_append, gatherU, List.length_cons]
    rw [gatherU_snoc b p ps (k + 1)]
    congr 3
    omega
def outK (t : Tm) (k : Nat) : List ByteArray := gatherU t.bndAt 0 [] (fvL (t.args.take k))
theorem outK_next (t : Tm) {k : Nat} (hk : k < t.args.length) : outK t (k + 1) = un (outK t k) (minus (t.bndAt k) t.args[k].fv) := by
  unfold outK
  rw [tm_take_next hk, fvL_map, List.map_append, List.map_singleton, gatherU_snoc, ← fvL_map]
  congr 3
  simp [fvL_map, List.length_take]
  omega
theorem fv_not (t : Tm) (h : ¬ t.kind = 1) : t.fv = outK t t.args.length := by
  cases t with
  | mk k a o n x r ts =>
    unfold outK
    rw [List.take_length]
    simp only [Tm.fv]
    rw [if_neg (show ¬ k = 1 from h)]
    rfl
theorem fv_var (t : Tm) (h : t.kind = 1) : t.fv = [t.name] := by
  cases t with
  | mk k a o n x r ts =>
    simp only [Tm.fv]
    rw [if_pos (show k = 1 from h)]
    rfl
theorem minus_length (nb p : List ByteArray) : (minus nb p).length ≤ p.length := by
  rw [minus_filter]
  exact List.length_filter_le _ _
theorem un_length (a b : List ByteArray) : (un a b).length ≤ a.length + b.length := by
  have h1 := add_length a []
  have h2 := add_length b (add [] a)
  unfold un
  simp only [List.length_nil] at h1
  omega
mutual
theorem Tm.fv_len : ∀ t : Tm, t.fv.length ≤ t.nodes
  | .mk k a o n t r ts => by
    simp only [Tm.fv, Tm.nodes]
    by_cases hk : k = 1
    · rw [if_pos hk]; simp only [List.length_singleton]; omega
    · rw [if_neg hk]
      have := gatherU_len (Tm.bndAt (.mk k a o n t r ts)) 0 [] ts
      simp only [List.length_nil] at this
      omega
theorem gatherU_len : ∀ (b : Nat → List ByteArray) (k : Nat) (acc : List ByteArray) (ts : List Tm), (gatherU b k acc (fvL ts)).length ≤ acc.length + nodesM ts
  | b, k, acc, [] => by simp [fvL, gatherU]
  | b, k, acc, t :: ts => by
    simp only [fvL, gatherU, nodesM]
    have h1 := gatherU_len b (k + 1) (un acc (minus (b k) t.fv)) ts
    have h2 := un_length acc (minus (b k) t.fv)
    have h3 := minus_length (b k) t.fv
    have h4 := Tm.fv_len t
    omega
end
theorem outK_len (t : Tm) (k : Nat) : (outK t k).length ≤ nodesM t.args := by
  have h1 := gatherU_len t.bndAt 0 [] (t.args.take k)
  have h2 := nodesM_take_le t.args k
  simp only [List.length_nil] at h1
  unfold outK
  omega
theorem own_one (w : World) (a : ByteArray) : Own (w.alloc (.cells #[.string a] 9)) w.heap.size (.slice (some ⟨w.heap.size, 0, none⟩) 1 1) [a] :=
  World.ownsRow_lit w #[.string a] 1 (Nat.le_refl _) (by unfold maxLen; omega) rfl
theorem own_two (w : World) (a b : ByteArray) : Own (w.alloc (.cells #[.string a, .string b] 9)) w.heap.size (.slice (some ⟨w.heap.size, 0, none⟩) 2 2) [a, b] :=
  World.ownsRow_lit w #[.string a, .string b] 2 (Nat.le_refl _) (by unfold maxLen; omega) rfl
theorem Own.base {w : World} {B B' : Nat} {v : Value} {xs : List ByteArray} (h : Own w B v xs) (hb : B' ≤ B) : Own w B' v xs := ownsRow_mono h hb

theorem nodesM_len : ∀ ts : List Tm, ts.length ≤ nodesM ts
  | [] => by simp
  | t :: ts => by
    have h1 := nodesM_len ts
    have h2 := t.nodes_eq
    simp only [List.length_cons, nodesM]
    omega
def BoundRet (t : Tm) (w : World) (e : Ending) (w' : World) : Prop :=
  ∃ v q, e = .returned (.tuple #[v, .int .i64 q]) ∧ Own w' w.heap.size v t.bnd ∧ q = (if t.bnd = [] then -1 else (t.args.length : Int) - 1) ∧ Below w.heap.size w w'
set_option maxRecDepth 100000 in
set_option maxHeartbeats 4000000 in
theorem boundS_any (t : Tm) (tp : Option Addr) (tc : Nat) (rp : Option Addr) (rc : Nat) (p : Option Addr) (c : Nat) (w : World) : Calls Tryd.prog 30 #[tmV t tp tc rp rc p c] w (BoundRet t w) := by
  have HX := Lib.hid (Bx9.new w t tp tc rp rc p c 36)
  have hb := al_below w (.cells (tmC t tp tc rp rc p c) 36)
  have hsz : (w.alloc (.cells (tmC t tp tc rp rc p c) 36)).heap.size = w.heap.size + 1 := by simp
  have HB := Lib.hid (And.intro hb hsz)
  have no : t.bnd = [] → ∀ W : World, Below w.heap.size w W → BoundRet t w (.returned (.tuple #[.slice (some ⟨W.heap.size, 0, none⟩) 0 0, .int .i64 (-1)])) (W.alloc (.cells #[] 9)) := fun h W hW =>
    ⟨_, _, rfl, by rw [h]; exact (own_empty W).base hW.size, by rw [if_pos h], hW.trans ((al_below W _).mono hW.size)⟩
  have one : t.bnd = [t.name] → ∀ W : World, ∀ q : Int, q = (t.args.length : Int) - 1 → Below w.heap.size w W → BoundRet t w (.returned (.tuple #[.slice (some ⟨W.heap.size, 0, none⟩) 1 1, .int .i64 q])) (W.alloc (.cells #[.string t.name] 9)) := fun h W q hq hW =>
    ⟨_, _, rfl, by rw [h]; exact (own_one W _).base hW.size, by rw [if_neg (by rw [h]; simp)]; exact hq, hW.trans ((al_below W _).mono hW.size)⟩
  have two : t.bnd = [t.name, t.other] → ∀ W : World, ∀ q : Int, q = (t.args.length : Int) - 1 → Below w.heap.size w W → BoundRet t w (.returned (.tuple #[.slice (some ⟨W.heap.size, 0, none⟩) 2 2, .int .i64 q])) (W.alloc (.cells #[.string t.name, .string t.other] 9)) := fun h W q hq hW =>
    ⟨_, _, rfl, by rw [h]; exact (own_two W _ _).base hW.size, by rw [if_neg (by rw [h]; simp)]; exact hq, hW.trans ((al_below W _).mono hW.size)⟩
  have HNO := Lib.hid no
  have HONE := Lib.hid one
  have HTWO := Lib.hid two
  clear no one two hb hsz
  obtain ⟨g0, g1, g2, g3, g4, g5, g6, g7, g8⟩ := HX.out
  go_enter Tryd.func30, Tryd.ntmps30
  by_cases h6 : t.kind = 6
  · have d6 : decide (t.kind = 6) = true := decide_eq_true h6
    have e6 : (t.kind == 6) = true := by simp; omega
    have HK := Lib.hid h6
    have d8 : decide (t.kind = 8) = false := decide_eq_false (by omega)
    have e8 : (t.kind == 8) = false := by simp; omega
    have d9 : decide (t.kind = 9) = false := decide_eq_false (by omega)
    have e9 : (t.kind == 9) = false := by simp; omega
    by_cases hl : t.args.length = 1
    · have hbd := Lib.hid (show t.bnd = [t.name] by unfold Tm.bnd; rw [if_pos ⟨h6, hl⟩])
      have HL := Lib.hid hl
      have dl : decide ((t.args.length : Int) = 1) = true := decide_eq_true (by omega)
      have dl' : decide (t.args.length = 1) = true := decide_eq_true hl
      have dl2 : ((t.args.length : Int) == 1) = true := by simp; omega
      clear h6 hl
      go_wp2_with fail
      go_ret2
      have he := HONE.out hbd.out _ 0 (by have := HL.out; omega) HB.out.1
      rw [HB.out.2] at he
      exact he
    · have hbd := Lib.hid (show t.bnd = [] by unfold Tm.bnd; rw [if_neg (fun h => hl h.2), if_neg (fun h => by omega), if_neg (fun h => by omega)])
      have dl : decide ((t.args.length : Int) = 1) = false := decide_eq_false (by omega)
      have dl' : decide (t.args.length = 1) = false := decide_eq_false hl
      have dl2 : ((t.args.length : Int) == 1) = false := by simp; omega
      clear h6 hl
      go_wp2_with fail
      go_ret2
      have he := HNO.out hbd.out _ HB.out.1
      rw [HB.out.2] at he
      exact he
  by_cases h8 : t.kind = 8
  · have d6 : decide (t.kind = 6) = false := decide_eq_false h6
    have e6 : (t.kind == 6) = false := by simp; omega
    have d8 : decide (t.kind = 8) = true := decide_eq_true h8
    have e8 : (t.kind == 8) = true := by simp; omega
    have HK := Lib.hid h8
    have d9 : decide (t.kind = 9) = false := decide_eq_false (by omega)
    have e9 : (t.kind == 9) = false := by simp; omega
    by_cases hl : t.args.length = 2
    · have hbd := Lib.hid (show t.bnd = [t.name] by unfold Tm.bnd; rw [if_neg (fun h => h6 h.1), if_pos ⟨h8, hl⟩])
      have HL := Lib.hid hl
      have dl : decide ((t.args.length : Int) = 2) = true := decide_eq_true (by omega)
      have dl' : decide (t.args.length = 2) = true := decide_eq_true hl
      have dl2 : ((t.args.length : Int) == 2) = true := by simp; omega
      clear h6 h8 hl
      go_wp2_with fail
      go_ret2
      have he := HONE.out hbd.out _ 1 (by have := HL.out; omega) HB.out.1
      rw [HB.out.2] at he
      exact he
    · have hbd := Lib.hid (show t.bnd = [] by unfold Tm.bnd; rw [if_neg (fun h => h6 h.1), if_neg (fun h => hl h.2), if_neg (fun h => by omega)])
      have dl : decide ((t.args.length : Int) = 2) = false := decide_eq_false (by omega)
      have dl' : decide (t.args.length = 2) = false := decide_eq_false hl
      have dl2 : ((t.args.length : Int) == 2) = false := by simp; omega
      clear h6 h8 hl
      go_wp2_with fail
      go_ret2
      have he := HNO.out hbd.out _ HB.out.1
      rw [HB.out.2] at he
      exact he
  by_cases h9 : t.kind = 9
  · have d6 : decide (t.kind = 6) = false := decide_eq_false h6
    have e6 : (t.kind == 6) = false := by simp; omega
    have d8 : decide (t.kind = 8) = false := decide_eq_false h8
    have e8 : (t.kind == 8) = false := by simp; omega
    have d9 : decide (t.kind = 9) = true := decide_eq_true h9
    have e9 : (t.kind == 9) = true := by simp; omega
    have HK := Lib.hid h9
    by_cases hl : t.args.length = 1
    · have hbd := Lib.hid (show t.bnd = [t.name, t.other] by unfold Tm.bnd; rw [if_neg (fun h => h6 h.1), if_neg (fun h => h8 h.1), if_pos ⟨h9, hl⟩])
      have HL := Lib.hid hl
      have dl : decide ((t.args.length : Int) = 1) = true := decide_eq_true (by omega)
      have dl' : decide (t.args.length = 1) = true := decide_eq_true hl
      have dl2 : ((t.args.length : Int) == 1) = true := by simp; omega
      clear h6 h8 h9 hl
      go_wp2_with fail
      go_ret2
      have he := HTWO.out hbd.out _ 0 (by have := HL.out; omega) HB.out.1
      rw [HB.out.2] at he
      exact he
    · have hbd := Lib.hid (show t.bnd = [] by unfold Tm.bnd; rw [if_neg (fun h => h6 h.1), if_neg (fun h => h8 h.1), if_neg (fun h => hl h.2)])
      have dl : decide ((t.args.length : Int) = 1) = false := decide_eq_false (by omega)
      have dl' : decide (t.args.length = 1) = false := decide_eq_false hl
      have dl2 : ((t.args.length : Int) == 1) = false := by simp; omega
      clear h6 h8 h9 hl
      go_wp2_with fail
      go_ret2
      have he := HNO.out hbd.out _ HB.out.1
      rw [HB.out.2] at he
      exact he
  · have d6 : decide (t.kind = 6) = false := decide_eq_false h6
    have e6 : (t.kind == 6) = false := by simp; omega
    have d8 : decide (t.kind = 8) = false := decide_eq_false h8
    have e8 : (t.kind == 8) = false := by simp; omega
    have d9 : decide (t.kind = 9) = false := decide_eq_false h9
    have e9 : (t.kind == 9) = false := by simp; omega
    have hbd := Lib.hid (show t.bnd = [] by unfold Tm.bnd; rw [if_neg (fun h => h6 h.1), if_neg (fun h => h8 h.1), if_neg (fun h => h9 h.1)])
    clear h6 h8 h9
    go_wp2_with fail
    go_ret2
    have he := HNO.out hbd.out _ HB.out.1
    rw [HB.out.2] at he
    exact he

theorem bndAt_not {t : Tm} {k : Nat} (h : ¬ k + 1 = t.args.length) : t.bndAt k = [] := by unfold Tm.bndAt; rw [if_neg h]
theorem bndAt_yes {t : Tm} {k : Nat} (h : k + 1 = t.args.length) : t.bndAt k = t.bnd := by unfold Tm.bndAt; rw [if_pos h]
theorem bnd_len (t : Tm) : t.bnd.length ≤ 2 := by
  unfold Tm.bnd
  split
  · simp
  · split
    · simp
    · split <;> simp
theorem minus_next (nb p : List ByteArray) {i : Nat} (hi : i < nb.length) : minus (nb.take (i + 1)) p = wo nb[i] (minus (nb.take i) p) := by
  rw [List.take_add_one, List.getElem?_eq_getElem hi]
  show minus (nb.take i ++ [nb[i]]) p = _
  rw [minus_minus]
  rfl
set_option maxRecDepth 100000 in
set_option maxHeartbeats 4000000 in
/-- THE MODEL's FreeVars. -/
theorem fvS_any : ∀ (m : Nat) {C : Nat → Prop} {t : Tm} {tp : Option Addr} {tc : Nat} {rp : Option Addr} {rc : Nat} {p : Option Addr} {c : Nat} (w : World), t.nodes ≤ m → TM' w C t tp tc rp rc p c → t.nodes ≤ 1048577 →
    Calls Tryd.prog 10 #[tmV t tp tc rp rc p c] w (NewS' t.fv w)
  | m, C, t, tp, tc, rp, rc, p, c, w, hm, hT, hn => by
    have hpart : ∀ (j : Nat) (hj : j < t.args.length) (W : World), Below w.heap.size w W → ∃ (b o : Nat) (tp' : Option Addr) (tc' : Nat) (rp' : Option Addr) (rc' : Nat) (p' : Option Addr) (c' : Nat), p = some ⟨b, o, none⟩ ∧ At9 W b (o + j * 9) t.args[j] tp' tc' rp' rc' p' c' ∧
        Calls Tryd.prog 10 #[tmV t.args[j] tp' tc' rp' rc' p' c'] W (NewS' t.args[j].fv W) := fun j hj W hW => by
      obtain ⟨b, o, tp', tc', rp', rc', p', c', e, hC, hb, h9, hx⟩ := tm_part hT.args j hj
      have hle := nodesM_at t.args j hj
      rw [Tm.nodes_eq] at hm hn
      match m, hm with
      | 0, hm => omega
      | m + 1, hm => exact ⟨b, o, tp', tc', rp', rc', p', c', e, h9 W (.of_below hW), fvS_any m W (by omega) (hx.stays (.of_below hW)) (by omega)⟩
    have HP := Lib.hid hpart
    have HX := Lib.hid (Bx9.new w t tp tc rp rc p c 36)
    have hlen : t.args.length ≤ 1048576 := by
      have h1 := t.nodes_eq
      have h2 := nodesM_len t.args
      omega
    have HNM := Lib.hid (show nodesM t.args ≤ 1048576 by have h1 := t.nodes_eq; omega)
    have HB := Lib.hid (al_below w (.cells (tmC t tp tc rp rc p c) 36))
    clear hpart hT hm hn
    obtain ⟨g0, g1, g2, g3, g4, g5, g6, g7, g8⟩ := HX.out
    go_enter Tryd.func10, Tryd.ntmps10
    by_cases h1 : t.kind = 1
    · have d1 : decide (t.kind = 1) = true := decide_eq_true h1
      have e1 : (t.kind == 1) = true := by simp; omega
      have HV := Lib.hid (fv_var t h1)
      clear h1
      go_wp2_with fail
      go_ret
      have he := (own_one (w.alloc (.cells (tmC t tp tc rp rc p c) 36)) t.name).base HB.out.size
      rw [World.size_alloc] at he
      exact ⟨_, rfl, by rw [HV.out]; exact he, HB.out.trans ((al_below _ _).mono HB.out.size)⟩
    have d1 : decide (t.kind = 1) = false := decide_eq_false h1
    have e1 : (t.kind == 1) = false := by simp; omega
    have HV := Lib.hid (fv_not t h1)
    clear h1
    go_wp2_with fail
    refine (boundS_any t tp tc rp rc p c _).mono ?_
    rintro e w1 ⟨vn, q, rfl, hown, hq, hb1⟩
    obtain ⟨pn, cn, rfl, hat⟩ := hown.ss.at
    have hbb := HB.out.trans (hb1.mono HB.out.size)
    have HX1 := Lib.hid (HX.out.keep hb1)
    have HBB := Lib.hid hbb
    have HAT := Lib.hid hat
    have HQ := Lib.hid hq
    have hbl := bnd_len t
    clear g0 g1 g2 g3 g4 g5 g6 g7 g8 hown hq hb1 hbb hat
    go_wp2_with fail
    go_loopw [5, 6] (fun v i wr => ∃ k : Nat, k ≤ t.args.length ∧ i = .int .i64 k ∧ Own wr w.heap.size v (outK t k) ∧ Below w1.heap.size w1 wr) (fun _ i _ => t.args.length - (intOf i).toNat)
    case atStart => exact ⟨0, Nat.zero_le _, rfl, by show Own _ _ _ (gatherU _ 0 [] (fvL (t.args.take 0))); exact (own_empty w1).base HBB.out.size, al_below w1 _⟩
    case round =>
      obtain ⟨k, hk, rfl, hown, hbr⟩ := hrel
      have HO := Lib.hid hown
      have HBR := Lib.hid hbr
      have HX2 := Lib.hid (HX1.out.keep hbr)
      obtain ⟨g0, g1, g2, g3, g4, g5, g6, g7, g8⟩ := HX2.out
      clear hown hbr
      by_cases hlk : k < t.args.length
      · obtain ⟨b, o, tp', tc', rp', rc', p', c', rfl, h9, hC⟩ := HP.out k hlk wr (HBB.out.trans (HBR.out.mono HBB.out.size))
        obtain ⟨f0, f1, f2, f3, f4, f5, f6, f7, f8⟩ := h9
        have HC := Lib.hid hC
        have HNX := Lib.hid (outK_next t hlk)
        have hfl : t.args[k].fv.length ≤ 1048576 := by
          have h1 := t.args[k].fv_len
          have h2 := nodesM_at t.args k hlk
          have h3 := HNM.out
          omega
        have hol : (outK t k).length ≤ 1048576 := Nat.le_trans (outK_len t k) HNM.out
        have i0 : (0 : Int) ≤ (k : Int) := Int.natCast_nonneg _
        have i1 : (k : Int) < (t.args.length : Int) := by omega
        clear hC
        go_wp2_with fail
        refine HC.out.mono ?_
        rintro e w2 ⟨v2, rfl, hown2, hb2⟩
        have HO2 := Lib.hid (hown2.base (Nat.le_trans HBB.out.size HBR.out.size))
        have HB2 := Lib.hid (HBR.out.trans (hb2.mono HBR.out.size))
        have HOa := Lib.hid (HO.out.below hb2)
        clear hown2 hb2 g0 g1 g2 g3 g4 g5 g6 g7 g8 f0 f1 f2 f3 f4 f5 f6 f7 f8 HC HO HX2
        go_wp2_with fail
        have HNXb := Lib.hid (show outK t (k + 1) = un (outK t k) (minus ((t.bndAt k).take (t.bndAt k).length) t.args[k].fv) by rw [List.take_length]; exact HNX.out)
        have hEl : (t.bndAt k).length ≤ 2 := by
          unfold Tm.bndAt
          split
          · exact bnd_len t
          · simp
        go_loopw [7, 8] (fun v i wx => ∃ j : Nat, j ≤ (t.bndAt k).length ∧ i = .int .i64 j ∧ Own wx w.heap.size v (minus ((t.bndAt k).take j) t.args[k].fv) ∧ Below w2.heap.size w2 wx) (fun _ i _ => (t.bndAt k).length - (intOf i).toNat)
        case atStart => exact ⟨0, Nat.zero_le _, rfl, HO2.out, Below.refl _ _⟩
        case round =>
          obtain ⟨j, hj, rfl, hown, hbx⟩ := hrel
          have HOX := Lib.hid hown
          have HBX := Lib.hid hbx
          have hml : (minus ((t.bndAt k).take j) t.args[k].fv).length ≤ 1048576 := Nat.le_trans (minus_length _ _) hfl
          clear hown hbx
          by_cases hjl : j < (t.bndAt k).length
          · have hkl : k + 1 = t.args.length := Classical.byContradiction fun h => by
              rw [bndAt_not h] at hjl
              simp at hjl
            have hE := bndAt_yes hkl
            have hjb : j < t.bnd.length := by rw [← hE]; exact hjl
            have hqk : q = (k : Int) := by
              have h1 := HQ.out
              rw [if_neg (fun h => by rw [h] at hjb; simp at hjb)] at h1
              omega
            obtain ⟨b4, o4, rfl, hb4, c4⟩ := HAT.out j _ (List.getElem?_eq_getElem hjb)
            have c5 := (HBX.out.cell (p := ⟨b4, o4 + j, none⟩) (by have := HB2.out.size; show b4 < w2.heap.size; omega)).trans ((HB2.out.cell (p := ⟨b4, o4 + j, none⟩) hb4).trans c4)
            have HMN := Lib.hid (show minus ((t.bndAt k).take (j + 1)) t.args[k].fv = wo t.bnd[j] (minus ((t.bndAt k).take j) t.args[k].fv) by
              rw [minus_next _ _ hjl]
              congr 1
              simp only [hE])
            have e1' : ((k : Int) == q) = true := by simp [hqk]
            clear c4 hqk hE
            go_wp2_with fail
            refine (woS_any _ _ t.bnd[j] wr (by omega) HOX.out.ss).mono ?_
            rintro e w4 ⟨v4, rfl, hown4, hb4'⟩
            have HO4 := Lib.hid (hown4.base (Nat.le_trans (Nat.le_trans HBB.out.size HB2.out.size) HBX.out.size))
            have HB4 := Lib.hid (HBX.out.trans (hb4'.mono HBX.out.size))
            clear hown4 hb4' c5
            go_wp2_with fail
            go_roundw
            case rel => exact ⟨j + 1, by omega, by go_num, by rw [HMN.out]; exact HO4.out, HB4.out⟩
            case measure => simp [intOf]; omega
          · obtain rfl : j = (t.bndAt k).length := by omega
            have HR : Hid (Calls Tryd.prog 32 #[_, _] wr (NewS' (outK t (k + 1)) wr)) := Lib.hid (by
              rw [HNXb.out]
              exact unS_any _ _ _ _ wr hol hml (HOa.out.below HBX.out).ss HOX.out.ss)
            rcases (show ¬ (t.bndAt k).length < t.bnd.length ∨ ((t.bndAt k).length < t.bnd.length ∧ ((k : Int) == q) = false) by
              by_cases hkl : k + 1 = t.args.length
              · exact Or.inl (by rw [bndAt_yes hkl]; omega)
              · by_cases h0 : t.bnd = []
                · exact Or.inl (by rw [h0]; simp)
                · right
                  have h1 := HQ.out
                  rw [if_neg h0] at h1
                  refine ⟨by rw [bndAt_not hkl]; exact List.length_pos_iff.2 h0, ?_⟩
                  simp
                  omega) with h1 | ⟨h1, h2⟩
            all_goals
              go_wp2_with fail
              refine HR.out.mono ?_
              rintro e w5 ⟨v5, rfl, hown5, hb5⟩
              have HO5 := Lib.hid (hown5.base (Nat.le_trans (Nat.le_trans HBB.out.size HB2.out.size) HBX.out.size))
              have HB5 := Lib.hid ((HB2.out.trans (HBX.out.mono HB2.out.size)).trans (hb5.mono (Nat.le_trans HB2.out.size HBX.out.size)))
              clear hown5 hb5
              go_wp2_with fail
              go_roundw
              case rel => exact ⟨k + 1, by omega, by go_num, HO5.out, HB5.out⟩
              case measure => simp [intOf]; omega
      · obtain rfl : k = t.args.length := by omega
        go_wp2_with fail
        go_ret
        exact ⟨_, rfl, by rw [HV.out]; exact HO.out, HBB.out.trans (HBR.out.mono HBB.out.size)⟩
set_option maxRecDepth 100000 in
set_option maxHeartbeats 1000000 in
/-- THE MODEL's IsClosed. -/
theorem closedS_any {C : Nat → Prop} {t : Tm} {v : Value} {w : World} (h : TM w C t v) (hn : t.nodes ≤ 1048577) : Calls Tryd.prog 18 #[v] w (BoolRet (fun r => r = true ↔ t.fv = []) w) := by
  obtain ⟨tp, tc, rp, rc, p, c, rfl, hT⟩ := h
  have hb := al_below w (.cells (tmC t tp tc rp rc p c) 36)
  have HC := Lib.hid (fvS_any _ _ (Nat.le_refl _) (hT.stays (.of_below hb)) hn)
  have HB := Lib.hid hb
  clear hT hb
  go_enter Tryd.func18, Tryd.ntmps18
  go_wp2_with fail
  refine HC.out.mono ?_
  rintro e w1 ⟨v1, rfl, hown, hb1⟩
  obtain ⟨p1, c1, rfl, -⟩ := hown.ss.at
  have HB1 := Lib.hid (HB.out.trans (hb1.mono HB.out.size))
  clear hown hb1
  by_cases h0 : t.fv.length = 0
  · have e0 : ((t.fv.length : Int) == 0) = true := by simp [List.eq_nil_of_length_eq_zero h0]
    have HF := Lib.hid (List.eq_nil_of_length_eq_zero h0)
    clear h0
    go_wp2_with fail
    go_ret
    exact ⟨true, by simp [HF.out], rfl, HB1.out⟩
  · have e0 : ((t.fv.length : Int) == 0) = false := by simpa using fun h => h0 (by rw [h]; rfl)
    have HF := Lib.hid (show ¬ t.fv = [] from fun h => h0 (by rw [h]; rfl))
    clear h0
    go_wp2_with fail
    go_ret
    exact ⟨false, by simp [HF.out], rfl, HB1.out⟩
#print axioms closedS_any
end Go.Proofs.YtdfnjfelmfccjaaDoor
/- SpecTy: The contracts of the model's SizeOfType, DepthOfType, l3Form, l3Left, l3Has: what they answer at a type in memory. -/
namespace Go.Proofs.YtdfnjfelmfccjaaDoor
open Go Go.RowKit

end Go.Proofs.YtdfnjfelmfccjaaDoor
