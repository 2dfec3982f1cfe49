/-
  Several texts of the proof in one (each says below what it holds): TmRow TmCopy TmCopy2 DrawI OnceI Pick DrawT2 DrawT3 TmLeaf OwnApp.
-/
import Derived.Test.YtjobmgbchpoheaaGreatDoorPA6
import Derived.Test.YtjobmgbchpoheaaGreatDoorPA3
import Derived.Test.YtjobmgbchpoheaaGreatDoorPA1
import Derived.Test.YtjobmgbchpoheaaGreatDoorPA2
import Derived.Test.YtjobmgbchpoheaaGreatDoorPA4
namespace Go.Proofs.YtjobmgbchpoheaaGreatDoor
open Go Go.RowKit
structure RowM (w : World) (base : Nat) (C : Nat → Prop) (v : Value) (ts : List Tm) (xs : List Value) : Prop where
  own : w.ownsRow base 29 9 v ts.length xs
  blk : ∀ g, v.ownBlock = some g → C g
  ms : MS w (fun z => C z ∧ v.ownBlock ≠ some z) (flatTm ts) xs
theorem own_base {w : World} {a b : Nat} {e : TypeId} {size n : Nat} {v : Value} {xs : List Value} (h : w.ownsRow b e size v n xs) (hab : a ≤ b) : w.ownsRow a e size v n xs := by
  refine ⟨h.1, ?_⟩
  rcases h.2 with h0 | ⟨g, cap, cur, rfl, hg, r⟩
  · exact Or.inl h0
  · exact Or.inr ⟨g, cap, cur, rfl, Nat.le_trans hab hg, r⟩
theorem RowM.start (w : World) (base : Nat) (C : Nat → Prop) : RowM w base C (.slice none 0 0) [] [] := ⟨World.ownsRow_nil _ _ _ _, fun g hg => by simp [Value.ownBlock] at hg, ⟨rfl, fun i d v hd _ => by simp [flatTm] at hd⟩⟩
theorem RowM.stays {w w' : World} {base : Nat} {C : Nat → Prop} {v : Value} {ts : List Tm} {xs : List Value} (h : RowM w base C v ts xs) (hs : Stays C w w') : RowM w' base C v ts xs := by
  have hb := h.blk
  refine ⟨⟨h.own.1, ?_⟩, hb, h.ms.stays (hs.mono (fun _ hz => hz.1))⟩
  rcases h.own.2 with h0 | ⟨g, cap, cur, rfl, hbg, hblk, r⟩
  · exact Or.inl h0
  · exact Or.inr ⟨g, cap, cur, rfl, hbg, (hs.2 g (hb g rfl) (Array.getElem?_eq_some_iff.1 hblk).1).trans hblk, r⟩
theorem RowM.base {w : World} {a b : Nat} {C C' : Nat → Prop} {v : Value} {ts : List Tm} {xs : List Value} (h : RowM w b C v ts xs) (hab : a ≤ b) (hC : ∀ z, C z → z < w.heap.size → C' z) : RowM w a C' v ts xs :=
  ⟨own_base h.own hab, fun g hg => hC g (h.blk g hg) (by
    rcases h.own.2 with ⟨rfl, _⟩ | ⟨g', cap, cur, rfl, hbg, hblk, r⟩
    · simp [Value.ownBlock] at hg
    · simp [Value.ownBlock] at hg
      subst hg
      exact (Array.getElem?_eq_some_iff.1 hblk).1), h.ms.mono (fun z hz hl => ⟨hC z hz.1 hl, hz.2⟩)⟩
theorem RowM.dm {w : World} {base : Nat} {C : Nat → Prop} {v : Value} {ts : List Tm} {xs : List Value} (h : RowM w base C v ts xs) : DM w C (tmD ts) v := by
  have hms := h.ms
  have hblkC := h.blk
  rcases h.own.2 with ⟨rfl, h0⟩ | ⟨g, cap, cur, rfl, hg, hblk, h1, h2, h3, h4⟩
  · obtain rfl := List.eq_nil_of_length_eq_zero h0
    exact .nil _ _ _ _
  · by_cases hz : ts.length = 0
    · obtain rfl := List.eq_nil_of_length_eq_zero hz
      exact .nil _ _ _ _
    · have hlt := (Array.getElem?_eq_some_iff.1 hblk).1
      have hl : (flatTm ts).length = ts.length * 9 := flatTm_len ts
      have hxs : xs.length = ts.length * 9 := by rw [← hl]; exact hms.1
      have at_ : ∀ i d, (flatTm ts)[i]? = some d → i < ts.length * 9 ∧ xs[i]? = some (xs[i]?.getD .nilIface) := fun i d hd => by
        have hi := (List.getElem?_eq_some_iff.1 hd).1
        rw [hl] at hi
        exact ⟨hi, by rw [List.getElem?_eq_getElem (by omega)]; rfl⟩
      exact DM.rows (fun i => xs[i]?.getD .nilIface) (by omega) (by omega) (by unfold maxLen at h2; omega) hl (hblkC g rfl) hlt
        (fun i d hd => by rw [Nat.zero_add, h.own.cellAt i (at_ i d hd).1]; exact (at_ i d hd).2)
        (fun i d hd => (hms.2 i d _ hd (at_ i d hd).2).mono (fun _ hz _ => hz.1))
theorem RowM.app {w w' : World} {base g cap : Nat} {C : Nat → Prop} {v : Value} {ts : List Tm} {xs us : List Value} {x : Tm} (h : RowM w base C v ts xs) (hA : Appd w w' base 29 9 v ts.length xs us g cap) (hg : C g)
    (hx : MS w (fun z => C z ∧ v.ownBlock ≠ some z) x.ds us) : RowM w' base C (.slice (some ⟨g, 0, none⟩) (ts.length + 1) cap) (ts ++ [x]) (xs ++ us) := by
  have go : ∀ {d : D} {u : Value}, DM w (fun z => C z ∧ v.ownBlock ≠ some z) d u → DM w' (fun z => C z ∧ (Value.slice (some ⟨g, 0, none⟩) (ts.length + 1) cap).ownBlock ≠ some z) d u := fun {d u} hd => by
    refine ((hd.mono (C' := fun z => (C z ∧ v.ownBlock ≠ some z) ∧ z < w.heap.size) (fun _ hz hl => ⟨hz, hl⟩)).stays ⟨hA.size, fun z hz hl => (hA.kept z hl hz.1.2).1⟩).mono (fun z hz _ => ⟨hz.1.1, fun e => ?_⟩)
    have := (hA.kept z hz.2 hz.1.2).2
    simp [Value.ownBlock] at e
    omega
  refine ⟨by rw [List.length_append]; exact hA.own, fun g' hg' => by simp [Value.ownBlock] at hg'; exact hg' ▸ hg, ⟨?_, fun i d u hd hu => ?_⟩⟩
  · rw [flatTm_append, List.length_append, List.length_append, h.ms.1]
    have : (flatTm [x]).length = us.length := by rw [hx.1]; simp [flatTm]
    omega
  · have hf : flatTm [x] = x.ds := by simp [flatTm]
    rw [flatTm_append, hf] at hd
    by_cases hi : i < (flatTm ts).length
    · rw [List.getElem?_append_left hi] at hd
      rw [List.getElem?_append_left (by rw [h.ms.1]; exact hi)] at hu
      exact go (h.ms.2 i d u hd hu)
    · rw [List.getElem?_append_right (by omega)] at hd
      rw [List.getElem?_append_right (by rw [h.ms.1]; omega), h.ms.1] at hu
      exact go (hx.2 _ d u hd hu)
structure NewTm (w : World) (base : Nat) (C : Nat → Prop) (t : Tm) (tp : Option Addr) (tc : Nat) (rp : Option Addr) (rc : Nat) (p : Option Addr) (c : Nat) (xs : List Value) : Prop where
  ty : TS w (fun z => C z ∧ (Value.slice p t.args.length c).ownBlock ≠ some z) t.ty.args (.slice tp t.ty.args.length tc)
  res : TS w (fun z => C z ∧ (Value.slice p t.args.length c).ownBlock ≠ some z) t.res.args (.slice rp t.res.args.length rc)
  row : RowM w base C (.slice p t.args.length c) t.args xs
theorem NewTm.tm {w : World} {base : Nat} {C : Nat → Prop} {t : Tm} {tp rp p : Option Addr} {tc rc c : Nat} {xs : List Value} (h : NewTm w base C t tp tc rp rc p c xs) : TM' w C t tp tc rp rc p c :=
  ⟨h.ty.mono (fun _ hz _ => hz.1), h.res.mono (fun _ hz _ => hz.1), h.row.dm⟩
theorem NewTm.stays {w w' : World} {base : Nat} {C : Nat → Prop} {t : Tm} {tp rp p : Option Addr} {tc rc c : Nat} {xs : List Value} (h : NewTm w base C t tp tc rp rc p c xs) (hs : Stays C w w') : NewTm w' base C t tp tc rp rc p c xs :=
  ⟨h.ty.stays (hs.mono (fun _ hz => hz.1)), h.res.stays (hs.mono (fun _ hz => hz.1)), h.row.stays hs⟩
theorem NewTm.base {w : World} {a b : Nat} {C C' : Nat → Prop} {t : Tm} {tp rp p : Option Addr} {tc rc c : Nat} {xs : List Value} (h : NewTm w b C t tp tc rp rc p c xs) (hab : a ≤ b) (hC : ∀ z, C z → z < w.heap.size → C' z) : NewTm w a C' t tp tc rp rc p c xs :=
  ⟨h.ty.mono (fun z hz hl => ⟨hC z hz.1 hl, hz.2⟩), h.res.mono (fun z hz hl => ⟨hC z hz.1 hl, hz.2⟩), h.row.base hab hC⟩
theorem TM'.ms {w : World} {C : Nat → Prop} {t : Tm} {tp rp p : Option Addr} {tc rc c : Nat} (h : TM' w C t tp tc rp rc p c) :
    MS w C t.ds [.int .i64 t.kind, .string t.name, .string t.other, .int .i64 t.n, .int .i64 t.ty.kind, .slice tp t.ty.args.length tc, .int .i64 t.res.kind, .slice rp t.res.args.length rc, .slice p t.args.length c] := by
  refine ⟨by rw [t.ds_len]; rfl, fun i d v hd hv => ?_⟩
  rw [t.ds_eq] at hd
  match i, hd, hv with
  | 0, hd, hv => cases hd; cases hv; exact .cell _
  | 1, hd, hv => cases hd; cases hv; exact .cell _
  | 2, hd, hv => cases hd; cases hv; exact .cell _
  | 3, hd, hv => cases hd; cases hv; exact .cell _
  | 4, hd, hv => cases hd; cases hv; exact .cell _
  | 5, hd, hv => cases hd; cases hv; exact h.ty.dm
  | 6, hd, hv => cases hd; cases hv; exact .cell _
  | 7, hd, hv => cases hd; cases hv; exact h.res.dm
  | 8, hd, hv => cases hd; cases hv; exact h.args
  | n + 9, hd, hv => simp at hv
end Go.Proofs.YtjobmgbchpoheaaGreatDoor
namespace Go.Proofs.YtjobmgbchpoheaaGreatDoor
open Go Go.RowKit

theorem infoTm : (Tryz.prog.info? 29).map (fun i => (i.zero, i.size, i.bytes)) = some (some (.agg #[.int .i64 0, .string ⟨#[]⟩, .string ⟨#[]⟩, .int .i64 0, .int .i64 0, .slice none 0 0, .int .i64 0, .slice none 0 0, .slice none 0 0]), 9, 136) := by kernel_rfl
abbrev tmL (t : Tm) (tp : Option Addr) (tc : Nat) (rp : Option Addr) (rc : Nat) (p : Option Addr) (c : Nat) : List Value :=
  [.int .i64 t.kind, .string t.name, .string t.other, .int .i64 t.n, .int .i64 t.ty.kind, .slice tp t.ty.args.length tc, .int .i64 t.res.kind, .slice rp t.res.args.length rc, .slice p t.args.length c]
def OMv (w : World) (t : Tm) (v : Value) (F : Nat → Prop) : Prop := ∃ tp tc rp rc p c, v = tmV t tp tc rp rc p c ∧ OSt w t.ds (tmL t tp tc rp rc p c) F
theorem OSt.tm {w : World} {t : Tm} {tp rp p : Option Addr} {tc rc c : Nat} {F : Nat → Prop} (h : OSt w t.ds (tmL t tp tc rp rc p c) F) : TM' w F t tp tc rp rc p c := by
  have hm := h.ms.2
  rw [t.ds_eq] at hm
  exact ⟨(hm 5 _ _ rfl rfl).ts _ (Nat.le_refl _), (hm 7 _ _ rfl rfl).ts _ (Nat.le_refl _), hm 8 _ _ rfl rfl⟩
theorem OMv.tm {w : World} {t : Tm} {v : Value} {F : Nat → Prop} (h : OMv w t v F) : TM w F t v := by
  obtain ⟨tp, tc, rp, rc, p, c, hv, h⟩ := h
  exact ⟨tp, tc, rp, rc, p, c, hv, h.tm⟩
theorem OMv.stays {w w' : World} {t : Tm} {v : Value} {F : Nat → Prop} (h : OMv w t v F) (hs : Stays F w w') : OMv w' t v F := by
  obtain ⟨tp, tc, rp, rc, p, c, hv, h⟩ := h
  exact ⟨tp, tc, rp, rc, p, c, hv, h.stays hs⟩
theorem OMv.keep {w w' : World} {t : Tm} {v : Value} {F : Nat → Prop} (h : OMv w t v F) (hb : Below w.heap.size w w') : OMv w' t v F := h.stays (.of_below hb)
theorem OSt9 {w : World} {t : Tm} {tp rp p : Option Addr} {tc rc c : Nat} {F F1 F2 F3 : Nat → Prop} (h1 : OS w t.ty.args (.slice tp t.ty.args.length tc) F1) (h2 : OS w t.res.args (.slice rp t.res.args.length rc) F2) (h3 : DO w (tmD t.args) (.slice p t.args.length c) F3)
    (a1 : ∀ z, F1 z → F z ∧ ¬ F2 z ∧ ¬ F3 z) (a2 : ∀ z, F2 z → F z ∧ ¬ F3 z) (a3 : ∀ z, F3 z → F z) : OSt w t.ds (tmL t tp tc rp rc p c) F := by
  refine ⟨by rw [t.ds_len]; rfl, fun i z => (i = 5 ∧ F1 z) ∨ (i = 7 ∧ F2 z) ∨ (i = 8 ∧ F3 z), fun i d v hd hv => ?_, fun i z _ hz => ?_, fun i j z _ _ hij hz1 hz2 => ?_⟩
  · rw [t.ds_eq] at hd
    match i, hd, hv with
    | 0, hd, hv => cases hd; cases hv; exact .cell _ _
    | 1, hd, hv => cases hd; cases hv; exact .cell _ _
    | 2, hd, hv => cases hd; cases hv; exact .cell _ _
    | 3, hd, hv => cases hd; cases hv; exact .cell _ _
    | 4, hd, hv => cases hd; cases hv; exact .cell _ _
    | 5, hd, hv => cases hd; cases hv; exact h1.dO.mono (fun z hz => Or.inl ⟨rfl, hz⟩)
    | 6, hd, hv => cases hd; cases hv; exact .cell _ _
    | 7, hd, hv => cases hd; cases hv; exact h2.dO.mono (fun z hz => Or.inr (Or.inl ⟨rfl, hz⟩))
    | 8, hd, hv => cases hd; cases hv; exact h3.mono (fun z hz => Or.inr (Or.inr ⟨rfl, hz⟩))
    | n + 9, hd, hv => simp at hv
  · rcases hz with ⟨_, hz⟩ | ⟨_, hz⟩ | ⟨_, hz⟩
    · exact (a1 z hz).1
    · exact (a2 z hz).1
    · exact a3 z hz
  · rcases hz1 with ⟨rfl, h1⟩ | ⟨rfl, h1⟩ | ⟨rfl, h1⟩ <;> rcases hz2 with ⟨rfl, h2⟩ | ⟨rfl, h2⟩ | ⟨rfl, h2⟩
    · exact hij rfl
    · exact (a1 z h1).2.1 h2
    · exact (a1 z h1).2.2 h2
    · exact (a1 z h2).2.1 h1
    · exact hij rfl
    · exact (a2 z h1).2 h2
    · exact (a1 z h2).2.2 h1
    · exact (a2 z h2).2 h1
    · exact hij rfl
def NewM (t : Tm) (w : World) (e : Ending) (w' : World) : Prop := ∃ v, e = .returned v ∧ OMv w' t v (fun g => w.heap.size ≤ g ∧ g < w'.heap.size) ∧ Below w.heap.size w w'
def NewMS (ts : List Tm) (w : World) (e : Ending) (w' : World) : Prop := ∃ v, e = .returned v ∧ DO w' (tmD ts) v (fun g => w.heap.size ≤ g ∧ g < w'.heap.size) ∧ Below w.heap.size w w'

end Go.Proofs.YtjobmgbchpoheaaGreatDoor
namespace Go.Proofs.YtjobmgbchpoheaaGreatDoor
open Go Go.RowKit

end Go.Proofs.YtjobmgbchpoheaaGreatDoor
namespace Go.Proofs.YtjobmgbchpoheaaGreatDoor
open Go Go.RowKit

def DrawRet (P : Int → Prop) (b : Nat) (w : World) (e : Ending) (w' : World) : Prop := ∃ x : Int, P x ∧ e = .returned (.int .i64 x) ∧ Cur w' b ∧ w.grownBy w' (some b)
def NewRet (w : World) (e : Ending) (w' : World) : Prop := e = .returned (.pointer (some ⟨w.heap.size, 0, none⟩)) ∧ Cur w' w.heap.size ∧ Below w.heap.size w w' ∧ w'.heap.size = w.heap.size + 1
def Bytes (w : World) (v : Value) : Prop :=
  (∃ a cap, v = .slice a 0 cap) ∨ ∃ cb co len cap, v = .slice (some ⟨cb, co, none⟩) len cap ∧ cb < w.heap.size ∧ len ≤ 9223372036854775807 ∧ ∀ j, j < len → ∃ n : Int, 0 ≤ n ∧ n ≤ 255 ∧ w.cell? ⟨cb, co + j, none⟩ = some (.int .u8 n)
def sliceLen : Value → Nat
  | .slice _ n _ => n
  | _ => 0
def Left (b : Nat) (w w' : World) : Prop := Cur w' b ∧ Below b w w'
def DrawsInt (P : Int → Prop) (b : Nat) (w : World) (e : Ending) (w' : World) : Prop := ∃ x : Int, P x ∧ e = .returned (.int .i64 x) ∧ Left b w w'
end Go.Proofs.YtjobmgbchpoheaaGreatDoor
namespace Go.Proofs.YtjobmgbchpoheaaGreatDoor
open Go Go.RowKit

def OnceRet (b : Nat) (w : World) (e : Ending) (w' : World) : Prop := ∃ x : Bool, e = .returned (.bool x) ∧ Cur w' b ∧ w.grownBy w' (some b)
def DrawsBool (b : Nat) (w : World) (e : Ending) (w' : World) : Prop := ∃ x : Bool, e = .returned (.bool x) ∧ Left b w w'
end Go.Proofs.YtjobmgbchpoheaaGreatDoor
namespace Go.Proofs.YtjobmgbchpoheaaGreatDoor
open Go Go.RowKit

def GStr (P : ByteArray → Prop) (b : Nat) (w : World) (e : Ending) (w' : World) : Prop := ∃ x : ByteArray, P x ∧ e = .returned (.string x) ∧ Cur w' b ∧ w.grownBy w' (some b)
end Go.Proofs.YtjobmgbchpoheaaGreatDoor
namespace Go.Proofs.YtjobmgbchpoheaaGreatDoor
open Go Go.RowKit

def TwoRet (t : Ty) (w : World) (k1 k2 : Int) (s1 s2 : Value) (W : World) (e : Ending) (W' : World) : Prop :=
  ∃ (p : Option Addr) (c : Nat), e = .returned (.agg #[.int .i64 t.kind, .slice p t.args.length c]) ∧ TS W' (fun z => w.heap.size + 3 ≤ z) t.args (.slice p t.args.length c) ∧ Two w k1 k2 s1 s2 W' ∧ Below W.heap.size W W'
end Go.Proofs.YtjobmgbchpoheaaGreatDoor
namespace Go.Proofs.YtjobmgbchpoheaaGreatDoor
open Go Go.RowKit

def GInt (P : Int → Prop) (b : Nat) (w : World) (e : Ending) (w' : World) : Prop := ∃ x : Int, P x ∧ e = .returned (.int .i64 x) ∧ Cur w' b ∧ w.grownBy w' (some b)
structure Rdy (w : World) (b : Nat) (W : World) : Prop where
  cur : Cur W b
  grown : w.grownBy W (some b)
  r : W.heap[w.heap.size]? = some (.cells #[.int .i64 0, .slice none 0 0] 26 (0, 0))
def DrawT (d b : Nat) (w : World) (e : Ending) (w' : World) : Prop := ∃ v t, e = .returned v ∧ t.nodes + 1 ≤ 2 ^ d ∧ NewG t w.heap.size w' v ∧ Cur w' b ∧ w.grownBy w' (some b)
end Go.Proofs.YtjobmgbchpoheaaGreatDoor
namespace Go.Proofs.YtjobmgbchpoheaaGreatDoor
open Go Go.RowKit

abbrev leaf (k : Int) (s : ByteArray) (n : Int) : Tm := .mk k s ⟨#[]⟩ n (.mk 0 []) (.mk 0 []) []
abbrev leafV (k : Int) (s : ByteArray) (n : Int) : Value := .agg #[.int .i64 k, .string s, .string ⟨#[]⟩, .int .i64 n, .int .i64 0, .slice none 0 0, .int .i64 0, .slice none 0 0, .slice none 0 0]
abbrev zero9 : Array Value := #[.int .i64 0, .string ⟨#[]⟩, .string ⟨#[]⟩, .int .i64 0, .int .i64 0, .slice none 0 0, .int .i64 0, .slice none 0 0, .slice none 0 0]
structure RdyM (w : World) (b : Nat) (W : World) : Prop where
  cur : Cur W b
  grown : w.grownBy W (some b)
  r : W.heap[w.heap.size]? = some (.cells zero9 29 (0, 0))
def LeafRet (k : Int) (s : ByteArray) (n : Int) (w : World) (e : Ending) (w' : World) : Prop := e = .returned (leafV k s n) ∧ Below w.heap.size w w'
set_option maxRecDepth 100000 in
set_option maxHeartbeats 1000000 in
theorem l5Var_any (s : ByteArray) (w : World) : Calls Tryz.prog 48 #[.string s] w (LeafRet 1 s 0 w) := by
  go_enter Tryz.func48, Tryz.ntmps48
  go_wp2_with fail
  refine bodyPost_ret (v := leafV 1 s 0) ?_ rfl ?_
  · rw [results_cell1 rfl]
    go_simp
  · exact ⟨rfl, al_below _ _⟩
set_option maxRecDepth 100000 in
set_option maxHeartbeats 1000000 in
theorem l5Int_any (n : Int) (w : World) : Calls Tryz.prog 120 #[.int .i64 n] w (LeafRet 2 ⟨#[]⟩ n w) := by
  go_enter Tryz.func120, Tryz.ntmps120
  go_wp2_with fail
  refine bodyPost_ret (v := leafV 2 ⟨#[]⟩ n) ?_ rfl ?_
  · rw [results_cell1 rfl]
    go_simp
  · exact ⟨rfl, al_below _ _⟩
set_option maxRecDepth 100000 in
set_option maxHeartbeats 1000000 in
theorem l5Bool_any (n : Int) (w : World) : Calls Tryz.prog 72 #[.int .i64 n] w (LeafRet 3 ⟨#[]⟩ n w) := by
  go_enter Tryz.func72, Tryz.ntmps72
  go_wp2_with fail
  refine bodyPost_ret (v := leafV 3 ⟨#[]⟩ n) ?_ rfl ?_
  · rw [results_cell1 rfl]
    go_simp
  · exact ⟨rfl, al_below _ _⟩
def LeafG (b : Nat) (w : World) (e : Ending) (w' : World) : Prop := ∃ (k : Int) (s : ByteArray) (n : Int), e = .returned (leafV k s n) ∧ s.size ≤ 1 ∧ Cur w' b ∧ w.grownBy w' (some b)
end Go.Proofs.YtjobmgbchpoheaaGreatDoor
namespace Go.Proofs.YtjobmgbchpoheaaGreatDoor
open Go Go.RowKit

theorem rflat_len (A B : Nat → Value) (n : Nat) : ((List.range n).flatMap fun j => [A j, B j]).length = n * 2 := by
  induction n with
  | zero => rfl
  | succ n ih => rw [List.range_succ, List.flatMap_append, List.length_append, ih]; simp; omega
theorem rflat_at (A B : Nat → Value) (n j : Nat) (h : j < n) : ((List.range n).flatMap fun j => [A j, B j])[j * 2]? = some (A j) ∧ ((List.range n).flatMap fun j => [A j, B j])[j * 2 + 1]? = some (B j) := by
  induction n with
  | zero => omega
  | succ n ih =>
    rw [List.range_succ, List.flatMap_append]
    have hl := rflat_len A B n
    by_cases e : j = n
    · subst e
      rw [List.getElem?_append_right (by omega), List.getElem?_append_right (by omega), hl]
      rw [show j * 2 - j * 2 = 0 by omega, show j * 2 + 1 - j * 2 = 1 by omega]
      simp
    · obtain ⟨h1, h2⟩ := ih (by omega)
      rw [List.getElem?_append_left (by omega), List.getElem?_append_left (by omega)]
      exact ⟨h1, h2⟩
theorem os_inHeap {w : World} {F : Nat → Prop} {ts : List Ty} {v : Value} (h : OS w ts v F) : OS w ts v (fun z => F z ∧ z < w.heap.size) := by
  induction h with
  | none F => exact .none _
  | @row ts b c F K S G hrow hm hF hk hr hG hd ih =>
    exact .row K S (fun j z => G j z ∧ z < w.heap.size) hrow hm ⟨hF, hrow.lt⟩ hk ih (fun j z hj hz => ⟨⟨(hG j z hj hz.1).1, hz.2⟩, (hG j z hj hz.1).2⟩) (fun i j z hi hj hij h1 h2 => hd i j z hi hj hij h1.1 h2.1)
theorem os_grow {w : World} {base : Nat} {ts : List Ty} {v : Value} {F1 F2 : Nat → Prop} {x : Ty} {s : Value} (h : OS w ts v F1) (hx : OS w x.args s F2)
    (h1 : ∀ z, F1 z → base ≤ z ∧ ¬ F2 z) (h2 : ∀ z, F2 z → base ≤ z ∧ z < w.heap.size) :
    ∃ xs, w.ownsRow base 26 2 v ts.length xs ∧ ∀ (w' : World) (g cap : Nat), Appd w w' base 26 2 v ts.length xs [.int .i64 x.kind, s] g cap →
      OS w' (ts ++ [x]) (.slice (some ⟨g, 0, none⟩) (ts.length + 1) cap) (fun z => base ≤ z ∧ z < w'.heap.size) := by
  cases h with
  | none =>
    refine ⟨[], World.ownsRow_nil w base _ 2, fun w' g cap hA => ?_⟩
    obtain ⟨hrow, hb, hc⟩ := Row.of_owns (K := fun _ => x.kind) (S := fun _ => s) hA.own (fun j hj => by
      obtain rfl : j = 0 := by have : j < 0 + 1 := hj; omega
      exact ⟨rfl, rfl⟩)
    have hlt := hrow.lt
    have hs : Stays F2 w w' := ⟨hA.size, fun b hb hl => (hA.kept b hl (by simp [Value.ownBlock])).1⟩
    refine OS.row (ts := [x]) (fun _ => x.kind) (fun _ => s) (fun _ => F2) hrow hc ⟨hb, hlt⟩ (fun j y hj => ?_) (fun j y hj => ?_) (fun j z hj hz => ?_) (fun i j z hi hj hij => ?_)
    · match j, hj with
      | 0, hj => cases hj; rfl
    · match j, hj with
      | 0, hj => cases hj; exact hx.stays hs
    · obtain ⟨e1, e2⟩ := h2 z hz
      have := hA.size
      exact ⟨⟨e1, by omega⟩, fun e => (hA.kept z e2 (by simp [Value.ownBlock])).2 e.symm⟩
    · have hi' : i < 1 := hi
      have hj' : j < 1 := hj
      omega
  | @row ts b c F K S G hrow hm hF hk hr hG hd =>
    have hbase := (h1 b hF).1
    refine ⟨_, hrow.to_owns base hbase hm, fun w' g cap hA => ?_⟩
    have hl := rflat_len (fun j => .int .i64 (K j)) S ts.length
    have hF2b : ∀ z, F2 z → z ≠ b := fun z hz e => (h1 b hF).2 (e ▸ hz)
    have ob : ∀ z, z ≠ b → (Value.slice (some ⟨b, 0, Option.none⟩) ts.length c).ownBlock ≠ some z := fun z hz => by simp only [Value.ownBlock, ne_eq, Option.some.injEq]; omega
    obtain ⟨hrow', hb', hc'⟩ := Row.of_owns (K := fun j => if j < ts.length then K j else x.kind) (S := fun j => if j < ts.length then S j else s) hA.own (fun j hj => by
      by_cases e : j < ts.length
      · obtain ⟨e1, e2⟩ := rflat_at (fun j => .int .i64 (K j)) S ts.length j e
        rw [List.getElem?_append_left (by omega), List.getElem?_append_left (by omega), if_pos e, if_pos e]
        exact ⟨e1, e2⟩
      · obtain rfl : j = ts.length := by omega
        rw [List.getElem?_append_right (by omega), List.getElem?_append_right (by omega), hl, if_neg e, if_neg e]
        rw [show ts.length * 2 - ts.length * 2 = 0 by omega, show ts.length * 2 + 1 - ts.length * 2 = 1 by omega]
        exact ⟨rfl, rfl⟩)
    have hlt := hrow'.lt
    have hlen : (ts ++ [x]).length = ts.length + 1 := by simp
    have gl : ∀ j z, j < ts.length → G j z → base ≤ z ∧ z ≠ b := fun j z hj hz => ⟨(h1 z (hG j z hj hz).1).1, (hG j z hj hz).2⟩
    have key := OS.row (w := w') (ts := ts ++ [x]) (b := g) (c := cap) (F := fun z => base ≤ z ∧ z < w'.heap.size) (fun j => if j < ts.length then K j else x.kind) (fun j => if j < ts.length then S j else s)
      (fun j z => if j < ts.length then G j z ∧ z < w.heap.size else F2 z) (by rw [hlen]; exact hrow') hc' ⟨hb', hlt⟩ (fun j y hj => ?_) (fun j y hj => ?_) (fun j z hj hz => ?_) (fun i j z hi hj hij hz1 hz2 => ?_)
    · rw [hlen] at key; exact key
    · by_cases e : j < ts.length
      · rw [List.getElem?_append_left e] at hj
        simp only [if_pos e]
        exact hk j y hj
      · rw [List.getElem?_append_right (by omega)] at hj
        have : j - ts.length = 0 := by have := (List.getElem?_eq_some_iff.1 hj).1; simp at this; omega
        rw [this] at hj
        cases hj
        simp only [if_neg e]
    · by_cases e : j < ts.length
      · rw [List.getElem?_append_left e] at hj
        simp only [if_pos e]
        have h3 := (hr j y hj)
        have : OS w y.args (S j) (fun z => G j z ∧ z < w.heap.size) := os_inHeap h3
        exact this.stays ⟨hA.size, fun z hz hl => (hA.kept z hl (ob z (gl j z e hz.1).2)).1⟩
      · rw [List.getElem?_append_right (by omega)] at hj
        have : j - ts.length = 0 := by have := (List.getElem?_eq_some_iff.1 hj).1; simp at this; omega
        rw [this] at hj
        cases hj
        simp only [if_neg e]
        exact hx.stays ⟨hA.size, fun z hz hl => (hA.kept z hl (ob z (hF2b z hz))).1⟩
    · have hs := hA.size
      by_cases e : j < ts.length
      · simp only [if_pos e] at hz
        obtain ⟨e1, e2⟩ := gl j z e hz.1
        exact ⟨⟨e1, by omega⟩, fun e => (hA.kept z hz.2 (ob z e2)).2 e.symm⟩
      · simp only [if_neg e] at hz
        obtain ⟨e1, e2⟩ := h2 z hz
        exact ⟨⟨e1, by omega⟩, fun e => (hA.kept z e2 (ob z (hF2b z hz))).2 e.symm⟩
    · rw [hlen] at hi hj
      by_cases ei : i < ts.length
      · simp only [if_pos ei] at hz1
        by_cases ej : j < ts.length
        · simp only [if_pos ej] at hz2
          exact hd i j z ei ej hij hz1.1 hz2.1
        · simp only [if_neg ej] at hz2
          exact (h1 z (hG i z ei hz1.1).1).2 hz2
      · simp only [if_neg ei] at hz1
        by_cases ej : j < ts.length
        · simp only [if_pos ej] at hz2
          exact (h1 z (hG j z ej hz2.1).1).2 hz1
        · omega
end Go.Proofs.YtjobmgbchpoheaaGreatDoor
