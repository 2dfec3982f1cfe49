/-
  Several texts of the proof in one (each says below what it holds): TmRow TmCopy TmCopy2 DrawI OnceI Pick DrawT2.
-/
import Derived.Test.YtjobmgbchpoheaaGreatDoorPB7
import Derived.Test.YtjobmgbchpoheaaGreatDoorPB3
import Derived.Test.YtjobmgbchpoheaaGreatDoorPB1
import Derived.Test.YtjobmgbchpoheaaGreatDoorPB2
import Derived.Test.YtjobmgbchpoheaaGreatDoorPB5
namespace Go.Proofs.YtjobmgbchpoheaaGreatDoor
open Go Go.RowKit
structure RowM (w : World) (base : Nat) (C : Nat → Prop) (v : Value) (ts : List Tm) (xs : List Value) : Prop where
  own : w.ownsRow base 29 9 v ts.length xs
  blk : ∀ g, v.ownBlock = some g → C g
  ms : MS w (fun z => C z ∧ v.ownBlock ≠ some z) (flatTm ts) xs
theorem own_base {w : World} {a b : Nat} {e : TypeId} {size n : Nat} {v : Value} {xs : List Value} (h : w.ownsRow b e size v n xs) (hab : a ≤ b) : w.ownsRow a e size v n xs := by
  refine ⟨h.1, ?_⟩
  rcases h.2 with h0 | ⟨g, cap, cur, rfl, hg, r⟩
  · exact Or.inl h0
  · exact Or.inr ⟨g, cap, cur, rfl, Nat.le_trans hab hg, r⟩
theorem RowM.start (w : World) (base : Nat) (C : Nat → Prop) : RowM w base C (.slice none 0 0) [] [] := ⟨World.ownsRow_nil _ _ _ _, fun g hg => by simp [Value.ownBlock] at hg, ⟨rfl, fun i d v hd _ => by simp [flatTm] at hd⟩⟩
theorem RowM.stays {w w' : World} {base : Nat} {C : Nat → Prop} {v : Value} {ts : List Tm} {xs : List Value} (h : RowM w base C v ts xs) (hs : Stays C w w') : RowM w' base C v ts xs := by
  have hb := h.blk
  refine ⟨⟨h.own.1, ?_⟩, hb, h.ms.stays (hs.mono (fun _ hz => hz.1))⟩
  rcases h.own.2 with h0 | ⟨g, cap, cur, rfl, hbg, hblk, r⟩
  · exact Or.inl h0
  · exact Or.inr ⟨g, cap, cur, rfl, hbg, (hs.2 g (hb g rfl) (Array.getElem?_eq_some_iff.1 hblk).1).trans hblk, r⟩
theorem RowM.base {w : World} {a b : Nat} {C C' : Nat → Prop} {v : Value} {ts : List Tm} {xs : List Value} (h : RowM w b C v ts xs) (hab : a ≤ b) (hC : ∀ z, C z → z < w.heap.size → C' z) : RowM w a C' v ts xs :=
  ⟨own_base h.own hab, fun g hg => hC g (h.blk g hg) (by
    rcases h.own.2 with ⟨rfl, _⟩ | ⟨g', cap, cur, rfl, hbg, hblk, r⟩
    · simp [Value.ownBlock] at hg
    · simp [Value.ownBlock] at hg
      subst hg
      exact (Array.getElem?_eq_some_iff.1 hblk).1), h.ms.mono (fun z hz hl => ⟨hC z hz.1 hl, hz.2⟩)⟩
theorem RowM.dm {w : World} {base : Nat} {C : Nat → Prop} {v : Value} {ts : List Tm} {xs : List Value} (h : RowM w base C v ts xs) : DM w C (tmD ts) v := by
  have hms := h.ms
  have hblkC := h.blk
  rcases h.own.2 with ⟨rfl, h0⟩ | ⟨g, cap, cur, rfl, hg, hblk, h1, h2, h3, h4⟩
  · obtain rfl := List.eq_nil_of_length_eq_zero h0
    exact .nil _ _ _ _
  · by_cases hz : ts.length = 0
    · obtain rfl := List.eq_nil_of_length_eq_zero hz
      exact .nil _ _ _ _
    · have hlt := (Array.getElem?_eq_some_iff.1 hblk).1
      have hl : (flatTm ts).length = ts.length * 9 := flatTm_len ts
      have hxs : xs.length = ts.length * 9 := by rw [← hl]; exact hms.1
      have at_ : ∀ i d, (flatTm ts)[i]? = some d → i < ts.length * 9 ∧ xs[i]? = some (xs[i]?.getD .nilIface) := fun i d hd => by
        have hi := (List.getElem?_eq_some_iff.1 hd).1
        rw [hl] at hi
        exact ⟨hi, by rw [List.getElem?_eq_getElem (by omega)]; rfl⟩
      exact DM.rows (fun i => xs[i]?.getD .nilIface) (by omega) (by omega) (by unfold maxLen at h2; omega) hl (hblkC g rfl) hlt
        (fun i d hd => by rw [Nat.zero_add, h.own.cellAt i (at_ i d hd).1]; exact (at_ i d hd).2)
        (fun i d hd => (hms.2 i d _ hd (at_ i d hd).2).mono (fun _ hz _ => hz.1))
theorem RowM.app {w w' : World} {base g cap : Nat} {C : Nat → Prop} {v : Value} {ts : List Tm} {xs us : List Value} {x : Tm} (h : RowM w base C v ts xs) (hA : Appd w w' base 29 9 v ts.length xs us g cap) (hg : C g)
    (hx : MS w (fun z => C z ∧ v.ownBlock ≠ some z) x.ds us) : RowM w' base C (.slice (some ⟨g, 0, none⟩) (ts.length + 1) cap) (ts ++ [x]) (xs ++ us) := by
  have go : ∀ {d : D} {u : Value}, DM w (fun z => C z ∧ v.ownBlock ≠ some z) d u → DM w' (fun z => C z ∧ (Value.slice (some ⟨g, 0, none⟩) (ts.length + 1) cap).ownBlock ≠ some z) d u := fun {d u} hd => by
    refine ((hd.mono (C' := fun z => (C z ∧ v.ownBlock ≠ some z) ∧ z < w.heap.size) (fun _ hz hl => ⟨hz, hl⟩)).stays ⟨hA.size, fun z hz hl => (hA.kept z hl hz.1.2).1⟩).mono (fun z hz _ => ⟨hz.1.1, fun e => ?_⟩)
    have := (hA.kept z hz.2 hz.1.2).2
    simp [Value.ownBlock] at e
    omega
  refine ⟨by rw [List.length_append]; exact hA.own, fun g' hg' => by simp [Value.ownBlock] at hg'; exact hg' ▸ hg, ⟨?_, fun i d u hd hu => ?_⟩⟩
  · rw [flatTm_append, List.length_append, List.length_append, h.ms.1]
    have : (flatTm [x]).length = us.length := by rw [hx.1]; simp [flatTm]
    omega
  · have hf : flatTm [x] = x.ds := by simp [flatTm]
    rw [flatTm_append, hf] at hd
    by_cases hi : i < (flatTm ts).length
    · rw [List.getElem?_append_left hi] at hd
      rw [List.getElem?_append_left (by rw [h.ms.1]; exact hi)] at hu
      exact go (h.ms.2 i d u hd hu)
    · rw [List.getElem?_append_right (by omega)] at hd
      rw [List.getElem?_append_right (by rw [h.ms.1]; omega), h.ms.1] at hu
      exact go (hx.2 _ d u hd hu)
structure NewTm (w : World) (base : Nat) (C : Nat → Prop) (t : Tm) (tp : Option Addr) (tc : Nat) (rp : Option Addr) (rc : Nat) (p : Option Addr) (c : Nat) (xs : List Value) : Prop where
  ty : TS w (fun z => C z ∧ (Value.slice p t.args.length c).ownBlock ≠ some z) t.ty.args (.slice tp t.ty.args.length tc)
  res : TS w (fun z => C z ∧ (Value.slice p t.args.length c).ownBlock ≠ some z) t.res.args (.slice rp t.res.args.length rc)
  row : RowM w base C (.slice p t.args.length c) t.args xs
theorem NewTm.tm {w : World} {base : Nat} {C : Nat → Prop} {t : Tm} {tp rp p : Option Addr} {tc rc c : Nat} {xs : List Value} (h : NewTm w base C t tp tc rp rc p c xs) : TM' w C t tp tc rp rc p c :=
  ⟨h.ty.mono (fun _ hz _ => hz.1), h.res.mono (fun _ hz _ => hz.1), h.row.dm⟩
theorem NewTm.stays {w w' : World} {base : Nat} {C : Nat → Prop} {t : Tm} {tp rp p : Option Addr} {tc rc c : Nat} {xs : List Value} (h : NewTm w base C t tp tc rp rc p c xs) (hs : Stays C w w') : NewTm w' base C t tp tc rp rc p c xs :=
  ⟨h.ty.stays (hs.mono (fun _ hz => hz.1)), h.res.stays (hs.mono (fun _ hz => hz.1)), h.row.stays hs⟩
theorem NewTm.base {w : World} {a b : Nat} {C C' : Nat → Prop} {t : Tm} {tp rp p : Option Addr} {tc rc c : Nat} {xs : List Value} (h : NewTm w b C t tp tc rp rc p c xs) (hab : a ≤ b) (hC : ∀ z, C z → z < w.heap.size → C' z) : NewTm w a C' t tp tc rp rc p c xs :=
  ⟨h.ty.mono (fun z hz hl => ⟨hC z hz.1 hl, hz.2⟩), h.res.mono (fun z hz hl => ⟨hC z hz.1 hl, hz.2⟩), h.row.base hab hC⟩
theorem TM'.ms {w : World} {C : Nat → Prop} {t : Tm} {tp rp p : Option Addr} {tc rc c : Nat} (h : TM' w C t tp tc rp rc p c) :
    MS w C t.ds [.int .i64 t.kind, .string t.name, .string t.other, .int .i64 t.n, .int .i64 t.ty.kind, .slice tp t.ty.args.length tc, .int .i64 t.res.kind, .slice rp t.res.args.length rc, .slice p t.args.length c] := by
  refine ⟨by rw [t.ds_len]; rfl, fun i d v hd hv => ?_⟩
  rw [t.ds_eq] at hd
  match i, hd, hv with
  | 0, hd, hv => cases hd; cases hv; exact .cell _
  | 1, hd, hv => cases hd; cases hv; exact .cell _
  | 2, hd, hv => cases hd; cases hv; exact .cell _
  | 3, hd, hv => cases hd; cases hv; exact .cell _
  | 4, hd, hv => cases hd; cases hv; exact .cell _
  | 5, hd, hv => cases hd; cases hv; exact h.ty.dm
  | 6, hd, hv => cases hd; cases hv; exact .cell _
  | 7, hd, hv => cases hd; cases hv; exact h.res.dm
  | 8, hd, hv => cases hd; cases hv; exact h.args
  | n + 9, hd, hv => simp at hv
end Go.Proofs.YtjobmgbchpoheaaGreatDoor
namespace Go.Proofs.YtjobmgbchpoheaaGreatDoor
open Go Go.RowKit

theorem infoTm : (Tryz.prog.info? 29).map (fun i => (i.zero, i.size, i.bytes)) = some (some (.agg #[.int .i64 0, .string ⟨#[]⟩, .string ⟨#[]⟩, .int .i64 0, .int .i64 0, .slice none 0 0, .int .i64 0, .slice none 0 0, .slice none 0 0]), 9, 136) := by kernel_rfl
abbrev tmL (t : Tm) (tp : Option Addr) (tc : Nat) (rp : Option Addr) (rc : Nat) (p : Option Addr) (c : Nat) : List Value :=
  [.int .i64 t.kind, .string t.name, .string t.other, .int .i64 t.n, .int .i64 t.ty.kind, .slice tp t.ty.args.length tc, .int .i64 t.res.kind, .slice rp t.res.args.length rc, .slice p t.args.length c]
def OMv (w : World) (t : Tm) (v : Value) (F : Nat → Prop) : Prop := ∃ tp tc rp rc p c, v = tmV t tp tc rp rc p c ∧ OSt w t.ds (tmL t tp tc rp rc p c) F
theorem OSt.tm {w : World} {t : Tm} {tp rp p : Option Addr} {tc rc c : Nat} {F : Nat → Prop} (h : OSt w t.ds (tmL t tp tc rp rc p c) F) : TM' w F t tp tc rp rc p c := by
  have hm := h.ms.2
  rw [t.ds_eq] at hm
  exact ⟨(hm 5 _ _ rfl rfl).ts _ (Nat.le_refl _), (hm 7 _ _ rfl rfl).ts _ (Nat.le_refl _), hm 8 _ _ rfl rfl⟩
theorem OSt9 {w : World} {t : Tm} {tp rp p : Option Addr} {tc rc c : Nat} {F F1 F2 F3 : Nat → Prop} (h1 : OS w t.ty.args (.slice tp t.ty.args.length tc) F1) (h2 : OS w t.res.args (.slice rp t.res.args.length rc) F2) (h3 : DO w (tmD t.args) (.slice p t.args.length c) F3)
    (a1 : ∀ z, F1 z → F z ∧ ¬ F2 z ∧ ¬ F3 z) (a2 : ∀ z, F2 z → F z ∧ ¬ F3 z) (a3 : ∀ z, F3 z → F z) : OSt w t.ds (tmL t tp tc rp rc p c) F := by
  refine ⟨by rw [t.ds_len]; rfl, fun i z => (i = 5 ∧ F1 z) ∨ (i = 7 ∧ F2 z) ∨ (i = 8 ∧ F3 z), fun i d v hd hv => ?_, fun i z _ hz => ?_, fun i j z _ _ hij hz1 hz2 => ?_⟩
  · rw [t.ds_eq] at hd
    match i, hd, hv with
    | 0, hd, hv => cases hd; cases hv; exact .cell _ _
    | 1, hd, hv => cases hd; cases hv; exact .cell _ _
    | 2, hd, hv => cases hd; cases hv; exact .cell _ _
    | 3, hd, hv => cases hd; cases hv; exact .cell _ _
    | 4, hd, hv => cases hd; cases hv; exact .cell _ _
    | 5, hd, hv => cases hd; cases hv; exact h1.dO.mono (fun z hz => Or.inl ⟨rfl, hz⟩)
    | 6, hd, hv => cases hd; cases hv; exact .cell _ _
    | 7, hd, hv => cases hd; cases hv; exact h2.dO.mono (fun z hz => Or.inr (Or.inl ⟨rfl, hz⟩))
    | 8, hd, hv => cases hd; cases hv; exact h3.mono (fun z hz => Or.inr (Or.inr ⟨rfl, hz⟩))
    | n + 9, hd, hv => simp at hv
  · rcases hz with ⟨_, hz⟩ | ⟨_, hz⟩ | ⟨_, hz⟩
    · exact (a1 z hz).1
    · exact (a2 z hz).1
    · exact a3 z hz
  · rcases hz1 with ⟨rfl, h1⟩ | ⟨rfl, h1⟩ | ⟨rfl, h1⟩ <;> rcases hz2 with ⟨rfl, h2⟩ | ⟨rfl, h2⟩ | ⟨rfl, h2⟩
    · exact hij rfl
    · exact (a1 z h1).2.1 h2
    · exact (a1 z h1).2.2 h2
    · exact (a1 z h2).2.1 h1
    · exact hij rfl
    · exact (a2 z h1).2 h2
    · exact (a1 z h2).2.2 h1
    · exact (a2 z h2).2 h1
    · exact hij rfl
def NewM (t : Tm) (w : World) (e : Ending) (w' : World) : Prop := ∃ v, e = .returned v ∧ OMv w' t v (fun g => w.heap.size ≤ g ∧ g < w'.heap.size) ∧ Below w.heap.size w w'
def NewMS (ts : List Tm) (w : World) (e : Ending) (w' : World) : Prop := ∃ v, e = .returned v ∧ DO w' (tmD ts) v (fun g => w.heap.size ≤ g ∧ g < w'.heap.size) ∧ Below w.heap.size w w'

end Go.Proofs.YtjobmgbchpoheaaGreatDoor
namespace Go.Proofs.YtjobmgbchpoheaaGreatDoor
open Go Go.RowKit

theorem setN9 (w : World) (b o : Nat) (v0 v1 v2 v3 v4 v5 v6 v7 v8 : Value) : setN w b o [v0, v1, v2, v3, v4, v5, v6, v7, v8] =
    ((((((((w.setCell ⟨b, o, none⟩ v0).setCell ⟨b, o + 1, none⟩ v1).setCell ⟨b, o + 2, none⟩ v2).setCell ⟨b, o + 3, none⟩ v3).setCell ⟨b, o + 4, none⟩ v4).setCell ⟨b, o + 5, none⟩ v5).setCell ⟨b, o + 6, none⟩ v6).setCell ⟨b, o + 7, none⟩ v7).setCell ⟨b, o + 8, none⟩ v8 := rfl

end Go.Proofs.YtjobmgbchpoheaaGreatDoor
namespace Go.Proofs.YtjobmgbchpoheaaGreatDoor
open Go Go.RowKit

def DrawRet (P : Int → Prop) (b : Nat) (w : World) (e : Ending) (w' : World) : Prop := ∃ x : Int, P x ∧ e = .returned (.int .i64 x) ∧ Cur w' b ∧ w.grownBy w' (some b)
theorem draw_ret {P : Int → Prop} {b : Nat} {w w' : World} {x : Int} (h : P x) (hc : Cur w' b) (hg : w.grownBy w' (some b)) : DrawRet P b w (.returned (.int .i64 x)) w' := ⟨x, h, rfl, hc, hg⟩

set_option maxRecDepth 100000 in
set_option maxHeartbeats 1000000 in
theorem below_small (b : Nat) (n : Int) (w : World) (h1 : 1 ≤ n) (h2 : n ≤ 256) (hc : Cur w b) :
    Calls Tryz.prog 45 #[.pointer (some ⟨b, 0, none⟩), .int .i64 n] w (DrawRet (fun x => 0 ≤ x ∧ x < n) b w) := by
  have HC := Lib.hid (byte_any b w hc)
  clear hc
  go_enter Tryz.func45, Tryz.ntmps45
  go_wp2_with fail
  refine HC.out.mono ?_
  rintro e w1 ⟨x, rfl, hx0, hx1, hc1, hg1⟩
  have HC1 := Lib.hid hc1
  have HG1 := Lib.hid hg1
  clear hc1 hg1
  go_wp2_with fail
  go_ret
  exact draw_ret ⟨Int.emod_nonneg _ (by omega), Int.emod_lt_of_pos _ (by omega)⟩ HC1.out HG1.out

set_option maxRecDepth 100000 in
set_option maxHeartbeats 1000000 in
theorem below_big (b : Nat) (n : Int) (w : World) (h1 : 256 < n) (h2 : n ≤ 9223372036854775807) (hc : Cur w b) :
    Calls Tryz.prog 45 #[.pointer (some ⟨b, 0, none⟩), .int .i64 n] w (DrawRet (fun x => 0 ≤ x ∧ x < n) b w) := by
  have HC := Lib.hid (byte_any b w hc)
  clear hc
  go_enter Tryz.func45, Tryz.ntmps45
  go_wp2_with fail
  refine HC.out.mono ?_
  rintro e w1 ⟨x, rfl, hx0, hx1, hc1, hg1⟩
  have HC1 := Lib.hid (byte_any b w1 hc1)
  have HG1 := Lib.hid hg1
  clear hc1 hg1
  go_wp2_with fail
  refine HC1.out.mono ?_
  rintro e w2 ⟨y, rfl, hy0, hy1, hc2, hg2⟩
  have HC2 := Lib.hid (byte_any b w2 hc2)
  have HG2 := Lib.hid (grownBy_trans HG1.out hg2)
  clear hc2 hg2
  go_wp2_with fail
  refine HC2.out.mono ?_
  rintro e w3 ⟨z, rfl, hz0, hz1, hc3, hg3⟩
  have HC3 := Lib.hid (byte_any b w3 hc3)
  have HG3 := Lib.hid (grownBy_trans HG2.out hg3)
  clear hc3 hg3
  go_wp2_with fail
  refine HC3.out.mono ?_
  rintro e w4 ⟨u, rfl, hu0, hu1, hc4, hg4⟩
  have HC4 := Lib.hid hc4
  have HG4 := Lib.hid (grownBy_trans HG3.out hg4)
  clear hc4 hg4
  go_wp2_with fail
  go_ret
  exact draw_ret ⟨Int.emod_nonneg _ (by omega), Int.emod_lt_of_pos _ (by omega)⟩ HC4.out HG4.out
theorem below_any (b : Nat) (n : Int) (w : World) (h1 : 1 ≤ n) (h2 : n ≤ 9223372036854775807) (hc : Cur w b) :
    Calls Tryz.prog 45 #[.pointer (some ⟨b, 0, none⟩), .int .i64 n] w (DrawRet (fun x => 0 ≤ x ∧ x < n) b w) := by
  by_cases h : n ≤ 256
  · exact below_small b n w h1 h hc
  · exact below_big b n w (by omega) h2 hc

set_option maxRecDepth 100000 in
set_option maxHeartbeats 1000000 in
theorem pickInt_any (xs : List Int) (lb b : Nat) (w : World) (hne : lb ≠ b) (h1 : 1 ≤ xs.length) (h2 : xs.length ≤ 1048576) (hcell : ∀ j x, xs[j]? = some x → w.cell? ⟨lb, j, none⟩ = some (.int .i64 x)) (hc : Cur w b) :
    Calls Tryz.prog 46 #[.pointer (some ⟨b, 0, none⟩), .slice (some ⟨lb, 0, none⟩) xs.length xs.length] w (DrawRet (· ∈ xs) b w) := by
  have HC := Lib.hid (below_any b xs.length w (by omega) (by omega) hc)
  have HX := Lib.hid hcell
  clear hc hcell
  go_enter Tryz.func46, Tryz.ntmps46
  go_wp2_with fail
  refine HC.out.mono ?_
  rintro e w1 ⟨x, hx, rfl, hc1, hg1⟩
  obtain ⟨k, rfl⟩ := Int.eq_ofNat_of_zero_le hx.1
  have hk : k < xs.length := by omega
  have cell : w1.cell? ⟨lb, k, none⟩ = some (.int .i64 xs[k]) := hg1.cell (HX.out k _ (List.getElem?_eq_getElem hk)) (fun e => hne (Option.some.inj e))
  have HC1 := Lib.hid hc1
  have HG1 := Lib.hid hg1
  clear hc1 hg1 hx
  go_wp2_with fail
  go_ret
  exact draw_ret (List.getElem_mem hk) HC1.out HG1.out

def NewRet (w : World) (e : Ending) (w' : World) : Prop := e = .returned (.pointer (some ⟨w.heap.size, 0, none⟩)) ∧ Cur w' w.heap.size ∧ Below w.heap.size w w' ∧ w'.heap.size = w.heap.size + 1
theorem code_of (w : World) (cb co len cap : Nat) (hcb : cb < w.heap.size) (hl : len ≤ 9223372036854775807) (hcell : ∀ j, j < len → ∃ n : Int, 0 ≤ n ∧ n ≤ 255 ∧ w.cell? ⟨cb, co + j, none⟩ = some (.int .u8 n)) :
    CodeAt w w.heap.size (.slice (some ⟨cb, co, none⟩) len cap) len := Or.inr ⟨cb, co, cap, rfl, by omega, hl, hcell⟩
theorem new_ret {w : World} {v : Value} {len : Nat} (H : Int) (hc : CodeAt w w.heap.size v len) :
    NewRet w (.returned (.pointer (some ⟨w.heap.size, 0, none⟩))) (w.alloc (.cells #[v, .int .i64 0, .int .i64 H] 81)) := by
  have hb : Below w.heap.size w (w.alloc (.cells #[v, .int .i64 0, .int .i64 H] 81)) := (Below.refl _ _).alloc (Nat.le_refl _) _
  refine ⟨rfl, ⟨v, len, 0, H, heap_alloc_new w _, ?_, Nat.zero_le _⟩, hb, by simp⟩
  rcases hc with hc | ⟨cb, co, cap, rfl, h1, h2, h3⟩
  · exact Or.inl hc
  · refine Or.inr ⟨cb, co, cap, rfl, h1, h2, fun j hj => ?_⟩
    obtain ⟨n, h4, h5, h6⟩ := h3 j hj
    exact ⟨n, h4, h5, (hb.cell (p := ⟨cb, co + j, none⟩) (World.block_lt_of_cell? w _ h6)).trans h6⟩

set_option maxRecDepth 100000 in
set_option maxHeartbeats 1000000 in
theorem new_some (cb co len cap : Nat) (w : World) (hcb : cb < w.heap.size) (hlen : len ≤ 1048576) (hcell : ∀ j, j < len → ∃ n : Int, 0 ≤ n ∧ n ≤ 255 ∧ w.cell? ⟨cb, co + j, none⟩ = some (.int .u8 n)) :
    Calls Tryz.prog 21 #[.slice (some ⟨cb, co, none⟩) len cap] w (NewRet w) := by
  have ha := and30
  have HX := Lib.hid hcell
  clear hcell
  go_enter Tryz.func21, Tryz.ntmps21
  go_wp2_with fail
  go_loop [3, 4] (fun h i => ∃ (k : Nat) (H : Int), k ≤ len ∧ i = .int .i64 k ∧ h = .int .i64 H ∧ 0 ≤ H ∧ H ≤ 1073741824) (fun _ i => len - (intOf i).toNat)
  case atStart => exact ⟨0, _, Nat.zero_le _, rfl, rfl, by omega, by omega⟩
  case round =>
    obtain ⟨k, H, hk, rfl, rfl, hH0, hH1⟩ := hrel
    by_cases hlk : k < len
    · obtain ⟨n, hn0, hn1, hcell⟩ := HX.out k hlk
      by_cases h4 : (k : Int) < 4000
      · go_wp2_with fail
        go_round
        case rel => exact ⟨k + 1, _, by omega, by go_num, rfl, by omega, by omega⟩
        case measure => simp [intOf]; omega
      · have HK := Lib.hid (new_ret H (code_of w cb co len cap hcb (by omega) HX.out))
        clear hcell
        go_wp2_with fail
        go_ret
        exact HK.out
    · have HK := Lib.hid (new_ret H (code_of w cb co len cap hcb (by omega) HX.out))
      go_wp2_with fail
      go_ret
      exact HK.out

set_option maxRecDepth 100000 in
set_option maxHeartbeats 1000000 in
theorem new_nil (a : Option Addr) (cap : Nat) (w : World) : Calls Tryz.prog 21 #[.slice a 0 cap] w (NewRet w) := by
  have HK := Lib.hid (new_ret (w := w) 26583 (Or.inl ⟨⟨a, cap, rfl⟩, rfl⟩))
  go_enter Tryz.func21, Tryz.ntmps21
  go_wp2_with fail
  go_loop [3, 4] (fun h i => h = .int .i64 26583 ∧ i = .int .i64 0) (fun _ _ => 0)
  case atStart => exact ⟨rfl, rfl⟩
  case round =>
    obtain ⟨rfl, rfl⟩ := hrel
    go_wp2_with fail
    go_ret
    exact HK.out
def Bytes (w : World) (v : Value) : Prop :=
  (∃ a cap, v = .slice a 0 cap) ∨ ∃ cb co len cap, v = .slice (some ⟨cb, co, none⟩) len cap ∧ cb < w.heap.size ∧ len ≤ 9223372036854775807 ∧ ∀ j, j < len → ∃ n : Int, 0 ≤ n ∧ n ≤ 255 ∧ w.cell? ⟨cb, co + j, none⟩ = some (.int .u8 n)
def sliceLen : Value → Nat
  | .slice _ n _ => n
  | _ => 0
theorem new_any (v : Value) (w : World) (hv : Bytes w v) (hlen : sliceLen v ≤ 1048576) : Calls Tryz.prog 21 #[v] w (NewRet w) := by
  rcases hv with ⟨a, cap, rfl⟩ | ⟨cb, co, len, cap, rfl, hcb, _, hcell⟩
  · exact new_nil a cap w
  · exact new_some cb co len cap w hcb hlen hcell
theorem Bytes.below {w w' : World} {v : Value} (h : Bytes w v) (hb : Below w.heap.size w w') : Bytes w' v := by
  rcases h with ⟨a, cap, rfl⟩ | ⟨cb, co, len, cap, rfl, hcb, hl, hcell⟩
  · exact Or.inl ⟨a, cap, rfl⟩
  · refine Or.inr ⟨cb, co, len, cap, rfl, Nat.lt_of_lt_of_le hcb hb.size, hl, fun j hj => ?_⟩
    obtain ⟨n, h0, h1, h2⟩ := hcell j hj
    exact ⟨n, h0, h1, (hb.cell (p := ⟨cb, co + j, none⟩) hcb).trans h2⟩
theorem Cur.lt {w : World} {b : Nat} (h : Cur w b) : b < w.heap.size := by
  obtain ⟨v, len, i, x, hw, _⟩ := h
  rcases Nat.lt_or_ge b w.heap.size with h' | h'
  · exact h'
  · rw [Array.getElem?_eq_none h'] at hw; cases hw
theorem CodeAt.below {w w' : World} {b : Nat} {v : Value} {len : Nat} (h : CodeAt w b v len) (hb : Below w.heap.size w w') : CodeAt w' b v len := by
  rcases h with h | ⟨cb, co, cap, rfl, h1, h2, h3⟩
  · exact Or.inl h
  · refine Or.inr ⟨cb, co, cap, rfl, h1, h2, fun j hj => ?_⟩
    obtain ⟨n, h4, h5, h6⟩ := h3 j hj
    exact ⟨n, h4, h5, (hb.cell (p := ⟨cb, co + j, none⟩) (World.block_lt_of_cell? w _ h6)).trans h6⟩
theorem Cur.belowAt {w w' : World} {b B : Nat} (h : Cur w b) (hB : b < B) (hb : Below B w w') : Cur w' b := by
  obtain ⟨v, len, i, x, hw, hc, hi⟩ := h
  refine ⟨v, len, i, x, (hb.block b hB).trans hw, ?_, hi⟩
  rcases hc with hc | ⟨cb, co, cap, rfl, h1, h2, h3⟩
  · exact Or.inl hc
  · refine Or.inr ⟨cb, co, cap, rfl, h1, h2, fun j hj => ?_⟩
    obtain ⟨n, h4, h5, h6⟩ := h3 j hj
    exact ⟨n, h4, h5, (hb.cell (p := ⟨cb, co + j, none⟩) (Nat.lt_trans h1 hB)).trans h6⟩
theorem Cur.below {w w' : World} {b : Nat} (h : Cur w b) (hb : Below w.heap.size w w') : Cur w' b := by
  have hlt := h.lt
  obtain ⟨v, len, i, x, hw, hc, hi⟩ := h
  exact ⟨v, len, i, x, (hb.block b hlt).trans hw, hc.below hb, hi⟩
def Left (b : Nat) (w w' : World) : Prop := Cur w' b ∧ Below b w w'
def DrawsInt (P : Int → Prop) (b : Nat) (w : World) (e : Ending) (w' : World) : Prop := ∃ x : Int, P x ∧ e = .returned (.int .i64 x) ∧ Left b w w'
end Go.Proofs.YtjobmgbchpoheaaGreatDoor
namespace Go.Proofs.YtjobmgbchpoheaaGreatDoor
open Go Go.RowKit

def OnceRet (b : Nat) (w : World) (e : Ending) (w' : World) : Prop := ∃ x : Bool, e = .returned (.bool x) ∧ Cur w' b ∧ w.grownBy w' (some b)
set_option maxRecDepth 100000 in
set_option maxHeartbeats 1000000 in
theorem once_any (b : Nat) (n : Int) (w : World) (h1 : 1 ≤ n) (h2 : n ≤ 9223372036854775807) (hc : Cur w b) :
    Calls Tryz.prog 81 #[.pointer (some ⟨b, 0, none⟩), .int .i64 n] w (OnceRet b w) := by
  have HC := Lib.hid (below_any b n w h1 h2 hc)
  clear hc
  go_enter Tryz.func81, Tryz.ntmps81
  go_wp2_with fail
  refine HC.out.mono ?_
  rintro e w1 ⟨x, _, rfl, hc1, hg1⟩
  have HC1 := Lib.hid hc1
  have HG1 := Lib.hid hg1
  clear hc1 hg1
  go_wp2_with fail
  go_ret
  exact ⟨_, rfl, HC1.out, HG1.out⟩

def DrawsBool (b : Nat) (w : World) (e : Ending) (w' : World) : Prop := ∃ x : Bool, e = .returned (.bool x) ∧ Left b w w'
end Go.Proofs.YtjobmgbchpoheaaGreatDoor
namespace Go.Proofs.YtjobmgbchpoheaaGreatDoor
open Go Go.RowKit

def GStr (P : ByteArray → Prop) (b : Nat) (w : World) (e : Ending) (w' : World) : Prop := ∃ x : ByteArray, P x ∧ e = .returned (.string x) ∧ Cur w' b ∧ w.grownBy w' (some b)
set_option maxRecDepth 100000 in
set_option maxHeartbeats 1000000 in
theorem pickS_any (xs : List ByteArray) (n lb b : Nat) (w : World) (hn : xs.length = n) (hne : lb ≠ b) (h1 : 1 ≤ n) (h2 : n ≤ 1048576) (hcell : ∀ j x, xs[j]? = some x → w.cell? ⟨lb, j, none⟩ = some (.string x)) (hc : Cur w b) :
    Calls Tryz.prog 47 #[.pointer (some ⟨b, 0, none⟩), .slice (some ⟨lb, 0, none⟩) n n] w (GStr (· ∈ xs) b w) := by
  subst hn
  have HC := Lib.hid (below_any b xs.length w (by omega) (by omega) hc)
  have HX := Lib.hid hcell
  clear hc hcell
  go_enter Tryz.func47, Tryz.ntmps47
  go_wp2_with fail
  refine HC.out.mono ?_
  rintro e w1 ⟨x, hx, rfl, hc1, hg1⟩
  obtain ⟨k, rfl⟩ := Int.eq_ofNat_of_zero_le hx.1
  have hk : k < xs.length := by omega
  have cell : w1.cell? ⟨lb, k, none⟩ = some (.string xs[k]) := hg1.cell (HX.out k _ (List.getElem?_eq_getElem hk)) (fun e => hne (Option.some.inj e))
  have HC1 := Lib.hid hc1
  have HG1 := Lib.hid hg1
  clear hc1 hg1 hx
  go_wp2_with fail
  go_ret
  exact ⟨_, List.getElem_mem hk, rfl, HC1.out, HG1.out⟩

theorem grown_drewB {w W : World} {r : Option Nat} (h : w.grownBy W r) : w.grownBy W.drew r := ⟨h.os, h.tape, h.output, h.size, h.block⟩
theorem pickS_litG (L : List ByteArray) (n b : Nat) (w : World) (cs : Array Value) (hn : L.length = n) (h1 : 1 ≤ n) (h2 : n ≤ 1048576) (hcs : cs = (L.map Value.string).toArray) (hc : Cur w b) :
    Calls Tryz.prog 47 #[.pointer (some ⟨b, 0, none⟩), .slice (some ⟨w.heap.size, 0, none⟩) n n] (w.alloc (.cells cs 9)) (GStr (· ∈ L) b w) := by
  subst hn; subst hcs
  have hlt := hc.lt
  refine (pickS_any L L.length w.heap.size b _ rfl (by omega) h1 h2 (fun j x hj => ?_) (hc.below ((Below.refl _ _).alloc (Nat.le_refl _) _))).mono ?_
  · rw [World.cell?_alloc_at _ _ _ _ rfl, List.getElem?_toArray, List.getElem?_map, hj]; rfl
  · rintro e w' ⟨x, hx, rfl, hc', hg⟩
    exact ⟨x, hx, rfl, hc', grownBy_trans (World.grownBy_alloc _ _ _) hg⟩
end Go.Proofs.YtjobmgbchpoheaaGreatDoor
namespace Go.Proofs.YtjobmgbchpoheaaGreatDoor
open Go Go.RowKit

theorem Two.four {w : World} {k1 k2 : Int} {s1 s2 : Value} {W : World} (h : Two w k1 k2 s1 s2 W) : W.cell? ⟨w.heap.size, 0, none⟩ = some (.int .i64 k1) ∧ W.cell? ⟨w.heap.size, 1, none⟩ = some s1 ∧ W.cell? ⟨w.heap.size + 1, 0, none⟩ = some (.int .i64 k2) ∧ W.cell? ⟨w.heap.size + 1, 1, none⟩ = some s2 :=
  ⟨h.b1.1, h.b1.2, h.b2.1, h.b2.2⟩
theorem keepS4 {W : World} {b i a1 a2 a3 a4 i1 i2 i3 i4 : Nat} {v u1 u2 u3 u4 : Value} (h : W.cell? ⟨a1, i1, none⟩ = some u1 ∧ W.cell? ⟨a2, i2, none⟩ = some u2 ∧ W.cell? ⟨a3, i3, none⟩ = some u3 ∧ W.cell? ⟨a4, i4, none⟩ = some u4) (h1 : a1 ≠ b) (h2 : a2 ≠ b) (h3 : a3 ≠ b) (h4 : a4 ≠ b) :
    (W.setCell ⟨b, i, none⟩ v).cell? ⟨a1, i1, none⟩ = some u1 ∧ (W.setCell ⟨b, i, none⟩ v).cell? ⟨a2, i2, none⟩ = some u2 ∧ (W.setCell ⟨b, i, none⟩ v).cell? ⟨a3, i3, none⟩ = some u3 ∧ (W.setCell ⟨b, i, none⟩ v).cell? ⟨a4, i4, none⟩ = some u4 := by
  have k : ∀ {p : Addr} {u : Value}, W.cell? p = some u → p.block ≠ b → (W.setCell ⟨b, i, none⟩ v).cell? p = some u := fun {p u} hp hne => (World.cell?_of_block (heap_setCell_other W ⟨b, i, none⟩ p.block v hne)).trans hp
  exact ⟨k h.1 h1, k h.2.1 h2, k h.2.2.1 h3, k h.2.2.2 h4⟩
def TwoRet (t : Ty) (w : World) (k1 k2 : Int) (s1 s2 : Value) (W : World) (e : Ending) (W' : World) : Prop :=
  ∃ (p : Option Addr) (c : Nat), e = .returned (.agg #[.int .i64 t.kind, .slice p t.args.length c]) ∧ TS W' (fun z => w.heap.size + 3 ≤ z) t.args (.slice p t.args.length c) ∧ Two w k1 k2 s1 s2 W' ∧ Below W.heap.size W W'
theorem two_ret {t : Ty} {C : Nat → Prop} {v : Value} {w W : World} {k1 k2 : Int} {s1 s2 : Value} (h : TT w C t v) (hI : Two w k1 k2 s1 s2 W) (hn : nodesS t.args ≤ 1048576) :
    Calls Tryz.prog 121 #[v] W (TwoRet t w k1 k2 s1 s2 W) := by
  refine (copyT_any (h.keep hI.below) hn).mono ?_
  rintro e W' ⟨v', rfl, ⟨s, rfl, hs⟩, hb⟩
  obtain ⟨p, c, rfl⟩ := hs.form
  exact ⟨p, c, rfl, hs.mono (fun z hz _ => by have := hI.ge; show _ ≤ z; have : W.heap.size ≤ z := hz; omega), hI.keep hb, hb⟩

set_option maxRecDepth 100000 in
set_option maxHeartbeats 2000000 in
theorem l3Fun_any {C C' : Nat → Prop} {t u : Ty} {v x : Value} {w : World} (h : TT w C t v) (h2 : TT w C' u x) (hn : nodesS t.args ≤ 1048576) (hn2 : nodesS u.args ≤ 1048576) :
    Calls Tryz.prog 87 #[v, x] w (GrowRet (.mk 3 [t, u]) w) := by
  have hA := fun (k1 k2 : Int) (s1 s2 : Value) (W : World) (hI : Two w k1 k2 s1 s2 W) => two_ret h hI hn
  have hB := fun (k1 k2 : Int) (s1 s2 : Value) (W : World) (hI : Two w k1 k2 s1 s2 W) => two_ret h2 hI hn2
  obtain ⟨s, rfl, hS⟩ := h
  obtain ⟨p, c, rfl⟩ := hS.form
  obtain ⟨s2, rfl, hS2⟩ := h2
  obtain ⟨p2, c2, rfl⟩ := hS2.form
  have HA := Lib.hid (hA t.kind u.kind (.slice p t.args.length c) (.slice p2 u.args.length c2))
  have HB := Lib.hid (hB t.kind u.kind (.slice p t.args.length c) (.slice p2 u.args.length c2))
  clear hS hS2 hA hB
  have hK : Two w t.kind u.kind (.slice p t.args.length c) (.slice p2 u.args.length c2) (((w.alloc (.cells #[.int .i64 t.kind, .slice p t.args.length c] 26)).alloc (.cells #[.int .i64 u.kind, .slice p2 u.args.length c2] 26)).alloc (.cells #[.int .i64 0, .slice none 0 0] 26)).drew := by
    obtain ⟨wl, hwl, hsz, hbl, q0, q1, q2⟩ := loop_world3 w #[.int .i64 t.kind, .slice p t.args.length c] #[.int .i64 u.kind, .slice p2 u.args.length c2] #[.int .i64 0, .slice none 0 0] 26 26 26
    rw [hwl]
    have : Two w t.kind u.kind (.slice p t.args.length c) (.slice p2 u.args.length c2) wl := ⟨⟨cell_of_blk q0 0, cell_of_blk q0 1⟩, ⟨cell_of_blk q1 0, cell_of_blk q1 1⟩, q2, hbl, by omega⟩
    exact this.keep (Below.refl _ _).drew
  have HI0 := Lib.hid hK
  clear hK
  go_enter Tryz.func87, Tryz.ntmps87
  go_wp2_with fail
  go_region_held3 (fun w' => w'.cell? ⟨w.heap.size, 0, none⟩ = some (.int .i64 t.kind) ∧ w'.cell? ⟨w.heap.size, 1, none⟩ = some (.slice p t.args.length c) ∧ w'.cell? ⟨w.heap.size + 1, 0, none⟩ = some (.int .i64 u.kind) ∧ w'.cell? ⟨w.heap.size + 1, 1, none⟩ = some (.slice p2 u.args.length c2))
    (first
      | (go_keep; done)
      | exact ⟨by simp [*], by simp [*], by simp [*], by simp [*]⟩
      | exact HI1.out.four
      | exact HI2.out.four
      | exact keepS4 (keepS4 (by assumption) (by omega) (by omega) (by omega) (by omega)) (by omega) (by omega) (by omega) (by omega))
    (first
      | (go_at_call_of 121 (Value.agg #[.int .i64 t.kind, .slice p t.args.length c]); (first | refine (HA.out _ HI0.out).mono ?_ | refine (HA.out _ HI2.out).mono ?_); rintro e w1 ⟨p3, c3, rfl, hs1, hI1, hb1⟩; have HI1 := Lib.hid hI1; have HS1 := Lib.hid hs1; have HB1 := Lib.hid hb1; have g12 := al_cell (cell_of_blk hI1.r 0); have g13 := al_cell (cell_of_blk hI1.r 1); have g14 := al_frz hI1.r; clear hs1 hI1 hb1)
      | (go_at_call_of 121 (Value.agg #[.int .i64 u.kind, .slice p2 u.args.length c2]); (first | refine (HB.out _ HI0.out).mono ?_ | refine (HB.out _ HI1.out).mono ?_); rintro e w2 ⟨p4, c4, rfl, hs2, hI2, hb2⟩; have HI2 := Lib.hid hI2; have HS2 := Lib.hid hs2; have HB2 := Lib.hid hb2; have g22 := al_cell (cell_of_blk hI2.r 0); have g23 := al_cell (cell_of_blk hI2.r 1); have g24 := al_frz hI2.r; clear hs2 hI2 hb2))
  go_wp2_with fail
  refine bodyPost_ret (v := .agg #[.int .i64 3, .slice (some ⟨w2.heap.size, 0, none⟩) 2 2]) ?_ rfl ?_
  · rw [results_cell1 rfl]
    go_simp
  · exact two_fin HI2.out (HS1.out.keep HB2.out) HS2.out
end Go.Proofs.YtjobmgbchpoheaaGreatDoor
