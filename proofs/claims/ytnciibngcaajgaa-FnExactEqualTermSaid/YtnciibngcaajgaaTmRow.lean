/-
  A slice of terms in a row of the call's own; a term whose parts lie in such a row.
-/
import Derived.Test.YtnciibngcaajgaaTm
import Derived.Test.YtnciibngcaajgaaRowN
namespace Go.Proofs.Ytnciibngcaajgaa
open Go Go.RowKit

/-- The row of the terms ts, its cells xs; it and what hangs on the cells lie in blocks of C; what hangs lies in other blocks than the row. -/
structure RowM (w : World) (base : Nat) (C : Nat → Prop) (v : Value) (ts : List Tm) (xs : List Value) : Prop where
  own : w.ownsRow base 55 9 v ts.length xs
  blk : ∀ g, v.ownBlock = some g → C g
  ms : MS w (fun z => C z ∧ v.ownBlock ≠ some z) (flatTm ts) xs
theorem own_base {w : World} {a b : Nat} {e : TypeId} {size n : Nat} {v : Value} {xs : List Value} (h : w.ownsRow b e size v n xs) (hab : a ≤ b) : w.ownsRow a e size v n xs := by
  refine ⟨h.1, ?_⟩
  rcases h.2 with h0 | ⟨g, cap, cur, rfl, hg, r⟩
  · exact Or.inl h0
  · exact Or.inr ⟨g, cap, cur, rfl, Nat.le_trans hab hg, r⟩
theorem RowM.start (w : World) (base : Nat) (C : Nat → Prop) : RowM w base C (.slice none 0 0) [] [] := ⟨World.ownsRow_nil _ _ _ _, fun g hg => by simp [Value.ownBlock] at hg, ⟨rfl, fun i d v hd _ => by simp [flatTm] at hd⟩⟩
theorem RowM.stays {w w' : World} {base : Nat} {C : Nat → Prop} {v : Value} {ts : List Tm} {xs : List Value} (h : RowM w base C v ts xs) (hs : Stays C w w') : RowM w' base C v ts xs := by
  have hb := h.blk
  refine ⟨⟨h.own.1, ?_⟩, hb, h.ms.stays (hs.mono (fun _ hz => hz.1))⟩
  rcases h.own.2 with h0 | ⟨g, cap, cur, rfl, hbg, hblk, r⟩
  · exact Or.inl h0
  · exact Or.inr ⟨g, cap, cur, rfl, hbg, (hs.2 g (hb g rfl) (Array.getElem?_eq_some_iff.1 hblk).1).trans hblk, r⟩
theorem RowM.base {w : World} {a b : Nat} {C C' : Nat → Prop} {v : Value} {ts : List Tm} {xs : List Value} (h : RowM w b C v ts xs) (hab : a ≤ b) (hC : ∀ z, C z → z < w.heap.size → C' z) : RowM w a C' v ts xs :=
  ⟨own_base h.own hab, fun g hg => hC g (h.blk g hg) (by
    rcases h.own.2 with ⟨rfl, _⟩ | ⟨g', cap, cur, rfl, hbg, hblk, r⟩
    · simp [Value.ownBlock] at hg
    · simp [Value.ownBlock] at hg
      subst hg
      exact (Array.getElem?_eq_some_iff.1 hblk).1), h.ms.mono (fun z hz hl => ⟨hC z hz.1 hl, hz.2⟩)⟩
theorem RowM.dm {w : World} {base : Nat} {C : Nat → Prop} {v : Value} {ts : List Tm} {xs : List Value} (h : RowM w base C v ts xs) : DM w C (tmD ts) v := by
  have hms := h.ms
  have hblkC := h.blk
  rcases h.own.2 with ⟨rfl, h0⟩ | ⟨g, cap, cur, rfl, hg, hblk, h1, h2, h3, h4⟩
  · obtain rfl := List.eq_nil_of_length_eq_zero h0
    exact .nil _ _ _ _
  · by_cases hz : ts.length = 0
    · obtain rfl := List.eq_nil_of_length_eq_zero hz
      exact .nil _ _ _ _
    · have hlt := (Array.getElem?_eq_some_iff.1 hblk).1
      have hl : (flatTm ts).length = ts.length * 9 := flatTm_len ts
      have hxs : xs.length = ts.length * 9 := by rw [← hl]; exact hms.1
      have at_ : ∀ i d, (flatTm ts)[i]? = some d → i < ts.length * 9 ∧ xs[i]? = some (xs[i]?.getD .nilIface) := fun i d hd => by
        have hi := (List.getElem?_eq_some_iff.1 hd).1
        rw [hl] at hi
        exact ⟨hi, by rw [List.getElem?_eq_getElem (by omega)]; rfl⟩
      exact DM.rows (fun i => xs[i]?.getD .nilIface) (by omega) (by omega) (by unfold maxLen at h2; omega) hl (hblkC g rfl) hlt
        (fun i d hd => by rw [Nat.zero_add, h.own.cellAt i (at_ i d hd).1]; exact (at_ i d hd).2)
        (fun i d hd => (hms.2 i d _ hd (at_ i d hd).2).mono (fun _ hz _ => hz.1))
/-- One term behind the others. -/
theorem RowM.app {w w' : World} {base g cap : Nat} {C : Nat → Prop} {v : Value} {ts : List Tm} {xs us : List Value} {x : Tm} (h : RowM w base C v ts xs) (hA : Appd w w' base 55 9 v ts.length xs us g cap) (hg : C g)
    (hx : MS w (fun z => C z ∧ v.ownBlock ≠ some z) x.ds us) : RowM w' base C (.slice (some ⟨g, 0, none⟩) (ts.length + 1) cap) (ts ++ [x]) (xs ++ us) := by
  have go : ∀ {d : D} {u : Value}, DM w (fun z => C z ∧ v.ownBlock ≠ some z) d u → DM w' (fun z => C z ∧ (Value.slice (some ⟨g, 0, none⟩) (ts.length + 1) cap).ownBlock ≠ some z) d u := fun {d u} hd => by
    refine ((hd.mono (C' := fun z => (C z ∧ v.ownBlock ≠ some z) ∧ z < w.heap.size) (fun _ hz hl => ⟨hz, hl⟩)).stays ⟨hA.size, fun z hz hl => (hA.kept z hl hz.1.2).1⟩).mono (fun z hz _ => ⟨hz.1.1, fun e => ?_⟩)
    have := (hA.kept z hz.2 hz.1.2).2
    simp [Value.ownBlock] at e
    omega
  refine ⟨by rw [List.length_append]; exact hA.own, fun g' hg' => by simp [Value.ownBlock] at hg'; exact hg' ▸ hg, ⟨?_, fun i d u hd hu => ?_⟩⟩
  · rw [flatTm_append, List.length_append, List.length_append, h.ms.1]
    have : (flatTm [x]).length = us.length := by rw [hx.1]; simp [flatTm]
    omega
  · have hf : flatTm [x] = x.ds := by simp [flatTm]
    rw [flatTm_append, hf] at hd
    by_cases hi : i < (flatTm ts).length
    · rw [List.getElem?_append_left hi] at hd
      rw [List.getElem?_append_left (by rw [h.ms.1]; exact hi)] at hu
      exact go (h.ms.2 i d u hd hu)
    · rw [List.getElem?_append_right (by omega)] at hd
      rw [List.getElem?_append_right (by rw [h.ms.1]; omega), h.ms.1] at hu
      exact go (hx.2 _ d u hd hu)

/-- A term whose parts lie in a row of the call's own, all in blocks of C. -/
structure NewTm (w : World) (base : Nat) (C : Nat → Prop) (t : Tm) (tp : Option Addr) (tc : Nat) (rp : Option Addr) (rc : Nat) (p : Option Addr) (c : Nat) (xs : List Value) : Prop where
  ty : TS w (fun z => C z ∧ (Value.slice p t.args.length c).ownBlock ≠ some z) t.ty.args (.slice tp t.ty.args.length tc)
  res : TS w (fun z => C z ∧ (Value.slice p t.args.length c).ownBlock ≠ some z) t.res.args (.slice rp t.res.args.length rc)
  row : RowM w base C (.slice p t.args.length c) t.args xs
theorem NewTm.tm {w : World} {base : Nat} {C : Nat → Prop} {t : Tm} {tp rp p : Option Addr} {tc rc c : Nat} {xs : List Value} (h : NewTm w base C t tp tc rp rc p c xs) : TM' w C t tp tc rp rc p c :=
  ⟨h.ty.mono (fun _ hz _ => hz.1), h.res.mono (fun _ hz _ => hz.1), h.row.dm⟩
theorem NewTm.stays {w w' : World} {base : Nat} {C : Nat → Prop} {t : Tm} {tp rp p : Option Addr} {tc rc c : Nat} {xs : List Value} (h : NewTm w base C t tp tc rp rc p c xs) (hs : Stays C w w') : NewTm w' base C t tp tc rp rc p c xs :=
  ⟨h.ty.stays (hs.mono (fun _ hz => hz.1)), h.res.stays (hs.mono (fun _ hz => hz.1)), h.row.stays hs⟩
theorem NewTm.base {w : World} {a b : Nat} {C C' : Nat → Prop} {t : Tm} {tp rp p : Option Addr} {tc rc c : Nat} {xs : List Value} (h : NewTm w b C t tp tc rp rc p c xs) (hab : a ≤ b) (hC : ∀ z, C z → z < w.heap.size → C' z) : NewTm w a C' t tp tc rp rc p c xs :=
  ⟨h.ty.mono (fun z hz hl => ⟨hC z hz.1 hl, hz.2⟩), h.res.mono (fun z hz hl => ⟨hC z hz.1 hl, hz.2⟩), h.row.base hab hC⟩
theorem TM'.ms {w : World} {C : Nat → Prop} {t : Tm} {tp rp p : Option Addr} {tc rc c : Nat} (h : TM' w C t tp tc rp rc p c) :
    MS w C t.ds [.int .i64 t.kind, .string t.name, .string t.other, .int .i64 t.n, .int .i64 t.ty.kind, .slice tp t.ty.args.length tc, .int .i64 t.res.kind, .slice rp t.res.args.length rc, .slice p t.args.length c] := by
  refine ⟨by rw [t.ds_len]; rfl, fun i d v hd hv => ?_⟩
  rw [t.ds_eq] at hd
  match i, hd, hv with
  | 0, hd, hv => cases hd; cases hv; exact .cell _
  | 1, hd, hv => cases hd; cases hv; exact .cell _
  | 2, hd, hv => cases hd; cases hv; exact .cell _
  | 3, hd, hv => cases hd; cases hv; exact .cell _
  | 4, hd, hv => cases hd; cases hv; exact .cell _
  | 5, hd, hv => cases hd; cases hv; exact h.ty.dm
  | 6, hd, hv => cases hd; cases hv; exact .cell _
  | 7, hd, hv => cases hd; cases hv; exact h.res.dm
  | 8, hd, hv => cases hd; cases hv; exact h.args
  | n + 9, hd, hv => simp at hv
end Go.Proofs.Ytnciibngcaajgaa

