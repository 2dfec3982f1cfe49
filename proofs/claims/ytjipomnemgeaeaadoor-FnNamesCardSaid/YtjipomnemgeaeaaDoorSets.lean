/-
  A map from strings to bools that a call made itself, as a set, of no program: what a look-up gives, what a store leaves.
-/
import Derived.Test.YtjipomnemgeaeaaDoorKit
import Derived.Maps.OwnOps
import Derived.Maps.OwnSet
import Derived.Maps.Views
import Derived.Below
namespace Go.Proofs.YtjipomnemgeaeaaDoor
open Go Go.RowKit Go.Maps Go.WideMaps

/-- Block b of w is a map that says true at just those strings at which p does (of at most n entries). -/
def SetIs (P : Program) (k e : TypeId) (w : World) (b n : Nat) (p : ByteArray → Bool) : Prop :=
  ∃ D : DataW Unit, w.ownsMap P k (plainElem P e) b n D ∧ ∀ s : ByteArray, s.size ≤ maxLen → D.atKey (.string s.data.toList) (.lit (.bool false)) = .lit (.bool (p s))

section
variable {P : Program} {k e : TypeId} {w : World} {b n : Nat} {p : ByteArray → Bool}

theorem setIs_made (w : World) (P : Program) (k e : TypeId) : SetIs P k e (w.alloc (.map #[] 0)) w.heap.size 0 (fun _ => false) :=
  ⟨.map [], World.ownsMap_made _ _ _ _, fun _ _ => rfl⟩
theorem SetIs.mono (h : SetIs P k e w b n p) {n' : Nat} (hn : n ≤ n') : SetIs P k e w b n' p := by
  obtain ⟨D, h1, h2⟩ := h
  exact ⟨D, h1.mono hn, h2⟩
theorem SetIs.congr (h : SetIs P k e w b n p) {p' : ByteArray → Bool} (hp : ∀ s, p s = p' s) : SetIs P k e w b n p' := by
  obtain ⟨D, h1, h2⟩ := h
  exact ⟨D, h1, fun s hs => by rw [h2 s hs, hp s]⟩
theorem SetIs.lt (h : SetIs P k e w b n p) : b < w.heap.size := by
  obtain ⟨D, h1, _⟩ := h
  exact h1.lt
theorem SetIs.kept {w' : World} {row : Option Nat} (h : SetIs P k e w b n p) (hg : w.grownBy w' row) (hne : some b ≠ row) : SetIs P k e w' b n p := by
  obtain ⟨D, h1, h2⟩ := h
  exact ⟨D, h1.kept hg hne, h2⟩
theorem SetIs.alloc (h : SetIs P k e w b n p) (o : Obj) : SetIs P k e (w.alloc o) b n p := by
  obtain ⟨D, h1, h2⟩ := h
  exact ⟨D, h1.alloc o, h2⟩
theorem SetIs.below {w' : World} (h : SetIs P k e w b n p) (hb : Below w.heap.size w w') : SetIs P k e w' b n p := by
  have hlt := h.lt
  obtain ⟨D, ⟨es, clock, hb0, F, hs, hD⟩, h2⟩ := h
  exact ⟨D, ⟨es, clock, (hb.block b hlt).trans hb0, F, hs, hD⟩, h2⟩

theorem SetIs.belowAt {w' : World} {B : Nat} (h : SetIs P k e w b n p) (hlt : b < B) (hb : Below B w w') : SetIs P k e w' b n p := by
  obtain ⟨D, ⟨es, clock, hb0, F, hs, hD⟩, h2⟩ := h
  exact ⟨D, ⟨es, clock, (hb.block b hlt).trans hb0, F, hs, hD⟩, h2⟩

/-- An element that reads as a bool IS that bool. -/
theorem plainElem_bool_inv {H : Type} (he : P.underlying e = some .bool) {v : Value} {z : DataW H × List MemPlace} (h : plainElem P e v = some z) : ∃ x, v = .bool x ∧ z = (.lit (.bool x), []) := by
  unfold plainElem at h
  rw [he] at h
  cases v <;> simp at h
  exact ⟨_, rfl, h.symm⟩

theorem SetIs.look {t : TypeId} (h : SetIs P k e w b n p) (K : Keyed P k) (hk : P.underlying k = some .string) (ht : P.underlying t = some (.map k e)) (he : P.underlying e = some .bool) (hz : (zeroValue e).run P w = .ok (.bool false) w)
    {s : ByteArray} (hs : s.size ≤ maxLen) : (Instr.lookup t (.map (some b)) (.string s) false).run P w = .ok (.bool (p s)) w := by
  obtain ⟨D, h1, h2⟩ := h
  obtain ⟨v, ps, hrun, hv⟩ := h1.lookup K ht hz (plainElem_bool he false) (keyOf_string_mk hk hs)
  obtain ⟨x, rfl, hx⟩ := plainElem_bool_inv he hv
  rw [h2 s hs] at hx
  simp only [Prod.mk.injEq, DataW.lit.injEq, Lit.bool.injEq] at hx
  rw [hrun, hx.1]

theorem isKey_string (l : List UInt8) : WideAt.IsKeyLit (.string l) := by simp [WideAt.IsKeyLit]

theorem SetIs.store {t : TypeId} (h : SetIs P k e w b n p) (K : Keyed P k) (hk : P.underlying k = some .string) (ht : P.underlying t = some (.map k e)) (he : P.underlying e = some .bool) (hn : n < maxLen)
    {s : ByteArray} (hs : s.size ≤ maxLen) : ∃ w', (Instr.mapUpdate t (.map (some b)) (.string s) (.bool true)).run P w = .ok () w' ∧ SetIs P k e w' b (n + 1) (fun x => decide (x = s) || p x) ∧ w.grownBy w' (some b) := by
  obtain ⟨D, h1, h2⟩ := h
  obtain ⟨w', hrun, hown, hg⟩ := h1.update K ht hn (keyOf_string_mk hk hs) (plainElem_bool he true)
  refine ⟨w', hrun, ⟨_, hown, fun x hx => ?_⟩, hg⟩
  by_cases hxs : x = s
  · subst hxs
    rw [atKey_put_same h1.isMap (isKey_string _)]
    simp
  · have hne : Lit.string x.data.toList ≠ Lit.string s.data.toList := by
      intro hc
      apply hxs
      obtain ⟨⟨x⟩⟩ := x
      obtain ⟨⟨s⟩⟩ := s
      rw [show x = s by simpa using hc]
    rw [atKey_put_other hne, h2 x hx]
    simp [hxs]
end

section
variable {P : Program} (w : World) {ops : Array Oper} {rest : List Oper} {o : Oper} {a : Act} {Q : Exit → Act → World → Prop}

/-- 'set[s]' at the operation. -/
theorem wpList_look_set (hg : o.guard = none) (m x : Operand) (t : TypeId) (hop : o.op = Op.lookup t m x false)
    (k e : TypeId) (K : Keyed P k) (hk : P.underlying k = some .string) (ht : P.underlying t = some (.map k e)) (he : P.underlying e = some .bool) (hz : (zeroValue e).run P w = .ok (.bool false) w) (b n : Nat) (p : ByteArray → Bool)
    (hm : a.eval m = .map (some b)) (hset : SetIs P k e w b n p) (s : ByteArray) (hx : a.eval x = .string s) (hs : s.size ≤ maxLen) (r : Bool) (hr : p s = r)
    (hK : wpList P ops Q rest (a.put o.dst (.bool r)) w) :
    wpList P ops Q (o :: rest) a w := by
  refine wpList_plain hg fun K' hK' => ?_
  have hrun := hset.look K hk ht he hz hs
  rw [hr] at hrun
  unfold Oper.wp
  simp [execOp, hop, hm, hx, hrun, Result.andThen]
  exact hK' _ _ hK

/-- 'set[s] = true' at the operation. -/
theorem wpList_store_set (hg : o.guard = none) (m x v : Operand) (t : TypeId) (hop : o.op = Op.mapUpdate t m x v)
    (k e : TypeId) (K : Keyed P k) (hk : P.underlying k = some .string) (ht : P.underlying t = some (.map k e)) (he : P.underlying e = some .bool) (b n : Nat) (p : ByteArray → Bool)
    (hm : a.eval m = .map (some b)) (hset : SetIs P k e w b n p) (hn : n < maxLen) (s : ByteArray) (hx : a.eval x = .string s) (hv : a.eval v = .bool true) (hs : s.size ≤ maxLen)
    (hK : ∀ w', SetIs P k e w' b (n + 1) (fun x => decide (x = s) || p x) → w.grownBy w' (some b) → wpList P ops Q rest (a.put o.dst undef) w') :
    wpList P ops Q (o :: rest) a w := by
  refine wpList_plain hg fun K' hK' => ?_
  obtain ⟨w', hrun, r1, r2⟩ := hset.store K hk ht he hn hs
  unfold Oper.wp
  simp [execOp, hop, hm, hx, hv, hrun, Result.andThen]
  exact hK' _ _ (hK w' r1 r2)
end
end Go.Proofs.YtjipomnemgeaeaaDoor
