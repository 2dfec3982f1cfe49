/-
  Several texts of the proof in one (each says below what it holds): TyText And Cur RdrS Kind Kind2.
-/
import Derived.Test.YtjobmgbchpoheaaGreatDoorPB1
import Derived.WalkKit
import Derived.Laws.Bits128
import Derived.Test.YtjobmgbchpoheaaGreatDoorProg
import Derived.WalkSmall
import Derived.Laws.OwnMore
import Derived.Deep.QuietTactic
import Derived.BigQuiet
namespace Go.Proofs.YtjobmgbchpoheaaGreatDoor
open Go Go.RowKit

def textK (k : Int) (xs : List (List UInt8)) : List UInt8 :=
  if k = 1 then [73] else if k = 2 then [66] else if k = 3 then 40 :: (xs.getD 0 [] ++ 62 :: (xs.getD 1 [] ++ [41])) else 60 :: (xs.getD 0 [] ++ [62])
mutual
def Ty.text : Ty → List UInt8
  | .mk k ts => textK k (textS ts)
def textS : List Ty → List (List UInt8)
  | [] => []
  | t :: ts => t.text :: textS ts
end
theorem text_fun (a b : Ty) : (Ty.mk 3 [a, b]).text = 40 :: (a.text ++ 62 :: (b.text ++ [41])) := by simp [Ty.text, textS, textK]
theorem text_code (a : Ty) : (Ty.mk 4 [a]).text = 60 :: (a.text ++ [62]) := by simp [Ty.text, textS, textK]
theorem text_int (ts : List Ty) : (Ty.mk 1 ts).text = [73] := by simp [Ty.text, textK]
theorem text_bool (ts : List Ty) : (Ty.mk 2 ts).text = [66] := by simp [Ty.text, textK]
theorem form_cases {t : Ty} (h : t.form = true) : t = .mk 1 [] ∨ t = .mk 2 [] ∨ (∃ a b, t = .mk 3 [a, b] ∧ a.form = true ∧ b.form = true) ∨ ∃ a, t = .mk 4 [a] ∧ a.form = true := by
  obtain ⟨k, ts⟩ := t
  obtain ⟨h1, h2⟩ := (form_mk k ts).1 h
  rcases h2 with ⟨hk, hl⟩ | ⟨rfl, hl⟩ | ⟨rfl, hl⟩
  · obtain rfl := List.eq_nil_of_length_eq_zero hl
    rcases hk with rfl | rfl
    · exact Or.inl rfl
    · exact Or.inr (Or.inl rfl)
  · obtain ⟨a, b, rfl⟩ : ∃ a b, ts = [a, b] := by
      match ts, hl with
      | [a, b], _ => exact ⟨a, b, rfl⟩
    simp only [formS_cons] at h1
    exact Or.inr (Or.inr (Or.inl ⟨a, b, rfl, h1.1, h1.2.1⟩))
  · obtain ⟨a, rfl⟩ := List.length_eq_one_iff.1 hl
    simp only [formS_cons] at h1
    exact Or.inr (Or.inr (Or.inr ⟨a, rfl, h1.1⟩))

theorem text_le : ∀ (n : Nat) (t : Ty), t.nodes ≤ n → t.form = true → t.text.length ≤ 3 * t.nodes
  | 0, t, hn, _ => by rw [t.nodes_eq] at hn; omega
  | n + 1, t, hn, h => by
    rcases form_cases h with rfl | rfl | ⟨a, b, rfl, ha, hb⟩ | ⟨a, rfl, ha⟩
    · simp [text_int, Ty.nodes, nodesS]
    · simp [text_bool, Ty.nodes, nodesS]
    · simp only [Ty.nodes, nodesS] at hn
      have h1 := text_le n a (by omega) ha
      have h2 := text_le n b (by omega) hb
      rw [text_fun]
      simp only [List.length_cons, List.length_append, List.length_nil, Ty.nodes, nodesS]
      omega
    · simp only [Ty.nodes, nodesS] at hn
      have h1 := text_le n a (by omega) ha
      rw [text_code]
      simp only [List.length_cons, List.length_append, List.length_nil, Ty.nodes, nodesS]
      omega
def ptys (f : Nat → Option (Ty × Nat)) (s : List UInt8) : List UInt8 → Nat → Option (List Ty × Nat)
  | [], i => some ([], i)
  | e :: es, i => match f i with
    | none => none
    | some (t, j) => if s[j]? = some e then (ptys f s es (j + 1)).map (fun r => (t :: r.1, r.2)) else none
def pty (s : List UInt8) : Nat → Nat → Option (Ty × Nat)
  | 0, _ => none
  | k + 1, i =>
    if s[i]? = some 73 then some (.mk 1 [], i + 1)
    else if s[i]? = some 66 then some (.mk 2 [], i + 1)
    else if s[i]? = some 40 then (ptys (pty s k) s [62, 41] (i + 1)).map fun r => (.mk 3 r.1, r.2)
    else if s[i]? = some 60 then (ptys (pty s k) s [62] (i + 1)).map fun r => (.mk 4 r.1, r.2)
    else none

theorem ptys_append (f : Nat → Option (Ty × Nat)) (s a b : List UInt8) (i : Nat) :
    ptys f s (a ++ b) i = (ptys f s a i).bind fun r => (ptys f s b r.2).map fun q => (r.1 ++ q.1, q.2) := by
  induction a generalizing i with
  | nil => simp only [List.nil_append, ptys, Option.bind_some]; cases ptys f s b i <;> rfl
  | cons e a ih =>
    simp only [List.cons_append, ptys]
    cases hf : f i with
    | none => rfl
    | some r =>
      obtain ⟨t, j⟩ := r
      dsimp only
      by_cases he : s[j]? = some e
      · rw [if_pos he, if_pos he, ih]
        cases ptys f s a (j + 1) with
        | none => rfl
        | some q =>
          simp only [Option.bind_some, Option.map_some]
          cases ptys f s b q.2 <;> rfl
      · rw [if_neg he, if_neg he]; rfl
theorem ptys_none {f : Nat → Option (Ty × Nat)} {s es : List UInt8} {i j : Nat} (h : ptys f s (es.take j) i = none) : ptys f s es i = none := by
  rw [← List.take_append_drop j es, ptys_append, h]; rfl
theorem ptys_snoc {f : Nat → Option (Ty × Nat)} {s es : List UInt8} {i n : Nat} {ts : List Ty} (h : ptys f s es i = some (ts, n)) (e : UInt8) :
    ptys f s (es ++ [e]) i = match f n with
      | none => none
      | some (t, j) => if s[j]? = some e then some (ts ++ [t], j + 1) else none := by
  rw [ptys_append, h]
  simp only [Option.bind_some, ptys]
  cases f n with
  | none => rfl
  | some r => obtain ⟨t, j⟩ := r; dsimp only; by_cases he : s[j]? = some e <;> simp [he]
structure Good (s : List UInt8) (k i : Nat) (t : Ty) (j : Nat) : Prop where
  lt : i < j
  le : j ≤ s.length
  depth : t.depth ≤ k
  nodes : t.nodes + 1 ≤ 2 ^ k
  form : t.form = true
  text : s.drop i = t.text ++ s.drop j
theorem drop_at {s : List UInt8} {i : Nat} {c : UInt8} (h : s[i]? = some c) : s.drop i = c :: s.drop (i + 1) ∧ i < s.length := by
  obtain ⟨h1, rfl⟩ := List.getElem?_eq_some_iff.1 h
  exact ⟨List.drop_eq_getElem_cons h1, h1⟩
theorem two_pow_pos (k : Nat) : 1 ≤ 2 ^ k := Nat.one_le_two_pow
theorem pty_good (s : List UInt8) : ∀ (k i : Nat) (t : Ty) (j : Nat), pty s k i = some (t, j) → Good s k i t j
  | 0, i, t, j, h => by cases h
  | k + 1, i, t, j, h => by
    have hp := two_pow_pos k
    unfold pty at h
    split at h
    · next hc =>
      obtain ⟨h1, h2⟩ := drop_at hc
      simp only [Option.some.injEq, Prod.mk.injEq] at h
      obtain ⟨rfl, rfl⟩ := h
      exact ⟨by omega, by omega, by simp [Ty.depth, depthS], by simp only [Ty.nodes, nodesS, Nat.pow_succ]; omega, by decide, by rw [h1, text_int]; rfl⟩
    · split at h
      · next hc =>
        obtain ⟨h1, h2⟩ := drop_at hc
        simp only [Option.some.injEq, Prod.mk.injEq] at h
        obtain ⟨rfl, rfl⟩ := h
        exact ⟨by omega, by omega, by simp [Ty.depth, depthS], by simp only [Ty.nodes, nodesS, Nat.pow_succ]; omega, by decide, by rw [h1, text_bool]; rfl⟩
      · split at h
        · next hc =>
          obtain ⟨h1, h2⟩ := drop_at hc
          simp only [ptys] at h
          cases ha : pty s k (i + 1) with
          | none => rw [ha] at h; cases h
          | some r =>
            obtain ⟨a, i1⟩ := r
            have ga := pty_good s k _ _ _ ha
            rw [ha] at h
            dsimp only at h
            split at h
            · next hc1 =>
              obtain ⟨h3, h4⟩ := drop_at hc1
              cases hb : pty s k (i1 + 1) with
              | none => rw [hb] at h; cases h
              | some r =>
                obtain ⟨b, i2⟩ := r
                have gb := pty_good s k _ _ _ hb
                rw [hb] at h
                dsimp only at h
                split at h
                · next hc2 =>
                  obtain ⟨h5, h6⟩ := drop_at hc2
                  simp only [Option.map_some, Option.some.injEq, Prod.mk.injEq] at h
                  obtain ⟨rfl, rfl⟩ := h
                  have := ga.lt
                  have := gb.lt
                  have := ga.nodes
                  have := gb.nodes
                  have := ga.depth
                  have := gb.depth
                  refine ⟨by omega, by omega, by simp only [Ty.depth, depthS]; omega, by simp only [Ty.nodes, nodesS, Nat.pow_succ]; omega, ?_, ?_⟩
                  · rw [form_mk]
                    simp [formS, ga.form, gb.form]
                  · rw [h1, ga.text, h3, gb.text, h5, text_fun]
                    simp
                · cases h
            · cases h
        · split at h
          · next hc =>
            obtain ⟨h1, h2⟩ := drop_at hc
            simp only [ptys] at h
            cases ha : pty s k (i + 1) with
            | none => rw [ha] at h; cases h
            | some r =>
              obtain ⟨a, i1⟩ := r
              have ga := pty_good s k _ _ _ ha
              rw [ha] at h
              dsimp only at h
              split at h
              · next hc1 =>
                obtain ⟨h3, h4⟩ := drop_at hc1
                simp only [Option.map_some, Option.some.injEq, Prod.mk.injEq] at h
                obtain ⟨rfl, rfl⟩ := h
                have := ga.lt
                have := ga.nodes
                have := ga.depth
                refine ⟨by omega, by omega, by simp only [Ty.depth, depthS]; omega, by simp only [Ty.nodes, nodesS, Nat.pow_succ]; omega, ?_, ?_⟩
                · rw [form_mk]
                  simp [formS, ga.form]
                · rw [h1, ga.text, h3, text_code]
                  simp
              · cases h
          · cases h

theorem drop_more {s x r : List UInt8} {i : Nat} {c : UInt8} (h : s.drop i = x ++ c :: r) : s[i + x.length]? = some c ∧ s.drop (i + x.length + 1) = r := by
  constructor
  · rw [← List.getElem?_drop, h]; simp
  · rw [Nat.add_assoc, ← List.drop_drop, h]
    have : (x ++ c :: r).drop (x.length + 1) = (c :: r).drop 1 := by rw [List.drop_append]; simp
    rw [this]; rfl
theorem pty_text (s : List UInt8) : ∀ (k : Nat) (t : Ty) (i : Nat) (r : List UInt8), t.form = true → t.depth ≤ k → s.drop i = t.text ++ r → pty s k i = some (t, i + t.text.length)
  | 0, t, i, r, _, hd, _ => by rw [depth_at] at hd; omega
  | k + 1, t, i, r, hf, hd, hs => by
    unfold pty
    rcases form_cases hf with rfl | rfl | ⟨a, b, rfl, ha, hb⟩ | ⟨a, rfl, ha⟩
    · rw [text_int] at hs
      have h1 := (drop_more (x := []) (by simpa using hs)).1
      simp only [List.length_nil, Nat.add_zero] at h1
      rw [if_pos h1, text_int]; rfl
    · rw [text_bool] at hs
      have h1 := (drop_more (x := []) (by simpa using hs)).1
      simp only [List.length_nil, Nat.add_zero] at h1
      rw [if_neg (by rw [h1]; decide), if_pos h1, text_bool]; rfl
    · rw [text_fun] at hs
      have h1 := drop_more (x := []) (i := i) (c := 40) (r := a.text ++ 62 :: (b.text ++ 41 :: r)) (by simpa using hs)
      simp only [List.length_nil, Nat.add_zero] at h1
      simp only [Ty.depth, depthS] at hd
      have h2 := pty_text s k a (i + 1) _ ha (by omega) h1.2
      have h3 := drop_more h1.2
      have h4 := pty_text s k b (i + 1 + a.text.length + 1) _ hb (by omega) h3.2
      have h5 := drop_more h3.2
      rw [if_neg (by rw [h1.1]; decide), if_neg (by rw [h1.1]; decide), if_pos h1.1]
      simp only [ptys, h2, h3.1, h4, h5.1, if_true, Option.map_some, text_fun, List.length_cons, List.length_append, List.length_nil]
      congr 2
      omega
    · rw [text_code] at hs
      have h1 := drop_more (x := []) (i := i) (c := 60) (r := a.text ++ 62 :: r) (by simpa using hs)
      simp only [List.length_nil, Nat.add_zero] at h1
      simp only [Ty.depth, depthS] at hd
      have h2 := pty_text s k a (i + 1) _ ha (by omega) h1.2
      have h3 := drop_more h1.2
      rw [if_neg (by rw [h1.1]; decide), if_neg (by rw [h1.1]; decide), if_neg (by rw [h1.1]; decide), if_pos h1.1]
      simp only [ptys, h2, h3.1, if_true, Option.map_some, text_code, List.length_cons, List.length_append, List.length_nil]
      congr 2
      omega
def fmtT (t : Ty) : List UInt8 := if t.valid then t.text else []
def parseT (s : List UInt8) : Option Ty := match pty s 8 0 with
  | none => none
  | some (t, j) => if j = s.length ∧ t.valid = true then some t else none
end Go.Proofs.YtjobmgbchpoheaaGreatDoor
namespace Go.Proofs.YtjobmgbchpoheaaGreatDoor
open Go
theorem and255 (n : Int) : bits .and .i64 n 255 = n % 256 := by
  have h127 : (BitVec.ofInt 64 255).toNat = 2 ^ 8 - 1 := by decide
  have key : (BitVec.ofInt 64 n &&& BitVec.ofInt 64 255).toNat = (n % ((2 ^ 64 : Nat) : Int)).toNat % 2 ^ 8 := by
    rw [BitVec.toNat_and, BitVec.toNat_ofInt, h127, Nat.and_two_pow_sub_one_eq_mod]
  show IntKind.i64.wrap ((BitVec.ofInt 64 n &&& BitVec.ofInt 64 255).toNat : Nat) = n % 256
  rw [key, IntKind.wrap_i64]
  omega
theorem and30 (n : Int) : bits .and .i64 n 1073741823 = n % 1073741824 := by
  have h127 : (BitVec.ofInt 64 1073741823).toNat = 2 ^ 30 - 1 := by decide
  have key : (BitVec.ofInt 64 n &&& BitVec.ofInt 64 1073741823).toNat = (n % ((2 ^ 64 : Nat) : Int)).toNat % 2 ^ 30 := by
    rw [BitVec.toNat_and, BitVec.toNat_ofInt, h127, Nat.and_two_pow_sub_one_eq_mod]
  show IntKind.i64.wrap ((BitVec.ofInt 64 n &&& BitVec.ofInt 64 1073741823).toNat : Nat) = n % 1073741824
  rw [key, IntKind.wrap_i64]
  omega
end Go.Proofs.YtjobmgbchpoheaaGreatDoor
namespace Go.Proofs.YtjobmgbchpoheaaGreatDoor
open Go Go.RowKit
def CodeAt (w : World) (b : Nat) (v : Value) (len : Nat) : Prop :=
  ((∃ a cap, v = .slice a 0 cap) ∧ len = 0) ∨
  ∃ cb co cap, v = .slice (some ⟨cb, co, none⟩) len cap ∧ cb < b ∧ len ≤ 9223372036854775807 ∧ ∀ j, j < len → ∃ n : Int, 0 ≤ n ∧ n ≤ 255 ∧ w.cell? ⟨cb, co + j, none⟩ = some (.int .u8 n)
def Cur (w : World) (b : Nat) : Prop := ∃ (v : Value) (len i : Nat) (h : Int), w.heap[b]? = some (.cells #[v, .int .i64 i, .int .i64 h] 81 (0, 0)) ∧ CodeAt w b v len ∧ i ≤ len
def ByteRet (b : Nat) (w : World) (e : Ending) (w' : World) : Prop := ∃ x : Int, e = .returned (.int .i64 x) ∧ 0 ≤ x ∧ x ≤ 255 ∧ Cur w' b ∧ w.grownBy w' (some b)

theorem cur_set2 {w : World} {b : Nat} {v i h x : Value} (hc : w.heap[b]? = some (.cells #[v, i, h] 81 (0, 0))) :
    (w.setCell ⟨b, 2, none⟩ x).heap[b]? = some (.cells #[v, i, x] 81 (0, 0)) ∧ w.grownBy (w.setCell ⟨b, 2, none⟩ x) (some b) :=
  ⟨heap_setCell_same w b 2 _ _ x hc, ⟨rfl, rfl, rfl, by simp, fun k _ hk => heap_setCell_other w ⟨b, 2, none⟩ k x (fun e => hk (by simp [e]))⟩⟩
theorem cur_set1 {w : World} {b : Nat} {v i h x : Value} (hc : w.heap[b]? = some (.cells #[v, i, h] 81 (0, 0))) :
    (w.setCell ⟨b, 1, none⟩ x).heap[b]? = some (.cells #[v, x, h] 81 (0, 0)) ∧ w.grownBy (w.setCell ⟨b, 1, none⟩ x) (some b) :=
  ⟨heap_setCell_same w b 1 _ _ x hc, ⟨rfl, rfl, rfl, by simp, fun k _ hk => heap_setCell_other w ⟨b, 1, none⟩ k x (fun e => hk (by simp [e]))⟩⟩
theorem grownBy_trans {a b c : World} {row : Option Nat} (h : a.grownBy b row) (k : b.grownBy c row) : a.grownBy c row :=
  ⟨k.os.trans h.os, k.tape.trans h.tape, k.output.trans h.output, Nat.le_trans h.size k.size, fun j hj hr => (k.block j (Nat.lt_of_lt_of_le hj h.size) hr).trans (h.block j hj hr)⟩
theorem grownBy_drewN {a b : World} {row : Option Nat} (h : a.grownBy b row) (n : Nat) : a.grownBy (b.drewN n) row := ⟨h.os, h.tape, h.output, h.size, h.block⟩
theorem CodeAt.grown {w w' : World} {b : Nat} {v : Value} {len : Nat} (h : CodeAt w b v len) (hg : w.grownBy w' (some b)) : CodeAt w' b v len := by
  rcases h with h | ⟨cb, co, cap, rfl, hb, hl, hc⟩
  · exact Or.inl h
  · refine Or.inr ⟨cb, co, cap, rfl, hb, hl, fun j hj => ?_⟩
    obtain ⟨n, h0, h1, h2⟩ := hc j hj
    exact ⟨n, h0, h1, hg.cell h2 (fun e => Nat.ne_of_lt hb (Option.some.inj e))⟩
theorem cur_cells {w : World} {b : Nat} {v i h : Value} (hc : w.heap[b]? = some (.cells #[v, i, h] 81 (0, 0))) :
    w.cell? ⟨b, 0, none⟩ = some v ∧ w.cell? ⟨b, 1, none⟩ = some i ∧ w.cell? ⟨b, 2, none⟩ = some h ∧ w.frozen? ⟨b, 1, none⟩ = false ∧ w.frozen? ⟨b, 2, none⟩ = false :=
  ⟨by rw [cell_of_row w b 0 _ _ _ hc]; rfl, by rw [cell_of_row w b 1 _ _ _ hc]; rfl, by rw [cell_of_row w b 2 _ _ _ hc]; rfl, frozen_of_row w b 1 _ _ hc, frozen_of_row w b 2 _ _ hc⟩
theorem byte_ret {w w1 : World} {b : Nat} {v : Value} {len i : Nat} {h x : Int} {n : Nat} (hcode : CodeAt w b v len) (hg : w.grownBy w1 (some b)) (hw : w1.heap[b]? = some (.cells #[v, .int .i64 i, .int .i64 h] 81 (0, 0))) (hi : i ≤ len)
    (h0 : 0 ≤ x) (h1 : x ≤ 255) : ByteRet b w (.returned (.int .i64 x)) (w1.drewN n) :=
  ⟨x, rfl, h0, h1, ⟨v, len, i, h, hw, hcode.grown (grownBy_drewN hg n), hi⟩, grownBy_drewN hg n⟩

theorem byte_ret1 {w w1 : World} {b : Nat} {v : Value} {len i : Nat} {h x : Int} (hcode : CodeAt w b v len) (hg : w.grownBy w1 (some b)) (hw : w1.heap[b]? = some (.cells #[v, .int .i64 i, .int .i64 h] 81 (0, 0))) (hi : i < len)
    (h0 : 0 ≤ x) (h1 : x ≤ 255) : ByteRet b w (.returned (.int .i64 x)) (w1.setCell ⟨b, 1, none⟩ (.int .i64 ((i : Int) + 1))) := by
  have hs := cur_set1 (x := .int .i64 ((i + 1 : Nat) : Int)) hw
  rw [show ((i : Int) + 1) = ((i + 1 : Nat) : Int) by omega]
  have hg2 := grownBy_trans hg hs.2
  exact ⟨x, rfl, h0, h1, ⟨v, len, i + 1, h, hs.1, hcode.grown hg2, hi⟩, hg2⟩

set_option maxRecDepth 100000 in
set_option maxHeartbeats 1000000 in
theorem byte_nil (a : Option Addr) (cap b i : Nat) (h : Int) (w : World) (hi : i ≤ 0) (hc : w.heap[b]? = some (.cells #[.slice a 0 cap, .int .i64 i, .int .i64 h] 81 (0, 0))) :
    Calls Tryz.prog 84 #[.pointer (some ⟨b, 0, none⟩)] w (ByteRet b w) := by
  obtain ⟨c0, c1, c2, z1, z2⟩ := cur_cells hc
  have ha := and255
  have HC := Lib.hid hc
  clear hc
  go_enter Tryz.func84, Tryz.ntmps84
  go_wp2_with fail
  generalize wrap64 (h * 6364136223846793005) = h0
  generalize wrap64 (h0 + 1442695040888963407) = h1
  obtain ⟨hw, hg⟩ := cur_set2 (x := .int .i64 h1) HC.out
  clear c0 c1 c2 z1 z2
  generalize w.setCell ⟨b, 2, none⟩ (.int .i64 h1) = w1 at *
  obtain ⟨c0, c1, c2, z1, z2⟩ := cur_cells hw
  have HW := Lib.hid hw
  have HG := Lib.hid hg
  clear hw hg
  go_quiet (fail)
  go_wp2_with fail
  go_quiet (fail)
  go_wp2_with fail
  go_ret
  exact byte_ret (n := _) (Or.inl ⟨⟨a, cap, rfl⟩, rfl⟩) (grownBy_drewN HG.out _) HW.out hi (by omega) (by omega)

set_option maxRecDepth 100000 in
set_option maxHeartbeats 1000000 in
theorem byte_end (b i cb co len cap : Nat) (h : Int) (w : World) (hi : i ≤ len) (hlast : ¬ i < len) (hcode : CodeAt w b (.slice (some ⟨cb, co, none⟩) len cap) len) (hc : w.heap[b]? = some (.cells #[.slice (some ⟨cb, co, none⟩) len cap, .int .i64 i, .int .i64 h] 81 (0, 0))) :
    Calls Tryz.prog 84 #[.pointer (some ⟨b, 0, none⟩)] w (ByteRet b w) := by
  obtain ⟨c0, c1, c2, z1, z2⟩ := cur_cells hc
  have ha := and255
  have HC := Lib.hid hc
  have HK := Lib.hid hcode
  clear hcode
  clear hc
  go_enter Tryz.func84, Tryz.ntmps84
  go_wp2_with fail
  generalize wrap64 (h * 6364136223846793005) = h0
  generalize wrap64 (h0 + 1442695040888963407) = h1
  obtain ⟨hw, hg⟩ := cur_set2 (x := .int .i64 h1) HC.out
  clear c0 c1 c2 z1 z2
  generalize w.setCell ⟨b, 2, none⟩ (.int .i64 h1) = w1 at *
  obtain ⟨c0, c1, c2, z1, z2⟩ := cur_cells hw
  have HW := Lib.hid hw
  have HG := Lib.hid hg
  clear hw hg
  go_quiet (fail)
  go_wp2_with fail
  go_quiet (fail)
  go_wp2_with fail
  go_ret
  exact byte_ret (n := _) HK.out (grownBy_drewN HG.out _) HW.out hi (by omega) (by omega)

set_option maxRecDepth 100000 in
set_option maxHeartbeats 1000000 in
theorem byte_more (b i cb co len cap : Nat) (h : Int) (w : World) (hlt : i < len) (hlen : len ≤ 9223372036854775807) (hcb : cb ≠ b) (n : Int) (hn0 : 0 ≤ n) (hn1 : n ≤ 255) (hcell : w.cell? ⟨cb, co + i, none⟩ = some (.int .u8 n))
    (hcode : CodeAt w b (.slice (some ⟨cb, co, none⟩) len cap) len) (hc : w.heap[b]? = some (.cells #[.slice (some ⟨cb, co, none⟩) len cap, .int .i64 i, .int .i64 h] 81 (0, 0))) :
    Calls Tryz.prog 84 #[.pointer (some ⟨b, 0, none⟩)] w (ByteRet b w) := by
  have i0 : (0 : Int) ≤ (i : Int) := Int.natCast_nonneg _
  have i1 : (i : Int) < (len : Int) := by omega
  obtain ⟨c0, c1, c2, z1, z2⟩ := cur_cells hc
  have ha := and255
  have HC := Lib.hid hc
  have HK := Lib.hid hcode
  have HL := Lib.hid hcell
  clear hcode hcell
  clear hc
  go_enter Tryz.func84, Tryz.ntmps84
  go_wp2_with fail
  generalize wrap64 (h * 6364136223846793005) = h0
  generalize wrap64 (h0 + 1442695040888963407) = h1
  obtain ⟨hw, hg⟩ := cur_set2 (x := .int .i64 h1) HC.out
  clear c0 c1 c2 z1 z2
  generalize w.setCell ⟨b, 2, none⟩ (.int .i64 h1) = w1 at *
  obtain ⟨c0, c1, c2, z1, z2⟩ := cur_cells hw
  have cc : w1.cell? ⟨cb, co + i, none⟩ = some (.int .u8 n) := hg.cell HL.out (fun e => hcb (Option.some.inj e))
  have HW := Lib.hid hw
  have HG := Lib.hid hg
  clear hw hg
  go_quiet (fail)
  go_wp2_with fail
  go_quiet (fail)
  go_wp2_with fail
  go_quiet (fail)
  go_wp2_with fail
  go_ret
  exact byte_ret1 HK.out (grownBy_drewN HG.out _) HW.out hlt (by omega) (by omega)
theorem byte_any (b : Nat) (w : World) (hc : Cur w b) : Calls Tryz.prog 84 #[.pointer (some ⟨b, 0, none⟩)] w (ByteRet b w) := by
  obtain ⟨v, len, i, h, hw, hcode, hi⟩ := hc
  have hcode' := hcode
  rcases hcode with ⟨⟨a, cap, rfl⟩, rfl⟩ | ⟨cb, co, cap, rfl, hb, hl, hcell⟩
  · exact byte_nil a cap b i h w hi hw
  · by_cases hlt : i < len
    · obtain ⟨n, h0, h1, h2⟩ := hcell i hlt
      exact byte_more b i cb co len cap h w hlt hl (Nat.ne_of_lt hb) n h0 h1 h2 hcode' hw
    · exact byte_end b i cb co len cap h w hi hlt hcode' hw
end Go.Proofs.YtjobmgbchpoheaaGreatDoor
namespace Go.Proofs.YtjobmgbchpoheaaGreatDoor
open Go Go.RowKit
def Rd (w : World) (R : Nat) (s : ByteArray) (i : Nat) (bad : Bool) : Prop := w.heap[R]? = some (.cells #[.string s, .int .i64 i, .bool bad] 67 (0, 0))
theorem Rd.cells {w : World} {R : Nat} {s : ByteArray} {i : Nat} {bad : Bool} (h : Rd w R s i bad) :
    w.cell? ⟨R, 0, none⟩ = some (.string s) ∧ w.cell? ⟨R, 1, none⟩ = some (.int .i64 i) ∧ w.cell? ⟨R, 2, none⟩ = some (.bool bad) ∧ w.frozen? ⟨R, 1, none⟩ = false ∧ w.frozen? ⟨R, 2, none⟩ = false :=
  ⟨by rw [cell_of_row w R 0 _ _ _ h]; rfl, by rw [cell_of_row w R 1 _ _ _ h]; rfl, by rw [cell_of_row w R 2 _ _ _ h]; rfl, frozen_of_row w R 1 _ _ h, frozen_of_row w R 2 _ _ h⟩
theorem Rd.lt {w : World} {R : Nat} {s : ByteArray} {i : Nat} {bad : Bool} (h : Rd w R s i bad) : R < w.heap.size := (Array.getElem?_eq_some_iff.1 h).1
theorem Rd.drew {w : World} {R : Nat} {s : ByteArray} {i : Nat} {bad : Bool} (h : Rd w R s i bad) (n : Nat) : Rd (w.drewN n) R s i bad := h
theorem grown_refl (w : World) (r : Option Nat) : w.grownBy w r := ⟨rfl, rfl, rfl, Nat.le_refl _, fun _ _ _ => rfl⟩
theorem Rd.at {w : World} {R : Nat} {s : ByteArray} {i : Nat} {bad : Bool} (h : Rd w R s i bad) (j : Nat) : Rd (w.setCell ⟨R, 1, none⟩ (.int .i64 j)) R s j bad ∧ w.grownBy (w.setCell ⟨R, 1, none⟩ (.int .i64 j)) (some R) :=
  ⟨heap_setCell_same w R 1 _ _ _ h, ⟨rfl, rfl, rfl, by simp, fun k _ hk => heap_setCell_other w ⟨R, 1, none⟩ k _ (fun e => hk (by simp [e]))⟩⟩
theorem Rd.set {w : World} {R : Nat} {s : ByteArray} {i : Nat} {bad : Bool} (h : Rd w R s i bad) (b : Bool) : Rd (w.setCell ⟨R, 2, none⟩ (.bool b)) R s i b ∧ w.grownBy (w.setCell ⟨R, 2, none⟩ (.bool b)) (some R) :=
  ⟨heap_setCell_same w R 2 _ _ _ h, ⟨rfl, rfl, rfl, by simp, fun k _ hk => heap_setCell_other w ⟨R, 2, none⟩ k _ (fun e => hk (by simp [e]))⟩⟩

theorem one_byte {s : ByteArray} {i : Nat} (h : i < s.size) : (s.extract i (i + 1)).toList = [s[i]] := by
  have h1 : i < s.data.toList.length := by simpa using h
  rw [ByteArray.toList_eq, ByteArray.data_extract, Array.toList_extract, List.extract_eq_take_drop]
  rw [show i + 1 - i = 1 by omega, List.drop_eq_getElem_cons h1, List.take_succ_cons, List.take_zero, Array.getElem_toList]
  rfl
theorem at_byte {s : ByteArray} {i : Nat} (h : i < s.size) : s.data.toList[i]? = some s[i] := by
  rw [List.getElem?_eq_getElem (by simpa using h), Array.getElem_toList]; rfl
theorem at_none {s : ByteArray} {i : Nat} (h : ¬ i < s.size) : s.data.toList[i]? = none := List.getElem?_eq_none (by simpa using h)
def TakeRet (R : Nat) (s : ByteArray) (i : Nat) (bad : Bool) (c : UInt8) (w : World) (e : Ending) (w' : World) : Prop :=
  ∃ b : Bool, (b = true ↔ bad = false ∧ s.data.toList[i]? = some c) ∧ e = .returned (.bool b) ∧ Rd w' R s (if b then i + 1 else i) bad ∧ w.grownBy w' (some R)
theorem take_yes {R : Nat} {s : ByteArray} {i : Nat} {c : UInt8} {w w1 : World} (h : Rd w1 R s i false) (hc : s.data.toList[i]? = some c) (hg : w.grownBy w1 (some R)) :
    TakeRet R s i false c w (.returned (.bool true)) (w1.setCell ⟨R, 1, none⟩ (.int .i64 ((i : Int) + 1))) := by
  have := h.at (i + 1)
  rw [show ((i : Int) + 1) = ((i + 1 : Nat) : Int) by omega]
  exact ⟨true, ⟨fun _ => ⟨rfl, hc⟩, fun _ => rfl⟩, rfl, this.1, grownBy_trans hg this.2⟩
theorem take_no {R : Nat} {s : ByteArray} {i : Nat} {bad : Bool} {c : UInt8} {w w1 : World} (h : Rd w1 R s i bad) (hc : ¬ (bad = false ∧ s.data.toList[i]? = some c)) (hg : w.grownBy w1 (some R)) :
    TakeRet R s i bad c w (.returned (.bool false)) w1 :=
  ⟨false, ⟨fun h => (by cases h), fun h => absurd h hc⟩, rfl, h, hg⟩

set_option maxRecDepth 100000 in
set_option maxHeartbeats 1000000 in
theorem take_bad (R : Nat) (s : ByteArray) (i : Nat) (c : UInt8) (w : World) (hr : Rd w R s i true) :
    Calls Tryz.prog 71 #[.pointer (some ⟨R, 0, none⟩), .string ⟨#[c]⟩] w (TakeRet R s i true c w) := by
  obtain ⟨c0, c1, c2, z1, z2⟩ := hr.cells
  have HR := Lib.hid hr
  clear hr
  go_enter Tryz.func71, Tryz.ntmps71
  go_wp2_with fail
  go_quiet (fail)
  go_wp2_with fail
  go_ret
  exact take_no (HR.out.drew _) (by simp) (grownBy_drewN (grown_refl _ _) _)

set_option maxRecDepth 100000 in
set_option maxHeartbeats 1000000 in
theorem take_end (R : Nat) (s : ByteArray) (i : Nat) (c : UInt8) (w : World) (hs : s.size ≤ 1073741824) (hi : i ≤ s.size) (hlt : ¬ i < s.size) (hr : Rd w R s i false) :
    Calls Tryz.prog 71 #[.pointer (some ⟨R, 0, none⟩), .string ⟨#[c]⟩] w (TakeRet R s i false c w) := by
  obtain ⟨c0, c1, c2, z1, z2⟩ := hr.cells
  have HR := Lib.hid hr
  clear hr
  have hw : IntKind.i64.wrap ((i : Int) + 1) = (i : Int) + 1 := IntWalk.i64_in _ (by omega)
  have h1 : decide ((s.size : Int) < (i : Int) + 1) = true := decide_eq_true (by omega)
  go_enter Tryz.func71, Tryz.ntmps71
  go_wp2_with fail
  go_quiet (fail)
  go_wp2_with fail
  go_ret
  exact take_no (HR.out.drew _) (by rw [at_none hlt]; simp) (grownBy_drewN (grown_refl _ _) _)

set_option maxRecDepth 100000 in
set_option maxHeartbeats 1000000 in
theorem take_at (R : Nat) (s : ByteArray) (i : Nat) (c : UInt8) (w : World) (hs : s.size ≤ 1073741824) (hlt : i < s.size) (hr : Rd w R s i false) :
    Calls Tryz.prog 71 #[.pointer (some ⟨R, 0, none⟩), .string ⟨#[c]⟩] w (TakeRet R s i false c w) := by
  obtain ⟨c0, c1, c2, z1, z2⟩ := hr.cells
  have HR := Lib.hid hr
  clear hr
  have h0 : (0 : Int) ≤ (i : Int) := by omega
  have hw : IntKind.i64.wrap ((i : Int) + 1) = (i : Int) + 1 := IntWalk.i64_in _ (by omega)
  have h1 : decide ((s.size : Int) < (i : Int) + 1) = false := decide_eq_false (by omega)
  have h2 : (i : Int) + 1 ≤ (s.size : Int) := by omega
  have HX := Lib.hid (one_byte hlt)
  by_cases hc : s[i] = c
  · have he : ((s.extract i (i + 1)).toList == [c]) = true := by rw [HX.out, hc]; simp
    go_enter Tryz.func71, Tryz.ntmps71
    go_wp2_with fail
    go_quiet (fail)
    go_wp2_with fail
    go_ret
    exact take_yes (HR.out.drew _) (by rw [at_byte hlt, hc]) (grownBy_drewN (grown_refl _ _) _)
  · have he : ((s.extract i (i + 1)).toList == [c]) = false := by rw [HX.out]; simpa using hc
    go_enter Tryz.func71, Tryz.ntmps71
    go_wp2_with fail
    go_quiet (fail)
    go_wp2_with fail
    go_ret
    exact take_no (HR.out.drew _) (by rw [at_byte hlt]; simpa using hc) (grownBy_drewN (grown_refl _ _) _)
theorem take_any (R : Nat) (s : ByteArray) (i : Nat) (bad : Bool) (c : UInt8) (w : World) (hs : s.size ≤ 1073741824) (hi : i ≤ s.size) (hr : Rd w R s i bad) :
    Calls Tryz.prog 71 #[.pointer (some ⟨R, 0, none⟩), .string ⟨#[c]⟩] w (TakeRet R s i bad c w) := by
  cases bad
  · by_cases hlt : i < s.size
    · exact take_at R s i c w hs hlt hr
    · exact take_end R s i c w hs hi hlt hr
  · exact take_bad R s i c w hr
end Go.Proofs.YtjobmgbchpoheaaGreatDoor
namespace Go.Proofs.YtjobmgbchpoheaaGreatDoor
open Go Go.RowKit

theorem ar_int (w : World) : Calls Tryz.prog 199 #[.agg #[]] w fun e w' => e = .returned (.int .i64 0) ∧ Below w.heap.size w w' := by
  go_enter Tryz.func199, Tryz.ntmps199
  go_wp2
  go_ret
  exact ⟨rfl, (Below.refl _ _).alloc (Nat.le_refl _) _⟩
theorem ar_bool (w : World) : Calls Tryz.prog 200 #[.agg #[]] w fun e w' => e = .returned (.int .i64 0) ∧ Below w.heap.size w w' := by
  go_enter Tryz.func200, Tryz.ntmps200
  go_wp2
  go_ret
  exact ⟨rfl, (Below.refl _ _).alloc (Nat.le_refl _) _⟩
theorem ar_fun (w : World) : Calls Tryz.prog 201 #[.agg #[]] w fun e w' => e = .returned (.int .i64 2) ∧ Below w.heap.size w w' := by
  go_enter Tryz.func201, Tryz.ntmps201
  go_wp2
  go_ret
  exact ⟨rfl, (Below.refl _ _).alloc (Nat.le_refl _) _⟩
theorem ar_code (w : World) : Calls Tryz.prog 202 #[.agg #[]] w fun e w' => e = .returned (.int .i64 1) ∧ Below w.heap.size w w' := by
  go_enter Tryz.func202, Tryz.ntmps202
  go_wp2
  go_ret
  exact ⟨rfl, (Below.refl _ _).alloc (Nat.le_refl _) _⟩

theorem meth_int (w : World) : (method 327 158 (.agg #[]) "loop.example/g00589/impl.arity").run Tryz.prog w = .ok (199, .agg #[]) w := by kernel_rfl
theorem meth_bool (w : World) : (method 327 159 (.agg #[]) "loop.example/g00589/impl.arity").run Tryz.prog w = .ok (200, .agg #[]) w := by kernel_rfl
theorem meth_fun (w : World) : (method 327 160 (.agg #[]) "loop.example/g00589/impl.arity").run Tryz.prog w = .ok (201, .agg #[]) w := by kernel_rfl
theorem meth_code (w : World) : (method 327 161 (.agg #[]) "loop.example/g00589/impl.arity").run Tryz.prog w = .ok (202, .agg #[]) w := by kernel_rfl
def kindV (k : Int) (n : Nat) : Value :=
  if k = 1 ∧ n = 0 then .iface 158 (.agg #[])
  else if k = 2 ∧ n = 0 then .iface 159 (.agg #[])
  else if k = 3 ∧ n = 2 then .iface 160 (.agg #[])
  else if k = 4 ∧ n = 1 then .iface 161 (.agg #[])
  else .nilIface

theorem keep1 {w W w1 : World} {p1 : Addr} {v1 : Value} (hb1 : Below W.heap.size W w1) (h : W.cell? p1 = some v1 ∧ Below w.heap.size w W) : w1.cell? p1 = some v1 ∧ Below w.heap.size w w1 :=
  ⟨(hb1.cell (World.block_lt_of_cell? W _ h.1)).trans h.1, h.2.trans (hb1.mono h.2.size)⟩

set_option maxRecDepth 100000 in
set_option maxHeartbeats 1000000 in
theorem kindOf_any (k : Int) (p : Option Addr) (n c : Nat) (w : World) (hn : n ≤ 9223372036854775807) :
    Calls Tryz.prog 125 #[.agg #[.int .i64 k, .slice p n c]] w fun e w' => e = .returned (kindV k n) ∧ Below w.heap.size w w' := by
  have HV := Lib.hid (fun v (h : kindV k n = v) (w' : World) (hb : Below w.heap.size w w') => (⟨by rw [h], hb⟩ : Ending.returned v = .returned (kindV k n) ∧ Below w.heap.size w w'))
  go_enter Tryz.func125, Tryz.ntmps125
  by_cases q1 : k = 1
  · subst q1
    have hm := meth_int
    have hB : Below w.heap.size w (w.alloc (Obj.cells #[.int .i64 1, .slice p n c] 26)) := (Below.refl w.heap.size w).alloc (Nat.le_refl _) _
    go_wp2_with fail
    go_region_held3 (fun w' => w'.cell? ⟨w.heap.size, 1, none⟩ = some (.slice p n c) ∧ Below w.heap.size w w')
      (first
        | (go_keep; done)
        | exact ⟨by simp [*], hB.drew⟩
        | exact keep1 hb1 (by assumption))
      (first | (go_at_call 199; refine (ar_int _).mono ?_; rintro e w1 ⟨rfl, hb1⟩))
    all_goals
      rename_i hH
      have HB := Lib.hid hH.2
      clear hH hb1 hB hm
      by_cases hz : n = 0
      · subst hz
        go_wp2_with fail
        go_ret
        exact HV.out _ (by simp [kindV]) _ HB.out
      · go_wp2_with fail
        go_ret
        exact HV.out _ (by simp [kindV, hz]) _ HB.out
  by_cases q2 : k = 2
  · subst q2
    have hm := meth_bool
    have hB : Below w.heap.size w (w.alloc (Obj.cells #[.int .i64 2, .slice p n c] 26)) := (Below.refl w.heap.size w).alloc (Nat.le_refl _) _
    go_wp2_with fail
    go_region_held3 (fun w' => w'.cell? ⟨w.heap.size, 1, none⟩ = some (.slice p n c) ∧ Below w.heap.size w w')
      (first
        | (go_keep; done)
        | exact ⟨by simp [*], hB.drew⟩
        | exact keep1 hb1 (by assumption))
      (first | (go_at_call 200; refine (ar_bool _).mono ?_; rintro e w1 ⟨rfl, hb1⟩))
    all_goals
      rename_i hH
      have HB := Lib.hid hH.2
      clear hH hb1 hB hm
      by_cases hz : n = 0
      · subst hz
        go_wp2_with fail
        go_ret
        exact HV.out _ (by simp [kindV]) _ HB.out
      · go_wp2_with fail
        go_ret
        exact HV.out _ (by simp [kindV, hz]) _ HB.out
  by_cases q3 : k = 3
  · subst q3
    have hm := meth_fun
    have hB : Below w.heap.size w (w.alloc (Obj.cells #[.int .i64 3, .slice p n c] 26)) := (Below.refl w.heap.size w).alloc (Nat.le_refl _) _
    go_wp2_with fail
    go_region_held3 (fun w' => w'.cell? ⟨w.heap.size, 1, none⟩ = some (.slice p n c) ∧ Below w.heap.size w w')
      (first
        | (go_keep; done)
        | exact ⟨by simp [*], hB.drew⟩
        | exact keep1 hb1 (by assumption))
      (first | (go_at_call 201; refine (ar_fun _).mono ?_; rintro e w1 ⟨rfl, hb1⟩))
    all_goals
      rename_i hH
      have HB := Lib.hid hH.2
      clear hH hb1 hB hm
      by_cases hz : n = 2
      · subst hz
        go_wp2_with fail
        go_ret
        exact HV.out _ (by simp [kindV]) _ HB.out
      · go_wp2_with fail
        go_ret
        exact HV.out _ (by simp [kindV, hz]) _ HB.out
  by_cases q4 : k = 4
  · subst q4
    have hm := meth_code
    have hB : Below w.heap.size w (w.alloc (Obj.cells #[.int .i64 4, .slice p n c] 26)) := (Below.refl w.heap.size w).alloc (Nat.le_refl _) _
    go_wp2_with fail
    go_region_held3 (fun w' => w'.cell? ⟨w.heap.size, 1, none⟩ = some (.slice p n c) ∧ Below w.heap.size w w')
      (first
        | (go_keep; done)
        | exact ⟨by simp [*], hB.drew⟩
        | exact keep1 hb1 (by assumption))
      (first | (go_at_call 202; refine (ar_code _).mono ?_; rintro e w1 ⟨rfl, hb1⟩))
    all_goals
      rename_i hH
      have HB := Lib.hid hH.2
      clear hH hb1 hB hm
      by_cases hz : n = 1
      · subst hz
        go_wp2_with fail
        go_ret
        exact HV.out _ (by simp [kindV]) _ HB.out
      · go_wp2_with fail
        go_ret
        exact HV.out _ (by simp [kindV, hz]) _ HB.out
  have hB := Lib.hid ((Below.refl w.heap.size w).alloc (Nat.le_refl _) (Obj.cells #[.int .i64 k, .slice p n c] 26))
  have t1 : (k == 1) = false := by simp [q1]
  have t2 : (k == 2) = false := by simp [q2]
  have t3 : (k == 3) = false := by simp [q3]
  have t4 : (k == 4) = false := by simp [q4]
  have hv := Lib.hid (show kindV k n = .nilIface by simp [kindV, q1, q2, q3, q4])
  clear q1 q2 q3 q4
  go_wp2_with fail
  go_region
  all_goals
    go_wp2_with fail
    go_ret
    exact HV.out _ hv.out _ hB.out.drew
end Go.Proofs.YtjobmgbchpoheaaGreatDoor
namespace Go.Proofs.YtjobmgbchpoheaaGreatDoor
open Go Go.RowKit

theorem kindV_cases (k : Int) (n : Nat) : ((k = 1 ∧ n = 0) ∧ kindV k n = .iface 158 (.agg #[])) ∨ ((k = 2 ∧ n = 0) ∧ kindV k n = .iface 159 (.agg #[])) ∨
    ((k = 3 ∧ n = 2) ∧ kindV k n = .iface 160 (.agg #[])) ∨ ((k = 4 ∧ n = 1) ∧ kindV k n = .iface 161 (.agg #[])) ∨
    ((¬ (k = 1 ∧ n = 0) ∧ ¬ (k = 2 ∧ n = 0) ∧ ¬ (k = 3 ∧ n = 2) ∧ ¬ (k = 4 ∧ n = 1)) ∧ kindV k n = .nilIface) := by
  unfold kindV
  by_cases h1 : k = 1 ∧ n = 0
  · simp [h1]
  by_cases h2 : k = 2 ∧ n = 0
  · simp [h2]
  by_cases h3 : k = 3 ∧ n = 2
  · simp [h3]
  by_cases h4 : k = 4 ∧ n = 1
  · simp [h4]
  simp [h1, h2, h3, h4]

def Ty.code (t : Ty) : Bool := decide (t.kind = 4 ∧ t.args.length = 1)

end Go.Proofs.YtjobmgbchpoheaaGreatDoor
