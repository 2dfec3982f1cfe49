/-
  The text of a type, and the parsing of such a text: plain facts, of no program.
-/
import Derived.Test.YtnciibngcaajgaaErFacts
namespace Go.Proofs.Ytnciibngcaajgaa
open Go Go.RowKit

def textK (k : Int) (xs : List (List UInt8)) : List UInt8 :=
  if k = 1 then [73] else if k = 2 then [66] else if k = 3 then 40 :: (xs.getD 0 [] ++ 62 :: (xs.getD 1 [] ++ [41])) else 60 :: (xs.getD 0 [] ++ [62])
mutual
/-- The text of a type. -/
def Ty.text : Ty → List UInt8
  | .mk k ts => textK k (textS ts)
def textS : List Ty → List (List UInt8)
  | [] => []
  | t :: ts => t.text :: textS ts
end
theorem text_fun (a b : Ty) : (Ty.mk 3 [a, b]).text = 40 :: (a.text ++ 62 :: (b.text ++ [41])) := by simp [Ty.text, textS, textK]
theorem text_code (a : Ty) : (Ty.mk 4 [a]).text = 60 :: (a.text ++ [62]) := by simp [Ty.text, textS, textK]
theorem text_int (ts : List Ty) : (Ty.mk 1 ts).text = [73] := by simp [Ty.text, textK]
theorem text_bool (ts : List Ty) : (Ty.mk 2 ts).text = [66] := by simp [Ty.text, textK]

/-- A type of a right form is of one of four kinds. -/
theorem form_cases {t : Ty} (h : t.form = true) : t = .mk 1 [] ∨ t = .mk 2 [] ∨ (∃ a b, t = .mk 3 [a, b] ∧ a.form = true ∧ b.form = true) ∨ ∃ a, t = .mk 4 [a] ∧ a.form = true := by
  obtain ⟨k, ts⟩ := t
  obtain ⟨h1, h2⟩ := (form_mk k ts).1 h
  rcases h2 with ⟨hk, hl⟩ | ⟨rfl, hl⟩ | ⟨rfl, hl⟩
  · obtain rfl := List.eq_nil_of_length_eq_zero hl
    rcases hk with rfl | rfl
    · exact Or.inl rfl
    · exact Or.inr (Or.inl rfl)
  · obtain ⟨a, b, rfl⟩ : ∃ a b, ts = [a, b] := by
      match ts, hl with
      | [a, b], _ => exact ⟨a, b, rfl⟩
    simp only [formS_cons] at h1
    exact Or.inr (Or.inr (Or.inl ⟨a, b, rfl, h1.1, h1.2.1⟩))
  · obtain ⟨a, rfl⟩ := List.length_eq_one_iff.1 hl
    simp only [formS_cons] at h1
    exact Or.inr (Or.inr (Or.inr ⟨a, rfl, h1.1⟩))

theorem text_le : ∀ (n : Nat) (t : Ty), t.nodes ≤ n → t.form = true → t.text.length ≤ 3 * t.nodes
  | 0, t, hn, _ => by rw [t.nodes_eq] at hn; omega
  | n + 1, t, hn, h => by
    rcases form_cases h with rfl | rfl | ⟨a, b, rfl, ha, hb⟩ | ⟨a, rfl, ha⟩
    · simp [text_int, Ty.nodes, nodesS]
    · simp [text_bool, Ty.nodes, nodesS]
    · simp only [Ty.nodes, nodesS] at hn
      have h1 := text_le n a (by omega) ha
      have h2 := text_le n b (by omega) hb
      rw [text_fun]
      simp only [List.length_cons, List.length_append, List.length_nil, Ty.nodes, nodesS]
      omega
    · simp only [Ty.nodes, nodesS] at hn
      have h1 := text_le n a (by omega) ha
      rw [text_code]
      simp only [List.length_cons, List.length_append, List.length_nil, Ty.nodes, nodesS]
      omega

/-- Parts, each ahead of one of the ends. -/
def ptys (f : Nat → Option (Ty × Nat)) (s : List UInt8) : List UInt8 → Nat → Option (List Ty × Nat)
  | [], i => some ([], i)
  | e :: es, i => match f i with
    | none => none
    | some (t, j) => if s[j]? = some e then (ptys f s es (j + 1)).map (fun r => (t :: r.1, r.2)) else none
/-- The type at place i, at most k deep, and the place behind it. -/
def pty (s : List UInt8) : Nat → Nat → Option (Ty × Nat)
  | 0, _ => none
  | k + 1, i =>
    if s[i]? = some 73 then some (.mk 1 [], i + 1)
    else if s[i]? = some 66 then some (.mk 2 [], i + 1)
    else if s[i]? = some 40 then (ptys (pty s k) s [62, 41] (i + 1)).map fun r => (.mk 3 r.1, r.2)
    else if s[i]? = some 60 then (ptys (pty s k) s [62] (i + 1)).map fun r => (.mk 4 r.1, r.2)
    else none

theorem ptys_append (f : Nat → Option (Ty × Nat)) (s a b : List UInt8) (i : Nat) :
    ptys f s (a ++ b) i = (ptys f s a i).bind fun r => (ptys f s b r.2).map fun q => (r.1 ++ q.1, q.2) := by
  induction a generalizing i with
  | nil => simp only [List.nil_append, ptys, Option.bind_some]; cases ptys f s b i <;> rfl
  | cons e a ih =>
    simp only [List.cons_append, ptys]
    cases hf : f i with
    | none => rfl
    | some r =>
      obtain ⟨t, j⟩ := r
      dsimp only
      by_cases he : s[j]? = some e
      · rw [if_pos he, if_pos he, ih]
        cases ptys f s a (j + 1) with
        | none => rfl
        | some q =>
          simp only [Option.bind_some, Option.map_some]
          cases ptys f s b q.2 <;> rfl
      · rw [if_neg he, if_neg he]; rfl
theorem ptys_none {f : Nat → Option (Ty × Nat)} {s es : List UInt8} {i j : Nat} (h : ptys f s (es.take j) i = none) : ptys f s es i = none := by
  rw [← List.take_append_drop j es, ptys_append, h]; rfl
theorem ptys_snoc {f : Nat → Option (Ty × Nat)} {s es : List UInt8} {i n : Nat} {ts : List Ty} (h : ptys f s es i = some (ts, n)) (e : UInt8) :
    ptys f s (es ++ [e]) i = match f n with
      | none => none
      | some (t, j) => if s[j]? = some e then some (ts ++ [t], j + 1) else none := by
  rw [ptys_append, h]
  simp only [Option.bind_some, ptys]
  cases f n with
  | none => rfl
  | some r => obtain ⟨t, j⟩ := r; dsimp only; by_cases he : s[j]? = some e <;> simp [he]

/-- What has been parsed. -/
structure Good (s : List UInt8) (k i : Nat) (t : Ty) (j : Nat) : Prop where
  lt : i < j
  le : j ≤ s.length
  depth : t.depth ≤ k
  nodes : t.nodes + 1 ≤ 2 ^ k
  form : t.form = true
  text : s.drop i = t.text ++ s.drop j
theorem drop_at {s : List UInt8} {i : Nat} {c : UInt8} (h : s[i]? = some c) : s.drop i = c :: s.drop (i + 1) ∧ i < s.length := by
  obtain ⟨h1, rfl⟩ := List.getElem?_eq_some_iff.1 h
  exact ⟨List.drop_eq_getElem_cons h1, h1⟩
theorem two_pow_pos (k : Nat) : 1 ≤ 2 ^ k := Nat.one_le_two_pow
theorem pty_good (s : List UInt8) : ∀ (k i : Nat) (t : Ty) (j : Nat), pty s k i = some (t, j) → Good s k i t j
  | 0, i, t, j, h => by cases h
  | k + 1, i, t, j, h => by
    have hp := two_pow_pos k
    unfold pty at h
    split at h
    · next hc =>
      obtain ⟨h1, h2⟩ := drop_at hc
      simp only [Option.some.injEq, Prod.mk.injEq] at h
      obtain ⟨rfl, rfl⟩ := h
      exact ⟨by omega, by omega, by simp [Ty.depth, depthS], by simp only [Ty.nodes, nodesS, Nat.pow_succ]; omega, by decide, by rw [h1, text_int]; rfl⟩
    · split at h
      · next hc =>
        obtain ⟨h1, h2⟩ := drop_at hc
        simp only [Option.some.injEq, Prod.mk.injEq] at h
        obtain ⟨rfl, rfl⟩ := h
        exact ⟨by omega, by omega, by simp [Ty.depth, depthS], by simp only [Ty.nodes, nodesS, Nat.pow_succ]; omega, by decide, by rw [h1, text_bool]; rfl⟩
      · split at h
        · next hc =>
          obtain ⟨h1, h2⟩ := drop_at hc
          simp only [ptys] at h
          cases ha : pty s k (i + 1) with
          | none => rw [ha] at h; cases h
          | some r =>
            obtain ⟨a, i1⟩ := r
            have ga := pty_good s k _ _ _ ha
            rw [ha] at h
            dsimp only at h
            split at h
            · next hc1 =>
              obtain ⟨h3, h4⟩ := drop_at hc1
              cases hb : pty s k (i1 + 1) with
              | none => rw [hb] at h; cases h
              | some r =>
                obtain ⟨b, i2⟩ := r
                have gb := pty_good s k _ _ _ hb
                rw [hb] at h
                dsimp only at h
                split at h
                · next hc2 =>
                  obtain ⟨h5, h6⟩ := drop_at hc2
                  simp only [Option.map_some, Option.some.injEq, Prod.mk.injEq] at h
                  obtain ⟨rfl, rfl⟩ := h
                  have := ga.lt
                  have := gb.lt
                  have := ga.nodes
                  have := gb.nodes
                  have := ga.depth
                  have := gb.depth
                  refine ⟨by omega, by omega, by simp only [Ty.depth, depthS]; omega, by simp only [Ty.nodes, nodesS, Nat.pow_succ]; omega, ?_, ?_⟩
                  · rw [form_mk]
                    simp [formS, ga.form, gb.form]
                  · rw [h1, ga.text, h3, gb.text, h5, text_fun]
                    simp
                · cases h
            · cases h
        · split at h
          · next hc =>
            obtain ⟨h1, h2⟩ := drop_at hc
            simp only [ptys] at h
            cases ha : pty s k (i + 1) with
            | none => rw [ha] at h; cases h
            | some r =>
              obtain ⟨a, i1⟩ := r
              have ga := pty_good s k _ _ _ ha
              rw [ha] at h
              dsimp only at h
              split at h
              · next hc1 =>
                obtain ⟨h3, h4⟩ := drop_at hc1
                simp only [Option.map_some, Option.some.injEq, Prod.mk.injEq] at h
                obtain ⟨rfl, rfl⟩ := h
                have := ga.lt
                have := ga.nodes
                have := ga.depth
                refine ⟨by omega, by omega, by simp only [Ty.depth, depthS]; omega, by simp only [Ty.nodes, nodesS, Nat.pow_succ]; omega, ?_, ?_⟩
                · rw [form_mk]
                  simp [formS, ga.form]
                · rw [h1, ga.text, h3, text_code]
                  simp
              · cases h
          · cases h

theorem drop_more {s x r : List UInt8} {i : Nat} {c : UInt8} (h : s.drop i = x ++ c :: r) : s[i + x.length]? = some c ∧ s.drop (i + x.length + 1) = r := by
  constructor
  · rw [← List.getElem?_drop, h]; simp
  · rw [Nat.add_assoc, ← List.drop_drop, h]
    have : (x ++ c :: r).drop (x.length + 1) = (c :: r).drop 1 := by rw [List.drop_append]; simp
    rw [this]; rfl
/-- A TYPE'S TEXT IS PARSED AS THAT TYPE. -/
theorem pty_text (s : List UInt8) : ∀ (k : Nat) (t : Ty) (i : Nat) (r : List UInt8), t.form = true → t.depth ≤ k → s.drop i = t.text ++ r → pty s k i = some (t, i + t.text.length)
  | 0, t, i, r, _, hd, _ => by rw [depth_at] at hd; omega
  | k + 1, t, i, r, hf, hd, hs => by
    unfold pty
    rcases form_cases hf with rfl | rfl | ⟨a, b, rfl, ha, hb⟩ | ⟨a, rfl, ha⟩
    · rw [text_int] at hs
      have h1 := (drop_more (x := []) (by simpa using hs)).1
      simp only [List.length_nil, Nat.add_zero] at h1
      rw [if_pos h1, text_int]; rfl
    · rw [text_bool] at hs
      have h1 := (drop_more (x := []) (by simpa using hs)).1
      simp only [List.length_nil, Nat.add_zero] at h1
      rw [if_neg (by rw [h1]; decide), if_pos h1, text_bool]; rfl
    · rw [text_fun] at hs
      have h1 := drop_more (x := []) (i := i) (c := 40) (r := a.text ++ 62 :: (b.text ++ 41 :: r)) (by simpa using hs)
      simp only [List.length_nil, Nat.add_zero] at h1
      simp only [Ty.depth, depthS] at hd
      have h2 := pty_text s k a (i + 1) _ ha (by omega) h1.2
      have h3 := drop_more h1.2
      have h4 := pty_text s k b (i + 1 + a.text.length + 1) _ hb (by omega) h3.2
      have h5 := drop_more h3.2
      rw [if_neg (by rw [h1.1]; decide), if_neg (by rw [h1.1]; decide), if_pos h1.1]
      simp only [ptys, h2, h3.1, h4, h5.1, if_true, Option.map_some, text_fun, List.length_cons, List.length_append, List.length_nil]
      congr 2
      omega
    · rw [text_code] at hs
      have h1 := drop_more (x := []) (i := i) (c := 60) (r := a.text ++ 62 :: r) (by simpa using hs)
      simp only [List.length_nil, Nat.add_zero] at h1
      simp only [Ty.depth, depthS] at hd
      have h2 := pty_text s k a (i + 1) _ ha (by omega) h1.2
      have h3 := drop_more h1.2
      rw [if_neg (by rw [h1.1]; decide), if_neg (by rw [h1.1]; decide), if_neg (by rw [h1.1]; decide), if_pos h1.1]
      simp only [ptys, h2, h3.1, if_true, Option.map_some, text_code, List.length_cons, List.length_append, List.length_nil]
      congr 2
      omega

/-- What FormatType answers, and ParseType. -/
def fmtT (t : Ty) : List UInt8 := if t.valid then t.text else []
def parseT (s : List UInt8) : Option Ty := match pty s 8 0 with
  | none => none
  | some (t, j) => if j = s.length ∧ t.valid = true then some t else none
theorem parse_fmt (t : Ty) : parseT (fmtT t) = if t.valid then some t else none := by
  unfold parseT fmtT
  by_cases h : t.valid = true
  · obtain ⟨_, h2, h3⟩ := (valid_iff t).1 h
    rw [if_pos h, if_pos h, pty_text t.text 8 t 0 [] h3 h2 (by simp)]
    simp [h]
  · rw [if_neg h, if_neg h]
    rfl
theorem fmt_parse {s : List UInt8} {t : Ty} (h : parseT s = some t) : fmtT t = s ∧ t.valid = true := by
  unfold parseT at h
  cases hp : pty s 8 0 with
  | none => rw [hp] at h; cases h
  | some r =>
    obtain ⟨u, j⟩ := r
    rw [hp] at h
    dsimp only at h
    split at h
    · next hc =>
      obtain rfl := Option.some.inj h
      have g := (pty_good s _ _ _ _ hp).text
      rw [hc.1] at g
      simp only [List.drop_zero, List.drop_length, List.append_nil] at g
      exact ⟨by rw [fmtT, if_pos hc.2, g], hc.2⟩
    · cases h
/-- The model's test. -/
theorem parse_test {s : List UInt8} {t : Ty} {j : Nat} (h : pty s 8 0 = some (t, j)) (hj : j = s.length) : fmtT t = s ↔ t.valid = true := by
  have g := pty_good s _ _ _ _ h
  have gt := g.text
  have := g.lt
  subst hj
  simp only [List.drop_zero, List.drop_length, List.append_nil] at gt
  unfold fmtT
  by_cases hv : t.valid = true
  · rw [if_pos hv]; exact ⟨fun _ => hv, fun _ => gt.symm⟩
  · rw [if_neg hv]
    exact ⟨fun e => by rw [← e] at this; simp at this, fun e => absurd e hv⟩
theorem parse_of {s : List UInt8} {t : Ty} {j : Nat} (h : pty s 8 0 = some (t, j)) : parseT s = if j = s.length ∧ t.valid = true then some t else none := by rw [parseT, h]
theorem parse_no {s : List UInt8} (h : pty s 8 0 = none) : parseT s = none := by rw [parseT, h]
theorem parse_small (s : List UInt8) : nodesS ((parseT s).getD (.mk 0 [])).args ≤ 256 := by
  cases h : parseT s with
  | none => simp [nodesS]
  | some t =>
    have hv := (fmt_parse h).2
    have := ((valid_iff t).1 hv).1
    rw [t.nodes_eq] at this
    simp only [Option.getD_some]
    omega
end Go.Proofs.Ytnciibngcaajgaa

