/-
  Several texts of the proof in one (each says below what it holds): Without FreeP RsP FreeS RsS WithinM IsTermI ScopeA ScopeB NodesQ NodesR.
-/
import Derived.Test.YtfeijijeohfpgaaDoorLq7
import Derived.Test.YtfeijijeohfpgaaDoorLq2
import Derived.Test.YtfeijijeohfpgaaDoorLq1
import Derived.Test.YtfeijijeohfpgaaDoorLq4
import Derived.Test.YtfeijijeohfpgaaDoorLq3
import Derived.Test.YtfeijijeohfpgaaDoorLq6
import Derived.Test.YtfeijijeohfpgaaDoorLq5
import Derived.WalkSmall
import Derived.Lib.SmallJoins
import Derived.RangeFuncNested
import Derived.RangeFuncBound
import Derived.RangeFuncCalls
import Derived.Shelf.Abstract
import Derived.IntWalk
import Derived.Shelf.RegionOpen
import Derived.WalkKit
import Derived.TacticsInMore
import Derived.LoopNIn
import Derived.LoopIn
import Derived.Sort.LoopGhostIn
set_option linter.unusedVariables false
set_option linter.unusedSimpArgs false
namespace Go.Proofs.YtfeijijeohfpgaaDoor
open Go Go.RowKit
def wo (s : ByteArray) (xs : List ByteArray) : List ByteArray := xs.filter fun x => decide (x ≠ s)
theorem wo_zero (s : ByteArray) (xs : List ByteArray) : wo s (xs.take 0) = [] := by simp [wo]
theorem wo_same {s : ByteArray} {xs : List ByteArray} {k : Nat} (hk : k < xs.length) (h : xs[k] = s) : wo s (xs.take (k + 1)) = wo s (xs.take k) := by
  rw [List.take_add_one, List.getElem?_eq_getElem hk]
  simp [wo, h]
theorem wo_other {s : ByteArray} {xs : List ByteArray} {k : Nat} (hk : k < xs.length) (h : ¬ xs[k] = s) : wo s (xs.take (k + 1)) = wo s (xs.take k) ++ [xs[k]] := by
  rw [List.take_add_one, List.getElem?_eq_getElem hk]
  show wo s (xs.take k ++ [xs[k]]) = _
  unfold wo
  rw [List.filter_append, List.filter_cons_of_pos (by simpa using h), List.filter_nil]
theorem wo_length (s : ByteArray) (xs : List ByteArray) : (wo s xs).length ≤ xs.length := List.length_filter_le _ _
theorem wo_take_length (s : ByteArray) (xs : List ByteArray) (k : Nat) : (wo s (xs.take k)).length ≤ xs.length := by
  have h1 := wo_length s (xs.take k)
  have h2 := List.length_take_le k xs
  have h3 := List.length_take_le' k xs
  omega
def NewS (ys : List ByteArray) (w : World) (e : Ending) (w' : World) : Prop := ∃ v, e = .returned v ∧ Own w' w.heap.size v ys ∧ Below w.heap.size w w'

set_option maxRecDepth 100000 in
set_option maxHeartbeats 1000000 in
theorem woS_some (xs : List ByteArray) (s : ByteArray) (b o c : Nat) (w : World) (h1 : 1 ≤ xs.length) (hn : xs.length ≤ 4194304) (hb : b < w.heap.size)
    (hcell : ∀ j x, xs[j]? = some x → w.cell? ⟨b, o + j, none⟩ = some (.string x)) :
    Calls Tryd.prog 93 #[.slice (some ⟨b, o, none⟩) xs.length c, .string s] w (NewS (wo s xs) w) := by
  have HC := Lib.hid hcell
  clear hcell
  go_enter Tryd.func93, Tryd.ntmps93
  go_wp2_with fail
  go_loopw [5, 6] (fun v i wr => ∃ k : Nat, k ≤ xs.length ∧ i = .int .i64 k ∧ Own wr w.heap.size v (wo s (xs.take k)) ∧ Below w.heap.size w wr) (fun _ i _ => xs.length - (intOf i).toNat)
  case atStart => exact ⟨0, Nat.zero_le _, rfl, by rw [wo_zero]; exact own_empty w, (Below.refl _ _).alloc (Nat.le_refl _) _⟩
  case round =>
    obtain ⟨k, hk, rfl, hown, hbr⟩ := hrel
    have hsz := hbr.size
    by_cases hlk : k < xs.length
    · have c1 : wr.cell? ⟨b, o + k, none⟩ = some (.string xs[k]) := (hbr.cell (p := ⟨b, o + k, none⟩) hb).trans (HC.out k _ (List.getElem?_eq_getElem hlk))
      have HO := Lib.hid hown
      have HB := Lib.hid hbr
      clear hown hbr
      by_cases hx : xs[k] = s
      · have t := str_yes hx
        have HX := Lib.hid (wo_same hlk hx)
        clear hx
        go_wp2_with fail
        go_roundw
        case rel => exact ⟨k + 1, by omega, by go_num, by rw [HX.out]; exact HO.out, HB.out⟩
        case measure => simp [intOf]; omega
      · have t := str_no hx
        have HX := Lib.hid (wo_other hlk hx)
        clear hx
        have hL := wo_take_length s xs k
        go_wp2_with (at_builtin; refine wpList_app_str rfl _ _ rfl w.heap.size _ _ rfl HO.out xs[k] rfl (by omega) hsz ?_; intro v' w2 hown2 hb2)
        have HR : Hid (Own w2 w.heap.size v' (wo s (xs.take (k + 1)))) := Lib.hid (by rw [HX.out]; exact hown2)
        have HB2 := Lib.hid (HB.out.trans hb2)
        clear hown2 hb2
        go_roundw
        case rel => exact ⟨k + 1, by omega, by go_num, HR.out, HB2.out⟩
        case measure => simp [intOf]; omega
    · obtain rfl : k = xs.length := by omega
      rw [List.take_length] at hown
      have HO := Lib.hid hown
      have HB := Lib.hid hbr
      clear hown hbr
      go_wp2_with fail
      go_ret
      exact ⟨_, rfl, HO.out, HB.out⟩

set_option maxRecDepth 100000 in
theorem woS_none (a : Option Addr) (s : ByteArray) (c : Nat) (w : World) :
    Calls Tryd.prog 93 #[.slice a 0 c, .string s] w (NewS [] w) := by
  go_enter Tryd.func93, Tryd.ntmps93
  go_wp2_with fail
  go_loopw [5, 6] (fun v i wr => v = .slice (some ⟨w.heap.size, 0, none⟩) 0 0 ∧ i = .int .i64 0 ∧ wr = w.alloc (.cells #[] 9)) (fun _ _ _ => 0)
  case atStart => exact ⟨rfl, rfl, rfl⟩
  case round =>
    obtain ⟨rfl, rfl, rfl⟩ := hrel
    go_wp2_with fail
    go_ret
    exact ⟨_, rfl, own_empty w, (Below.refl _ _).alloc (Nat.le_refl _) _⟩

theorem woS_any (xs : List ByteArray) (v : Value) (s : ByteArray) (w : World) (hn : xs.length ≤ 4194304) (h : SS w v xs) :
    Calls Tryd.prog 93 #[v, .string s] w (NewS (wo s xs) w) := by
  rcases h with ⟨rfl, a, c, rfl⟩ | ⟨h1, b, o, c, rfl, _, hb, hcell⟩
  · exact woS_none a s c w
  · exact woS_some xs s b o c w h1 hn hb hcell
end Go.Proofs.YtfeijijeohfpgaaDoor
namespace Go.Proofs.YtfeijijeohfpgaaDoor
open Go Go.RowKit
def Tm.bnd (t : Tm) : List ByteArray :=
  if t.kind = 6 ∧ t.args.length = 1 then [t.name] else if t.kind = 8 ∧ t.args.length = 2 then [t.name] else if t.kind = 9 ∧ t.args.length = 1 then [t.name, t.other] else []
def Tm.bndAt (t : Tm) (k : Nat) : List ByteArray := if k + 1 = t.args.length then t.bnd else []
def minus (nb p : List ByteArray) : List ByteArray := nb.foldl (fun p x => wo x p) p
def gatherU (b : Nat → List ByteArray) : Nat → List ByteArray → List (List ByteArray) → List ByteArray
  | _, acc, [] => acc
  | k, acc, p :: ps => gatherU b (k + 1) (un acc (minus (b k) p)) ps
mutual
def Tm.fv : Tm → List ByteArray
  | .mk k a o n t r ts => if k = 1 then [a] else gatherU (Tm.bndAt (.mk k a o n t r ts)) 0 [] (fvL ts)
def fvL : List Tm → List (List ByteArray)
  | [] => []
  | t :: ts => t.fv :: fvL ts
end
mutual
def Tm.occ : Tm → List ByteArray → List ByteArray
  | .mk k a o n t r ts, env => if k = 1 then (if hasN a env then [] else [a]) else occL (Tm.bndAt (.mk k a o n t r ts)) 0 ts env
def occL : (Nat → List ByteArray) → Nat → List Tm → List ByteArray → List ByteArray
  | _, _, [], _ => []
  | b, k, t :: ts, env => t.occ (env ++ b k) ++ occL b (k + 1) ts env
end

theorem add_app (acc a b : List ByteArray) : add acc (a ++ b) = add (add acc a) b := by unfold add; rw [List.foldl_append]
theorem add_mem {x : ByteArray} : ∀ (ys acc : List ByteArray), x ∈ add acc ys ↔ x ∈ acc ∨ x ∈ ys
  | [], acc => by simp [add]
  | y :: ys, acc => by
    have h : add acc (y :: ys) = add (addS acc y) ys := rfl
    rw [h, add_mem ys]
    by_cases hy : y ∈ acc
    · rw [addS_in hy]
      constructor
      · rintro (h | h)
        · exact Or.inl h
        · exact Or.inr (List.mem_cons_of_mem _ h)
      · rintro (h | h)
        · exact Or.inl h
        · rcases List.mem_cons.1 h with rfl | h
          · exact Or.inl hy
          · exact Or.inr h
    · rw [addS_out hy]
      rw [List.mem_append, List.mem_singleton, List.mem_cons, or_assoc]
theorem add_add : ∀ (ys acc pre : List ByteArray), add acc (add pre ys) = add (add acc pre) ys
  | [], acc, pre => rfl
  | y :: ys, acc, pre => by
    have h1 : add pre (y :: ys) = add (addS pre y) ys := rfl
    have h2 : add (add acc pre) (y :: ys) = add (addS (add acc pre) y) ys := rfl
    rw [h1, h2, add_add ys]
    by_cases hy : y ∈ pre
    · rw [addS_in hy, addS_in ((add_mem pre acc).2 (Or.inr hy))]
    · rw [addS_out hy, add_app]
      rfl
theorem un_eq (a b : List ByteArray) : un a b = add [] (a ++ b) := by unfold un; rw [add_app]
theorem add_nil_add (a b : List ByteArray) : add [] (add [] a ++ add [] b) = add [] (a ++ b) := by
  rw [add_app, add_add, add_add, add_app]
  rfl
theorem wo_add (s : ByteArray) : ∀ (ys acc : List ByteArray), wo s (add acc ys) = add (wo s acc) (wo s ys)
  | [], acc => by simp [add, wo]
  | y :: ys, acc => by
    have h1 : add acc (y :: ys) = add (addS acc y) ys := rfl
    rw [h1, wo_add s ys]
    by_cases hys : y = s
    · subst hys
      have h2 : wo y (y :: ys) = wo y ys := by simp [wo]
      rw [h2]
      by_cases hy : y ∈ acc
      · rw [addS_in hy]
      · rw [addS_out hy]
        congr 1
        simp [wo]
    · have h2 : wo s (y :: ys) = y :: wo s ys := by simp [wo, hys]
      have h3 : add (wo s acc) (y :: wo s ys) = add (addS (wo s acc) y) (wo s ys) := rfl
      rw [h2, h3]
      congr 1
      by_cases hy : y ∈ acc
      · rw [addS_in hy, addS_in (by unfold wo; rw [List.mem_filter]; exact ⟨hy, by simpa using hys⟩)]
      · rw [addS_out hy, addS_out (by unfold wo; rw [List.mem_filter]; exact fun h => hy h.1)]
        simp [wo, hys]
theorem minus_add : ∀ (nb ys : List ByteArray), minus nb (add [] ys) = add [] (minus nb ys)
  | [], ys => rfl
  | x :: nb, ys => by
    have h1 : ∀ p, minus (x :: nb) p = minus nb (wo x p) := fun _ => rfl
    rw [h1, h1, wo_add]
    exact minus_add nb _
theorem minus_app : ∀ (nb a b : List ByteArray), minus nb (a ++ b) = minus nb a ++ minus nb b
  | [], a, b => rfl
  | x :: nb, a, b => by
    have h1 : ∀ p, minus (x :: nb) p = minus nb (wo x p) := fun _ => rfl
    rw [h1, h1, h1, ← minus_app nb]
    congr 1
    simp [wo]
theorem minus_minus (a b p : List ByteArray) : minus (a ++ b) p = minus b (minus a p) := by unfold minus; rw [List.foldl_append]
theorem minus_filter : ∀ (nb p : List ByteArray), minus nb p = p.filter fun x => !hasN x nb
  | [], p => by
    have h : p.filter (fun x => !hasN x []) = p := List.filter_eq_self.2 (fun _ _ => rfl)
    rw [h]; rfl
  | x :: nb, p => by
    have h1 : minus (x :: nb) p = minus nb (wo x p) := rfl
    rw [h1, minus_filter nb, wo, List.filter_filter]
    congr 1
    funext y
    have h2 : hasN y (x :: nb) = (decide (x = y) || hasN y nb) := by simp [hasN]
    rw [h2]
    by_cases h : y = x
    · subst h; simp
    · have h3 : ¬ x = y := fun e => h e.symm
      simp [h, h3]
theorem minus_comm (a b p : List ByteArray) : minus a (minus b p) = minus b (minus a p) := by
  simp only [minus_filter, List.filter_filter]
  congr 1
  funext x
  rw [Bool.and_comm]
theorem minus_nil : ∀ (nb : List ByteArray), minus nb [] = []
  | [] => rfl
  | x :: nb => minus_nil nb
theorem minus_one (nb : List ByteArray) (a : ByteArray) : minus nb [a] = if hasN a nb then [] else [a] := by
  rw [minus_filter]
  cases h : hasN a nb <;> simp [h]
theorem hasN_app (a : ByteArray) (x y : List ByteArray) : hasN a (x ++ y) = (hasN a x || hasN a y) := by simp [hasN]
mutual
theorem Tm.occ_env : ∀ (t : Tm) (env env' : List ByteArray), t.occ (env' ++ env) = minus env (t.occ env')
  | .mk k a o n t r ts, env, env' => by
    simp only [Tm.occ]
    by_cases hk : k = 1
    · rw [if_pos hk, if_pos hk]
      rw [hasN_app]
      cases h1 : hasN a env'
      · simp only [Bool.false_or, Bool.false_eq_true, if_false, minus_one]
      · simp only [Bool.true_or, if_true, minus_nil]
    · rw [if_neg hk, if_neg hk]
      exact occL_env _ 0 ts env env'
theorem occL_env : ∀ (b : Nat → List ByteArray) (k : Nat) (ts : List Tm) (env env' : List ByteArray), occL b k ts (env' ++ env) = minus env (occL b k ts env')
  | b, k, [], env, env' => by simp only [occL]; rw [minus_nil]
  | b, k, t :: ts, env, env' => by
    simp only [occL]
    rw [minus_app, occL_env b (k + 1) ts env env']
    congr 1
    rw [Tm.occ_env t (b k) (env' ++ env), Tm.occ_env t env env', Tm.occ_env t (b k) env']
    exact minus_comm _ _ _
end
mutual
theorem Tm.fv_occ : ∀ t : Tm, t.fv = add [] (t.occ [])
  | .mk k a o n t r ts => by
    simp only [Tm.fv, Tm.occ]
    by_cases hk : k = 1
    · rw [if_pos hk, if_pos hk]
      rfl
    · rw [if_neg hk, if_neg hk]
      exact gatherU_occ _ 0 ts []
theorem gatherU_occ : ∀ (b : Nat → List ByteArray) (k : Nat) (ts : List Tm) (A : List ByteArray), gatherU b k (add [] A) (fvL ts) = add [] (A ++ occL b k ts [])
  | b, k, [], A => by simp only [fvL, gatherU, occL, List.append_nil]
  | b, k, t :: ts, A => by
    simp only [fvL, gatherU, occL]
    rw [un_eq, Tm.fv_occ t, minus_add, add_nil_add, gatherU_occ b (k + 1) ts, Tm.occ_env t (b k) [], List.append_assoc]
end
mutual
def walkQ : Tm → List ByteArray → Nat → List (Tm × List ByteArray × Nat)
  | .mk k a o n t r ts, nm, d => (.mk k a o n t r ts, nm, d) :: (if k = 1 then [] else walkQS (Tm.bndAt (.mk k a o n t r ts)) 0 ts (d + 1))
def walkQS : (Nat → List ByteArray) → Nat → List Tm → Nat → List (Tm × List ByteArray × Nat)
  | _, _, [], _ => []
  | b, k, t :: ts, d => walkQ t (b k) d ++ walkQS b (k + 1) ts d
end
def hitQ (t : Tm) (st : List (List ByteArray)) : List ByteArray := if t.kind = 1 ∧ hasN t.name st.flatten = false then [t.name] else []
def pushQ (st : List (List ByteArray)) (nm : List ByteArray) (d : Nat) : List (List ByteArray) := st.take (d - 1) ++ [nm]
def foundQ : List (Tm × List ByteArray × Nat) → List (List ByteArray) → List ByteArray
  | [], _ => []
  | (t, nm, d) :: r, st => hitQ t (pushQ st nm d) ++ foundQ r (pushQ st nm d)
theorem pushQ_flat {st : List (List ByteArray)} {nm : List ByteArray} {d : Nat} : (pushQ st nm d).flatten = (st.take (d - 1)).flatten ++ nm := by simp [pushQ]
theorem pushQ_len {st : List (List ByteArray)} {nm : List ByteArray} {d : Nat} (h1 : 1 ≤ d) (h : d - 1 ≤ st.length) : (pushQ st nm d).length = d := by
  simp only [pushQ, List.length_append, List.length_take, List.length_singleton]
  omega
mutual
theorem found_walk : ∀ (t : Tm) (nm : List ByteArray) (d : Nat) (st : List (List ByteArray)) (r : List (Tm × List ByteArray × Nat)), 1 ≤ d → d - 1 ≤ st.length →
    ∃ st', st'.take (d - 1) = st.take (d - 1) ∧ d - 1 ≤ st'.length ∧ foundQ (walkQ t nm d ++ r) st = t.occ ((st.take (d - 1)).flatten ++ nm) ++ foundQ r st'
  | .mk k a o n t x ts, nm, d, st, r, h1, hd => by
    have hl := pushQ_len (nm := nm) h1 hd
    have hp : (pushQ st nm d).take (d - 1) = st.take (d - 1) := by
      unfold pushQ
      rw [List.take_append_of_le_length (by rw [List.length_take]; omega), List.take_take, Nat.min_self]
    simp only [walkQ, Tm.occ, List.cons_append, foundQ, ← pushQ_flat (nm := nm)]
    by_cases hk : k = 1
    · rw [if_pos hk, if_pos hk]
      refine ⟨pushQ st nm d, hp, by omega, ?_⟩
      rw [List.nil_append]
      congr 1
      unfold hitQ
      simp only [Tm.kind, Tm.name, hk, true_and]
      cases hasN a (pushQ st nm d).flatten <;> rfl
    · rw [if_neg hk, if_neg hk]
      obtain ⟨st', e1, e2, e3⟩ := found_walkS (Tm.bndAt (.mk k a o n t x ts)) 0 ts (d + 1) (pushQ st nm d) r (by omega) (by omega)
      have hd1 : d + 1 - 1 = d := by omega
      rw [hd1] at e1 e2 e3
      rw [List.take_of_length_le (by omega : (pushQ st nm d).length ≤ d)] at e1 e3
      refine ⟨st', ?_, by omega, ?_⟩
      · rw [← hp, ← e1, List.take_take, Nat.min_eq_left (by omega)]
      · rw [e3]
        have hh : hitQ (.mk k a o n t x ts) (pushQ st nm d) = [] := by
          unfold hitQ
          rw [if_neg (fun h => hk h.1)]
        rw [hh, List.nil_append]
theorem found_walkS : ∀ (b : Nat → List ByteArray) (k : Nat) (ts : List Tm) (d : Nat) (st : List (List ByteArray)) (r : List (Tm × List ByteArray × Nat)), 1 ≤ d → d - 1 ≤ st.length →
    ∃ st', st'.take (d - 1) = st.take (d - 1) ∧ d - 1 ≤ st'.length ∧ foundQ (walkQS b k ts d ++ r) st = occL b k ts (st.take (d - 1)).flatten ++ foundQ r st'
  | b, k, [], d, st, r, h1, hd => ⟨st, rfl, hd, by simp only [walkQS, occL, List.nil_append]⟩
  | b, k, t :: ts, d, st, r, h1, hd => by
    obtain ⟨st1, e1, e2, e3⟩ := found_walk t (b k) d st (walkQS b (k + 1) ts d ++ r) h1 hd
    obtain ⟨st2, f1, f2, f3⟩ := found_walkS b (k + 1) ts d st1 r h1 e2
    refine ⟨st2, f1.trans e1, f2, ?_⟩
    simp only [walkQS, occL]
    rw [List.append_assoc, e3, f3, e1, List.append_assoc]
end
theorem found_occ (t : Tm) : foundQ (walkQ t [] 1) [] = t.occ [] := by
  obtain ⟨st', _, _, h⟩ := found_walk t [] 1 [] [] (Nat.le_refl _) (Nat.zero_le _)
  rw [List.append_nil] at h
  rw [h]
  simp [foundQ]
mutual
theorem walkQ_nodes : ∀ (t : Tm) (nm : List ByteArray) (d : Nat), (walkQ t nm d).length ≤ t.nodes
  | .mk k a o n t x ts, nm, d => by
    simp only [walkQ, List.length_cons, Tm.nodes]
    by_cases hk : k = 1
    · rw [if_pos hk]; simp only [List.length_nil]; omega
    · rw [if_neg hk]
      have := walkQS_nodes (Tm.bndAt (.mk k a o n t x ts)) 0 ts (d + 1)
      omega
theorem walkQS_nodes : ∀ (b : Nat → List ByteArray) (k : Nat) (ts : List Tm) (d : Nat), (walkQS b k ts d).length ≤ nodesM ts
  | b, k, [], d => by simp [walkQS]
  | b, k, t :: ts, d => by
    have h1 := walkQ_nodes t (b k) d
    have h2 := walkQS_nodes b (k + 1) ts d
    simp only [walkQS, List.length_append, nodesM]
    omega
end
end Go.Proofs.YtfeijijeohfpgaaDoor
namespace Go.Proofs.YtfeijijeohfpgaaDoor
open Go Go.RowKit
def stuckK (k : Int) : Prop := k = 2 ∨ k = 3 ∨ k = 6 ∨ k = 9
def Tm.Rsl (t : Tm) : Prop := t.IsT ∧ (stuckK t.kind ∨ (t.kind = 10 ∧ t.lvOk 0 ∧ madeS t.args 1))
theorem isT_one {t : Tm} (h : t.NodeOk) (hk : t.kind = 10 ∨ t.kind = 11 ∨ t.kind = 12 ∨ t.kind = 13) : t.args.length = 1 := by
  have h2 := h.2
  rw [Tm.arity] at h2
  have : arK t.kind (opAr t.name.toList) = 1 := by
    rcases hk with hk | hk | hk | hk <;> rw [hk] <;> rfl
  omega
theorem isT_node (t : Tm) : t.IsT ↔ t.NodeOk ∧ IsTS t.args := by
  rw [t.IsT_eq]
  exact ⟨fun h => ⟨⟨h.2.1, h.2.2⟩, h.1⟩, fun h => ⟨h.2, h.1.1, h.1.2⟩⟩
theorem rsl_quote {t x : Tm} (hk : t.kind = 10) (hx : t.args = [x]) : t.Rsl ↔ t.NodeOk ∧ ((x.IsT ∧ x.lvOk 1) ∧ x.made 1) := by
  have hnl : nextL t.kind 0 = 1 := by
    unfold nextL
    rw [if_pos hk]
    unfold wrap64
    omega
  unfold Tm.Rsl
  rw [isT_node, t.lvOk_eq, hnl, hx]
  simp only [IsTS, lvOkS, madeS, and_true, stuckK, hk]
  constructor
  · rintro ⟨⟨h1, h2⟩, h3 | h3⟩
    · exact absurd h3 (by decide)
    · exact ⟨h1, ⟨h2, h3.2.1.2⟩, h3.2.2⟩
  · rintro ⟨h1, ⟨h2, h3⟩, h4⟩
    exact ⟨⟨h1, h2⟩, Or.inr ⟨trivial, ⟨by decide, h3⟩, h4⟩⟩
theorem rsl_not {t : Tm} (hk : ¬ stuckK t.kind) (h10 : ¬ t.kind = 10) : ¬ t.Rsl := fun h => by
  rcases h.2 with h | h
  · exact hk h
  · exact h10 h.1
def Tm.Opn (t : Tm) : Prop := (t.IsT ∧ t.lvOk 0) ∧ ¬ t.fv = []
abbrev noM : Tm := .mk 0 ⟨#[]⟩ ⟨#[]⟩ 0 (.mk 0 []) (.mk 0 []) []
def CpIs (t T : Tm) (b : Bool) : Prop := (t.Rsl ∧ t.kind = 10 ∧ t.args = [T] ∧ b = true) ∨ (¬ (t.Rsl ∧ t.kind = 10) ∧ T = noM ∧ b = false)
theorem cp_one {t T T' : Tm} {b b' : Bool} (h : CpIs t T b) (h' : CpIs t T' b') : T = T' ∧ b = b' := by
  rcases h with ⟨h1, h2, h3, rfl⟩ | ⟨h1, rfl, rfl⟩ <;> rcases h' with ⟨k1, k2, k3, rfl⟩ | ⟨k1, rfl, rfl⟩
  · rw [h3] at k3
    simp only [List.cons.injEq, and_true] at k3
    exact ⟨k3, rfl⟩
  · exact absurd ⟨h1, h2⟩ k1
  · exact absurd ⟨k1, k2⟩ h1
  · exact ⟨rfl, rfl⟩
theorem noM_wt : noM.wt = 0 := by rfl
theorem cp_wt {t T : Tm} {b : Bool} (h : CpIs t T b) : T.wt ≤ t.wt + 1 := by
  rcases h with ⟨_, _, h3, _⟩ | ⟨_, rfl, _⟩
  · have := t.wt_eq
    rw [h3] at this
    simp only [wtS] at this
    omega
  · rw [noM_wt]; omega
def PairS (R : Tm → Bool → Prop) (w : World) (e : Ending) (w' : World) : Prop := ∃ (T : Tm) (b : Bool) (v : Value), e = .returned (.tuple #[v, .bool b]) ∧ R T b ∧ TM w' (fun _ => True) T v ∧ Below w.heap.size w w'
def PairI (R : Tm → Bool → Prop) (w : World) (e : Ending) (w' : World) : Prop := ∃ (T : Tm) (b : Bool) (v : Value), e = .returned (.tuple #[v, .bool b]) ∧ R T b ∧ OMv w' T v (fun g => w.heap.size ≤ g ∧ g < w'.heap.size) ∧ Below w.heap.size w w'
end Go.Proofs.YtfeijijeohfpgaaDoor
namespace Go.Proofs.YtfeijijeohfpgaaDoor
open Go Go.RowKit

theorem fvL_map (ts : List Tm) : fvL ts = ts.map Tm.fv := by
  induction ts with
  | nil => rfl
  | cons t ts ih => simp [fvL, ih]
theorem gatherU_snoc (b : Nat → List ByteArray) (p : List ByteArray) : ∀ (ps : List (List ByteArray)) (k : Nat) (acc : List ByteArray), gatherU b k acc (ps ++ [p]) = un (gatherU b k acc ps) (minus (b (k + ps.length)) p)
  | [], k, acc => by simp [gatherU]
  | q :: ps, k, acc => by
    simp only [List.cons_append, gatherU, List.length_cons]
    rw [gatherU_snoc b p ps (k + 1)]
    congr 3
    omega
def outK (t : Tm) (k : Nat) : List ByteArray := gatherU t.bndAt 0 [] (fvL (t.args.take k))
theorem outK_next (t : Tm) {k : Nat} (hk : k < t.args.length) : outK t (k + 1) = un (outK t k) (minus (t.bndAt k) t.args[k].fv) := by
  unfold outK
  rw [tm_take_next hk, fvL_map, List.map_append, List.map_singleton, gatherU_snoc, ← fvL_map]
  congr 3
  simp [fvL_map, List.length_take]
  omega
theorem fv_not (t : Tm) (h : ¬ t.kind = 1) : t.fv = outK t t.args.length := by
  cases t with
  | mk k a o n x r ts =>
    unfold outK
    rw [List.take_length]
    simp only [Tm.fv]
    rw [if_neg (show ¬ k = 1 from h)]
    rfl
theorem fv_var (t : Tm) (h : t.kind = 1) : t.fv = [t.name] := by
  cases t with
  | mk k a o n x r ts =>
    simp only [Tm.fv]
    rw [if_pos (show k = 1 from h)]
    rfl
theorem minus_length (nb p : List ByteArray) : (minus nb p).length ≤ p.length := by
  rw [minus_filter]
  exact List.length_filter_le _ _
theorem un_length (a b : List ByteArray) : (un a b).length ≤ a.length + b.length := by
  have h1 := add_length a []
  have h2 := add_length b (add [] a)
  unfold un
  simp only [List.length_nil] at h1
  omega
mutual
theorem Tm.fv_len : ∀ t : Tm, t.fv.length ≤ t.nodes
  | .mk k a o n t r ts => by
    simp only [Tm.fv, Tm.nodes]
    by_cases hk : k = 1
    · rw [if_pos hk]; simp only [List.length_singleton]; omega
    · rw [if_neg hk]
      have := gatherU_len (Tm.bndAt (.mk k a o n t r ts)) 0 [] ts
      simp only [List.length_nil] at this
      omega
theorem gatherU_len : ∀ (b : Nat → List ByteArray) (k : Nat) (acc : List ByteArray) (ts : List Tm), (gatherU b k acc (fvL ts)).length ≤ acc.length + nodesM ts
  | b, k, acc, [] => by simp [fvL, gatherU]
  | b, k, acc, t :: ts => by
    simp only [fvL, gatherU, nodesM]
    have h1 := gatherU_len b (k + 1) (un acc (minus (b k) t.fv)) ts
    have h2 := un_length acc (minus (b k) t.fv)
    have h3 := minus_length (b k) t.fv
    have h4 := Tm.fv_len t
    omega
end
theorem outK_len (t : Tm) (k : Nat) : (outK t k).length ≤ nodesM t.args := by
  have h1 := gatherU_len t.bndAt 0 [] (t.args.take k)
  have h2 := nodesM_take_le t.args k
  simp only [List.length_nil] at h1
  unfold outK
  omega
theorem own_one (w : World) (a : ByteArray) : Own (w.alloc (.cells #[.string a] 9)) w.heap.size (.slice (some ⟨w.heap.size, 0, none⟩) 1 1) [a] :=
  World.ownsRow_lit w #[.string a] 1 (Nat.le_refl _) (by unfold maxLen; omega) rfl
theorem own_two (w : World) (a b : ByteArray) : Own (w.alloc (.cells #[.string a, .string b] 9)) w.heap.size (.slice (some ⟨w.heap.size, 0, none⟩) 2 2) [a, b] :=
  World.ownsRow_lit w #[.string a, .string b] 2 (Nat.le_refl _) (by unfold maxLen; omega) rfl
theorem Own.base {w : World} {B B' : Nat} {v : Value} {xs : List ByteArray} (h : Own w B v xs) (hb : B' ≤ B) : Own w B' v xs := ownsRow_mono h hb

theorem nodesM_len : ∀ ts : List Tm, ts.length ≤ nodesM ts
  | [] => by simp
  | t :: ts => by
    have h1 := nodesM_len ts
    have h2 := t.nodes_eq
    simp only [List.length_cons, nodesM]
    omega
def BoundRet (t : Tm) (w : World) (e : Ending) (w' : World) : Prop :=
  ∃ v q, e = .returned (.tuple #[v, .int .i64 q]) ∧ Own w' w.heap.size v t.bnd ∧ q = (if t.bnd = [] then -1 else (t.args.length : Int) - 1) ∧ Below w.heap.size w w'
set_option maxRecDepth 100000 in
set_option maxHeartbeats 4000000 in
theorem boundS_any (t : Tm) (tp : Option Addr) (tc : Nat) (rp : Option Addr) (rc : Nat) (p : Option Addr) (c : Nat) (w : World) : Calls Tryd.prog 92 #[tmV t tp tc rp rc p c] w (BoundRet t w) := by
  have HX := Lib.hid (Bx9.new w t tp tc rp rc p c 35)
  have hb := al_below w (.cells (tmC t tp tc rp rc p c) 35)
  have hsz : (w.alloc (.cells (tmC t tp tc rp rc p c) 35)).heap.size = w.heap.size + 1 := by simp
  have HB := Lib.hid (And.intro hb hsz)
  have no : t.bnd = [] → ∀ W : World, Below w.heap.size w W → BoundRet t w (.returned (.tuple #[.slice (some ⟨W.heap.size, 0, none⟩) 0 0, .int .i64 (-1)])) (W.alloc (.cells #[] 9)) := fun h W hW =>
    ⟨_, _, rfl, by rw [h]; exact (own_empty W).base hW.size, by rw [if_pos h], hW.trans ((al_below W _).mono hW.size)⟩
  have one : t.bnd = [t.name] → ∀ W : World, ∀ q : Int, q = (t.args.length : Int) - 1 → Below w.heap.size w W → BoundRet t w (.returned (.tuple #[.slice (some ⟨W.heap.size, 0, none⟩) 1 1, .int .i64 q])) (W.alloc (.cells #[.string t.name] 9)) := fun h W q hq hW =>
    ⟨_, _, rfl, by rw [h]; exact (own_one W _).base hW.size, by rw [if_neg (by rw [h]; simp)]; exact hq, hW.trans ((al_below W _).mono hW.size)⟩
  have two : t.bnd = [t.name, t.other] → ∀ W : World, ∀ q : Int, q = (t.args.length : Int) - 1 → Below w.heap.size w W → BoundRet t w (.returned (.tuple #[.slice (some ⟨W.heap.size, 0, none⟩) 2 2, .int .i64 q])) (W.alloc (.cells #[.string t.name, .string t.other] 9)) := fun h W q hq hW =>
    ⟨_, _, rfl, by rw [h]; exact (own_two W _ _).base hW.size, by rw [if_neg (by rw [h]; simp)]; exact hq, hW.trans ((al_below W _).mono hW.size)⟩
  have HNO := Lib.hid no
  have HONE := Lib.hid one
  have HTWO := Lib.hid two
  clear no one two hb hsz
  obtain ⟨g0, g1, g2, g3, g4, g5, g6, g7, g8⟩ := HX.out
  go_enter Tryd.func92, Tryd.ntmps92
  by_cases h6 : t.kind = 6
  · have d6 : decide (t.kind = 6) = true := decide_eq_true h6
    have e6 : (t.kind == 6) = true := by simp; omega
    have HK := Lib.hid h6
    have d8 : decide (t.kind = 8) = false := decide_eq_false (by omega)
    have e8 : (t.kind == 8) = false := by simp; omega
    have d9 : decide (t.kind = 9) = false := decide_eq_false (by omega)
    have e9 : (t.kind == 9) = false := by simp; omega
    by_cases hl : t.args.length = 1
    · have hbd := Lib.hid (show t.bnd = [t.name] by unfold Tm.bnd; rw [if_pos ⟨h6, hl⟩])
      have HL := Lib.hid hl
      have dl : decide ((t.args.length : Int) = 1) = true := decide_eq_true (by omega)
      have dl' : decide (t.args.length = 1) = true := decide_eq_true hl
      have dl2 : ((t.args.length : Int) == 1) = true := by simp; omega
      clear h6 hl
      go_wp2_with fail
      go_ret2
      have he := HONE.out hbd.out _ 0 (by have := HL.out; omega) HB.out.1
      rw [HB.out.2] at he
      exact he
    · have hbd := Lib.hid (show t.bnd = [] by unfold Tm.bnd; rw [if_neg (fun h => hl h.2), if_neg (fun h => by omega), if_neg (fun h => by omega)])
      have dl : decide ((t.args.length : Int) = 1) = false := decide_eq_false (by omega)
      have dl' : decide (t.args.length = 1) = false := decide_eq_false hl
      have dl2 : ((t.args.length : Int) == 1) = false := by simp; omega
      clear h6 hl
      go_wp2_with fail
      go_ret2
      have he := HNO.out hbd.out _ HB.out.1
      rw [HB.out.2] at he
      exact he
  by_cases h8 : t.kind = 8
  · have d6 : decide (t.kind = 6) = false := decide_eq_false h6
    have e6 : (t.kind == 6) = false := by simp; omega
    have d8 : decide (t.kind = 8) = true := decide_eq_true h8
    have e8 : (t.kind == 8) = true := by simp; omega
    have HK := Lib.hid h8
    have d9 : decide (t.kind = 9) = false := decide_eq_false (by omega)
    have e9 : (t.kind == 9) = false := by simp; omega
    by_cases hl : t.args.length = 2
    · have hbd := Lib.hid (show t.bnd = [t.name] by unfold Tm.bnd; rw [if_neg (fun h => h6 h.1), if_pos ⟨h8, hl⟩])
      have HL := Lib.hid hl
      have dl : decide ((t.args.length : Int) = 2) = true := decide_eq_true (by omega)
      have dl' : decide (t.args.length = 2) = true := decide_eq_true hl
      have dl2 : ((t.args.length : Int) == 2) = true := by simp; omega
      clear h6 h8 hl
      go_wp2_with fail
      go_ret2
      have he := HONE.out hbd.out _ 1 (by have := HL.out; omega) HB.out.1
      rw [HB.out.2] at he
      exact he
    · have hbd := Lib.hid (show t.bnd = [] by unfold Tm.bnd; rw [if_neg (fun h => h6 h.1), if_neg (fun h => hl h.2), if_neg (fun h => by omega)])
      have dl : decide ((t.args.length : Int) = 2) = false := decide_eq_false (by omega)
      have dl' : decide (t.args.length = 2) = false := decide_eq_false hl
      have dl2 : ((t.args.length : Int) == 2) = false := by simp; omega
      clear h6 h8 hl
      go_wp2_with fail
      go_ret2
      have he := HNO.out hbd.out _ HB.out.1
      rw [HB.out.2] at he
      exact he
  by_cases h9 : t.kind = 9
  · have d6 : decide (t.kind = 6) = false := decide_eq_false h6
    have e6 : (t.kind == 6) = false := by simp; omega
    have d8 : decide (t.kind = 8) = false := decide_eq_false h8
    have e8 : (t.kind == 8) = false := by simp; omega
    have d9 : decide (t.kind = 9) = true := decide_eq_true h9
    have e9 : (t.kind == 9) = true := by simp; omega
    have HK := Lib.hid h9
    by_cases hl : t.args.length = 1
    · have hbd := Lib.hid (show t.bnd = [t.name, t.other] by unfold Tm.bnd; rw [if_neg (fun h => h6 h.1), if_neg (fun h => h8 h.1), if_pos ⟨h9, hl⟩])
      have HL := Lib.hid hl
      have dl : decide ((t.args.length : Int) = 1) = true := decide_eq_true (by omega)
      have dl' : decide (t.args.length = 1) = true := decide_eq_true hl
      have dl2 : ((t.args.length : Int) == 1) = true := by simp; omega
      clear h6 h8 h9 hl
      go_wp2_with fail
      go_ret2
      have he := HTWO.out hbd.out _ 0 (by have := HL.out; omega) HB.out.1
      rw [HB.out.2] at he
      exact he
    · have hbd := Lib.hid (show t.bnd = [] by unfold Tm.bnd; rw [if_neg (fun h => h6 h.1), if_neg (fun h => h8 h.1), if_neg (fun h => hl h.2)])
      have dl : decide ((t.args.length : Int) = 1) = false := decide_eq_false (by omega)
      have dl' : decide (t.args.length = 1) = false := decide_eq_false hl
      have dl2 : ((t.args.length : Int) == 1) = false := by simp; omega
      clear h6 h8 h9 hl
      go_wp2_with fail
      go_ret2
      have he := HNO.out hbd.out _ HB.out.1
      rw [HB.out.2] at he
      exact he
  · have d6 : decide (t.kind = 6) = false := decide_eq_false h6
    have e6 : (t.kind == 6) = false := by simp; omega
    have d8 : decide (t.kind = 8) = false := decide_eq_false h8
    have e8 : (t.kind == 8) = false := by simp; omega
    have d9 : decide (t.kind = 9) = false := decide_eq_false h9
    have e9 : (t.kind == 9) = false := by simp; omega
    have hbd := Lib.hid (show t.bnd = [] by unfold Tm.bnd; rw [if_neg (fun h => h6 h.1), if_neg (fun h => h8 h.1), if_neg (fun h => h9 h.1)])
    clear h6 h8 h9
    go_wp2_with fail
    go_ret2
    have he := HNO.out hbd.out _ HB.out.1
    rw [HB.out.2] at he
    exact he

theorem bndAt_not {t : Tm} {k : Nat} (h : ¬ k + 1 = t.args.length) : t.bndAt k = [] := by unfold Tm.bndAt; rw [if_neg h]
theorem bndAt_yes {t : Tm} {k : Nat} (h : k + 1 = t.args.length) : t.bndAt k = t.bnd := by unfold Tm.bndAt; rw [if_pos h]
theorem bnd_len (t : Tm) : t.bnd.length ≤ 2 := by
  unfold Tm.bnd
  split
  · simp
  · split
    · simp
    · split <;> simp
theorem minus_next (nb p : List ByteArray) {i : Nat} (hi : i < nb.length) : minus (nb.take (i + 1)) p = wo nb[i] (minus (nb.take i) p) := by
  rw [List.take_add_one, List.getElem?_eq_getElem hi]
  show minus (nb.take i ++ [nb[i]]) p = _
  rw [minus_minus]
  rfl
set_option maxRecDepth 100000 in
set_option maxHeartbeats 4000000 in
theorem fvS_any : ∀ (m : Nat) {C : Nat → Prop} {t : Tm} {tp : Option Addr} {tc : Nat} {rp : Option Addr} {rc : Nat} {p : Option Addr} {c : Nat} (w : World), t.nodes ≤ m → TM' w C t tp tc rp rc p c → t.nodes ≤ 1048577 →
    Calls Tryd.prog 71 #[tmV t tp tc rp rc p c] w (NewS' t.fv w)
  | m, C, t, tp, tc, rp, rc, p, c, w, hm, hT, hn => by
    have hpart : ∀ (j : Nat) (hj : j < t.args.length) (W : World), Below w.heap.size w W → ∃ (b o : Nat) (tp' : Option Addr) (tc' : Nat) (rp' : Option Addr) (rc' : Nat) (p' : Option Addr) (c' : Nat), p = some ⟨b, o, none⟩ ∧ At9 W b (o + j * 9) t.args[j] tp' tc' rp' rc' p' c' ∧
        Calls Tryd.prog 71 #[tmV t.args[j] tp' tc' rp' rc' p' c'] W (NewS' t.args[j].fv W) := fun j hj W hW => by
      obtain ⟨b, o, tp', tc', rp', rc', p', c', e, hC, hb, h9, hx⟩ := tm_part hT.args j hj
      have hle := nodesM_at t.args j hj
      rw [Tm.nodes_eq] at hm hn
      match m, hm with
      | 0, hm => omega
      | m + 1, hm => exact ⟨b, o, tp', tc', rp', rc', p', c', e, h9 W (.of_below hW), fvS_any m W (by omega) (hx.stays (.of_below hW)) (by omega)⟩
    have HP := Lib.hid hpart
    have HX := Lib.hid (Bx9.new w t tp tc rp rc p c 35)
    have hlen : t.args.length ≤ 1048576 := by
      have h1 := t.nodes_eq
      have h2 := nodesM_len t.args
      omega
    have HNM := Lib.hid (show nodesM t.args ≤ 1048576 by have h1 := t.nodes_eq; omega)
    have HB := Lib.hid (al_below w (.cells (tmC t tp tc rp rc p c) 35))
    clear hpart hT hm hn
    obtain ⟨g0, g1, g2, g3, g4, g5, g6, g7, g8⟩ := HX.out
    go_enter Tryd.func71, Tryd.ntmps71
    by_cases h1 : t.kind = 1
    · have d1 : decide (t.kind = 1) = true := decide_eq_true h1
      have e1 : (t.kind == 1) = true := by simp; omega
      have HV := Lib.hid (fv_var t h1)
      clear h1
      go_wp2_with fail
      go_ret
      have he := (own_one (w.alloc (.cells (tmC t tp tc rp rc p c) 35)) t.name).base HB.out.size
      rw [World.size_alloc] at he
      exact ⟨_, rfl, by rw [HV.out]; exact he, HB.out.trans ((al_below _ _).mono HB.out.size)⟩
    have d1 : decide (t.kind = 1) = false := decide_eq_false h1
    have e1 : (t.kind == 1) = false := by simp; omega
    have HV := Lib.hid (fv_not t h1)
    clear h1
    go_wp2_with fail
    refine (boundS_any t tp tc rp rc p c _).mono ?_
    rintro e w1 ⟨vn, q, rfl, hown, hq, hb1⟩
    obtain ⟨pn, cn, rfl, hat⟩ := hown.ss.at
    have hbb := HB.out.trans (hb1.mono HB.out.size)
    have HX1 := Lib.hid (HX.out.keep hb1)
    have HBB := Lib.hid hbb
    have HAT := Lib.hid hat
    have HQ := Lib.hid hq
    have hbl := bnd_len t
    clear g0 g1 g2 g3 g4 g5 g6 g7 g8 hown hq hb1 hbb hat
    go_wp2_with fail
    go_loopw [5, 6] (fun v i wr => ∃ k : Nat, k ≤ t.args.length ∧ i = .int .i64 k ∧ Own wr w.heap.size v (outK t k) ∧ Below w1.heap.size w1 wr) (fun _ i _ => t.args.length - (intOf i).toNat)
    case atStart => exact ⟨0, Nat.zero_le _, rfl, by show Own _ _ _ (gatherU _ 0 [] (fvL (t.args.take 0))); exact (own_empty w1).base HBB.out.size, al_below w1 _⟩
    case round =>
      obtain ⟨k, hk, rfl, hown, hbr⟩ := hrel
      have HO := Lib.hid hown
      have HBR := Lib.hid hbr
      have HX2 := Lib.hid (HX1.out.keep hbr)
      obtain ⟨g0, g1, g2, g3, g4, g5, g6, g7, g8⟩ := HX2.out
      clear hown hbr
      by_cases hlk : k < t.args.length
      · obtain ⟨b, o, tp', tc', rp', rc', p', c', rfl, h9, hC⟩ := HP.out k hlk wr (HBB.out.trans (HBR.out.mono HBB.out.size))
        obtain ⟨f0, f1, f2, f3, f4, f5, f6, f7, f8⟩ := h9
        have HC := Lib.hid hC
        have HNX := Lib.hid (outK_next t hlk)
        have hfl : t.args[k].fv.length ≤ 1048576 := by
          have h1 := t.args[k].fv_len
          have h2 := nodesM_at t.args k hlk
          have h3 := HNM.out
          omega
        have hol : (outK t k).length ≤ 1048576 := Nat.le_trans (outK_len t k) HNM.out
        have i0 : (0 : Int) ≤ (k : Int) := Int.natCast_nonneg _
        have i1 : (k : Int) < (t.args.length : Int) := by omega
        clear hC
        go_wp2_with fail
        refine HC.out.mono ?_
        rintro e w2 ⟨v2, rfl, hown2, hb2⟩
        have HO2 := Lib.hid (hown2.base (Nat.le_trans HBB.out.size HBR.out.size))
        have HB2 := Lib.hid (HBR.out.trans (hb2.mono HBR.out.size))
        have HOa := Lib.hid (HO.out.below hb2)
        clear hown2 hb2 g0 g1 g2 g3 g4 g5 g6 g7 g8 f0 f1 f2 f3 f4 f5 f6 f7 f8 HC HO HX2
        go_wp2_with fail
        have HNXb := Lib.hid (show outK t (k + 1) = un (outK t k) (minus ((t.bndAt k).take (t.bndAt k).length) t.args[k].fv) by rw [List.take_length]; exact HNX.out)
        have hEl : (t.bndAt k).length ≤ 2 := by
          unfold Tm.bndAt
          split
          · exact bnd_len t
          · simp
        go_loopw [7, 8] (fun v i wx => ∃ j : Nat, j ≤ (t.bndAt k).length ∧ i = .int .i64 j ∧ Own wx w.heap.size v (minus ((t.bndAt k).take j) t.args[k].fv) ∧ Below w2.heap.size w2 wx) (fun _ i _ => (t.bndAt k).length - (intOf i).toNat)
        case atStart => exact ⟨0, Nat.zero_le _, rfl, HO2.out, Below.refl _ _⟩
        case round =>
          obtain ⟨j, hj, rfl, hown, hbx⟩ := hrel
          have HOX := Lib.hid hown
          have HBX := Lib.hid hbx
          have hml : (minus ((t.bndAt k).take j) t.args[k].fv).length ≤ 1048576 := Nat.le_trans (minus_length _ _) hfl
          clear hown hbx
          by_cases hjl : j < (t.bndAt k).length
          · have hkl : k + 1 = t.args.length := Classical.byContradiction fun h => by
              rw [bndAt_not h] at hjl
              simp at hjl
            have hE := bndAt_yes hkl
            have hjb : j < t.bnd.length := by rw [← hE]; exact hjl
            have hqk : q = (k : Int) := by
              have h1 := HQ.out
              rw [if_neg (fun h => by rw [h] at hjb; simp at hjb)] at h1
              omega
            obtain ⟨b4, o4, rfl, hb4, c4⟩ := HAT.out j _ (List.getElem?_eq_getElem hjb)
            have c5 := (HBX.out.cell (p := ⟨b4, o4 + j, none⟩) (by have := HB2.out.size; show b4 < w2.heap.size; omega)).trans ((HB2.out.cell (p := ⟨b4, o4 + j, none⟩) hb4).trans c4)
            have HMN := Lib.hid (show minus ((t.bndAt k).take (j + 1)) t.args[k].fv = wo t.bnd[j] (minus ((t.bndAt k).take j) t.args[k].fv) by
              rw [minus_next _ _ hjl]
              congr 1
              simp only [hE])
            have e1' : ((k : Int) == q) = true := by simp [hqk]
            clear c4 hqk hE
            go_wp2_with fail
            refine (woS_any _ _ t.bnd[j] wr (by omega) HOX.out.ss).mono ?_
            rintro e w4 ⟨v4, rfl, hown4, hb4'⟩
            have HO4 := Lib.hid (hown4.base (Nat.le_trans (Nat.le_trans HBB.out.size HB2.out.size) HBX.out.size))
            have HB4 := Lib.hid (HBX.out.trans (hb4'.mono HBX.out.size))
            clear hown4 hb4' c5
            go_wp2_with fail
            go_roundw
            case rel => exact ⟨j + 1, by omega, by go_num, by rw [HMN.out]; exact HO4.out, HB4.out⟩
            case measure => simp [intOf]; omega
          · obtain rfl : j = (t.bndAt k).length := by omega
            have HR : Hid (Calls Tryd.prog 94 #[_, _] wr (NewS' (outK t (k + 1)) wr)) := Lib.hid (by
              rw [HNXb.out]
              exact unS_any _ _ _ _ wr hol hml (HOa.out.below HBX.out).ss HOX.out.ss)
            rcases (show ¬ (t.bndAt k).length < t.bnd.length ∨ ((t.bndAt k).length < t.bnd.length ∧ ((k : Int) == q) = false) by
              by_cases hkl : k + 1 = t.args.length
              · exact Or.inl (by rw [bndAt_yes hkl]; omega)
              · by_cases h0 : t.bnd = []
                · exact Or.inl (by rw [h0]; simp)
                · right
                  have h1 := HQ.out
                  rw [if_neg h0] at h1
                  refine ⟨by rw [bndAt_not hkl]; exact List.length_pos_iff.2 h0, ?_⟩
                  simp
                  omega) with h1 | ⟨h1, h2⟩
            all_goals
              go_wp2_with fail
              refine HR.out.mono ?_
              rintro e w5 ⟨v5, rfl, hown5, hb5⟩
              have HO5 := Lib.hid (hown5.base (Nat.le_trans (Nat.le_trans HBB.out.size HB2.out.size) HBX.out.size))
              have HB5 := Lib.hid ((HB2.out.trans (HBX.out.mono HB2.out.size)).trans (hb5.mono (Nat.le_trans HB2.out.size HBX.out.size)))
              clear hown5 hb5
              go_wp2_with fail
              go_roundw
              case rel => exact ⟨k + 1, by omega, by go_num, HO5.out, HB5.out⟩
              case measure => simp [intOf]; omega
      · obtain rfl : k = t.args.length := by omega
        go_wp2_with fail
        go_ret
        exact ⟨_, rfl, by rw [HV.out]; exact HO.out, HBB.out.trans (HBR.out.mono HBB.out.size)⟩
set_option maxRecDepth 100000 in
set_option maxHeartbeats 1000000 in
theorem closedS_any {C : Nat → Prop} {t : Tm} {v : Value} {w : World} (h : TM w C t v) (hn : t.nodes ≤ 1048577) : Calls Tryd.prog 45 #[v] w (BoolRet (fun r => r = true ↔ t.fv = []) w) := by
  obtain ⟨tp, tc, rp, rc, p, c, rfl, hT⟩ := h
  have hb := al_below w (.cells (tmC t tp tc rp rc p c) 35)
  have HC := Lib.hid (fvS_any _ _ (Nat.le_refl _) (hT.stays (.of_below hb)) hn)
  have HB := Lib.hid hb
  clear hT hb
  go_enter Tryd.func45, Tryd.ntmps45
  go_wp2_with fail
  refine HC.out.mono ?_
  rintro e w1 ⟨v1, rfl, hown, hb1⟩
  obtain ⟨p1, c1, rfl, -⟩ := hown.ss.at
  have HB1 := Lib.hid (HB.out.trans (hb1.mono HB.out.size))
  clear hown hb1
  by_cases h0 : t.fv.length = 0
  · have e0 : ((t.fv.length : Int) == 0) = true := by simp [List.eq_nil_of_length_eq_zero h0]
    have HF := Lib.hid (List.eq_nil_of_length_eq_zero h0)
    clear h0
    go_wp2_with fail
    go_ret
    exact ⟨true, by simp [HF.out], rfl, HB1.out⟩
  · have e0 : ((t.fv.length : Int) == 0) = false := by simpa using fun h => h0 (by rw [h]; rfl)
    have HF := Lib.hid (show ¬ t.fv = [] from fun h => h0 (by rw [h]; rfl))
    clear h0
    go_wp2_with fail
    go_ret
    exact ⟨false, by simp [HF.out], rfl, HB1.out⟩
end Go.Proofs.YtfeijijeohfpgaaDoor
namespace Go.Proofs.YtfeijijeohfpgaaDoor
open Go Go.RowKit

variable {C : Nat → Prop} {t : Tm} {v : Value} {w : World}
set_option maxRecDepth 100000 in
set_option maxHeartbeats 1000000 in
theorem rsl10_at {tp rp p : Option Addr} {tc rc c : Nat} (hT : TM' w C t tp tc rp rc p c) (hi : t.IsT) (hn : t.wt ≤ 2097152) : Calls Tryd.prog 42 #[tmV t tp tc rp rc p c] w (Tells t.Rsl w) := by
  have HN := Lib.hid hn
  have HT := Lib.hid hT
  have HX0 := Lib.hid (Bx9.new w t tp tc rp rc p c 35)
  have HB0 := Lib.hid (al_below w (.cells (tmC t tp tc rp rc p c) 35))
  have HI := Lib.hid hi
  clear hT hn hi
  by_cases hs : stuckK t.kind
  · have HS := Lib.hid hs
    obtain ⟨g0, g1, g2, g3, g4, g5, g6, g7, g8⟩ := HX0.out
    go_enter Tryd.func42, Tryd.ntmps42
    rcases hs with hk | hk | hk | hk
    · have t1 : (t.kind == 2) = true := by rw [hk]; rfl
      have t2 : (t.kind == 3) = false := by rw [hk]; rfl
      have t3 : (t.kind == 6) = false := by rw [hk]; rfl
      have t4 : (t.kind == 9) = false := by rw [hk]; rfl
      have t5 : (t.kind == 10) = false := by rw [hk]; rfl
      clear hk
      go_wp2_with fail
      go_ret
      exact ⟨true, ⟨fun _ => ⟨HI.out, Or.inl HS.out⟩, fun _ => rfl⟩, rfl, HB0.out⟩
    · have t1 : (t.kind == 2) = false := by rw [hk]; rfl
      have t2 : (t.kind == 3) = true := by rw [hk]; rfl
      have t3 : (t.kind == 6) = false := by rw [hk]; rfl
      have t4 : (t.kind == 9) = false := by rw [hk]; rfl
      have t5 : (t.kind == 10) = false := by rw [hk]; rfl
      clear hk
      go_wp2_with fail
      go_ret
      exact ⟨true, ⟨fun _ => ⟨HI.out, Or.inl HS.out⟩, fun _ => rfl⟩, rfl, HB0.out⟩
    · have t1 : (t.kind == 2) = false := by rw [hk]; rfl
      have t2 : (t.kind == 3) = false := by rw [hk]; rfl
      have t3 : (t.kind == 6) = true := by rw [hk]; rfl
      have t4 : (t.kind == 9) = false := by rw [hk]; rfl
      have t5 : (t.kind == 10) = false := by rw [hk]; rfl
      clear hk
      go_wp2_with fail
      go_ret
      exact ⟨true, ⟨fun _ => ⟨HI.out, Or.inl HS.out⟩, fun _ => rfl⟩, rfl, HB0.out⟩
    · have t1 : (t.kind == 2) = false := by rw [hk]; rfl
      have t2 : (t.kind == 3) = false := by rw [hk]; rfl
      have t3 : (t.kind == 6) = false := by rw [hk]; rfl
      have t4 : (t.kind == 9) = true := by rw [hk]; rfl
      have t5 : (t.kind == 10) = false := by rw [hk]; rfl
      clear hk
      go_wp2_with fail
      go_ret
      exact ⟨true, ⟨fun _ => ⟨HI.out, Or.inl HS.out⟩, fun _ => rfl⟩, rfl, HB0.out⟩
  by_cases hk : t.kind = 10
  · obtain ⟨x, hx⟩ := List.length_eq_one_iff.1 (isT_one ((isT_node t).1 HI.out).1 (Or.inl hk))
    obtain ⟨b, o, tp2, tc2, rp2, rc2, p2, c2, rfl, hC, hb, h9, hP⟩ := tm_part HT.out.args 0 (by rw [hx]; simp)
    have hx0 : t.args[0]'(by rw [hx]; simp) = x := by simp [hx]
    rw [hx0] at h9 hP
    simp only [Nat.zero_mul, Nat.add_zero] at h9
    have hl1 : t.args.length = 1 := by rw [hx]; rfl
    have hwx : x.wt ≤ 2097152 := by have h1 := t.wt_eq; rw [hx] at h1; simp only [wtS] at h1; have := HN.out; omega
    have HR := Lib.hid (show t.Rsl ↔ (t.lvOk 0 ∧ x.made 1) by
      unfold Tm.Rsl
      rw [hx]
      simp only [madeS, and_true, stuckK, hk]
      constructor
      · rintro ⟨_, h | h⟩
        · exact absurd h (by decide)
        · exact h.2
      · exact fun h => ⟨HI.out, Or.inr ⟨trivial, h⟩⟩)
    have H9 := Lib.hid h9
    have HP := Lib.hid hP
    have HK := Lib.hid hk
    obtain ⟨g0, g1, g2, g3, g4, g5, g6, g7, g8⟩ := HX0.out
    have t1 : (t.kind == 2) = false := by rw [hk]; rfl
    have t2 : (t.kind == 3) = false := by rw [hk]; rfl
    have t3 : (t.kind == 6) = false := by rw [hk]; rfl
    have t4 : (t.kind == 9) = false := by rw [hk]; rfl
    have t5 : (t.kind == 10) = true := by rw [hk]; rfl
    have HL1 := Lib.hid hl1
    clear h9 hP hk hs hx hx0 hl1
    have HC := Lib.hid (l8Ok_any _ 0 _ (Nat.le_refl _) (HT.out.stays (.of_below HB0.out)) HN.out)
    go_enter Tryd.func42, Tryd.ntmps42
    go_wp2_with fail
    refine HC.out.mono ?_
    rintro e w1 ⟨r, hr, rfl, hb1⟩
    have HR1 := Lib.hid hr
    have HB1 := Lib.hid (HB0.out.trans (hb1.mono HB0.out.size))
    clear g0 g1 g2 g3 g4 g5 g6 g7 g8 hr HC
    obtain ⟨g0, g1, g2, g3, g4, g5, g6, g7, g8⟩ := HX0.out.keep hb1
    clear hb1
    cases r with
    | false =>
      go_wp2_with fail
      go_ret
      exact ⟨false, by simp only [Bool.false_eq_true, false_iff]; exact fun h => (by have := HR1.out.2 (HR.out.1 h).1; cases this), rfl, HB1.out⟩
    | true =>
      obtain ⟨a0, a1, a2, a3, a4, a5, a6, a7, a8⟩ := H9.out w1 (.of_below HB1.out)
      have HC := Lib.hid (l8Made_any _ 1 w1 (Nat.le_refl _) (HP.out.stays (.of_below HB1.out)) hwx)
      have l8 := g8
      rw [HL1.out] at l8
      clear g8
      go_wp2_with fail
      refine HC.out.mono ?_
      rintro e w2 ⟨r2, hr2, rfl, hb2⟩
      have HR2 := Lib.hid hr2
      have HB2 := Lib.hid (HB1.out.trans (hb2.mono HB1.out.size))
      clear hr2 hb2
      go_wp2_with fail
      go_ret
      exact ⟨r2, by rw [HR.out]; exact ⟨fun h => ⟨HR1.out.1 (by trivial), HR2.out.1 h⟩, fun h => HR2.out.2 h.2⟩, rfl, HB2.out⟩
  · have HQ := Lib.hid (rsl_not hs hk)
    obtain ⟨g0, g1, g2, g3, g4, g5, g6, g7, g8⟩ := HX0.out
    have t1 : (t.kind == 2) = false := by simp; exact fun h => hs (Or.inl h)
    have t2 : (t.kind == 3) = false := by simp; exact fun h => hs (Or.inr (Or.inl h))
    have t3 : (t.kind == 6) = false := by simp; exact fun h => hs (Or.inr (Or.inr (Or.inl h)))
    have t4 : (t.kind == 9) = false := by simp; exact fun h => hs (Or.inr (Or.inr (Or.inr h)))
    have t5 : (t.kind == 10) = false := by simp; exact hk
    clear hs hk
    go_enter Tryd.func42, Tryd.ntmps42
    go_wp2_with fail
    go_ret
    exact ⟨false, by simp only [Bool.false_eq_true, false_iff]; exact HQ.out, rfl, HB0.out⟩
set_option maxRecDepth 100000 in
theorem rslS_at (h : TM w C t v) (hn : t.wt ≤ 2097152) : Calls Tryd.prog 19 #[v] w (Tells t.Rsl w) := by
  have HN := Lib.hid hn
  obtain ⟨tp, tc, rp, rc, p, c, rfl, hT⟩ := h
  have HT := Lib.hid hT
  have HX0 := Lib.hid (Bx9.new w t tp tc rp rc p c 35)
  have HB0 := Lib.hid (al_below w (.cells (tmC t tp tc rp rc p c) 35))
  clear hT hn
  go_enter Tryd.func19, Tryd.ntmps19
  go_wp2_with fail
  refine (isTM_any _ _ (Nat.le_refl _) (HT.out.stays (.of_below HB0.out)) HN.out).mono ?_
  rintro e w1 ⟨r, hr, rfl, hb1⟩
  have HR := Lib.hid hr
  have HB1 := Lib.hid (HB0.out.trans (hb1.mono HB0.out.size))
  obtain ⟨g0, g1, g2, g3, g4, g5, g6, g7, g8⟩ := HX0.out.keep hb1
  clear hr hb1
  cases r with
  | false =>
    go_wp2_with fail
    go_ret
    exact ⟨false, by simp only [Bool.false_eq_true, false_iff]; exact fun h => (by have := HR.out.2 h.1; cases this), rfl, HB1.out⟩
  | true =>
    go_wp2_with fail
    refine (rsl10_at (HT.out.stays (.of_below HB1.out)) (HR.out.1 (by trivial)) HN.out).mono ?_
    rintro e w2 ⟨r2, hr2, rfl, hb2⟩
    have HR2 := Lib.hid hr2
    have HB2 := Lib.hid (HB1.out.trans (hb2.mono HB1.out.size))
    clear hr2 hb2
    go_wp2_with fail
    go_ret
    exact ⟨r2, HR2.out, rfl, HB2.out⟩
set_option maxRecDepth 100000 in
theorem opnS_at (h : TM w C t v) (hn : t.wt ≤ 1048576) : Calls Tryd.prog 21 #[v] w (Tells t.Opn w) := by
  have HN := Lib.hid hn
  obtain ⟨tp, tc, rp, rc, p, c, rfl, hT⟩ := h
  have HT := Lib.hid hT
  have HX0 := Lib.hid (Bx9.new w t tp tc rp rc p c 35)
  have HB0 := Lib.hid (al_below w (.cells (tmC t tp tc rp rc p c) 35))
  clear hT hn
  go_enter Tryd.func21, Tryd.ntmps21
  go_wp2_with fail
  refine (levS_at 0 ⟨_, _, _, _, _, _, rfl, HT.out.stays (.of_below HB0.out)⟩ (Nat.le_trans HN.out (by decide))).mono ?_
  rintro e w1 ⟨r, hr, rfl, hb1⟩
  have HR := Lib.hid hr
  have HB1 := Lib.hid (HB0.out.trans (hb1.mono HB0.out.size))
  obtain ⟨g0, g1, g2, g3, g4, g5, g6, g7, g8⟩ := HX0.out.keep hb1
  clear hr hb1
  cases r with
  | false =>
    go_wp2_with fail
    go_ret
    exact ⟨false, by simp only [Bool.false_eq_true, false_iff]; exact fun h => (by have := HR.out.2 h.1; cases this), rfl, HB1.out⟩
  | true =>
    go_wp2_with fail
    refine (closedS_any ⟨_, _, _, _, _, _, rfl, HT.out.stays (.of_below HB1.out)⟩ (by have := t.nodes_wt; have := HN.out; omega)).mono ?_
    rintro e w2 ⟨r2, hr2, rfl, hb2⟩
    have HR2 := Lib.hid hr2
    have HB2 := Lib.hid (HB1.out.trans (hb2.mono HB1.out.size))
    clear hr2 hb2
    go_wp2_with fail
    go_ret
    exact ⟨!r2, by cases r2 <;> simp only [Bool.not_true, Bool.not_false, Bool.false_eq_true, false_iff, true_iff] <;> first | exact ⟨HR.out.1 (by trivial), fun h => by have := HR2.out.2 h; cases this⟩ | exact fun h => h.2 (HR2.out.1 rfl), rfl, HB2.out⟩
end Go.Proofs.YtfeijijeohfpgaaDoor
namespace Go.Proofs.YtfeijijeohfpgaaDoor
open Go Go.RowKit Go.Shelf
attribute [local go_sem] Oper.semAt_some

end Go.Proofs.YtfeijijeohfpgaaDoor
namespace Go.Proofs.YtfeijijeohfpgaaDoor
open Go Go.RowKit Go.Shelf
attribute [local go_sem] Oper.semAt_some

set_option maxRecDepth 100000 in
set_option maxHeartbeats 2000000 in
theorem isTermI_any {C : Nat → Prop} {t : Tm} {v : Value} {w : World} (hka : KA w) (h : TM w C t v) (hn : t.wt ≤ 2097152) :
    Calls Tryd.prog 43 #[v] w (Tells t.IsT w) := by
  have hnt : t.nodes ≤ 2097153 := by have := t.nodes_wt; omega
  have HKA := Lib.hid (fun (w' : World) (hb : Below w.heap.size w w') => hka.below hb)
  have HWT := Lib.hid hn
  clear hka hn
  obtain ⟨tp, tc, rp, rc, p, c, rfl, hT⟩ := h
  have HT := Lib.hid (hT.mono (C' := (· < w.heap.size)) (fun _ _ h => h))
  clear hT
  refine (callsIn_wide (n := 2)).1 ?_
  refine callsIn_of_wp_marks Tryd.func43 rfl trivial ?_ rfl
  simp only [Tryd.ntmps43, List.size_toArray, List.length_cons, List.length_nil, Nat.reduceAdd, Nat.reduceSub, Array.replicate_succ, Array.replicate_zero, List.push_toArray, List.append_toArray, List.nil_append, List.cons_append]
  gi_wp2_with fail
  obtain ⟨w0, hw0, hs0, hb0, hk0, hk1⟩ := box_new2 w (tmC t tp tc rp rc p c) #[.bool false] 35 4
  rw [hw0]
  refine ⟨trivial, ?_⟩
  refine (callsIn_wide.2 (tnM_any (HT.out.stays (.of_below hb0)))).mono ?_
  rintro e wl ⟨Bt, Bp, rfl, hI, hbw, hBt, hBp⟩
  have hsz := hbw.size
  have hbl : Below w.heap.size w wl := hb0.trans (hbw.mono hb0.size)
  have k1 : wl.heap[w.heap.size + 1]? = some (.cells #[.bool false] 4 (0, 0)) := (hbw.block _ (by omega)).trans hk1
  have hbp := (Array.getElem?_eq_some_iff.1 hI.bp).1
  have HSL : TM' wl (fun b => b < w.heap.size ∨ b = Bp) t tp tc rp rc p c := (HT.out.stays (.of_below hbl)).mono (fun z hz _ => Or.inl hz)
  clear hk0 hk1 hb0 hw0
  gi_wp2_with fail
  refine range_law (F := Fence.wide) (n := 2) rfl (by omega) (gf := 106) (lb := #[.pointer (some ⟨Bt, 0, none⟩), .pointer (some ⟨Bp, 0, none⟩)]) rfl trivial (enters_of Tryd.func106 (by kernel_rfl) rfl)
    (nodesM_seq2 hI HSL hnt (Below.refl _ _) (fun b => b = w.heap.size + 1) (fun b h => by omega) (fun b h => by omega) (Or.inr rfl)) (fun _ => rfl) (fun b h => by omega)
    (fun pre W => W.heap[w.heap.size + 1]? = some (.cells #[.bool false] 4 (0, 0)) ∧ AllOk pre ∧ Below w.heap.size w W)
    (fun j pre W => j = .ret ∧ W.cell? ⟨w.heap.size + 1, 0, none⟩ = some (.bool false) ∧ ¬ t.IsT ∧ Below w.heap.size w W)
    (fun pre A B h hb => ⟨(hb.block _ (by omega)).trans h.1, h.2.1, h.2.2.trans (hb.mono (by omega))⟩)
    (fun j pre A B h hb => ⟨h.1, (hb.cell (by show w.heap.size + 1 < _; omega)).trans h.2.1, h.2.2.1, h.2.2.2.trans (hb.mono (by omega))⟩)
    (goodM_keep (fun b h => by omega)) ⟨k1, (fun e he => absurd he (List.not_mem_nil)), hbl⟩
    (fun x a' W => ∃ bx, W.heap[bx]? = some (.cells x.2.1.cells 35 (0, 0)) ∧ a' = { tmps := #[tmV t tp tc rp rc p c, .pointer (some ⟨w.heap.size, 0, none⟩), .pointer (some ⟨w.heap.size + 1, 0, none⟩), .pointer (some ⟨bx, 0, none⟩),
      tmV t tp tc rp rc p c, iterM Bt Bp, x.2.1, .int .i64 (x.2.2 : Nat), undef, undef, undef], defers := [] })
    (fun x a' W l r o h hl => by
      obtain ⟨bx, h2, h3⟩ := h
      exact ⟨bx, (World.putObj_heap_other (fun e => by rw [e, hl] at h2; cases h2)).trans h2, h3⟩) ?assign ?body ?done ?stop
  case assign =>
    rintro l ⟨x, v, d⟩ W K hG hK
    have hG : TM W _ x v := hG
    obtain ⟨tp', tc', rp', rc', p', c', rfl, hG'⟩ := hG
    have HK := Lib.hid hK
    clear hK
    gi_wp2
    exact HK.out _ _ ((Below.refl _ _).alloc (Nat.le_refl _) _) ⟨W.heap.size, blk_new _ _, by simp⟩
  case body =>
    rintro l pre ⟨x, v, d⟩ a' W ⟨hr, hso, hB⟩ hpre hG ⟨bx, hbx, rfl⟩
    have hpre : pre ++ [(x, d)] <+: walkM t 1 := hpre
    have hbx : W.heap[bx]? = some (.cells v.cells 35 (0, 0)) := hbx
    have hG : TM W _ x v := hG
    obtain ⟨tp', tc', rp', rc', p', c', rfl, hG'⟩ := hG
    simp only [Value.cells] at hbx
    obtain ⟨x0, x1, x2, x3, x4, x5, x6, x7, x8⟩ := Bx9.of hbx
    have hxw : x.wt ≤ 2097152 := by
      have h1 := wt_walk t 1 (x, d) (hpre.subset (by simp))
      have h2 := HWT.out
      simp only at h1
      omega
    have HC := Lib.hid (formI_any W (HKA.out W hB) hG' hxw)
    have HR1 := Lib.hid hr
    have HB1 := Lib.hid hB
    have HSO := Lib.hid hso
    have HP := Lib.hid hpre
    clear hso hpre hr hbx hB k1 hG' HSL hbl hbw hI hxw
    gi_wp2_with fail
    refine ⟨trivial, rfl, ?_⟩
    refine (CallsIn.inRound l (callsIn_wide.2 HC.out)).mono ?_
    rintro e W2 ⟨b, hb, rfl, hb2⟩
    have l2 := (Array.getElem?_eq_some_iff.1 HR1.out).1
    have HR2 := Lib.hid ((hb2.block _ l2).trans HR1.out)
    have r2 := cell_of_blk HR2.out 0
    have rz := unfrozen_of_blk HR2.out 0
    simp only [List.getElem?_toArray, List.getElem?_cons_zero] at r2
    have hH2 : Holds (fun b => b = w.heap.size + 1) W W2 := .of_below hb2
    have hB2 : Below w.heap.size w W2 := HB1.out.trans (hb2.mono HB1.out.size)
    have HBB := Lib.hid hb
    have HH2 := Lib.hid hH2
    have HB2 := Lib.hid hB2
    clear hb hb2 hH2 hB2 x0 x1 x2 x3 x4 x5 x6 x7 x8 l2
    cases b with
    | false =>
      have hcc := World.cell?_setCell_same' W2 ⟨w.heap.size + 1, 0, none⟩ (.bool false) (by rw [r2]; rfl)
      have HCC := Lib.hid hcc
      clear hcc
      gi_wp2_with fail
      exact ⟨HH2.out.setCell ⟨w.heap.size + 1, 0, none⟩ rfl _, rfl, HCC.out, not_isT_at HP.out (fun h => by have := HBB.out.2 h; cases this), HB2.out.setCell (p := ⟨w.heap.size + 1, 0, none⟩) (by show w.heap.size ≤ w.heap.size + 1; omega) _⟩
    | true =>
      gi_wp2_with fail
      exact ⟨HH2.out, HR2.out, HSO.out.next (HBB.out.1 (by trivial)), HB2.out⟩
  case done =>
    rintro D W hD ⟨hr, hso, hB⟩ hK
    have r0 := cell_of_blk hr 0
    have rz := unfrozen_of_blk hr 0
    simp only [List.getElem?_toArray, List.getElem?_cons_zero] at r0
    have HV := Lib.hid (isT_of hso)
    have HB := Lib.hid hB
    have hK' : (W.setCell ⟨w.heap.size + 1, 0, none⟩ (.bool true)).heap[D]? = some (.deferred (some [])) := (Below.heap_setCell _ _ _ _ (by show D ≠ w.heap.size + 1; omega)).trans hK
    clear hso hB hr hK k1 HSL hbl hbw hI
    gi_wp2_with fail
    refine ⟨by simp, .inl ⟨_, _, rfl, run_takeDeferred hK', ?_⟩⟩
    have hc := (World.cell?_of_block (a := ⟨w.heap.size + 1, 0, none⟩) (w' := (W.setCell ⟨w.heap.size + 1, 0, none⟩ (.bool true)).putObj D (.deferred none)) (World.putObj_heap_other (by show w.heap.size + 1 ≠ D; omega))).trans (World.cell?_setCell_same' W ⟨w.heap.size + 1, 0, none⟩ (.bool true) (by rw [r0]; rfl))
    refine ⟨.bool true, ?_, _, ⟨fun _ => HV.out, fun _ => rfl⟩, rfl, (HB.out.setCell (p := ⟨w.heap.size + 1, 0, none⟩) (by show w.heap.size ≤ w.heap.size + 1; omega) _).trans (below_putObj _ _ _ _ (by omega))⟩
    rw [results_cell1 rfl]
    go_simp
  case stop =>
    rintro D c pre W hD hpre ⟨rfl, hr, hv, hB⟩ hK
    have HB := Lib.hid hB
    have HV := Lib.hid hv
    clear hv hB k1 HSL hbl hbw hI
    gi_wp2_with fail
    refine ⟨by simp, .inl ⟨_, _, rfl, run_takeDeferred hK, ?_⟩⟩
    have hc := (World.cell?_of_block (a := ⟨w.heap.size + 1, 0, none⟩) (w' := W.putObj D (.deferred none)) (World.putObj_heap_other (by show w.heap.size + 1 ≠ D; omega))).trans hr
    refine ⟨.bool false, ?_, _, ⟨fun h => by simp at h, fun h => absurd h HV.out⟩, rfl, HB.out.trans (below_putObj _ _ _ _ (by omega))⟩
    rw [results_cell1 rfl]
    go_simp
end Go.Proofs.YtfeijijeohfpgaaDoor
namespace Go.Proofs.YtfeijijeohfpgaaDoor
open Go Go.RowKit
def Tm.sc (t : Tm) : List Tm := if t.kind = 1 then [] else t.args
theorem sc_not {t : Tm} (h : ¬ t.kind = 1) : t.sc = t.args := by unfold Tm.sc; rw [if_neg h]
def scV (t : Tm) (p : Option Addr) (c : Nat) : Value := if t.kind = 1 then .slice none 0 0 else .slice p t.args.length c
set_option maxRecDepth 100000 in
set_option maxHeartbeats 1000000 in
theorem argsSc_any {w : World} {b o : Nat} {t : Tm} {tp rp p : Option Addr} {tc rc c : Nat} (h : At9 w b o t tp tc rp rc p c) :
    Calls Tryd.prog 111 #[.pointer (some ⟨b, o, none⟩)] w fun e w' => e = .returned (scV t p c) ∧ w' = w := by
  obtain ⟨g0, g1, g2, g3, g4, g5, g6, g7, g8⟩ := h
  go_enter Tryd.func111, Tryd.ntmps111
  by_cases h1 : t.kind = 1
  · have e1 : (t.kind == 1) = true := by simp; omega
    have HV := Lib.hid (show scV t p c = .slice none 0 0 by unfold scV; rw [if_pos h1])
    clear h1
    go_wp2_with fail
    go_ret
    exact ⟨by rw [HV.out]; rfl, rfl⟩
  · have e1 : (t.kind == 1) = false := by simp; omega
    have HV := Lib.hid (show scV t p c = .slice p t.args.length c by unfold scV; rw [if_neg h1])
    clear h1
    go_wp2_with fail
    go_ret
    exact ⟨by rw [HV.out]; rfl, rfl⟩
def NmV (w : World) (base : Nat) (xs : List ByteArray) (v : Value) : Prop := (xs = [] ∧ v = .slice none 0 0) ∨ (xs ≠ [] ∧ Own w base v xs)
theorem ar_six {t : Tm} (h : t.kind = 6) : t.arOk ↔ t.args.length = 1 := by
  unfold Tm.arOk
  rw [show t.arity = 1 by unfold Tm.arity; rw [h]; rfl]
  exact ⟨fun h => by omega, fun h => ⟨by omega, fun h => by omega⟩⟩
theorem ar_eight {t : Tm} (h : t.kind = 8) : t.arOk ↔ t.args.length = 2 := by
  unfold Tm.arOk
  rw [show t.arity = 2 by unfold Tm.arity; rw [h]; rfl]
  exact ⟨fun h => by omega, fun h => ⟨by omega, fun h => by omega⟩⟩
theorem ar_nine {t : Tm} (h : t.kind = 9) : t.arOk ↔ t.args.length = 1 := by
  unfold Tm.arOk
  rw [show t.arity = 1 by unfold Tm.arity; rw [h]; rfl]
  exact ⟨fun h => by omega, fun h => ⟨by omega, fun h => by omega⟩⟩
theorem bnd_no {t : Tm} (h : ¬ t.arOk) : t.bnd = [] := by
  unfold Tm.bnd
  rw [if_neg (fun e => h ((ar_six e.1).2 e.2)), if_neg (fun e => h ((ar_eight e.1).2 e.2)), if_neg (fun e => h ((ar_nine e.1).2 e.2))]
theorem bnd_one {t : Tm} (h : t.arOk) (hk : t.kind = 6 ∨ t.kind = 8) : t.bnd = [t.name] := by
  unfold Tm.bnd
  rcases hk with hk | hk
  · rw [if_pos ⟨hk, (ar_six hk).1 h⟩]
  · rw [if_neg (fun e => by omega), if_pos ⟨hk, (ar_eight hk).1 h⟩]
theorem bnd_two {t : Tm} (h : t.arOk) (hk : t.kind = 9) : t.bnd = [t.name, t.other] := by
  unfold Tm.bnd
  rw [if_neg (fun e => by omega), if_neg (fun e => by omega), if_pos ⟨hk, (ar_nine hk).1 h⟩]
theorem bnd_oth {t : Tm} (h6 : ¬ t.kind = 6) (h8 : ¬ t.kind = 8) (h9 : ¬ t.kind = 9) : t.bnd = [] := by
  unfold Tm.bnd
  rw [if_neg (fun e => h6 e.1), if_neg (fun e => h8 e.1), if_neg (fun e => h9 e.1)]
set_option maxRecDepth 100000 in
set_option maxHeartbeats 4000000 in
theorem bndI_any {w : World} {b o : Nat} {t : Tm} {tp rp p : Option Addr} {tc rc c : Nat} (h : At9 w b o t tp tc rp rc p c) (hka : KA w) (hn : t.wt ≤ 2097152) :
    Calls Tryd.prog 112 #[.pointer (some ⟨b, o, none⟩)] w fun e w' => ∃ v, e = .returned v ∧ NmV w' w.heap.size t.bnd v ∧ Below w.heap.size w w' := by
  have HA := Lib.hid (hasAr_any t tp tc rp rc p c w hka hn)
  have H9 := Lib.hid (fun w' (hb : Below w.heap.size w w') => ((⟨(hb.cell (World.block_lt_of_cell? w _ h.kind)).trans h.kind, (hb.cell (World.block_lt_of_cell? w _ h.name)).trans h.name, (hb.cell (World.block_lt_of_cell? w _ h.other)).trans h.other, (hb.cell (World.block_lt_of_cell? w _ h.n)).trans h.n, (hb.cell (World.block_lt_of_cell? w _ h.tk)).trans h.tk, (hb.cell (World.block_lt_of_cell? w _ h.ta)).trans h.ta, (hb.cell (World.block_lt_of_cell? w _ h.rk)).trans h.rk, (hb.cell (World.block_lt_of_cell? w _ h.ra)).trans h.ra, (hb.cell (World.block_lt_of_cell? w _ h.args)).trans h.args⟩ : At9 w' b o t tp tc rp rc p c)))
  obtain ⟨g0, g1, g2, g3, g4, g5, g6, g7, g8⟩ := h
  clear hka
  go_enter Tryd.func112, Tryd.ntmps112
  go_wp2_with fail
  refine HA.out.mono ?_
  rintro e w1 ⟨r, hr, rfl, hb1⟩
  have HR := Lib.hid hr
  have HB1 := Lib.hid hb1
  clear g0 g1 g2 g3 g4 g5 g6 g7 g8
  obtain ⟨g0, g1, g2, g3, g4, g5, g6, g7, g8⟩ := H9.out w1 hb1
  clear hr hb1
  cases r with
  | false =>
    have HV := Lib.hid (bnd_no (t := t) (fun h => by have := HR.out.2 h; cases this))
    go_wp2_with fail
    go_ret
    exact ⟨_, rfl, Or.inl ⟨HV.out, rfl⟩, HB1.out⟩
  | true =>
    have HK := Lib.hid (HR.out.1 rfl)
    by_cases h6 : t.kind = 6
    · have e6 : (t.kind == 6) = true := by simp; omega
      have HV := Lib.hid (bnd_one HK.out (Or.inl h6))
      clear h6
      go_wp2_with fail
      go_ret
      exact ⟨_, rfl, Or.inr ⟨by rw [HV.out]; simp, by rw [HV.out]; exact (own_one w1 t.name).base HB1.out.size⟩, HB1.out.trans ((al_below w1 _).mono HB1.out.size)⟩
    have e6 : (t.kind == 6) = false := by simp; omega
    by_cases h8 : t.kind = 8
    · have e8 : (t.kind == 8) = true := by simp; omega
      have HV := Lib.hid (bnd_one HK.out (Or.inr h8))
      clear h6 h8
      go_wp2_with fail
      go_ret
      exact ⟨_, rfl, Or.inr ⟨by rw [HV.out]; simp, by rw [HV.out]; exact (own_one w1 t.name).base HB1.out.size⟩, HB1.out.trans ((al_below w1 _).mono HB1.out.size)⟩
    have e8 : (t.kind == 8) = false := by simp; omega
    by_cases h9 : t.kind = 9
    · have e9 : (t.kind == 9) = true := by simp; omega
      have HV := Lib.hid (bnd_two HK.out h9)
      clear h6 h8 h9
      go_wp2_with fail
      go_region
      go_wp2_with fail
      go_ret
      have hd := (Below.refl w1.heap.size w1).drew
      exact ⟨_, rfl, Or.inr ⟨by rw [HV.out]; simp, by rw [HV.out]; exact (own_two w1.drew t.name t.other).base HB1.out.size⟩, (HB1.out.trans (hd.mono HB1.out.size)).trans ((al_below w1.drew _).mono HB1.out.size)⟩
    · have e9 : (t.kind == 9) = false := by simp; omega
      have HV := Lib.hid (bnd_oth h6 h8 h9)
      clear h6 h8 h9
      go_wp2_with fail
      go_ret
      exact ⟨_, rfl, Or.inl ⟨HV.out, rfl⟩, HB1.out⟩
end Go.Proofs.YtfeijijeohfpgaaDoor
namespace Go.Proofs.YtfeijijeohfpgaaDoor
open Go Go.RowKit
def NamesAt (w : World) (Z : Nat → Prop) (xs : List ByteArray) (s : Value) : Prop := (xs = [] ∧ s = .slice none 0 0) ∨
  (xs ≠ [] ∧ ∃ g cap, s = .slice (some ⟨g, 0, none⟩) xs.length cap ∧ Z g ∧ g < w.heap.size ∧ ∀ j x, xs[j]? = some x → w.cell? ⟨g, j, none⟩ = some (.string x))
theorem NamesAt.stays {w w' : World} {Z : Nat → Prop} {xs : List ByteArray} {s : Value} (h : NamesAt w Z xs s) (hs : Stays Z w w') : NamesAt w' Z xs s := by
  rcases h with h | ⟨h0, g, cap, h1, h2, h3, h4⟩
  · exact Or.inl h
  · exact Or.inr ⟨h0, g, cap, h1, h2, Nat.lt_of_lt_of_le h3 hs.1, fun j x hj => (World.cell?_of_block (a := ⟨g, j, none⟩) (hs.2 g h2 h3)).trans (h4 j x hj)⟩
theorem NamesAt.mono {w : World} {Z Z' : Nat → Prop} {xs : List ByteArray} {s : Value} (h : NamesAt w Z xs s) (hz : ∀ z, Z z → z < w.heap.size → Z' z) : NamesAt w Z' xs s := by
  rcases h with h | ⟨h0, g, cap, h1, h2, h3, h4⟩
  · exact Or.inl h
  · exact Or.inr ⟨h0, g, cap, h1, hz g h2 h3, h3, h4⟩
theorem NmV.at {w : World} {base : Nat} {xs : List ByteArray} {v : Value} (h : NmV w base xs v) : NamesAt w (fun z => base ≤ z) xs v := by
  rcases h with h | ⟨h0, h⟩
  · exact Or.inl h
  · rcases h.2 with ⟨_, h1⟩ | ⟨g, cap, cur, rfl, hg, hblk, h2, h3, h4, h5⟩
    · exact absurd (List.eq_nil_of_length_eq_zero h1) h0
    · refine Or.inr ⟨h0, g, cap, rfl, hg, (Array.getElem?_eq_some_iff.1 hblk).1, fun j x hj => ?_⟩
      have hl := (List.getElem?_eq_some_iff.1 hj).1
      rw [cell_of_blk hblk j, ← Array.getElem?_toList]
      have : (xs.map Value.string)[j]? = some (.string x) := by rw [List.getElem?_map, hj]; rfl
      rw [← h5, List.getElem?_take, if_pos (by omega)] at this
      exact this
def LQ (w : World) (C Z : Nat → Prop) (l : List (Tm × List ByteArray)) (v : Value) : Prop := ∃ (q : Option Addr) (c : Nat), v = .slice q l.length c ∧ l.length ≤ c ∧ c ≤ maxLen ∧
  ∀ (j : Nat) (hj : j < l.length), ∃ (g o b1 o1 : Nat) (s : Value), q = some ⟨g, o, none⟩ ∧ Z g ∧ g < w.heap.size ∧ w.cell? ⟨g, o + j * 2, none⟩ = some (.pointer (some ⟨b1, o1, none⟩)) ∧ w.cell? ⟨g, o + j * 2 + 1, none⟩ = some s ∧ TermAt w C l[j].1 b1 o1 ∧ NamesAt w Z l[j].2 s
theorem LQ.stays {w w' : World} {C Z : Nat → Prop} {l : List (Tm × List ByteArray)} {v : Value} (h : LQ w C Z l v) (hc : Stays C w w') (hz : Stays Z w w') : LQ w' C Z l v := by
  obtain ⟨q, c, h1, h2, h3, h4⟩ := h
  refine ⟨q, c, h1, h2, h3, fun j hj => ?_⟩
  obtain ⟨g, o, b1, o1, s, e1, e2, e3, e4, e5, e6, e7⟩ := h4 j hj
  exact ⟨g, o, b1, o1, s, e1, e2, Nat.lt_of_lt_of_le e3 hz.1, (World.cell?_of_block (a := ⟨g, o + j * 2, none⟩) (hz.2 g e2 e3)).trans e4, (World.cell?_of_block (a := ⟨g, o + j * 2 + 1, none⟩) (hz.2 g e2 e3)).trans e5, e6.stays hc, e7.stays hz⟩
theorem LQ.mono {w : World} {C Z Z' : Nat → Prop} {l : List (Tm × List ByteArray)} {v : Value} (h : LQ w C Z l v) (hz : ∀ z, Z z → z < w.heap.size → Z' z) : LQ w C Z' l v := by
  obtain ⟨q, c, h1, h2, h3, h4⟩ := h
  refine ⟨q, c, h1, h2, h3, fun j hj => ?_⟩
  obtain ⟨g, o, b1, o1, s, e1, e2, e3, e4, e5, e6, e7⟩ := h4 j hj
  exact ⟨g, o, b1, o1, s, e1, hz g e2 e3, e3, e4, e5, e6, e7.mono hz⟩
def partsQ (t : Tm) : List (Tm × List ByteArray) := t.sc.mapIdx fun k x => (x, t.bndAt k)
theorem partsQ_len (t : Tm) : (partsQ t).length = t.sc.length := by simp [partsQ]
theorem infoQ : (Tryd.prog.info? 111).map (fun i => (i.zero, i.size, i.bytes)) = some (some (.agg #[.pointer none, .slice none 0 0]), 2, 32) := by kernel_rfl
structure RowQ (w : World) (g n : Nat) (P : Nat → Value) (k : Nat) (s : Value) : Prop where
  blk : ∃ cur : Array Value, w.heap[g]? = some (.cells cur 111 (0, 0)) ∧ cur.size = n * 2 ∧ ∀ j, j < n → cur[j * 2]? = some (if j < k then P j else .pointer none) ∧ cur[j * 2 + 1]? = some (if j + 1 = n then s else .slice none 0 0)
section
variable {w w' : World} {g n k : Nat} {P : Nat → Value} {s : Value}
theorem RowQ.lt (h : RowQ w g n P k s) : g < w.heap.size := by
  obtain ⟨cur, hb, _⟩ := h.blk
  exact (Array.getElem?_eq_some_iff.1 hb).1
theorem RowQ.frozen (h : RowQ w g n P k s) (i : Nat) : w.frozen? ⟨g, i, none⟩ = false := by
  obtain ⟨cur, hb, _⟩ := h.blk
  exact unfrozen_of_blk hb i
theorem RowQ.ptr (h : RowQ w g n P k s) {j : Nat} (hj : j < n) : w.cell? ⟨g, j * 2, none⟩ = some (if j < k then P j else .pointer none) := by
  obtain ⟨cur, hb, _, hc⟩ := h.blk
  rw [cell_of_blk hb]; exact (hc j hj).1
theorem RowQ.nms (h : RowQ w g n P k s) {j : Nat} (hj : j < n) : w.cell? ⟨g, j * 2 + 1, none⟩ = some (if j + 1 = n then s else .slice none 0 0) := by
  obtain ⟨cur, hb, _, hc⟩ := h.blk
  rw [cell_of_blk hb]; exact (hc j hj).2
theorem RowQ.below (h : RowQ w g n P k s) (hb : Below w.heap.size w w') : RowQ w' g n P k s := by
  obtain ⟨cur, h1, h2⟩ := h.blk
  exact ⟨cur, (hb.block g h.lt).trans h1, h2⟩
theorem RowQ.next (h : RowQ w g n P k s) : RowQ (w.setCell ⟨g, k * 2, none⟩ (P k)) g n P (k + 1) s := by
  obtain ⟨cur, h1, h2, h3⟩ := h.blk
  refine ⟨cur.setIfInBounds (k * 2) (P k), Go.Joins.block_setCell h1 _, by simpa using h2, fun j hj => ?_⟩
  obtain ⟨e1, e2⟩ := h3 j hj
  rw [Array.getElem?_setIfInBounds, Array.getElem?_setIfInBounds]
  refine ⟨?_, by rw [if_neg (by omega)]; exact e2⟩
  by_cases e : k = j
  · subst e
    rw [if_pos rfl, if_pos (by omega), if_pos (by omega)]
  · rw [if_neg (by omega), e1]
    by_cases e3 : j < k
    · rw [if_pos e3, if_pos (by omega)]
    · rw [if_neg e3, if_neg (by omega)]
theorem RowQ.named (h : RowQ w g n P k s) (s' : Value) (hn : 0 < n) : RowQ (w.setCell ⟨g, (n - 1) * 2 + 1, none⟩ s') g n P k s' := by
  obtain ⟨cur, h1, h2, h3⟩ := h.blk
  refine ⟨cur.setIfInBounds ((n - 1) * 2 + 1) s', Go.Joins.block_setCell h1 _, by simpa using h2, fun j hj => ?_⟩
  obtain ⟨e1, e2⟩ := h3 j hj
  rw [Array.getElem?_setIfInBounds, Array.getElem?_setIfInBounds]
  refine ⟨by rw [if_neg (by omega)]; exact e1, ?_⟩
  by_cases e : j + 1 = n
  · rw [if_pos (by omega), if_pos (by omega), if_pos e]
  · rw [if_neg (by omega), e2, if_neg e, if_neg e]
theorem rowQ_start {base : Nat} {xs : List Value} (h : w.ownsRow base 111 2 (.slice (some ⟨g, 0, none⟩) n n) n xs) (hx : ∀ j, j < n → xs[j * 2]? = some (.pointer none) ∧ xs[j * 2 + 1]? = some (.slice none 0 0)) : RowQ w g n P 0 (.slice none 0 0) := by
  rcases h.2 with ⟨e0, e1⟩ | ⟨g', cap', cur, hv, hg, hblk, h1, h2, h3, h4⟩
  · cases e0
  · simp only [Value.slice.injEq, Option.some.injEq, Addr.mk.injEq, true_and, and_true] at hv
    obtain ⟨rfl, rfl⟩ := hv
    refine ⟨cur, hblk, h3, fun j hj => ?_⟩
    obtain ⟨e1, e2⟩ := hx j hj
    rw [← h4, List.getElem?_take, if_pos (by omega), Array.getElem?_toList] at e1 e2
    rw [if_neg (by omega)]
    exact ⟨e1, by rw [e2]; split <;> rfl⟩
end

theorem zerosQ (n j : Nat) (h : j < n) : (madeCells (#[Value.pointer none, Value.slice none 0 0]) (n * 2)).toList[j * 2]? = some (.pointer none) ∧ (madeCells (#[Value.pointer none, Value.slice none 0 0]) (n * 2)).toList[j * 2 + 1]? = some (.slice none 0 0) := by
  have h1 : j * 2 < n * 2 := by omega
  have h2 : j * 2 + 1 < n * 2 := by omega
  have e2 : (j * 2 + 1) % 2 = 1 := by omega
  constructor
  · simp [madeCells, h1]
  · simp [madeCells, h2, e2]

def ptrQ (p : Option Addr) (j : Nat) : Value := .pointer (match p with | some a => some ⟨a.block, a.off + j * 9, none⟩ | none => none)
theorem lq_fin {C : Nat → Prop} {w wf : World} {t : Tm} {tp rp p : Option Addr} {tc rc c G k : Nat} {s : Value} (hR : RowQ wf G k (ptrQ p) k s) (hG : w.heap.size ≤ G) (hm : k = t.sc.length) (hq : 0 < k → ¬ t.kind = 1) (hk : k ≤ maxLen)
    (hb : Below w.heap.size w wf) (hT : TM' w C t tp tc rp rc p c) (hs : NamesAt wf (fun z => w.heap.size ≤ z ∧ z < wf.heap.size) t.bnd s) :
    LQ wf C (fun z => w.heap.size ≤ z ∧ z < wf.heap.size) (partsQ t) (.slice (some ⟨G, 0, none⟩) k k) := by
  have hl : (partsQ t).length = k := by rw [partsQ_len]; exact hm.symm
  refine ⟨_, k, by rw [hl], by rw [hl]; exact Nat.le_refl _, hk, fun j hj => ?_⟩
  rw [hl] at hj
  have hk1 := hq (by omega)
  have hsc := sc_not hk1
  have hja : j < t.args.length := by rw [← hsc]; omega
  obtain ⟨b', o', tp', tc', rp', rc', p', c', hp, hC', hb', h9', hx'⟩ := tm_part hT.args j hja
  have hst : Stays C w wf := .of_below hb
  have e1 : (partsQ t)[j].1 = t.args[j] := by
    simp only [partsQ, List.getElem_mapIdx]
    congr 1
  have e2 : (partsQ t)[j].2 = t.bndAt j := by simp [partsQ]
  have hla : t.args.length = k := by rw [hm, hsc]
  refine ⟨G, 0, b', o' + j * 9, if j + 1 = k then s else .slice none 0 0, rfl, ⟨hG, hR.lt⟩, hR.lt, ?_, ?_, ?_, ?_⟩
  · rw [Nat.zero_add, hR.ptr hj, if_pos hj, hp]
    rfl
  · rw [Nat.zero_add, hR.nms hj]
  · rw [e1]
    exact ⟨_, _, _, _, _, _, hC', Nat.lt_of_lt_of_le hb' hb.size, h9' wf hst, hx'.stays hst⟩
  · rw [e2]
    by_cases h : j + 1 = k
    · rw [if_pos h, bndAt_yes (by omega)]
      exact hs
    · rw [if_neg h, bndAt_not (by omega)]
      exact Or.inl ⟨rfl, rfl⟩
set_option maxRecDepth 100000 in
set_option maxHeartbeats 4000000 in
theorem partsI_any {C : Nat → Prop} {w : World} {b o : Nat} {t : Tm} {s0 : Value} (h : TermAt w C t b o) (hka : KA w) (hn : t.wt ≤ 2097152) :
    Calls Tryd.prog 98 #[.agg #[.pointer (some ⟨b, o, none⟩), s0]] w fun e w' => ∃ v, e = .returned v ∧ LQ w' C (fun z => w.heap.size ≤ z ∧ z < w'.heap.size) (partsQ t) v ∧ Below w.heap.size w w' := by
  obtain ⟨i0, hi, hz0, hz1, hz2⟩ := info_parts infoQ
  obtain ⟨tp, tc, rp, rc, p, c, hC, hb, h9, hT⟩ := h
  obtain ⟨wb, hwb, hsb, hbb, rb⟩ := box_new w #[.pointer (some ⟨b, o, none⟩), s0] 111
  have HA := Lib.hid (argsSc_any (w := wb) (h9.keep (hbb.block b hb)))
  have H9 := Lib.hid h9
  have HT := Lib.hid hT
  have HW := Lib.hid (And.intro hsb (And.intro hbb rb))
  have HK := Lib.hid hka
  have HWW := Lib.hid hwb
  have hlen : t.args.length ≤ 2097152 := by have h1 := t.wt_eq; have h2 := wtS_ge t.args; omega
  have hb0 := cell_of_blk rb 0
  have hb1 := cell_of_blk rb 1
  simp only [List.getElem?_toArray, List.getElem?_cons_zero, List.getElem?_cons_succ] at hb0 hb1
  rw [← hwb] at hb0 hb1
  clear h9 hT hsb hbb rb hka hwb
  go_enter Tryd.func98, Tryd.ntmps98
  go_wp2_with fail
  rw [HWW.out]
  refine HA.out.mono ?_
  rintro e w1 ⟨rfl, rfl⟩
  clear hb0 hb1
  obtain ⟨q, m, c1, hsc⟩ : ∃ q m c1, scV t p c = .slice q m c1 ∧ m = t.sc.length ∧ (0 < m → q = p ∧ ¬ t.kind = 1) := by
    unfold scV Tm.sc
    split
    · exact ⟨_, _, _, rfl, rfl, fun h => by omega⟩
    · exact ⟨_, _, _, rfl, rfl, fun _ => ⟨rfl, by assumption⟩⟩
  obtain ⟨hsc, hm, hq⟩ := hsc
  rw [hsc]
  have hm2 : m ≤ 2097152 := by
    rw [hm]
    unfold Tm.sc
    split
    · simp
    · exact hlen
  have HM := Lib.hid hm
  have HSC := Lib.hid hsc
  have HQ := Lib.hid hq
  clear hm hsc hq
  go_wp2_with (at_make; refine wpList_make_full _ rfl _ _ 131 rfl w1.heap.size 111 i0 _ 2 Tryd.underlying131 hi hz0 hz1 .i64 .i64 _ _ m rfl rfl rfl rfl ?c1 ?c2 ?c3 ?_)
  case c1 => rw [hz2]; omega
  case c2 => unfold maxLen; omega
  case c3 => exact Nat.le_refl _
  intro w2 hown0 hg
  have hb2 : Below w1.heap.size w1 w2 := (Below.refl _ _).grown hg (Nat.le_refl _) (fun k h => by cases h)
  have HR0 := Lib.hid (rowQ_start (P := ptrQ p) hown0 (fun j hj => by
    exact zerosQ m j hj))
  clear hown0 hg
  have HB2 := Lib.hid hb2
  clear hb2
  go_wp2_with fail
  go_loopw [15] (fun i wr => ∃ k : Nat, k ≤ m ∧ i = .int .i64 k ∧ RowQ wr w1.heap.size m (ptrQ p) k (.slice none 0 0) ∧ Below w1.heap.size w1 wr) (fun i _ => m - (intOf i).toNat)
  case atStart => exact ⟨0, Nat.zero_le _, rfl, HR0.out, HB2.out⟩
  case round =>
    obtain ⟨k, hk, rfl, hrow, hbr⟩ := hrel
    have HR := Lib.hid hrow
    have HBR := Lib.hid hbr
    clear hrow hbr HR0 HB2
    by_cases hlk : k < m
    · obtain ⟨rfl, hk1⟩ := HQ.out (by omega)
      have hka2 : k < t.args.length := by
        have := HM.out
        rw [sc_not hk1] at this
        omega
      obtain ⟨b', o', tp', tc', rp', rc', p', c', rfl, hC', hb', h9', hx'⟩ := tm_part HT.out.args k hka2
      have f0 := HR.out.ptr hlk
      have fz := HR.out.frozen
      have HNX := Lib.hid HR.out.next
      have i0 : (0 : Int) ≤ (k : Int) := Int.natCast_nonneg _
      have i1 : (k : Int) < (m : Int) := by omega
      clear h9' hx' hk1 hka2
      go_wp2_with fail
      go_roundw
      case rel => exact ⟨k + 1, by omega, by go_num, HNX.out, HBR.out.setCell (p := ⟨w1.heap.size, k * 2, none⟩) (Nat.le_refl _) _⟩
      case measure => simp [intOf]; omega
    · obtain rfl : k = m := by omega
      obtain ⟨hsb, hbb, rb⟩ := HW.out
      have hbw := hbb.trans (HBR.out.mono hbb.size)
      have r2 := (HBR.out.block w.heap.size (by omega)).trans rb
      have k0 := cell_of_blk r2 0
      have k1 := cell_of_blk r2 1
      simp only [List.getElem?_toArray, List.getElem?_cons_zero, List.getElem?_cons_succ] at k0 k1
      have HN := Lib.hid (bndI_any (H9.out.keep (hbw.block b hb)) (HK.out.below hbw) hn)
      have HBW := Lib.hid hbw
      have HSB := Lib.hid hsb
      clear hsb hbb rb hbw r2
      go_wp2_with fail
      refine HN.out.mono ?_
      rintro e w3 ⟨v3, rfl, hnm, hb3⟩
      have HR3 := Lib.hid (HR.out.below hb3)
      have HB3 := Lib.hid (HBW.out.trans (hb3.mono HBW.out.size))
      have HNM := Lib.hid hnm
      have HNA := Lib.hid (hnm.at)
      have HS3 := Lib.hid hb3.size
      clear k0 k1 hb3
      rcases HNM.out with ⟨hb0, rfl⟩ | ⟨hb0, hown⟩
      · have HB0 := Lib.hid hb0
        clear hb0 hnm
        go_wp2_with fail
        go_ret
        have hsb := HSB.out
        exact ⟨_, rfl, lq_fin HR3.out (by omega) HM.out (fun h => (HQ.out h).2) (by unfold maxLen; omega) HB3.out HT.out (by rw [HB0.out]; exact Or.inl ⟨rfl, rfl⟩), HB3.out⟩
      · have hk0 : 0 < k := by
          have h1 : ¬ t.sc.length = 0 := fun h => by
            unfold Tm.sc at h
            unfold Tm.bnd at hb0
            split at h
            · rename_i h1
              rw [if_neg (fun e => by omega), if_neg (fun e => by omega), if_neg (fun e => by omega)] at hb0
              exact hb0 rfl
            · rw [if_neg (fun e => by omega), if_neg (fun e => by omega), if_neg (fun e => by omega)] at hb0
              exact hb0 rfl
          have := HM.out
          omega
        obtain ⟨pn, cn, rfl, -⟩ := hown.ss.at
        rcases HNA.out with ⟨h1, -⟩ | ⟨-, g, cap, hv, hg1, hg2, hg3⟩
        · exact absurd h1 hb0
        simp only [Value.slice.injEq, true_and] at hv
        obtain ⟨rfl, rfl⟩ := hv
        have n0 := HR3.out.nms (j := k - 1) (by omega)
        have fz := HR3.out.frozen
        have HNX := Lib.hid (HR3.out.named (.slice (some ⟨g, 0, none⟩) t.bnd.length cn) hk0)
        have e1 : (k : Int) - 1 = ((k - 1 : Nat) : Int) := by omega
        have i0 : (0 : Int) ≤ (k : Int) - 1 := by omega
        have i1 : (k : Int) - 1 < (k : Int) := by omega
        have HG3 := Lib.hid hg3
        have HB0 := Lib.hid hb0
        have HG12 := Lib.hid (And.intro hg1 hg2)
        clear hb0 hnm hown hg1 hg2 hg3
        go_wp2_with fail
        go_ret
        have hsb := HSB.out
        have hGl := HR.out.lt
        obtain ⟨hg1, hg2⟩ := HG12.out
        have hbf : Below w.heap.size w (w3.setCell ⟨w1.heap.size, (k - 1) * 2 + 1, none⟩ (.slice (some ⟨g, 0, none⟩) t.bnd.length cn)) := HB3.out.setCell (p := ⟨w1.heap.size, (k - 1) * 2 + 1, none⟩) (by show w.heap.size ≤ w1.heap.size; omega) _
        have hsz : (w3.setCell ⟨w1.heap.size, (k - 1) * 2 + 1, none⟩ (.slice (some ⟨g, 0, none⟩) t.bnd.length cn)).heap.size = w3.heap.size := by simp [World.setCell]
        have hwr := HBW.out.size
        refine ⟨_, rfl, lq_fin HNX.out (by omega) HM.out (fun h => (HQ.out h).2) (by unfold maxLen; omega) hbf HT.out (Or.inr ⟨HB0.out, g, cn, rfl, ⟨by omega, by rw [hsz]; exact hg2⟩, by rw [hsz]; exact hg2, fun j x hj => ?_⟩), hbf⟩
        rw [World.cell?_of_block (w := w3) (a := ⟨g, j, none⟩) (Below.heap_setCell _ _ _ _ (by show g ≠ w1.heap.size; omega))]
        exact HG3.out j x hj
end Go.Proofs.YtfeijijeohfpgaaDoor
namespace Go.Proofs.YtfeijijeohfpgaaDoor
open Go Go.RowKit Go.Shelf
attribute [local go_sem] Oper.semAt_some

abbrev PQ := Tm × List ByteArray
def listQ : List PQ → Nat → List (Tm × List ByteArray × Nat)
  | [], _ => []
  | e :: l, d => walkQ e.1 e.2 d ++ listQ l d
theorem walkQS_list (b : Nat → List ByteArray) : ∀ (ts : List Tm) (k d : Nat), walkQS b k ts d = listQ (ts.mapIdx fun i x => (x, b (k + i))) d
  | [], _, _ => rfl
  | t :: ts, k, d => by
    rw [walkQS, walkQS_list b ts (k + 1) d, List.mapIdx_cons]
    simp only [listQ, Nat.add_zero]
    congr 3
    funext i x
    rw [show k + 1 + i = k + (i + 1) by omega]
theorem walkQ_eq (t : Tm) (nm : List ByteArray) (d : Nat) : walkQ t nm d = (t, nm, d) :: listQ (partsQ t) (d + 1) := by
  cases t with
  | mk k a o n ty r ts =>
    rw [walkQ]
    by_cases h : k = 1
    · rw [if_pos h]
      simp [partsQ, Tm.sc, Tm.kind, h, listQ]
    · rw [if_neg h, walkQS_list]
      simp [partsQ, Tm.sc, Tm.kind, h, Tm.args]
abbrev WaitQ := List (List PQ × Value)
def rWQ : WaitQ → List (Tm × List ByteArray × Nat)
  | [] => []
  | e :: r => listQ e.1 (r.length + 1) ++ rWQ r
def stWalkQ (st : WaitQ) : List (Tm × List ByteArray × Nat) := rWQ st.reverse
theorem stWalkQ_snoc (st : WaitQ) (e : List PQ × Value) : stWalkQ (st ++ [e]) = listQ e.1 (st.length + 1) ++ stWalkQ st := by simp [stWalkQ, rWQ]
theorem wsndQ_last (st : WaitQ) (e : List PQ × Value) : ((st ++ [e]).map (·.2))[st.length]? = some e.2 := by simp
theorem wsndQ_take (st : WaitQ) (e : List PQ × Value) : ((st ++ [e]).map (·.2)).take (st.length * 1) = st.map (·.2) := by simp
theorem wsndQ_set (st : WaitQ) (e : List PQ × Value) (l : List PQ) (u : Value) : ((st ++ [e]).map (·.2)).set st.length u = (st ++ [(l, u)]).map (·.2) := by
  simp
theorem infoLQ : (Tryd.prog.info? 131).map (fun i => (i.zero, i.size, i.bytes)) = some (some (.slice none 0 0), 1, 24) := by kernel_rfl
theorem KA.stays {w w' : World} {C : Nat → Prop} (h : KA w) (hs : Stays C w w') (hC : C 1) : KA w' := by
  refine ⟨?_, Nat.lt_of_lt_of_le h.2 hs.1⟩
  have h1 := h.1
  unfold Lib.TabIs World.var? at h1 ⊢
  simp only [gKA, Option.bind_some] at h1 ⊢
  rw [hs.2 _ hC h.2]
  exact h1
theorem sc_wt (t : Tm) {x : Tm} (hx : x ∈ t.sc) : x.wt ≤ t.wt := by
  have h1 := t.wt_eq
  unfold Tm.sc at hx
  split at hx
  · simp at hx
  · obtain ⟨i, hi, rfl⟩ := List.mem_iff_getElem.1 hx
    have := wtS_at t.args i hi
    omega
theorem partsQ_wt (t : Tm) {e : PQ} (he : e ∈ partsQ t) : e.1.wt ≤ t.wt := by
  unfold partsQ at he
  obtain ⟨i, hi, rfl⟩ := List.mem_mapIdx.1 he
  exact sc_wt t (List.getElem_mem _)
theorem LQ.form {w : World} {C Z : Nat → Prop} {l : List PQ} {v : Value} (h : LQ w C Z l v) : ∃ q c, v = .slice q l.length c := by
  obtain ⟨q, c, h1, _⟩ := h
  exact ⟨q, c, h1⟩
theorem NamesAt.own {w : World} {Z : Nat → Prop} {xs : List ByteArray} {s : Value} (h : NamesAt w Z xs s) : NamesAt w (fun z => s.ownBlock = some z) xs s ∧ ∀ z, s.ownBlock = some z → Z z := by
  rcases h with ⟨h0, rfl⟩ | ⟨h0, g, cap, rfl, h2, h3, h4⟩
  · exact ⟨Or.inl ⟨h0, rfl⟩, fun z hz => by cases hz⟩
  · exact ⟨Or.inr ⟨h0, g, cap, rfl, rfl, h3, h4⟩, fun z hz => by cases hz; exact h2⟩
theorem LQ.open {w : World} {C Z : Nat → Prop} {x : PQ} {l : List PQ} {v : Value} (h : LQ w C Z (x :: l) v) :
    ∃ (b o c b1 o1 : Nat) (s : Value), v = .slice (some ⟨b, o, none⟩) (l.length + 1) c ∧ l.length + 1 ≤ c ∧ c ≤ maxLen ∧ Z b ∧ b < w.heap.size ∧ w.cell? ⟨b, o, none⟩ = some (.pointer (some ⟨b1, o1, none⟩)) ∧ w.cell? ⟨b, o + 1, none⟩ = some s ∧
      TermAt w C x.1 b1 o1 ∧ NamesAt w Z x.2 s ∧ ∀ q, (l ≠ [] → q = some ⟨b, o + 2, none⟩) → LQ w C Z l (.slice q l.length (c - 1)) := by
  obtain ⟨q, c, rfl, h2, h3, h4⟩ := h
  obtain ⟨b, o, b1, o1, s, rfl, e2, e3, e4, e5, e6, e7⟩ := h4 0 (by simp)
  simp only [List.length_cons] at h2
  refine ⟨b, o, c, b1, o1, s, rfl, h2, h3, e2, e3, by simpa using e4, by simpa using e5, e6, e7, fun q hq => ⟨q, c - 1, rfl, by omega, by omega, fun j hj => ?_⟩⟩
  obtain ⟨b', o', b1', o1', s', f1, f2, f3, f4, f5, f6, f7⟩ := h4 (j + 1) (by simp; omega)
  simp only [Option.some.injEq, Addr.mk.injEq, and_true] at f1
  obtain ⟨rfl, rfl⟩ := f1
  refine ⟨b, o + 2, b1', o1', s', hq (fun e => by rw [e] at hj; simp at hj), f2, f3, ?_, ?_, by simpa using f6, by simpa using f7⟩
  · rw [show o + 2 + j * 2 = o + (j + 1) * 2 by omega]; exact f4
  · rw [show o + 2 + j * 2 + 1 = o + (j + 1) * 2 + 1 by omega]; exact f5

abbrev QI := Tm × List ByteArray × Nat
abbrev QA := QI × (Nat × Nat × Value)
abbrev encQ (x : QA) : Array Value := #[.agg #[.pointer (some ⟨x.2.1, x.2.2.1, none⟩), x.2.2.2], .int .i64 (x.1.2.2 : Nat)]
abbrev keyQ (x : QA) : QI := x.1
def GoodQ (C : Nat → Prop) (x : QA) (Y : Nat → Prop) (W : World) : Prop := TermAt W C x.1.1 x.2.1 x.2.2.1 ∧ NamesAt W Y x.1.2.1 x.2.2.2 ∧ ∀ z, Y z → x.2.2.2.ownBlock = some z
structure MidQ (W wr : World) (C : Nat → Prop) (J : List QI → (Nat → Prop) → (Nat → Prop) → World → Prop) (B N Z : Nat → Prop) (pre : List QI) (st : WaitQ) (g cap : Nat) : Prop where
  own : wr.ownsRow (W.heap.size + 1) 131 1 (.slice (some ⟨g, 0, none⟩) st.length cap) st.length (st.map (·.2))
  j : J pre B N wr
  ls : ∀ e ∈ st, LQ wr C Z e.1 e.2
  wts : ∀ e ∈ st, ∀ y ∈ e.1, y.1.wt ≤ 2097152
  stays : Stays C W wr
  size : W.heap.size ≤ wr.heap.size
  cnt : st.length ≤ pre.length + 1
  zg : ∀ z, Z z → z < wr.heap.size ∧ z ≠ g ∧ ¬ B z
  bl : ∀ b, B b → b < wr.heap.size ∧ b ≠ g ∧ ¬ C b
  nz : ∀ z, N z → Z z
end Go.Proofs.YtfeijijeohfpgaaDoor
namespace Go.Proofs.YtfeijijeohfpgaaDoor
open Go Go.RowKit Go.Shelf
attribute [local go_sem] Oper.semAt_some

set_option maxRecDepth 100000 in
set_option maxHeartbeats 4000000 in
theorem nodesQ_it (l Bt Bp : Nat) (t : Tm) (b0 o0 : Nat) (C B0 : Nat → Prop) (W : World) (J Jx : List QI → (Nat → Prop) → (Nat → Prop) → World → Prop)
    (hBt : W.heap[Bt]? = some (.cells #[.pointer (some ⟨b0, o0, none⟩), .slice none 0 0] 111 (0, 0))) (hBp : W.heap[Bp]? = some (.cells #[.func (.func 98) #[] #[]] 112 (0, 0))) (hT : TermAt W C t b0 o0) (hn : t.wt ≤ 2097152)
    (hka : KA W) (hkc : C 1) (hC : ∀ b, C b → b < W.heap.size) (hCB : ∀ b, C b → ¬ B0 b) (hB0 : ∀ b, B0 b → b < W.heap.size) (hCp : C Bp)
    (hJ : ∀ pre B N A A', J pre B N A → Keep W.heap.size (fun z => B z ∨ N z) A A' → J pre B N A')
    (hY : ∀ pre x Y B N W1, J pre B N W1 → pre ++ [keyQ x] <+: walkQ t [] 1 → GoodQ C x Y W1 → (∀ z, Y z → ¬ B z) → YieldAt Fence.wide 0 Tryd.prog l (encQ x) W1 fun e W' =>
      ∃ B' N', Grew B B' W1.heap.size W'.heap.size ∧ (∀ z, N' z → N z ∨ Y z) ∧ ((e = .returned (.bool true) ∧ J (pre ++ [keyQ x]) B' N' W' ∧ Holds B W1 W') ∨ (e = .returned (.bool false) ∧ Jx (pre ++ [keyQ x]) B' N' W' ∧ Holds B W1 W')))
    (h0 : J [] B0 (fun _ => False) W) :
    CallsIn Fence.wide 1 Tryd.prog 110 #[.func (.yield l) #[] #[], .pointer (some ⟨Bt, 0, none⟩), .pointer (some ⟨Bp, 0, none⟩)] W fun e W' =>
      (∃ v, e = .returned v) ∧ ((∃ B' N', J (walkQ t [] 1) B' N' W') ∨ ∃ pre B' N', pre <+: walkQ t [] 1 ∧ Jx pre B' N' W') := by
  obtain ⟨i0, hi, hz0, hz1, hz2⟩ := info_parts infoLQ
  have HT := Lib.hid hT
  have HY := Lib.hid hY
  have HJ := Lib.hid hJ
  have HJ0 := Lib.hid h0
  have HB0 := Lib.hid hB0
  have HC := Lib.hid hC
  have HCB := Lib.hid hCB
  have HCP := Lib.hid hCp
  have HBP := Lib.hid hBp
  have HN := Lib.hid hn
  have HKA := Lib.hid hka
  have HKC := Lib.hid hkc
  have k0 := cell_of_blk hBt 0
  have k1 := cell_of_blk hBt 1
  have kp := cell_of_blk hBp 0
  simp only [List.getElem?_toArray, List.getElem?_cons_zero, List.getElem?_cons_succ] at k0 k1 kp
  have hlen1 : (walkQ t [] 1).length ≤ 2097153 := Nat.le_trans (walkQ_nodes t [] 1) (by have := t.nodes_wt; omega)
  have HLN := Lib.hid hlen1
  clear hT hY hJ h0 hB0 hC hCB hBt hBp hn hka hkc hlen1 hCp
  refine callsIn_of_wp Tryd.func110 rfl trivial ?_ rfl
  simp only [Tryd.ntmps110, List.size_toArray, List.length_cons, List.length_nil, Nat.reduceAdd, Nat.reduceSub, Array.replicate_succ, Array.replicate_zero, List.push_toArray, List.append_toArray, List.nil_append, List.cons_append]
  gi_wp2_with fail
  gi_loopg [4] (2 * (walkQ t [] 1).length + 1) (fun k v wr => ∃ (pre : List QI) (st : WaitQ) (g cap : Nat) (B N Z : Nat → Prop), v = .slice (some ⟨g, 0, none⟩) st.length cap ∧ k = 2 * (stWalkQ st).length + st.length ∧ pre ++ stWalkQ st = walkQ t [] 1 ∧ MidQ W wr C J B N Z pre st g cap)
  case atStart =>
    refine ⟨[], [([(t, [])], .slice (some ⟨W.heap.size, 0, none⟩) 1 1)], W.heap.size + 1, 1, B0, fun _ => False, fun z => z = W.heap.size, rfl, by simp [stWalkQ, rWQ, listQ], by simp [stWalkQ, rWQ, listQ], ?_⟩
    have hb : Below W.heap.size W ((W.alloc (.cells #[.pointer (some ⟨b0, o0, none⟩), .slice none 0 0] 111)).alloc (.cells #[.slice (some ⟨W.heap.size, 0, none⟩) 1 1] 131)) := ((Below.refl _ W).alloc (Nat.le_refl _) _).alloc (by simp) _
    have hroot : ((W.alloc (.cells #[.pointer (some ⟨b0, o0, none⟩), .slice none 0 0] 111)).alloc (.cells #[.slice (some ⟨W.heap.size, 0, none⟩) 1 1] 131)).heap[W.heap.size]? = some (.cells #[.pointer (some ⟨b0, o0, none⟩), .slice none 0 0] 111 (0, 0)) := by
      rw [Below.heap_alloc _ _ _ (by simp)]
      exact blk_new _ _
    refine ⟨?_, HJ.out _ _ _ _ _ HJ0.out (.of_below (Nat.le_refl _) hb), fun e he => ?_, fun e he y hy => ?_, .of_below hb, hb.size, by simp, fun z hz => ?_, fun b hb' => ?_, fun z hz => hz.elim⟩
    · have h1 := World.ownsRow_lit (base := W.heap.size + 1) (e := 131) (size := 1) (W.alloc (.cells #[.pointer (some ⟨b0, o0, none⟩), .slice none 0 0] 111)) #[.slice (some ⟨W.heap.size, 0, none⟩) 1 1] 1 (by simp) (by unfold maxLen; omega) rfl
      rw [show (W.alloc (.cells #[.pointer (some ⟨b0, o0, none⟩), .slice none 0 0] 111)).heap.size = W.heap.size + 1 by simp] at h1
      exact h1
    · simp only [List.mem_singleton] at he
      subst he
      refine ⟨_, 1, rfl, by simp, by unfold maxLen; omega, fun j hj => ?_⟩
      have hj0 : j = 0 := by simp at hj; exact hj
      subst hj0
      exact ⟨W.heap.size, 0, b0, o0, .slice none 0 0, rfl, rfl, (Array.getElem?_eq_some_iff.1 hroot).1, cell_of_blk hroot 0, cell_of_blk hroot 1, HT.out.stays (.of_below hb), Or.inl ⟨rfl, rfl⟩⟩
    · simp only [List.mem_singleton] at he
      subst he
      simp only [List.mem_singleton] at hy
      subst hy
      exact HN.out
    · subst hz
      exact ⟨(Array.getElem?_eq_some_iff.1 hroot).1, by omega, fun h => by have := HB0.out _ h; omega⟩
    · have := HB0.out b hb'
      exact ⟨Nat.lt_of_lt_of_le this hb.size, by omega, fun h => HCB.out b h hb'⟩
  case round =>
    rename World => wo
    obtain ⟨pre, st, g, cap, B, N, Z, rfl, rfl, hord, hM⟩ := hrel
    rcases snoc_cases st with rfl | ⟨st0, ⟨ls, sl⟩, rfl⟩
    · have HM := Lib.hid hM
      have HO := Lib.hid hord
      clear hM hord
      gi_wp2
      go_end0
      have hp : pre = walkQ t [] 1 := by have := HO.out; simpa [stWalkQ, rWQ] using this
      exact ⟨⟨_, rfl⟩, .inl ⟨B, N, hp ▸ HM.out.j⟩⟩
    · have hlen : (st0 ++ [((ls, sl) : List PQ × Value)]).length = st0.length + 1 := by simp
      have hown := hM.own
      rw [hlen] at hown
      rw [hlen]
      obtain ⟨hcap1, hcap2, hg1, hg2⟩ := row_cap hown
      have k0 := (hown.cellAt st0.length (by omega)).trans (wsndQ_last st0 _)
      have kz := hown.frozenAt st0.length
      simp only at k0
      unfold maxLen at hcap2
      have i0' : (0 : Int) ≤ (st0.length : Int) := Int.natCast_nonneg _
      have i1' : (st0.length : Int) < ((st0.length : Int) + 1) := by omega
      have hcnt : st0.length ≤ 2097154 := by
        have h1 := hM.cnt
        have h2 := congrArg List.length hord
        have h3 := HLN.out
        rw [List.length_append] at h2
        rw [hlen] at h1
        omega
      cases ls with
      | nil =>
        have HM := Lib.hid hM
        have HO := Lib.hid hord
        have HOWN := Lib.hid hown
        obtain ⟨a, c0, hsl⟩ : ∃ a c, sl = .slice a 0 c := (hM.ls ([], sl) (by simp)).form
        subst hsl
        clear hM hord hown
        gi_wp2_with fail
        go_roundg (2 * (stWalkQ st0).length + st0.length)
        case rel =>
          have h1 := row_take HOWN.out (Nat.le_succ st0.length)
          rw [wsndQ_take] at h1
          refine ⟨pre, st0, g, cap, B, N, Z, rfl, rfl, by have := HO.out; rwa [stWalkQ_snoc] at this, h1, HM.out.j, fun e he => HM.out.ls e (List.mem_append_left _ he), fun e he => HM.out.wts e (List.mem_append_left _ he), HM.out.stays, HM.out.size, ?_, HM.out.zg, HM.out.bl, HM.out.nz⟩
          have := HM.out.cnt
          rw [List.length_append] at this
          omega
        case measure =>
          rw [stWalkQ_snoc, List.length_append, List.length_append]
          simp only [listQ, List.length_nil, List.length_singleton]
          omega
      | cons x ls =>
        obtain ⟨b, o, c0, b1, o1, sv, rfl, hlc, hc63, hZb, hbw, f0, f1, htm, hnm, htail⟩ := (hM.ls (x :: ls, sl) (by simp)).open
        have hbg : b ≠ g := (hM.zg b hZb).2.1
        obtain ⟨q, hq⟩ : ∃ q, (if c0 = 1 then some (⟨b, o, none⟩ : Addr) else some ⟨b, o + 2, none⟩) = q := ⟨_, rfl⟩
        have htl : LQ wo C Z ls (.slice q ls.length (c0 - 1)) := htail q (fun hne => by
          have h1 : 1 ≤ ls.length := by cases ls with | nil => exact absurd rfl hne | cons => simp
          rw [← hq, if_neg (by omega)])
        obtain ⟨hst, hgr⟩ := hown.stored st0.length (.slice q ls.length (c0 - 1))
        rw [wsndQ_set st0 _ ls] at hst
        have hb1 : Below (W.heap.size + 1) wo (wo.setCell ⟨g, st0.length, none⟩ (.slice q ls.length (c0 - 1))) := (Below.refl _ wo).setCell (p := ⟨g, st0.length, none⟩) hg1 _
        have hoth : ∀ z, z ≠ g → (wo.setCell ⟨g, st0.length, none⟩ (.slice q ls.length (c0 - 1))).heap[z]? = wo.heap[z]? := fun z hz => Below.heap_setCell _ _ _ _ hz
        have hsC : Stays C wo (wo.setCell ⟨g, st0.length, none⟩ (.slice q ls.length (c0 - 1))) := ⟨hb1.size, fun z hz _ => hoth z (by have := HC.out z hz; omega)⟩
        have hsZ : Stays Z wo (wo.setCell ⟨g, st0.length, none⟩ (.slice q ls.length (c0 - 1))) := ⟨hb1.size, fun z hz _ => hoth z (hM.zg z hz).2.1⟩
        have hpre : pre ++ [(x.1, x.2, st0.length + 1)] <+: walkQ t [] 1 := ⟨listQ (partsQ x.1) (st0.length + 1 + 1) ++ (listQ ls (st0.length + 1) ++ stWalkQ st0), by rw [← hord, stWalkQ_snoc]; simp only [listQ, walkQ_eq, List.cons_append, List.append_assoc, List.nil_append]⟩
        obtain ⟨hnmo, hnmz⟩ := (hnm.stays hsZ).own
        obtain ⟨fn, tmps, assign, body, hy, hR⟩ := HY.out pre ((x.1, x.2, st0.length + 1), (b1, o1, sv)) (fun z => sv.ownBlock = some z) B N _ (HJ.out _ _ _ _ _ hM.j ⟨hb1.mono (by omega), fun z hz _ => hoth z (by
          rcases hz with hz | hz
          · exact (hM.bl z hz).2.1
          · exact (hM.zg z (hM.nz z hz)).2.1)⟩) hpre ⟨htm.stays hsC, hnmo, fun z hz => hz⟩ (fun z hz => (hM.zg z (hnmz z hz)).2.2)
        simp only [encQ] at hy
        rw [show ((st0.length + 1 : Nat) : Int) = (st0.length : Int) + 1 from rfl] at hy
        have HM := Lib.hid hM
        have HO := Lib.hid hord
        have HST := Lib.hid hst
        have HB1 := Lib.hid hb1
        have HSC := Lib.hid hsC
        have HSZ := Lib.hid hsZ
        have HPRE := Lib.hid hpre
        have HR := Lib.hid hR
        have HTL := Lib.hid htl
        have HTM := Lib.hid htm
        have HNZ := Lib.hid hnmz
        have HF := Lib.hid (And.intro f0 f1)
        have HZB := Lib.hid hZb
        have HQ := Lib.hid hlc
        have HOT := Lib.hid hoth
        have hl1 : (1 : Int) ≤ ((ls.length : Int) + 1) := by omega
        unfold maxLen at hc63
        clear hM hord hown hst hgr hb1 hsC hsZ hpre hR htl htail htm hnm hnmo hnmz hZb hoth
        gi_wp2_with fail
        refine HR.out.mono ?_
        rintro e W3 ⟨B', N', hgrew, hN', ⟨rfl, hJ3, hH3⟩ | ⟨rfl, hJx3, -⟩⟩
        · have hs1 : (wo.setCell ⟨g, st0.length, none⟩ (.slice q ls.length (c0 - 1))).heap.size = wo.heap.size := by simp [World.setCell]
          rw [hs1] at hgrew
          have hs3 : wo.heap.size ≤ W3.heap.size := hs1 ▸ hH3.1
          have hgB : ¬ B g := fun h => (HM.out.bl g h).2.1 rfl
          have hkz : ∀ z, ¬ B z → z ≠ g → z < wo.heap.size → W3.heap[z]? = wo.heap[z]? := fun z h1 h2 h3 => (hH3.2 z (by rw [hs1]; exact h3) h1).trans (HOT.out z h2)
          have hC3 : Stays C wo W3 := ⟨hs3, fun z hz hl => hkz z (fun h => (HM.out.bl z h).2.2 hz) (by have := HC.out z hz; omega) hl⟩
          have hZ3 : Stays Z wo W3 := ⟨hs3, fun z hz hl => hkz z (HM.out.zg z hz).2.2 (HM.out.zg z hz).2.1 hl⟩
          have hCW : Stays C W W3 := HM.out.stays.trans hC3
          have hb3 : W3.heap[b]? = wo.heap[b]? := hkz b (HM.out.zg b HZB.out).2.2 hbg hbw
          have hown3 := row_of_block HST.out (hH3.2 g (by rw [hs1]; exact hg2) hgB)
          have hlen3 : (st0 ++ [(ls, Value.slice q ls.length (c0 - 1))]).length = st0.length + 1 := by simp
          have hM3 : MidQ W W3 C J B' N' Z (pre ++ [(x.1, x.2, st0.length + 1)]) (st0 ++ [(ls, .slice q ls.length (c0 - 1))]) g cap := by
            refine ⟨?_, hJ3, fun e he => ?_, fun e he y hy => ?_, hCW, Nat.le_trans HM.out.size hs3, ?_, fun z hz => ?_, fun z hz => ?_, fun z hz => ?_⟩
            · rw [hlen3]; exact hown3
            · rcases List.mem_append.1 he with he | he
              · exact (HM.out.ls e (List.mem_append_left _ he)).stays hC3 hZ3
              · simp only [List.mem_singleton] at he
                subst he
                exact HTL.out.stays hC3 hZ3
            · rcases List.mem_append.1 he with he | he
              · exact HM.out.wts e (List.mem_append_left _ he) y hy
              · simp only [List.mem_singleton] at he
                subst he
                exact HM.out.wts (x :: ls, _) (List.mem_append_right _ (List.mem_singleton.2 rfl)) y (List.mem_cons_of_mem _ hy)
            · have := HM.out.cnt
              rw [hlen] at this
              rw [hlen3, List.length_append, List.length_singleton]
              omega
            · obtain ⟨h1, h2, h3⟩ := HM.out.zg z hz
              exact ⟨Nat.lt_of_lt_of_le h1 hs3, h2, fun h => ((hgrew z h).1).elim h3 (fun h => by omega)⟩
            · obtain ⟨h1, h2⟩ := hgrew z hz
              rcases h1 with h1 | h1
              · exact ⟨h2, (HM.out.bl z h1).2⟩
              · exact ⟨h2, by omega, fun h => by have := HC.out z h; have := HM.out.size; omega⟩
            · rcases hN' z hz with h1 | h1
              · exact HM.out.nz z h1
              · exact HNZ.out z h1
          obtain ⟨f0, f1⟩ := HF.out
          have g0 := (World.cell?_of_block (a := ⟨b, o, none⟩) hb3).trans f0
          have g1 := (World.cell?_of_block (a := ⟨b, o + 1, none⟩) hb3).trans f1
          have kp3 := cell_of_blk ((hCW.2 Bp HCP.out (HC.out Bp HCP.out)).trans HBP.out) 0
          simp only [List.getElem?_toArray, List.getElem?_cons_zero] at kp3
          have HK3 := Lib.hid (HKA.out.stays hCW HKC.out)
          have HT3 := Lib.hid (HTM.out.stays hC3)
          have HXW := Lib.hid (HM.out.wts (x :: ls, _) (List.mem_append_right _ (List.mem_singleton.2 rfl)) x (by simp))
          have HM3 := Lib.hid hM3
          have HOWN3 := Lib.hid hown3
          have hsz3 : W.heap.size + 1 ≤ W3.heap.size := by omega
          have HCN := Lib.hid HM.out.cnt
          clear hJ3 hH3 hown3 hM3 hy HR k0 kz hb3 hkz hC3 hZ3 hCW f0 f1 HB1 HST HSC HSZ hgrew hN' hs1
          gi_wp2_with fail
          refine wpIn_wide.2 ?_
          go_region_law (first
            | (refine step_app1 (w0 := w1) (base := W.heap.size + 1) (v := .slice (some ⟨g, 0, none⟩) (st0.length + 1) cap) (n := st0.length + 1) (xs := (st0 ++ [(ls, Value.slice q ls.length (c0 - 1))]).map (·.2)) (cs := [.slice vq (partsQ x.1).length vc]) rfl (.tmp 40) (.tmp 46) rfl Tryd.underlying132 hi hz0 hz1 hz2 rfl (by decide) rfl (row_below HOWN3.out ((Below.refl W3.heap.size W3).drew.trans hb1)) _ rfl (by simp) rfl (fun u hu => by simp at hu; subst hu; rfl) (by unfold maxLen; omega) (by omega) (by have := hb1.size; simp at this; omega) ?_; intro w' g2 cap2 hA)
            | (go_simp; go_at_call 98; refine (partsI_any (C := C) (HT3.out.stays (.of_below ((Below.refl W3.heap.size W3).drew))) (HK3.out.below ((Below.refl W3.heap.size W3).drew)) HXW.out).mono ?_; rintro e w1 ⟨v, rfl, hlq, hb1⟩; obtain ⟨vq, vc, rfl⟩ := hlq.form))
          all_goals
            have HA := Lib.hid hA
            have HB := Lib.hid hb1
            have HL := Lib.hid hlq
            clear hA hb1 hlq
            gi_wp2_with fail
            go_roundg (2 * (stWalkQ ((st0 ++ [(ls, Value.slice q ls.length (c0 - 1))]) ++ [(partsQ x.1, .slice vq (partsQ x.1).length vc)])).length + (st0.length + 2))
            case rel =>
              have hb3 : Below W3.heap.size W3 w1 := (Below.refl W3.heap.size W3).drew.trans HB.out
              have hlen3 : (st0 ++ [(ls, Value.slice q ls.length (c0 - 1))]).length = st0.length + 1 := by simp
              have hg3 := (row_cap HOWN3.out).2.2
              have hs3 := hb3.size
              have hs4 := HA.out.size
              have hbw : Below (W.heap.size + 1) W3 w' := (hb3.mono (by omega)).trans HA.out.below
              have hown1 : ∀ z, z ≠ g → (Value.slice (some ⟨g, 0, none⟩) (st0.length + 1) cap).ownBlock ≠ some z := fun z hz e => hz (by simp only [Value.ownBlock, Option.some.injEq] at e; exact e.symm)
              have hk1 : ∀ z, z ≠ g → z < w1.heap.size → w'.heap[z]? = w1.heap[z]? ∧ g2 ≠ z := fun z hz hl => HA.out.kept z hl (hown1 z hz)
              have hk : ∀ z, z ≠ g → z < W3.heap.size → w'.heap[z]? = W3.heap[z]? := fun z hz hl => (hk1 z hz (Nat.lt_of_lt_of_le hl hs3)).1.trans (hb3.block z hl)
              have hCg : ∀ z, C z → z ≠ g := fun z hz => by have := HC.out z hz; omega
              have hCw : Stays C W3 w' := ⟨Nat.le_trans hs3 hs4, fun z hz hl => hk z (hCg z hz) hl⟩
              have hZw : Stays Z W3 w' := ⟨Nat.le_trans hs3 hs4, fun z hz hl => hk z (HM3.out.zg z hz).2.1 hl⟩
              have hC1 : Stays C w1 w' := ⟨hs4, fun z hz hl => (hk1 z (hCg z hz) hl).1⟩
              refine ⟨pre ++ [(x.1, x.2, st0.length + 1)], (st0 ++ [(ls, .slice q ls.length (c0 - 1))]) ++ [(partsQ x.1, .slice vq (partsQ x.1).length vc)], g2, cap2, B', N', fun z => Z z ∨ (W3.heap.size ≤ z ∧ z < w1.heap.size), by rw [List.length_append, hlen3]; rfl, by rw [List.length_append, hlen3]; rfl, ?_, ?_⟩
              · rw [stWalkQ_snoc, hlen3, stWalkQ_snoc, ← HO.out, stWalkQ_snoc]
                simp only [listQ, walkQ_eq, List.cons_append, List.append_assoc, List.nil_append]
              · refine ⟨?_, HJ.out _ _ _ _ _ HM3.out.j ⟨hbw.mono (by omega), fun z hz hl => hk z ?_ hl⟩, fun e he => ?_, fun e he y hy => ?_, HM3.out.stays.trans hCw, by have := HM3.out.size; omega, ?_, fun z hz => ?_, fun z hz => ?_, fun z hz => Or.inl (HM3.out.nz z hz)⟩
                · rw [List.map_append, List.length_append, hlen3]
                  exact HA.out.own
                · rcases hz with hz | hz
                  · exact (HM3.out.bl z hz).2.1
                  · exact (HM3.out.zg z (HM3.out.nz z hz)).2.1
                · rcases List.mem_append.1 he with he | he
                  · exact ((HM3.out.ls e he).stays hCw hZw).mono (fun z hz _ => Or.inl hz)
                  · simp only [List.mem_singleton] at he
                    subst he
                    exact (HL.out.stays hC1 ⟨hs4, fun z hz hl => (hk1 z (by have := hz.1; simp at this; omega) hl).1⟩).mono (fun z hz _ => Or.inr (by simpa using hz))
                · rcases List.mem_append.1 he with he | he
                  · exact HM3.out.wts e he y hy
                  · simp only [List.mem_singleton] at he
                    subst he
                    exact Nat.le_trans (partsQ_wt x.1 hy) HXW.out
                · have := HCN.out
                  rw [hlen] at this
                  simp only [List.length_append, List.length_cons, List.length_nil]
                  omega
                · rcases hz with hz | hz
                  · obtain ⟨h1, h2, h3⟩ := HM3.out.zg z hz
                    exact ⟨by omega, fun e => (hk1 z h2 (by omega)).2 e.symm, h3⟩
                  · exact ⟨by omega, fun e => (hk1 z (by omega) hz.2).2 e.symm, fun h => by have := (HM3.out.bl z h).1; omega⟩
                · obtain ⟨h1, h2, h3⟩ := HM3.out.bl z hz
                  exact ⟨by omega, fun e => (hk1 z h2 (by omega)).2 e.symm, h3⟩
            case measure =>
              have h1 := HO.out
              simp only [stWalkQ_snoc, listQ, walkQ_eq, List.length_append, List.length_cons, List.length_nil, Nat.zero_add]
              omega
        · gi_wp2_with fail
          refine bodyPost_ret (results_none rfl _ _ _) rfl ?_
          exact ⟨⟨_, rfl⟩, .inr ⟨pre ++ [(x.1, x.2, st0.length + 1)], B', N', HPRE.out, hJx3⟩⟩
end Go.Proofs.YtfeijijeohfpgaaDoor
