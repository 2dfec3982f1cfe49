/-
  Several texts of the proof in one (each says below what it holds): Index UniteSpec Without FreeP RsP TmAny LvS FreeS RsS TmRow Erase.
-/
import Derived.Test.YtfeijijeohfpgaaDoorCq2
import Derived.Test.YtfeijijeohfpgaaDoorCq4
import Derived.Test.YtfeijijeohfpgaaDoorCq1
import Derived.Test.YtfeijijeohfpgaaDoorCq3
import Derived.Test.YtfeijijeohfpgaaDoorProg
import Derived.WalkSmall
set_option linter.unusedVariables false
set_option linter.unusedSimpArgs false
namespace Go.Proofs.YtfeijijeohfpgaaDoor
open Go Go.RowKit
def ixFrom (s : ByteArray) : List ByteArray → Int → Int
  | [], _ => -1
  | x :: r, k => if x = s then k else ixFrom s r (k + 1)
def ixOf (xs : List ByteArray) (s : ByteArray) : Int := ixFrom s xs 0

theorem ix_here {xs : List ByteArray} {s : ByteArray} {k : Nat} {K : Int} (hk : k < xs.length) (h : xs[k] = s) : ixFrom s (xs.drop k) K = K := by
  rw [List.drop_eq_getElem_cons hk, ixFrom, if_pos h]
theorem ix_next {xs : List ByteArray} {s : ByteArray} {k : Nat} {K : Int} (hk : k < xs.length) (h : ¬ xs[k] = s) : ixFrom s (xs.drop k) K = ixFrom s (xs.drop (k + 1)) (K + 1) := by
  rw [List.drop_eq_getElem_cons hk, ixFrom, if_neg h]
theorem ix_end {xs : List ByteArray} {s : ByteArray} {K : Int} : ixFrom s (xs.drop xs.length) K = -1 := by
  rw [List.drop_of_length_le (Nat.le_refl _), ixFrom]
theorem ix_neg {s : ByteArray} : ∀ {xs : List ByteArray} {K : Int}, 0 ≤ K → (ixFrom s xs K < 0 ↔ s ∉ xs)
  | [], K, _ => by simp [ixFrom]
  | x :: r, K, h => by
    have := ix_neg (s := s) (xs := r) (K := K + 1) (by omega)
    rw [ixFrom]
    by_cases hx : x = s
    · rw [if_pos hx]
      simp [hx]
      omega
    · rw [if_neg hx, this]
      simp [show s ≠ x from fun h => hx h.symm]
theorem ixOf_neg {s : ByteArray} {xs : List ByteArray} : ixOf xs s < 0 ↔ s ∉ xs := ix_neg (by decide)
def AnsI (n : Int) (w : World) (e : Ending) (w' : World) : Prop := e = .returned (.int .i64 n) ∧ w' = w

set_option maxRecDepth 100000 in
set_option maxHeartbeats 400000 in
theorem ixS_some (xs : List ByteArray) (s : ByteArray) (b o c : Nat) (w : World) (h1 : 1 ≤ xs.length) (hn : xs.length ≤ 9223372036854775807)
    (hcell : ∀ j x, xs[j]? = some x → w.cell? ⟨b, o + j, none⟩ = some (.string x)) :
    Calls Tryd.prog 109 #[.slice (some ⟨b, o, none⟩) xs.length c, .string s] w (AnsI (ixOf xs s) w) := by
  have HC := Lib.hid hcell
  clear hcell
  go_enter Tryd.func109, Tryd.ntmps109
  go_wp2_with fail
  go_loop [5] (fun i => ∃ k : Nat, k ≤ xs.length ∧ i = .int .i64 k ∧ Hid (ixFrom s (xs.drop k) k = ixOf xs s)) (fun i => xs.length - (intOf i).toNat)
  case atStart => exact ⟨0, Nat.zero_le _, rfl, Lib.hid rfl⟩
  case round =>
    obtain ⟨k, hk, rfl, HE⟩ := hrel
    by_cases hlk : k < xs.length
    · have c1 := HC.out k _ (List.getElem?_eq_getElem hlk)
      by_cases hx : xs[k] = s
      · have HX := Lib.hid (ix_here (K := k) hlk hx)
        have t := str_yes hx
        clear hx
        go_wp2_with fail
        go_ret
        exact ⟨by rw [← HE.out, HX.out]; rfl, rfl⟩
      · have HX := Lib.hid (ix_next (K := k) hlk hx)
        have t := str_no hx
        clear hx
        go_wp2_with fail
        go_round
        case rel => exact ⟨k + 1, by omega, by go_num, Lib.hid (by rw [← HE.out, HX.out]; rfl)⟩
        case measure => simp [intOf]; omega
    · obtain rfl : k = xs.length := by omega
      go_wp2_with fail
      go_ret
      exact ⟨by rw [← HE.out, ix_end]; rfl, rfl⟩

set_option maxRecDepth 100000 in
theorem ixS_none (a : Option Addr) (s : ByteArray) (c : Nat) (w : World) :
    Calls Tryd.prog 109 #[.slice a 0 c, .string s] w (AnsI (-1) w) := by
  go_enter Tryd.func109, Tryd.ntmps109
  go_wp2_with fail
  go_loop [5] (fun i => i = .int .i64 0) (fun _ => 0)
  case atStart => rfl
  case round =>
    obtain rfl := hrel
    go_wp2_with fail
    go_ret
    exact ⟨rfl, rfl⟩

theorem ixS_any (xs : List ByteArray) (v : Value) (s : ByteArray) (w : World) (hn : xs.length ≤ 9223372036854775807) (h : SS w v xs) :
    Calls Tryd.prog 109 #[v, .string s] w (AnsI (ixOf xs s) w) := by
  rcases h with ⟨rfl, a, c, rfl⟩ | ⟨h1, b, o, c, rfl, _, _, hcell⟩
  · exact ixS_none a s c w
  · exact ixS_some xs s b o c w h1 hn hcell

end Go.Proofs.YtfeijijeohfpgaaDoor
namespace Go.Proofs.YtfeijijeohfpgaaDoor
open Go Go.RowKit

def hasN (x : ByteArray) (acc : List ByteArray) : Bool := acc.any fun y => decide (y = x)
theorem hasN_in {acc : List ByteArray} {x : ByteArray} (h : x ∈ acc) : hasN x acc = true := by
  unfold hasN
  rw [List.any_eq_true]
  exact ⟨x, h, by simp⟩
theorem hasN_out {acc : List ByteArray} {x : ByteArray} (h : x ∉ acc) : hasN x acc = false := by
  unfold hasN
  rw [List.any_eq_false]
  intro y hy hc
  exact h (by rw [← of_decide_eq_true hc]; exact hy)
def addS (acc : List ByteArray) (x : ByteArray) : List ByteArray := if hasN x acc then acc else acc ++ [x]
def add (acc ys : List ByteArray) : List ByteArray := ys.foldl addS acc
def un (a b : List ByteArray) : List ByteArray := add (add [] a) b
theorem addS_in {acc : List ByteArray} {x : ByteArray} (h : x ∈ acc) : addS acc x = acc := by unfold addS; rw [if_pos (hasN_in h)]
theorem addS_out {acc : List ByteArray} {x : ByteArray} (h : x ∉ acc) : addS acc x = acc ++ [x] := by
  unfold addS
  rw [hasN_out h, if_neg (by decide)]
theorem add_nil (acc : List ByteArray) (ys : List ByteArray) : add acc (ys.take 0) = acc := rfl
theorem add_step (acc : List ByteArray) {ys : List ByteArray} {k : Nat} (hk : k < ys.length) : add acc (ys.take (k + 1)) = addS (add acc (ys.take k)) ys[k] := by
  rw [List.take_add_one, List.getElem?_eq_getElem hk]
  show add acc (ys.take k ++ [ys[k]]) = _
  unfold add
  rw [List.foldl_append]; rfl
theorem add_length : ∀ (ys acc : List ByteArray), (add acc ys).length ≤ acc.length + ys.length
  | [], acc => by simp [add]
  | y :: ys, acc => by
    have h := add_length ys (addS acc y)
    have h1 : (addS acc y).length ≤ acc.length + 1 := by
      unfold addS
      split
      · omega
      · simp
    have h2 : add acc (y :: ys) = add (addS acc y) ys := rfl
    rw [h2]
    simp only [List.length_cons]
    omega
theorem add_take_length (acc ys : List ByteArray) (k : Nat) : (add acc (ys.take k)).length ≤ acc.length + ys.length := by
  have h := add_length (ys.take k) acc
  have h1 := List.length_take_le' k ys
  omega
def At (w : World) (p : Option Addr) (xs : List ByteArray) : Prop := ∀ j x, xs[j]? = some x → ∃ b o, p = some ⟨b, o, none⟩ ∧ b < w.heap.size ∧ w.cell? ⟨b, o + j, none⟩ = some (.string x)
theorem SS.at {w : World} {v : Value} {xs : List ByteArray} (h : SS w v xs) : ∃ p c, v = .slice p xs.length c ∧ At w p xs := by
  rcases h with ⟨rfl, a, c, rfl⟩ | ⟨h1, b, o, c, rfl, _, hlt, hcell⟩
  · exact ⟨a, c, rfl, fun j x hj => by simp at hj⟩
  · exact ⟨_, c, rfl, fun j x hj => ⟨b, o, rfl, hlt, hcell j x hj⟩⟩

theorem ix_in {xs : List ByteArray} {s : ByteArray} (h : s ∈ xs) : decide (ixOf xs s < 0) = false := decide_eq_false (fun hc => ixOf_neg.1 hc h)
theorem ix_out {xs : List ByteArray} {s : ByteArray} (h : s ∉ xs) : decide (ixOf xs s < 0) = true := decide_eq_true (ixOf_neg.2 h)
def NewS' (ys : List ByteArray) (w : World) (e : Ending) (w' : World) : Prop := ∃ v, e = .returned v ∧ Own w' w.heap.size v ys ∧ Below w.heap.size w w'

set_option maxRecDepth 100000 in
set_option maxHeartbeats 1000000 in
theorem unS_at (a b : List ByteArray) (p q : Option Addr) (c d : Nat) (w : World) (ha : a.length ≤ 1048576) (hb : b.length ≤ 1048576) (hA : At w p a) (hB : At w q b) :
    Calls Tryd.prog 94 #[.slice p a.length c, .slice q b.length d] w (NewS' (un a b) w) := by
  have HA := Lib.hid hA
  have HQ := Lib.hid hB
  clear hA hB
  go_enter Tryd.func94, Tryd.ntmps94
  go_wp2_with fail
  go_loopw [5, 6] (fun v i wr => ∃ k : Nat, k ≤ a.length ∧ i = .int .i64 k ∧ Own wr w.heap.size v (add [] (a.take k)) ∧ Below w.heap.size w wr) (fun _ i _ => a.length - (intOf i).toNat)
  case atStart => exact ⟨0, Nat.zero_le _, rfl, own_empty w, (Below.refl _ _).alloc (Nat.le_refl _) _⟩
  case round =>
    obtain ⟨k, hk, rfl, hown, hbr⟩ := hrel
    have hsz := hbr.size
    have HO := Lib.hid hown
    have HB := Lib.hid hbr
    clear hown hbr
    by_cases hlk : k < a.length
    · obtain ⟨b0, o0, rfl, hb0, c0⟩ := HA.out k _ (List.getElem?_eq_getElem hlk)
      have c1 : ∀ wx, Below wr.heap.size wr wx → wx.cell? ⟨b0, o0 + k, none⟩ = some (.string a[k]) := fun wx hx => (hx.cell (p := ⟨b0, o0 + k, none⟩) (Nat.lt_of_lt_of_le hb0 hsz)).trans ((HB.out.cell (p := ⟨b0, o0 + k, none⟩) hb0).trans c0)
      have c2 := c1 wr (Below.refl _ _)
      clear c0 c1
      have hL := add_take_length [] a k
      simp only [List.length_nil, Nat.zero_add] at hL
      have HST := Lib.hid (add_step [] hlk)
      go_wp2_with fail
      refine (ixS_any _ _ a[k] wr (by omega) HO.out.ss).mono ?_
      rintro e w1 ⟨rfl, rfl⟩
      by_cases hin : a[k] ∈ add [] (a.take k)
      · have t := ix_in hin
        have HX := Lib.hid (addS_in hin)
        clear hin
        go_wp2_with fail
        go_roundw
        case rel => exact ⟨k + 1, by omega, by go_num, by rw [HST.out, HX.out]; exact HO.out, HB.out⟩
        case measure => simp [intOf]; omega
      · have t := ix_out hin
        have HX := Lib.hid (addS_out hin)
        clear hin
        go_wp2_with (at_builtin; refine wpList_app_str rfl _ _ rfl w.heap.size _ _ rfl HO.out a[k] rfl (by omega) hsz ?_; intro v' w2 hown2 hb2)
        have HR : Hid (Own w2 w.heap.size v' (add [] (a.take (k + 1)))) := Lib.hid (by rw [HST.out, HX.out]; exact hown2)
        have HB2 := Lib.hid (HB.out.trans hb2)
        clear hown2 hb2
        go_roundw
        case rel => exact ⟨k + 1, by omega, by go_num, HR.out, HB2.out⟩
        case measure => simp [intOf]; omega
    · obtain rfl : k = a.length := by omega
      have HO1 : Hid (Own wr w.heap.size u5 (add [] a)) := Lib.hid (by have := HO.out; rw [List.take_length] at this; exact this)
      clear HO
      go_wp2_with fail
      go_loopw [5, 7] (fun v i wr => ∃ k : Nat, k ≤ b.length ∧ i = .int .i64 k ∧ Own wr w.heap.size v (add (add [] a) (b.take k)) ∧ Below w.heap.size w wr) (fun _ i _ => b.length - (intOf i).toNat)
      case atStart => exact ⟨0, Nat.zero_le _, rfl, HO1.out, HB.out⟩
      case round =>
        clear HO1 HB hsz
        obtain ⟨k, hk, rfl, hown, hbr⟩ := hrel
        have hsz := hbr.size
        have HO := Lib.hid hown
        have HB := Lib.hid hbr
        clear hown hbr
        by_cases hlk : k < b.length
        · obtain ⟨b0, o0, rfl, hb0, c0⟩ := HQ.out k _ (List.getElem?_eq_getElem hlk)
          have c2 := (HB.out.cell (p := ⟨b0, o0 + k, none⟩) hb0).trans c0
          clear c0
          have hL := add_take_length (add [] a) b k
          have hL0 := add_length a []
          simp only [List.length_nil, Nat.zero_add] at hL0
          have HST := Lib.hid (add_step (add [] a) hlk)
          go_wp2_with fail
          refine (ixS_any _ _ b[k] wr (by omega) HO.out.ss).mono ?_
          rintro e w1 ⟨rfl, rfl⟩
          by_cases hin : b[k] ∈ add (add [] a) (b.take k)
          · have t := ix_in hin
            have HX := Lib.hid (addS_in hin)
            clear hin
            go_wp2_with fail
            go_roundw
            case rel => exact ⟨k + 1, by omega, by go_num, by rw [HST.out, HX.out]; exact HO.out, HB.out⟩
            case measure => simp [intOf]; omega
          · have t := ix_out hin
            have HX := Lib.hid (addS_out hin)
            clear hin
            go_wp2_with (at_builtin; refine wpList_app_str rfl _ _ rfl w.heap.size _ _ rfl HO.out b[k] rfl (by omega) hsz ?_; intro v' w2 hown2 hb2)
            have HR : Hid (Own w2 w.heap.size v' (add (add [] a) (b.take (k + 1)))) := Lib.hid (by rw [HST.out, HX.out]; exact hown2)
            have HB2 := Lib.hid (HB.out.trans hb2)
            clear hown2 hb2
            go_roundw
            case rel => exact ⟨k + 1, by omega, by go_num, HR.out, HB2.out⟩
            case measure => simp [intOf]; omega
        · obtain rfl : k = b.length := by omega
          have HO1 : Hid (Own wr w.heap.size u5 (un a b)) := Lib.hid (by have := HO.out; rw [List.take_length] at this; exact this)
          clear HO
          go_wp2_with fail
          go_ret
          exact ⟨_, rfl, HO1.out, HB.out⟩

theorem unS_any (a b : List ByteArray) (u v : Value) (w : World) (ha : a.length ≤ 1048576) (hb : b.length ≤ 1048576) (hA : SS w u a) (hB : SS w v b) :
    Calls Tryd.prog 94 #[u, v] w (NewS' (un a b) w) := by
  obtain ⟨p, c, rfl, hp⟩ := hA.at
  obtain ⟨q, d, rfl, hq⟩ := hB.at
  exact unS_at a b p q c d w ha hb hp hq
end Go.Proofs.YtfeijijeohfpgaaDoor
namespace Go.Proofs.YtfeijijeohfpgaaDoor
open Go Go.RowKit
def wo (s : ByteArray) (xs : List ByteArray) : List ByteArray := xs.filter fun x => decide (x ≠ s)
theorem wo_zero (s : ByteArray) (xs : List ByteArray) : wo s (xs.take 0) = [] := by simp [wo]
theorem wo_same {s : ByteArray} {xs : List ByteArray} {k : Nat} (hk : k < xs.length) (h : xs[k] = s) : wo s (xs.take (k + 1)) = wo s (xs.take k) := by
  rw [List.take_add_one, List.getElem?_eq_getElem hk]
  simp [wo, h]
theorem wo_other {s : ByteArray} {xs : List ByteArray} {k : Nat} (hk : k < xs.length) (h : ¬ xs[k] = s) : wo s (xs.take (k + 1)) = wo s (xs.take k) ++ [xs[k]] := by
  rw [List.take_add_one, List.getElem?_eq_getElem hk]
  show wo s (xs.take k ++ [xs[k]]) = _
  unfold wo
  rw [List.filter_append, List.filter_cons_of_pos (by simpa using h), List.filter_nil]
theorem wo_length (s : ByteArray) (xs : List ByteArray) : (wo s xs).length ≤ xs.length := List.length_filter_le _ _
theorem wo_take_length (s : ByteArray) (xs : List ByteArray) (k : Nat) : (wo s (xs.take k)).length ≤ xs.length := by
  have h1 := wo_length s (xs.take k)
  have h2 := List.length_take_le k xs
  have h3 := List.length_take_le' k xs
  omega
def NewS (ys : List ByteArray) (w : World) (e : Ending) (w' : World) : Prop := ∃ v, e = .returned v ∧ Own w' w.heap.size v ys ∧ Below w.heap.size w w'

set_option maxRecDepth 100000 in
set_option maxHeartbeats 1000000 in
theorem woS_some (xs : List ByteArray) (s : ByteArray) (b o c : Nat) (w : World) (h1 : 1 ≤ xs.length) (hn : xs.length ≤ 4194304) (hb : b < w.heap.size)
    (hcell : ∀ j x, xs[j]? = some x → w.cell? ⟨b, o + j, none⟩ = some (.string x)) :
    Calls Tryd.prog 93 #[.slice (some ⟨b, o, none⟩) xs.length c, .string s] w (NewS (wo s xs) w) := by
  have HC := Lib.hid hcell
  clear hcell
  go_enter Tryd.func93, Tryd.ntmps93
  go_wp2_with fail
  go_loopw [5, 6] (fun v i wr => ∃ k : Nat, k ≤ xs.length ∧ i = .int .i64 k ∧ Own wr w.heap.size v (wo s (xs.take k)) ∧ Below w.heap.size w wr) (fun _ i _ => xs.length - (intOf i).toNat)
  case atStart => exact ⟨0, Nat.zero_le _, rfl, by rw [wo_zero]; exact own_empty w, (Below.refl _ _).alloc (Nat.le_refl _) _⟩
  case round =>
    obtain ⟨k, hk, rfl, hown, hbr⟩ := hrel
    have hsz := hbr.size
    by_cases hlk : k < xs.length
    · have c1 : wr.cell? ⟨b, o + k, none⟩ = some (.string xs[k]) := (hbr.cell (p := ⟨b, o + k, none⟩) hb).trans (HC.out k _ (List.getElem?_eq_getElem hlk))
      have HO := Lib.hid hown
      have HB := Lib.hid hbr
      clear hown hbr
      by_cases hx : xs[k] = s
      · have t := str_yes hx
        have HX := Lib.hid (wo_same hlk hx)
        clear hx
        go_wp2_with fail
        go_roundw
        case rel => exact ⟨k + 1, by omega, by go_num, by rw [HX.out]; exact HO.out, HB.out⟩
        case measure => simp [intOf]; omega
      · have t := str_no hx
        have HX := Lib.hid (wo_other hlk hx)
        clear hx
        have hL := wo_take_length s xs k
        go_wp2_with (at_builtin; refine wpList_app_str rfl _ _ rfl w.heap.size _ _ rfl HO.out xs[k] rfl (by omega) hsz ?_; intro v' w2 hown2 hb2)
        have HR : Hid (Own w2 w.heap.size v' (wo s (xs.take (k + 1)))) := Lib.hid (by rw [HX.out]; exact hown2)
        have HB2 := Lib.hid (HB.out.trans hb2)
        clear hown2 hb2
        go_roundw
        case rel => exact ⟨k + 1, by omega, by go_num, HR.out, HB2.out⟩
        case measure => simp [intOf]; omega
    · obtain rfl : k = xs.length := by omega
      rw [List.take_length] at hown
      have HO := Lib.hid hown
      have HB := Lib.hid hbr
      clear hown hbr
      go_wp2_with fail
      go_ret
      exact ⟨_, rfl, HO.out, HB.out⟩

set_option maxRecDepth 100000 in
theorem woS_none (a : Option Addr) (s : ByteArray) (c : Nat) (w : World) :
    Calls Tryd.prog 93 #[.slice a 0 c, .string s] w (NewS [] w) := by
  go_enter Tryd.func93, Tryd.ntmps93
  go_wp2_with fail
  go_loopw [5, 6] (fun v i wr => v = .slice (some ⟨w.heap.size, 0, none⟩) 0 0 ∧ i = .int .i64 0 ∧ wr = w.alloc (.cells #[] 9)) (fun _ _ _ => 0)
  case atStart => exact ⟨rfl, rfl, rfl⟩
  case round =>
    obtain ⟨rfl, rfl, rfl⟩ := hrel
    go_wp2_with fail
    go_ret
    exact ⟨_, rfl, own_empty w, (Below.refl _ _).alloc (Nat.le_refl _) _⟩

theorem woS_any (xs : List ByteArray) (v : Value) (s : ByteArray) (w : World) (hn : xs.length ≤ 4194304) (h : SS w v xs) :
    Calls Tryd.prog 93 #[v, .string s] w (NewS (wo s xs) w) := by
  rcases h with ⟨rfl, a, c, rfl⟩ | ⟨h1, b, o, c, rfl, _, hb, hcell⟩
  · exact woS_none a s c w
  · exact woS_some xs s b o c w h1 hn hb hcell
end Go.Proofs.YtfeijijeohfpgaaDoor
namespace Go.Proofs.YtfeijijeohfpgaaDoor
open Go Go.RowKit
def Tm.bnd (t : Tm) : List ByteArray :=
  if t.kind = 6 ∧ t.args.length = 1 then [t.name] else if t.kind = 8 ∧ t.args.length = 2 then [t.name] else if t.kind = 9 ∧ t.args.length = 1 then [t.name, t.other] else []
def Tm.bndAt (t : Tm) (k : Nat) : List ByteArray := if k + 1 = t.args.length then t.bnd else []
def minus (nb p : List ByteArray) : List ByteArray := nb.foldl (fun p x => wo x p) p
def gatherU (b : Nat → List ByteArray) : Nat → List ByteArray → List (List ByteArray) → List ByteArray
  | _, acc, [] => acc
  | k, acc, p :: ps => gatherU b (k + 1) (un acc (minus (b k) p)) ps
mutual
def Tm.fv : Tm → List ByteArray
  | .mk k a o n t r ts => if k = 1 then [a] else gatherU (Tm.bndAt (.mk k a o n t r ts)) 0 [] (fvL ts)
def fvL : List Tm → List (List ByteArray)
  | [] => []
  | t :: ts => t.fv :: fvL ts
end
mutual
def Tm.occ : Tm → List ByteArray → List ByteArray
  | .mk k a o n t r ts, env => if k = 1 then (if hasN a env then [] else [a]) else occL (Tm.bndAt (.mk k a o n t r ts)) 0 ts env
def occL : (Nat → List ByteArray) → Nat → List Tm → List ByteArray → List ByteArray
  | _, _, [], _ => []
  | b, k, t :: ts, env => t.occ (env ++ b k) ++ occL b (k + 1) ts env
end

theorem add_app (acc a b : List ByteArray) : add acc (a ++ b) = add (add acc a) b := by unfold add; rw [List.foldl_append]
theorem add_mem {x : ByteArray} : ∀ (ys acc : List ByteArray), x ∈ add acc ys ↔ x ∈ acc ∨ x ∈ ys
  | [], acc => by simp [add]
  | y :: ys, acc => by
    have h : add acc (y :: ys) = add (addS acc y) ys := rfl
    rw [h, add_mem ys]
    by_cases hy : y ∈ acc
    · rw [addS_in hy]
      constructor
      · rintro (h | h)
        · exact Or.inl h
        · exact Or.inr (List.mem_cons_of_mem _ h)
      · rintro (h | h)
        · exact Or.inl h
        · rcases List.mem_cons.1 h with rfl | h
          · exact Or.inl hy
          · exact Or.inr h
    · rw [addS_out hy]
      rw [List.mem_append, List.mem_singleton, List.mem_cons, or_assoc]
theorem add_add : ∀ (ys acc pre : List ByteArray), add acc (add pre ys) = add (add acc pre) ys
  | [], acc, pre => rfl
  | y :: ys, acc, pre => by
    have h1 : add pre (y :: ys) = add (addS pre y) ys := rfl
    have h2 : add (add acc pre) (y :: ys) = add (addS (add acc pre) y) ys := rfl
    rw [h1, h2, add_add ys]
    by_cases hy : y ∈ pre
    · rw [addS_in hy, addS_in ((add_mem pre acc).2 (Or.inr hy))]
    · rw [addS_out hy, add_app]
      rfl
theorem un_eq (a b : List ByteArray) : un a b = add [] (a ++ b) := by unfold un; rw [add_app]
theorem add_nil_add (a b : List ByteArray) : add [] (add [] a ++ add [] b) = add [] (a ++ b) := by
  rw [add_app, add_add, add_add, add_app]
  rfl
theorem wo_add (s : ByteArray) : ∀ (ys acc : List ByteArray), wo s (add acc ys) = add (wo s acc) (wo s ys)
  | [], acc => by simp [add, wo]
  | y :: ys, acc => by
    have h1 : add acc (y :: ys) = add (addS acc y) ys := rfl
    rw [h1, wo_add s ys]
    by_cases hys : y = s
    · subst hys
      have h2 : wo y (y :: ys) = wo y ys := by simp [wo]
      rw [h2]
      by_cases hy : y ∈ acc
      · rw [addS_in hy]
      · rw [addS_out hy]
        congr 1
        simp [wo]
    · have h2 : wo s (y :: ys) = y :: wo s ys := by simp [wo, hys]
      have h3 : add (wo s acc) (y :: wo s ys) = add (addS (wo s acc) y) (wo s ys) := rfl
      rw [h2, h3]
      congr 1
      by_cases hy : y ∈ acc
      · rw [addS_in hy, addS_in (by unfold wo; rw [List.mem_filter]; exact ⟨hy, by simpa using hys⟩)]
      · rw [addS_out hy, addS_out (by unfold wo; rw [List.mem_filter]; exact fun h => hy h.1)]
        simp [wo, hys]
theorem minus_add : ∀ (nb ys : List ByteArray), minus nb (add [] ys) = add [] (minus nb ys)
  | [], ys => rfl
  | x :: nb, ys => by
    have h1 : ∀ p, minus (x :: nb) p = minus nb (wo x p) := fun _ => rfl
    rw [h1, h1, wo_add]
    exact minus_add nb _
theorem minus_app : ∀ (nb a b : List ByteArray), minus nb (a ++ b) = minus nb a ++ minus nb b
  | [], a, b => rfl
  | x :: nb, a, b => by
    have h1 : ∀ p, minus (x :: nb) p = minus nb (wo x p) := fun _ => rfl
    rw [h1, h1, h1, ← minus_app nb]
    congr 1
    simp [wo]
theorem minus_minus (a b p : List ByteArray) : minus (a ++ b) p = minus b (minus a p) := by unfold minus; rw [List.foldl_append]
theorem minus_filter : ∀ (nb p : List ByteArray), minus nb p = p.filter fun x => !hasN x nb
  | [], p => by
    have h : p.filter (fun x => !hasN x []) = p := List.filter_eq_self.2 (fun _ _ => rfl)
    rw [h]; rfl
  | x :: nb, p => by
    have h1 : minus (x :: nb) p = minus nb (wo x p) := rfl
    rw [h1, minus_filter nb, wo, List.filter_filter]
    congr 1
    funext y
    have h2 : hasN y (x :: nb) = (decide (x = y) || hasN y nb) := by simp [hasN]
    rw [h2]
    by_cases h : y = x
    · subst h; simp
    · have h3 : ¬ x = y := fun e => h e.symm
      simp [h, h3]
theorem minus_comm (a b p : List ByteArray) : minus a (minus b p) = minus b (minus a p) := by
  simp only [minus_filter, List.filter_filter]
  congr 1
  funext x
  rw [Bool.and_comm]
theorem minus_nil : ∀ (nb : List ByteArray), minus nb [] = []
  | [] => rfl
  | x :: nb => minus_nil nb
theorem minus_one (nb : List ByteArray) (a : ByteArray) : minus nb [a] = if hasN a nb then [] else [a] := by
  rw [minus_filter]
  cases h : hasN a nb <;> simp [h]
theorem hasN_app (a : ByteArray) (x y : List ByteArray) : hasN a (x ++ y) = (hasN a x || hasN a y) := by simp [hasN]
mutual
theorem Tm.occ_env : ∀ (t : Tm) (env env' : List ByteArray), t.occ (env' ++ env) = minus env (t.occ env')
  | .mk k a o n t r ts, env, env' => by
    simp only [Tm.occ]
    by_cases hk : k = 1
    · rw [if_pos hk, if_pos hk]
      rw [hasN_app]
      cases h1 : hasN a env'
      · simp only [Bool.false_or, Bool.false_eq_true, if_false, minus_one]
      · simp only [Bool.true_or, if_true, minus_nil]
    · rw [if_neg hk, if_neg hk]
      exact occL_env _ 0 ts env env'
theorem occL_env : ∀ (b : Nat → List ByteArray) (k : Nat) (ts : List Tm) (env env' : List ByteArray), occL b k ts (env' ++ env) = minus env (occL b k ts env')
  | b, k, [], env, env' => by simp only [occL]; rw [minus_nil]
  | b, k, t :: ts, env, env' => by
    simp only [occL]
    rw [minus_app, occL_env b (k + 1) ts env env']
    congr 1
    rw [Tm.occ_env t (b k) (env' ++ env), Tm.occ_env t env env', Tm.occ_env t (b k) env']
    exact minus_comm _ _ _
end
mutual
theorem Tm.fv_occ : ∀ t : Tm, t.fv = add [] (t.occ [])
  | .mk k a o n t r ts => by
    simp only [Tm.fv, Tm.occ]
    by_cases hk : k = 1
    · rw [if_pos hk, if_pos hk]
      rfl
    · rw [if_neg hk, if_neg hk]
      exact gatherU_occ _ 0 ts []
theorem gatherU_occ : ∀ (b : Nat → List ByteArray) (k : Nat) (ts : List Tm) (A : List ByteArray), gatherU b k (add [] A) (fvL ts) = add [] (A ++ occL b k ts [])
  | b, k, [], A => by simp only [fvL, gatherU, occL, List.append_nil]
  | b, k, t :: ts, A => by
    simp only [fvL, gatherU, occL]
    rw [un_eq, Tm.fv_occ t, minus_add, add_nil_add, gatherU_occ b (k + 1) ts, Tm.occ_env t (b k) [], List.append_assoc]
end
mutual
def walkQ : Tm → List ByteArray → Nat → List (Tm × List ByteArray × Nat)
  | .mk k a o n t r ts, nm, d => (.mk k a o n t r ts, nm, d) :: (if k = 1 then [] else walkQS (Tm.bndAt (.mk k a o n t r ts)) 0 ts (d + 1))
def walkQS : (Nat → List ByteArray) → Nat → List Tm → Nat → List (Tm × List ByteArray × Nat)
  | _, _, [], _ => []
  | b, k, t :: ts, d => walkQ t (b k) d ++ walkQS b (k + 1) ts d
end
def hitQ (t : Tm) (st : List (List ByteArray)) : List ByteArray := if t.kind = 1 ∧ hasN t.name st.flatten = false then [t.name] else []
def pushQ (st : List (List ByteArray)) (nm : List ByteArray) (d : Nat) : List (List ByteArray) := st.take (d - 1) ++ [nm]
def foundQ : List (Tm × List ByteArray × Nat) → List (List ByteArray) → List ByteArray
  | [], _ => []
  | (t, nm, d) :: r, st => hitQ t (pushQ st nm d) ++ foundQ r (pushQ st nm d)
theorem pushQ_flat {st : List (List ByteArray)} {nm : List ByteArray} {d : Nat} : (pushQ st nm d).flatten = (st.take (d - 1)).flatten ++ nm := by simp [pushQ]
theorem pushQ_len {st : List (List ByteArray)} {nm : List ByteArray} {d : Nat} (h1 : 1 ≤ d) (h : d - 1 ≤ st.length) : (pushQ st nm d).length = d := by
  simp only [pushQ, List.length_append, List.length_take, List.length_singleton]
  omega
mutual
theorem found_walk : ∀ (t : Tm) (nm : List ByteArray) (d : Nat) (st : List (List ByteArray)) (r : List (Tm × List ByteArray × Nat)), 1 ≤ d → d - 1 ≤ st.length →
    ∃ st', st'.take (d - 1) = st.take (d - 1) ∧ d - 1 ≤ st'.length ∧ foundQ (walkQ t nm d ++ r) st = t.occ ((st.take (d - 1)).flatten ++ nm) ++ foundQ r st'
  | .mk k a o n t x ts, nm, d, st, r, h1, hd => by
    have hl := pushQ_len (nm := nm) h1 hd
    have hp : (pushQ st nm d).take (d - 1) = st.take (d - 1) := by
      unfold pushQ
      rw [List.take_append_of_le_length (by rw [List.length_take]; omega), List.take_take, Nat.min_self]
    simp only [walkQ, Tm.occ, List.cons_append, foundQ, ← pushQ_flat (nm := nm)]
    by_cases hk : k = 1
    · rw [if_pos hk, if_pos hk]
      refine ⟨pushQ st nm d, hp, by omega, ?_⟩
      rw [List.nil_append]
      congr 1
      unfold hitQ
      simp only [Tm.kind, Tm.name, hk, true_and]
      cases hasN a (pushQ st nm d).flatten <;> rfl
    · rw [if_neg hk, if_neg hk]
      obtain ⟨st', e1, e2, e3⟩ := found_walkS (Tm.bndAt (.mk k a o n t x ts)) 0 ts (d + 1) (pushQ st nm d) r (by omega) (by omega)
      have hd1 : d + 1 - 1 = d := by omega
      rw [hd1] at e1 e2 e3
      rw [List.take_of_length_le (by omega : (pushQ st nm d).length ≤ d)] at e1 e3
      refine ⟨st', ?_, by omega, ?_⟩
      · rw [← hp, ← e1, List.take_take, Nat.min_eq_left (by omega)]
      · rw [e3]
        have hh : hitQ (.mk k a o n t x ts) (pushQ st nm d) = [] := by
          unfold hitQ
          rw [if_neg (fun h => hk h.1)]
        rw [hh, List.nil_append]
theorem found_walkS : ∀ (b : Nat → List ByteArray) (k : Nat) (ts : List Tm) (d : Nat) (st : List (List ByteArray)) (r : List (Tm × List ByteArray × Nat)), 1 ≤ d → d - 1 ≤ st.length →
    ∃ st', st'.take (d - 1) = st.take (d - 1) ∧ d - 1 ≤ st'.length ∧ foundQ (walkQS b k ts d ++ r) st = occL b k ts (st.take (d - 1)).flatten ++ foundQ r st'
  | b, k, [], d, st, r, h1, hd => ⟨st, rfl, hd, by simp only [walkQS, occL, List.nil_append]⟩
  | b, k, t :: ts, d, st, r, h1, hd => by
    obtain ⟨st1, e1, e2, e3⟩ := found_walk t (b k) d st (walkQS b (k + 1) ts d ++ r) h1 hd
    obtain ⟨st2, f1, f2, f3⟩ := found_walkS b (k + 1) ts d st1 r h1 e2
    refine ⟨st2, f1.trans e1, f2, ?_⟩
    simp only [walkQS, occL]
    rw [List.append_assoc, e3, f3, e1, List.append_assoc]
end
theorem found_occ (t : Tm) : foundQ (walkQ t [] 1) [] = t.occ [] := by
  obtain ⟨st', _, _, h⟩ := found_walk t [] 1 [] [] (Nat.le_refl _) (Nat.zero_le _)
  rw [List.append_nil] at h
  rw [h]
  simp [foundQ]
mutual
theorem walkQ_nodes : ∀ (t : Tm) (nm : List ByteArray) (d : Nat), (walkQ t nm d).length ≤ t.nodes
  | .mk k a o n t x ts, nm, d => by
    simp only [walkQ, List.length_cons, Tm.nodes]
    by_cases hk : k = 1
    · rw [if_pos hk]; simp only [List.length_nil]; omega
    · rw [if_neg hk]
      have := walkQS_nodes (Tm.bndAt (.mk k a o n t x ts)) 0 ts (d + 1)
      omega
theorem walkQS_nodes : ∀ (b : Nat → List ByteArray) (k : Nat) (ts : List Tm) (d : Nat), (walkQS b k ts d).length ≤ nodesM ts
  | b, k, [], d => by simp [walkQS]
  | b, k, t :: ts, d => by
    have h1 := walkQ_nodes t (b k) d
    have h2 := walkQS_nodes b (k + 1) ts d
    simp only [walkQS, List.length_append, nodesM]
    omega
end
end Go.Proofs.YtfeijijeohfpgaaDoor
namespace Go.Proofs.YtfeijijeohfpgaaDoor
open Go Go.RowKit
def stuckK (k : Int) : Prop := k = 2 ∨ k = 3 ∨ k = 6 ∨ k = 9
def Tm.Rsl (t : Tm) : Prop := t.IsT ∧ (stuckK t.kind ∨ (t.kind = 10 ∧ t.lvOk 0 ∧ madeS t.args 1))
theorem isT_one {t : Tm} (h : t.NodeOk) (hk : t.kind = 10 ∨ t.kind = 11 ∨ t.kind = 12 ∨ t.kind = 13) : t.args.length = 1 := by
  have h2 := h.2
  rw [Tm.arity] at h2
  have : arK t.kind (opAr t.name.toList) = 1 := by
    rcases hk with hk | hk | hk | hk <;> rw [hk] <;> rfl
  omega
theorem isT_node (t : Tm) : t.IsT ↔ t.NodeOk ∧ IsTS t.args := by
  rw [t.IsT_eq]
  exact ⟨fun h => ⟨⟨h.2.1, h.2.2⟩, h.1⟩, fun h => ⟨h.2, h.1.1, h.1.2⟩⟩
theorem rsl_quote {t x : Tm} (hk : t.kind = 10) (hx : t.args = [x]) : t.Rsl ↔ t.NodeOk ∧ ((x.IsT ∧ x.lvOk 1) ∧ x.made 1) := by
  have hnl : nextL t.kind 0 = 1 := by
    unfold nextL
    rw [if_pos hk]
    unfold wrap64
    omega
  unfold Tm.Rsl
  rw [isT_node, t.lvOk_eq, hnl, hx]
  simp only [IsTS, lvOkS, madeS, and_true, stuckK, hk]
  constructor
  · rintro ⟨⟨h1, h2⟩, h3 | h3⟩
    · exact absurd h3 (by decide)
    · exact ⟨h1, ⟨h2, h3.2.1.2⟩, h3.2.2⟩
  · rintro ⟨h1, ⟨h2, h3⟩, h4⟩
    exact ⟨⟨h1, h2⟩, Or.inr ⟨trivial, ⟨by decide, h3⟩, h4⟩⟩
theorem rsl_not {t : Tm} (hk : ¬ stuckK t.kind) (h10 : ¬ t.kind = 10) : ¬ t.Rsl := fun h => by
  rcases h.2 with h | h
  · exact hk h
  · exact h10 h.1
def Tm.Opn (t : Tm) : Prop := (t.IsT ∧ t.lvOk 0) ∧ ¬ t.fv = []
abbrev noM : Tm := .mk 0 ⟨#[]⟩ ⟨#[]⟩ 0 (.mk 0 []) (.mk 0 []) []
def CpIs (t T : Tm) (b : Bool) : Prop := (t.Rsl ∧ t.kind = 10 ∧ t.args = [T] ∧ b = true) ∨ (¬ (t.Rsl ∧ t.kind = 10) ∧ T = noM ∧ b = false)
theorem cp_one {t T T' : Tm} {b b' : Bool} (h : CpIs t T b) (h' : CpIs t T' b') : T = T' ∧ b = b' := by
  rcases h with ⟨h1, h2, h3, rfl⟩ | ⟨h1, rfl, rfl⟩ <;> rcases h' with ⟨k1, k2, k3, rfl⟩ | ⟨k1, rfl, rfl⟩
  · rw [h3] at k3
    simp only [List.cons.injEq, and_true] at k3
    exact ⟨k3, rfl⟩
  · exact absurd ⟨h1, h2⟩ k1
  · exact absurd ⟨k1, k2⟩ h1
  · exact ⟨rfl, rfl⟩
theorem noM_wt : noM.wt = 0 := by rfl
theorem cp_wt {t T : Tm} {b : Bool} (h : CpIs t T b) : T.wt ≤ t.wt + 1 := by
  rcases h with ⟨_, _, h3, _⟩ | ⟨_, rfl, _⟩
  · have := t.wt_eq
    rw [h3] at this
    simp only [wtS] at this
    omega
  · rw [noM_wt]; omega
def PairS (R : Tm → Bool → Prop) (w : World) (e : Ending) (w' : World) : Prop := ∃ (T : Tm) (b : Bool) (v : Value), e = .returned (.tuple #[v, .bool b]) ∧ R T b ∧ TM w' (fun _ => True) T v ∧ Below w.heap.size w w'
def PairI (R : Tm → Bool → Prop) (w : World) (e : Ending) (w' : World) : Prop := ∃ (T : Tm) (b : Bool) (v : Value), e = .returned (.tuple #[v, .bool b]) ∧ R T b ∧ OMv w' T v (fun g => w.heap.size ≤ g ∧ g < w'.heap.size) ∧ Below w.heap.size w w'
end Go.Proofs.YtfeijijeohfpgaaDoor
namespace Go.Proofs.YtfeijijeohfpgaaDoor
open Go Go.RowKit

variable {C : Nat → Prop} {t : Tm} {v : Value} {w : World}
end Go.Proofs.YtfeijijeohfpgaaDoor
namespace Go.Proofs.YtfeijijeohfpgaaDoor
open Go Go.RowKit

variable {C : Nat → Prop}

set_option maxRecDepth 100000 in
set_option maxHeartbeats 1000000 in
theorem nextS_any (t : Tm) (tp : Option Addr) (tc : Nat) (rp : Option Addr) (rc : Nat) (p : Option Addr) (c : Nat) (n : Int) (w : World) :
    Calls Tryd.prog 57 #[tmV t tp tc rp rc p c, .int .i64 n] w fun e w' => e = .returned (.int .i64 (nextL t.kind n)) ∧ Below w.heap.size w w' := by
  have hn1 : t.kind = 10 → nextL t.kind n = wrap64 (n + 1) := fun h => by unfold nextL; rw [if_pos h]
  have hn2 : t.kind = 11 → nextL t.kind n = wrap64 (n - 1) := fun h => by unfold nextL; rw [if_neg (by omega), if_pos h]
  have hn3 : ¬ t.kind = 10 → ¬ t.kind = 11 → nextL t.kind n = n := fun h h2 => by unfold nextL; rw [if_neg h, if_neg h2]
  have HB0 := Lib.hid (al_below w (.cells (tmC t tp tc rp rc p c) 35))
  generalize nextL t.kind n = r at hn1 hn2 hn3 ⊢
  obtain ⟨g0, _, _, _, _, _, _, _, _⟩ := Bx9.new w t tp tc rp rc p c 35
  by_cases h1 : t.kind = 10
  · obtain rfl := hn1 h1
    have t1 : (t.kind == 10) = true := by simp [h1]
    clear hn1 hn2 hn3 h1
    go_enter Tryd.func57, Tryd.ntmps57
    go_wp2_with fail
    go_ret
    exact ⟨rfl, HB0.out⟩
  · by_cases h2 : t.kind = 11
    · obtain rfl := hn2 h2
      have t1 : (t.kind == 10) = false := by simp [h1]
      have t2 : (t.kind == 11) = true := by simp [h2]
      clear hn1 hn2 hn3 h1 h2
      go_enter Tryd.func57, Tryd.ntmps57
      go_wp2_with fail
      go_ret
      exact ⟨rfl, HB0.out⟩
    · obtain rfl := hn3 h1 h2
      have t1 : (t.kind == 10) = false := by simp [h1]
      have t2 : (t.kind == 11) = false := by simp [h2]
      clear hn1 hn2 hn3 h1 h2
      go_enter Tryd.func57, Tryd.ntmps57
      go_wp2_with fail
      go_ret
      exact ⟨rfl, HB0.out⟩
set_option maxRecDepth 100000 in
set_option maxHeartbeats 4000000 in
theorem l8Ok_any : ∀ (m : Nat) {t : Tm} {tp : Option Addr} {tc : Nat} {rp : Option Addr} {rc : Nat} {p : Option Addr} {c : Nat} (n : Int) (w : World), t.nodes ≤ m → TM' w C t tp tc rp rc p c → t.wt ≤ 2097152 → Calls Tryd.prog 32 #[tmV t tp tc rp rc p c, .int .i64 n] w (Tells (t.lvOk n) w)
  | 0, t, tp, tc, rp, rc, p, c, n, w, hm, hT, hn => by rw [t.nodes_eq] at hm; omega
  | m + 1, t, tp, tc, rp, rc, p, c, n, w, hm, hT, hn => by
    have HT := Lib.hid hT
    have HX0 := Lib.hid (Bx9.new w t tp tc rp rc p c 35)
    have HB0 := Lib.hid (al_below w (.cells (tmC t tp tc rp rc p c) 35))
    have hne := t.nodes_eq
    have hwe := t.wt_eq
    have hlen := wtS_ge t.args
    have HM := Lib.hid hm
    have HNE := Lib.hid hne
    have HWE := Lib.hid hwe
    have HWN := Lib.hid hn
    have HLE := Lib.hid ((t.lvOk_eq n).trans (and_congr_right fun _ => lvOkS_iff _ _))
    have hwa : wtS t.args ≤ 2097152 := by omega
    clear hT hne hwe hm hn
    go_enter Tryd.func32, Tryd.ntmps32
    go_wp2_with fail
    refine (in_any n 0 2 _).mono ?_
    rintro e w1 ⟨rfl, rfl⟩
    by_cases hin : 0 ≤ n ∧ n ≤ 2
    rotate_left
    · rw [decide_eq_false hin]
      have HIN := Lib.hid hin
      clear hin
      go_wp2_with fail
      go_ret
      exact ⟨false, by simp only [Bool.false_eq_true, false_iff]; exact fun h => HIN.out (HLE.out.1 h).1, rfl, HB0.out⟩
    rw [decide_eq_true hin]
    have HIN := Lib.hid hin
    clear hin
    go_wp2_with fail
    go_loopw [5] (fun i wr => ∃ (k : Nat), k ≤ t.args.length ∧ i = .int .i64 k ∧ (∀ x ∈ t.args.take k, (x.lvOk (nextL t.kind n))) ∧ Below (w.alloc (.cells (tmC t tp tc rp rc p c) 35)).heap.size (w.alloc (.cells (tmC t tp tc rp rc p c) 35)) wr) (fun i _ => t.args.length - (intOf i).toNat)
    case atStart => exact ⟨0, Nat.zero_le _, rfl, by simp, Below.refl _ _⟩
    case round =>
      obtain ⟨k, hk, rfl, hts, hbr⟩ := hrel
      have HTS := Lib.hid hts
      have HBR := Lib.hid hbr
      have HBW := Lib.hid (HB0.out.trans (hbr.mono HB0.out.size))
      obtain ⟨d0, d1, d2, d3, d4, d5, d6, d7, d8⟩ := HX0.out.keep hbr
      clear hbr hts
      by_cases hlk : k < t.args.length
      · obtain ⟨b, o, tp2, tc2, rp2, rc2, p2, c2, rfl, hC, hb, h9, hP⟩ := tm_part HT.out.args k hlk
        obtain ⟨g0, g1, g2, g3, g4, g5, g6, g7, g8⟩ := h9 wr (.of_below HBW.out)
        have n4 := nodesM_at t.args k hlk
        have n5 := wtS_at t.args k hlk
        have hmk : t.args[k].nodes ≤ m := by have := HM.out; have := HNE.out; omega
        have hi0 : (0 : Int) ≤ (k : Int) := Int.natCast_nonneg _
        have hi1 : (k : Int) < (t.args.length : Int) := by omega
        have HC := Lib.hid (fun (W : World) (hb : Below wr.heap.size wr W) => l8Ok_any m (nextL t.kind n) W hmk (hP.stays (.of_below (HBW.out.trans (hb.mono HBW.out.size)))) (by omega))
        clear hC hb h9 hP n4 n5 hmk
        go_wp2_with fail
        go_region_held3 (fun w' => w'.cell? ⟨w.heap.size, 0, none⟩ = some (.int .i64 t.kind) ∧ w'.cell? ⟨w.heap.size, 1, none⟩ = some (.string t.name) ∧ w'.cell? ⟨w.heap.size, 2, none⟩ = some (.string t.other) ∧ w'.cell? ⟨w.heap.size, 3, none⟩ = some (.int .i64 t.n) ∧ w'.cell? ⟨w.heap.size, 4, none⟩ = some (.int .i64 t.ty.kind) ∧ w'.cell? ⟨w.heap.size, 5, none⟩ = some (.slice tp t.ty.args.length tc) ∧ w'.cell? ⟨w.heap.size, 6, none⟩ = some (.int .i64 t.res.kind) ∧ w'.cell? ⟨w.heap.size, 7, none⟩ = some (.slice rp t.res.args.length rc) ∧ w'.cell? ⟨w.heap.size, 8, none⟩ = some (.slice (some ⟨b, o, none⟩) t.args.length c) ∧ w'.cell? ⟨b, o + k * 9, none⟩ = some (.int .i64 t.args[k].kind) ∧ w'.cell? ⟨b, o + k * 9 + 1, none⟩ = some (.string t.args[k].name) ∧ w'.cell? ⟨b, o + k * 9 + 2, none⟩ = some (.string t.args[k].other) ∧ w'.cell? ⟨b, o + k * 9 + 3, none⟩ = some (.int .i64 t.args[k].n) ∧ w'.cell? ⟨b, o + k * 9 + 4, none⟩ = some (.int .i64 t.args[k].ty.kind) ∧ w'.cell? ⟨b, o + k * 9 + 5, none⟩ = some (.slice tp2 t.args[k].ty.args.length tc2) ∧ w'.cell? ⟨b, o + k * 9 + 6, none⟩ = some (.int .i64 t.args[k].res.kind) ∧ w'.cell? ⟨b, o + k * 9 + 7, none⟩ = some (.slice rp2 t.args[k].res.args.length rc2) ∧ w'.cell? ⟨b, o + k * 9 + 8, none⟩ = some (.slice p2 t.args[k].args.length c2) ∧ Below wr.heap.size wr w')
          (first
            | (go_keep; done)
            | exact ⟨d0, d1, d2, d3, d4, d5, d6, d7, d8, g0, g1, g2, g3, g4, g5, g6, g7, g8, (Below.refl _ _).drew⟩
            | exact keep18 hb7 (by assumption)
            | exact keep18 hb6 (by assumption))
          (first
            | (go_at_call 57; refine (nextS_any t tp tc rp rc (some ⟨b, o, none⟩) c n _).mono ?_; rintro e w6 ⟨rfl, hb6⟩)
            | (go_at_call 32; refine (HC.out _ ((Below.refl _ _).drew.trans hb6)).mono ?_; rintro e w7 ⟨r, hr, rfl, hb7⟩))
        rename_i hH
        have hb2 := hH.2.2.2.2.2.2.2.2.2.2.2.2.2.2.2.2.2.2
        have HB2 := Lib.hid (HBR.out.trans (hb2.mono HBR.out.size))
        clear hH hb6 hb7 g0 g1 g2 g3 g4 g5 g6 g7 g8
        have HR := Lib.hid hr
        clear hr hb2
        cases hr0 : r
        · have hnf : ¬ (t.args[k].lvOk (nextL t.kind n)) := fun h => by have := HR.out.2 h; rw [hr0] at this; cases this
          have HF := Lib.hid hnf
          clear hnf
          subst hr0
          go_wp2_with fail
          go_ret
          exact ⟨false, by simp only [Bool.false_eq_true, false_iff]; exact fun h => HF.out ((HLE.out.1 h).2 _ (List.getElem_mem hlk)), rfl, box_rest HB2.out⟩
        · have HF := Lib.hid (HR.out.1 hr0)
          subst hr0
          go_wp2_with fail
          go_roundw
          case rel => exact ⟨k + 1, by omega, by go_num, (take_all hlk).2 ⟨HTS.out, HF.out⟩, HB2.out⟩
          case measure => simp [intOf]; omega
      · obtain rfl : k = t.args.length := by omega
        have hall := HTS.out
        rw [List.take_length] at hall
        have HALL := Lib.hid hall
        clear hall
        go_wp2_with fail
        go_ret
        exact ⟨true, by simp only [true_iff]; exact HLE.out.2 ⟨HIN.out, HALL.out⟩, rfl, HBW.out⟩

set_option maxRecDepth 100000 in
set_option maxHeartbeats 4000000 in
theorem l8Made_any : ∀ (m : Nat) {t : Tm} {tp : Option Addr} {tc : Nat} {rp : Option Addr} {rc : Nat} {p : Option Addr} {c : Nat} (n : Int) (w : World), t.nodes ≤ m → TM' w C t tp tc rp rc p c → t.wt ≤ 2097152 → Calls Tryd.prog 39 #[tmV t tp tc rp rc p c, .int .i64 n] w (Tells (t.made n) w)
  | 0, t, tp, tc, rp, rc, p, c, n, w, hm, hT, hn => by rw [t.nodes_eq] at hm; omega
  | m + 1, t, tp, tc, rp, rc, p, c, n, w, hm, hT, hn => by
    have HT := Lib.hid hT
    have HX0 := Lib.hid (Bx9.new w t tp tc rp rc p c 35)
    have HB0 := Lib.hid (al_below w (.cells (tmC t tp tc rp rc p c) 35))
    have hne := t.nodes_eq
    have hwe := t.wt_eq
    have hlen := wtS_ge t.args
    have HM := Lib.hid hm
    have HNE := Lib.hid hne
    have HWE := Lib.hid hwe
    have HWN := Lib.hid hn
    have HLE := Lib.hid ((t.made_eq n).trans (and_congr_right fun _ => madeS_iff _ _))
    have hwa : wtS t.args ≤ 2097152 := by omega
    clear hT hne hwe hm hn
    go_enter Tryd.func39, Tryd.ntmps39
    obtain ⟨c0, _, _, _, _, _, _, _, _⟩ := HX0.out
    by_cases hin : t.kind = 11 ∧ n = 1
    · have t1 : (t.kind == 11) = true := by simp [hin.1]
      have t2 : (n == 1) = true := by simp [hin.2]
      have HIN := Lib.hid hin
      clear hin
      go_wp2_with fail
      go_ret
      exact ⟨false, by simp only [Bool.false_eq_true, false_iff]; exact fun h => (HLE.out.1 h).1 HIN.out, rfl, HB0.out⟩
    have HIN := Lib.hid hin
    have HTW := Lib.hid (show (t.kind == 11) = true ∧ (n == 1) = false ∨ (t.kind == 11) = false by
      by_cases h : t.kind = 11
      · exact Or.inl ⟨by simp [h], by simp; exact fun h2 => hin ⟨h, h2⟩⟩
      · exact Or.inr (by simp [h]))
    clear hin
    rcases HTW.out with ⟨t1, t2⟩ | t1
    all_goals
      go_wp2_with fail
      clear c0 t1
      try clear t2
      go_loopw [5] (fun i wr => ∃ (k : Nat), k ≤ t.args.length ∧ i = .int .i64 k ∧ (∀ x ∈ t.args.take k, (x.made (nextL t.kind n))) ∧ Below (w.alloc (.cells (tmC t tp tc rp rc p c) 35)).heap.size (w.alloc (.cells (tmC t tp tc rp rc p c) 35)) wr) (fun i _ => t.args.length - (intOf i).toNat)
      case atStart => exact ⟨0, Nat.zero_le _, rfl, by simp, Below.refl _ _⟩
      case round =>
        obtain ⟨k, hk, rfl, hts, hbr⟩ := hrel
        have HTS := Lib.hid hts
        have HBR := Lib.hid hbr
        have HBW := Lib.hid (HB0.out.trans (hbr.mono HB0.out.size))
        obtain ⟨d0, d1, d2, d3, d4, d5, d6, d7, d8⟩ := HX0.out.keep hbr
        clear hbr hts
        by_cases hlk : k < t.args.length
        · obtain ⟨b, o, tp2, tc2, rp2, rc2, p2, c2, rfl, hC, hb, h9, hP⟩ := tm_part HT.out.args k hlk
          obtain ⟨g0, g1, g2, g3, g4, g5, g6, g7, g8⟩ := h9 wr (.of_below HBW.out)
          have n4 := nodesM_at t.args k hlk
          have n5 := wtS_at t.args k hlk
          have hmk : t.args[k].nodes ≤ m := by have := HM.out; have := HNE.out; omega
          have hi0 : (0 : Int) ≤ (k : Int) := Int.natCast_nonneg _
          have hi1 : (k : Int) < (t.args.length : Int) := by omega
          have HC := Lib.hid (fun (W : World) (hb : Below wr.heap.size wr W) => l8Made_any m (nextL t.kind n) W hmk (hP.stays (.of_below (HBW.out.trans (hb.mono HBW.out.size)))) (by omega))
          clear hC hb h9 hP n4 n5 hmk
          go_wp2_with fail
          go_region_held3 (fun w' => w'.cell? ⟨w.heap.size, 0, none⟩ = some (.int .i64 t.kind) ∧ w'.cell? ⟨w.heap.size, 1, none⟩ = some (.string t.name) ∧ w'.cell? ⟨w.heap.size, 2, none⟩ = some (.string t.other) ∧ w'.cell? ⟨w.heap.size, 3, none⟩ = some (.int .i64 t.n) ∧ w'.cell? ⟨w.heap.size, 4, none⟩ = some (.int .i64 t.ty.kind) ∧ w'.cell? ⟨w.heap.size, 5, none⟩ = some (.slice tp t.ty.args.length tc) ∧ w'.cell? ⟨w.heap.size, 6, none⟩ = some (.int .i64 t.res.kind) ∧ w'.cell? ⟨w.heap.size, 7, none⟩ = some (.slice rp t.res.args.length rc) ∧ w'.cell? ⟨w.heap.size, 8, none⟩ = some (.slice (some ⟨b, o, none⟩) t.args.length c) ∧ w'.cell? ⟨b, o + k * 9, none⟩ = some (.int .i64 t.args[k].kind) ∧ w'.cell? ⟨b, o + k * 9 + 1, none⟩ = some (.string t.args[k].name) ∧ w'.cell? ⟨b, o + k * 9 + 2, none⟩ = some (.string t.args[k].other) ∧ w'.cell? ⟨b, o + k * 9 + 3, none⟩ = some (.int .i64 t.args[k].n) ∧ w'.cell? ⟨b, o + k * 9 + 4, none⟩ = some (.int .i64 t.args[k].ty.kind) ∧ w'.cell? ⟨b, o + k * 9 + 5, none⟩ = some (.slice tp2 t.args[k].ty.args.length tc2) ∧ w'.cell? ⟨b, o + k * 9 + 6, none⟩ = some (.int .i64 t.args[k].res.kind) ∧ w'.cell? ⟨b, o + k * 9 + 7, none⟩ = some (.slice rp2 t.args[k].res.args.length rc2) ∧ w'.cell? ⟨b, o + k * 9 + 8, none⟩ = some (.slice p2 t.args[k].args.length c2) ∧ Below wr.heap.size wr w')
            (first
              | (go_keep; done)
              | exact ⟨d0, d1, d2, d3, d4, d5, d6, d7, d8, g0, g1, g2, g3, g4, g5, g6, g7, g8, (Below.refl _ _).drew⟩
              | exact keep18 hb7 (by assumption)
              | exact keep18 hb6 (by assumption))
            (first
              | (go_at_call 57; refine (nextS_any t tp tc rp rc (some ⟨b, o, none⟩) c n _).mono ?_; rintro e w6 ⟨rfl, hb6⟩)
              | (go_at_call 39; refine (HC.out _ ((Below.refl _ _).drew.trans hb6)).mono ?_; rintro e w7 ⟨r, hr, rfl, hb7⟩))
          rename_i hH
          have hb2 := hH.2.2.2.2.2.2.2.2.2.2.2.2.2.2.2.2.2.2
          have HB2 := Lib.hid (HBR.out.trans (hb2.mono HBR.out.size))
          clear hH hb6 hb7 g0 g1 g2 g3 g4 g5 g6 g7 g8
          have HR := Lib.hid hr
          clear hr hb2
          cases hr0 : r
          · have hnf : ¬ (t.args[k].made (nextL t.kind n)) := fun h => by have := HR.out.2 h; rw [hr0] at this; cases this
            have HF := Lib.hid hnf
            clear hnf
            subst hr0
            go_wp2_with fail
            go_ret
            exact ⟨false, by simp only [Bool.false_eq_true, false_iff]; exact fun h => HF.out ((HLE.out.1 h).2 _ (List.getElem_mem hlk)), rfl, box_rest HB2.out⟩
          · have HF := Lib.hid (HR.out.1 hr0)
            subst hr0
            go_wp2_with fail
            go_roundw
            case rel => exact ⟨k + 1, by omega, by go_num, (take_all hlk).2 ⟨HTS.out, HF.out⟩, HB2.out⟩
            case measure => simp [intOf]; omega
        · obtain rfl : k = t.args.length := by omega
          have hall := HTS.out
          rw [List.take_length] at hall
          have HALL := Lib.hid hall
          clear hall
          go_wp2_with fail
          go_ret
          exact ⟨true, by simp only [true_iff]; exact HLE.out.2 ⟨HIN.out, HALL.out⟩, rfl, HBW.out⟩

set_option maxRecDepth 100000 in
set_option maxHeartbeats 4000000 in
theorem l8High_any : ∀ (m : Nat) {t : Tm} {tp : Option Addr} {tc : Nat} {rp : Option Addr} {rc : Nat} {p : Option Addr} {c : Nat} (n : Int) (w : World), t.nodes ≤ m → TM' w C t tp tc rp rc p c → t.wt ≤ 2097152 → Calls Tryd.prog 41 #[tmV t tp tc rp rc p c, .int .i64 n] w (IntRet (fun r => r = t.high n) w)
  | 0, t, tp, tc, rp, rc, p, c, n, w, hm, hT, hn => by rw [t.nodes_eq] at hm; omega
  | m + 1, t, tp, tc, rp, rc, p, c, n, w, hm, hT, hn => by
    have HT := Lib.hid hT
    have HX0 := Lib.hid (Bx9.new w t tp tc rp rc p c 35)
    have HB0 := Lib.hid (al_below w (.cells (tmC t tp tc rp rc p c) 35))
    have hne := t.nodes_eq
    have hwe := t.wt_eq
    have hlen := wtS_ge t.args
    have HM := Lib.hid hm
    have HNE := Lib.hid hne
    have HHE := Lib.hid (t.high_eq n)
    have hwa : wtS t.args ≤ 2097152 := by omega
    clear hT hne hwe hm hn
    go_enter Tryd.func41, Tryd.ntmps41
    go_wp2_with fail
    go_loopw [5, 6] (fun q i wr => ∃ (k : Nat), k ≤ t.args.length ∧ i = .int .i64 k ∧ q = .int .i64 (highS (t.args.take k) (nextL t.kind n) n) ∧ Below (w.alloc (.cells (tmC t tp tc rp rc p c) 35)).heap.size (w.alloc (.cells (tmC t tp tc rp rc p c) 35)) wr) (fun _ i _ => t.args.length - (intOf i).toNat)
    case atStart => exact ⟨0, Nat.zero_le _, rfl, by simp [highS], Below.refl _ _⟩
    case round =>
      obtain ⟨k, hk, rfl, rfl, hbr⟩ := hrel
      have HBR := Lib.hid hbr
      have HBW := Lib.hid (HB0.out.trans (hbr.mono HB0.out.size))
      obtain ⟨d0, d1, d2, d3, d4, d5, d6, d7, d8⟩ := HX0.out.keep hbr
      clear hbr
      by_cases hlk : k < t.args.length
      · obtain ⟨b, o, tp2, tc2, rp2, rc2, p2, c2, rfl, hC, hb, h9, hP⟩ := tm_part HT.out.args k hlk
        obtain ⟨g0, g1, g2, g3, g4, g5, g6, g7, g8⟩ := h9 wr (.of_below HBW.out)
        have n4 := nodesM_at t.args k hlk
        have n5 := wtS_at t.args k hlk
        have hmk : t.args[k].nodes ≤ m := by have := HM.out; have := HNE.out; omega
        have hi0 : (0 : Int) ≤ (k : Int) := Int.natCast_nonneg _
        have hi1 : (k : Int) < (t.args.length : Int) := by omega
        have HC := Lib.hid (fun (W : World) (hb : Below wr.heap.size wr W) => l8High_any m (nextL t.kind n) W hmk (hP.stays (.of_below (HBW.out.trans (hb.mono HBW.out.size)))) (by omega))
        have HHT := Lib.hid (highS_take t.args (nextL t.kind n) n k hlk)
        clear hC hb h9 hP n4 n5 hmk
        go_wp2_with fail
        go_region_held3 (fun w' => w'.cell? ⟨w.heap.size, 0, none⟩ = some (.int .i64 t.kind) ∧ w'.cell? ⟨w.heap.size, 1, none⟩ = some (.string t.name) ∧ w'.cell? ⟨w.heap.size, 2, none⟩ = some (.string t.other) ∧ w'.cell? ⟨w.heap.size, 3, none⟩ = some (.int .i64 t.n) ∧ w'.cell? ⟨w.heap.size, 4, none⟩ = some (.int .i64 t.ty.kind) ∧ w'.cell? ⟨w.heap.size, 5, none⟩ = some (.slice tp t.ty.args.length tc) ∧ w'.cell? ⟨w.heap.size, 6, none⟩ = some (.int .i64 t.res.kind) ∧ w'.cell? ⟨w.heap.size, 7, none⟩ = some (.slice rp t.res.args.length rc) ∧ w'.cell? ⟨w.heap.size, 8, none⟩ = some (.slice (some ⟨b, o, none⟩) t.args.length c) ∧ w'.cell? ⟨b, o + k * 9, none⟩ = some (.int .i64 t.args[k].kind) ∧ w'.cell? ⟨b, o + k * 9 + 1, none⟩ = some (.string t.args[k].name) ∧ w'.cell? ⟨b, o + k * 9 + 2, none⟩ = some (.string t.args[k].other) ∧ w'.cell? ⟨b, o + k * 9 + 3, none⟩ = some (.int .i64 t.args[k].n) ∧ w'.cell? ⟨b, o + k * 9 + 4, none⟩ = some (.int .i64 t.args[k].ty.kind) ∧ w'.cell? ⟨b, o + k * 9 + 5, none⟩ = some (.slice tp2 t.args[k].ty.args.length tc2) ∧ w'.cell? ⟨b, o + k * 9 + 6, none⟩ = some (.int .i64 t.args[k].res.kind) ∧ w'.cell? ⟨b, o + k * 9 + 7, none⟩ = some (.slice rp2 t.args[k].res.args.length rc2) ∧ w'.cell? ⟨b, o + k * 9 + 8, none⟩ = some (.slice p2 t.args[k].args.length c2) ∧ Below wr.heap.size wr w')
          (first
            | (go_keep; done)
            | exact ⟨d0, d1, d2, d3, d4, d5, d6, d7, d8, g0, g1, g2, g3, g4, g5, g6, g7, g8, (Below.refl _ _).drew⟩
            | exact keep18 hb7 (by assumption)
            | exact keep18 hb6 (by assumption))
          (first
            | (go_at_call 57; refine (nextS_any t tp tc rp rc (some ⟨b, o, none⟩) c n _).mono ?_; rintro e w6 ⟨rfl, hb6⟩)
            | (go_at_call 41; refine (HC.out _ ((Below.refl _ _).drew.trans hb6)).mono ?_; rintro e w7 ⟨r, hr, rfl, hb7⟩)
            | (go_at_call 64; refine (max_any _ _ _).mono ?_; rintro e w8 ⟨rfl, rfl⟩))
        rename_i hH
        have hb2 := hH.2.2.2.2.2.2.2.2.2.2.2.2.2.2.2.2.2.2
        have HB2 := Lib.hid (HBR.out.trans (hb2.mono HBR.out.size))
        clear hH hb6 hb7 g0 g1 g2 g3 g4 g5 g6 g7 g8 hb2
        go_wp2_with fail
        go_roundw
        case rel => exact ⟨k + 1, by omega, by go_num, by rw [HHT.out], HB2.out⟩
        case measure => simp [intOf]; omega
      · obtain rfl : k = t.args.length := by omega
        rw [List.take_length]
        go_wp2_with fail
        go_ret
        exact ⟨_, HHE.out.symm, rfl, box_rest HBR.out⟩

variable {t : Tm} {v : Value} {w : World}
set_option maxRecDepth 100000 in
theorem levS_at (n : Int) (h : TM w C t v) (hn : t.wt ≤ 2097152) : Calls Tryd.prog 11 #[v, .int .i64 n] w (Tells (t.IsT ∧ t.lvOk n) w) := by
  have HN := Lib.hid hn
  obtain ⟨tp, tc, rp, rc, p, c, rfl, hT⟩ := h
  have HT := Lib.hid hT
  have HX0 := Lib.hid (Bx9.new w t tp tc rp rc p c 35)
  have HB0 := Lib.hid (al_below w (.cells (tmC t tp tc rp rc p c) 35))
  clear hT hn
  go_enter Tryd.func11, Tryd.ntmps11
  go_wp2_with fail
  refine (isTM_any _ _ (Nat.le_refl _) (HT.out.stays (.of_below HB0.out)) HN.out).mono ?_
  rintro e w1 ⟨r, hr, rfl, hb1⟩
  have HR := Lib.hid hr
  have HB1 := Lib.hid (HB0.out.trans (hb1.mono HB0.out.size))
  obtain ⟨g0, g1, g2, g3, g4, g5, g6, g7, g8⟩ := HX0.out.keep hb1
  clear hr hb1
  cases r with
  | false =>
    go_wp2_with fail
    go_ret
    exact ⟨false, by simp only [Bool.false_eq_true, false_iff]; exact fun h => (by have := HR.out.2 h.1; cases this), rfl, HB1.out⟩
  | true =>
    go_wp2_with fail
    refine (l8Ok_any _ n _ (Nat.le_refl _) (HT.out.stays (.of_below HB1.out)) HN.out).mono ?_
    rintro e w2 ⟨r2, hr2, rfl, hb2⟩
    have HR2 := Lib.hid hr2
    have HB2 := Lib.hid (HB1.out.trans (hb2.mono HB1.out.size))
    clear hr2 hb2
    go_wp2_with fail
    go_ret
    exact ⟨r2, by rw [HR2.out]; exact ⟨fun h => ⟨HR.out.1 (by trivial), h⟩, fun h => h.2⟩, rfl, HB2.out⟩
set_option maxRecDepth 100000 in
theorem genS_at (n : Int) (h : TM w C t v) (hn : t.wt ≤ 2097152) : Calls Tryd.prog 15 #[v, .int .i64 n] w (Tells ((t.IsT ∧ t.lvOk n) ∧ t.made n) w) := by
  have HN := Lib.hid hn
  obtain ⟨tp, tc, rp, rc, p, c, rfl, hT⟩ := h
  have HT := Lib.hid hT
  have HX0 := Lib.hid (Bx9.new w t tp tc rp rc p c 35)
  have HB0 := Lib.hid (al_below w (.cells (tmC t tp tc rp rc p c) 35))
  clear hT hn
  go_enter Tryd.func15, Tryd.ntmps15
  go_wp2_with fail
  refine (levS_at n ⟨_, _, _, _, _, _, rfl, HT.out.stays (.of_below HB0.out)⟩ HN.out).mono ?_
  rintro e w1 ⟨r, hr, rfl, hb1⟩
  have HR := Lib.hid hr
  have HB1 := Lib.hid (HB0.out.trans (hb1.mono HB0.out.size))
  obtain ⟨g0, g1, g2, g3, g4, g5, g6, g7, g8⟩ := HX0.out.keep hb1
  clear hr hb1
  cases r with
  | false =>
    go_wp2_with fail
    go_ret
    exact ⟨false, by simp only [Bool.false_eq_true, false_iff]; exact fun h => (by have := HR.out.2 h.1; cases this), rfl, HB1.out⟩
  | true =>
    go_wp2_with fail
    refine (l8Made_any _ n _ (Nat.le_refl _) (HT.out.stays (.of_below HB1.out)) HN.out).mono ?_
    rintro e w2 ⟨r2, hr2, rfl, hb2⟩
    have HR2 := Lib.hid hr2
    have HB2 := Lib.hid (HB1.out.trans (hb2.mono HB1.out.size))
    clear hr2 hb2
    go_wp2_with fail
    go_ret
    exact ⟨r2, by rw [HR2.out]; exact ⟨fun h => ⟨HR.out.1 (by trivial), h⟩, fun h => h.2⟩, rfl, HB2.out⟩
def HighIs (t : Tm) (r : Int) : Prop := ((t.IsT ∧ t.lvOk 0) ∧ r = t.high 0) ∨ (¬ (t.IsT ∧ t.lvOk 0) ∧ r = -1)
theorem HighIs.one {t : Tm} {a b : Int} (h : HighIs t a) (k : HighIs t b) : a = b := by
  rcases h with ⟨h1, rfl⟩ | ⟨h1, rfl⟩ <;> rcases k with ⟨k1, rfl⟩ | ⟨k1, rfl⟩
  · rfl
  · exact absurd h1 k1
  · exact absurd k1 h1
  · rfl
set_option maxRecDepth 100000 in
theorem highS_at (h : TM w C t v) (hn : t.wt ≤ 2097152) : Calls Tryd.prog 17 #[v] w (IntRet (HighIs t) w) := by
  have HN := Lib.hid hn
  obtain ⟨tp, tc, rp, rc, p, c, rfl, hT⟩ := h
  have HT := Lib.hid hT
  have HX0 := Lib.hid (Bx9.new w t tp tc rp rc p c 35)
  have HB0 := Lib.hid (al_below w (.cells (tmC t tp tc rp rc p c) 35))
  clear hT hn
  go_enter Tryd.func17, Tryd.ntmps17
  go_wp2_with fail
  refine (levS_at 0 ⟨_, _, _, _, _, _, rfl, HT.out.stays (.of_below HB0.out)⟩ HN.out).mono ?_
  rintro e w1 ⟨r, hr, rfl, hb1⟩
  have HR := Lib.hid hr
  have HB1 := Lib.hid (HB0.out.trans (hb1.mono HB0.out.size))
  obtain ⟨g0, g1, g2, g3, g4, g5, g6, g7, g8⟩ := HX0.out.keep hb1
  clear hr hb1
  cases r with
  | false =>
    go_wp2_with fail
    go_ret
    exact ⟨_, Or.inr ⟨fun h => (by have := HR.out.2 h; cases this), rfl⟩, rfl, HB1.out⟩
  | true =>
    go_wp2_with fail
    refine (l8High_any _ 0 _ (Nat.le_refl _) (HT.out.stays (.of_below HB1.out)) HN.out).mono ?_
    rintro e w2 ⟨r2, rfl, rfl, hb2⟩
    have HB2 := Lib.hid (HB1.out.trans (hb2.mono HB1.out.size))
    clear hb2
    go_wp2_with fail
    go_ret
    exact ⟨_, Or.inl ⟨HR.out.1 (by trivial), rfl⟩, rfl, HB2.out⟩
end Go.Proofs.YtfeijijeohfpgaaDoor
namespace Go.Proofs.YtfeijijeohfpgaaDoor
open Go Go.RowKit

theorem fvL_map (ts : List Tm) : fvL ts = ts.map Tm.fv := by
  induction ts with
  | nil => rfl
  | cons t ts ih => simp [fvL, ih]
theorem gatherU_snoc (b : Nat → List ByteArray) (p : List ByteArray) : ∀ (ps : List (List ByteArray)) (k : Nat) (acc : List ByteArray), gatherU b k acc (ps ++ [p]) = un (gatherU b k acc ps) (minus (b (k + ps.length)) p)
  | [], k, acc => by simp [gatherU]
  | q :: ps, k, acc => by
    simp only [List.cons_append, gatherU, List.length_cons]
    rw [gatherU_snoc b p ps (k + 1)]
    congr 3
    omega
def outK (t : Tm) (k : Nat) : List ByteArray := gatherU t.bndAt 0 [] (fvL (t.args.take k))
theorem outK_next (t : Tm) {k : Nat} (hk : k < t.args.length) : outK t (k + 1) = un (outK t k) (minus (t.bndAt k) t.args[k].fv) := by
  unfold outK
  rw [tm_take_next hk, fvL_map, List.map_append, List.map_singleton, gatherU_snoc, ← fvL_map]
  congr 3
  simp [fvL_map, List.length_take]
  omega
theorem fv_not (t : Tm) (h : ¬ t.kind = 1) : t.fv = outK t t.args.length := by
  cases t with
  | mk k a o n x r ts =>
    unfold outK
    rw [List.take_length]
    simp only [Tm.fv]
    rw [if_neg (show ¬ k = 1 from h)]
    rfl
theorem fv_var (t : Tm) (h : t.kind = 1) : t.fv = [t.name] := by
  cases t with
  | mk k a o n x r ts =>
    simp only [Tm.fv]
    rw [if_pos (show k = 1 from h)]
    rfl
theorem minus_length (nb p : List ByteArray) : (minus nb p).length ≤ p.length := by
  rw [minus_filter]
  exact List.length_filter_le _ _
theorem un_length (a b : List ByteArray) : (un a b).length ≤ a.length + b.length := by
  have h1 := add_length a []
  have h2 := add_length b (add [] a)
  unfold un
  simp only [List.length_nil] at h1
  omega
mutual
theorem Tm.fv_len : ∀ t : Tm, t.fv.length ≤ t.nodes
  | .mk k a o n t r ts => by
    simp only [Tm.fv, Tm.nodes]
    by_cases hk : k = 1
    · rw [if_pos hk]; simp only [List.length_singleton]; omega
    · rw [if_neg hk]
      have := gatherU_len (Tm.bndAt (.mk k a o n t r ts)) 0 [] ts
      simp only [List.length_nil] at this
      omega
theorem gatherU_len : ∀ (b : Nat → List ByteArray) (k : Nat) (acc : List ByteArray) (ts : List Tm), (gatherU b k acc (fvL ts)).length ≤ acc.length + nodesM ts
  | b, k, acc, [] => by simp [fvL, gatherU]
  | b, k, acc, t :: ts => by
    simp only [fvL, gatherU, nodesM]
    have h1 := gatherU_len b (k + 1) (un acc (minus (b k) t.fv)) ts
    have h2 := un_length acc (minus (b k) t.fv)
    have h3 := minus_length (b k) t.fv
    have h4 := Tm.fv_len t
    omega
end
theorem outK_len (t : Tm) (k : Nat) : (outK t k).length ≤ nodesM t.args := by
  have h1 := gatherU_len t.bndAt 0 [] (t.args.take k)
  have h2 := nodesM_take_le t.args k
  simp only [List.length_nil] at h1
  unfold outK
  omega
theorem own_one (w : World) (a : ByteArray) : Own (w.alloc (.cells #[.string a] 9)) w.heap.size (.slice (some ⟨w.heap.size, 0, none⟩) 1 1) [a] :=
  World.ownsRow_lit w #[.string a] 1 (Nat.le_refl _) (by unfold maxLen; omega) rfl
theorem own_two (w : World) (a b : ByteArray) : Own (w.alloc (.cells #[.string a, .string b] 9)) w.heap.size (.slice (some ⟨w.heap.size, 0, none⟩) 2 2) [a, b] :=
  World.ownsRow_lit w #[.string a, .string b] 2 (Nat.le_refl _) (by unfold maxLen; omega) rfl
theorem Own.base {w : World} {B B' : Nat} {v : Value} {xs : List ByteArray} (h : Own w B v xs) (hb : B' ≤ B) : Own w B' v xs := ownsRow_mono h hb

theorem nodesM_len : ∀ ts : List Tm, ts.length ≤ nodesM ts
  | [] => by simp
  | t :: ts => by
    have h1 := nodesM_len ts
    have h2 := t.nodes_eq
    simp only [List.length_cons, nodesM]
    omega
def BoundRet (t : Tm) (w : World) (e : Ending) (w' : World) : Prop :=
  ∃ v q, e = .returned (.tuple #[v, .int .i64 q]) ∧ Own w' w.heap.size v t.bnd ∧ q = (if t.bnd = [] then -1 else (t.args.length : Int) - 1) ∧ Below w.heap.size w w'
set_option maxRecDepth 100000 in
set_option maxHeartbeats 4000000 in
theorem boundS_any (t : Tm) (tp : Option Addr) (tc : Nat) (rp : Option Addr) (rc : Nat) (p : Option Addr) (c : Nat) (w : World) : Calls Tryd.prog 92 #[tmV t tp tc rp rc p c] w (BoundRet t w) := by
  have HX := Lib.hid (Bx9.new w t tp tc rp rc p c 35)
  have hb := al_below w (.cells (tmC t tp tc rp rc p c) 35)
  have hsz : (w.alloc (.cells (tmC t tp tc rp rc p c) 35)).heap.size = w.heap.size + 1 := by simp
  have HB := Lib.hid (And.intro hb hsz)
  have no : t.bnd = [] → ∀ W : World, Below w.heap.size w W → BoundRet t w (.returned (.tuple #[.slice (some ⟨W.heap.size, 0, none⟩) 0 0, .int .i64 (-1)])) (W.alloc (.cells #[] 9)) := fun h W hW =>
    ⟨_, _, rfl, by rw [h]; exact (own_empty W).base hW.size, by rw [if_pos h], hW.trans ((al_below W _).mono hW.size)⟩
  have one : t.bnd = [t.name] → ∀ W : World, ∀ q : Int, q = (t.args.length : Int) - 1 → Below w.heap.size w W → BoundRet t w (.returned (.tuple #[.slice (some ⟨W.heap.size, 0, none⟩) 1 1, .int .i64 q])) (W.alloc (.cells #[.string t.name] 9)) := fun h W q hq hW =>
    ⟨_, _, rfl, by rw [h]; exact (own_one W _).base hW.size, by rw [if_neg (by rw [h]; simp)]; exact hq, hW.trans ((al_below W _).mono hW.size)⟩
  have two : t.bnd = [t.name, t.other] → ∀ W : World, ∀ q : Int, q = (t.args.length : Int) - 1 → Below w.heap.size w W → BoundRet t w (.returned (.tuple #[.slice (some ⟨W.heap.size, 0, none⟩) 2 2, .int .i64 q])) (W.alloc (.cells #[.string t.name, .string t.other] 9)) := fun h W q hq hW =>
    ⟨_, _, rfl, by rw [h]; exact (own_two W _ _).base hW.size, by rw [if_neg (by rw [h]; simp)]; exact hq, hW.trans ((al_below W _).mono hW.size)⟩
  have HNO := Lib.hid no
  have HONE := Lib.hid one
  have HTWO := Lib.hid two
  clear no one two hb hsz
  obtain ⟨g0, g1, g2, g3, g4, g5, g6, g7, g8⟩ := HX.out
  go_enter Tryd.func92, Tryd.ntmps92
  by_cases h6 : t.kind = 6
  · have d6 : decide (t.kind = 6) = true := decide_eq_true h6
    have e6 : (t.kind == 6) = true := by simp; omega
    have HK := Lib.hid h6
    have d8 : decide (t.kind = 8) = false := decide_eq_false (by omega)
    have e8 : (t.kind == 8) = false := by simp; omega
    have d9 : decide (t.kind = 9) = false := decide_eq_false (by omega)
    have e9 : (t.kind == 9) = false := by simp; omega
    by_cases hl : t.args.length = 1
    · have hbd := Lib.hid (show t.bnd = [t.name] by unfold Tm.bnd; rw [if_pos ⟨h6, hl⟩])
      have HL := Lib.hid hl
      have dl : decide ((t.args.length : Int) = 1) = true := decide_eq_true (by omega)
      have dl' : decide (t.args.length = 1) = true := decide_eq_true hl
      have dl2 : ((t.args.length : Int) == 1) = true := by simp; omega
      clear h6 hl
      go_wp2_with fail
      go_ret2
      have he := HONE.out hbd.out _ 0 (by have := HL.out; omega) HB.out.1
      rw [HB.out.2] at he
      exact he
    · have hbd := Lib.hid (show t.bnd = [] by unfold Tm.bnd; rw [if_neg (fun h => hl h.2), if_neg (fun h => by omega), if_neg (fun h => by omega)])
      have dl : decide ((t.args.length : Int) = 1) = false := decide_eq_false (by omega)
      have dl' : decide (t.args.length = 1) = false := decide_eq_false hl
      have dl2 : ((t.args.length : Int) == 1) = false := by simp; omega
      clear h6 hl
      go_wp2_with fail
      go_ret2
      have he := HNO.out hbd.out _ HB.out.1
      rw [HB.out.2] at he
      exact he
  by_cases h8 : t.kind = 8
  · have d6 : decide (t.kind = 6) = false := decide_eq_false h6
    have e6 : (t.kind == 6) = false := by simp; omega
    have d8 : decide (t.kind = 8) = true := decide_eq_true h8
    have e8 : (t.kind == 8) = true := by simp; omega
    have HK := Lib.hid h8
    have d9 : decide (t.kind = 9) = false := decide_eq_false (by omega)
    have e9 : (t.kind == 9) = false := by simp; omega
    by_cases hl : t.args.length = 2
    · have hbd := Lib.hid (show t.bnd = [t.name] by unfold Tm.bnd; rw [if_neg (fun h => h6 h.1), if_pos ⟨h8, hl⟩])
      have HL := Lib.hid hl
      have dl : decide ((t.args.length : Int) = 2) = true := decide_eq_true (by omega)
      have dl' : decide (t.args.length = 2) = true := decide_eq_true hl
      have dl2 : ((t.args.length : Int) == 2) = true := by simp; omega
      clear h6 h8 hl
      go_wp2_with fail
      go_ret2
      have he := HONE.out hbd.out _ 1 (by have := HL.out; omega) HB.out.1
      rw [HB.out.2] at he
      exact he
    · have hbd := Lib.hid (show t.bnd = [] by unfold Tm.bnd; rw [if_neg (fun h => h6 h.1), if_neg (fun h => hl h.2), if_neg (fun h => by omega)])
      have dl : decide ((t.args.length : Int) = 2) = false := decide_eq_false (by omega)
      have dl' : decide (t.args.length = 2) = false := decide_eq_false hl
      have dl2 : ((t.args.length : Int) == 2) = false := by simp; omega
      clear h6 h8 hl
      go_wp2_with fail
      go_ret2
      have he := HNO.out hbd.out _ HB.out.1
      rw [HB.out.2] at he
      exact he
  by_cases h9 : t.kind = 9
  · have d6 : decide (t.kind = 6) = false := decide_eq_false h6
    have e6 : (t.kind == 6) = false := by simp; omega
    have d8 : decide (t.kind = 8) = false := decide_eq_false h8
    have e8 : (t.kind == 8) = false := by simp; omega
    have d9 : decide (t.kind = 9) = true := decide_eq_true h9
    have e9 : (t.kind == 9) = true := by simp; omega
    have HK := Lib.hid h9
    by_cases hl : t.args.length = 1
    · have hbd := Lib.hid (show t.bnd = [t.name, t.other] by unfold Tm.bnd; rw [if_neg (fun h => h6 h.1), if_neg (fun h => h8 h.1), if_pos ⟨h9, hl⟩])
      have HL := Lib.hid hl
      have dl : decide ((t.args.length : Int) = 1) = true := decide_eq_true (by omega)
      have dl' : decide (t.args.length = 1) = true := decide_eq_true hl
      have dl2 : ((t.args.length : Int) == 1) = true := by simp; omega
      clear h6 h8 h9 hl
      go_wp2_with fail
      go_ret2
      have he := HTWO.out hbd.out _ 0 (by have := HL.out; omega) HB.out.1
      rw [HB.out.2] at he
      exact he
    · have hbd := Lib.hid (show t.bnd = [] by unfold Tm.bnd; rw [if_neg (fun h => h6 h.1), if_neg (fun h => h8 h.1), if_neg (fun h => hl h.2)])
      have dl : decide ((t.args.length : Int) = 1) = false := decide_eq_false (by omega)
      have dl' : decide (t.args.length = 1) = false := decide_eq_false hl
      have dl2 : ((t.args.length : Int) == 1) = false := by simp; omega
      clear h6 h8 h9 hl
      go_wp2_with fail
      go_ret2
      have he := HNO.out hbd.out _ HB.out.1
      rw [HB.out.2] at he
      exact he
  · have d6 : decide (t.kind = 6) = false := decide_eq_false h6
    have e6 : (t.kind == 6) = false := by simp; omega
    have d8 : decide (t.kind = 8) = false := decide_eq_false h8
    have e8 : (t.kind == 8) = false := by simp; omega
    have d9 : decide (t.kind = 9) = false := decide_eq_false h9
    have e9 : (t.kind == 9) = false := by simp; omega
    have hbd := Lib.hid (show t.bnd = [] by unfold Tm.bnd; rw [if_neg (fun h => h6 h.1), if_neg (fun h => h8 h.1), if_neg (fun h => h9 h.1)])
    clear h6 h8 h9
    go_wp2_with fail
    go_ret2
    have he := HNO.out hbd.out _ HB.out.1
    rw [HB.out.2] at he
    exact he

theorem bndAt_not {t : Tm} {k : Nat} (h : ¬ k + 1 = t.args.length) : t.bndAt k = [] := by unfold Tm.bndAt; rw [if_neg h]
theorem bndAt_yes {t : Tm} {k : Nat} (h : k + 1 = t.args.length) : t.bndAt k = t.bnd := by unfold Tm.bndAt; rw [if_pos h]
theorem bnd_len (t : Tm) : t.bnd.length ≤ 2 := by
  unfold Tm.bnd
  split
  · simp
  · split
    · simp
    · split <;> simp
theorem minus_next (nb p : List ByteArray) {i : Nat} (hi : i < nb.length) : minus (nb.take (i + 1)) p = wo nb[i] (minus (nb.take i) p) := by
  rw [List.take_add_one, List.getElem?_eq_getElem hi]
  show minus (nb.take i ++ [nb[i]]) p = _
  rw [minus_minus]
  rfl
set_option maxRecDepth 100000 in
set_option maxHeartbeats 4000000 in
theorem fvS_any : ∀ (m : Nat) {C : Nat → Prop} {t : Tm} {tp : Option Addr} {tc : Nat} {rp : Option Addr} {rc : Nat} {p : Option Addr} {c : Nat} (w : World), t.nodes ≤ m → TM' w C t tp tc rp rc p c → t.nodes ≤ 1048577 →
    Calls Tryd.prog 71 #[tmV t tp tc rp rc p c] w (NewS' t.fv w)
  | m, C, t, tp, tc, rp, rc, p, c, w, hm, hT, hn => by
    have hpart : ∀ (j : Nat) (hj : j < t.args.length) (W : World), Below w.heap.size w W → ∃ (b o : Nat) (tp' : Option Addr) (tc' : Nat) (rp' : Option Addr) (rc' : Nat) (p' : Option Addr) (c' : Nat), p = some ⟨b, o, none⟩ ∧ At9 W b (o + j * 9) t.args[j] tp' tc' rp' rc' p' c' ∧
        Calls Tryd.prog 71 #[tmV t.args[j] tp' tc' rp' rc' p' c'] W (NewS' t.args[j].fv W) := fun j hj W hW => by
      obtain ⟨b, o, tp', tc', rp', rc', p', c', e, hC, hb, h9, hx⟩ := tm_part hT.args j hj
      have hle := nodesM_at t.args j hj
      rw [Tm.nodes_eq] at hm hn
      match m, hm with
      | 0, hm => omega
      | m + 1, hm => exact ⟨b, o, tp', tc', rp', rc', p', c', e, h9 W (.of_below hW), fvS_any m W (by omega) (hx.stays (.of_below hW)) (by omega)⟩
    have HP := Lib.hid hpart
    have HX := Lib.hid (Bx9.new w t tp tc rp rc p c 35)
    have hlen : t.args.length ≤ 1048576 := by
      have h1 := t.nodes_eq
      have h2 := nodesM_len t.args
      omega
    have HNM := Lib.hid (show nodesM t.args ≤ 1048576 by have h1 := t.nodes_eq; omega)
    have HB := Lib.hid (al_below w (.cells (tmC t tp tc rp rc p c) 35))
    clear hpart hT hm hn
    obtain ⟨g0, g1, g2, g3, g4, g5, g6, g7, g8⟩ := HX.out
    go_enter Tryd.func71, Tryd.ntmps71
    by_cases h1 : t.kind = 1
    · have d1 : decide (t.kind = 1) = true := decide_eq_true h1
      have e1 : (t.kind == 1) = true := by simp; omega
      have HV := Lib.hid (fv_var t h1)
      clear h1
      go_wp2_with fail
      go_ret
      have he := (own_one (w.alloc (.cells (tmC t tp tc rp rc p c) 35)) t.name).base HB.out.size
      rw [World.size_alloc] at he
      exact ⟨_, rfl, by rw [HV.out]; exact he, HB.out.trans ((al_below _ _).mono HB.out.size)⟩
    have d1 : decide (t.kind = 1) = false := decide_eq_false h1
    have e1 : (t.kind == 1) = false := by simp; omega
    have HV := Lib.hid (fv_not t h1)
    clear h1
    go_wp2_with fail
    refine (boundS_any t tp tc rp rc p c _).mono ?_
    rintro e w1 ⟨vn, q, rfl, hown, hq, hb1⟩
    obtain ⟨pn, cn, rfl, hat⟩ := hown.ss.at
    have hbb := HB.out.trans (hb1.mono HB.out.size)
    have HX1 := Lib.hid (HX.out.keep hb1)
    have HBB := Lib.hid hbb
    have HAT := Lib.hid hat
    have HQ := Lib.hid hq
    have hbl := bnd_len t
    clear g0 g1 g2 g3 g4 g5 g6 g7 g8 hown hq hb1 hbb hat
    go_wp2_with fail
    go_loopw [5, 6] (fun v i wr => ∃ k : Nat, k ≤ t.args.length ∧ i = .int .i64 k ∧ Own wr w.heap.size v (outK t k) ∧ Below w1.heap.size w1 wr) (fun _ i _ => t.args.length - (intOf i).toNat)
    case atStart => exact ⟨0, Nat.zero_le _, rfl, by show Own _ _ _ (gatherU _ 0 [] (fvL (t.args.take 0))); exact (own_empty w1).base HBB.out.size, al_below w1 _⟩
    case round =>
      obtain ⟨k, hk, rfl, hown, hbr⟩ := hrel
      have HO := Lib.hid hown
      have HBR := Lib.hid hbr
      have HX2 := Lib.hid (HX1.out.keep hbr)
      obtain ⟨g0, g1, g2, g3, g4, g5, g6, g7, g8⟩ := HX2.out
      clear hown hbr
      by_cases hlk : k < t.args.length
      · obtain ⟨b, o, tp', tc', rp', rc', p', c', rfl, h9, hC⟩ := HP.out k hlk wr (HBB.out.trans (HBR.out.mono HBB.out.size))
        obtain ⟨f0, f1, f2, f3, f4, f5, f6, f7, f8⟩ := h9
        have HC := Lib.hid hC
        have HNX := Lib.hid (outK_next t hlk)
        have hfl : t.args[k].fv.length ≤ 1048576 := by
          have h1 := t.args[k].fv_len
          have h2 := nodesM_at t.args k hlk
          have h3 := HNM.out
          omega
        have hol : (outK t k).length ≤ 1048576 := Nat.le_trans (outK_len t k) HNM.out
        have i0 : (0 : Int) ≤ (k : Int) := Int.natCast_nonneg _
        have i1 : (k : Int) < (t.args.length : Int) := by omega
        clear hC
        go_wp2_with fail
        refine HC.out.mono ?_
        rintro e w2 ⟨v2, rfl, hown2, hb2⟩
        have HO2 := Lib.hid (hown2.base (Nat.le_trans HBB.out.size HBR.out.size))
        have HB2 := Lib.hid (HBR.out.trans (hb2.mono HBR.out.size))
        have HOa := Lib.hid (HO.out.below hb2)
        clear hown2 hb2 g0 g1 g2 g3 g4 g5 g6 g7 g8 f0 f1 f2 f3 f4 f5 f6 f7 f8 HC HO HX2
        go_wp2_with fail
        have HNXb := Lib.hid (show outK t (k + 1) = un (outK t k) (minus ((t.bndAt k).take (t.bndAt k).length) t.args[k].fv) by rw [List.take_length]; exact HNX.out)
        have hEl : (t.bndAt k).length ≤ 2 := by
          unfold Tm.bndAt
          split
          · exact bnd_len t
          · simp
        go_loopw [7, 8] (fun v i wx => ∃ j : Nat, j ≤ (t.bndAt k).length ∧ i = .int .i64 j ∧ Own wx w.heap.size v (minus ((t.bndAt k).take j) t.args[k].fv) ∧ Below w2.heap.size w2 wx) (fun _ i _ => (t.bndAt k).length - (intOf i).toNat)
        case atStart => exact ⟨0, Nat.zero_le _, rfl, HO2.out, Below.refl _ _⟩
        case round =>
          obtain ⟨j, hj, rfl, hown, hbx⟩ := hrel
          have HOX := Lib.hid hown
          have HBX := Lib.hid hbx
          have hml : (minus ((t.bndAt k).take j) t.args[k].fv).length ≤ 1048576 := Nat.le_trans (minus_length _ _) hfl
          clear hown hbx
          by_cases hjl : j < (t.bndAt k).length
          · have hkl : k + 1 = t.args.length := Classical.byContradiction fun h => by
              rw [bndAt_not h] at hjl
              simp at hjl
            have hE := bndAt_yes hkl
            have hjb : j < t.bnd.length := by rw [← hE]; exact hjl
            have hqk : q = (k : Int) := by
              have h1 := HQ.out
              rw [if_neg (fun h => by rw [h] at hjb; simp at hjb)] at h1
              omega
            obtain ⟨b4, o4, rfl, hb4, c4⟩ := HAT.out j _ (List.getElem?_eq_getElem hjb)
            have c5 := (HBX.out.cell (p := ⟨b4, o4 + j, none⟩) (by have := HB2.out.size; show b4 < w2.heap.size; omega)).trans ((HB2.out.cell (p := ⟨b4, o4 + j, none⟩) hb4).trans c4)
            have HMN := Lib.hid (show minus ((t.bndAt k).take (j + 1)) t.args[k].fv = wo t.bnd[j] (minus ((t.bndAt k).take j) t.args[k].fv) by
              rw [minus_next _ _ hjl]
              congr 1
              simp only [hE])
            have e1' : ((k : Int) == q) = true := by simp [hqk]
            clear c4 hqk hE
            go_wp2_with fail
            refine (woS_any _ _ t.bnd[j] wr (by omega) HOX.out.ss).mono ?_
            rintro e w4 ⟨v4, rfl, hown4, hb4'⟩
            have HO4 := Lib.hid (hown4.base (Nat.le_trans (Nat.le_trans HBB.out.size HB2.out.size) HBX.out.size))
            have HB4 := Lib.hid (HBX.out.trans (hb4'.mono HBX.out.size))
            clear hown4 hb4' c5
            go_wp2_with fail
            go_roundw
            case rel => exact ⟨j + 1, by omega, by go_num, by rw [HMN.out]; exact HO4.out, HB4.out⟩
            case measure => simp [intOf]; omega
          · obtain rfl : j = (t.bndAt k).length := by omega
            have HR : Hid (Calls Tryd.prog 94 #[_, _] wr (NewS' (outK t (k + 1)) wr)) := Lib.hid (by
              rw [HNXb.out]
              exact unS_any _ _ _ _ wr hol hml (HOa.out.below HBX.out).ss HOX.out.ss)
            rcases (show ¬ (t.bndAt k).length < t.bnd.length ∨ ((t.bndAt k).length < t.bnd.length ∧ ((k : Int) == q) = false) by
              by_cases hkl : k + 1 = t.args.length
              · exact Or.inl (by rw [bndAt_yes hkl]; omega)
              · by_cases h0 : t.bnd = []
                · exact Or.inl (by rw [h0]; simp)
                · right
                  have h1 := HQ.out
                  rw [if_neg h0] at h1
                  refine ⟨by rw [bndAt_not hkl]; exact List.length_pos_iff.2 h0, ?_⟩
                  simp
                  omega) with h1 | ⟨h1, h2⟩
            all_goals
              go_wp2_with fail
              refine HR.out.mono ?_
              rintro e w5 ⟨v5, rfl, hown5, hb5⟩
              have HO5 := Lib.hid (hown5.base (Nat.le_trans (Nat.le_trans HBB.out.size HB2.out.size) HBX.out.size))
              have HB5 := Lib.hid ((HB2.out.trans (HBX.out.mono HB2.out.size)).trans (hb5.mono (Nat.le_trans HB2.out.size HBX.out.size)))
              clear hown5 hb5
              go_wp2_with fail
              go_roundw
              case rel => exact ⟨k + 1, by omega, by go_num, HO5.out, HB5.out⟩
              case measure => simp [intOf]; omega
      · obtain rfl : k = t.args.length := by omega
        go_wp2_with fail
        go_ret
        exact ⟨_, rfl, by rw [HV.out]; exact HO.out, HBB.out.trans (HBR.out.mono HBB.out.size)⟩
set_option maxRecDepth 100000 in
set_option maxHeartbeats 1000000 in
theorem closedS_any {C : Nat → Prop} {t : Tm} {v : Value} {w : World} (h : TM w C t v) (hn : t.nodes ≤ 1048577) : Calls Tryd.prog 45 #[v] w (BoolRet (fun r => r = true ↔ t.fv = []) w) := by
  obtain ⟨tp, tc, rp, rc, p, c, rfl, hT⟩ := h
  have hb := al_below w (.cells (tmC t tp tc rp rc p c) 35)
  have HC := Lib.hid (fvS_any _ _ (Nat.le_refl _) (hT.stays (.of_below hb)) hn)
  have HB := Lib.hid hb
  clear hT hb
  go_enter Tryd.func45, Tryd.ntmps45
  go_wp2_with fail
  refine HC.out.mono ?_
  rintro e w1 ⟨v1, rfl, hown, hb1⟩
  obtain ⟨p1, c1, rfl, -⟩ := hown.ss.at
  have HB1 := Lib.hid (HB.out.trans (hb1.mono HB.out.size))
  clear hown hb1
  by_cases h0 : t.fv.length = 0
  · have e0 : ((t.fv.length : Int) == 0) = true := by simp [List.eq_nil_of_length_eq_zero h0]
    have HF := Lib.hid (List.eq_nil_of_length_eq_zero h0)
    clear h0
    go_wp2_with fail
    go_ret
    exact ⟨true, by simp [HF.out], rfl, HB1.out⟩
  · have e0 : ((t.fv.length : Int) == 0) = false := by simpa using fun h => h0 (by rw [h]; rfl)
    have HF := Lib.hid (show ¬ t.fv = [] from fun h => h0 (by rw [h]; rfl))
    clear h0
    go_wp2_with fail
    go_ret
    exact ⟨false, by simp [HF.out], rfl, HB1.out⟩
end Go.Proofs.YtfeijijeohfpgaaDoor
namespace Go.Proofs.YtfeijijeohfpgaaDoor
open Go Go.RowKit

variable {C : Nat → Prop} {t : Tm} {v : Value} {w : World}
set_option maxRecDepth 100000 in
set_option maxHeartbeats 1000000 in
theorem rsl10_at {tp rp p : Option Addr} {tc rc c : Nat} (hT : TM' w C t tp tc rp rc p c) (hi : t.IsT) (hn : t.wt ≤ 2097152) : Calls Tryd.prog 42 #[tmV t tp tc rp rc p c] w (Tells t.Rsl w) := by
  have HN := Lib.hid hn
  have HT := Lib.hid hT
  have HX0 := Lib.hid (Bx9.new w t tp tc rp rc p c 35)
  have HB0 := Lib.hid (al_below w (.cells (tmC t tp tc rp rc p c) 35))
  have HI := Lib.hid hi
  clear hT hn hi
  by_cases hs : stuckK t.kind
  · have HS := Lib.hid hs
    obtain ⟨g0, g1, g2, g3, g4, g5, g6, g7, g8⟩ := HX0.out
    go_enter Tryd.func42, Tryd.ntmps42
    rcases hs with hk | hk | hk | hk
    · have t1 : (t.kind == 2) = true := by rw [hk]; rfl
      have t2 : (t.kind == 3) = false := by rw [hk]; rfl
      have t3 : (t.kind == 6) = false := by rw [hk]; rfl
      have t4 : (t.kind == 9) = false := by rw [hk]; rfl
      have t5 : (t.kind == 10) = false := by rw [hk]; rfl
      clear hk
      go_wp2_with fail
      go_ret
      exact ⟨true, ⟨fun _ => ⟨HI.out, Or.inl HS.out⟩, fun _ => rfl⟩, rfl, HB0.out⟩
    · have t1 : (t.kind == 2) = false := by rw [hk]; rfl
      have t2 : (t.kind == 3) = true := by rw [hk]; rfl
      have t3 : (t.kind == 6) = false := by rw [hk]; rfl
      have t4 : (t.kind == 9) = false := by rw [hk]; rfl
      have t5 : (t.kind == 10) = false := by rw [hk]; rfl
      clear hk
      go_wp2_with fail
      go_ret
      exact ⟨true, ⟨fun _ => ⟨HI.out, Or.inl HS.out⟩, fun _ => rfl⟩, rfl, HB0.out⟩
    · have t1 : (t.kind == 2) = false := by rw [hk]; rfl
      have t2 : (t.kind == 3) = false := by rw [hk]; rfl
      have t3 : (t.kind == 6) = true := by rw [hk]; rfl
      have t4 : (t.kind == 9) = false := by rw [hk]; rfl
      have t5 : (t.kind == 10) = false := by rw [hk]; rfl
      clear hk
      go_wp2_with fail
      go_ret
      exact ⟨true, ⟨fun _ => ⟨HI.out, Or.inl HS.out⟩, fun _ => rfl⟩, rfl, HB0.out⟩
    · have t1 : (t.kind == 2) = false := by rw [hk]; rfl
      have t2 : (t.kind == 3) = false := by rw [hk]; rfl
      have t3 : (t.kind == 6) = false := by rw [hk]; rfl
      have t4 : (t.kind == 9) = true := by rw [hk]; rfl
      have t5 : (t.kind == 10) = false := by rw [hk]; rfl
      clear hk
      go_wp2_with fail
      go_ret
      exact ⟨true, ⟨fun _ => ⟨HI.out, Or.inl HS.out⟩, fun _ => rfl⟩, rfl, HB0.out⟩
  by_cases hk : t.kind = 10
  · obtain ⟨x, hx⟩ := List.length_eq_one_iff.1 (isT_one ((isT_node t).1 HI.out).1 (Or.inl hk))
    obtain ⟨b, o, tp2, tc2, rp2, rc2, p2, c2, rfl, hC, hb, h9, hP⟩ := tm_part HT.out.args 0 (by rw [hx]; simp)
    have hx0 : t.args[0]'(by rw [hx]; simp) = x := by simp [hx]
    rw [hx0] at h9 hP
    simp only [Nat.zero_mul, Nat.add_zero] at h9
    have hl1 : t.args.length = 1 := by rw [hx]; rfl
    have hwx : x.wt ≤ 2097152 := by have h1 := t.wt_eq; rw [hx] at h1; simp only [wtS] at h1; have := HN.out; omega
    have HR := Lib.hid (show t.Rsl ↔ (t.lvOk 0 ∧ x.made 1) by
      unfold Tm.Rsl
      rw [hx]
      simp only [madeS, and_true, stuckK, hk]
      constructor
      · rintro ⟨_, h | h⟩
        · exact absurd h (by decide)
        · exact h.2
      · exact fun h => ⟨HI.out, Or.inr ⟨trivial, h⟩⟩)
    have H9 := Lib.hid h9
    have HP := Lib.hid hP
    have HK := Lib.hid hk
    obtain ⟨g0, g1, g2, g3, g4, g5, g6, g7, g8⟩ := HX0.out
    have t1 : (t.kind == 2) = false := by rw [hk]; rfl
    have t2 : (t.kind == 3) = false := by rw [hk]; rfl
    have t3 : (t.kind == 6) = false := by rw [hk]; rfl
    have t4 : (t.kind == 9) = false := by rw [hk]; rfl
    have t5 : (t.kind == 10) = true := by rw [hk]; rfl
    have HL1 := Lib.hid hl1
    clear h9 hP hk hs hx hx0 hl1
    have HC := Lib.hid (l8Ok_any _ 0 _ (Nat.le_refl _) (HT.out.stays (.of_below HB0.out)) HN.out)
    go_enter Tryd.func42, Tryd.ntmps42
    go_wp2_with fail
    refine HC.out.mono ?_
    rintro e w1 ⟨r, hr, rfl, hb1⟩
    have HR1 := Lib.hid hr
    have HB1 := Lib.hid (HB0.out.trans (hb1.mono HB0.out.size))
    clear g0 g1 g2 g3 g4 g5 g6 g7 g8 hr HC
    obtain ⟨g0, g1, g2, g3, g4, g5, g6, g7, g8⟩ := HX0.out.keep hb1
    clear hb1
    cases r with
    | false =>
      go_wp2_with fail
      go_ret
      exact ⟨false, by simp only [Bool.false_eq_true, false_iff]; exact fun h => (by have := HR1.out.2 (HR.out.1 h).1; cases this), rfl, HB1.out⟩
    | true =>
      obtain ⟨a0, a1, a2, a3, a4, a5, a6, a7, a8⟩ := H9.out w1 (.of_below HB1.out)
      have HC := Lib.hid (l8Made_any _ 1 w1 (Nat.le_refl _) (HP.out.stays (.of_below HB1.out)) hwx)
      have l8 := g8
      rw [HL1.out] at l8
      clear g8
      go_wp2_with fail
      refine HC.out.mono ?_
      rintro e w2 ⟨r2, hr2, rfl, hb2⟩
      have HR2 := Lib.hid hr2
      have HB2 := Lib.hid (HB1.out.trans (hb2.mono HB1.out.size))
      clear hr2 hb2
      go_wp2_with fail
      go_ret
      exact ⟨r2, by rw [HR.out]; exact ⟨fun h => ⟨HR1.out.1 (by trivial), HR2.out.1 h⟩, fun h => HR2.out.2 h.2⟩, rfl, HB2.out⟩
  · have HQ := Lib.hid (rsl_not hs hk)
    obtain ⟨g0, g1, g2, g3, g4, g5, g6, g7, g8⟩ := HX0.out
    have t1 : (t.kind == 2) = false := by simp; exact fun h => hs (Or.inl h)
    have t2 : (t.kind == 3) = false := by simp; exact fun h => hs (Or.inr (Or.inl h))
    have t3 : (t.kind == 6) = false := by simp; exact fun h => hs (Or.inr (Or.inr (Or.inl h)))
    have t4 : (t.kind == 9) = false := by simp; exact fun h => hs (Or.inr (Or.inr (Or.inr h)))
    have t5 : (t.kind == 10) = false := by simp; exact hk
    clear hs hk
    go_enter Tryd.func42, Tryd.ntmps42
    go_wp2_with fail
    go_ret
    exact ⟨false, by simp only [Bool.false_eq_true, false_iff]; exact HQ.out, rfl, HB0.out⟩
set_option maxRecDepth 100000 in
theorem rslS_at (h : TM w C t v) (hn : t.wt ≤ 2097152) : Calls Tryd.prog 19 #[v] w (Tells t.Rsl w) := by
  have HN := Lib.hid hn
  obtain ⟨tp, tc, rp, rc, p, c, rfl, hT⟩ := h
  have HT := Lib.hid hT
  have HX0 := Lib.hid (Bx9.new w t tp tc rp rc p c 35)
  have HB0 := Lib.hid (al_below w (.cells (tmC t tp tc rp rc p c) 35))
  clear hT hn
  go_enter Tryd.func19, Tryd.ntmps19
  go_wp2_with fail
  refine (isTM_any _ _ (Nat.le_refl _) (HT.out.stays (.of_below HB0.out)) HN.out).mono ?_
  rintro e w1 ⟨r, hr, rfl, hb1⟩
  have HR := Lib.hid hr
  have HB1 := Lib.hid (HB0.out.trans (hb1.mono HB0.out.size))
  obtain ⟨g0, g1, g2, g3, g4, g5, g6, g7, g8⟩ := HX0.out.keep hb1
  clear hr hb1
  cases r with
  | false =>
    go_wp2_with fail
    go_ret
    exact ⟨false, by simp only [Bool.false_eq_true, false_iff]; exact fun h => (by have := HR.out.2 h.1; cases this), rfl, HB1.out⟩
  | true =>
    go_wp2_with fail
    refine (rsl10_at (HT.out.stays (.of_below HB1.out)) (HR.out.1 (by trivial)) HN.out).mono ?_
    rintro e w2 ⟨r2, hr2, rfl, hb2⟩
    have HR2 := Lib.hid hr2
    have HB2 := Lib.hid (HB1.out.trans (hb2.mono HB1.out.size))
    clear hr2 hb2
    go_wp2_with fail
    go_ret
    exact ⟨r2, HR2.out, rfl, HB2.out⟩
set_option maxRecDepth 100000 in
theorem opnS_at (h : TM w C t v) (hn : t.wt ≤ 1048576) : Calls Tryd.prog 21 #[v] w (Tells t.Opn w) := by
  have HN := Lib.hid hn
  obtain ⟨tp, tc, rp, rc, p, c, rfl, hT⟩ := h
  have HT := Lib.hid hT
  have HX0 := Lib.hid (Bx9.new w t tp tc rp rc p c 35)
  have HB0 := Lib.hid (al_below w (.cells (tmC t tp tc rp rc p c) 35))
  clear hT hn
  go_enter Tryd.func21, Tryd.ntmps21
  go_wp2_with fail
  refine (levS_at 0 ⟨_, _, _, _, _, _, rfl, HT.out.stays (.of_below HB0.out)⟩ (Nat.le_trans HN.out (by decide))).mono ?_
  rintro e w1 ⟨r, hr, rfl, hb1⟩
  have HR := Lib.hid hr
  have HB1 := Lib.hid (HB0.out.trans (hb1.mono HB0.out.size))
  obtain ⟨g0, g1, g2, g3, g4, g5, g6, g7, g8⟩ := HX0.out.keep hb1
  clear hr hb1
  cases r with
  | false =>
    go_wp2_with fail
    go_ret
    exact ⟨false, by simp only [Bool.false_eq_true, false_iff]; exact fun h => (by have := HR.out.2 h.1; cases this), rfl, HB1.out⟩
  | true =>
    go_wp2_with fail
    refine (closedS_any ⟨_, _, _, _, _, _, rfl, HT.out.stays (.of_below HB1.out)⟩ (by have := t.nodes_wt; have := HN.out; omega)).mono ?_
    rintro e w2 ⟨r2, hr2, rfl, hb2⟩
    have HR2 := Lib.hid hr2
    have HB2 := Lib.hid (HB1.out.trans (hb2.mono HB1.out.size))
    clear hr2 hb2
    go_wp2_with fail
    go_ret
    exact ⟨!r2, by cases r2 <;> simp only [Bool.not_true, Bool.not_false, Bool.false_eq_true, false_iff, true_iff] <;> first | exact ⟨HR.out.1 (by trivial), fun h => by have := HR2.out.2 h; cases this⟩ | exact fun h => h.2 (HR2.out.1 rfl), rfl, HB2.out⟩
end Go.Proofs.YtfeijijeohfpgaaDoor
namespace Go.Proofs.YtfeijijeohfpgaaDoor
open Go Go.RowKit
structure RowM (w : World) (base : Nat) (C : Nat → Prop) (v : Value) (ts : List Tm) (xs : List Value) : Prop where
  own : w.ownsRow base 35 9 v ts.length xs
  blk : ∀ g, v.ownBlock = some g → C g
  ms : MS w (fun z => C z ∧ v.ownBlock ≠ some z) (flatTm ts) xs
theorem own_base {w : World} {a b : Nat} {e : TypeId} {size n : Nat} {v : Value} {xs : List Value} (h : w.ownsRow b e size v n xs) (hab : a ≤ b) : w.ownsRow a e size v n xs := by
  refine ⟨h.1, ?_⟩
  rcases h.2 with h0 | ⟨g, cap, cur, rfl, hg, r⟩
  · exact Or.inl h0
  · exact Or.inr ⟨g, cap, cur, rfl, Nat.le_trans hab hg, r⟩
theorem RowM.start (w : World) (base : Nat) (C : Nat → Prop) : RowM w base C (.slice none 0 0) [] [] := ⟨World.ownsRow_nil _ _ _ _, fun g hg => by simp [Value.ownBlock] at hg, ⟨rfl, fun i d v hd _ => by simp [flatTm] at hd⟩⟩
theorem RowM.stays {w w' : World} {base : Nat} {C : Nat → Prop} {v : Value} {ts : List Tm} {xs : List Value} (h : RowM w base C v ts xs) (hs : Stays C w w') : RowM w' base C v ts xs := by
  have hb := h.blk
  refine ⟨⟨h.own.1, ?_⟩, hb, h.ms.stays (hs.mono (fun _ hz => hz.1))⟩
  rcases h.own.2 with h0 | ⟨g, cap, cur, rfl, hbg, hblk, r⟩
  · exact Or.inl h0
  · exact Or.inr ⟨g, cap, cur, rfl, hbg, (hs.2 g (hb g rfl) (Array.getElem?_eq_some_iff.1 hblk).1).trans hblk, r⟩
theorem RowM.base {w : World} {a b : Nat} {C C' : Nat → Prop} {v : Value} {ts : List Tm} {xs : List Value} (h : RowM w b C v ts xs) (hab : a ≤ b) (hC : ∀ z, C z → z < w.heap.size → C' z) : RowM w a C' v ts xs :=
  ⟨own_base h.own hab, fun g hg => hC g (h.blk g hg) (by
    rcases h.own.2 with ⟨rfl, _⟩ | ⟨g', cap, cur, rfl, hbg, hblk, r⟩
    · simp [Value.ownBlock] at hg
    · simp [Value.ownBlock] at hg
      subst hg
      exact (Array.getElem?_eq_some_iff.1 hblk).1), h.ms.mono (fun z hz hl => ⟨hC z hz.1 hl, hz.2⟩)⟩
theorem RowM.dm {w : World} {base : Nat} {C : Nat → Prop} {v : Value} {ts : List Tm} {xs : List Value} (h : RowM w base C v ts xs) : DM w C (tmD ts) v := by
  have hms := h.ms
  have hblkC := h.blk
  rcases h.own.2 with ⟨rfl, h0⟩ | ⟨g, cap, cur, rfl, hg, hblk, h1, h2, h3, h4⟩
  · obtain rfl := List.eq_nil_of_length_eq_zero h0
    exact .nil _ _ _ _
  · by_cases hz : ts.length = 0
    · obtain rfl := List.eq_nil_of_length_eq_zero hz
      exact .nil _ _ _ _
    · have hlt := (Array.getElem?_eq_some_iff.1 hblk).1
      have hl : (flatTm ts).length = ts.length * 9 := flatTm_len ts
      have hxs : xs.length = ts.length * 9 := by rw [← hl]; exact hms.1
      have at_ : ∀ i d, (flatTm ts)[i]? = some d → i < ts.length * 9 ∧ xs[i]? = some (xs[i]?.getD .nilIface) := fun i d hd => by
        have hi := (List.getElem?_eq_some_iff.1 hd).1
        rw [hl] at hi
        exact ⟨hi, by rw [List.getElem?_eq_getElem (by omega)]; rfl⟩
      exact DM.rows (fun i => xs[i]?.getD .nilIface) (by omega) (by omega) (by unfold maxLen at h2; omega) hl (hblkC g rfl) hlt
        (fun i d hd => by rw [Nat.zero_add, h.own.cellAt i (at_ i d hd).1]; exact (at_ i d hd).2)
        (fun i d hd => (hms.2 i d _ hd (at_ i d hd).2).mono (fun _ hz _ => hz.1))
theorem RowM.app {w w' : World} {base g cap : Nat} {C : Nat → Prop} {v : Value} {ts : List Tm} {xs us : List Value} {x : Tm} (h : RowM w base C v ts xs) (hA : Appd w w' base 35 9 v ts.length xs us g cap) (hg : C g)
    (hx : MS w (fun z => C z ∧ v.ownBlock ≠ some z) x.ds us) : RowM w' base C (.slice (some ⟨g, 0, none⟩) (ts.length + 1) cap) (ts ++ [x]) (xs ++ us) := by
  have go : ∀ {d : D} {u : Value}, DM w (fun z => C z ∧ v.ownBlock ≠ some z) d u → DM w' (fun z => C z ∧ (Value.slice (some ⟨g, 0, none⟩) (ts.length + 1) cap).ownBlock ≠ some z) d u := fun {d u} hd => by
    refine ((hd.mono (C' := fun z => (C z ∧ v.ownBlock ≠ some z) ∧ z < w.heap.size) (fun _ hz hl => ⟨hz, hl⟩)).stays ⟨hA.size, fun z hz hl => (hA.kept z hl hz.1.2).1⟩).mono (fun z hz _ => ⟨hz.1.1, fun e => ?_⟩)
    have := (hA.kept z hz.2 hz.1.2).2
    simp [Value.ownBlock] at e
    omega
  refine ⟨by rw [List.length_append]; exact hA.own, fun g' hg' => by simp [Value.ownBlock] at hg'; exact hg' ▸ hg, ⟨?_, fun i d u hd hu => ?_⟩⟩
  · rw [flatTm_append, List.length_append, List.length_append, h.ms.1]
    have : (flatTm [x]).length = us.length := by rw [hx.1]; simp [flatTm]
    omega
  · have hf : flatTm [x] = x.ds := by simp [flatTm]
    rw [flatTm_append, hf] at hd
    by_cases hi : i < (flatTm ts).length
    · rw [List.getElem?_append_left hi] at hd
      rw [List.getElem?_append_left (by rw [h.ms.1]; exact hi)] at hu
      exact go (h.ms.2 i d u hd hu)
    · rw [List.getElem?_append_right (by omega)] at hd
      rw [List.getElem?_append_right (by rw [h.ms.1]; omega), h.ms.1] at hu
      exact go (hx.2 _ d u hd hu)
structure NewTm (w : World) (base : Nat) (C : Nat → Prop) (t : Tm) (tp : Option Addr) (tc : Nat) (rp : Option Addr) (rc : Nat) (p : Option Addr) (c : Nat) (xs : List Value) : Prop where
  ty : TS w (fun z => C z ∧ (Value.slice p t.args.length c).ownBlock ≠ some z) t.ty.args (.slice tp t.ty.args.length tc)
  res : TS w (fun z => C z ∧ (Value.slice p t.args.length c).ownBlock ≠ some z) t.res.args (.slice rp t.res.args.length rc)
  row : RowM w base C (.slice p t.args.length c) t.args xs
theorem NewTm.tm {w : World} {base : Nat} {C : Nat → Prop} {t : Tm} {tp rp p : Option Addr} {tc rc c : Nat} {xs : List Value} (h : NewTm w base C t tp tc rp rc p c xs) : TM' w C t tp tc rp rc p c :=
  ⟨h.ty.mono (fun _ hz _ => hz.1), h.res.mono (fun _ hz _ => hz.1), h.row.dm⟩
theorem NewTm.stays {w w' : World} {base : Nat} {C : Nat → Prop} {t : Tm} {tp rp p : Option Addr} {tc rc c : Nat} {xs : List Value} (h : NewTm w base C t tp tc rp rc p c xs) (hs : Stays C w w') : NewTm w' base C t tp tc rp rc p c xs :=
  ⟨h.ty.stays (hs.mono (fun _ hz => hz.1)), h.res.stays (hs.mono (fun _ hz => hz.1)), h.row.stays hs⟩
theorem NewTm.base {w : World} {a b : Nat} {C C' : Nat → Prop} {t : Tm} {tp rp p : Option Addr} {tc rc c : Nat} {xs : List Value} (h : NewTm w b C t tp tc rp rc p c xs) (hab : a ≤ b) (hC : ∀ z, C z → z < w.heap.size → C' z) : NewTm w a C' t tp tc rp rc p c xs :=
  ⟨h.ty.mono (fun z hz hl => ⟨hC z hz.1 hl, hz.2⟩), h.res.mono (fun z hz hl => ⟨hC z hz.1 hl, hz.2⟩), h.row.base hab hC⟩
theorem TM'.ms {w : World} {C : Nat → Prop} {t : Tm} {tp rp p : Option Addr} {tc rc c : Nat} (h : TM' w C t tp tc rp rc p c) :
    MS w C t.ds [.int .i64 t.kind, .string t.name, .string t.other, .int .i64 t.n, .int .i64 t.ty.kind, .slice tp t.ty.args.length tc, .int .i64 t.res.kind, .slice rp t.res.args.length rc, .slice p t.args.length c] := by
  refine ⟨by rw [t.ds_len]; rfl, fun i d v hd hv => ?_⟩
  rw [t.ds_eq] at hd
  match i, hd, hv with
  | 0, hd, hv => cases hd; cases hv; exact .cell _
  | 1, hd, hv => cases hd; cases hv; exact .cell _
  | 2, hd, hv => cases hd; cases hv; exact .cell _
  | 3, hd, hv => cases hd; cases hv; exact .cell _
  | 4, hd, hv => cases hd; cases hv; exact .cell _
  | 5, hd, hv => cases hd; cases hv; exact h.ty.dm
  | 6, hd, hv => cases hd; cases hv; exact .cell _
  | 7, hd, hv => cases hd; cases hv; exact h.res.dm
  | 8, hd, hv => cases hd; cases hv; exact h.args
  | n + 9, hd, hv => simp at hv
end Go.Proofs.YtfeijijeohfpgaaDoor
namespace Go.Proofs.YtfeijijeohfpgaaDoor
open Go Go.RowKit

theorem cell_of_blk' {w : World} {g : Nat} {cs : Array Value} {t : TypeId} {fr : Nat × Nat} (h : w.heap[g]? = some (.cells cs t fr)) {i : Nat} : w.cell? ⟨g, i, none⟩ = cs[i]? := by simp [World.cell?, h]
structure Job where
  x : Ty
  b : Nat
  o : Nat
def Free (st : List Job) (b o : Nat) : Prop := ∀ e ∈ st, ¬ (e.b = b ∧ (o = e.o ∨ o = e.o + 1))
def RootDone (w' : World) (R : Nat) (T : Ty) : Prop := ∃ s, w'.cell? ⟨R, 0, none⟩ = some (.int .i64 T.kind) ∧ w'.cell? ⟨R, 1, none⟩ = some s ∧ OS w' T.args s (fun b => R < b)
def kidsOf (b : Nat) (ys : List Ty) : List Job := ys.mapIdx fun j y => ⟨y, b, j * 2⟩
theorem kidsOf_length (b : Nat) (ys : List Ty) : (kidsOf b ys).length = ys.length := by simp [kidsOf]
theorem kidsOf_at {b : Nat} {ys : List Ty} {j : Nat} {e : Job} (h : (kidsOf b ys)[j]? = some e) : ∃ y, ys[j]? = some y ∧ e = ⟨y, b, j * 2⟩ := by
  simp only [kidsOf, List.getElem?_mapIdx, Option.map_eq_some_iff] at h
  obtain ⟨y, h1, h2⟩ := h
  exact ⟨y, h1, h2.symm⟩
theorem kidsOf_get {b : Nat} {ys : List Ty} {j : Nat} {y : Ty} (h : ys[j]? = some y) : (kidsOf b ys)[j]? = some ⟨y, b, j * 2⟩ := by
  simp [kidsOf, List.getElem?_mapIdx, h]
theorem kidsOf_mem {b : Nat} {ys : List Ty} {e : Job} (h : e ∈ kidsOf b ys) : e.b = b ∧ e.o % 2 = 0 ∧ ∃ j y, ys[j]? = some y ∧ e = ⟨y, b, j * 2⟩ := by
  obtain ⟨j, hj⟩ := List.getElem?_of_mem h
  obtain ⟨y, hy, rfl⟩ := kidsOf_at hj
  exact ⟨rfl, by simp, j, y, hy, rfl⟩

section
variable {w wn : World} {U : Nat → Prop} {st0 : List Job} {x y : Ty} {b o R : Nat} {T : Ty}

end
end Go.Proofs.YtfeijijeohfpgaaDoor
