/-
  The contracts of WithoutName, the program's and the model's: the strings of the list but for one.
-/
import Derived.Test.YtjipomnemgeaeaaDoorAppS
import Derived.Test.YtjipomnemgeaeaaDoorStrEq
import Derived.WalkSmall
namespace Go.Proofs.YtjipomnemgeaeaaDoor
open Go Go.RowKit

/-- The list without s. -/
def wo (s : ByteArray) (xs : List ByteArray) : List ByteArray := xs.filter fun x => decide (x ≠ s)
theorem wo_zero (s : ByteArray) (xs : List ByteArray) : wo s (xs.take 0) = [] := by simp [wo]
theorem wo_same {s : ByteArray} {xs : List ByteArray} {k : Nat} (hk : k < xs.length) (h : xs[k] = s) : wo s (xs.take (k + 1)) = wo s (xs.take k) := by
  rw [List.take_add_one, List.getElem?_eq_getElem hk]
  simp [wo, h]
theorem wo_other {s : ByteArray} {xs : List ByteArray} {k : Nat} (hk : k < xs.length) (h : ¬ xs[k] = s) : wo s (xs.take (k + 1)) = wo s (xs.take k) ++ [xs[k]] := by
  rw [List.take_add_one, List.getElem?_eq_getElem hk]
  show wo s (xs.take k ++ [xs[k]]) = _
  unfold wo
  rw [List.filter_append, List.filter_cons_of_pos (by simpa using h), List.filter_nil]
theorem wo_length (s : ByteArray) (xs : List ByteArray) : (wo s xs).length ≤ xs.length := List.length_filter_le _ _
theorem wo_take_length (s : ByteArray) (xs : List ByteArray) (k : Nat) : (wo s (xs.take k)).length ≤ xs.length := by
  have h1 := wo_length s (xs.take k)
  have h2 := List.length_take_le k xs
  have h3 := List.length_take_le' k xs
  omega

/-- A call that returns a new slice with just the strings ys. -/
def NewS (ys : List ByteArray) (w : World) (e : Ending) (w' : World) : Prop := ∃ v, e = .returned v ∧ Own w' w.heap.size v ys ∧ Below w.heap.size w w'

set_option maxRecDepth 100000 in
set_option maxHeartbeats 1000000 in
theorem woI_some (xs : List ByteArray) (s : ByteArray) (b o c : Nat) (w : World) (h1 : 1 ≤ xs.length) (hn : xs.length ≤ 4194304) (hb : b < w.heap.size)
    (hcell : ∀ j x, xs[j]? = some x → w.cell? ⟨b, o + j, none⟩ = some (.string x)) :
    Calls Tryd.prog 17 #[.slice (some ⟨b, o, none⟩) xs.length c, .string s] w (NewS (wo s xs) w) := by
  have HC := Lib.hid hcell
  clear hcell
  go_enter Tryd.func17, Tryd.ntmps17
  go_wp2_with fail
  go_loopw [5, 10] (fun v i wr => ∃ k : Nat, k ≤ xs.length ∧ i = .int .i64 k ∧ Own wr w.heap.size v (wo s (xs.take k)) ∧ Below w.heap.size w wr) (fun _ i _ => xs.length - (intOf i).toNat)
  case atStart => exact ⟨0, Nat.zero_le _, rfl, by rw [wo_zero]; exact own_nil _ _, Below.refl _ _⟩
  case round =>
    obtain ⟨k, hk, rfl, hown, hbr⟩ := hrel
    have hsz := hbr.size
    by_cases hlk : k < xs.length
    · have c1 : wr.cell? ⟨b, o + k, none⟩ = some (.string xs[k]) := (hbr.cell (p := ⟨b, o + k, none⟩) hb).trans (HC.out k _ (List.getElem?_eq_getElem hlk))
      have HO := Lib.hid hown
      have HB := Lib.hid hbr
      clear hown hbr
      by_cases hx : xs[k] = s
      · have t := str_yes hx
        have HX := Lib.hid (wo_same hlk hx)
        clear hx
        go_wp2_with fail
        go_roundw
        case rel => exact ⟨k + 1, by omega, by go_num, by rw [HX.out]; exact HO.out, HB.out⟩
        case measure => simp [intOf]; omega
      · have t := str_no hx
        have HX := Lib.hid (wo_other hlk hx)
        clear hx
        have hL := wo_take_length s xs k
        go_wp2_with (at_builtin; refine wpList_app_str rfl _ _ rfl w.heap.size _ _ rfl HO.out xs[k] rfl (by omega) hsz ?_; intro v' w2 hown2 hb2)
        have HR : Hid (Own w2 w.heap.size v' (wo s (xs.take (k + 1)))) := Lib.hid (by rw [HX.out]; exact hown2)
        have HB2 := Lib.hid (HB.out.trans hb2)
        clear hown2 hb2
        go_roundw
        case rel => exact ⟨k + 1, by omega, by go_num, HR.out, HB2.out⟩
        case measure => simp [intOf]; omega
    · obtain rfl : k = xs.length := by omega
      rw [List.take_length] at hown
      have HO := Lib.hid hown
      have HB := Lib.hid hbr
      clear hown hbr
      go_wp2_with fail
      go_ret
      exact ⟨_, rfl, HO.out, HB.out⟩

set_option maxRecDepth 100000 in
theorem woI_none (a : Option Addr) (s : ByteArray) (c : Nat) (w : World) :
    Calls Tryd.prog 17 #[.slice a 0 c, .string s] w (NewS [] w) := by
  go_enter Tryd.func17, Tryd.ntmps17
  go_wp2_with fail
  go_loopw [5, 10] (fun v i wr => v = .slice none 0 0 ∧ i = .int .i64 0 ∧ wr = w) (fun _ _ _ => 0)
  case atStart => exact ⟨rfl, rfl, rfl⟩
  case round =>
    obtain ⟨rfl, rfl, rfl⟩ := hrel
    go_wp2_with fail
    go_ret
    exact ⟨_, rfl, own_nil _ _, Below.refl _ _⟩

theorem woI_any (xs : List ByteArray) (v : Value) (s : ByteArray) (w : World) (hn : xs.length ≤ 4194304) (h : SS w v xs) :
    Calls Tryd.prog 17 #[v, .string s] w (NewS (wo s xs) w) := by
  rcases h with ⟨rfl, a, c, rfl⟩ | ⟨h1, b, o, c, rfl, _, hb, hcell⟩
  · exact woI_none a s c w
  · exact woI_some xs s b o c w h1 hn hb hcell

set_option maxRecDepth 100000 in
set_option maxHeartbeats 1000000 in
theorem woS_some (xs : List ByteArray) (s : ByteArray) (b o c : Nat) (w : World) (h1 : 1 ≤ xs.length) (hn : xs.length ≤ 4194304) (hb : b < w.heap.size)
    (hcell : ∀ j x, xs[j]? = some x → w.cell? ⟨b, o + j, none⟩ = some (.string x)) :
    Calls Tryd.prog 18 #[.slice (some ⟨b, o, none⟩) xs.length c, .string s] w (NewS (wo s xs) w) := by
  have HC := Lib.hid hcell
  clear hcell
  go_enter Tryd.func18, Tryd.ntmps18
  go_wp2_with fail
  go_loopw [5, 6] (fun v i wr => ∃ k : Nat, k ≤ xs.length ∧ i = .int .i64 k ∧ Own wr w.heap.size v (wo s (xs.take k)) ∧ Below w.heap.size w wr) (fun _ i _ => xs.length - (intOf i).toNat)
  case atStart => exact ⟨0, Nat.zero_le _, rfl, by rw [wo_zero]; exact own_empty w, (Below.refl _ _).alloc (Nat.le_refl _) _⟩
  case round =>
    obtain ⟨k, hk, rfl, hown, hbr⟩ := hrel
    have hsz := hbr.size
    by_cases hlk : k < xs.length
    · have c1 : wr.cell? ⟨b, o + k, none⟩ = some (.string xs[k]) := (hbr.cell (p := ⟨b, o + k, none⟩) hb).trans (HC.out k _ (List.getElem?_eq_getElem hlk))
      have HO := Lib.hid hown
      have HB := Lib.hid hbr
      clear hown hbr
      by_cases hx : xs[k] = s
      · have t := str_yes hx
        have HX := Lib.hid (wo_same hlk hx)
        clear hx
        go_wp2_with fail
        go_roundw
        case rel => exact ⟨k + 1, by omega, by go_num, by rw [HX.out]; exact HO.out, HB.out⟩
        case measure => simp [intOf]; omega
      · have t := str_no hx
        have HX := Lib.hid (wo_other hlk hx)
        clear hx
        have hL := wo_take_length s xs k
        go_wp2_with (at_builtin; refine wpList_app_str rfl _ _ rfl w.heap.size _ _ rfl HO.out xs[k] rfl (by omega) hsz ?_; intro v' w2 hown2 hb2)
        have HR : Hid (Own w2 w.heap.size v' (wo s (xs.take (k + 1)))) := Lib.hid (by rw [HX.out]; exact hown2)
        have HB2 := Lib.hid (HB.out.trans hb2)
        clear hown2 hb2
        go_roundw
        case rel => exact ⟨k + 1, by omega, by go_num, HR.out, HB2.out⟩
        case measure => simp [intOf]; omega
    · obtain rfl : k = xs.length := by omega
      rw [List.take_length] at hown
      have HO := Lib.hid hown
      have HB := Lib.hid hbr
      clear hown hbr
      go_wp2_with fail
      go_ret
      exact ⟨_, rfl, HO.out, HB.out⟩

set_option maxRecDepth 100000 in
theorem woS_none (a : Option Addr) (s : ByteArray) (c : Nat) (w : World) :
    Calls Tryd.prog 18 #[.slice a 0 c, .string s] w (NewS [] w) := by
  go_enter Tryd.func18, Tryd.ntmps18
  go_wp2_with fail
  go_loopw [5, 6] (fun v i wr => v = .slice (some ⟨w.heap.size, 0, none⟩) 0 0 ∧ i = .int .i64 0 ∧ wr = w.alloc (.cells #[] 9)) (fun _ _ _ => 0)
  case atStart => exact ⟨rfl, rfl, rfl⟩
  case round =>
    obtain ⟨rfl, rfl, rfl⟩ := hrel
    go_wp2_with fail
    go_ret
    exact ⟨_, rfl, own_empty w, (Below.refl _ _).alloc (Nat.le_refl _) _⟩

theorem woS_any (xs : List ByteArray) (v : Value) (s : ByteArray) (w : World) (hn : xs.length ≤ 4194304) (h : SS w v xs) :
    Calls Tryd.prog 18 #[v, .string s] w (NewS (wo s xs) w) := by
  rcases h with ⟨rfl, a, c, rfl⟩ | ⟨h1, b, o, c, rfl, _, hb, hcell⟩
  · exact woS_none a s c w
  · exact woS_some xs s b o c w h1 hn hb hcell
#print axioms woS_any
end Go.Proofs.YtjipomnemgeaeaaDoor
