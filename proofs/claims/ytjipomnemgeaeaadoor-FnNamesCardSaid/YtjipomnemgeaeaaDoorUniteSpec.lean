/-
  The contract of the model's UniteNames: the strings of both lists, each at its first place.
-/
import Derived.Test.YtjipomnemgeaeaaDoorAppS
import Derived.Test.YtjipomnemgeaeaaDoorIndex
namespace Go.Proofs.YtjipomnemgeaeaaDoor
open Go Go.RowKit

def hasS (x : ByteArray) (acc : List ByteArray) : Bool := acc.any fun y => decide (y = x)
theorem hasS_in {acc : List ByteArray} {x : ByteArray} (h : x ∈ acc) : hasS x acc = true := by
  unfold hasS
  rw [List.any_eq_true]
  exact ⟨x, h, by simp⟩
theorem hasS_out {acc : List ByteArray} {x : ByteArray} (h : x ∉ acc) : hasS x acc = false := by
  unfold hasS
  rw [List.any_eq_false]
  intro y hy hc
  exact h (by rw [← of_decide_eq_true hc]; exact hy)
theorem hasS_snoc (y : ByteArray) (acc : List ByteArray) (x : ByteArray) : (decide (y = x) || hasS y acc) = hasS y (acc ++ [x]) := by
  unfold hasS
  rw [List.any_append, Bool.or_comm]
  simp [eq_comm]
def addS (acc : List ByteArray) (x : ByteArray) : List ByteArray := if hasS x acc then acc else acc ++ [x]
def add (acc ys : List ByteArray) : List ByteArray := ys.foldl addS acc
def un (a b : List ByteArray) : List ByteArray := add (add [] a) b
theorem addS_in {acc : List ByteArray} {x : ByteArray} (h : x ∈ acc) : addS acc x = acc := by unfold addS; rw [if_pos (hasS_in h)]
theorem addS_out {acc : List ByteArray} {x : ByteArray} (h : x ∉ acc) : addS acc x = acc ++ [x] := by
  unfold addS
  rw [hasS_out h, if_neg (by decide)]
theorem add_nil (acc : List ByteArray) (ys : List ByteArray) : add acc (ys.take 0) = acc := rfl
theorem add_step (acc : List ByteArray) {ys : List ByteArray} {k : Nat} (hk : k < ys.length) : add acc (ys.take (k + 1)) = addS (add acc (ys.take k)) ys[k] := by
  rw [List.take_add_one, List.getElem?_eq_getElem hk]
  show add acc (ys.take k ++ [ys[k]]) = _
  unfold add
  rw [List.foldl_append]; rfl
theorem add_length : ∀ (ys acc : List ByteArray), (add acc ys).length ≤ acc.length + ys.length
  | [], acc => by simp [add]
  | y :: ys, acc => by
    have h := add_length ys (addS acc y)
    have h1 : (addS acc y).length ≤ acc.length + 1 := by
      unfold addS
      split
      · omega
      · simp
    have h2 : add acc (y :: ys) = add (addS acc y) ys := rfl
    rw [h2]
    simp only [List.length_cons]
    omega
theorem add_take_length (acc ys : List ByteArray) (k : Nat) : (add acc (ys.take k)).length ≤ acc.length + ys.length := by
  have h := add_length (ys.take k) acc
  have h1 := List.length_take_le' k ys
  omega

/-- A slice's place p bears the strings xs; of no string it says nothing. -/
def At (w : World) (p : Option Addr) (xs : List ByteArray) : Prop := ∀ j x, xs[j]? = some x → ∃ b o, p = some ⟨b, o, none⟩ ∧ b < w.heap.size ∧ w.cell? ⟨b, o + j, none⟩ = some (.string x)
theorem At.below {w w' : World} {p : Option Addr} {xs : List ByteArray} (h : At w p xs) (hb : Below w.heap.size w w') : At w' p xs := fun j x hj => by
  obtain ⟨b, o, rfl, hlt, hc⟩ := h j x hj
  exact ⟨b, o, rfl, Nat.lt_of_lt_of_le hlt hb.size, (hb.cell (p := ⟨b, o + j, none⟩) hlt).trans hc⟩
theorem SS.at {w : World} {v : Value} {xs : List ByteArray} (h : SS w v xs) : ∃ p c, v = .slice p xs.length c ∧ At w p xs := by
  rcases h with ⟨rfl, a, c, rfl⟩ | ⟨h1, b, o, c, rfl, _, hlt, hcell⟩
  · exact ⟨a, c, rfl, fun j x hj => by simp at hj⟩
  · exact ⟨_, c, rfl, fun j x hj => ⟨b, o, rfl, hlt, hcell j x hj⟩⟩

theorem ix_in {xs : List ByteArray} {s : ByteArray} (h : s ∈ xs) : decide (ixOf xs s < 0) = false := decide_eq_false (fun hc => ixOf_neg.1 hc h)
theorem ix_out {xs : List ByteArray} {s : ByteArray} (h : s ∉ xs) : decide (ixOf xs s < 0) = true := decide_eq_true (ixOf_neg.2 h)

/-- A call that returns a new slice with just the strings ys. -/
def NewS' (ys : List ByteArray) (w : World) (e : Ending) (w' : World) : Prop := ∃ v, e = .returned v ∧ Own w' w.heap.size v ys ∧ Below w.heap.size w w'

set_option maxRecDepth 100000 in
set_option maxHeartbeats 1000000 in
theorem unS_at (a b : List ByteArray) (p q : Option Addr) (c d : Nat) (w : World) (ha : a.length ≤ 1048576) (hb : b.length ≤ 1048576) (hA : At w p a) (hB : At w q b) :
    Calls Tryd.prog 16 #[.slice p a.length c, .slice q b.length d] w (NewS' (un a b) w) := by
  have HA := Lib.hid hA
  have HQ := Lib.hid hB
  clear hA hB
  go_enter Tryd.func16, Tryd.ntmps16
  go_wp2_with fail
  go_loopw [5, 6] (fun v i wr => ∃ k : Nat, k ≤ a.length ∧ i = .int .i64 k ∧ Own wr w.heap.size v (add [] (a.take k)) ∧ Below w.heap.size w wr) (fun _ i _ => a.length - (intOf i).toNat)
  case atStart => exact ⟨0, Nat.zero_le _, rfl, own_empty w, (Below.refl _ _).alloc (Nat.le_refl _) _⟩
  case round =>
    obtain ⟨k, hk, rfl, hown, hbr⟩ := hrel
    have hsz := hbr.size
    have HO := Lib.hid hown
    have HB := Lib.hid hbr
    clear hown hbr
    by_cases hlk : k < a.length
    · obtain ⟨b0, o0, rfl, hb0, c0⟩ := HA.out k _ (List.getElem?_eq_getElem hlk)
      have c1 : ∀ wx, Below wr.heap.size wr wx → wx.cell? ⟨b0, o0 + k, none⟩ = some (.string a[k]) := fun wx hx => (hx.cell (p := ⟨b0, o0 + k, none⟩) (Nat.lt_of_lt_of_le hb0 hsz)).trans ((HB.out.cell (p := ⟨b0, o0 + k, none⟩) hb0).trans c0)
      have c2 := c1 wr (Below.refl _ _)
      clear c0 c1
      have hL := add_take_length [] a k
      simp only [List.length_nil, Nat.zero_add] at hL
      have HST := Lib.hid (add_step [] hlk)
      go_wp2_with fail
      refine (ixS_any _ _ a[k] wr (by omega) HO.out.ss).mono ?_
      rintro e w1 ⟨rfl, rfl⟩
      by_cases hin : a[k] ∈ add [] (a.take k)
      · have t := ix_in hin
        have HX := Lib.hid (addS_in hin)
        clear hin
        go_wp2_with fail
        go_roundw
        case rel => exact ⟨k + 1, by omega, by go_num, by rw [HST.out, HX.out]; exact HO.out, HB.out⟩
        case measure => simp [intOf]; omega
      · have t := ix_out hin
        have HX := Lib.hid (addS_out hin)
        clear hin
        go_wp2_with (at_builtin; refine wpList_app_str rfl _ _ rfl w.heap.size _ _ rfl HO.out a[k] rfl (by omega) hsz ?_; intro v' w2 hown2 hb2)
        have HR : Hid (Own w2 w.heap.size v' (add [] (a.take (k + 1)))) := Lib.hid (by rw [HST.out, HX.out]; exact hown2)
        have HB2 := Lib.hid (HB.out.trans hb2)
        clear hown2 hb2
        go_roundw
        case rel => exact ⟨k + 1, by omega, by go_num, HR.out, HB2.out⟩
        case measure => simp [intOf]; omega
    · obtain rfl : k = a.length := by omega
      have HO1 : Hid (Own wr w.heap.size u5 (add [] a)) := Lib.hid (by have := HO.out; rw [List.take_length] at this; exact this)
      clear HO
      go_wp2_with fail
      go_loopw [5, 7] (fun v i wr => ∃ k : Nat, k ≤ b.length ∧ i = .int .i64 k ∧ Own wr w.heap.size v (add (add [] a) (b.take k)) ∧ Below w.heap.size w wr) (fun _ i _ => b.length - (intOf i).toNat)
      case atStart => exact ⟨0, Nat.zero_le _, rfl, HO1.out, HB.out⟩
      case round =>
        clear HO1 HB hsz
        obtain ⟨k, hk, rfl, hown, hbr⟩ := hrel
        have hsz := hbr.size
        have HO := Lib.hid hown
        have HB := Lib.hid hbr
        clear hown hbr
        by_cases hlk : k < b.length
        · obtain ⟨b0, o0, rfl, hb0, c0⟩ := HQ.out k _ (List.getElem?_eq_getElem hlk)
          have c2 := (HB.out.cell (p := ⟨b0, o0 + k, none⟩) hb0).trans c0
          clear c0
          have hL := add_take_length (add [] a) b k
          have hL0 := add_length a []
          simp only [List.length_nil, Nat.zero_add] at hL0
          have HST := Lib.hid (add_step (add [] a) hlk)
          go_wp2_with fail
          refine (ixS_any _ _ b[k] wr (by omega) HO.out.ss).mono ?_
          rintro e w1 ⟨rfl, rfl⟩
          by_cases hin : b[k] ∈ add (add [] a) (b.take k)
          · have t := ix_in hin
            have HX := Lib.hid (addS_in hin)
            clear hin
            go_wp2_with fail
            go_roundw
            case rel => exact ⟨k + 1, by omega, by go_num, by rw [HST.out, HX.out]; exact HO.out, HB.out⟩
            case measure => simp [intOf]; omega
          · have t := ix_out hin
            have HX := Lib.hid (addS_out hin)
            clear hin
            go_wp2_with (at_builtin; refine wpList_app_str rfl _ _ rfl w.heap.size _ _ rfl HO.out b[k] rfl (by omega) hsz ?_; intro v' w2 hown2 hb2)
            have HR : Hid (Own w2 w.heap.size v' (add (add [] a) (b.take (k + 1)))) := Lib.hid (by rw [HST.out, HX.out]; exact hown2)
            have HB2 := Lib.hid (HB.out.trans hb2)
            clear hown2 hb2
            go_roundw
            case rel => exact ⟨k + 1, by omega, by go_num, HR.out, HB2.out⟩
            case measure => simp [intOf]; omega
        · obtain rfl : k = b.length := by omega
          have HO1 : Hid (Own wr w.heap.size u5 (un a b)) := Lib.hid (by have := HO.out; rw [List.take_length] at this; exact this)
          clear HO
          go_wp2_with fail
          go_ret
          exact ⟨_, rfl, HO1.out, HB.out⟩

theorem unS_any (a b : List ByteArray) (u v : Value) (w : World) (ha : a.length ≤ 1048576) (hb : b.length ≤ 1048576) (hA : SS w u a) (hB : SS w v b) :
    Calls Tryd.prog 16 #[u, v] w (NewS' (un a b) w) := by
  obtain ⟨p, c, rfl, hp⟩ := hA.at
  obtain ⟨q, d, rfl, hq⟩ := hB.at
  exact unS_at a b p q c d w ha hb hp hq
#print axioms unS_any
end Go.Proofs.YtjipomnemgeaeaaDoor
