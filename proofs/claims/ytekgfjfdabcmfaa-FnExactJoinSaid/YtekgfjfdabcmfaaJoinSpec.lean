/-
  The contract of the model's Join: the strings put together with the separator between them.
-/
import Derived.Test.YtekgfjfdabcmfaaProg
import Derived.Test.YtekgfjfdabcmfaaStrs
import Derived.WalkSmall
import Derived.Lib.AppendStr
import Derived.Lib.Join
import Derived.Lib.Strings
import Derived.Lib.BufferRead
import Derived.Laws.OwnMore
namespace Go.Proofs.Ytekgfjfdabcmfaa
open Go Go.RowKit

theorem infoByte : (Try.prog.info? 5).map (fun i => (i.zero, i.size, i.bytes)) = some (some (.int .u8 0), 1, 1) := by kernel_rfl

def bs (xs : List ByteArray) : List (List UInt8) := xs.map (·.data.toList)
/-- The first k strings, put together. -/
def J (xs : List ByteArray) (sep : ByteArray) (k : Nat) : List UInt8 := Lib.join ((bs xs).take k) sep.data.toList
def bc (l : List UInt8) : List Value := l.map fun b => Value.int .u8 b.toNat
theorem bc_append (a b : List UInt8) : bc (a ++ b) = bc a ++ bc b := by simp [bc]
theorem J_zero (xs : List ByteArray) (sep : ByteArray) : J xs sep 0 = [] := by simp [J, Lib.join_nil]
theorem J_all (xs : List ByteArray) (sep : ByteArray) : J xs sep xs.length = Lib.join (bs xs) sep.data.toList := by
  unfold J; rw [List.take_of_length_le (by simp [bs])]
theorem J_one (xs : List ByteArray) (sep : ByteArray) (h : 0 < xs.length) : J xs sep 1 = (xs[0]).data.toList := by
  cases xs with
  | nil => simp at h
  | cons x r => simp [J, bs, Lib.join_one]
theorem J_step (xs : List ByteArray) (sep : ByteArray) (k : Nat) (h : k < xs.length) (h1 : 1 ≤ k) : J xs sep (k + 1) = J xs sep k ++ sep.data.toList ++ (xs[k]).data.toList := by
  cases xs with
  | nil => simp at h
  | cons x r =>
    obtain ⟨j, rfl⟩ : ∃ j, k = j + 1 := ⟨k - 1, by omega⟩
    have hj : j < r.length := by simpa using h
    simp only [J, bs, List.map_cons, List.take_succ_cons, Lib.join_cons]
    rw [Lib.joinTail_take_succ _ _ j (r[j]).data.toList (by rw [List.getElem?_map, List.getElem?_eq_getElem hj]; rfl)]
    simp [List.append_assoc]
theorem J_le (xs : List ByteArray) (sep : ByteArray) (k : Nat) : (J xs sep k).length ≤ (Lib.join (bs xs) sep.data.toList).length := by
  cases xs with
  | nil => simp [J, bs, Lib.join_nil]
  | cons x r =>
    cases k with
    | zero => simp [J, Lib.join_nil]
    | succ k =>
      simp only [J, bs, List.map_cons, List.take_succ_cons, Lib.join_cons, List.length_append]
      have := Lib.joinTail_take_le sep.data.toList (r.map (·.data.toList)) k
      omega
theorem row_one {xs : List ByteArray} {sep : ByteArray} {w : World} {base : Nat} {e : TypeId} {v : Value} (h0 : 0 < xs.length)
    (h : w.ownsRow base e 1 v (xs[0]).size (Lib.strCells xs[0])) : w.ownsRow base e 1 v (J xs sep 1).length (bc (J xs sep 1)) := by
  rw [J_one xs sep h0, ← Lib.size_eq]
  exact h
theorem row_step {xs : List ByteArray} {sep : ByteArray} {k : Nat} {w : World} {base : Nat} {e : TypeId} {v : Value} (hk : k < xs.length) (h1 : 1 ≤ k)
    (h : w.ownsRow base e 1 v ((J xs sep k).length + sep.size + (xs[k]).size) (bc (J xs sep k) ++ (Lib.strCells sep ++ Lib.strCells xs[k]))) : w.ownsRow base e 1 v (J xs sep (k + 1)).length (bc (J xs sep (k + 1))) := by
  rw [J_step xs sep k hk h1, List.length_append, List.length_append, ← Lib.size_eq, ← Lib.size_eq, bc_append, bc_append, List.append_assoc]
  exact h
theorem len_step {xs : List ByteArray} {sep : ByteArray} {k : Nat} (hk : k < xs.length) (h1 : 1 ≤ k) : (J xs sep k).length + sep.size + (xs[k]).size ≤ (Lib.join (bs xs) sep.data.toList).length := by
  have h := J_le xs sep (k + 1)
  rw [J_step xs sep k hk h1, List.length_append, List.length_append, ← Lib.size_eq, ← Lib.size_eq] at h
  exact h
theorem len_one {xs : List ByteArray} {sep : ByteArray} (h0 : 0 < xs.length) : (xs[0]).size ≤ (Lib.join (bs xs) sep.data.toList).length := by
  have h := J_le xs sep 1
  rw [J_one xs sep h0, ← Lib.size_eq] at h
  exact h
/-- A row of bytes of the call's own, made a string. -/
theorem string_of_row {w : World} {base : Nat} {v : Value} {l : List UInt8} (h : w.ownsRow base 5 1 v l.length (bc l)) : (convert 28 9 v).run Try.prog w = .ok (.string ⟨l.toArray⟩) w := by
  have h' := h
  rcases h.2 with ⟨rfl, h0⟩ | ⟨g, cap, cur, rfl, hg, hblk, h1, h2, h3, h4⟩
  · rw [List.eq_nil_of_length_eq_zero h0]
    exact Lib.run_convert_nil_bytes w _ _ _ 0 Try.underlying28 Try.underlying5 Try.underlying9
  · refine run_convert_bytes_back w _ _ _ _ cap l Try.underlying28 Try.underlying5 Try.underlying9 (fun j hj => ?_)
    refine h'.cells rfl j _ ?_
    unfold bc
    rw [List.getElem?_map, List.getElem?_eq_getElem hj]; rfl

set_option maxRecDepth 100000 in
set_option maxHeartbeats 1000000 in
theorem joinS_some (xs : List ByteArray) (sep : ByteArray) (b o c : Nat) (w : World) (h1 : 1 ≤ xs.length) (hn : xs.length ≤ 9223372036854775807) (hb : b < w.heap.size)
    (hlen : (Lib.join (bs xs) sep.data.toList).length ≤ 140737488355328) (hcell : ∀ j x, xs[j]? = some x → w.cell? ⟨b, o + j, none⟩ = some (.string x)) :
    Calls Try.prog 5 #[.slice (some ⟨b, o, none⟩) xs.length c, .string sep] w fun e w' => e = .returned (.string ⟨(Lib.join (bs xs) sep.data.toList).toArray⟩) ∧ Below w.heap.size w w' := by
  obtain ⟨i0, hi, hz0, hz1, hz2⟩ := info_parts infoByte
  have HC := Lib.hid hcell
  clear hcell
  go_enter Try.func5, Try.ntmps5
  go_wp2_with fail
  go_loopw [5, 6] (fun v i wr => ∃ k : Nat, k ≤ xs.length ∧ i = .int .i64 k ∧ wr.ownsRow w.heap.size 5 1 v (J xs sep k).length (bc (J xs sep k)) ∧ Below w.heap.size w wr) (fun _ i _ => xs.length - (intOf i).toNat)
  case atStart =>
    refine ⟨0, Nat.zero_le _, rfl, ?_, (Below.refl _ _).alloc (Nat.le_refl _) _⟩
    rw [J_zero]
    exact World.ownsRow_lit w #[] 0 (Nat.le_refl _) (Nat.zero_le _) rfl
  case round =>
    obtain ⟨k, hk, rfl, hown, hbr⟩ := hrel
    by_cases hlk : k < xs.length
    · have c1 : wr.cell? ⟨b, o + k, none⟩ = some (.string xs[k]) := (hbr.cell (p := ⟨b, o + k, none⟩) hb).trans (HC.out k _ (List.getElem?_eq_getElem hlk))
      have hsz := hbr.size
      by_cases hz : k = 0
      · subst hz
        have hL := len_one (sep := sep) hlk
        have c0 : wr.cell? ⟨b, o, none⟩ = some (.string xs[0]) := c1
        clear c1
        have HO := Lib.hid (show wr.ownsRow w.heap.size 5 1 u5 0 [] by rw [J_zero] at hown; exact hown)
        have HB := Lib.hid hbr
        clear hown hbr
        go_wp2_with (at_builtin; refine Lib.wpList_append_own_string _ rfl (.tmp 19) (.tmp 23) 28 9 rfl w.heap.size 5 i0 Try.underlying28 Try.underlying9 hi hz0 hz1 hz2 _ _ _ rfl HO.out xs[0] rfl ?c1 ?c2 ?c3 ?_)
        case c1 => unfold maxLen; omega
        case c2 => omega
        case c3 => exact hsz
        intro v' w2 hown2 hg _
        have hb2 : Below w.heap.size w w2 := HB.out.grown hg hsz (fun k h => (HO.out.lt k h).1)
        have HR := Lib.hid (row_one (sep := sep) hlk hown2)
        clear hg hown2
        go_wp2_with fail
        go_roundw
        case rel => exact ⟨1, by omega, by go_num, HR.out, hb2⟩
        case measure => simp [intOf]; omega
      · have hL := len_step (sep := sep) hlk (by omega)
        have HO := Lib.hid hown
        have HB := Lib.hid hbr
        clear hown hbr
        go_wp2_with (at_builtin; refine Lib.wpList_append_own_string _ rfl (.tmp 16) (.tmp 17) 28 9 rfl w.heap.size 5 i0 Try.underlying28 Try.underlying9 hi hz0 hz1 hz2 _ _ _ rfl HO.out sep rfl ?c1 ?c2 ?c3 ?_)
        case c1 => unfold maxLen; omega
        case c2 => omega
        case c3 => exact hsz
        intro v' w2 hown2 hg _
        have hb2 : Below w.heap.size w w2 := HB.out.grown hg hsz (fun k h => (HO.out.lt k h).1)
        have c2 : w2.cell? ⟨b, o + k, none⟩ = some (.string xs[k]) := (hb2.cell (p := ⟨b, o + k, none⟩) hb).trans (HC.out k _ (List.getElem?_eq_getElem hlk))
        have hsz2 := hb2.size
        have HO2 := Lib.hid hown2
        have HB2 := Lib.hid hb2
        clear hg hown2 hb2
        go_wp2_with (at_builtin; refine Lib.wpList_append_own_string _ rfl (.tmp 19) (.tmp 23) 28 9 rfl w.heap.size 5 i0 Try.underlying28 Try.underlying9 hi hz0 hz1 hz2 _ _ _ rfl HO2.out xs[k] rfl ?c1 ?c2 ?c3 ?_)
        case c1 => unfold maxLen; omega
        case c2 => omega
        case c3 => exact hsz2
        intro v3 w3 hown3 hg3 _
        have hb3 : Below w.heap.size w w3 := HB2.out.grown hg3 hsz2 (fun k h => (HO2.out.lt k h).1)
        have HR := Lib.hid (row_step hlk (by omega) hown3)
        clear hg3 hown3
        go_wp2_with fail
        go_roundw
        case rel => exact ⟨k + 1, by omega, by go_num, HR.out, hb3⟩
        case measure => simp [intOf]; omega
    · obtain rfl : k = xs.length := by omega
      rw [J_all] at hown
      have kc := string_of_row hown
      clear hown
      go_wp2_with fail
      go_ret
      exact ⟨rfl, hbr⟩

set_option maxRecDepth 100000 in
set_option maxHeartbeats 1000000 in
theorem joinS_none (a : Option Addr) (c : Nat) (sep : ByteArray) (w : World) :
    Calls Try.prog 5 #[.slice a 0 c, .string sep] w fun e w' => e = .returned (.string ⟨#[]⟩) ∧ Below w.heap.size w w' := by
  have kc : ∀ wx : World, wx.ownsRow w.heap.size 5 1 (.slice (some ⟨w.heap.size, 0, none⟩) 0 0) 0 [] → (convert 28 9 (.slice (some ⟨w.heap.size, 0, none⟩) 0 0)).run Try.prog wx = .ok (.string ⟨#[]⟩) wx :=
    fun wx h => string_of_row (l := []) h
  have k1 := kc (w.alloc (.cells #[] 5)) (World.ownsRow_lit w #[] 0 (Nat.le_refl _) (Nat.zero_le _) rfl)
  clear kc
  go_enter Try.func5, Try.ntmps5
  go_wp2_with fail
  go_loopw [5, 6] (fun v i wr => v = .slice (some ⟨w.heap.size, 0, none⟩) 0 0 ∧ i = .int .i64 0 ∧ wr = w.alloc (.cells #[] 5)) (fun _ _ _ => 0)
  case atStart => exact ⟨rfl, rfl, rfl⟩
  case round =>
    obtain ⟨rfl, rfl, rfl⟩ := hrel
    go_wp2_with fail
    go_ret
    exact ⟨rfl, (Below.refl _ _).alloc (Nat.le_refl _) _⟩

/-- THE MODEL's Join, AT EVERY SLICE OF STRINGS. -/
theorem joinS_any (xs : List ByteArray) (v : Value) (sep : ByteArray) (w : World) (hn : xs.length ≤ 9223372036854775807) (hlen : (Lib.join (bs xs) sep.data.toList).length ≤ 140737488355328) (h : SS w v xs) :
    Calls Try.prog 5 #[v, .string sep] w fun e w' => e = .returned (.string ⟨(Lib.join (bs xs) sep.data.toList).toArray⟩) ∧ Below w.heap.size w w' := by
  rcases h with ⟨rfl, a, c, rfl⟩ | ⟨h1, b, o, c, rfl, _, hb, hcell⟩
  · exact joinS_none a c sep w
  · exact joinS_some xs sep b o c w h1 hn hb hlen hcell
#print axioms joinS_any
end Go.Proofs.Ytekgfjfdabcmfaa
