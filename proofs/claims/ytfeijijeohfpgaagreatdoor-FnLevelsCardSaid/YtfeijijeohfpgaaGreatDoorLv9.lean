/-
  Several texts of the proof in one (each says below what it holds): Strs JoinSpec Copy AppS TmLongS OpArI SgI RdI2 RdI4 RdY RdB RdA RdP RdL RdR.
-/
import Derived.Test.YtfeijijeohfpgaaGreatDoorLv1
import Derived.Test.YtfeijijeohfpgaaGreatDoorLv8
import Derived.Test.YtfeijijeohfpgaaGreatDoorLv2
import Derived.Test.YtfeijijeohfpgaaGreatDoorLv3
import Derived.Test.YtfeijijeohfpgaaGreatDoorLv4
import Derived.OwnWalk
import Derived.Below
import Derived.Test.YtfeijijeohfpgaaGreatDoorProg
import Derived.WalkSmall
import Derived.Lib.AppendStr
import Derived.Lib.Join
import Derived.Lib.Strings
import Derived.Lib.BufferRead
import Derived.Laws.OwnMore
import Derived.Laws.AppendOwn
import Derived.Deep.RegionHeld3
import Derived.RegionTactic
import Derived.ChangeAlike
set_option linter.unusedVariables false
set_option linter.unusedSimpArgs false
namespace Go.Proofs.YtfeijijeohfpgaaGreatDoor
open Go Go.RowKit
def bs (xs : List ByteArray) : List (List UInt8) := xs.map (·.data.toList)
def SS (w : World) (v : Value) (xs : List ByteArray) : Prop :=
  (xs = [] ∧ ∃ a c, v = .slice a 0 c) ∨
  (1 ≤ xs.length ∧ ∃ b o c, v = .slice (some ⟨b, o, none⟩) xs.length c ∧ xs.length ≤ c ∧ b < w.heap.size ∧ ∀ j x, xs[j]? = some x → w.cell? ⟨b, o + j, none⟩ = some (.string x))

theorem SS.below {w w' : World} {v : Value} {xs : List ByteArray} (h : SS w v xs) (hb : Below w.heap.size w w') : SS w' v xs := by
  rcases h with h | ⟨h1, b, o, c, rfl, hc, hlt, hcell⟩
  · exact Or.inl h
  · exact Or.inr ⟨h1, b, o, c, rfl, hc, Nat.lt_of_lt_of_le hlt hb.size, fun j x hj => (hb.cell (p := ⟨b, o + j, none⟩) hlt).trans (hcell j x hj)⟩
theorem ownsRow_below {w w' : World} {base : Nat} {e : TypeId} {size n : Nat} {v : Value} {xs : List Value} (h : w.ownsRow base e size v n xs) (hb : Below w.heap.size w w') : w'.ownsRow base e size v n xs := by
  refine ⟨h.1, ?_⟩
  rcases h.2 with h0 | ⟨g, cap, cur, rfl, hg, hblk, h1, h2, h3, h4⟩
  · exact Or.inl h0
  · refine Or.inr ⟨g, cap, cur, rfl, hg, ?_, h1, h2, h3, h4⟩
    have hlt : g < w.heap.size := by
      rcases Nat.lt_or_ge g w.heap.size with h' | h'
      · exact h'
      · rw [Array.getElem?_eq_none h'] at hblk; cases hblk
    rw [hb.block g hlt]; exact hblk
theorem SS_of_row {w : World} {base : Nat} {e : TypeId} {n : Nat} {v : Value} {xs : List ByteArray} (h : w.ownsRow base e 1 v n (xs.map Value.string)) : SS w v xs := by
  have hn : xs.length = n := by simpa using h.1
  rcases h.2 with ⟨rfl, h0⟩ | ⟨g, cap, cur, rfl, hg, hblk, h1, h2, h3, h4⟩
  · exact Or.inl ⟨List.eq_nil_of_length_eq_zero (by omega), _, _, rfl⟩
  · by_cases hz : n = 0
    · subst hz
      exact Or.inl ⟨List.eq_nil_of_length_eq_zero hn, _, _, rfl⟩
    · have hlt : g < w.heap.size := by
        rcases Nat.lt_or_ge g w.heap.size with h' | h'
        · exact h'
        · rw [Array.getElem?_eq_none h'] at hblk; cases hblk
      refine Or.inr ⟨by omega, g, 0, cap, by rw [hn], by omega, hlt, fun j x hj => ?_⟩
      have hj1 : j < n := by
        have := (List.getElem?_eq_some_iff.1 hj).1
        omega
      rw [Nat.zero_add, World.ownsRow.cellAt (xs := xs.map Value.string) (cap := cap) (n := n) h j (by omega), List.getElem?_map, hj]
      rfl
end Go.Proofs.YtfeijijeohfpgaaGreatDoor
namespace Go.Proofs.YtfeijijeohfpgaaGreatDoor
open Go Go.RowKit

theorem infoByte : (Tryz.prog.info? 5).map (fun i => (i.zero, i.size, i.bytes)) = some (some (.int .u8 0), 1, 1) := by kernel_rfl
def J (xs : List ByteArray) (sep : ByteArray) (k : Nat) : List UInt8 := Lib.join ((bs xs).take k) sep.data.toList
def bc (l : List UInt8) : List Value := l.map fun b => Value.int .u8 b.toNat
theorem bc_append (a b : List UInt8) : bc (a ++ b) = bc a ++ bc b := by simp [bc]
theorem J_zero (xs : List ByteArray) (sep : ByteArray) : J xs sep 0 = [] := by simp [J, Lib.join_nil]
theorem J_all (xs : List ByteArray) (sep : ByteArray) : J xs sep xs.length = Lib.join (bs xs) sep.data.toList := by
  unfold J; rw [List.take_of_length_le (by simp [bs])]
theorem J_one (xs : List ByteArray) (sep : ByteArray) (h : 0 < xs.length) : J xs sep 1 = (xs[0]).data.toList := by
  cases xs with
  | nil => simp at h
  | cons x r => simp [J, bs, Lib.join_one]
theorem J_step (xs : List ByteArray) (sep : ByteArray) (k : Nat) (h : k < xs.length) (h1 : 1 ≤ k) : J xs sep (k + 1) = J xs sep k ++ sep.data.toList ++ (xs[k]).data.toList := by
  cases xs with
  | nil => simp at h
  | cons x r =>
    obtain ⟨j, rfl⟩ : ∃ j, k = j + 1 := ⟨k - 1, by omega⟩
    have hj : j < r.length := by simpa using h
    simp only [J, bs, List.map_cons, List.take_succ_cons, Lib.join_cons]
    rw [Lib.joinTail_take_succ _ _ j (r[j]).data.toList (by rw [List.getElem?_map, List.getElem?_eq_getElem hj]; rfl)]
    simp [List.append_assoc]
theorem J_le (xs : List ByteArray) (sep : ByteArray) (k : Nat) : (J xs sep k).length ≤ (Lib.join (bs xs) sep.data.toList).length := by
  cases xs with
  | nil => simp [J, bs, Lib.join_nil]
  | cons x r =>
    cases k with
    | zero => simp [J, Lib.join_nil]
    | succ k =>
      simp only [J, bs, List.map_cons, List.take_succ_cons, Lib.join_cons, List.length_append]
      have := Lib.joinTail_take_le sep.data.toList (r.map (·.data.toList)) k
      omega
theorem row_one {xs : List ByteArray} {sep : ByteArray} {w : World} {base : Nat} {e : TypeId} {v : Value} (h0 : 0 < xs.length)
    (h : w.ownsRow base e 1 v (xs[0]).size (Lib.strCells xs[0])) : w.ownsRow base e 1 v (J xs sep 1).length (bc (J xs sep 1)) := by
  rw [J_one xs sep h0, ← Lib.size_eq]
  exact h
theorem row_step {xs : List ByteArray} {sep : ByteArray} {k : Nat} {w : World} {base : Nat} {e : TypeId} {v : Value} (hk : k < xs.length) (h1 : 1 ≤ k)
    (h : w.ownsRow base e 1 v ((J xs sep k).length + sep.size + (xs[k]).size) (bc (J xs sep k) ++ (Lib.strCells sep ++ Lib.strCells xs[k]))) : w.ownsRow base e 1 v (J xs sep (k + 1)).length (bc (J xs sep (k + 1))) := by
  rw [J_step xs sep k hk h1, List.length_append, List.length_append, ← Lib.size_eq, ← Lib.size_eq, bc_append, bc_append, List.append_assoc]
  exact h
theorem len_step {xs : List ByteArray} {sep : ByteArray} {k : Nat} (hk : k < xs.length) (h1 : 1 ≤ k) : (J xs sep k).length + sep.size + (xs[k]).size ≤ (Lib.join (bs xs) sep.data.toList).length := by
  have h := J_le xs sep (k + 1)
  rw [J_step xs sep k hk h1, List.length_append, List.length_append, ← Lib.size_eq, ← Lib.size_eq] at h
  exact h
theorem len_one {xs : List ByteArray} {sep : ByteArray} (h0 : 0 < xs.length) : (xs[0]).size ≤ (Lib.join (bs xs) sep.data.toList).length := by
  have h := J_le xs sep 1
  rw [J_one xs sep h0, ← Lib.size_eq] at h
  exact h
theorem string_of_row {w : World} {base : Nat} {v : Value} {l : List UInt8} (h : w.ownsRow base 5 1 v l.length (bc l)) : (convert 22 9 v).run Tryz.prog w = .ok (.string ⟨l.toArray⟩) w := by
  have h' := h
  rcases h.2 with ⟨rfl, h0⟩ | ⟨g, cap, cur, rfl, hg, hblk, h1, h2, h3, h4⟩
  · rw [List.eq_nil_of_length_eq_zero h0]
    exact Lib.run_convert_nil_bytes w _ _ _ 0 Tryz.underlying22 Tryz.underlying5 Tryz.underlying9
  · refine run_convert_bytes_back w _ _ _ _ cap l Tryz.underlying22 Tryz.underlying5 Tryz.underlying9 (fun j hj => ?_)
    refine h'.cells rfl j _ ?_
    unfold bc
    rw [List.getElem?_map, List.getElem?_eq_getElem hj]; rfl

set_option maxRecDepth 100000 in
set_option maxHeartbeats 1000000 in
theorem joinS_some (xs : List ByteArray) (sep : ByteArray) (b o c : Nat) (w : World) (h1 : 1 ≤ xs.length) (hn : xs.length ≤ 9223372036854775807) (hb : b < w.heap.size)
    (hlen : (Lib.join (bs xs) sep.data.toList).length ≤ 140737488355328) (hcell : ∀ j x, xs[j]? = some x → w.cell? ⟨b, o + j, none⟩ = some (.string x)) :
    Calls Tryz.prog 247 #[.slice (some ⟨b, o, none⟩) xs.length c, .string sep] w fun e w' => e = .returned (.string ⟨(Lib.join (bs xs) sep.data.toList).toArray⟩) ∧ Below w.heap.size w w' := by
  obtain ⟨i0, hi, hz0, hz1, hz2⟩ := info_parts infoByte
  have HC := Lib.hid hcell
  clear hcell
  go_enter Tryz.func247, Tryz.ntmps247
  go_wp2_with fail
  go_loopw [5, 6] (fun v i wr => ∃ k : Nat, k ≤ xs.length ∧ i = .int .i64 k ∧ wr.ownsRow w.heap.size 5 1 v (J xs sep k).length (bc (J xs sep k)) ∧ Below w.heap.size w wr) (fun _ i _ => xs.length - (intOf i).toNat)
  case atStart =>
    refine ⟨0, Nat.zero_le _, rfl, ?_, (Below.refl _ _).alloc (Nat.le_refl _) _⟩
    rw [J_zero]
    exact World.ownsRow_lit w #[] 0 (Nat.le_refl _) (Nat.zero_le _) rfl
  case round =>
    obtain ⟨k, hk, rfl, hown, hbr⟩ := hrel
    by_cases hlk : k < xs.length
    · have c1 : wr.cell? ⟨b, o + k, none⟩ = some (.string xs[k]) := (hbr.cell (p := ⟨b, o + k, none⟩) hb).trans (HC.out k _ (List.getElem?_eq_getElem hlk))
      have hsz := hbr.size
      by_cases hz : k = 0
      · subst hz
        have hL := len_one (sep := sep) hlk
        have c0 : wr.cell? ⟨b, o, none⟩ = some (.string xs[0]) := c1
        clear c1
        have HO := Lib.hid (show wr.ownsRow w.heap.size 5 1 u5 0 [] by rw [J_zero] at hown; exact hown)
        have HB := Lib.hid hbr
        clear hown hbr
        go_wp2_with (at_builtin; refine Lib.wpList_append_own_string _ rfl (.tmp 19) (.tmp 23) 22 9 rfl w.heap.size 5 i0 Tryz.underlying22 Tryz.underlying9 hi hz0 hz1 hz2 _ _ _ rfl HO.out xs[0] rfl ?c1 ?c2 ?c3 ?_)
        case c1 => unfold maxLen; omega
        case c2 => omega
        case c3 => exact hsz
        intro v' w2 hown2 hg _
        have hb2 : Below w.heap.size w w2 := HB.out.grown hg hsz (fun k h => (HO.out.lt k h).1)
        have HR := Lib.hid (row_one (sep := sep) hlk hown2)
        clear hg hown2
        go_wp2_with fail
        go_roundw
        case rel => exact ⟨1, by omega, by go_num, HR.out, hb2⟩
        case measure => simp [intOf]; omega
      · have hL := len_step (sep := sep) hlk (by omega)
        have HO := Lib.hid hown
        have HB := Lib.hid hbr
        clear hown hbr
        go_wp2_with (at_builtin; refine Lib.wpList_append_own_string _ rfl (.tmp 16) (.tmp 17) 22 9 rfl w.heap.size 5 i0 Tryz.underlying22 Tryz.underlying9 hi hz0 hz1 hz2 _ _ _ rfl HO.out sep rfl ?c1 ?c2 ?c3 ?_)
        case c1 => unfold maxLen; omega
        case c2 => omega
        case c3 => exact hsz
        intro v' w2 hown2 hg _
        have hb2 : Below w.heap.size w w2 := HB.out.grown hg hsz (fun k h => (HO.out.lt k h).1)
        have c2 : w2.cell? ⟨b, o + k, none⟩ = some (.string xs[k]) := (hb2.cell (p := ⟨b, o + k, none⟩) hb).trans (HC.out k _ (List.getElem?_eq_getElem hlk))
        have hsz2 := hb2.size
        have HO2 := Lib.hid hown2
        have HB2 := Lib.hid hb2
        clear hg hown2 hb2
        go_wp2_with (at_builtin; refine Lib.wpList_append_own_string _ rfl (.tmp 19) (.tmp 23) 22 9 rfl w.heap.size 5 i0 Tryz.underlying22 Tryz.underlying9 hi hz0 hz1 hz2 _ _ _ rfl HO2.out xs[k] rfl ?c1 ?c2 ?c3 ?_)
        case c1 => unfold maxLen; omega
        case c2 => omega
        case c3 => exact hsz2
        intro v3 w3 hown3 hg3 _
        have hb3 : Below w.heap.size w w3 := HB2.out.grown hg3 hsz2 (fun k h => (HO2.out.lt k h).1)
        have HR := Lib.hid (row_step hlk (by omega) hown3)
        clear hg3 hown3
        go_wp2_with fail
        go_roundw
        case rel => exact ⟨k + 1, by omega, by go_num, HR.out, hb3⟩
        case measure => simp [intOf]; omega
    · obtain rfl : k = xs.length := by omega
      rw [J_all] at hown
      have kc := string_of_row hown
      clear hown
      go_wp2_with fail
      go_ret
      exact ⟨rfl, hbr⟩

set_option maxRecDepth 100000 in
set_option maxHeartbeats 1000000 in
theorem joinS_none (a : Option Addr) (c : Nat) (sep : ByteArray) (w : World) :
    Calls Tryz.prog 247 #[.slice a 0 c, .string sep] w fun e w' => e = .returned (.string ⟨#[]⟩) ∧ Below w.heap.size w w' := by
  have kc : ∀ wx : World, wx.ownsRow w.heap.size 5 1 (.slice (some ⟨w.heap.size, 0, none⟩) 0 0) 0 [] → (convert 22 9 (.slice (some ⟨w.heap.size, 0, none⟩) 0 0)).run Tryz.prog wx = .ok (.string ⟨#[]⟩) wx :=
    fun wx h => string_of_row (l := []) h
  have k1 := kc (w.alloc (.cells #[] 5)) (World.ownsRow_lit w #[] 0 (Nat.le_refl _) (Nat.zero_le _) rfl)
  clear kc
  go_enter Tryz.func247, Tryz.ntmps247
  go_wp2_with fail
  go_loopw [5, 6] (fun v i wr => v = .slice (some ⟨w.heap.size, 0, none⟩) 0 0 ∧ i = .int .i64 0 ∧ wr = w.alloc (.cells #[] 5)) (fun _ _ _ => 0)
  case atStart => exact ⟨rfl, rfl, rfl⟩
  case round =>
    obtain ⟨rfl, rfl, rfl⟩ := hrel
    go_wp2_with fail
    go_ret
    exact ⟨rfl, (Below.refl _ _).alloc (Nat.le_refl _) _⟩
theorem joinS_any (xs : List ByteArray) (v : Value) (sep : ByteArray) (w : World) (hn : xs.length ≤ 9223372036854775807) (hlen : (Lib.join (bs xs) sep.data.toList).length ≤ 140737488355328) (h : SS w v xs) :
    Calls Tryz.prog 247 #[v, .string sep] w fun e w' => e = .returned (.string ⟨(Lib.join (bs xs) sep.data.toList).toArray⟩) ∧ Below w.heap.size w w' := by
  rcases h with ⟨rfl, a, c, rfl⟩ | ⟨h1, b, o, c, rfl, _, hb, hcell⟩
  · exact joinS_none a c sep w
  · exact joinS_some xs sep b o c w h1 hn hb hlen hcell
end Go.Proofs.YtfeijijeohfpgaaGreatDoor
namespace Go.Proofs.YtfeijijeohfpgaaGreatDoor
open Go Go.RowKit

theorem infoStr : (Tryz.prog.info? 9).map (fun i => (i.zero, i.size, i.bytes)) = some (some (.string ⟨#[]⟩), 1, 16) := by kernel_rfl

end Go.Proofs.YtfeijijeohfpgaaGreatDoor
namespace Go.Proofs.YtfeijijeohfpgaaGreatDoor
open Go Go.RowKit
def Own (w : World) (base : Nat) (v : Value) (xs : List ByteArray) : Prop := w.ownsRow base 9 1 v xs.length (xs.map Value.string)
theorem Own.ss {w : World} {base : Nat} {v : Value} {xs : List ByteArray} (h : Own w base v xs) : SS w v xs := SS_of_row h
theorem Own.below {w w' : World} {base : Nat} {v : Value} {xs : List ByteArray} (h : Own w base v xs) (hb : Below w.heap.size w w') : Own w' base v xs := ownsRow_below h hb
theorem own_empty (w : World) : Own (w.alloc (.cells #[] 9)) w.heap.size (.slice (some ⟨w.heap.size, 0, none⟩) 0 0) [] :=
  World.ownsRow_lit w #[] 0 (Nat.le_refl _) (Nat.zero_le _) rfl

theorem wpList_app_str {w0 : World} {ops : Array Oper} {rest : List Oper} {o : Oper} {a : Act} {Q : Exit → Act → World → Prop} (hgd : o.guard = none) (s x : Operand)
    (ho : o.op = .call { callee := .builtin .append, args := #[s, x], argTypes := #[105, 105] })
    (base : Nat) (v : Value) (xs : List ByteArray) (hs : a.eval s = v) (hown : Own w0 base v xs) (y : ByteArray)
    (hx : a.eval x = .slice (some ⟨w0.heap.size, 0, none⟩) 1 1) (hlen : xs.length ≤ 8388608) (hbase : base ≤ w0.heap.size)
    (h : ∀ v' w', Own w' base v' (xs ++ [y]) → Below base w0 w' → wpList Tryz.prog ops Q rest (a.put o.dst v') w') :
    wpList Tryz.prog ops Q (o :: rest) a (w0.alloc (.cells #[.string y] 9)) := by
  obtain ⟨i0, hi, hz0, hz1, hz2⟩ := info_parts infoStr
  have hown1 := hown.below ((Below.refl w0.heap.size w0).alloc (Nat.le_refl _) (.cells #[.string y] 9))
  refine wpList_append_own _ hgd s x 105 ho base 9 i0 (.string ⟨#[]⟩) 1 16 Tryz.underlying105 hi hz0 hz1 hz2 rfl (by decide) v xs.length (xs.map Value.string) hs hown1
    ⟨w0.heap.size, 0, none⟩ 1 1 [.string y] hx rfl (cell_one_new _ _ _) (fun u hu => by simp at hu; subst hu; rfl) (by unfold maxLen; omega) (by omega) (by simp; omega) ?_
  intro v' w' hown' hg _
  refine h v' w' ?_ ?_
  · have e : (xs ++ [y]).map Value.string = xs.map Value.string ++ [Value.string y] := by simp
    have e1 : (xs ++ [y]).length = xs.length + 1 := by simp
    unfold Own
    rw [e, e1]
    exact hown'
  · exact ((Below.refl base w0).alloc hbase _).grown hg (by simp; omega) (fun k hk => (hown1.lt k hk).1)
end Go.Proofs.YtfeijijeohfpgaaGreatDoor
namespace Go.Proofs.YtfeijijeohfpgaaGreatDoor
open Go Go.RowKit

theorem tyText {C : Nat → Prop} {ty : Ty} {tp : Option Addr} {tc : Nat} {w : World} (h : TS w C ty.args (.slice tp ty.args.length tc)) (hv : ty.valid = true) (W : World) (hW : Below w.heap.size w W) :
    Calls Tryz.prog 248 #[.agg #[.int .i64 ty.kind, .slice tp ty.args.length tc]] W (StrRet ty.text W) := by
  obtain ⟨h1, _, h3⟩ := (valid_iff ty).1 hv
  have hn : nodesS ty.args ≤ 2097152 := by rw [ty.nodes_eq] at h1; omega
  have := spText_any h W ty.kind (.of_below hW) hn (by rw [← ty.eta]; exact h3)
  rwa [← ty.eta] at this
theorem valid_len {ty : Ty} (hv : ty.valid = true) : ty.text.length ≤ 90 := by
  obtain ⟨h1, _, h3⟩ := (valid_iff ty).1 hv
  have := text_le _ ty (Nat.le_refl _) h3
  omega
abbrev tb (l : List UInt8) : ByteArray := ⟨l.toArray⟩
theorem SS.one {w : World} {v : Value} {x : ByteArray} (h : SS w v [x]) : ∃ b i d, v = .slice (some ⟨b, i, none⟩) 1 d ∧ b < w.heap.size ∧ w.cell? ⟨b, i, none⟩ = some (.string x) := by
  rcases h with ⟨h, _⟩ | ⟨_, b, i, d, rfl, _, hb, hc⟩
  · cases h
  · exact ⟨b, i, d, rfl, hb, hc 0 x rfl⟩
theorem SS.two {w : World} {v : Value} {x y : ByteArray} (h : SS w v [x, y]) : ∃ b i d, v = .slice (some ⟨b, i, none⟩) 2 d ∧ b < w.heap.size ∧ w.cell? ⟨b, i, none⟩ = some (.string x) ∧ w.cell? ⟨b, i + 1, none⟩ = some (.string y) := by
  rcases h with ⟨h, _⟩ | ⟨_, b, i, d, rfl, _, hb, hc⟩
  · cases h
  · exact ⟨b, i, d, rfl, hb, hc 0 x rfl, hc 1 y rfl⟩
theorem join_call {xs : List ByteArray} {v : Value} {w : World} {J : List UInt8} (h : SS w v xs) (hJ : Lib.join (bs xs) [32] = J) (hl : J.length ≤ 140737488355328) (hn : xs.length ≤ 3) :
    Calls Tryz.prog 247 #[v, .string ⟨#[32]⟩] w (StrRet J w) := by
  have := joinS_any xs v ⟨#[32]⟩ w (by omega) (by rw [show (⟨#[32]⟩ : ByteArray).data.toList = [32] from rfl, hJ]; exact hl) h
  rw [show (⟨#[32]⟩ : ByteArray).data.toList = [32] from rfl, hJ] at this
  exact this
theorem kb {W w1 : World} {p : Addr} {v : Value} (hb : Below W.heap.size W w1) (h : W.cell? p = some v) : w1.cell? p = some v := (hb.cell (World.block_lt_of_cell? W _ h)).trans h
theorem kb1 {w W w1 : World} {p0 : Addr} {v0 : Value} (hb : Below W.heap.size W w1) (h : Below w.heap.size w W ∧ W.cell? p0 = some v0) : Below w.heap.size w w1 ∧ w1.cell? p0 = some v0 := by
  obtain ⟨h, h0⟩ := h
  exact ⟨h.trans (hb.mono h.size), kb hb h0⟩
theorem kb4 {w W w1 : World} {p0 p1 p2 p3 : Addr} {v0 v1 v2 v3 : Value} (hb : Below W.heap.size W w1) (h : Below w.heap.size w W ∧ W.cell? p0 = some v0 ∧ W.cell? p1 = some v1 ∧ W.cell? p2 = some v2 ∧ W.cell? p3 = some v3) : Below w.heap.size w w1 ∧ w1.cell? p0 = some v0 ∧ w1.cell? p1 = some v1 ∧ w1.cell? p2 = some v2 ∧ w1.cell? p3 = some v3 := by
  obtain ⟨h, h0, h1, h2, h3⟩ := h
  exact ⟨h.trans (hb.mono h.size), kb hb h0, kb hb h1, kb hb h2, kb hb h3⟩
theorem kb7 {w W w1 : World} {p0 p1 p2 p3 p4 p5 p6 : Addr} {v0 v1 v2 v3 v4 v5 v6 : Value} (hb : Below W.heap.size W w1) (h : Below w.heap.size w W ∧ W.cell? p0 = some v0 ∧ W.cell? p1 = some v1 ∧ W.cell? p2 = some v2 ∧ W.cell? p3 = some v3 ∧ W.cell? p4 = some v4 ∧ W.cell? p5 = some v5 ∧ W.cell? p6 = some v6) : Below w.heap.size w w1 ∧ w1.cell? p0 = some v0 ∧ w1.cell? p1 = some v1 ∧ w1.cell? p2 = some v2 ∧ w1.cell? p3 = some v3 ∧ w1.cell? p4 = some v4 ∧ w1.cell? p5 = some v5 ∧ w1.cell? p6 = some v6 := by
  obtain ⟨h, h0, h1, h2, h3, h4, h5, h6⟩ := h
  exact ⟨h.trans (hb.mono h.size), kb hb h0, kb hb h1, kb hb h2, kb hb h3, kb hb h4, kb hb h5, kb hb h6⟩
theorem cat_run (x : List UInt8) : (⟨#[40, 114, 117, 110, 32]⟩ : ByteArray) ++ ⟨(x).toArray⟩ ++ (⟨#[41]⟩ : ByteArray) = ⟨(40 :: 114 :: 117 :: 110 :: 32 :: (x ++ [41])).toArray⟩ := by
  apply ByteArray.ext
  simp
set_option maxRecDepth 100000 in
set_option maxHeartbeats 2000000 in
theorem long_run (x : List UInt8) (tp : Option Addr) (tc : Nat) (rp : Option Addr) (rc : Nat) (p : Option Addr) (c : Nat) (v : Value) (w : World) (hS : SS w v [tb x]) (hx : x.length ≤ 209715200) :
    Calls Tryz.prog 238 #[.agg #[.int .i64 12, .string E0, .string E0, .int .i64 0, .int .i64 0, .slice tp 0 tc, .int .i64 0, .slice rp 0 rc, .slice p 1 c], v] w (StrRet (40 :: 114 :: 117 :: 110 :: 32 :: (x ++ [41])) w) := by
  have HB := Lib.hid (al_below w (.cells #[.int .i64 12, .string E0, .string E0, .int .i64 0, .int .i64 0, .slice tp 0 tc, .int .i64 0, .slice rp 0 rc, .slice p 1 c] 29))
  obtain ⟨b, i, d, rfl, hb, hc⟩ := hS.one
  have hc1 := kb HB.out hc
  have q0 : ¬ 9223372036854775807 < 5 + x.length := by omega
  have q1 : ¬ 9223372036854775807 < 5 + x.length + 1 := by omega
  clear hc hb hx
  go_enter Tryz.func238, Tryz.ntmps238
  go_wp2_with fail
  go_ret
  exact ⟨by rw [cat_run]; rfl, HB.out⟩
theorem cat_lift (x : List UInt8) : (⟨#[40, 108, 105, 102, 116, 32]⟩ : ByteArray) ++ ⟨(x).toArray⟩ ++ (⟨#[41]⟩ : ByteArray) = ⟨(40 :: 108 :: 105 :: 102 :: 116 :: 32 :: (x ++ [41])).toArray⟩ := by
  apply ByteArray.ext
  simp
set_option maxRecDepth 100000 in
set_option maxHeartbeats 2000000 in
theorem long_lift (x : List UInt8) (tp : Option Addr) (tc : Nat) (rp : Option Addr) (rc : Nat) (p : Option Addr) (c : Nat) (v : Value) (w : World) (hS : SS w v [tb x]) (hx : x.length ≤ 209715200) :
    Calls Tryz.prog 238 #[.agg #[.int .i64 13, .string E0, .string E0, .int .i64 0, .int .i64 0, .slice tp 0 tc, .int .i64 0, .slice rp 0 rc, .slice p 1 c], v] w (StrRet (40 :: 108 :: 105 :: 102 :: 116 :: 32 :: (x ++ [41])) w) := by
  have HB := Lib.hid (al_below w (.cells #[.int .i64 13, .string E0, .string E0, .int .i64 0, .int .i64 0, .slice tp 0 tc, .int .i64 0, .slice rp 0 rc, .slice p 1 c] 29))
  obtain ⟨b, i, d, rfl, hb, hc⟩ := hS.one
  have hc1 := kb HB.out hc
  have q0 : ¬ 9223372036854775807 < 6 + x.length := by omega
  have q1 : ¬ 9223372036854775807 < 6 + x.length + 1 := by omega
  clear hc hb hx
  go_enter Tryz.func238, Tryz.ntmps238
  go_wp2_with fail
  go_ret
  exact ⟨by rw [cat_lift]; rfl, HB.out⟩
theorem cat_cond (J : List UInt8) : (⟨#[40, 105, 102, 32]⟩ : ByteArray) ++ ⟨(J).toArray⟩ ++ (⟨#[41]⟩ : ByteArray) = ⟨(40 :: 105 :: 102 :: 32 :: (J ++ [41])).toArray⟩ := by
  apply ByteArray.ext
  simp
set_option maxRecDepth 100000 in
set_option maxHeartbeats 2000000 in
theorem long_cond (x y z J : List UInt8) (tp : Option Addr) (tc : Nat) (rp : Option Addr) (rc : Nat) (p : Option Addr) (c : Nat) (v : Value) (w : World) (hS : SS w v [tb x, tb y, tb z]) (hJ : J = (x ++ 32 :: (y ++ 32 :: z))) (hx : J.length ≤ 209715200) :
    Calls Tryz.prog 238 #[.agg #[.int .i64 5, .string E0, .string E0, .int .i64 0, .int .i64 0, .slice tp 0 tc, .int .i64 0, .slice rp 0 rc, .slice p 3 c], v] w (StrRet (40 :: 105 :: 102 :: 32 :: (J ++ [41])) w) := by
  have HB := Lib.hid (al_below w (.cells #[.int .i64 5, .string E0, .string E0, .int .i64 0, .int .i64 0, .slice tp 0 tc, .int .i64 0, .slice rp 0 rc, .slice p 3 c] 29))
  have HJ := Lib.hid (join_call (J := J) (hS.below HB.out) (by rw [hJ]; exact join3 x y z) (by omega) (by simp))
  have q0 : ¬ 9223372036854775807 < 4 + J.length := by omega
  have q1 : ¬ 9223372036854775807 < 4 + J.length + 1 := by omega
  clear hJ hx hS
  go_enter Tryz.func238, Tryz.ntmps238
  go_wp2_with fail
  refine HJ.out.mono ?_
  rintro e w1 ⟨rfl, hb1⟩
  have HB1 := Lib.hid (HB.out.trans (hb1.mono HB.out.size))
  clear hb1
  go_wp2_with fail
  go_ret
  exact ⟨by rw [cat_cond]; rfl, HB1.out⟩
theorem cat_app (J : List UInt8) : (⟨#[40]⟩ : ByteArray) ++ ⟨(J).toArray⟩ ++ (⟨#[41]⟩ : ByteArray) = ⟨(40 :: (J ++ [41])).toArray⟩ := by
  apply ByteArray.ext
  simp
set_option maxRecDepth 100000 in
set_option maxHeartbeats 2000000 in
theorem long_app (x y J : List UInt8) (tp : Option Addr) (tc : Nat) (rp : Option Addr) (rc : Nat) (p : Option Addr) (c : Nat) (v : Value) (w : World) (hS : SS w v [tb x, tb y]) (hJ : J = (x ++ 32 :: y)) (hx : J.length ≤ 209715200) :
    Calls Tryz.prog 238 #[.agg #[.int .i64 7, .string E0, .string E0, .int .i64 0, .int .i64 0, .slice tp 0 tc, .int .i64 0, .slice rp 0 rc, .slice p 2 c], v] w (StrRet (40 :: (J ++ [41])) w) := by
  have HB := Lib.hid (al_below w (.cells #[.int .i64 7, .string E0, .string E0, .int .i64 0, .int .i64 0, .slice tp 0 tc, .int .i64 0, .slice rp 0 rc, .slice p 2 c] 29))
  have HJ := Lib.hid (join_call (J := J) (hS.below HB.out) (by rw [hJ]; exact join2 x y) (by omega) (by simp))
  have q0 : ¬ 9223372036854775807 < 1 + J.length := by omega
  have q1 : ¬ 9223372036854775807 < 1 + J.length + 1 := by omega
  clear hJ hx hS
  go_enter Tryz.func238, Tryz.ntmps238
  go_wp2_with fail
  refine HJ.out.mono ?_
  rintro e w1 ⟨rfl, hb1⟩
  have HB1 := Lib.hid (HB.out.trans (hb1.mono HB.out.size))
  clear hb1
  go_wp2_with fail
  go_ret
  exact ⟨by rw [cat_app]; rfl, HB1.out⟩
theorem cat_bind (a : ByteArray) (J : List UInt8) : (⟨#[40, 108, 101, 116, 32]⟩ : ByteArray) ++ a ++ (⟨#[61]⟩ : ByteArray) ++ ⟨(J).toArray⟩ ++ (⟨#[41]⟩ : ByteArray) = ⟨(40 :: 108 :: 101 :: 116 :: 32 :: (a.data.toList ++ 61 :: (J ++ [41]))).toArray⟩ := by
  apply ByteArray.ext
  simp
set_option maxRecDepth 100000 in
set_option maxHeartbeats 2000000 in
theorem long_bind (a : ByteArray) (x y J : List UInt8) (tp : Option Addr) (tc : Nat) (rp : Option Addr) (rc : Nat) (p : Option Addr) (c : Nat) (v : Value) (w : World) (hS : SS w v [tb x, tb y]) (hJ : J = (x ++ 32 :: y)) (hx : J.length ≤ 209715200) (ha : a.size ≤ 2097152) :
    Calls Tryz.prog 238 #[.agg #[.int .i64 8, .string a, .string E0, .int .i64 0, .int .i64 0, .slice tp 0 tc, .int .i64 0, .slice rp 0 rc, .slice p 2 c], v] w (StrRet (40 :: 108 :: 101 :: 116 :: 32 :: (a.data.toList ++ 61 :: (J ++ [41]))) w) := by
  have HB := Lib.hid (al_below w (.cells #[.int .i64 8, .string a, .string E0, .int .i64 0, .int .i64 0, .slice tp 0 tc, .int .i64 0, .slice rp 0 rc, .slice p 2 c] 29))
  have HJ := Lib.hid (fun (W : World) (hW : Below w.heap.size w W) => join_call (J := J) (hS.below hW) (by rw [hJ]; exact join2 x y) (by omega) (by simp))
  have q0 : ¬ 9223372036854775807 < 5 + a.size := by omega
  have q1 : ¬ 9223372036854775807 < 5 + a.size + 1 := by omega
  have q2 : ¬ 9223372036854775807 < 5 + a.size + 1 + J.length := by omega
  have q3 : ¬ 9223372036854775807 < 5 + a.size + 1 + J.length + 1 := by omega
  clear hJ hx hS ha
  go_enter Tryz.func238, Tryz.ntmps238
  go_wp2_with fail
  have hn1 : (w.alloc (.cells #[.int .i64 8, .string a, .string E0, .int .i64 0, .int .i64 0, .slice tp 0 tc, .int .i64 0, .slice rp 0 rc, .slice p 2 c] 29)).cell? ⟨w.heap.size, 1, none⟩ = some (.string a) := cell_of_blk (blk_new w _) 1
  go_region_held3 (fun w' => Below w.heap.size w w' ∧ w'.cell? ⟨w.heap.size, 1, none⟩ = some (.string a))
    (first
      | (go_keep; done)
      | exact ⟨HB.out.drew, hn1⟩
      | with_reducible exact kb1 hb1 (by assumption)
      | fail)
    (first
      | (go_at_call 247; refine (HJ.out _ (And.left (by assumption))).mono ?_; rintro e w1 ⟨rfl, hb1⟩)
      | fail)
  rename_i hH
  have HBL := Lib.hid hH.1
  clear hH
  go_wp2_with fail
  go_ret
  exact ⟨by rw [cat_bind]; rfl, HBL.out⟩
theorem cat_lam (a : ByteArray) (ty : Ty) (x : List UInt8) : (⟨#[40, 92]⟩ : ByteArray) ++ a ++ (⟨#[58]⟩ : ByteArray) ++ ⟨(ty.text).toArray⟩ ++ (⟨#[46]⟩ : ByteArray) ++ ⟨(x).toArray⟩ ++ (⟨#[41]⟩ : ByteArray) = ⟨(40 :: 92 :: (a.data.toList ++ 58 :: (ty.text ++ 46 :: (x ++ [41])))).toArray⟩ := by
  apply ByteArray.ext
  simp
set_option maxRecDepth 100000 in
set_option maxHeartbeats 2000000 in
theorem long_lam {C : Nat → Prop} (a : ByteArray) (ty : Ty) (x : List UInt8) (tp : Option Addr) (tc : Nat) (rp : Option Addr) (rc : Nat) (p : Option Addr) (c : Nat) (v : Value) (w : World) (hS : SS w v [tb x]) (hv : ty.valid = true) (hT : TS w C ty.args (.slice tp ty.args.length tc)) (hx : x.length ≤ 209715200) (ha : a.size ≤ 2097152) :
    Calls Tryz.prog 238 #[.agg #[.int .i64 6, .string a, .string E0, .int .i64 0, .int .i64 ty.kind, .slice tp ty.args.length tc, .int .i64 0, .slice rp 0 rc, .slice p 1 c], v] w (StrRet (40 :: 92 :: (a.data.toList ++ 58 :: (ty.text ++ 46 :: (x ++ [41])))) w) := by
  have HB := Lib.hid (al_below w (.cells #[.int .i64 6, .string a, .string E0, .int .i64 0, .int .i64 ty.kind, .slice tp ty.args.length tc, .int .i64 0, .slice rp 0 rc, .slice p 1 c] 29))
  have HT := Lib.hid (tyText hT hv)
  have ht := valid_len hv
  obtain ⟨b, i, d, rfl, hb, hc⟩ := hS.one
  have hc1 := kb HB.out hc
  have q0 : ¬ 9223372036854775807 < 2 + a.size := by omega
  have q1 : ¬ 9223372036854775807 < 2 + a.size + 1 := by omega
  have q2 : ¬ 9223372036854775807 < 2 + a.size + 1 + ty.text.length := by omega
  have q3 : ¬ 9223372036854775807 < 2 + a.size + 1 + ty.text.length + 1 := by omega
  have q4 : ¬ 9223372036854775807 < 2 + a.size + 1 + ty.text.length + 1 + x.length := by omega
  have q5 : ¬ 9223372036854775807 < 2 + a.size + 1 + ty.text.length + 1 + x.length + 1 := by omega
  have g1 : (w.alloc (.cells #[.int .i64 6, .string a, .string E0, .int .i64 0, .int .i64 ty.kind, .slice tp ty.args.length tc, .int .i64 0, .slice rp 0 rc, .slice p 1 c] 29)).cell? ⟨w.heap.size, 1, none⟩ = some (.string a) := cell_of_blk (blk_new w _) 1
  have g4 : (w.alloc (.cells #[.int .i64 6, .string a, .string E0, .int .i64 0, .int .i64 ty.kind, .slice tp ty.args.length tc, .int .i64 0, .slice rp 0 rc, .slice p 1 c] 29)).cell? ⟨w.heap.size, 4, none⟩ = some (.int .i64 ty.kind) := cell_of_blk (blk_new w _) 4
  have g5 : (w.alloc (.cells #[.int .i64 6, .string a, .string E0, .int .i64 0, .int .i64 ty.kind, .slice tp ty.args.length tc, .int .i64 0, .slice rp 0 rc, .slice p 1 c] 29)).cell? ⟨w.heap.size, 5, none⟩ = some (.slice tp ty.args.length tc) := cell_of_blk (blk_new w _) 5
  clear hS hT hv hx ha ht hc hb
  go_enter Tryz.func238, Tryz.ntmps238
  go_wp2_with fail
  go_region_held3 (fun w' => Below w.heap.size w w' ∧ w'.cell? ⟨w.heap.size, 1, none⟩ = some (.string a) ∧ w'.cell? ⟨w.heap.size, 4, none⟩ = some (.int .i64 ty.kind) ∧ w'.cell? ⟨w.heap.size, 5, none⟩ = some (.slice tp ty.args.length tc) ∧ w'.cell? ⟨b, i, none⟩ = some (.string (tb x)))
    (first
      | (go_keep; done)
      | exact ⟨HB.out.drew, g1, g4, g5, hc1⟩
      | with_reducible exact kb4 hb1 (by assumption)
      | fail)
    (first
      | (go_at_call 248; refine (HT.out _ (And.left (by assumption))).mono ?_; rintro e w1 ⟨rfl, hb1⟩)
      | fail)
  rename_i hH
  have HBL := Lib.hid hH.1
  clear hH
  go_wp2_with fail
  go_ret
  exact ⟨by rw [cat_lam]; rfl, HBL.out⟩
theorem cat_fix (a a2 : ByteArray) (ty res : Ty) (x : List UInt8) : (⟨#[40, 114, 101, 99, 32]⟩ : ByteArray) ++ a ++ (⟨#[32]⟩ : ByteArray) ++ a2 ++ (⟨#[58]⟩ : ByteArray) ++ ⟨(ty.text).toArray⟩ ++ (⟨#[62]⟩ : ByteArray) ++ ⟨(res.text).toArray⟩ ++ (⟨#[46]⟩ : ByteArray) ++ ⟨(x).toArray⟩ ++ (⟨#[41]⟩ : ByteArray) = ⟨(40 :: 114 :: 101 :: 99 :: 32 :: (a.data.toList ++ 32 :: (a2.data.toList ++ 58 :: (ty.text ++ 62 :: (res.text ++ 46 :: (x ++ [41])))))).toArray⟩ := by
  apply ByteArray.ext
  simp
set_option maxRecDepth 100000 in
set_option maxHeartbeats 4000000 in
theorem long_fix {C : Nat → Prop} (a a2 : ByteArray) (ty res : Ty) (x : List UInt8) (tp : Option Addr) (tc : Nat) (rp : Option Addr) (rc : Nat) (p : Option Addr) (c : Nat) (v : Value) (w : World) (hS : SS w v [tb x]) (hv : ty.valid = true) (hv2 : res.valid = true) (hT : TS w C ty.args (.slice tp ty.args.length tc)) (hR : TS w C res.args (.slice rp res.args.length rc)) (hx : x.length ≤ 209715200) (ha : a.size ≤ 2097152) (ha2 : a2.size ≤ 2097152) :
    Calls Tryz.prog 238 #[.agg #[.int .i64 9, .string a, .string a2, .int .i64 0, .int .i64 ty.kind, .slice tp ty.args.length tc, .int .i64 res.kind, .slice rp res.args.length rc, .slice p 1 c], v] w (StrRet (40 :: 114 :: 101 :: 99 :: 32 :: (a.data.toList ++ 32 :: (a2.data.toList ++ 58 :: (ty.text ++ 62 :: (res.text ++ 46 :: (x ++ [41])))))) w) := by
  have HB := Lib.hid (al_below w (.cells #[.int .i64 9, .string a, .string a2, .int .i64 0, .int .i64 ty.kind, .slice tp ty.args.length tc, .int .i64 res.kind, .slice rp res.args.length rc, .slice p 1 c] 29))
  have HT := Lib.hid (tyText hT hv)
  have HR := Lib.hid (tyText hR hv2)
  have ht := valid_len hv
  have ht2 := valid_len hv2
  obtain ⟨b, i, d, rfl, hb, hc⟩ := hS.one
  have hc1 := kb HB.out hc
  have q0 : ¬ 9223372036854775807 < 5 + a.size := by omega
  have q1 : ¬ 9223372036854775807 < 5 + a.size + 1 := by omega
  have q2 : ¬ 9223372036854775807 < 5 + a.size + 1 + a2.size := by omega
  have q3 : ¬ 9223372036854775807 < 5 + a.size + 1 + a2.size + 1 := by omega
  have q4 : ¬ 9223372036854775807 < 5 + a.size + 1 + a2.size + 1 + ty.text.length := by omega
  have q5 : ¬ 9223372036854775807 < 5 + a.size + 1 + a2.size + 1 + ty.text.length + 1 := by omega
  have q6 : ¬ 9223372036854775807 < 5 + a.size + 1 + a2.size + 1 + ty.text.length + 1 + res.text.length := by omega
  have q7 : ¬ 9223372036854775807 < 5 + a.size + 1 + a2.size + 1 + ty.text.length + 1 + res.text.length + 1 := by omega
  have q8 : ¬ 9223372036854775807 < 5 + a.size + 1 + a2.size + 1 + ty.text.length + 1 + res.text.length + 1 + x.length := by omega
  have q9 : ¬ 9223372036854775807 < 5 + a.size + 1 + a2.size + 1 + ty.text.length + 1 + res.text.length + 1 + x.length + 1 := by omega
  have g1 : (w.alloc (.cells #[.int .i64 9, .string a, .string a2, .int .i64 0, .int .i64 ty.kind, .slice tp ty.args.length tc, .int .i64 res.kind, .slice rp res.args.length rc, .slice p 1 c] 29)).cell? ⟨w.heap.size, 1, none⟩ = some (.string a) := cell_of_blk (blk_new w _) 1
  have g2 : (w.alloc (.cells #[.int .i64 9, .string a, .string a2, .int .i64 0, .int .i64 ty.kind, .slice tp ty.args.length tc, .int .i64 res.kind, .slice rp res.args.length rc, .slice p 1 c] 29)).cell? ⟨w.heap.size, 2, none⟩ = some (.string a2) := cell_of_blk (blk_new w _) 2
  have g4 : (w.alloc (.cells #[.int .i64 9, .string a, .string a2, .int .i64 0, .int .i64 ty.kind, .slice tp ty.args.length tc, .int .i64 res.kind, .slice rp res.args.length rc, .slice p 1 c] 29)).cell? ⟨w.heap.size, 4, none⟩ = some (.int .i64 ty.kind) := cell_of_blk (blk_new w _) 4
  have g5 : (w.alloc (.cells #[.int .i64 9, .string a, .string a2, .int .i64 0, .int .i64 ty.kind, .slice tp ty.args.length tc, .int .i64 res.kind, .slice rp res.args.length rc, .slice p 1 c] 29)).cell? ⟨w.heap.size, 5, none⟩ = some (.slice tp ty.args.length tc) := cell_of_blk (blk_new w _) 5
  have g6 : (w.alloc (.cells #[.int .i64 9, .string a, .string a2, .int .i64 0, .int .i64 ty.kind, .slice tp ty.args.length tc, .int .i64 res.kind, .slice rp res.args.length rc, .slice p 1 c] 29)).cell? ⟨w.heap.size, 6, none⟩ = some (.int .i64 res.kind) := cell_of_blk (blk_new w _) 6
  have g7 : (w.alloc (.cells #[.int .i64 9, .string a, .string a2, .int .i64 0, .int .i64 ty.kind, .slice tp ty.args.length tc, .int .i64 res.kind, .slice rp res.args.length rc, .slice p 1 c] 29)).cell? ⟨w.heap.size, 7, none⟩ = some (.slice rp res.args.length rc) := cell_of_blk (blk_new w _) 7
  clear hS hT hR hv hv2 hx ha ha2 ht ht2 hc hb
  go_enter Tryz.func238, Tryz.ntmps238
  go_wp2_with fail
  go_region_held3 (fun w' => Below w.heap.size w w' ∧ w'.cell? ⟨w.heap.size, 1, none⟩ = some (.string a) ∧ w'.cell? ⟨w.heap.size, 2, none⟩ = some (.string a2) ∧ w'.cell? ⟨w.heap.size, 4, none⟩ = some (.int .i64 ty.kind) ∧ w'.cell? ⟨w.heap.size, 5, none⟩ = some (.slice tp ty.args.length tc) ∧ w'.cell? ⟨w.heap.size, 6, none⟩ = some (.int .i64 res.kind) ∧ w'.cell? ⟨w.heap.size, 7, none⟩ = some (.slice rp res.args.length rc) ∧ w'.cell? ⟨b, i, none⟩ = some (.string (tb x)))
    (first
      | (go_keep; done)
      | exact ⟨HB.out.drew, g1, g2, g4, g5, g6, g7, hc1⟩
      | with_reducible exact kb7 hb2 (by assumption)
      | with_reducible exact kb7 hb1 (by assumption)
      | fail)
    (first
      | (go_at_call_of 248 (Value.agg #[.int .i64 ty.kind, .slice tp ty.args.length tc]); refine (HT.out _ (And.left (by assumption))).mono ?_; rintro e w1 ⟨rfl, hb1⟩)
      | (go_at_call_of 248 (Value.agg #[.int .i64 res.kind, .slice rp res.args.length rc]); refine (HR.out _ (And.left (by assumption))).mono ?_; rintro e w2 ⟨rfl, hb2⟩)
      | fail)
  rename_i hH
  have HBL := Lib.hid hH.1
  clear hH
  go_wp2_with fail
  go_ret
  exact ⟨by rw [cat_fix]; rfl, HBL.out⟩
end Go.Proofs.YtfeijijeohfpgaaGreatDoor
namespace Go.Proofs.YtfeijijeohfpgaaGreatDoor
open Go Go.RowKit

set_option maxRecDepth 100000 in
set_option maxHeartbeats 1000000 in
theorem opArI_any (s : ByteArray) (w : World) : Calls Tryz.prog 155 #[.string s] w fun e w' => e = .returned (.int .i64 (opAr s.toList)) ∧ w' = w := by
  go_enter Tryz.func155, Tryz.ntmps155
  go_wp2
  all_goals
    go_ret
    exact ⟨by unfold opAr; simp_all, rfl⟩
end Go.Proofs.YtfeijijeohfpgaaGreatDoor
namespace Go.Proofs.YtfeijijeohfpgaaGreatDoor
open Go Go.RowKit

end Go.Proofs.YtfeijijeohfpgaaGreatDoor
namespace Go.Proofs.YtfeijijeohfpgaaGreatDoor
open Go Go.RowKit

abbrev zeroC : Array Value := #[.int .i64 0, .string E0, .string E0, .int .i64 0, .int .i64 0, .slice none 0 0, .int .i64 0, .slice none 0 0, .slice none 0 0]
theorem set9_stays (W : World) (b : Nat) (v0 v1 v2 v3 v4 v5 v6 v7 v8 : Value) (F : Nat → Prop) (h : ¬ F b) : Stays F W (((((((((W.setCell ⟨b, 0, none⟩ v0).setCell ⟨b, 1, none⟩ v1).setCell ⟨b, 2, none⟩ v2).setCell ⟨b, 3, none⟩ v3).setCell ⟨b, 4, none⟩ v4).setCell ⟨b, 5, none⟩ v5).setCell ⟨b, 6, none⟩ v6).setCell ⟨b, 7, none⟩ v7).setCell ⟨b, 8, none⟩ v8) :=
  ((((((((setCell_stays _ _ _ _ F h).trans (setCell_stays _ _ _ _ F h)).trans (setCell_stays _ _ _ _ F h)).trans (setCell_stays _ _ _ _ F h)).trans (setCell_stays _ _ _ _ F h)).trans (setCell_stays _ _ _ _ F h)).trans (setCell_stays _ _ _ _ F h)).trans (setCell_stays _ _ _ _ F h)).trans (setCell_stays _ _ _ _ F h)
theorem set9_below (W : World) (b D : Nat) (v0 v1 v2 v3 v4 v5 v6 v7 v8 : Value) (h : D ≤ b) : Below D W (((((((((W.setCell ⟨b, 0, none⟩ v0).setCell ⟨b, 1, none⟩ v1).setCell ⟨b, 2, none⟩ v2).setCell ⟨b, 3, none⟩ v3).setCell ⟨b, 4, none⟩ v4).setCell ⟨b, 5, none⟩ v5).setCell ⟨b, 6, none⟩ v6).setCell ⟨b, 7, none⟩ v7).setCell ⟨b, 8, none⟩ v8) :=
  (((((((((Below.refl D W).setCell (p := ⟨b, 0, none⟩) h _).setCell (p := ⟨b, 1, none⟩) h _).setCell (p := ⟨b, 2, none⟩) h _).setCell (p := ⟨b, 3, none⟩) h _).setCell (p := ⟨b, 4, none⟩) h _).setCell (p := ⟨b, 5, none⟩) h _).setCell (p := ⟨b, 6, none⟩) h _).setCell (p := ⟨b, 7, none⟩) h _).setCell (p := ⟨b, 8, none⟩) h _
end Go.Proofs.YtfeijijeohfpgaaGreatDoor
namespace Go.Proofs.YtfeijijeohfpgaaGreatDoor
open Go Go.RowKit

end Go.Proofs.YtfeijijeohfpgaaGreatDoor
namespace Go.Proofs.YtfeijijeohfpgaaGreatDoor
open Go Go.RowKit

def typO (s : List UInt8) : Option Nat → Ty → Option Nat → Prop
  | some i, t, o' => (∃ j, pty s 8 i = some (t, j) ∧ o' = some j) ∨ (pty s 8 i = none ∧ o' = none)
  | none, _, o' => o' = none
set_option maxRecDepth 100000 in
set_option maxHeartbeats 1000000 in
theorem typ_bad (D : Int) (R : Nat) (s : ByteArray) (i : Nat) (w : World) (hr : Rd w R s i true) :
    Calls Tryz.prog 232 #[.pointer (some ⟨R, 0, none⟩), .int .i64 D] w fun e w' => e = .returned (.agg #[.int .i64 0, .slice none 0 0]) ∧ Rd w' R s i true ∧ w.grownBy w' (some R) := by
  have hlt := hr.lt
  obtain ⟨w0, hw0, hs0, hb0, r0⟩ := box_new w #[.int .i64 0, .slice none 0 0] 26
  have hr0 : Rd w0 R s i true := (hb0.block _ hlt).trans hr
  obtain ⟨c0, c1, c2, z1, z2⟩ := hr0.cells
  obtain ⟨h1, h2⟩ := hr0.set true
  obtain ⟨w1, hw1⟩ : ∃ w1, w0.setCell ⟨R, 2, none⟩ (.bool true) = w1 := ⟨_, rfl⟩
  rw [hw1] at h1 h2
  have hR1 := (h2.block w.heap.size (by omega) (fun e => by have := Option.some.inj e; omega)).trans r0
  obtain ⟨d0, d1, d2, y1, y2⟩ := h1.cells
  have g0 : w1.cell? ⟨w.heap.size, 0, none⟩ = some (.int .i64 0) := cell_of_blk hR1 0
  have g1 : w1.cell? ⟨w.heap.size, 1, none⟩ = some (.slice none 0 0) := cell_of_blk hR1 1
  have gz := unfrozen_of_blk hR1
  have HX := Lib.hid (And.intro h1 (And.intro (grownBy_trans (gb_below hb0 (some R)) h2) hlt))
  clear hr hr0 hb0 h1 h2 r0 hR1 hlt hs0
  go_enter Tryz.func232, Tryz.ntmps232
  go_wp2_with fail
  refine bodyPost_ret (v := .agg #[.int .i64 0, .slice none 0 0]) ?_ rfl ?_
  · rw [results_cell1 rfl]
    go_simp
  · obtain ⟨x1, x2, x3⟩ := HX.out
    have hbl : Below w.heap.size w1 ((w1.setCell ⟨w.heap.size, 0, none⟩ (.int .i64 0)).setCell ⟨w.heap.size, 1, none⟩ (.slice none 0 0)) := ((Below.refl _ w1).setCell (p := ⟨w.heap.size, 0, none⟩) (Nat.le_refl _) _).setCell (p := ⟨w.heap.size, 1, none⟩) (Nat.le_refl _) _
    exact ⟨rfl, (hbl.block _ x3).trans x1, gb_more x2 (Nat.le_refl _) hbl⟩
theorem typO_any {R : Nat} {s : ByteArray} {o : Option Nat} {w : World} (hs : s.size ≤ 1073741824) (hr : RdO w R s o) :
    Calls Tryz.prog 232 #[.pointer (some ⟨R, 0, none⟩), .int .i64 1] w fun e w' => ∃ v t o', e = .returned v ∧ TT w' (fun z => w.heap.size ≤ z) t v ∧ typO s.data.toList o t o' ∧ RdO w' R s o' ∧ w.grownBy w' (some R) := by
  cases o with
  | none =>
    obtain ⟨i, hi, h⟩ := hr
    refine (typ_bad 1 R s i w h).mono ?_
    rintro e w' ⟨rfl, h1, h2⟩
    exact ⟨_, .mk 0 [], none, rfl, ⟨_, rfl, .nil _ _⟩, rfl, ⟨i, hi, h1⟩, h2⟩
  | some i =>
    obtain ⟨hi, h⟩ := hr
    refine (typ_any R s hs 8 (Nat.le_refl _) i w hi h).mono ?_
    rintro e w' ⟨v, t, rfl, hT, hg, ho⟩
    rcases ho with ⟨j, hp, h1⟩ | ⟨hp, j, hj, h1⟩
    · have hle := (pty_good _ _ _ _ _ hp).le
      exact ⟨v, t, some j, rfl, hT, Or.inl ⟨j, hp, rfl⟩, ⟨by simpa using hle, h1⟩, hg⟩
    · exact ⟨v, t, none, rfl, hT, Or.inr ⟨hp, rfl⟩, ⟨j, hj, h1⟩, hg⟩
theorem RdO.belowAt {W W' : World} {R : Nat} {s : ByteArray} {o : Option Nat} {D : Nat} (h : RdO W R s o) (hR : R < D) (hb : Below D W W') : RdO W' R s o := by
  cases o with
  | none =>
    obtain ⟨i, hi, h⟩ := h
    exact ⟨i, hi, (hb.block _ hR).trans h⟩
  | some i => exact ⟨h.1, (hb.block _ hR).trans h.2⟩
theorem RdO.lt {W : World} {R : Nat} {s : ByteArray} {o : Option Nat} (h : RdO W R s o) : R < W.heap.size := by
  obtain ⟨i, _, h⟩ := h.cells
  exact h.lt
theorem RdO.below {W W' : World} {R : Nat} {s : ByteArray} {o : Option Nat} (h : RdO W R s o) (hb : Below W.heap.size W W') : RdO W' R s o := h.belowAt h.lt hb
theorem set9_out {w W : World} {R : Nat} {s : ByteArray} {o : Option Nat} (v0 v1 v2 v3 v4 v5 v6 v7 v8 : Value) (hg : w.grownBy W (some R)) (hR : R < w.heap.size) (hr : RdO W R s o) :
    RdO (((((((((W.setCell ⟨w.heap.size, 0, none⟩ v0).setCell ⟨w.heap.size, 1, none⟩ v1).setCell ⟨w.heap.size, 2, none⟩ v2).setCell ⟨w.heap.size, 3, none⟩ v3).setCell ⟨w.heap.size, 4, none⟩ v4).setCell ⟨w.heap.size, 5, none⟩ v5).setCell ⟨w.heap.size, 6, none⟩ v6).setCell ⟨w.heap.size, 7, none⟩ v7).setCell ⟨w.heap.size, 8, none⟩ v8) R s o ∧
    w.grownBy (((((((((W.setCell ⟨w.heap.size, 0, none⟩ v0).setCell ⟨w.heap.size, 1, none⟩ v1).setCell ⟨w.heap.size, 2, none⟩ v2).setCell ⟨w.heap.size, 3, none⟩ v3).setCell ⟨w.heap.size, 4, none⟩ v4).setCell ⟨w.heap.size, 5, none⟩ v5).setCell ⟨w.heap.size, 6, none⟩ v6).setCell ⟨w.heap.size, 7, none⟩ v7).setCell ⟨w.heap.size, 8, none⟩ v8) (some R) :=
  have hb := set9_below W w.heap.size w.heap.size v0 v1 v2 v3 v4 v5 v6 v7 v8 (Nat.le_refl _)
  ⟨hr.belowAt hR hb, gb_more hg (Nat.le_refl _) hb⟩
def numO (s : List UInt8) (i : Nat) (t : Tm) (o' : Option Nat) : Prop :=
  (okNum 0 999999 (word s i) = true ∧ t = leaf 2 E0 (rd (word s i)) ∧ o' = some (i + (word s i).length)) ∨ (okNum 0 999999 (word s i) = false ∧ t = leaf 2 E0 0 ∧ o' = none)
set_option maxRecDepth 100000 in
set_option maxHeartbeats 1000000 in
theorem numO_any {R : Nat} {s : ByteArray} {i : Nat} {w : World} (hs : s.size ≤ 1073741824) (hi : i ≤ s.size) (hr : Rd w R s i false) :
    Calls Tryz.prog 210 #[.pointer (some ⟨R, 0, none⟩)] w fun e w' => ∃ t o', e = .returned (leafV t.kind t.name t.n) ∧ numO s.data.toList i t o' ∧ RdO w' R s o' ∧ w.grownBy w' (some R) := by
  have hle := word_le (s := s.data.toList) (i := i) (by simpa using hi)
  have hle2 : i + (word s.data.toList i).length ≤ s.size := by simpa using hle
  have hlt := hr.lt
  obtain ⟨w0, hw0, hs0, hb0, r0⟩ := box_new w zeroC 29
  have HS := Lib.hid (And.intro hlt (And.intro hb0 r0))
  have hr0 : Rd w0 R s i false := (hb0.block _ hlt).trans hr
  have HW := Lib.hid (wordS_any R s i false w0 hs hi hr0)
  have HL := Lib.hid hle2
  have HN := Lib.hid (fun W => specNumber_any (bx (word s.data.toList i)) W (by have : (bx (word s.data.toList i)).size = (word s.data.toList i).length := bsz _; unfold maxLen; omega))
  clear hr hle hle2 hi hr0 hb0 r0 hlt hs0
  go_enter Tryz.func210, Tryz.ntmps210
  go_wp2_with fail
  refine HW.out.mono ?_
  rintro e w1 ⟨rfl, hr1, hg1⟩
  have HR1 := Lib.hid hr1
  have HG1 := Lib.hid hg1
  clear hr1 hg1
  go_wp2_with fail
  refine (HN.out w1).mono ?_
  rintro e w2 ⟨rfl, hb2⟩
  have hr2 : Rd w2 R s (i + (word s.data.toList i).length) false := (hb2.block _ HR1.out.lt).trans HR1.out
  obtain ⟨c0, c1, c2, z1, z2⟩ := hr2.cells
  have HR2 := Lib.hid hr2
  have HG2 := Lib.hid (gb_more HG1.out HG1.out.size hb2)
  have hnum : numOut 0 999999 (bx (word s.data.toList i)).data.toList = if okNum 0 999999 (word s.data.toList i) then .tuple #[.int .i64 (rd (word s.data.toList i)), .bool true] else .tuple #[.int .i64 0, .bool false] := rfl
  rw [hnum]
  clear hnum hr2 hb2
  obtain ⟨b, hb⟩ : ∃ b, okNum 0 999999 (word s.data.toList i) = b := ⟨_, rfl⟩
  rw [hb]
  have HB := Lib.hid hb
  clear hb
  cases b
  · have HI := Lib.hid (fun W => l5Int_any 0 W)
    have hx := HR2.out.set true
    have HX := Lib.hid hx
    obtain ⟨d0, d1, d2, y1, y2⟩ := hx.1.cells
    clear hx
    simp only [Bool.false_eq_true, if_false]
    go_wp2_with fail
    refine (HI.out _).mono ?_
    rintro e w3 ⟨rfl, hb3⟩
    have hg3 := gb_more (grownBy_trans HG2.out HX.out.2) (grownBy_trans HG2.out HX.out.2).size hb3
    have ho3 := (hg3.block w.heap.size (Array.getElem?_eq_some_iff.1 HS.out.2.2).1 (fun e => by have := Option.some.inj e; have := HS.out.1; omega)).trans HS.out.2.2
    have r0 := cell_of_blk ho3 0
    have r1 := cell_of_blk ho3 1
    have r2 := cell_of_blk ho3 2
    have r3 := cell_of_blk ho3 3
    have r4 := cell_of_blk ho3 4
    have r5 := cell_of_blk ho3 5
    have r6 := cell_of_blk ho3 6
    have r7 := cell_of_blk ho3 7
    have r8 := cell_of_blk ho3 8
    have rz := unfrozen_of_blk ho3
    simp only [List.getElem?_toArray, List.getElem?_cons_zero, List.getElem?_cons_succ] at r0 r1 r2 r3 r4 r5 r6 r7 r8
    have HG3 := Lib.hid (grownBy_trans (gb_below HS.out.2.1 (some R)) hg3)
    have HR3 : Hid (RdO w3 R s none) := Lib.hid ⟨_, HL.out, (hb3.block _ HX.out.1.lt).trans HX.out.1⟩
    clear hg3 ho3 hb3 c0 c1 c2 z1 z2 d0 d1 d2 y1 y2
    go_wp2_with fail
    refine bodyPost_ret (v := leafV 2 E0 0) ?_ rfl ?_
    · rw [results_cell1 rfl]
      go_simp
    · obtain ⟨x1, x2⟩ := set9_out (.int .i64 2) (.string E0) (.string E0) (.int .i64 0) (.int .i64 0) (.slice none 0 0) (.int .i64 0) (.slice none 0 0) (.slice none 0 0) HG3.out HS.out.1 HR3.out
      exact ⟨leaf 2 E0 0, none, rfl, Or.inr ⟨HB.out, rfl, rfl⟩, x1, x2⟩
  · have HI := Lib.hid (fun W => l5Int_any (rd (word s.data.toList i)) W)
    have hx := HR2.out.set false
    have HX := Lib.hid hx
    obtain ⟨d0, d1, d2, y1, y2⟩ := hx.1.cells
    clear hx
    simp only [if_true]
    go_wp2_with fail
    refine (HI.out _).mono ?_
    rintro e w3 ⟨rfl, hb3⟩
    have hg3 := gb_more (grownBy_trans HG2.out HX.out.2) (grownBy_trans HG2.out HX.out.2).size hb3
    have ho3 := (hg3.block w.heap.size (Array.getElem?_eq_some_iff.1 HS.out.2.2).1 (fun e => by have := Option.some.inj e; have := HS.out.1; omega)).trans HS.out.2.2
    have r0 := cell_of_blk ho3 0
    have r1 := cell_of_blk ho3 1
    have r2 := cell_of_blk ho3 2
    have r3 := cell_of_blk ho3 3
    have r4 := cell_of_blk ho3 4
    have r5 := cell_of_blk ho3 5
    have r6 := cell_of_blk ho3 6
    have r7 := cell_of_blk ho3 7
    have r8 := cell_of_blk ho3 8
    have rz := unfrozen_of_blk ho3
    simp only [List.getElem?_toArray, List.getElem?_cons_zero, List.getElem?_cons_succ] at r0 r1 r2 r3 r4 r5 r6 r7 r8
    have HG3 := Lib.hid (grownBy_trans (gb_below HS.out.2.1 (some R)) hg3)
    have HR3 : Hid (RdO w3 R s (some (i + (word s.data.toList i).length))) := Lib.hid ⟨HL.out, (hb3.block _ HX.out.1.lt).trans HX.out.1⟩
    clear hg3 ho3 hb3 c0 c1 c2 z1 z2 d0 d1 d2 y1 y2
    go_wp2_with fail
    refine bodyPost_ret (v := leafV 2 E0 (rd (word s.data.toList i))) ?_ rfl ?_
    · rw [results_cell1 rfl]
      go_simp
    · obtain ⟨x1, x2⟩ := set9_out (.int .i64 2) (.string E0) (.string E0) (.int .i64 (rd (word s.data.toList i))) (.int .i64 0) (.slice none 0 0) (.int .i64 0) (.slice none 0 0) (.slice none 0 0) HG3.out HS.out.1 HR3.out
      exact ⟨leaf 2 E0 (rd (word s.data.toList i)), (some (i + (word s.data.toList i).length)), rfl, Or.inl ⟨HB.out, rfl, rfl⟩, x1, x2⟩
end Go.Proofs.YtfeijijeohfpgaaGreatDoor
namespace Go.Proofs.YtfeijijeohfpgaaGreatDoor
open Go Go.RowKit

abbrev InR (C : Nat → Prop) (bx rb : Nat) : Nat → Prop := fun z => C z ∧ z ≠ bx ∧ z ≠ rb
structure BoxR (wb : World) (C : Nat → Prop) (R : Nat) (s : ByteArray) (bx rb : Nat) (o : Option Nat) (W : World) (t : Tm) (tp : Option Addr) (tc : Nat) (rp : Option Addr) (rc : Nat) (p : Option Addr) (c : Nat) (xs : List Value) : Prop where
  rd : RdO W R s o
  grown : wb.grownBy W (some R)
  out : W.heap[rb]? = some (.cells zeroC 29 (0, 0))
  box : W.heap[bx]? = some (.cells (tmC t tp tc rp rc p c) 29 (0, 0))
  new : NewTm W wb.heap.size (InR C bx rb) t tp tc rp rc p c xs
  hR : R < wb.heap.size
  hCR : ∀ z, C z → z ≠ R
  hCb : ∀ z, wb.heap.size ≤ z → C z
  hb : wb.heap.size ≤ bx
  hr : wb.heap.size ≤ rb
  ne : bx ≠ rb

section
variable {wb W W' : World} {C : Nat → Prop} {R bx rb : Nat} {s : ByteArray} {q q' : Option Nat} {t : Tm} {k n : Int} {a o : ByteArray} {ty res : Ty} {ts : List Tm} {tp rp p : Option Addr} {tc rc c : Nat} {xs : List Value}
theorem BoxR.bxlt (h : BoxR wb C R s bx rb q W t tp tc rp rc p c xs) : bx < W.heap.size := (Array.getElem?_eq_some_iff.1 h.box).1
theorem BoxR.rblt (h : BoxR wb C R s bx rb q W t tp tc rp rc p c xs) : rb < W.heap.size := (Array.getElem?_eq_some_iff.1 h.out).1
theorem BoxR.step (h : BoxR wb C R s bx rb q W t tp tc rp rc p c xs) (hr : RdO W' R s q') (hg : W.grownBy W' (some R)) : BoxR wb C R s bx rb q' W' t tp tc rp rc p c xs := by
  have hR := h.hR
  have hCR := h.hCR
  have hb := h.hb
  have hr' := h.hr
  exact ⟨hr, grownBy_trans h.grown hg, (hg.block _ h.rblt (fun e => by have := Option.some.inj e; omega)).trans h.out, (hg.block _ h.bxlt (fun e => by have := Option.some.inj e; omega)).trans h.box,
    h.new.stays ⟨hg.size, fun z hz hl => hg.block z hl (fun e => hCR z hz.1 (Option.some.inj e))⟩, h.hR, h.hCR, h.hCb, h.hb, h.hr, h.ne⟩
theorem inr_stays (i : Nat) (v : Value) : Stays (InR C bx rb) W (W.setCell ⟨bx, i, none⟩ v) := setCell_stays _ _ _ _ _ (by simp)
theorem BoxR.app {g cap : Nat} {x : Tm} {us : List Value} (h : BoxR wb C R s bx rb q W (.mk k a o n ty res ts) tp tc rp rc p c xs)
    (hA : Appd W W' wb.heap.size 29 9 (.slice p ts.length c) ts.length xs us g cap) (hx : MS W (fun z => InR C bx rb z ∧ (Value.slice p ts.length c).ownBlock ≠ some z) x.ds us) :
    BoxR wb C R s bx rb q (W'.setCell ⟨bx, 8, none⟩ (.slice (some ⟨g, 0, none⟩) (ts.length + 1) cap)) (.mk k a o n ty res (ts ++ [x])) tp tc rp rc (some ⟨g, 0, none⟩) cap (xs ++ us) := by
  have hR := h.hR
  have hCR := h.hCR
  have hb := h.hb
  have hr' := h.hr
  have hob : (Value.slice p ts.length c).ownBlock ≠ some bx := fun e => (h.new.row.blk _ e).2.1 rfl
  have hor : (Value.slice p ts.length c).ownBlock ≠ some rb := fun e => (h.new.row.blk _ e).2.2 rfl
  have hkb := hA.kept bx h.bxlt hob
  have hkr := hA.kept rb h.rblt hor
  have hblk := hkb.1.trans h.box
  have hbs : Below wb.heap.size W' (W'.setCell ⟨bx, 8, none⟩ (.slice (some ⟨g, 0, none⟩) (ts.length + 1) cap)) := (Below.refl _ W').setCell (p := ⟨bx, 8, none⟩) hb _
  have hbl := hA.below.trans hbs
  have hgb : InR C bx rb g := ⟨h.hCb g (hA.own.lt g rfl).1, hkb.2, hkr.2⟩
  have go : ∀ {us : List Ty} {v : Value}, TS W (fun z => InR C bx rb z ∧ (Value.slice p ts.length c).ownBlock ≠ some z) us v → TS (W'.setCell ⟨bx, 8, none⟩ (.slice (some ⟨g, 0, none⟩) (ts.length + 1) cap)) (fun z => InR C bx rb z ∧ (Value.slice (some ⟨g, 0, none⟩) (ts.length + 1) cap).ownBlock ≠ some z) us v := fun {us v} hd => by
    refine (((hd.mono (C' := fun z => (InR C bx rb z ∧ (Value.slice p ts.length c).ownBlock ≠ some z) ∧ z < W.heap.size) (fun _ hz hl => ⟨hz, hl⟩)).stays (w' := W') ⟨hA.size, fun z hz hl => (hA.kept z hl hz.1.2).1⟩).stays (setCell_stays _ _ _ _ _ (fun hz => hz.1.1.2.1 rfl))).mono (fun z hz _ => ⟨hz.1.1, fun e => ?_⟩)
    have := (hA.kept z hz.2 hz.1.2).2
    simp [Value.ownBlock] at e
    omega
  have hrow := (h.new.row.app hA hgb hx).stays (inr_stays 8 (.slice (some ⟨g, 0, none⟩) (ts.length + 1) cap))
  have e1 : (ts ++ [x]).length = ts.length + 1 := by simp
  refine ⟨h.rd.belowAt hR hbl, gb_more h.grown (Nat.le_refl _) hbl, ?_, ?_, ⟨?_, ?_, ?_⟩, h.hR, h.hCR, h.hCb, h.hb, h.hr, h.ne⟩
  · rw [heap_setCell_other W' ⟨bx, 8, none⟩ rb _ h.ne.symm]
    exact hkr.1.trans h.out
  · rw [Go.Joins.block_setCell hblk _]
    show _ = some (Obj.cells (tmC (.mk k a o n ty res (ts ++ [x])) tp tc rp rc (some ⟨g, 0, none⟩) cap) _ _)
    simp only [tmC, Tm.args, e1]
    rfl
  · show TS _ (fun z => _ ∧ (Value.slice _ (ts ++ [x]).length _).ownBlock ≠ _) _ _
    rw [e1]; exact go h.new.ty
  · show TS _ (fun z => _ ∧ (Value.slice _ (ts ++ [x]).length _).ownBlock ≠ _) _ _
    rw [e1]; exact go h.new.res
  · show RowM _ _ _ (.slice _ (ts ++ [x]).length _) _ _
    rw [e1]; exact hrow
end
def termO (f : Nat → Option (Tm × Nat)) : Option Nat → Tm → Option Nat → Prop
  | some i, t, o' => (∃ j, f i = some (t, j) ∧ o' = some j) ∨ (f i = none ∧ o' = none)
  | none, _, o' => o' = none
def argsO (f : Nat → Option (Tm × Nat)) (s : List UInt8) : Nat → Option Nat → List Tm → Option Nat → Prop
  | 0, o, ts, o' => ts = [] ∧ o' = o
  | m + 1, o, ts, o' => ∃ ts0 o0 t, argsO f s m o ts0 o0 ∧ o0 ≠ none ∧ termO f (if m = 0 then o0 else mustO [32] s o0) t o' ∧ ts = ts0 ++ [t]
theorem argsO_len {f : Nat → Option (Tm × Nat)} {s : List UInt8} : ∀ {m : Nat} {o : Option Nat} {ts : List Tm} {o' : Option Nat}, argsO f s m o ts o' → ts.length = m
  | 0, _, _, _, h => by rw [h.1]; rfl
  | m + 1, _, _, _, h => by
    obtain ⟨ts0, o0, t, h0, _, _, rfl⟩ := h
    rw [List.length_append, argsO_len h0]
    rfl
def TermRet (f : Nat → Option (Tm × Nat)) (R : Nat) (s : ByteArray) (o : Option Nat) (w : World) (e : Ending) (w' : World) : Prop :=
  ∃ v t o', e = .returned v ∧ TM w' (fun z => w.heap.size ≤ z) t v ∧ termO f o t o' ∧ RdO w' R s o' ∧ w.grownBy w' (some R)
def TermIs (f : Nat → Option (Tm × Nat)) (R : Nat) (s : ByteArray) (D : Int) : Prop := ∀ (o : Option Nat) (W : World), RdO W R s o →
  Calls Tryz.prog 183 #[.pointer (some ⟨R, 0, none⟩), .int .i64 D] W (TermRet f R s o W)
def ArgsRet (f : Nat → Option (Tm × Nat)) (R : Nat) (s : ByteArray) (N : Nat) (e0 : Tm) (o : Option Nat) (wb : World) (C : Nat → Prop) (e : Ending) (w' : World) : Prop :=
  ∃ m ts o1 tp tc rp rc p c xs, m ≤ N ∧ (m = N ∨ o1 = none) ∧ argsO f s.data.toList m o ts o1 ∧ e = .returned (tmV (withM e0 (e0.args ++ ts)) tp tc rp rc p c) ∧
    NewTm w' wb.heap.size C (withM e0 (e0.args ++ ts)) tp tc rp rc p c xs ∧ RdO w' R s (mustO [41] s.data.toList o1) ∧ wb.grownBy w' (some R)
end Go.Proofs.YtfeijijeohfpgaaGreatDoor
namespace Go.Proofs.YtfeijijeohfpgaaGreatDoor
open Go Go.RowKit

theorem rdo_drewN {W : World} {R : Nat} {s : ByteArray} {o : Option Nat} (h : RdO W R s o) (k : Nat) : RdO (W.drewN k) R s o := by
  cases o with
  | none => exact h
  | some i => exact h
theorem rdo_drew {W : World} {R : Nat} {s : ByteArray} {o : Option Nat} (h : RdO W R s o) : RdO W.drew R s o := by
  cases o with
  | none => exact h
  | some i => exact h
theorem args_fin {wb W : World} {C : Nat → Prop} {R bx rb : Nat} {s : ByteArray} {q : Option Nat} {t : Tm} {tp rp p : Option Addr} {tc rc c : Nat} {xs : List Value} (h : BoxR wb C R s bx rb q W t tp tc rp rc p c xs) :
    NewTm (((((((((W.setCell ⟨rb, 0, none⟩ (.int .i64 t.kind)).setCell ⟨rb, 1, none⟩ (.string t.name)).setCell ⟨rb, 2, none⟩ (.string t.other)).setCell ⟨rb, 3, none⟩ (.int .i64 t.n)).setCell ⟨rb, 4, none⟩ (.int .i64 t.ty.kind)).setCell ⟨rb, 5, none⟩ (.slice tp t.ty.args.length tc)).setCell ⟨rb, 6, none⟩ (.int .i64 t.res.kind)).setCell ⟨rb, 7, none⟩ (.slice rp t.res.args.length rc)).setCell ⟨rb, 8, none⟩ (.slice p t.args.length c)) wb.heap.size C t tp tc rp rc p c xs ∧ RdO (((((((((W.setCell ⟨rb, 0, none⟩ (.int .i64 t.kind)).setCell ⟨rb, 1, none⟩ (.string t.name)).setCell ⟨rb, 2, none⟩ (.string t.other)).setCell ⟨rb, 3, none⟩ (.int .i64 t.n)).setCell ⟨rb, 4, none⟩ (.int .i64 t.ty.kind)).setCell ⟨rb, 5, none⟩ (.slice tp t.ty.args.length tc)).setCell ⟨rb, 6, none⟩ (.int .i64 t.res.kind)).setCell ⟨rb, 7, none⟩ (.slice rp t.res.args.length rc)).setCell ⟨rb, 8, none⟩ (.slice p t.args.length c)) R s q ∧ wb.grownBy (((((((((W.setCell ⟨rb, 0, none⟩ (.int .i64 t.kind)).setCell ⟨rb, 1, none⟩ (.string t.name)).setCell ⟨rb, 2, none⟩ (.string t.other)).setCell ⟨rb, 3, none⟩ (.int .i64 t.n)).setCell ⟨rb, 4, none⟩ (.int .i64 t.ty.kind)).setCell ⟨rb, 5, none⟩ (.slice tp t.ty.args.length tc)).setCell ⟨rb, 6, none⟩ (.int .i64 t.res.kind)).setCell ⟨rb, 7, none⟩ (.slice rp t.res.args.length rc)).setCell ⟨rb, 8, none⟩ (.slice p t.args.length c)) (some R) := by
  have hb := set9_below W rb rb (.int .i64 t.kind) (.string t.name) (.string t.other) (.int .i64 t.n) (.int .i64 t.ty.kind) (.slice tp t.ty.args.length tc) (.int .i64 t.res.kind) (.slice rp t.res.args.length rc) (.slice p t.args.length c) (Nat.le_refl _)
  have hst := set9_stays W rb (.int .i64 t.kind) (.string t.name) (.string t.other) (.int .i64 t.n) (.int .i64 t.ty.kind) (.slice tp t.ty.args.length tc) (.int .i64 t.res.kind) (.slice rp t.res.args.length rc) (.slice p t.args.length c) (InR C bx rb) (fun h => h.2.2 rfl)
  have hR := h.hR
  have hr := h.hr
  exact ⟨(h.new.stays hst).base (Nat.le_refl _) (fun z hz _ => hz.1), h.rd.belowAt (by omega) hb, gb_more h.grown hr hb⟩
set_option maxRecDepth 100000 in
set_option maxHeartbeats 6000000 in
theorem l6Args_any {f : Nat → Option (Tm × Nat)} {R : Nat} {s : ByteArray} {D : Int} (hT : TermIs f R s D) (hs : s.size ≤ 1073741824) (N : Nat) (hN : N ≤ 3) (kk : Int) (a o : ByteArray) (n : Int) (ty res : Ty) (es : List Tm) (he : es.length ≤ 1) (tp : Option Addr) (tc : Nat) (rp : Option Addr) (rc : Nat) (p : Option Addr) (c : Nat) (xs : List Value) (wb w : World) (q : Option Nat)
    (hr : RdO w R s q) (hg : wb.grownBy w (some R)) (C : Nat → Prop) (hRb : R < wb.heap.size) (hCR : ∀ z, C z → z ≠ R) (hCb : ∀ z, wb.heap.size ≤ z → C z) (hn : NewTm w wb.heap.size C (.mk kk a o n ty res es) tp tc rp rc p c xs) :
    Calls Tryz.prog 233 #[.pointer (some ⟨R, 0, none⟩), tmV (.mk kk a o n ty res es) tp tc rp rc p c, .int .i64 N, .int .i64 D] w (ArgsRet f R s N (.mk kk a o n ty res es) q wb C) := by
  obtain ⟨i0, hi, hz0, hz1, hz2⟩ := info_parts infoTm
  obtain ⟨w0, hw0, hs0, hb0, r0, r1⟩ := box_new2 w (tmC (.mk kk a o n ty res es) tp tc rp rc p c) zeroC 29 29
  have hwz := hg.size
  have hB0 : BoxR wb C R s w.heap.size (w.heap.size + 1) q w0 (.mk kk a o n ty res es) tp tc rp rc p c xs :=
    ⟨hr.below hb0, gb_more hg hwz hb0, r1, r0, (hn.base (Nat.le_refl _) (fun z hz hl => ⟨hz, by omega, by omega⟩)).stays (.of_below (hb0.mono (by omega))) , hRb, hCR, hCb, hwz, by omega, by omega⟩
  have HB0 := Lib.hid hB0
  have HT := Lib.hid hT
  clear hB0 hb0 r0 r1 hs0 hr hg hn hT hwz hCR hCb
  go_enter Tryz.func233, Tryz.ntmps233
  go_wp2_with fail
  go_loopw [9] (fun v wr => ∃ m ts us o1 p c xs, m ≤ N ∧ v = .int .i64 (m : Nat) ∧ argsO f s.data.toList m q ts o1 ∧ us = es ++ ts ∧ BoxR wb C R s w.heap.size (w.heap.size + 1) o1 wr (.mk kk a o n ty res us) tp tc rp rc p c xs) (fun v _ => N - (intOf v).toNat)
  case atStart => exact ⟨0, [], es, q, p, c, xs, Nat.zero_le _, rfl, ⟨rfl, rfl⟩, by rw [List.append_nil], HB0.out⟩
  case round =>
    obtain ⟨m, ts, us, o1, p, c, xs, hm, rfl, har, hus, hB⟩ := hrel
    have hlen := argsO_len har
    have hl4 : us.length ≤ 4 := by rw [hus, List.length_append]; omega
    have HUS := Lib.hid hus
    have HL4 := Lib.hid hlen
    have HAR := Lib.hid har
    have HB := Lib.hid hB
    have j0 : (0 : Int) ≤ (m : Int) := Int.natCast_nonneg _
    clear har hlen hus
    by_cases hgo : m < N ∧ o1 ≠ none
    · obtain ⟨hlt, hno⟩ := hgo
      obtain ⟨i, rfl⟩ : ∃ i, o1 = some i := by
        cases o1 with
        | none => exact absurd rfl hno
        | some i => exact ⟨i, rfl⟩
      obtain ⟨c0, c1, c2, z1, z2⟩ := hB.rd.2.cells
      have hd : decide ((m : Int) < (N : Int)) = true := decide_eq_true (by omega)
      clear hB hno
      by_cases hm0 : m = 0
      · have HOSTEP := Lib.hid (fun t o' (h : termO f (some i) t o') => show termO f (if m = 0 then some i else mustO [32] s.data.toList (some i)) t o' by rw [if_pos hm0]; exact h)
        have hgt : decide (0 < m) = false := decide_eq_false (by omega)
        have HB2 := Lib.hid HB.out
        clear hm0
        have hB2d : BoxR wb C R s w.heap.size (w.heap.size + 1) (some i) wr.drew (.mk kk a o n ty res us) tp tc rp rc p c xs := HB2.out.step (rdo_drew HB2.out.rd) (gb_drew (grown_refl _ _))
        have HB2D := Lib.hid hB2d
        have hcall := HT.out (some i) wr.drew hB2d.rd
        have HC := Lib.hid hcall
        have d8 := cell_of_blk HB2.out.box 8
        simp only [tmC, List.getElem?_toArray, List.getElem?_cons_zero, List.getElem?_cons_succ, Tm.args] at d8
        have dz := unfrozen_of_blk HB2.out.box
        clear hB2d hcall
        go_wp2_with fail
        go_region_law (first
          | (refine step_app1 (w0 := w6) (v := .slice p us.length c) (n := us.length) (xs := xs) rfl (.tmp 27) (.tmp 31) rfl Tryz.underlying27 hi hz0 hz1 hz2 rfl (by decide) rfl HB6.out.new.row.own _ rfl (by simp) rfl (fun u hu => by simp at hu; rcases hu with rfl | rfl | rfl | rfl | rfl | rfl | rfl | rfl | rfl <;> rfl) (by unfold maxLen; omega) (by omega) (by have := HB6.out.bxlt; have := HB6.out.hb; omega) ?_; intro w' g2' cap2 hA; have d6b := (hA.kept w.heap.size HB6.out.bxlt (fun e => (HB6.out.new.row.blk _ e).2.1 rfl)).1.trans HB6.out.box; have d6 : w'.cell? ⟨w.heap.size, 8, none⟩ = some (.slice p us.length c) := cell_of_blk d6b 8; have d6z := unfrozen_of_blk d6b)
          | (go_simp; go_at_call 183; refine HC.out.mono ?_; rintro e w6 ⟨v6, t6, o6, rfl, ⟨tp6, tc6, rp6, rc6, p6, c6, rfl, hN6⟩, ho6, hr6, hg6⟩; have hb6 := HB2D.out.step hr6 hg6; have HB6 := Lib.hid hb6; have HO6 := Lib.hid ho6; have d4 : w6.cell? ⟨w.heap.size, 8, none⟩ = some (.slice p us.length c) := cell_of_blk hb6.box 8; have d4z := unfrozen_of_blk hb6.box; have d5 := fun (o : Obj) => al_cell d4 o; clear hb6 ho6 hr6))
        all_goals
          have hown : ∀ z, wr.drew.heap.size ≤ z → (Value.slice p us.length c).ownBlock ≠ some z := fun z hz e => by
            have := (HB2D.out.new.row.own.lt z e).2
            omega
          have hx := (hN6.mono (C' := fun z => InR C w.heap.size (w.heap.size + 1) z ∧ (Value.slice p us.length c).ownBlock ≠ some z) (fun z hz _ => ⟨⟨HB2D.out.hCb z (by have := HB2D.out.bxlt; have := HB2D.out.hb; omega), by have := HB2D.out.bxlt; omega, by have := HB2D.out.rblt; omega⟩, hown z hz⟩)).ms
          have HBZ := Lib.hid (HB6.out.app hA hx)
          have HAZ := Lib.hid (show argsO f s.data.toList (m + 1) q (ts ++ [t6]) o6 from ⟨ts, _, t6, HAR.out, by simp, (HOSTEP.out _ _ HO6.out), rfl⟩)
          clear hx hown hA hN6 hg6 d4 d4z d5 d6b d6 d6z d8 dz
          go_wp2_with fail
          go_roundw
          case rel => exact ⟨m + 1, ts ++ [t6], us ++ [t6], o6, some ⟨g2', 0, none⟩, cap2, _, by omega, by go_num, HAZ.out, by rw [HUS.out, List.append_assoc], HBZ.out⟩
          case measure => simp [intOf]; omega
      · have HOSTEP := Lib.hid (fun t o' (h : termO f (mustO [32] s.data.toList (some i)) t o') => show termO f (if m = 0 then some i else mustO [32] s.data.toList (some i)) t o' by rw [if_neg hm0]; exact h)
        have hgt : decide (0 < m) = true := decide_eq_true (by omega)
        have HQ := Lib.hid (mustO_any (o := some i) [32] (by decide) hs HB.out.rd)
        clear hm0
        go_wp2_with fail
        refine HQ.out.mono ?_
        rintro e w2 ⟨rfl, hr2, hg2⟩
        have HB2 := Lib.hid (HB.out.step hr2 hg2)
        clear hr2 hg2 c0 c1 c2 z1 z2
        have hB2d : BoxR wb C R s w.heap.size (w.heap.size + 1) (mustO [32] s.data.toList (some i)) w2.drew (.mk kk a o n ty res us) tp tc rp rc p c xs := HB2.out.step (rdo_drew HB2.out.rd) (gb_drew (grown_refl _ _))
        have HB2D := Lib.hid hB2d
        have hcall := HT.out (mustO [32] s.data.toList (some i)) w2.drew hB2d.rd
        have HC := Lib.hid hcall
        have d8 := cell_of_blk HB2.out.box 8
        simp only [tmC, List.getElem?_toArray, List.getElem?_cons_zero, List.getElem?_cons_succ, Tm.args] at d8
        have dz := unfrozen_of_blk HB2.out.box
        clear hB2d hcall
        go_wp2_with fail
        go_region_law (first
          | (refine step_app1 (w0 := w6) (v := .slice p us.length c) (n := us.length) (xs := xs) rfl (.tmp 27) (.tmp 31) rfl Tryz.underlying27 hi hz0 hz1 hz2 rfl (by decide) rfl HB6.out.new.row.own _ rfl (by simp) rfl (fun u hu => by simp at hu; rcases hu with rfl | rfl | rfl | rfl | rfl | rfl | rfl | rfl | rfl <;> rfl) (by unfold maxLen; omega) (by omega) (by have := HB6.out.bxlt; have := HB6.out.hb; omega) ?_; intro w' g2' cap2 hA; have d6b := (hA.kept w.heap.size HB6.out.bxlt (fun e => (HB6.out.new.row.blk _ e).2.1 rfl)).1.trans HB6.out.box; have d6 : w'.cell? ⟨w.heap.size, 8, none⟩ = some (.slice p us.length c) := cell_of_blk d6b 8; have d6z := unfrozen_of_blk d6b)
          | (go_simp; go_at_call 183; refine HC.out.mono ?_; rintro e w6 ⟨v6, t6, o6, rfl, ⟨tp6, tc6, rp6, rc6, p6, c6, rfl, hN6⟩, ho6, hr6, hg6⟩; have hb6 := HB2D.out.step hr6 hg6; have HB6 := Lib.hid hb6; have HO6 := Lib.hid ho6; have d4 : w6.cell? ⟨w.heap.size, 8, none⟩ = some (.slice p us.length c) := cell_of_blk hb6.box 8; have d4z := unfrozen_of_blk hb6.box; have d5 := fun (o : Obj) => al_cell d4 o; clear hb6 ho6 hr6))
        all_goals
          have hown : ∀ z, w2.drew.heap.size ≤ z → (Value.slice p us.length c).ownBlock ≠ some z := fun z hz e => by
            have := (HB2D.out.new.row.own.lt z e).2
            omega
          have hx := (hN6.mono (C' := fun z => InR C w.heap.size (w.heap.size + 1) z ∧ (Value.slice p us.length c).ownBlock ≠ some z) (fun z hz _ => ⟨⟨HB2D.out.hCb z (by have := HB2D.out.bxlt; have := HB2D.out.hb; omega), by have := HB2D.out.bxlt; omega, by have := HB2D.out.rblt; omega⟩, hown z hz⟩)).ms
          have HBZ := Lib.hid (HB6.out.app hA hx)
          have HAZ := Lib.hid (show argsO f s.data.toList (m + 1) q (ts ++ [t6]) o6 from ⟨ts, _, t6, HAR.out, by simp, (HOSTEP.out _ _ HO6.out), rfl⟩)
          clear hx hown hA hN6 hg6 d4 d4z d5 d6b d6 d6z d8 dz
          go_wp2_with fail
          go_roundw
          case rel => exact ⟨m + 1, ts ++ [t6], us ++ [t6], o6, some ⟨g2', 0, none⟩, cap2, _, by omega, by go_num, HAZ.out, by rw [HUS.out, List.append_assoc], HBZ.out⟩
          case measure => simp [intOf]; omega
    · have HEND := Lib.hid (show m = N ∨ o1 = none by
        by_cases h : o1 = none
        · exact Or.inr h
        · exact Or.inl (by have : ¬ m < N := fun h2 => hgo ⟨h2, h⟩; omega))
      obtain ⟨i, -, hrd⟩ := hB.rd.cells
      obtain ⟨c0, c1, c2, z1, z2⟩ := hrd.cells
      have HQ := Lib.hid (mustO_any (o := o1) [41] (by decide) hs hB.rd)
      have hd : decide (m < N) = false ∨ (decide (m < N) = true ∧ o1.isNone = true) := by
        by_cases h : m < N
        · refine Or.inr ⟨decide_eq_true (by omega), ?_⟩
          cases o1 with
          | none => rfl
          | some i => exact absurd ⟨h, by simp⟩ hgo
        · exact Or.inl (decide_eq_false (by omega))
      clear hB hgo hrd
      rcases hd with hd | ⟨hd, hbad⟩
      · go_wp2_with fail
        refine HQ.out.mono ?_
        rintro e w2 ⟨rfl, hr2, hg2⟩
        have hB2 := HB.out.step hr2 hg2
        have HB2 := Lib.hid hB2
        have g0 := cell_of_blk hB2.box 0
        have g1 := cell_of_blk hB2.box 1
        have g2 := cell_of_blk hB2.box 2
        have g3 := cell_of_blk hB2.box 3
        have g4 := cell_of_blk hB2.box 4
        have g5 := cell_of_blk hB2.box 5
        have g6 := cell_of_blk hB2.box 6
        have g7 := cell_of_blk hB2.box 7
        have g8 := cell_of_blk hB2.box 8
        have r0 := cell_of_blk hB2.out 0
        have r1 := cell_of_blk hB2.out 1
        have r2 := cell_of_blk hB2.out 2
        have r3 := cell_of_blk hB2.out 3
        have r4 := cell_of_blk hB2.out 4
        have r5 := cell_of_blk hB2.out 5
        have r6 := cell_of_blk hB2.out 6
        have r7 := cell_of_blk hB2.out 7
        have r8 := cell_of_blk hB2.out 8
        have rz := unfrozen_of_blk hB2.out
        simp only [tmC, List.getElem?_toArray, List.getElem?_cons_zero, List.getElem?_cons_succ, Tm.kind, Tm.name, Tm.other, Tm.n, Tm.ty, Tm.res, Tm.args] at g0 g1 g2 g3 g4 g5 g6 g7 g8 r0 r1 r2 r3 r4 r5 r6 r7 r8
        clear hB2 hr2 hg2 c0 c1 c2 z1 z2 hd
        go_wp2_with fail
        refine bodyPost_ret (v := tmV (.mk kk a o n ty res us) tp tc rp rc p c) ?_ rfl ?_
        · rw [results_cell1 rfl]
          go_simp
          all_goals (repeat' apply And.intro) <;> rfl
        · obtain ⟨x1, x2, x3⟩ := args_fin HB2.out
          rw [HUS.out] at x1 x2 x3 ⊢
          exact ⟨m, ts, o1, tp, tc, rp, rc, p, c, xs, hm, HEND.out, HAR.out, rfl, x1, x2, x3⟩
      · rw [hbad] at c2
        clear hbad
        go_wp2_with fail
        refine HQ.out.mono ?_
        rintro e w2 ⟨rfl, hr2, hg2⟩
        have hB2 := HB.out.step hr2 hg2
        have HB2 := Lib.hid hB2
        have g0 := cell_of_blk hB2.box 0
        have g1 := cell_of_blk hB2.box 1
        have g2 := cell_of_blk hB2.box 2
        have g3 := cell_of_blk hB2.box 3
        have g4 := cell_of_blk hB2.box 4
        have g5 := cell_of_blk hB2.box 5
        have g6 := cell_of_blk hB2.box 6
        have g7 := cell_of_blk hB2.box 7
        have g8 := cell_of_blk hB2.box 8
        have r0 := cell_of_blk hB2.out 0
        have r1 := cell_of_blk hB2.out 1
        have r2 := cell_of_blk hB2.out 2
        have r3 := cell_of_blk hB2.out 3
        have r4 := cell_of_blk hB2.out 4
        have r5 := cell_of_blk hB2.out 5
        have r6 := cell_of_blk hB2.out 6
        have r7 := cell_of_blk hB2.out 7
        have r8 := cell_of_blk hB2.out 8
        have rz := unfrozen_of_blk hB2.out
        simp only [tmC, List.getElem?_toArray, List.getElem?_cons_zero, List.getElem?_cons_succ, Tm.kind, Tm.name, Tm.other, Tm.n, Tm.ty, Tm.res, Tm.args] at g0 g1 g2 g3 g4 g5 g6 g7 g8 r0 r1 r2 r3 r4 r5 r6 r7 r8
        clear hB2 hr2 hg2 c0 c1 c2 z1 z2 hd
        go_wp2_with fail
        refine bodyPost_ret (v := tmV (.mk kk a o n ty res us) tp tc rp rc p c) ?_ rfl ?_
        · rw [results_cell1 rfl]
          go_simp
          all_goals (repeat' apply And.intro) <;> rfl
        · obtain ⟨x1, x2, x3⟩ := args_fin HB2.out
          rw [HUS.out] at x1 x2 x3 ⊢
          exact ⟨m, ts, o1, tp, tc, rp, rc, p, c, xs, hm, HEND.out, HAR.out, rfl, x1, x2, x3⟩
end Go.Proofs.YtfeijijeohfpgaaGreatDoor
namespace Go.Proofs.YtfeijijeohfpgaaGreatDoor
open Go Go.RowKit

theorem pre1 (c : UInt8) (s : List UInt8) (j : Nat) : pre [c] s j = true ↔ s[j]? = some c := by
  unfold pre
  rw [List.isPrefixOf_iff_prefix, ← List.head?_drop]
  constructor
  · rintro ⟨r, hr⟩
    rw [← hr]
    rfl
  · intro h
    cases hd : s.drop j with
    | nil => rw [hd] at h; cases h
    | cons x xs =>
      rw [hd] at h
      obtain rfl : x = c := by simpa using h
      exact ⟨xs, rfl⟩
theorem must_yes1 {c : UInt8} {s : List UInt8} {j : Nat} (h : s[j]? = some c) : mustO [c] s (some j) = some (j + 1) := by
  unfold mustO
  simp only [(pre1 c s j).2 h, if_true, List.length_singleton]
theorem must_no1 {c : UInt8} {s : List UInt8} {j : Nat} (h : ¬ s[j]? = some c) : mustO [c] s (some j) = none := by
  unfold mustO
  have : pre [c] s j = false := by
    rw [Bool.eq_false_iff]
    exact fun e => h ((pre1 c s j).1 e)
  simp [this]
theorem must_none (q s : List UInt8) : mustO q s none = none := rfl
def argsP (f : Nat → Option (Tm × Nat)) (s es : List UInt8) : Option Nat → List Tm → Option Nat → Prop
  | some i, ts, o' => (∃ j, pts f s es i = some (ts, j) ∧ o' = some j) ∨ (pts f s es i = none ∧ o' = none)
  | none, _, o' => o' = none
def signs : Nat → List UInt8
  | 1 => [41]
  | 2 => [32, 41]
  | _ => [32, 32, 41]
theorem args_pts {f : Nat → Option (Tm × Nat)} {s : List UInt8} {N : Nat} (hN : 1 ≤ N ∧ N ≤ 3) {m : Nat} {o : Option Nat} {ts : List Tm} {o1 : Option Nat} (hm : m ≤ N) (he : m = N ∨ o1 = none) (h : argsO f s m o ts o1) :
    argsP f s (signs N) o ts (mustO [41] s o1) := by
  match m, hm, he, h with
  | 0, hm, he, ⟨_, ho⟩ =>
    rcases he with he | he
    · omega
    · rw [he, must_none]
      rw [he] at ho
      rw [← ho]
      rfl
  | 1, hm, he, ⟨ts0, o0, t, ⟨h1, h2⟩, hne, ht, hts⟩ =>
    subst h1; subst h2; subst hts
    cases o0 with
    | none => exact absurd rfl hne
    | some i =>
      simp only [if_true] at ht
      rcases ht with ⟨j, hf, rfl⟩ | ⟨hf, rfl⟩
      · obtain rfl : 1 = N := by simpa using he
        by_cases hc : s[j]? = some 41
        · rw [must_yes1 hc]
          exact Or.inl ⟨j + 1, by simp [signs, pts, hf, hc], rfl⟩
        · rw [must_no1 hc]
          exact Or.inr ⟨by simp [signs, pts, hf, hc], rfl⟩
      · rw [must_none]
        refine Or.inr ⟨?_, rfl⟩
        rcases (show N = 1 ∨ N = 2 ∨ N = 3 by omega) with rfl | rfl | rfl <;> simp [signs, pts, hf]
  | 2, hm, he, ⟨ts0, o0, t, ⟨ts1, oa, t1, ⟨h1, h2⟩, hne1, ht1, hts1⟩, hne, ht, hts⟩ =>
    subst h1; subst h2; subst hts1; subst hts
    cases oa with
    | none => exact absurd rfl hne1
    | some i =>
      simp only [if_true] at ht1
      rcases ht1 with ⟨j, hf, rfl⟩ | ⟨hf, rfl⟩
      · simp only [Nat.one_ne_zero, if_false] at ht
        by_cases hc : s[j]? = some 32
        · rw [must_yes1 hc] at ht
          rcases ht with ⟨j2, hf2, rfl⟩ | ⟨hf2, rfl⟩
          · obtain rfl : 2 = N := by simpa using he
            by_cases hc2 : s[j2]? = some 41
            · rw [must_yes1 hc2]
              exact Or.inl ⟨j2 + 1, by simp [signs, pts, hf, hc, hf2, hc2], rfl⟩
            · rw [must_no1 hc2]
              exact Or.inr ⟨by simp [signs, pts, hf, hc, hf2, hc2], rfl⟩
          · rw [must_none]
            refine Or.inr ⟨?_, rfl⟩
            rcases (show N = 2 ∨ N = 3 by omega) with rfl | rfl <;> simp [signs, pts, hf, hc, hf2]
        · rw [must_no1 hc] at ht
          have ht' : o1 = none := ht
          subst ht'
          rw [must_none]
          refine Or.inr ⟨?_, rfl⟩
          rcases (show N = 2 ∨ N = 3 by omega) with rfl | rfl <;> simp [signs, pts, hf, hc]
      · exact absurd rfl hne
  | 3, hm, he, ⟨ts0, o0, t, ⟨ts1, oa, t1, ⟨ts2, ob, t2, ⟨h1, h2⟩, hne2, ht2, hts2⟩, hne1, ht1, hts1⟩, hne, ht, hts⟩ =>
    subst h1; subst h2; subst hts2; subst hts1; subst hts
    obtain rfl : N = 3 := by omega
    cases ob with
    | none => exact absurd rfl hne2
    | some i =>
      simp only [if_true] at ht2
      rcases ht2 with ⟨j, hf, rfl⟩ | ⟨hf, rfl⟩
      · simp only [Nat.one_ne_zero, if_false] at ht1
        by_cases hc : s[j]? = some 32
        · rw [must_yes1 hc] at ht1
          rcases ht1 with ⟨j2, hf2, rfl⟩ | ⟨hf2, rfl⟩
          · rw [if_neg (by decide)] at ht
            by_cases hc2 : s[j2]? = some 32
            · rw [must_yes1 hc2] at ht
              rcases ht with ⟨j3, hf3, rfl⟩ | ⟨hf3, rfl⟩
              · by_cases hc3 : s[j3]? = some 41
                · rw [must_yes1 hc3]
                  exact Or.inl ⟨j3 + 1, by simp [signs, pts, hf, hc, hf2, hc2, hf3, hc3], rfl⟩
                · rw [must_no1 hc3]
                  exact Or.inr ⟨by simp [signs, pts, hf, hc, hf2, hc2, hf3, hc3], rfl⟩
              · rw [must_none]
                exact Or.inr ⟨by simp [signs, pts, hf, hc, hf2, hc2, hf3], rfl⟩
            · rw [must_no1 hc2] at ht
              have ht' : o1 = none := ht
              subst ht'
              rw [must_none]
              exact Or.inr ⟨by simp [signs, pts, hf, hc, hf2, hc2], rfl⟩
          · exact absurd rfl hne
        · rw [must_no1 hc] at ht1
          have ht' : o0 = none := ht1
          exact absurd ht' hne
      · exact absurd rfl hne1
  | k + 4, hm, _, _ => omega
end Go.Proofs.YtfeijijeohfpgaaGreatDoor
namespace Go.Proofs.YtfeijijeohfpgaaGreatDoor
open Go Go.RowKit
structure LS (w0 : World) (R : Nat) (s : ByteArray) (rb bx : Nat) (q : Option Nat) (W : World) (t : Tm) (tp : Option Addr) (tc : Nat) (rp : Option Addr) (rc : Nat) : Prop where
  rd : RdO W R s q
  grown : w0.grownBy W (some R)
  out : W.heap[rb]? = some (.cells zeroC 29 (0, 0))
  box : W.heap[bx]? = some (.cells (tmC t tp tc rp rc none 0) 29 (0, 0))
  ty : TS W (fun z => w0.heap.size ≤ z ∧ z ≠ bx) t.ty.args (.slice tp t.ty.args.length tc)
  res : TS W (fun z => w0.heap.size ≤ z ∧ z ≠ bx) t.res.args (.slice rp t.res.args.length rc)
  hR : R < w0.heap.size
  hrb : rb < w0.heap.size
  ne : rb ≠ R
  hb : w0.heap.size ≤ bx
section
variable {w0 W W' : World} {R rb bx : Nat} {s : ByteArray} {q q' : Option Nat} {k n : Int} {a o : ByteArray} {ty res : Ty} {tp rp : Option Addr} {tc rc : Nat}
theorem LS.bxlt {t : Tm} (h : LS w0 R s rb bx q W t tp tc rp rc) : bx < W.heap.size := (Array.getElem?_eq_some_iff.1 h.box).1
theorem LS.rblt {t : Tm} (h : LS w0 R s rb bx q W t tp tc rp rc) : rb < W.heap.size := (Array.getElem?_eq_some_iff.1 h.out).1
theorem LS.step {t : Tm} (h : LS w0 R s rb bx q W t tp tc rp rc) (hr : RdO W' R s q') (hg : W.grownBy W' (some R)) : LS w0 R s rb bx q' W' t tp tc rp rc := by
  have hR := h.hR
  have hb := h.hb
  have st : Stays (fun z => w0.heap.size ≤ z ∧ z ≠ bx) W W' := ⟨hg.size, fun z hz hl => hg.block z hl (fun e => by have := Option.some.inj e; have := hz.1; omega)⟩
  exact ⟨hr, grownBy_trans h.grown hg, (hg.block _ h.rblt (fun e => h.ne (Option.some.inj e))).trans h.out, (hg.block _ h.bxlt (fun e => by have := Option.some.inj e; omega)).trans h.box,
    h.ty.stays st, h.res.stays st, h.hR, h.hrb, h.ne, h.hb⟩
theorem LS.set {t t' : Tm} {tp' rp' : Option Addr} {tc' rc' : Nat} (h : LS w0 R s rb bx q W t tp tc rp rc) (hb : Below bx W W') (hbx : W'.heap[bx]? = some (.cells (tmC t' tp' tc' rp' rc' none 0) 29 (0, 0)))
    (hst : Stays (fun z => w0.heap.size ≤ z ∧ z ≠ bx) W W')
    (hty : TS W (fun z => w0.heap.size ≤ z ∧ z ≠ bx) t'.ty.args (.slice tp' t'.ty.args.length tc')) (hres : TS W (fun z => w0.heap.size ≤ z ∧ z ≠ bx) t'.res.args (.slice rp' t'.res.args.length rc')) : LS w0 R s rb bx q W' t' tp' tc' rp' rc' := by
  have hR := h.hR
  have hbb := h.hb
  have hrb := h.hrb
  exact ⟨h.rd.belowAt (by omega) hb, gb_more h.grown hbb hb, (hb.block _ (by omega)).trans h.out, hbx, hty.stays hst, hres.stays hst, h.hR, h.hrb, h.ne, h.hb⟩
theorem LS.setOther (h : LS w0 R s rb bx q W (.mk k a o n ty res []) tp tc rp rc) (o' : ByteArray) : LS w0 R s rb bx q (W.setCell ⟨bx, 2, none⟩ (.string o')) (.mk k a o' n ty res []) tp tc rp rc :=
  h.set ((Below.refl _ W).setCell (p := ⟨bx, 2, none⟩) (Nat.le_refl _) _) (by rw [Go.Joins.block_setCell h.box _]; rfl) (setCell_stays _ _ _ _ _ (by simp)) h.ty h.res
theorem LS.setTy {u : Ty} {p : Option Addr} {c : Nat} (h : LS w0 R s rb bx q W (.mk k a o n ty res []) tp tc rp rc) (hu : TS W (fun z => w0.heap.size ≤ z ∧ z ≠ bx) u.args (.slice p u.args.length c)) :
    LS w0 R s rb bx q ((W.setCell ⟨bx, 4, none⟩ (.int .i64 u.kind)).setCell ⟨bx, 5, none⟩ (.slice p u.args.length c)) (.mk k a o n u res []) p c rp rc :=
  h.set (((Below.refl _ W).setCell (p := ⟨bx, 4, none⟩) (Nat.le_refl _) _).setCell (p := ⟨bx, 5, none⟩) (Nat.le_refl _) _) (by rw [Go.Joins.block_setCell (Go.Joins.block_setCell h.box _) _]; rfl)
    ((setCell_stays _ _ _ _ _ (by simp)).trans (setCell_stays _ _ _ _ _ (by simp))) hu h.res
theorem LS.setRes {u : Ty} {p : Option Addr} {c : Nat} (h : LS w0 R s rb bx q W (.mk k a o n ty res []) tp tc rp rc) (hu : TS W (fun z => w0.heap.size ≤ z ∧ z ≠ bx) u.args (.slice p u.args.length c)) :
    LS w0 R s rb bx q ((W.setCell ⟨bx, 6, none⟩ (.int .i64 u.kind)).setCell ⟨bx, 7, none⟩ (.slice p u.args.length c)) (.mk k a o n ty u []) tp tc p c :=
  h.set (((Below.refl _ W).setCell (p := ⟨bx, 6, none⟩) (Nat.le_refl _) _).setCell (p := ⟨bx, 7, none⟩) (Nat.le_refl _) _) (by rw [Go.Joins.block_setCell (Go.Joins.block_setCell h.box _) _]; rfl)
    ((setCell_stays _ _ _ _ _ (by simp)).trans (setCell_stays _ _ _ _ _ (by simp))) h.ty hu
theorem LS.new (h : LS w0 R s rb bx q W (.mk k a o n ty res []) tp tc rp rc) : NewTm W w0.heap.size (fun z => w0.heap.size ≤ z) (.mk k a o n ty res []) tp tc rp rc none 0 [] :=
  ⟨h.ty.mono (fun z hz _ => ⟨hz.1, by simp [Value.ownBlock]⟩), h.res.mono (fun z hz _ => ⟨hz.1, by simp [Value.ownBlock]⟩), RowM.start _ _ _⟩
end
theorem rec_steps {f : Nat → Option (Tm × Nat)} {s : List UInt8} {o : Option Nat} {a b : List UInt8} {ty res : Ty} {ts : List Tm} {o5 o7 o9 : Option Nat}
    (ha : ∀ i, o = some i → a = word s i) (hb : ∀ i, mustO [32] s (wordO s o) = some i → b = word s i)
    (h5 : typO s (mustO [58] s (wordO s (mustO [32] s (wordO s o)))) ty o5) (h7 : typO s (mustO [62] s o5) res o7) (h9 : argsP f s [41] (mustO [46] s o7) ts o9) :
    termO (pRec s f) o (.mk 9 ⟨a.toArray⟩ ⟨b.toArray⟩ 0 ty res ts) o9 := by
  cases o with
  | none =>
    have e5 : o5 = none := h5
    subst e5
    have e7 : o7 = none := h7
    subst e7
    exact h9
  | some i =>
    obtain rfl := ha i rfl
    simp only [wordO] at hb h5
    by_cases c1 : s[i + (word s i).length]? = some 32
    · rw [must_yes1 c1] at hb h5
      obtain rfl := hb _ rfl
      simp only [] at h5
      by_cases c2 : s[i + (word s i).length + 1 + (word s (i + (word s i).length + 1)).length]? = some 58
      · rw [must_yes1 c2] at h5
        rcases h5 with ⟨j, hp, rfl⟩ | ⟨hp, rfl⟩
        · by_cases c3 : s[j]? = some 62
          · rw [must_yes1 c3] at h7
            rcases h7 with ⟨j2, hp2, rfl⟩ | ⟨hp2, rfl⟩
            · by_cases c4 : s[j2]? = some 46
              · rw [must_yes1 c4] at h9
                rcases h9 with ⟨j3, hp3, rfl⟩ | ⟨hp3, rfl⟩
                · exact Or.inl ⟨j3, by simp [pRec, pRec2, c1, c2, hp, c3, hp2, c4, hp3], rfl⟩
                · exact Or.inr ⟨by simp [pRec, pRec2, c1, c2, hp, c3, hp2, c4, hp3], rfl⟩
              · rw [must_no1 c4] at h9
                exact Or.inr ⟨by simp [pRec, pRec2, c1, c2, hp, c3, hp2, c4], h9⟩
            · have e9 : o9 = none := h9
              exact Or.inr ⟨by simp [pRec, pRec2, c1, c2, hp, c3, hp2], e9⟩
          · rw [must_no1 c3] at h7
            have e7 : o7 = none := h7
            subst e7
            have e9 : o9 = none := h9
            exact Or.inr ⟨by simp [pRec, pRec2, c1, c2, hp, c3], e9⟩
        · have e7 : o7 = none := h7
          subst e7
          have e9 : o9 = none := h9
          exact Or.inr ⟨by simp [pRec, pRec2, c1, c2, hp], e9⟩
      · rw [must_no1 c2] at h5
        have e5 : o5 = none := h5
        subst e5
        have e7 : o7 = none := h7
        subst e7
        have e9 : o9 = none := h9
        exact Or.inr ⟨by simp [pRec, pRec2, c1, c2], e9⟩
    · rw [must_no1 c1] at h5
      have e5 : o5 = none := h5
      subst e5
      have e7 : o7 = none := h7
      subst e7
      have e9 : o9 = none := h9
      exact Or.inr ⟨by simp [pRec, c1], e9⟩
end Go.Proofs.YtfeijijeohfpgaaGreatDoor
namespace Go.Proofs.YtfeijijeohfpgaaGreatDoor
open Go Go.RowKit

theorem tm_fin {f' : Nat → Option (Tm × Nat)} {w W : World} {R : Nat} {s : ByteArray} {o o' : Option Nat} {t : Tm} {tp rp p : Option Addr} {tc rc c : Nat} (hg : w.grownBy W (some R)) (hR : R < w.heap.size) (hr : RdO W R s o') (hN : TM' W (fun z => w.heap.size + 1 ≤ z) t tp tc rp rc p c) (ho : termO f' o t o') :
    TermRet f' R s o w (.returned (tmV t tp tc rp rc p c)) (((((((((W.setCell ⟨w.heap.size, 0, none⟩ (.int .i64 t.kind)).setCell ⟨w.heap.size, 1, none⟩ (.string t.name)).setCell ⟨w.heap.size, 2, none⟩ (.string t.other)).setCell ⟨w.heap.size, 3, none⟩ (.int .i64 t.n)).setCell ⟨w.heap.size, 4, none⟩ (.int .i64 t.ty.kind)).setCell ⟨w.heap.size, 5, none⟩ (.slice tp t.ty.args.length tc)).setCell ⟨w.heap.size, 6, none⟩ (.int .i64 t.res.kind)).setCell ⟨w.heap.size, 7, none⟩ (.slice rp t.res.args.length rc)).setCell ⟨w.heap.size, 8, none⟩ (.slice p t.args.length c)) := by
  have hst := set9_stays W w.heap.size (.int .i64 t.kind) (.string t.name) (.string t.other) (.int .i64 t.n) (.int .i64 t.ty.kind) (.slice tp t.ty.args.length tc) (.int .i64 t.res.kind) (.slice rp t.res.args.length rc) (.slice p t.args.length c) (fun z => w.heap.size + 1 ≤ z) (fun h => by omega)
  obtain ⟨x1, x2⟩ := set9_out (.int .i64 t.kind) (.string t.name) (.string t.other) (.int .i64 t.n) (.int .i64 t.ty.kind) (.slice tp t.ty.args.length tc) (.int .i64 t.res.kind) (.slice rp t.res.args.length rc) (.slice p t.args.length c) hg hR hr
  exact ⟨_, t, o', rfl, ⟨tp, tc, rp, rc, p, c, rfl, (hN.stays hst).mono (fun z hz _ => by omega)⟩, ho, x1, x2⟩
set_option maxRecDepth 100000 in
set_option maxHeartbeats 2000000 in
theorem l6Rec_any {f : Nat → Option (Tm × Nat)} {R : Nat} {s : ByteArray} {D : Int} (hT : TermIs f R s D) (hs : s.size ≤ 1073741824) (o : Option Nat) (w : World) (hr : RdO w R s o) :
    Calls Tryz.prog 234 #[.pointer (some ⟨R, 0, none⟩), .int .i64 D] w (TermRet (pRec s.data.toList f) R s o w) := by
  obtain ⟨w0, hw0, hs0, hb0, r0⟩ := box_new w zeroC 29
  have hlt := hr.lt
  have HW := Lib.hid (wordO_any hs (hr.below hb0))
  have H0 := Lib.hid (And.intro hs0 (And.intro hb0 (And.intro r0 hlt)))
  have HT := Lib.hid hT
  clear hs0 hb0 r0 hr hT hlt
  go_enter Tryz.func234, Tryz.ntmps234
  go_wp2_with fail
  refine HW.out.mono ?_
  rintro e w1 ⟨a, rfl, hal, ha, hr1, hg1⟩
  obtain ⟨w2, hw2, hs2, hb2, r2⟩ := box_new w1 #[.int .i64 9, .string (bx a), .string ⟨#[]⟩, .int .i64 0, .int .i64 0, .slice none 0 0, .int .i64 0, .slice none 0 0, .slice none 0 0] 29
  have hL2 : LS w0 R s w.heap.size w1.heap.size (wordO s.data.toList o) w2 (.mk 9 (bx a) E0 0 Z0 Z0 []) none 0 none 0 := by
    obtain ⟨x1, x2, x3, x4⟩ := H0.out
    have hz1 := hg1.size
    exact ⟨hr1.below hb2, gb_more hg1 hz1 hb2, (hb2.block _ (by omega)).trans ((hg1.block _ (by omega) (fun e => by have := Option.some.inj e; omega)).trans x3), r2, .nil _ _, .nil _ _, by omega, by omega, by omega, hz1⟩
  have HA := Lib.hid ha
  have HL2 := Lib.hid hL2
  have HQ := Lib.hid (mustO_any (o := wordO s.data.toList o) [32] (by decide) hs hL2.rd)
  have HWW := Lib.hid hw2
  clear ha hr1 hg1 hs2 hb2 r2 hL2 hw2
  go_wp2_with fail
  rw [HWW.out]
  refine HQ.out.mono ?_
  rintro e w3 ⟨rfl, hr3, hg3⟩
  have HL3 := Lib.hid (HL2.out.step hr3 hg3)
  have HW3 := Lib.hid (wordO_any hs hr3)
  clear hr3 hg3
  go_wp2_with fail
  refine HW3.out.mono ?_
  rintro e w4 ⟨b, rfl, hbl, hb, hr4, hg4⟩
  have hL4 := HL3.out.step hr4 hg4
  have g0 := cell_of_blk hL4.box 0
  have g1 := cell_of_blk hL4.box 1
  have g2 := cell_of_blk hL4.box 2
  have g3 := cell_of_blk hL4.box 3
  have g4 := cell_of_blk hL4.box 4
  have g5 := cell_of_blk hL4.box 5
  have g6 := cell_of_blk hL4.box 6
  have g7 := cell_of_blk hL4.box 7
  have g8 := cell_of_blk hL4.box 8
  have gz := unfrozen_of_blk hL4.box
  simp only [tmC, List.getElem?_toArray, List.getElem?_cons_zero, List.getElem?_cons_succ, Tm.kind, Tm.name, Tm.other, Tm.n, Tm.ty, Tm.res, Tm.args] at g0 g1 g2 g3 g4 g5 g6 g7 g8
  obtain ⟨w5, hw5⟩ : ∃ w5, w4.setCell ⟨w1.heap.size, 2, none⟩ (.string (bx b)) = w5 := ⟨_, rfl⟩
  have hL5 := hL4.setOther (bx b)
  rw [hw5] at hL5
  have HB := Lib.hid hb
  have HL5 := Lib.hid hL5
  have HQ5 := Lib.hid (mustO_any [58] (by decide) hs hL5.rd)
  clear hb hr4 hg4 hL4 hL5
  go_wp2_with fail
  refine HQ5.out.mono ?_
  rintro e w6 ⟨rfl, hr6, hg6⟩
  have HL6 := Lib.hid (HL5.out.step hr6 hg6)
  have HT6 := Lib.hid (typO_any hs hr6)
  clear hr6 hg6 g0 g1 g2 g3 g4 g5 g6 g7 g8 gz
  go_wp2_with fail
  refine HT6.out.mono ?_
  rintro e w7 ⟨v7, ty, o7, rfl, ⟨sv7, rfl, hT7⟩, ho7, hr7, hg7⟩
  obtain ⟨tp, tc, rfl⟩ := hT7.form
  have hL7 := HL6.out.step hr7 hg7
  have h0 := cell_of_blk hL7.box 0
  have h1 := cell_of_blk hL7.box 1
  have h2 := cell_of_blk hL7.box 2
  have h3 := cell_of_blk hL7.box 3
  have h4 := cell_of_blk hL7.box 4
  have h5 := cell_of_blk hL7.box 5
  have h6 := cell_of_blk hL7.box 6
  have h7 := cell_of_blk hL7.box 7
  have h8 := cell_of_blk hL7.box 8
  have hz := unfrozen_of_blk hL7.box
  simp only [tmC, List.getElem?_toArray, List.getElem?_cons_zero, List.getElem?_cons_succ, Tm.kind, Tm.name, Tm.other, Tm.n, Tm.ty, Tm.res, Tm.args] at h0 h1 h2 h3 h4 h5 h6 h7 h8
  obtain ⟨w8, hw8⟩ : ∃ w8, (w7.setCell ⟨w1.heap.size, 4, none⟩ (.int .i64 ty.kind)).setCell ⟨w1.heap.size, 5, none⟩ (.slice tp ty.args.length tc) = w8 := ⟨_, rfl⟩
  have hL8 := hL7.setTy (hT7.mono (C' := fun z => w0.heap.size ≤ z ∧ z ≠ w1.heap.size) (fun z hz _ => by have := HL6.out.bxlt; have := HL6.out.hb; omega))
  rw [hw8] at hL8
  have HO7 := Lib.hid ho7
  have HL8 := Lib.hid hL8
  have HQ8 := Lib.hid (mustO_any [62] (by decide) hs hL8.rd)
  clear ho7 hr7 hg7 hL7 hL8 hT7
  go_wp2_with fail
  refine HQ8.out.mono ?_
  rintro e w9 ⟨rfl, hr9, hg9⟩
  have HL9 := Lib.hid (HL8.out.step hr9 hg9)
  have HT9 := Lib.hid (typO_any hs hr9)
  clear hr9 hg9 h0 h1 h2 h3 h4 h5 h6 h7 h8 hz
  go_wp2_with fail
  refine HT9.out.mono ?_
  rintro e w10 ⟨v10, res, o10, rfl, ⟨sv10, rfl, hT10⟩, ho10, hr10, hg10⟩
  obtain ⟨rp, rc, rfl⟩ := hT10.form
  have hL10 := HL9.out.step hr10 hg10
  have k0 := cell_of_blk hL10.box 0
  have k1 := cell_of_blk hL10.box 1
  have k2 := cell_of_blk hL10.box 2
  have k3 := cell_of_blk hL10.box 3
  have k4 := cell_of_blk hL10.box 4
  have k5 := cell_of_blk hL10.box 5
  have k6 := cell_of_blk hL10.box 6
  have k7 := cell_of_blk hL10.box 7
  have k8 := cell_of_blk hL10.box 8
  have kz := unfrozen_of_blk hL10.box
  simp only [tmC, List.getElem?_toArray, List.getElem?_cons_zero, List.getElem?_cons_succ, Tm.kind, Tm.name, Tm.other, Tm.n, Tm.ty, Tm.res, Tm.args] at k0 k1 k2 k3 k4 k5 k6 k7 k8
  obtain ⟨w11, hw11⟩ : ∃ w11, (w10.setCell ⟨w1.heap.size, 6, none⟩ (.int .i64 res.kind)).setCell ⟨w1.heap.size, 7, none⟩ (.slice rp res.args.length rc) = w11 := ⟨_, rfl⟩
  have hL11 := hL10.setRes (hT10.mono (C' := fun z => w0.heap.size ≤ z ∧ z ≠ w1.heap.size) (fun z hz _ => by have := HL9.out.bxlt; have := HL9.out.hb; omega))
  rw [hw11] at hL11
  have HO10 := Lib.hid ho10
  have HL11 := Lib.hid hL11
  have HQ11 := Lib.hid (mustO_any [46] (by decide) hs hL11.rd)
  clear ho10 hr10 hg10 hL10 hL11 hT10
  go_wp2_with fail
  refine HQ11.out.mono ?_
  rintro e w12 ⟨rfl, hr12, hg12⟩
  have hL12 := HL11.out.step hr12 hg12
  have HAR := Lib.hid (l6Args_any HT.out hs 1 (by decide) 9 (bx a) (bx b) 0 ty res [] (by decide) tp tc rp rc none 0 [] w0 w12 _ hr12 hL12.grown (fun z => w0.heap.size ≤ z) hL12.hR (fun z hz e => by have := hL12.hR; have : w0.heap.size ≤ z := hz; omega) (fun _ hz => hz) hL12.new)
  clear k0 k1 k2 k3 k4 k5 k6 k7 k8 kz
  have l0 := cell_of_blk hL12.box 0
  have l1 := cell_of_blk hL12.box 1
  have l2 := cell_of_blk hL12.box 2
  have l3 := cell_of_blk hL12.box 3
  have l4 := cell_of_blk hL12.box 4
  have l5 := cell_of_blk hL12.box 5
  have l6 := cell_of_blk hL12.box 6
  have l7 := cell_of_blk hL12.box 7
  have l8 := cell_of_blk hL12.box 8
  have lz := unfrozen_of_blk hL12.box
  simp only [tmC, List.getElem?_toArray, List.getElem?_cons_zero, List.getElem?_cons_succ, Tm.kind, Tm.name, Tm.other, Tm.n, Tm.ty, Tm.res, Tm.args] at l0 l1 l2 l3 l4 l5 l6 l7 l8
  clear hr12 hg12 hL12
  go_wp2_with fail
  refine HAR.out.mono ?_
  rintro e w13 ⟨m, ts, o13, tp', tc', rp', rc', p', c', xs', hm, hend, har, rfl, hN, hr13, hg13⟩
  have hg := grownBy_trans (gb_below H0.out.2.1 (some R)) hg13
  have ho13 := (hg13.block w.heap.size (by have := H0.out.1; omega) (fun e => by have := Option.some.inj e; have := H0.out.2.2.2; omega)).trans H0.out.2.2.1
  have r0 := cell_of_blk ho13 0
  have r1 := cell_of_blk ho13 1
  have r2 := cell_of_blk ho13 2
  have r3 := cell_of_blk ho13 3
  have r4 := cell_of_blk ho13 4
  have r5 := cell_of_blk ho13 5
  have r6 := cell_of_blk ho13 6
  have r7 := cell_of_blk ho13 7
  have r8 := cell_of_blk ho13 8
  have rz := unfrozen_of_blk ho13
  simp only [List.getElem?_toArray, List.getElem?_cons_zero, List.getElem?_cons_succ] at r0 r1 r2 r3 r4 r5 r6 r7 r8
  have HARG := Lib.hid (args_pts (s := s.data.toList) (N := 1) (by decide) hm hend har)
  have HX := Lib.hid (And.intro hg (And.intro hr13 hN))
  clear hg hr13 hN hg13 ho13 har hend hm l0 l1 l2 l3 l4 l5 l6 l7 l8 lz
  go_wp2_with fail
  refine bodyPost_ret (v := tmV (.mk 9 (bx a) (bx b) 0 ty res ts) tp' tc' rp' rc' p' c') ?_ rfl ?_
  · rw [results_cell1 rfl]
    go_simp
    all_goals (repeat' apply And.intro) <;> rfl
  · obtain ⟨x1, x2, x3⟩ := HX.out
    exact tm_fin x1 H0.out.2.2.2 x2 (x3.tm.mono (fun z hz _ => by have := H0.out.1; omega)) (rec_steps HA.out HB.out HO7.out HO10.out HARG.out)
end Go.Proofs.YtfeijijeohfpgaaGreatDoor
