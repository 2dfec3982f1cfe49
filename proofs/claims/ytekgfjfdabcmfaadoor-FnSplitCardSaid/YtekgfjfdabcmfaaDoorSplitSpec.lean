/-
  The contract of the model's SplitByte: a new slice with the pieces between the separators.
-/
import Derived.Test.YtekgfjfdabcmfaaDoorProg
import Derived.Test.YtekgfjfdabcmfaaDoorStrs
import Derived.Test.YtekgfjfdabcmfaaDoorCut
import Derived.WalkSmall
import Derived.Lib.Strings
import Derived.Laws.OwnMore
namespace Go.Proofs.YtekgfjfdabcmfaaDoor
open Go Go.RowKit

theorem infoString : (Tryd.prog.info? 9).map (fun i => (i.zero, i.size, i.bytes)) = some (some (.string ⟨#[]⟩), 1, 16) := by kernel_rfl

/-- i bytes have been looked at, the piece at hand begins at f. -/
def SplitAt (s : ByteArray) (c : UInt8) (ps : List ByteArray) (f i : Nat) : Prop :=
  ps.length ≤ i ∧ f ≤ i ∧ ((i ≤ s.size ∧ bs ps ++ cutA c ((s.data.toList.take i).drop f) (s.data.toList.drop i) = cutL c s.data.toList) ∨ (i = s.size + 1 ∧ bs ps = cutL c s.data.toList))
theorem split_start (s : ByteArray) (c : UInt8) : SplitAt s c [] 0 0 := ⟨Nat.le_refl _, Nat.le_refl _, Or.inl ⟨Nat.zero_le _, by simp [bs, cutA_start]⟩⟩
theorem bs_snoc (ps : List ByteArray) (x : ByteArray) : bs (ps ++ [x]) = bs ps ++ [x.data.toList] := by simp [bs]
theorem piece_bytes (s : ByteArray) (f i : Nat) : (s.extract f i).data.toList = (s.data.toList.take i).drop f := by
  rw [Lib.extract_data, List.drop_take]
theorem split_last {s : ByteArray} {c : UInt8} {ps : List ByteArray} {f : Nat} (h : SplitAt s c ps f s.size) : SplitAt s c (ps ++ [s.extract f s.size]) (s.size + 1) (s.size + 1) := by
  obtain ⟨h1, h2, h3⟩ := h
  refine ⟨by simp; omega, Nat.le_refl _, Or.inr ⟨rfl, ?_⟩⟩
  rcases h3 with ⟨_, h3⟩ | ⟨h3, _⟩
  · rw [bs_snoc, piece_bytes, ← h3]
    congr 1
    rw [show s.data.toList.drop s.size = [] from List.drop_eq_nil_of_le (by rw [Lib.size_eq]; exact Nat.le_refl _), cutA_end]
  · omega
theorem drop_at (s : ByteArray) (i : Nat) (h : i < s.size) : s.data.toList.drop i = s[i] :: s.data.toList.drop (i + 1) := by
  rw [List.drop_eq_getElem_cons (by simpa using h)]; rfl
theorem split_hit {s : ByteArray} {c : UInt8} {ps : List ByteArray} {f i : Nat} (h : SplitAt s c ps f i) (hi : i < s.size) (hc : s[i] = c) : SplitAt s c (ps ++ [s.extract f i]) (i + 1) (i + 1) := by
  obtain ⟨h1, h2, h3⟩ := h
  refine ⟨by simp; omega, Nat.le_refl _, Or.inl ⟨by omega, ?_⟩⟩
  rcases h3 with ⟨_, h3⟩ | ⟨h3, _⟩
  · have e : (s.data.toList.take (i + 1)).drop (i + 1) = [] := List.drop_eq_nil_of_le (by rw [List.length_take]; omega)
    rw [bs_snoc, piece_bytes, ← h3, drop_at s i hi, hc, cutA_hit, List.append_assoc, e]
    rfl
  · omega
theorem split_step {s : ByteArray} {c : UInt8} {ps : List ByteArray} {f i : Nat} (h : SplitAt s c ps f i) (hi : i < s.size) (hc : s[i] ≠ c) : SplitAt s c ps f (i + 1) := by
  obtain ⟨h1, h2, h3⟩ := h
  refine ⟨by omega, by omega, Or.inl ⟨by omega, ?_⟩⟩
  rcases h3 with ⟨_, h3⟩ | ⟨h3, _⟩
  · rw [← h3, drop_at s i hi, cutA_step c _ _ _ hc]
    have e : s.data.toList.take (i + 1) = s.data.toList.take i ++ [s[i]] := by
      rw [List.take_succ_eq_append_getElem (by simpa using hi)]; rfl
    rw [e, List.drop_append_of_le_length (by rw [List.length_take, ← Lib.size_eq]; omega)]
  · omega
theorem split_end {s : ByteArray} {c : UInt8} {ps : List ByteArray} {f : Nat} (h : SplitAt s c ps f (s.size + 1)) : bs ps = cutL c s.data.toList := by
  rcases h.2.2 with ⟨h3, _⟩ | ⟨_, h3⟩
  · omega
  · exact h3

theorem row_snoc {w : World} {base : Nat} {e : TypeId} {v : Value} {ps : List ByteArray} {x : ByteArray} (h : w.ownsRow base e 1 v (ps.length + 1) (ps.map Value.string ++ [Value.string x])) : w.ownsRow base e 1 v (ps ++ [x]).length ((ps ++ [x]).map Value.string) := by
  rw [List.length_append, List.map_append]; exact h
def SplitRet (s : ByteArray) (c : UInt8) (w : World) (e : Ending) (w' : World) : Prop :=
  ∃ v ps, e = .returned v ∧ bs ps = cutL c s.data.toList ∧ w'.ownsRow w.heap.size 9 1 v ps.length (ps.map Value.string) ∧ Below w.heap.size w w'

set_option maxRecDepth 100000 in
set_option maxHeartbeats 1000000 in
theorem splitS_any (s : ByteArray) (c : UInt8) (w : World) (hs : s.size ≤ 1048576) :
    Calls Tryd.prog 20 #[.string s, .int .u8 c.toNat] w (SplitRet s c w) := by
  obtain ⟨i0, hi, hz0, hz1, hz2⟩ := info_parts infoString
  go_enter Tryd.func20, Tryd.ntmps20
  go_wp2_with fail
  go_loopw [5, 6, 7] (fun v f i wr => ∃ (k g : Nat) (ps : List ByteArray), k ≤ s.size + 1 ∧ i = .int .i64 k ∧ f = .int .i64 g ∧ SplitAt s c ps g k ∧ wr.ownsRow w.heap.size 9 1 v ps.length (ps.map Value.string) ∧ Below w.heap.size w wr) (fun _ _ i _ => s.size + 1 - (intOf i).toNat)
  case atStart => exact ⟨0, 0, [], Nat.zero_le _, rfl, rfl, split_start s c, World.ownsRow_lit w #[] 0 (Nat.le_refl _) (Nat.zero_le _) rfl, (Below.refl _ _).alloc (Nat.le_refl _) _⟩
  case round =>
    obtain ⟨k, g, ps, hk, rfl, rfl, hat, hown, hbr⟩ := hrel
    have hps := hat.1
    have hgk := hat.2.1
    have hsz := hbr.size
    have HAT := Lib.hid hat
    have HO := Lib.hid hown
    have HB := Lib.hid hbr
    clear hat hown hbr
    by_cases hpast : k ≤ s.size
    · by_cases hlast : k = s.size
      · have HL : Hid (k = s.size) := Lib.hid hlast
        have t1 : ((k : Int) == (s.size : Int)) = true := by rw [beq_iff_eq]; omega
        clear hlast
        go_wp2_with (at_builtin; refine wpList_append_own _ rfl (.tmp 26) (.tmp 31) 31 rfl w.heap.size 9 i0 (.string ⟨#[]⟩) 1 16 Tryd.underlying31 hi hz0 hz1 hz2 rfl (by decide) _ _ _ rfl (HO.out.alloc _) ⟨wr.heap.size, 0, none⟩ 1 1 [.string (s.extract g k)] rfl rfl ?c1 ?c2 ?c3 ?c4 ?c5 ?_)
        case c1 => exact cell_one_new _ _ _
        case c2 => simp [Value.oneCell']
        case c3 => unfold maxLen; omega
        case c4 => omega
        case c5 => simp; omega
        intro v' w2 hown2 hg _
        have hb2 : Below w.heap.size w w2 := (HB.out.alloc hsz _).grown hg (by simp; omega) (fun q hq => (HO.out.lt q hq).1)
        have HR := Lib.hid (row_snoc hown2)
        clear hg hown2
        go_wp2_with fail
        go_roundw
        case rel => exact ⟨k + 1, k + 1, ps ++ [s.extract g k], by omega, by go_num, by go_num, by rw [HL.out] at HAT ⊢; exact split_last HAT.out, HR.out, hb2⟩
        case measure => simp [intOf]; omega
      · have hlk : k < s.size := by omega
        have t1 : ((k : Int) == (s.size : Int)) = false := by rw [beq_eq_false_iff_ne]; omega
        clear hlast
        by_cases hc : s[k] = c
        · have HC := Lib.hid hc
          have t2 : ((s[k].toNat : Int) == (c.toNat : Int)) = true := by rw [hc]; exact beq_self_eq_true _
          clear hc
          go_wp2_with (at_builtin; refine wpList_append_own _ rfl (.tmp 26) (.tmp 31) 31 rfl w.heap.size 9 i0 (.string ⟨#[]⟩) 1 16 Tryd.underlying31 hi hz0 hz1 hz2 rfl (by decide) _ _ _ rfl (HO.out.alloc _) ⟨wr.heap.size, 0, none⟩ 1 1 [.string (s.extract g k)] rfl rfl ?c1 ?c2 ?c3 ?c4 ?c5 ?_)
          case c1 => exact cell_one_new _ _ _
          case c2 => simp [Value.oneCell']
          case c3 => unfold maxLen; omega
          case c4 => omega
          case c5 => simp; omega
          intro v' w2 hown2 hg _
          have hb2 : Below w.heap.size w w2 := (HB.out.alloc hsz _).grown hg (by simp; omega) (fun q hq => (HO.out.lt q hq).1)
          have HR := Lib.hid (row_snoc hown2)
          clear hg hown2
          go_wp2_with fail
          go_roundw
          case rel => exact ⟨k + 1, k + 1, ps ++ [s.extract g k], by omega, by go_num, by go_num, split_hit HAT.out hlk HC.out, HR.out, hb2⟩
          case measure => simp [intOf]; omega
        · have HC := Lib.hid hc
          have t2 : ((s[k].toNat : Int) == (c.toNat : Int)) = false := by
            rw [beq_eq_false_iff_ne]
            intro e
            exact hc (UInt8.toNat_inj.1 (by omega))
          clear hc
          go_wp2_with fail
          go_roundw
          case rel => exact ⟨k + 1, g, ps, by omega, by go_num, rfl, split_step HAT.out hlk HC.out, HO.out, HB.out⟩
          case measure => simp [intOf]; omega
    · obtain rfl : k = s.size + 1 := by omega
      go_wp2_with fail
      go_ret
      exact ⟨_, ps, rfl, split_end HAT.out, HO.out, HB.out⟩
#print axioms splitS_any
end Go.Proofs.YtekgfjfdabcmfaaDoor
