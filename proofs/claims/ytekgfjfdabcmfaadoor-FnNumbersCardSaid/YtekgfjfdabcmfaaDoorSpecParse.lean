/-
  The contracts of the model's ParseNumber and ParseInt: the number whose numeral the text is and true, or 0 and false.
-/
import Derived.Test.YtekgfjfdabcmfaaDoorRdm
namespace Go.Proofs.YtekgfjfdabcmfaaDoor
open Go Go.RowKit

theorem itoa_inj {a b : Int} (h : Lib.itoa a = Lib.itoa b) : a = b := by rw [← rd_itoa a, h, rd_itoa]

theorem read_yes (s : ByteArray) (most n : Int) (hm0 : 1 ≤ most) (hm1 : most ≤ 17) (w : World) (hs : s.size ≤ maxLen) (hn : Lib.itoa n = s.data.toList) (hb : n.natAbs < 10 ^ most.toNat) :
    Calls Tryd.prog 33 #[.string s, .int .i64 most] w fun e w' => e = .returned (.tuple #[.int .i64 n, .bool true]) ∧ Below w.heap.size w w' := by
  refine (read_any s most hm0 hm1 w hs).mono ?_
  rintro e w' ⟨h | h, hw⟩
  · obtain ⟨m, rfl, he, _⟩ := h
    rw [itoa_inj (he.trans hn.symm)]
    exact ⟨rfl, hw⟩
  · exact absurd hn (h.2 n hb)
theorem read_no (s : ByteArray) (most : Int) (hm0 : 1 ≤ most) (hm1 : most ≤ 17) (w : World) (hs : s.size ≤ maxLen) (hn : ∀ n : Int, n.natAbs < 10 ^ most.toNat → Lib.itoa n ≠ s.data.toList) :
    Calls Tryd.prog 33 #[.string s, .int .i64 most] w fun e w' => e = .returned (.tuple #[.int .i64 0, .bool false]) ∧ Below w.heap.size w w' := by
  refine (read_any s most hm0 hm1 w hs).mono ?_
  rintro e w' ⟨h | h, hw⟩
  · obtain ⟨m, rfl, he, hb⟩ := h
    exact absurd he (hn m hb)
  · exact ⟨h.1, hw⟩

/-- What a reader of numbers from lo to hi answers. -/
def numOut (lo hi : Int) (l : List UInt8) : Value := if okNum lo hi l then .tuple #[.int .i64 (rd l), .bool true] else .tuple #[.int .i64 0, .bool false]
theorem numOut_yes {lo hi n : Int} {l : List UInt8} (h : Lib.itoa n = l) (h0 : lo ≤ n) (h1 : n ≤ hi) : numOut lo hi l = .tuple #[.int .i64 n, .bool true] := by
  unfold numOut
  rw [okNum_mk h h0 h1, if_pos rfl, ← h, rd_itoa]
theorem numOut_no {lo hi : Int} {l : List UInt8} (h : ∀ n : Int, lo ≤ n → n ≤ hi → Lib.itoa n ≠ l) : numOut lo hi l = .tuple #[.int .i64 0, .bool false] := by
  unfold numOut
  cases e : okNum lo hi l with
  | false => rfl
  | true =>
    have := okNum_yes e
    exact absurd this.2.2 (h _ this.1 this.2.1)

set_option maxHeartbeats 400000 in
theorem specInt_any (s : ByteArray) (w : World) (hs : s.size ≤ maxLen) :
    Calls Tryd.prog 21 #[.string s] w fun e w' => e = .returned (numOut (-999999999999) 999999999999 s.data.toList) ∧ Below w.heap.size w w' := by
  by_cases h : ∃ n : Int, n.natAbs < 10 ^ 12 ∧ Lib.itoa n = s.data.toList
  · obtain ⟨n, hb, hn⟩ := h
    rw [numOut_yes hn (by omega) (by omega)]
    have HC := Lib.hid (read_yes s 12 n (by decide) (by decide) w hs hn hb)
    clear hn hb hs
    go_enter Tryd.func21, Tryd.ntmps21
    go_wp2_with (go_at_call 33; refine HC.out.mono ?_; rintro e w1 ⟨rfl, hb1⟩)
    go_ret2
    exact ⟨rfl, hb1⟩
  · have hn : ∀ n : Int, n.natAbs < 10 ^ 12 → Lib.itoa n ≠ s.data.toList := fun n hb he => h ⟨n, hb, he⟩
    rw [numOut_no (fun n h0 h1 => hn n (by omega))]
    have HC := Lib.hid (read_no s 12 (by decide) (by decide) w hs hn)
    clear hn h hs
    go_enter Tryd.func21, Tryd.ntmps21
    go_wp2_with (go_at_call 33; refine HC.out.mono ?_; rintro e w1 ⟨rfl, hb1⟩)
    go_ret2
    exact ⟨rfl, hb1⟩

set_option maxHeartbeats 400000 in
theorem specNumber_any (s : ByteArray) (w : World) (hs : s.size ≤ maxLen) :
    Calls Tryd.prog 16 #[.string s] w fun e w' => e = .returned (numOut 0 999999 s.data.toList) ∧ Below w.heap.size w w' := by
  by_cases h : ∃ n : Int, n.natAbs < 10 ^ 6 ∧ Lib.itoa n = s.data.toList
  · obtain ⟨n, hb, hn⟩ := h
    by_cases h0 : n < 0
    · rw [numOut_no (fun m hm0 _ he => by have := itoa_inj (he.trans hn.symm); omega)]
      have HC := Lib.hid (read_yes s 6 n (by decide) (by decide) w hs hn hb)
      clear hn hb hs
      go_enter Tryd.func16, Tryd.ntmps16
      go_wp2_with (go_at_call 33; refine HC.out.mono ?_; rintro e w1 ⟨rfl, hb1⟩)
      go_ret2
      exact ⟨rfl, hb1⟩
    · rw [numOut_yes hn (by omega) (by omega)]
      have HC := Lib.hid (read_yes s 6 n (by decide) (by decide) w hs hn hb)
      clear hn hb hs
      go_enter Tryd.func16, Tryd.ntmps16
      go_wp2_with (go_at_call 33; refine HC.out.mono ?_; rintro e w1 ⟨rfl, hb1⟩)
      go_ret2
      exact ⟨rfl, hb1⟩
  · have hn : ∀ n : Int, n.natAbs < 10 ^ 6 → Lib.itoa n ≠ s.data.toList := fun n hb he => h ⟨n, hb, he⟩
    rw [numOut_no (fun n h0 h1 => hn n (by omega))]
    have HC := Lib.hid (read_no s 6 (by decide) (by decide) w hs hn)
    clear hn h hs
    go_enter Tryd.func16, Tryd.ntmps16
    go_wp2_with (go_at_call 33; refine HC.out.mono ?_; rintro e w1 ⟨rfl, hb1⟩)
    go_ret2
    exact ⟨rfl, hb1⟩
#print axioms specNumber_any
#print axioms specInt_any
end Go.Proofs.YtekgfjfdabcmfaaDoor
