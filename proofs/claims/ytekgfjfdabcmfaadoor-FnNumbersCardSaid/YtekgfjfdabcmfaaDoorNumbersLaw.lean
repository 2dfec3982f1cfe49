/-
  The walk of the law that integers and numbers are parsed from their decimal representation, and that parsed strings are that representation.
-/
import Derived.Test.YtekgfjfdabcmfaaDoorParseLaw
import Derived.Test.YtekgfjfdabcmfaaDoorDrawNum
import Derived.Test.YtekgfjfdabcmfaaDoorDrawSplit
namespace Go.Proofs.YtekgfjfdabcmfaaDoor
open Go Go.RowKit

/-- What is read back of a numeral, and how long it is: by the number's sign and size. -/
theorem four (n : Int) (h0 : -9223372036854775808 ≤ n) (h1 : n ≤ 9223372036854775807) :
    (0 ≤ n ∧ ((Lib.itoa n).length : Int) ≤ 12 ∧ numOut (-999999999999) 999999999999 (Lib.itoa n) = .tuple #[.int .i64 n, .bool true]) ∨
    (0 ≤ n ∧ 13 ≤ ((Lib.itoa n).length : Int) ∧ numOut (-999999999999) 999999999999 (Lib.itoa n) = .tuple #[.int .i64 0, .bool false]) ∨
    (n < 0 ∧ ((Lib.itoa n).length : Int) ≤ 13 ∧ numOut (-999999999999) 999999999999 (Lib.itoa n) = .tuple #[.int .i64 n, .bool true]) ∨
    (n < 0 ∧ 14 ≤ ((Lib.itoa n).length : Int) ∧ numOut (-999999999999) 999999999999 (Lib.itoa n) = .tuple #[.int .i64 0, .bool false]) := by
  have hno : ¬ (-999999999999 ≤ n ∧ n ≤ 999999999999) → numOut (-999999999999) 999999999999 (Lib.itoa n) = .tuple #[.int .i64 0, .bool false] := fun h =>
    numOut_no (fun m hm0 hm1 e => h (by rw [← itoa_inj e]; exact ⟨hm0, hm1⟩))
  have hyes : (-999999999999 ≤ n ∧ n ≤ 999999999999) → numOut (-999999999999) 999999999999 (Lib.itoa n) = .tuple #[.int .i64 n, .bool true] := fun h => numOut_yes rfl h.1 h.2
  by_cases hn : n < 0
  · have hl : (Lib.itoa n).length = Lib.nDigits n.natAbs + 1 := by
      unfold Lib.itoa
      rw [if_pos hn, List.length_cons, Lib.decDigits_length]
    by_cases hb : -999999999999 ≤ n
    · have hd := nDigits_le 12 n.natAbs (by decide) (by simp only [Nat.reducePow]; omega)
      exact Or.inr (Or.inr (Or.inl ⟨hn, by omega, hyes ⟨hb, by omega⟩⟩))
    · have hd : ¬ Lib.nDigits n.natAbs ≤ 12 := fun h => by
        have := lt_of_nDigits_le h
        simp only [Nat.reducePow] at this
        omega
      exact Or.inr (Or.inr (Or.inr ⟨hn, by omega, hno (fun h => hb h.1)⟩))
  · have hl : (Lib.itoa n).length = Lib.nDigits n.toNat := by
      unfold Lib.itoa
      rw [if_neg hn, Lib.decDigits_length]
    by_cases hb : n ≤ 999999999999
    · have hd := nDigits_le 12 n.toNat (by decide) (by simp only [Nat.reducePow]; omega)
      exact Or.inl ⟨by omega, by omega, hyes ⟨by omega, hb⟩⟩
    · have hd : ¬ Lib.nDigits n.toNat ≤ 12 := fun h => by
        have := lt_of_nDigits_le h
        simp only [Nat.reducePow] at this
        omega
      exact Or.inr (Or.inl ⟨by omega, by omega, hno (fun h => hb h.2)⟩)

set_option maxRecDepth 100000 in
set_option maxHeartbeats 400000 in
theorem lawNu_big (a : Option Addr) (len cap : Nat) (w : World) (hl : len ≤ 9223372036854775807) (h : 1048576 < (len : Int)) :
    Calls Tryd.prog 3 #[.slice a len cap] w fun e w' => e = .returned (.bool true) ∧ Below w.heap.size w w' := by
  go_enter Tryd.func3, Tryd.ntmps3
  go_wp2_with fail
  refine (big_yes a len cap w hl h).mono ?_
  rintro e w' ⟨rfl, rfl⟩
  go_wp2_with fail
  go_ret
  exact ⟨rfl, Below.refl _ _⟩

set_option maxRecDepth 100000 in
set_option maxHeartbeats 2000000 in
theorem lawNu_small (a : Option Addr) (len cap : Nat) (w : World) (hl : len ≤ 1048576) (hv : Bytes w (.slice a len cap)) (he : Env w) :
    Calls Tryd.prog 3 #[.slice a len cap] w fun e w' => e = .returned (.bool true) ∧ Below w.heap.size w w' := by
  have HE := Lib.hid he
  have HV := Lib.hid hv
  clear he hv
  go_enter Tryd.func3, Tryd.ntmps3
  go_wp2_with fail
  refine (big_no a len cap w (by omega)).mono ?_
  rintro e w' ⟨rfl, rfl⟩
  go_wp2_with fail
  refine (drawFmt_any _ w HV.out hl).mono ?_
  rintro e w1 ⟨n, rfl, hn, hb1⟩
  obtain ⟨n0, n1⟩ := hn
  have HB1 := Lib.hid hb1
  clear hb1
  go_wp2_with fail
  refine (implFmt_any n n0 n1 w1 (HE.out.below HB1.out).1).mono ?_
  rintro e w2 ⟨rfl, hb2⟩
  have HB2 := Lib.hid (HB1.out.trans (hb2.mono HB1.out.size))
  clear hb2
  go_wp2_with fail
  have hsz : (⟨(Lib.itoa n).toArray⟩ : ByteArray).size ≤ 281474976710656 := Nat.le_trans (itoa_length_le n0 n1 : (Lib.itoa n).length ≤ 20) (by decide)
  have HI := Lib.hid (implInt_any ⟨(Lib.itoa n).toArray⟩ hsz w2 (HE.out.below HB2.out))
  clear hsz
  rcases four n n0 n1 with ⟨hn, hlen, hv⟩ | ⟨hn, hlen, hv⟩ | ⟨hn, hlen, hv⟩ | ⟨hn, hlen, hv⟩
  all_goals
    rw [show (⟨(Lib.itoa n).toArray⟩ : ByteArray).data.toList = Lib.itoa n from rfl, hv] at HI
    clear hv
    refine HI.out.mono ?_
    rintro e w3 ⟨rfl, hb3⟩
    have HB3 := Lib.hid (HB2.out.trans (hb3.mono HB2.out.size))
    clear hb3 HI
    go_wp2_with fail
    refine (fmt_any n n0 n1 w3).mono ?_
    rintro e w4 ⟨rfl, hb4⟩
    have HB4 := Lib.hid (HB3.out.trans (hb4.mono HB3.out.size))
    clear hb4
    go_wp2_with fail
  all_goals
    have HV4 := Lib.hid (HV.out.below HB4.out)
    have HE4 := Lib.hid (HE.out.below HB4.out)
    clear hn hlen
    refine (drawParse_any _ w4 HV4.out hl).mono ?_
    rintro e w5 ⟨t, rfl, ht, hb5⟩
    have HB5 := Lib.hid (HB4.out.trans (hb5.mono HB4.out.size))
    have HE5 := Lib.hid (HE4.out.below hb5)
    clear hb5
    go_wp2_with fail
    have HI := Lib.hid (implNumber_any t (by omega) w5 HE5.out)
    have HS := Lib.hid (fun W => specNumber_any t W (show t.size ≤ maxLen by unfold maxLen; omega))
    rcases num_cases 0 999999 t.data.toList with ⟨m, hm, m0, m1, hv⟩ | ⟨_, hv⟩
  all_goals
    rw [hv] at HI HS
    clear hv
    refine HI.out.mono ?_
    rintro e w6 ⟨rfl, hb6⟩
    have HB6 := Lib.hid (HB5.out.trans (hb6.mono HB5.out.size))
    have HE6 := Lib.hid (HE5.out.below hb6)
    clear hb6 HI
  all_goals first
    | (have hbe : (Lib.itoa m == t.toList) = true := by rw [beq_iff_eq, Lib.toList_data]; exact hm
       have HMM := Lib.hid hm
       clear hm
       go_wp2_with fail
       refine (HS.out _).mono ?_
       rintro e w7 ⟨rfl, hb7⟩
       have HB7 := Lib.hid (HB6.out.trans (hb7.mono HB6.out.size))
       have HF := Lib.hid (implFmt_any m (by omega) (by omega) w7 (HE6.out.below hb7).1)
       clear hb7 HS
       go_wp2_with fail
       refine HF.out.mono ?_
       rintro e w8 ⟨rfl, hb8⟩
       have HB8 := Lib.hid (HB7.out.trans (hb8.mono HB7.out.size))
       clear hb8 HF
       go_wp2_with fail
       go_ret
       exact ⟨rfl, HB8.out⟩)
    | (go_wp2_with fail
       refine (HS.out _).mono ?_
       rintro e w7 ⟨rfl, hb7⟩
       have HB7 := Lib.hid (HB6.out.trans (hb7.mono HB6.out.size))
       clear hb7 HS
       go_wp2_with fail
       go_ret
       exact ⟨rfl, HB7.out⟩)

theorem lawNu_any (a : Option Addr) (len cap : Nat) (w : World) (hl : len ≤ 9223372036854775807) (hv : Bytes w (.slice a len cap)) (he : Env w) :
    Calls Tryd.prog 3 #[.slice a len cap] w fun e w' => e = .returned (.bool true) ∧ Below w.heap.size w w' := by
  by_cases h : 1048576 < (len : Int)
  · exact lawNu_big a len cap w hl h
  · exact lawNu_small a len cap w (by omega) hv he
#print axioms lawNu_any
end Go.Proofs.YtekgfjfdabcmfaaDoor
