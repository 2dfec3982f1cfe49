/-
  The contract of the model's reader of integers: at every string, the number whose numeral it is, or 0 and false.
-/
import Derived.Test.YtekgfjfdabcmfaaDoorFmt
import Derived.Test.YtekgfjfdabcmfaaDoorScan
namespace Go.Proofs.YtekgfjfdabcmfaaDoor
open Go Go.RowKit

set_option maxRecDepth 100000 in
set_option maxHeartbeats 1000000 in
theorem read_pos (s : ByteArray) (most : Int) (hm1 : most ≤ 17) (w : World) (h1 : 1 ≤ (s.size : Int)) (h2 : (s.size : Int) ≤ most)
    (hlt : 0 < s.size) (h45 : ((s[0].toNat : Int) == 45) = false) :
    Calls Tryd.prog 33 #[.string s, .int .i64 most] w fun e w' => ReadOut s.data.toList most.toNat e ∧ Below w.heap.size w w' := by
  have HT := Lib.hid (tl_pos hlt h45)
  have hbyte : ∀ (c : UInt8), 48 ≤ (c.toNat : Int) ∧ (c.toNat : Int) ≤ 57 → isDig c := fun c h => by unfold isDig; omega
  have HB := Lib.hid hbyte
  clear hbyte
  go_enter Tryd.func33, Tryd.ntmps33
  go_wp2_with fail
  go_loop [8, 9] (fun n i => ∃ k N : Nat, k ≤ s.size ∧ i = .int .i64 k ∧ n = .int .i64 N ∧ Spelt s.data.toList k N) (fun _ i => s.size - (intOf i).toNat)
  case atStart => exact ⟨0, 0, Nat.zero_le _, rfl, rfl, spelt_zero _⟩
  case round =>
    obtain ⟨k, N, hk, rfl, rfl, hsp⟩ := hrel
    have HS := Lib.hid hsp
    have hbd : (N : Int) ≤ 100000000000000000 := spelt_bd hsp (by omega)
    clear hsp
    by_cases hlk : k < s.size
    · have hkt : k < s.size := by omega
      by_cases hd : isDig s[k]
      · have d1 : 48 ≤ (s[k].toNat : Int) := by unfold isDig at hd; omega
        have d2 : (s[k].toNat : Int) ≤ 57 := by unfold isDig at hd; omega
        have HD := Lib.hid hd
        clear hd
        go_wp2_with fail
        go_round
        case rel => exact ⟨k + 1, 10 * N + (s[k].toNat - 48), by omega, by go_num, by go_num, spelt_step HS.out hkt HD.out⟩
        case measure => simp [intOf]; omega
      · have HD := Lib.hid hd
        clear hd
        go_wp2_with fail
        · go_ret2
          exact ⟨out_char HT.out (mem_bytes _ k hkt) HD.out, Below.refl _ _⟩
        · exact absurd (HB.out _ (by assumption)) HD.out
        · go_ret2
          exact ⟨out_char HT.out (mem_bytes _ k hkt) HD.out, Below.refl _ _⟩
    · have hall := spelt_all HS.out (show s.data.toList.length ≤ k by rw [size_len]; omega)
      have HA := Lib.hid hall.1
      have HC := Lib.hid hall.2
      clear hall HS
      by_cases heq : Lib.itoa (sg false N) = s.data.toList
      · have hbe : (Lib.itoa (N : Int) == s.toList) = true := by rw [beq_iff_eq, Lib.toList_data]; exact heq
        have HE := Lib.hid heq
        clear heq
        go_wp2_with (go_at_call 13; refine (fmt_any _ (by omega) (by omega) _).mono ?_; rintro e w1 ⟨rfl, hb1⟩)
        go_ret2
        have ho := out_eq (neg := false) (m := most.toNat) (l := s.data.toList) HC.out (by rw [size_len]; omega) (by rw [HA.out]; exact HE.out)
        rw [HA.out] at ho
        exact ⟨ho, hb1⟩
      · have hbe : (Lib.itoa (N : Int) == s.toList) = false := by rw [beq_eq_false_iff_ne, Lib.toList_data]; exact heq
        have HE := Lib.hid heq
        clear heq
        go_wp2_with (go_at_call 13; refine (fmt_any _ (by omega) (by omega) _).mono ?_; rintro e w1 ⟨rfl, hb1⟩)
        go_ret2
        exact ⟨out_ne HT.out (by rw [HA.out]; exact HE.out), hb1⟩

set_option maxRecDepth 100000 in
set_option maxHeartbeats 1000000 in
theorem read_neg (s : ByteArray) (most : Int) (hm1 : most ≤ 17) (w : World) (h1 : 1 ≤ ((s.size - 1 : Nat) : Int)) (h2 : ((s.size - 1 : Nat) : Int) ≤ most)
    (hlt : 0 < s.size) (h45 : ((s[0].toNat : Int) == 45) = true) :
    Calls Tryd.prog 33 #[.string s, .int .i64 most] w fun e w' => ReadOut s.data.toList most.toNat e ∧ Below w.heap.size w w' := by
  have HT := Lib.hid (tl_neg hlt h45)
  have hbyte : ∀ (c : UInt8), 48 ≤ (c.toNat : Int) ∧ (c.toNat : Int) ≤ 57 → isDig c := fun c h => by unfold isDig; omega
  have HB := Lib.hid hbyte
  clear hbyte
  go_enter Tryd.func33, Tryd.ntmps33
  go_wp2_with fail
  go_loop [8, 9] (fun n i => ∃ k N : Nat, k ≤ s.size - 1 ∧ i = .int .i64 k ∧ n = .int .i64 N ∧ Spelt (s.extract 1 s.size).data.toList k N) (fun _ i => s.size - (intOf i).toNat)
  case atStart => exact ⟨0, 0, Nat.zero_le _, rfl, rfl, spelt_zero _⟩
  case round =>
    obtain ⟨k, N, hk, rfl, rfl, hsp⟩ := hrel
    have HS := Lib.hid hsp
    have hbd : (N : Int) ≤ 100000000000000000 := spelt_bd hsp (by omega)
    clear hsp
    by_cases hlk : k < s.size - 1
    · have hkt : k < (s.extract 1 s.size).size := by simp; omega
      by_cases hd : isDig (s.extract 1 s.size)[k]
      · have d1 : 48 ≤ ((s.extract 1 s.size)[k].toNat : Int) := by unfold isDig at hd; omega
        have d2 : ((s.extract 1 s.size)[k].toNat : Int) ≤ 57 := by unfold isDig at hd; omega
        have HD := Lib.hid hd
        clear hd
        go_wp2_with fail
        go_round
        case rel => exact ⟨k + 1, 10 * N + ((s.extract 1 s.size)[k].toNat - 48), by omega, by go_num, by go_num, spelt_step HS.out hkt HD.out⟩
        case measure => simp [intOf]; omega
      · have HD := Lib.hid hd
        clear hd
        go_wp2_with fail
        · go_ret2
          exact ⟨out_char HT.out (mem_bytes _ k hkt) HD.out, Below.refl _ _⟩
        · exact absurd (HB.out _ (by assumption)) HD.out
        · go_ret2
          exact ⟨out_char HT.out (mem_bytes _ k hkt) HD.out, Below.refl _ _⟩
    · have hall := spelt_all HS.out (show (s.extract 1 s.size).data.toList.length ≤ k by rw [size_len]; simp; omega)
      have HA := Lib.hid hall.1
      have HC := Lib.hid hall.2
      clear hall HS
      by_cases heq : Lib.itoa (sg true N) = s.data.toList
      · have hbe : (Lib.itoa (-(N : Int)) == s.toList) = true := by rw [beq_iff_eq, Lib.toList_data]; exact heq
        have HE := Lib.hid heq
        clear heq
        go_wp2_with (go_at_call 13; refine (fmt_any _ (by omega) (by omega) _).mono ?_; rintro e w1 ⟨rfl, hb1⟩)
        go_ret2
        have ho := out_eq (neg := true) (m := most.toNat) (l := s.data.toList) HC.out (by rw [size_len]; simp; omega) (by rw [HA.out]; exact HE.out)
        rw [HA.out] at ho
        exact ⟨ho, hb1⟩
      · have hbe : (Lib.itoa (-(N : Int)) == s.toList) = false := by rw [beq_eq_false_iff_ne, Lib.toList_data]; exact heq
        have HE := Lib.hid heq
        clear heq
        go_wp2_with (go_at_call 13; refine (fmt_any _ (by omega) (by omega) _).mono ?_; rintro e w1 ⟨rfl, hb1⟩)
        go_ret2
        exact ⟨out_ne HT.out (by rw [HA.out]; exact HE.out), hb1⟩

set_option maxRecDepth 100000 in
set_option maxHeartbeats 400000 in
theorem read_none (s : ByteArray) (most : Int) (w : World) (h0 : s.size = 0) :
    Calls Tryd.prog 33 #[.string s, .int .i64 most] w fun e w' => ReadOut s.data.toList most.toNat e ∧ Below w.heap.size w w' := by
  have hl : s.data.toList = [] := by rw [← List.length_eq_zero_iff, size_len]; exact h0
  have hs : s = ⟨#[]⟩ := by
    obtain ⟨⟨l⟩⟩ := s
    have e : l = [] := hl
    rw [e]
  subst hs
  clear h0 hl
  go_enter Tryd.func33, Tryd.ntmps33
  go_wp2_with fail
  go_ret2
  exact ⟨out_nil rfl, Below.refl _ _⟩

set_option maxRecDepth 100000 in
set_option maxHeartbeats 400000 in
theorem read_size_pos (s : ByteArray) (most : Int) (hm0 : 1 ≤ most) (w : World) (hlt : 0 < s.size) (hs : s.size ≤ maxLen) (h2 : most < (s.size : Int))
    (h45 : ((s[0].toNat : Int) == 45) = false) :
    Calls Tryd.prog 33 #[.string s, .int .i64 most] w fun e w' => ReadOut s.data.toList most.toNat e ∧ Below w.heap.size w w' := by
  have HT := Lib.hid (tl_pos hlt h45)
  unfold maxLen at hs
  go_enter Tryd.func33, Tryd.ntmps33
  go_wp2_with fail
  go_ret2
  exact ⟨out_size HT.out (by omega) (by rw [size_len]; omega), Below.refl _ _⟩

set_option maxRecDepth 100000 in
set_option maxHeartbeats 400000 in
theorem read_size_neg (s : ByteArray) (most : Int) (hm0 : 1 ≤ most) (w : World) (hlt : 0 < s.size) (hs : s.size ≤ maxLen) (h2 : ((s.size - 1 : Nat) : Int) < 1 ∨ most < ((s.size - 1 : Nat) : Int))
    (h45 : ((s[0].toNat : Int) == 45) = true) :
    Calls Tryd.prog 33 #[.string s, .int .i64 most] w fun e w' => ReadOut s.data.toList most.toNat e ∧ Below w.heap.size w w' := by
  have HT := Lib.hid (tl_neg hlt h45)
  unfold maxLen at hs
  rcases h2 with h2 | h2
  all_goals
    go_enter Tryd.func33, Tryd.ntmps33
    go_wp2_with fail
    all_goals go_ret2
    all_goals exact ⟨out_size HT.out (by omega) (by rw [size_len]; simp; omega), Below.refl _ _⟩

/-- THE MODEL's READER OF INTEGERS, AT EVERY STRING. -/
theorem read_any (s : ByteArray) (most : Int) (hm0 : 1 ≤ most) (hm1 : most ≤ 17) (w : World) (hs : s.size ≤ maxLen) :
    Calls Tryd.prog 33 #[.string s, .int .i64 most] w fun e w' => ReadOut s.data.toList most.toNat e ∧ Below w.heap.size w w' := by
  by_cases h0 : s.size = 0
  · exact read_none s most w h0
  · have hlt : 0 < s.size := by omega
    cases h45 : ((s[0].toNat : Int) == 45) with
    | false =>
      by_cases hz : most < (s.size : Int)
      · exact read_size_pos s most hm0 w hlt hs hz h45
      · exact read_pos s most hm1 w (by omega) (by omega) hlt h45
    | true =>
      by_cases hz : ((s.size - 1 : Nat) : Int) < 1 ∨ most < ((s.size - 1 : Nat) : Int)
      · exact read_size_neg s most hm0 w hlt hs hz h45
      · exact read_neg s most hm1 w (by omega) (by omega) hlt h45
#print axioms read_any
end Go.Proofs.YtekgfjfdabcmfaaDoor
