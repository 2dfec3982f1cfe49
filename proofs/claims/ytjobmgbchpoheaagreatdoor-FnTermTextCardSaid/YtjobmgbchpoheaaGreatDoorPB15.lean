/-
  Several texts of the proof in one (each says below what it holds): Rdm SpecParse Catch Must.
-/
import Derived.Test.YtjobmgbchpoheaaGreatDoorPB14
import Derived.Defers
import Derived.Recover
import Derived.Shelf.Strconv.ErrVarAll
namespace Go.Proofs.YtjobmgbchpoheaaGreatDoor
open Go Go.RowKit

set_option maxRecDepth 100000 in
set_option maxHeartbeats 1000000 in
theorem read_pos (s : ByteArray) (most : Int) (hm1 : most ≤ 17) (w : World) (h1 : 1 ≤ (s.size : Int)) (h2 : (s.size : Int) ≤ most)
    (hlt : 0 < s.size) (h45 : ((s[0].toNat : Int) == 45) = false) :
    Calls Tryz.prog 141 #[.string s, .int .i64 most] w fun e w' => ReadOut s.data.toList most.toNat e ∧ Below w.heap.size w w' := by
  have HT := Lib.hid (tl_pos hlt h45)
  have hbyte : ∀ (c : UInt8), 48 ≤ (c.toNat : Int) ∧ (c.toNat : Int) ≤ 57 → isDig c := fun c h => by unfold isDig; omega
  have HB := Lib.hid hbyte
  clear hbyte
  go_enter Tryz.func141, Tryz.ntmps141
  go_wp2_with fail
  go_loop [8, 9] (fun n i => ∃ k N : Nat, k ≤ s.size ∧ i = .int .i64 k ∧ n = .int .i64 N ∧ Spelt s.data.toList k N) (fun _ i => s.size - (intOf i).toNat)
  case atStart => exact ⟨0, 0, Nat.zero_le _, rfl, rfl, spelt_zero _⟩
  case round =>
    obtain ⟨k, N, hk, rfl, rfl, hsp⟩ := hrel
    have HS := Lib.hid hsp
    have hbd : (N : Int) ≤ 100000000000000000 := spelt_bd hsp (by omega)
    clear hsp
    by_cases hlk : k < s.size
    · have hkt : k < s.size := by omega
      by_cases hd : isDig s[k]
      · have d1 : 48 ≤ (s[k].toNat : Int) := by unfold isDig at hd; omega
        have d2 : (s[k].toNat : Int) ≤ 57 := by unfold isDig at hd; omega
        have HD := Lib.hid hd
        clear hd
        go_wp2_with fail
        go_round
        case rel => exact ⟨k + 1, 10 * N + (s[k].toNat - 48), by omega, by go_num, by go_num, spelt_step HS.out hkt HD.out⟩
        case measure => simp [intOf]; omega
      · have HD := Lib.hid hd
        clear hd
        go_wp2_with fail
        · go_ret2
          exact ⟨out_char HT.out (mem_bytes _ k hkt) HD.out, Below.refl _ _⟩
        · exact absurd (HB.out _ (by assumption)) HD.out
        · go_ret2
          exact ⟨out_char HT.out (mem_bytes _ k hkt) HD.out, Below.refl _ _⟩
    · have hall := spelt_all HS.out (show s.data.toList.length ≤ k by rw [size_len]; omega)
      have HA := Lib.hid hall.1
      have HC := Lib.hid hall.2
      clear hall HS
      by_cases heq : Lib.itoa (sgnd false N) = s.data.toList
      · have hbe : (Lib.itoa (N : Int) == s.toList) = true := by rw [beq_iff_eq, Lib.toList_data]; exact heq
        have HE := Lib.hid heq
        clear heq
        go_wp2_with (go_at_call 61; refine (fmt_any _ (by omega) (by omega) _).mono ?_; rintro e w1 ⟨rfl, hb1⟩)
        go_ret2
        have ho := out_eq (neg := false) (m := most.toNat) (l := s.data.toList) HC.out (by rw [size_len]; omega) (by rw [HA.out]; exact HE.out)
        rw [HA.out] at ho
        exact ⟨ho, hb1⟩
      · have hbe : (Lib.itoa (N : Int) == s.toList) = false := by rw [beq_eq_false_iff_ne, Lib.toList_data]; exact heq
        have HE := Lib.hid heq
        clear heq
        go_wp2_with (go_at_call 61; refine (fmt_any _ (by omega) (by omega) _).mono ?_; rintro e w1 ⟨rfl, hb1⟩)
        go_ret2
        exact ⟨out_ne HT.out (by rw [HA.out]; exact HE.out), hb1⟩

set_option maxRecDepth 100000 in
set_option maxHeartbeats 1000000 in
theorem read_neg (s : ByteArray) (most : Int) (hm1 : most ≤ 17) (w : World) (h1 : 1 ≤ ((s.size - 1 : Nat) : Int)) (h2 : ((s.size - 1 : Nat) : Int) ≤ most)
    (hlt : 0 < s.size) (h45 : ((s[0].toNat : Int) == 45) = true) :
    Calls Tryz.prog 141 #[.string s, .int .i64 most] w fun e w' => ReadOut s.data.toList most.toNat e ∧ Below w.heap.size w w' := by
  have HT := Lib.hid (tl_neg hlt h45)
  have hbyte : ∀ (c : UInt8), 48 ≤ (c.toNat : Int) ∧ (c.toNat : Int) ≤ 57 → isDig c := fun c h => by unfold isDig; omega
  have HB := Lib.hid hbyte
  clear hbyte
  go_enter Tryz.func141, Tryz.ntmps141
  go_wp2_with fail
  go_loop [8, 9] (fun n i => ∃ k N : Nat, k ≤ s.size - 1 ∧ i = .int .i64 k ∧ n = .int .i64 N ∧ Spelt (s.extract 1 s.size).data.toList k N) (fun _ i => s.size - (intOf i).toNat)
  case atStart => exact ⟨0, 0, Nat.zero_le _, rfl, rfl, spelt_zero _⟩
  case round =>
    obtain ⟨k, N, hk, rfl, rfl, hsp⟩ := hrel
    have HS := Lib.hid hsp
    have hbd : (N : Int) ≤ 100000000000000000 := spelt_bd hsp (by omega)
    clear hsp
    by_cases hlk : k < s.size - 1
    · have hkt : k < (s.extract 1 s.size).size := by simp; omega
      by_cases hd : isDig (s.extract 1 s.size)[k]
      · have d1 : 48 ≤ ((s.extract 1 s.size)[k].toNat : Int) := by unfold isDig at hd; omega
        have d2 : ((s.extract 1 s.size)[k].toNat : Int) ≤ 57 := by unfold isDig at hd; omega
        have HD := Lib.hid hd
        clear hd
        go_wp2_with fail
        go_round
        case rel => exact ⟨k + 1, 10 * N + ((s.extract 1 s.size)[k].toNat - 48), by omega, by go_num, by go_num, spelt_step HS.out hkt HD.out⟩
        case measure => simp [intOf]; omega
      · have HD := Lib.hid hd
        clear hd
        go_wp2_with fail
        · go_ret2
          exact ⟨out_char HT.out (mem_bytes _ k hkt) HD.out, Below.refl _ _⟩
        · exact absurd (HB.out _ (by assumption)) HD.out
        · go_ret2
          exact ⟨out_char HT.out (mem_bytes _ k hkt) HD.out, Below.refl _ _⟩
    · have hall := spelt_all HS.out (show (s.extract 1 s.size).data.toList.length ≤ k by rw [size_len]; simp; omega)
      have HA := Lib.hid hall.1
      have HC := Lib.hid hall.2
      clear hall HS
      by_cases heq : Lib.itoa (sgnd true N) = s.data.toList
      · have hbe : (Lib.itoa (-(N : Int)) == s.toList) = true := by rw [beq_iff_eq, Lib.toList_data]; exact heq
        have HE := Lib.hid heq
        clear heq
        go_wp2_with (go_at_call 61; refine (fmt_any _ (by omega) (by omega) _).mono ?_; rintro e w1 ⟨rfl, hb1⟩)
        go_ret2
        have ho := out_eq (neg := true) (m := most.toNat) (l := s.data.toList) HC.out (by rw [size_len]; simp; omega) (by rw [HA.out]; exact HE.out)
        rw [HA.out] at ho
        exact ⟨ho, hb1⟩
      · have hbe : (Lib.itoa (-(N : Int)) == s.toList) = false := by rw [beq_eq_false_iff_ne, Lib.toList_data]; exact heq
        have HE := Lib.hid heq
        clear heq
        go_wp2_with (go_at_call 61; refine (fmt_any _ (by omega) (by omega) _).mono ?_; rintro e w1 ⟨rfl, hb1⟩)
        go_ret2
        exact ⟨out_ne HT.out (by rw [HA.out]; exact HE.out), hb1⟩

set_option maxRecDepth 100000 in
set_option maxHeartbeats 400000 in
theorem read_none (s : ByteArray) (most : Int) (w : World) (h0 : s.size = 0) :
    Calls Tryz.prog 141 #[.string s, .int .i64 most] w fun e w' => ReadOut s.data.toList most.toNat e ∧ Below w.heap.size w w' := by
  have hl : s.data.toList = [] := by rw [← List.length_eq_zero_iff, size_len]; exact h0
  have hs : s = ⟨#[]⟩ := by
    obtain ⟨⟨l⟩⟩ := s
    have e : l = [] := hl
    rw [e]
  subst hs
  clear h0 hl
  go_enter Tryz.func141, Tryz.ntmps141
  go_wp2_with fail
  go_ret2
  exact ⟨out_nil rfl, Below.refl _ _⟩

set_option maxRecDepth 100000 in
set_option maxHeartbeats 400000 in
theorem read_size_pos (s : ByteArray) (most : Int) (hm0 : 1 ≤ most) (w : World) (hlt : 0 < s.size) (hs : s.size ≤ maxLen) (h2 : most < (s.size : Int))
    (h45 : ((s[0].toNat : Int) == 45) = false) :
    Calls Tryz.prog 141 #[.string s, .int .i64 most] w fun e w' => ReadOut s.data.toList most.toNat e ∧ Below w.heap.size w w' := by
  have HT := Lib.hid (tl_pos hlt h45)
  unfold maxLen at hs
  go_enter Tryz.func141, Tryz.ntmps141
  go_wp2_with fail
  go_ret2
  exact ⟨out_size HT.out (by omega) (by rw [size_len]; omega), Below.refl _ _⟩

set_option maxRecDepth 100000 in
set_option maxHeartbeats 400000 in
theorem read_size_neg (s : ByteArray) (most : Int) (hm0 : 1 ≤ most) (w : World) (hlt : 0 < s.size) (hs : s.size ≤ maxLen) (h2 : ((s.size - 1 : Nat) : Int) < 1 ∨ most < ((s.size - 1 : Nat) : Int))
    (h45 : ((s[0].toNat : Int) == 45) = true) :
    Calls Tryz.prog 141 #[.string s, .int .i64 most] w fun e w' => ReadOut s.data.toList most.toNat e ∧ Below w.heap.size w w' := by
  have HT := Lib.hid (tl_neg hlt h45)
  unfold maxLen at hs
  rcases h2 with h2 | h2
  all_goals
    go_enter Tryz.func141, Tryz.ntmps141
    go_wp2_with fail
    all_goals go_ret2
    all_goals exact ⟨out_size HT.out (by omega) (by rw [size_len]; simp; omega), Below.refl _ _⟩
theorem read_any (s : ByteArray) (most : Int) (hm0 : 1 ≤ most) (hm1 : most ≤ 17) (w : World) (hs : s.size ≤ maxLen) :
    Calls Tryz.prog 141 #[.string s, .int .i64 most] w fun e w' => ReadOut s.data.toList most.toNat e ∧ Below w.heap.size w w' := by
  by_cases h0 : s.size = 0
  · exact read_none s most w h0
  · have hlt : 0 < s.size := by omega
    cases h45 : ((s[0].toNat : Int) == 45) with
    | false =>
      by_cases hz : most < (s.size : Int)
      · exact read_size_pos s most hm0 w hlt hs hz h45
      · exact read_pos s most hm1 w (by omega) (by omega) hlt h45
    | true =>
      by_cases hz : ((s.size - 1 : Nat) : Int) < 1 ∨ most < ((s.size - 1 : Nat) : Int)
      · exact read_size_neg s most hm0 w hlt hs hz h45
      · exact read_neg s most hm1 w (by omega) (by omega) hlt h45
end Go.Proofs.YtjobmgbchpoheaaGreatDoor
namespace Go.Proofs.YtjobmgbchpoheaaGreatDoor
open Go Go.RowKit

theorem itoa_inj {a b : Int} (h : Lib.itoa a = Lib.itoa b) : a = b := by rw [← rd_itoa a, h, rd_itoa]

theorem read_yes (s : ByteArray) (most n : Int) (hm0 : 1 ≤ most) (hm1 : most ≤ 17) (w : World) (hs : s.size ≤ maxLen) (hn : Lib.itoa n = s.data.toList) (hb : n.natAbs < 10 ^ most.toNat) :
    Calls Tryz.prog 141 #[.string s, .int .i64 most] w fun e w' => e = .returned (.tuple #[.int .i64 n, .bool true]) ∧ Below w.heap.size w w' := by
  refine (read_any s most hm0 hm1 w hs).mono ?_
  rintro e w' ⟨h | h, hw⟩
  · obtain ⟨m, rfl, he, _⟩ := h
    rw [itoa_inj (he.trans hn.symm)]
    exact ⟨rfl, hw⟩
  · exact absurd hn (h.2 n hb)
theorem read_no (s : ByteArray) (most : Int) (hm0 : 1 ≤ most) (hm1 : most ≤ 17) (w : World) (hs : s.size ≤ maxLen) (hn : ∀ n : Int, n.natAbs < 10 ^ most.toNat → Lib.itoa n ≠ s.data.toList) :
    Calls Tryz.prog 141 #[.string s, .int .i64 most] w fun e w' => e = .returned (.tuple #[.int .i64 0, .bool false]) ∧ Below w.heap.size w w' := by
  refine (read_any s most hm0 hm1 w hs).mono ?_
  rintro e w' ⟨h | h, hw⟩
  · obtain ⟨m, rfl, he, hb⟩ := h
    exact absurd he (hn m hb)
  · exact ⟨h.1, hw⟩
def numOut (lo hi : Int) (l : List UInt8) : Value := if okNum lo hi l then .tuple #[.int .i64 (rd l), .bool true] else .tuple #[.int .i64 0, .bool false]
theorem numOut_yes {lo hi n : Int} {l : List UInt8} (h : Lib.itoa n = l) (h0 : lo ≤ n) (h1 : n ≤ hi) : numOut lo hi l = .tuple #[.int .i64 n, .bool true] := by
  unfold numOut
  rw [okNum_mk h h0 h1, if_pos rfl, ← h, rd_itoa]
theorem numOut_no {lo hi : Int} {l : List UInt8} (h : ∀ n : Int, lo ≤ n → n ≤ hi → Lib.itoa n ≠ l) : numOut lo hi l = .tuple #[.int .i64 0, .bool false] := by
  unfold numOut
  cases e : okNum lo hi l with
  | false => rfl
  | true =>
    have := okNum_yes e
    exact absurd this.2.2 (h _ this.1 this.2.1)

set_option maxHeartbeats 400000 in
theorem specNumber_any (s : ByteArray) (w : World) (hs : s.size ≤ maxLen) :
    Calls Tryz.prog 119 #[.string s] w fun e w' => e = .returned (numOut 0 999999 s.data.toList) ∧ Below w.heap.size w w' := by
  by_cases h : ∃ n : Int, n.natAbs < 10 ^ 6 ∧ Lib.itoa n = s.data.toList
  · obtain ⟨n, hb, hn⟩ := h
    by_cases h0 : n < 0
    · rw [numOut_no (fun m hm0 _ he => by have := itoa_inj (he.trans hn.symm); omega)]
      have HC := Lib.hid (read_yes s 6 n (by decide) (by decide) w hs hn hb)
      clear hn hb hs
      go_enter Tryz.func119, Tryz.ntmps119
      go_wp2_with (go_at_call 141; refine HC.out.mono ?_; rintro e w1 ⟨rfl, hb1⟩)
      go_ret2
      exact ⟨rfl, hb1⟩
    · rw [numOut_yes hn (by omega) (by omega)]
      have HC := Lib.hid (read_yes s 6 n (by decide) (by decide) w hs hn hb)
      clear hn hb hs
      go_enter Tryz.func119, Tryz.ntmps119
      go_wp2_with (go_at_call 141; refine HC.out.mono ?_; rintro e w1 ⟨rfl, hb1⟩)
      go_ret2
      exact ⟨rfl, hb1⟩
  · have hn : ∀ n : Int, n.natAbs < 10 ^ 6 → Lib.itoa n ≠ s.data.toList := fun n hb he => h ⟨n, hb, he⟩
    rw [numOut_no (fun n h0 h1 => hn n (by omega))]
    have HC := Lib.hid (read_no s 6 (by decide) (by decide) w hs hn)
    clear hn h hs
    go_enter Tryz.func119, Tryz.ntmps119
    go_wp2_with (go_at_call 141; refine HC.out.mono ?_; rintro e w1 ⟨rfl, hb1⟩)
    go_ret2
    exact ⟨rfl, hb1⟩
end Go.Proofs.YtjobmgbchpoheaaGreatDoor
namespace Go.Proofs.YtjobmgbchpoheaaGreatDoor
open Go Go.RowKit
def MustGives (s : ByteArray) (lo hi n : Int) (w : World) : Prop :=
  Calls Tryz.prog 101 #[.string s, .int .i64 lo, .int .i64 hi] w fun e w' => e = .returned (.int .i64 n) ∧ Below w.heap.size w w'
def MustDies (s : ByteArray) (lo hi : Int) (w : World) : Prop :=
  Calls Tryz.prog 101 #[.string s, .int .i64 lo, .int .i64 hi] w fun e w' => (∃ pv, e = .panicked [{ v := .iface 9 pv, recovered := false }]) ∧ Below w.heap.size w w'
theorem two_boxes {w w1 : World} {x y : Value} {s t : TypeId} (h : Below ((w.alloc (.cells #[x] s)).alloc (.cells #[y] t)).heap.size ((w.alloc (.cells #[x] s)).alloc (.cells #[y] t)) w1) :
    w1.cell? ⟨w.heap.size, 0, none⟩ = some x ∧ w1.frozen? ⟨w.heap.size, 0, none⟩ = false ∧ w1.cell? ⟨w.heap.size + 1, 0, none⟩ = some y ∧ w1.frozen? ⟨w.heap.size + 1, 0, none⟩ = false ∧ w.heap.size + 1 < w1.heap.size := by
  have hs : ((w.alloc (.cells #[x] s)).alloc (.cells #[y] t)).heap.size = w.heap.size + 2 := by simp
  rw [hs] at h
  have hz := h.size
  rw [hs] at hz
  refine ⟨?_, ?_, ?_, ?_, by omega⟩
  · rw [h.cell (p := ⟨w.heap.size, 0, none⟩) (by simp)]; simp [go_sem]
  · rw [h.frozen (p := ⟨w.heap.size, 0, none⟩) (by simp)]; simp [go_sem]
  · rw [h.cell (p := ⟨w.heap.size + 1, 0, none⟩) (by simp)]; simp [go_sem]
  · rw [h.frozen (p := ⟨w.heap.size + 1, 0, none⟩) (by simp)]; simp [go_sem]
theorem boxes_below {w w1 : World} {x y : Value} {s t : TypeId} (h : Below ((w.alloc (.cells #[x] s)).alloc (.cells #[y] t)).heap.size ((w.alloc (.cells #[x] s)).alloc (.cells #[y] t)) w1) : Below w.heap.size w w1 :=
  (((Below.refl _ _).alloc (Nat.le_refl _) _).alloc (by simp) _).trans (h.mono (by simp; omega))

theorem catchN_panicking (a b : Addr) (x : Int) (y : Bool) (u : TypeId) (pv : Value) (older : List PanicEntry) (w : World) (ha : w.cell? a = some (.int .i64 x)) (za : w.frozen? a = false)
    (hb : w.cell? b = some (.bool y)) (zb : w.frozen? b = false) (hab : ¬ a = b) :
    CallsD Tryz.prog 100 #[.pointer (some a), .pointer (some b)] (.panicking ({ v := .iface u pv, recovered := false } :: older)) w fun e u' w' =>
      e = .returned (.tuple #[]) ∧ u' = .panicking ({ v := .iface u pv, recovered := true } :: older) ∧ w' = (w.setCell a (.int .i64 0)).setCell b (.bool false) := by
  have hb2 : (w.setCell a (.int .i64 0)).cell? b = some (.bool y) := by rw [World.cell?_setCell_other _ _ _ _ hab]; exact hb
  have zb2 : (w.setCell a (.int .i64 0)).frozen? b = false := by rw [World.frozen?_setCell]; exact zb
  refine callsD_of_wpS Tryz.func100 rfl fun c₀ cs hu => ?_
  apply wpS_seq
  apply wpS_region
  simp [wpOpsS, go_sem, recoverD, hu, Tryz.ntmps100, Exit.thenS]
  refine wpS_cond (t := true) (by simp [Act.eval, Array.replicate]) ?_
  simp only [if_true]
  apply wpS_region
  simp [wpOpsS, go_sem, ha, za, hb2, zb2, bodyPostS, results, Tryz.results100]

theorem catchN_idle (a b : Addr) (w : World) :
    CallsD Tryz.prog 100 #[.pointer (some a), .pointer (some b)] .returning w fun e u' w' => e = .returned (.tuple #[]) ∧ u' = .returning ∧ w' = w := by
  refine callsD_of_wpS Tryz.func100 rfl fun c₀ cs hu => ?_
  apply wpS_seq
  apply wpS_region
  simp [wpOpsS, go_sem, recoverD, hu, Tryz.ntmps100, Exit.thenS]
  refine wpS_cond (t := false) (by simp [Act.eval, Array.replicate]) ?_
  simp only [Bool.false_eq_true, if_false]
  refine wpS_of_wp (wp_skip ?_)
  cases c₀
  simp_all [bodyPostS, results, Tryz.results100]

set_option maxRecDepth 100000 in
set_option maxHeartbeats 400000 in
theorem parseN_ok (s : ByteArray) (n : Int) (w : World) (hm : ∀ W, Below w.heap.size w W → MustGives s (0) 999999 n W) :
    Calls Tryz.prog 60 #[.string s] w fun e w' => e = .returned (.tuple #[.int .i64 n, .bool true]) ∧ Below w.heap.size w w' := by
  have hmf : ∀ (fn : Fn) (first cap : Array Value) (w : World), (Instr.makeFunc fn first cap).run Tryz.prog w = .ok (.func fn first cap) w := fun _ _ _ _ => rfl
  have HM := Lib.hid hm
  clear hm
  go_enter_defers Tryz.func60, Tryz.ntmps60
  go_wp2_with fail
  refine Calls.mono (HM.out _ (((Below.refl _ _).alloc (Nat.le_refl _) _).alloc (by simp) _)) ?_
  rintro e w1 ⟨rfl, hb1⟩
  obtain ⟨c0, z0, c1, z1, hz⟩ := two_boxes hb1
  have HB := Lib.hid (boxes_below hb1)
  clear hb1
  go_wp2_with fail
  refine leaves_cons (f := 100) (args := #[.pointer (some ⟨w.heap.size, 0, none⟩), .pointer (some ⟨w.heap.size + 1, 0, none⟩)]) (by simp) (by simp [go_sem]) ?_
  refine (catchN_idle _ _ _).mono ?_
  rintro e u' w'' ⟨rfl, rfl, rfl⟩
  have h0 : ((w1.setCell ⟨w.heap.size, 0, none⟩ (.int .i64 n)).setCell ⟨w.heap.size + 1, 0, none⟩ (.bool true)).cell? ⟨w.heap.size, 0, none⟩ = some (.int .i64 n) := by
    rw [World.cell?_setCell_other _ _ _ _ (by simp)]; exact World.cell?_setCell_same _ _ _ c0
  have h1 : ((w1.setCell ⟨w.heap.size, 0, none⟩ (.int .i64 n)).setCell ⟨w.heap.size + 1, 0, none⟩ (.bool true)).cell? ⟨w.heap.size + 1, 0, none⟩ = some (.bool true) := by
    exact World.cell?_setCell_same _ _ _ (by rw [World.cell?_setCell_other _ _ _ _ (by simp)]; exact c1)
  have hfin : Below w.heap.size w ((w1.setCell ⟨w.heap.size, 0, none⟩ (.int .i64 n)).setCell ⟨w.heap.size + 1, 0, none⟩ (.bool true)) :=
    (HB.out.setCell (Nat.le_refl _) _).setCell (Nat.le_succ _) _
  generalize ((w1.setCell ⟨w.heap.size, 0, none⟩ (.int .i64 n)).setCell ⟨w.heap.size + 1, 0, none⟩ (.bool true)) = w2 at *
  simp [Leaves, settle, results, Tryz.results60, go_sem, h0, h1, hfin]

set_option maxRecDepth 100000 in
set_option maxHeartbeats 400000 in
theorem parseN_bad (s : ByteArray) (w : World) (hm : ∀ W, Below w.heap.size w W → MustDies s (0) 999999 W) :
    Calls Tryz.prog 60 #[.string s] w fun e w' => e = .returned (.tuple #[.int .i64 0, .bool false]) ∧ Below w.heap.size w w' := by
  have hmf : ∀ (fn : Fn) (first cap : Array Value) (w : World), (Instr.makeFunc fn first cap).run Tryz.prog w = .ok (.func fn first cap) w := fun _ _ _ _ => rfl
  have HM := Lib.hid hm
  clear hm
  go_enter_defers Tryz.func60, Tryz.ntmps60
  go_wp2_with fail
  refine Calls.mono (HM.out _ (((Below.refl _ _).alloc (Nat.le_refl _) _).alloc (by simp) _)) ?_
  rintro e w1 ⟨⟨pv, rfl⟩, hb1⟩
  obtain ⟨c0, z0, c1, z1, hz⟩ := two_boxes hb1
  have HB := Lib.hid (boxes_below hb1)
  clear hb1
  refine leaves_cons (f := 100) (args := #[.pointer (some ⟨w.heap.size, 0, none⟩), .pointer (some ⟨w.heap.size + 1, 0, none⟩)]) (by simp) (by simp [go_sem]) ?_
  refine (catchN_panicking ⟨w.heap.size, 0, none⟩ ⟨w.heap.size + 1, 0, none⟩ 0 false _ _ [] _ c0 z0 c1 z1 (by simp)).mono ?_
  rintro e u' w'' ⟨rfl, rfl, rfl⟩
  have h0 : ((w1.setCell ⟨w.heap.size, 0, none⟩ (.int .i64 0)).setCell ⟨w.heap.size + 1, 0, none⟩ (.bool false)).cell? ⟨w.heap.size, 0, none⟩ = some (.int .i64 0) := by
    rw [World.cell?_setCell_other _ _ _ _ (by simp)]; exact World.cell?_setCell_same _ _ _ c0
  have h1 : ((w1.setCell ⟨w.heap.size, 0, none⟩ (.int .i64 0)).setCell ⟨w.heap.size + 1, 0, none⟩ (.bool false)).cell? ⟨w.heap.size + 1, 0, none⟩ = some (.bool false) := by
    exact World.cell?_setCell_same _ _ _ (by rw [World.cell?_setCell_other _ _ _ _ (by simp)]; exact c1)
  have hfin : Below w.heap.size w ((w1.setCell ⟨w.heap.size, 0, none⟩ (.int .i64 0)).setCell ⟨w.heap.size + 1, 0, none⟩ (.bool false)) :=
    (HB.out.setCell (Nat.le_refl _) _).setCell (Nat.le_succ _) _
  generalize ((w1.setCell ⟨w.heap.size, 0, none⟩ (.int .i64 0)).setCell ⟨w.heap.size + 1, 0, none⟩ (.bool false)) = w2 at *
  simp [Leaves, settle, results, Tryz.results60, go_sem, h0, h1, hfin]

end Go.Proofs.YtjobmgbchpoheaaGreatDoor
namespace Go.Proofs.YtjobmgbchpoheaaGreatDoor
open Go Go.RowKit

theorem gSyn : Tryz.prog.globalNamed "strconv.ErrSyntax" = some 3 := by kernel_rfl
theorem gRan : Tryz.prog.globalNamed "strconv.ErrRange" = some 4 := by kernel_rfl
def ErrIs (name : String) (g : Nat) (w : World) : Prop := (∃ tp p, w.var? Tryz.prog name = some #[.iface tp p]) ∧ g < w.heap.size
theorem ErrIs.below {name : String} {g : Nat} {w w' : World} (hg : Tryz.prog.globalNamed name = some g) (h : ErrIs name g w) (hb : Below w.heap.size w w') : ErrIs name g w' := by
  obtain ⟨⟨tp, p, hv⟩, hs⟩ := h
  exact ⟨⟨tp, p, var?_below hb hg hs hv⟩, Nat.lt_of_lt_of_le hs hb.size⟩
def Env (w : World) : Prop := Pow w ∧ ErrIs "strconv.ErrSyntax" 3 w ∧ ErrIs "strconv.ErrRange" 4 w
theorem Env.below {w w' : World} (h : Env w) (hb : Below w.heap.size w w') : Env w' := ⟨h.1.below hb, h.2.1.below gSyn hb, h.2.2.below gRan hb⟩

theorem atoi_fails (s : ByteArray) (hlim : s.size ≤ 281474976710656) (w : World) (he : Env w) (hno : ∀ v, Lib.atoiAll s.data.toList ≠ .ok v) :
    Calls Tryz.prog 134 #[.string s] w fun e w' => (∃ (n : Int) (N : Nat), e = .returned (.tuple #[.int .i64 n, .iface 181 (.pointer (some ⟨N, 0, none⟩))])) ∧ Below w.heap.size w w' := by
  cases h : Lib.atoiAll s.data.toList
  · exact absurd h (hno _)
  · obtain ⟨⟨tp, p, hv⟩, _⟩ := he.2.1
    exact (Any.strconv_Atoi_syntax_var Tryz.laysC172 s hlim h tp p w hv).mono fun e w' ⟨N, h1, _, _, h4⟩ => ⟨⟨_, N, h1⟩, h4⟩
  · obtain ⟨⟨tp, p, hv⟩, _⟩ := he.2.2
    exact (Any.strconv_Atoi_range_var Tryz.laysC172 s hlim h tp p w hv).mono fun e w' ⟨N, h1, _, _, h4⟩ => ⟨⟨_, N, h1⟩, h4⟩
theorem atoi_gives (s : ByteArray) (hlim : s.size ≤ 281474976710656) (w : World) (v : Int) (h : Lib.atoiAll s.data.toList = .ok v) :
    Calls Tryz.prog 134 #[.string s] w fun e w' => e = .returned (.tuple #[.int .i64 v, .nilIface]) ∧ Below w.heap.size w w' :=
  (Tryz.strconv_Atoi_ok s (by omega) v h w).mono fun e w' ⟨h1, h2⟩ => ⟨h1, by
    rcases h2 with rfl | ⟨t, rfl⟩
    · exact Below.refl _ _
    · exact Lib.bytesWorld_below _ _ _⟩

set_option maxRecDepth 100000 in
set_option maxHeartbeats 400000 in
theorem must_fails (s : ByteArray) (hlim : s.size ≤ 281474976710656) (lo hi : Int) (w : World) (he : Env w) (hno : ∀ v, Lib.atoiAll s.data.toList ≠ .ok v) : MustDies s lo hi w := by
  unfold MustDies
  have HC := Lib.hid (atoi_fails s hlim w he hno)
  clear he hno hlim
  go_enter Tryz.func101, Tryz.ntmps101
  go_wp2_with fail
  refine HC.out.mono ?_
  rintro e w1 ⟨⟨n, N, rfl⟩, hb1⟩
  go_wp2_with fail
  exact ⟨rfl, ⟨_, rfl⟩, hb1⟩
set_option maxRecDepth 100000 in
set_option maxHeartbeats 400000 in
theorem must_low (s : ByteArray) (hlim : s.size ≤ 281474976710656) (lo hi : Int) (w : World) (_he : Env w) (v : Int) (h : Lib.atoiAll s.data.toList = .ok v) (hlo : v < lo) : MustDies s lo hi w := by
  unfold MustDies
  have HC := Lib.hid (atoi_gives s hlim w v h)
  clear _he h hlim
  go_enter Tryz.func101, Tryz.ntmps101
  go_wp2_with fail
  refine HC.out.mono ?_
  rintro e w1 ⟨rfl, hb1⟩
  go_wp2_with fail
  exact ⟨rfl, ⟨_, rfl⟩, hb1⟩
set_option maxRecDepth 100000 in
set_option maxHeartbeats 400000 in
theorem must_high (s : ByteArray) (hlim : s.size ≤ 281474976710656) (lo hi : Int) (w : World) (_he : Env w) (v : Int) (h : Lib.atoiAll s.data.toList = .ok v) (hlo : ¬ v < lo) (hhi : hi < v) : MustDies s lo hi w := by
  unfold MustDies
  have HC := Lib.hid (atoi_gives s hlim w v h)
  clear _he h hlim
  go_enter Tryz.func101, Tryz.ntmps101
  go_wp2_with fail
  refine HC.out.mono ?_
  rintro e w1 ⟨rfl, hb1⟩
  go_wp2_with fail
  exact ⟨rfl, ⟨_, rfl⟩, hb1⟩
set_option maxRecDepth 100000 in
set_option maxHeartbeats 400000 in
theorem must_ne (s : ByteArray) (hlim : s.size ≤ 281474976710656) (lo hi : Int) (w : World) (he : Env w) (v : Int) (h : Lib.atoiAll s.data.toList = .ok v) (hlo : ¬ v < lo) (hhi : ¬ hi < v) (h0 : -9223372036854775808 ≤ v) (h1 : v ≤ 9223372036854775807) (hne : ¬ Lib.itoa v = s.data.toList) : MustDies s lo hi w := by
  unfold MustDies
  have hbe : (Lib.itoa v == s.toList) = false := by rw [beq_eq_false_iff_ne, Lib.toList_data]; exact hne
  clear hne
  have HC := Lib.hid (atoi_gives s hlim w v h)
  have HE := Lib.hid he.1
  clear he h hlim
  go_enter Tryz.func101, Tryz.ntmps101
  go_wp2_with fail
  refine HC.out.mono ?_
  rintro e w1 ⟨rfl, hb1⟩
  have HF := Lib.hid (implFmt_any v h0 h1 w1 (HE.out.below hb1))
  go_wp2_with fail
  refine HF.out.mono ?_
  rintro e w2 ⟨rfl, hb2⟩
  go_wp2_with fail
  exact ⟨rfl, ⟨_, rfl⟩, hb1.trans (hb2.mono hb1.size)⟩
set_option maxRecDepth 100000 in
set_option maxHeartbeats 400000 in
theorem must_ok (s : ByteArray) (hlim : s.size ≤ 281474976710656) (lo hi : Int) (w : World) (he : Env w) (v : Int) (h : Lib.atoiAll s.data.toList = .ok v) (hlo : ¬ v < lo) (hhi : ¬ hi < v) (h0 : -9223372036854775808 ≤ v) (h1 : v ≤ 9223372036854775807) (hne : Lib.itoa v = s.data.toList) : MustGives s lo hi v w := by
  unfold MustGives
  have hbe : (Lib.itoa v == s.toList) = true := by rw [beq_iff_eq, Lib.toList_data]; exact hne
  clear hne
  have HC := Lib.hid (atoi_gives s hlim w v h)
  have HE := Lib.hid he.1
  clear he h hlim
  go_enter Tryz.func101, Tryz.ntmps101
  go_wp2_with fail
  refine HC.out.mono ?_
  rintro e w1 ⟨rfl, hb1⟩
  have HF := Lib.hid (implFmt_any v h0 h1 w1 (HE.out.below hb1))
  go_wp2_with fail
  refine HF.out.mono ?_
  rintro e w2 ⟨rfl, hb2⟩
  go_wp2_with fail
  go_ret
  exact ⟨rfl, hb1.trans (hb2.mono hb1.size)⟩

theorem atoi_range {l : List UInt8} {v : Int} (h : Lib.atoiAll l = .ok v) : -9223372036854775808 ≤ v ∧ v ≤ 9223372036854775807 := by
  cases l with
  | nil => cases h
  | cons c r =>
    unfold Lib.atoiAll at h
    dsimp only at h
    split at h
    · cases h
    · cases h
    · split at h
      · cases h
      · split at h
        · cases h
        · rename_i u _ h1 h2
          injection h with h
          rw [← h]
          split <;> omega
theorem must_yes (s : ByteArray) (hlim : s.size ≤ 281474976710656) (lo hi v : Int) (hlo : -9223372036854775808 ≤ lo) (hhi : hi ≤ 9223372036854775807) (h0 : lo ≤ v) (h1 : v ≤ hi) (hv : Lib.itoa v = s.data.toList) (w : World) (he : Env w) :
    MustGives s lo hi v w :=
  must_ok s hlim lo hi w he v (by rw [← hv]; exact atoi_itoa v (by omega) (by omega)) (by omega) (by omega) (by omega) (by omega) hv
theorem must_no (s : ByteArray) (hlim : s.size ≤ 281474976710656) (lo hi : Int) (hno : ∀ v : Int, lo ≤ v → v ≤ hi → Lib.itoa v ≠ s.data.toList) (w : World) (he : Env w) : MustDies s lo hi w := by
  by_cases hx : ∃ v, Lib.atoiAll s.data.toList = .ok v
  · obtain ⟨v, hv⟩ := hx
    have hr := atoi_range hv
    by_cases h0 : v < lo
    · exact must_low s hlim lo hi w he v hv h0
    · by_cases h1 : hi < v
      · exact must_high s hlim lo hi w he v hv h0 h1
      · exact must_ne s hlim lo hi w he v hv h0 h1 hr.1 hr.2 (hno v (by omega) (by omega))
  · exact must_fails s hlim lo hi w he (fun v hv => hx ⟨v, hv⟩)
theorem num_cases (lo hi : Int) (l : List UInt8) : (∃ n, Lib.itoa n = l ∧ lo ≤ n ∧ n ≤ hi ∧ numOut lo hi l = .tuple #[.int .i64 n, .bool true]) ∨
    ((∀ n : Int, lo ≤ n → n ≤ hi → Lib.itoa n ≠ l) ∧ numOut lo hi l = .tuple #[.int .i64 0, .bool false]) := by
  by_cases h : ∃ n, Lib.itoa n = l ∧ lo ≤ n ∧ n ≤ hi
  · obtain ⟨n, h0, h1, h2⟩ := h
    exact Or.inl ⟨n, h0, h1, h2, numOut_yes h0 h1 h2⟩
  · have hn : ∀ n : Int, lo ≤ n → n ≤ hi → Lib.itoa n ≠ l := fun n h1 h2 h0 => h ⟨n, h0, h1, h2⟩
    exact Or.inr ⟨hn, numOut_no hn⟩
theorem implNumber_any (s : ByteArray) (hlim : s.size ≤ 281474976710656) (w : World) (he : Env w) :
    Calls Tryz.prog 60 #[.string s] w fun e w' => e = .returned (numOut 0 999999 s.data.toList) ∧ Below w.heap.size w w' := by
  rcases num_cases 0 999999 s.data.toList with ⟨n, h0, h1, h2, e⟩ | ⟨hn, e⟩
  · rw [e]
    exact parseN_ok s n w (fun W hb => must_yes s hlim 0 999999 n (by decide) (by decide) h1 h2 h0 W (he.below hb))
  · rw [e]
    exact parseN_bad s w (fun W hb => must_no s hlim 0 999999 hn W (he.below hb))
end Go.Proofs.YtjobmgbchpoheaaGreatDoor
