/-
  The contract of the program's IsName, which ranges over the string rune by rune, and the walk of the law on it.
-/
import Derived.Test.YteoeefmdfalnjaaIsName
namespace Go.Proofs.Yteoeefmdfalnjaa
open Go Go.RowKit

theorem iter_below (w : World) (s : ByteArray) (pos : Nat) : Below w.heap.size w (w.iter s pos) := (Below.refl _ _).alloc (Nat.le_refl _) _
theorem size_nil {s : ByteArray} (h : s.toList = []) : s.size = 0 := by
  rw [ByteArray.toList_eq] at h
  obtain ⟨⟨l⟩⟩ := s
  have : l = [] := h
  subst this
  rfl
theorem nil_size {s : ByteArray} (h : s.size = 0) : s.toList = [] := by
  rw [ByteArray.toList_eq]
  obtain ⟨⟨l⟩⟩ := s
  exact List.eq_nil_of_length_eq_zero h

set_option maxRecDepth 100000 in
set_option maxHeartbeats 1000000 in
theorem nmI_loop (s : ByteArray) (w : World) (h1 : 1 ≤ s.size) (h4 : s.size ≤ 4) (hfree : ¬ Res s) : Calls Try.prog 19 #[.string s] w (Tells (Nm s) w) := by
  have t0 : (s.toList == []) = false := by
    rw [beq_eq_false_iff_ne]
    exact fun hc => absurd (size_nil hc) (by omega)
  have HC : Hid (Calls Try.prog 35 #[.string s] w fun e w' => e = .returned (.bool false) ∧ Below w.heap.size w w') := Lib.hid ((res_any s w).mono fun e w' ⟨r, hr, he, hb⟩ => by
    cases r with
    | true => exact absurd (hr.1 rfl) hfree
    | false => exact ⟨he, hb⟩)
  have HE := Lib.hid (fun (h : ∀ k, okAt s k) => Nm.mk h h1 h4 hfree)
  clear hfree
  go_enter Try.func19, Try.ntmps19
  go_wp2_with fail
  refine HC.out.mono ?_
  rintro e w1 ⟨rfl, hb1⟩
  have HB := Lib.hid hb1
  clear hb1 HC
  go_wp2_with fail
  go_loopw [3] (fun _ wr => ∃ pos : Nat, wr = w1.iter s pos ∧ Hid (∀ j, j < pos → okAt s j)) (fun _ wr => s.size - wr.iterPos w1.heap.size)
  case atStart => exact ⟨0, rfl, Lib.hid (fun j hj => absurd hj (Nat.not_lt_zero j))⟩
  case round =>
    obtain ⟨pos, rfl, HK⟩ := hrel
    have HBI := Lib.hid (HB.out.trans ((iter_below w1 s pos).mono HB.out.size))
    by_cases hp : pos < s.size
    · by_cases ha : s[pos].toNat < 128
      · have hnx : ∀ ty, (Instr.next (.pointer (some ⟨w1.heap.size, 0, none⟩)) true ty).run Try.prog (w1.iter s pos) = _ := fun ty => run_next_ascii w1 s pos ty hp ha
        have HBN := Lib.hid (HB.out.trans ((iter_below w1 s (pos + 1)).mono HB.out.size))
        by_cases hlet : 97 ≤ s[pos].toNat ∧ s[pos].toNat ≤ 122
        · obtain ⟨l1, l2⟩ := hlet
          have HN := Lib.hid (ok_next HK.out (ok_letter l1 l2))
          go_wp2_with fail
          go_roundw
          case rel => exact ⟨pos + 1, rfl, HN⟩
          case measure => simp; omega
        · by_cases hdig : 1 ≤ pos ∧ 48 ≤ s[pos].toNat ∧ s[pos].toNat ≤ 57
          · obtain ⟨d0, d1, d2⟩ := hdig
            have HN := Lib.hid (ok_next HK.out (ok_digit d0 d1 d2))
            have t := at_more d0
            clear hlet
            go_wp2_with fail
            go_roundw
            case rel => exact ⟨pos + 1, rfl, HN⟩
            case measure => simp; omega
          · have HN := Lib.hid (ok_bad (s := s) (k := pos) (hk := hp) (by omega) (by omega))
            rcases (show s[pos].toNat < 48 ∨ (pos = 0 ∧ 48 ≤ s[pos].toNat ∧ s[pos].toNat ≤ 57) ∨ (57 < s[pos].toNat ∧ s[pos].toNat < 97) ∨ 122 < s[pos].toNat by omega) with b1 | ⟨b0, b1, b2⟩ | ⟨b1, b2⟩ | b1
            all_goals clear hdig hlet
            · skip
              have p48 : decide ((48 : Int) ≤ (s[pos].toNat : Int)) = false := by simp; omega
              have p57 : decide ((s[pos].toNat : Int) ≤ 57) = true := by simp; omega
              have p97 : decide ((97 : Int) ≤ (s[pos].toNat : Int)) = false := by simp; omega
              have p122 : decide ((s[pos].toNat : Int) ≤ 122) = true := by simp; omega
              go_wp2_with fail
              go_ret
              exact ⟨false, tells_no HN.out, rfl, HBN.out⟩
            · subst b0
              have p48 : decide ((48 : Int) ≤ (s[0].toNat : Int)) = true := by simp; omega
              have p57 : decide ((s[0].toNat : Int) ≤ 57) = true := by simp; omega
              have p97 : decide ((97 : Int) ≤ (s[0].toNat : Int)) = false := by simp; omega
              have p122 : decide ((s[0].toNat : Int) ≤ 122) = true := by simp; omega
              go_wp2_with fail
              go_ret
              exact ⟨false, tells_no HN.out, rfl, HBN.out⟩
            · skip
              have p48 : decide ((48 : Int) ≤ (s[pos].toNat : Int)) = true := by simp; omega
              have p57 : decide ((s[pos].toNat : Int) ≤ 57) = false := by simp; omega
              have p97 : decide ((97 : Int) ≤ (s[pos].toNat : Int)) = false := by simp; omega
              have p122 : decide ((s[pos].toNat : Int) ≤ 122) = true := by simp; omega
              go_wp2_with fail
              go_ret
              exact ⟨false, tells_no HN.out, rfl, HBN.out⟩
            · skip
              have p48 : decide ((48 : Int) ≤ (s[pos].toNat : Int)) = true := by simp; omega
              have p57 : decide ((s[pos].toNat : Int) ≤ 57) = false := by simp; omega
              have p97 : decide ((97 : Int) ≤ (s[pos].toNat : Int)) = true := by simp; omega
              have p122 : decide ((s[pos].toNat : Int) ≤ 122) = false := by simp; omega
              go_wp2_with fail
              go_ret
              exact ⟨false, tells_no HN.out, rfl, HBN.out⟩
      · obtain ⟨r, hr⟩ : ∃ r, r = (Utf8.decode s pos).1 := ⟨_, rfl⟩
        obtain ⟨wd, hwd⟩ : ∃ wd, wd = (Utf8.decode s pos).2 := ⟨_, rfl⟩
        have hnx : ∀ ty, (Instr.next (.pointer (some ⟨w1.heap.size, 0, none⟩)) true ty).run Try.prog (w1.iter s pos) = _ := fun ty => run_next_any w1 s pos ty hp
        have hrh : 128 ≤ r := by rw [hr]; exact (decode_high s pos hp (by omega)).1
        rw [← hr, ← hwd] at hnx
        clear hr hwd
        have HBN := Lib.hid (HB.out.trans ((iter_below w1 s (pos + wd)).mono HB.out.size))
        have HN := Lib.hid (ok_bad (s := s) (k := pos) (hk := hp) (by omega) (by omega))
        have p48 : decide ((48 : Int) ≤ (r : Int)) = true := by simp; omega
        have p57 : decide ((r : Int) ≤ 57) = false := by simp; omega
        have p97 : decide ((97 : Int) ≤ (r : Int)) = true := by simp; omega
        have p122 : decide ((r : Int) ≤ 122) = false := by simp; omega
        go_wp2_with fail
        go_ret
        exact ⟨false, tells_no HN.out, rfl, HBN.out⟩
    · have hnx : ∀ ty, (Instr.next (.pointer (some ⟨w1.heap.size, 0, none⟩)) true ty).run Try.prog (w1.iter s pos) = _ := fun ty => run_next_end w1 s pos ty hp
      have HN := Lib.hid (HE.out (ok_end HK.out (by omega)))
      go_wp2_with fail
      go_ret
      exact ⟨true, tells_yes HN.out, rfl, HBI.out⟩

set_option maxRecDepth 100000 in
set_option maxHeartbeats 1000000 in
theorem nmI_any (s : ByteArray) (w : World) (hs : s.size ≤ 9223372036854775807) : Calls Try.prog 19 #[.string s] w (Tells (Nm s) w) := by
  by_cases h0 : s.size = 0
  · have t0 : (s.toList == []) = true := by rw [nil_size h0]; rfl
    have HN := Lib.hid (show ¬ Nm s from fun h => absurd h.lo (by omega))
    clear h0
    go_enter Try.func19, Try.ntmps19
    go_wp2_with fail
    go_ret
    exact ⟨false, tells_no HN.out, rfl, Below.refl _ _⟩
  have t0 : (s.toList == []) = false := by
    rw [beq_eq_false_iff_ne]
    exact fun hc => h0 (size_nil hc)
  by_cases h4 : 4 < (s.size : Int)
  · have HN := Lib.hid (show ¬ Nm s from fun h => absurd h.hi (by omega))
    go_enter Try.func19, Try.ntmps19
    go_wp2_with fail
    go_ret
    exact ⟨false, tells_no HN.out, rfl, Below.refl _ _⟩
  by_cases hres : Res s
  · have HN := Lib.hid (show ¬ Nm s from fun h => h.free hres)
    have HC : Hid (Calls Try.prog 35 #[.string s] w fun e w' => e = .returned (.bool true) ∧ Below w.heap.size w w') := Lib.hid ((res_any s w).mono fun e w' ⟨r, hr, he, hb⟩ => by
      cases r with
      | true => exact ⟨he, hb⟩
      | false => exact absurd (hr.2 hres) (by decide))
    clear hres
    go_enter Try.func19, Try.ntmps19
    go_wp2_with fail
    refine HC.out.mono ?_
    rintro e w1 ⟨rfl, hb1⟩
    go_wp2_with fail
    go_ret
    exact ⟨false, tells_no HN.out, rfl, hb1⟩
  exact nmI_loop s w (by omega) (by omega) hres

theorem tells_same {p : Prop} {a b : Bool} (ha : a = true ↔ p) (hb : b = true ↔ p) : a = b := by
  cases a <;> cases b
  · rfl
  · exact absurd (ha.2 (hb.1 rfl)) (by decide)
  · exact absurd (hb.2 (ha.1 rfl)) (by decide)
  · rfl
end Go.Proofs.Yteoeefmdfalnjaa

