/-
  The contracts of FreshName, the model's and the program's: the first of the names v1, v2, .. that isn't in the list.
-/
import Derived.Test.YtjipomnemgeaeaaDoorFresh
import Derived.Test.YtjipomnemgeaeaaDoorFmt
import Derived.Test.YtjipomnemgeaeaaDoorImplFmt
import Derived.Test.YtjipomnemgeaeaaDoorUniteImpl
namespace Go.Proofs.YtjipomnemgeaeaaDoor
open Go Go.RowKit Go.Maps

set_option maxRecDepth 100000 in
set_option maxHeartbeats 1000000 in
theorem frS_any (xs : List ByteArray) (v : Value) (N : Nat) (w : World) (hn : xs.length ≤ 1048576) (h : SS w v xs) (hN : Fresh xs N) :
    Calls Tryd.prog 13 #[v] w fun e w' => e = .returned (.string (vName N)) ∧ Below w.heap.size w w' := by
  have HS := Lib.hid h
  have HN := Lib.hid hN
  have hNl := hN.lo
  have hNh := hN.hi
  clear h hN
  go_enter Tryd.func13, Tryd.ntmps13
  go_wp2_with fail
  go_loopw [3] (fun i wr => ∃ k : Nat, 1 ≤ k ∧ k ≤ N ∧ i = .int .i64 k ∧ Below w.heap.size w wr) (fun i _ => N - (intOf i).toNat)
  case atStart => exact ⟨1, Nat.le_refl _, hNl, rfl, Below.refl _ _⟩
  case round =>
    obtain ⟨k, hk1, hkN, rfl, hbr⟩ := hrel
    have HB := Lib.hid hbr
    clear hbr
    go_wp2_with fail
    refine (fmt_any (k : Int) (by omega) (by omega) wr).mono ?_
    rintro e w1 ⟨rfl, hb1⟩
    have HB1 := Lib.hid (HB.out.trans (hb1.mono HB.out.size))
    clear hb1
    have hll := itoa_length_le (n := (k : Int)) (by omega) (by omega)
    obtain ⟨l, hl⟩ : ∃ l, l = Lib.itoa (k : Int) := ⟨_, rfl⟩
    rw [← hl] at hll ⊢
    have HV : Hid (vName k = (⟨#[118]⟩ : ByteArray) ++ ⟨l.toArray⟩) := Lib.hid (by rw [hl]; rfl)
    clear hl
    go_wp2_with fail
    rw [← HV.out]
    refine (ixS_any xs v (vName k) w1 (by omega) (HS.out.below HB1.out)).mono ?_
    rintro e w2 ⟨rfl, rfl⟩
    by_cases hin : vName k ∈ xs
    · have t := ix_in hin
      have hk2 := HN.out.next hkN hin
      clear hin
      go_wp2_with fail
      go_roundw
      case rel => exact ⟨k + 1, by omega, hk2, by go_num, HB1.out⟩
      case measure => simp [intOf]; omega
    · have t := ix_out hin
      have hkk := Lib.hid (HN.out.here hkN hk1 hin)
      clear hin
      go_wp2_with fail
      go_ret
      exact ⟨by rw [← hkk.out]; rfl, HB1.out⟩

theorem hasS_take {xs : List ByteArray} {k : Nat} (hk : k < xs.length) (x : ByteArray) : (decide (x = xs[k]) || hasS x (xs.take k)) = hasS x (xs.take (k + 1)) := by
  rw [List.take_add_one, List.getElem?_eq_getElem hk]
  exact hasS_snoc x (xs.take k) xs[k]

set_option maxRecDepth 100000 in
set_option maxHeartbeats 2000000 in
theorem frI_at (xs : List ByteArray) (p : Option Addr) (c N : Nat) (w : World) (hn : xs.length ≤ 1048576) (zx : ∀ x ∈ xs, x.size ≤ 1048576) (hA : At w p xs) (hN : Fresh xs N) (hp : Pow w) :
    Calls Tryd.prog 7 #[.slice p xs.length c] w fun e w' => e = .returned (.string (vName N)) ∧ Below w.heap.size w w' := by
  have HA := Lib.hid hA
  have HN := Lib.hid hN
  have HZ := Lib.hid zx
  have HP := Lib.hid hp
  have hNl := hN.lo
  have hNh := hN.hi
  have hmm := @run_makeMap Tryd.prog
  clear hA hN zx hp
  go_enter Tryd.func7, Tryd.ntmps7
  go_wp2_with fail
  go_loopw [10] (fun i wr => ∃ k : Nat, k ≤ xs.length ∧ i = .int .i64 k ∧ Hid (SetIs Tryd.prog 9 4 wr w.heap.size k (fun s => hasS s (xs.take k))) ∧ Below w.heap.size w wr) (fun i _ => xs.length - (intOf i).toNat)
  case atStart => exact ⟨0, Nat.zero_le _, rfl, Lib.hid (setIs_made w _ _ _), (Below.refl _ _).alloc (Nat.le_refl _) _⟩
  case round =>
    obtain ⟨k, hk, rfl, HS, hbr⟩ := hrel
    have hsz := hbr.size
    have HB := Lib.hid hbr
    clear hbr
    by_cases hlk : k < xs.length
    · obtain ⟨b0, o0, rfl, hb0, c0⟩ := HA.out k _ (List.getElem?_eq_getElem hlk)
      have c1 := (HB.out.cell (p := ⟨b0, o0 + k, none⟩) hb0).trans c0
      clear c0
      have hys : xs[k].size ≤ maxLen := by
        have := HZ.out _ (List.getElem_mem hlk)
        unfold maxLen
        omega
      have hkm : k < maxLen := by unfold maxLen; omega
      go_wp2_with (at_mapUpdate; refine wpList_store_set _ rfl _ _ _ 49 rfl 9 4 lawKey Tryd.underlying9 Tryd.underlying49 Tryd.underlying4 w.heap.size _ _ rfl HS.out hkm xs[k] rfl rfl hys ?_; intro w1 hset1 hg1; have HS1 := Lib.hid (hset1.congr (hasS_take hlk)); have HB1 := Lib.hid (HB.out.grown hg1 hsz (fun j hj => by cases hj; exact Nat.le_refl _)); clear hset1 hg1; go_frame)
      go_roundw
      case rel => exact ⟨k + 1, by omega, by go_num, HS1, HB1.out⟩
      case measure => simp [intOf]; omega
    · obtain rfl : k = xs.length := by omega
      have HT : Hid (SetIs Tryd.prog 9 4 wr w.heap.size xs.length (fun s => hasS s xs)) := Lib.hid (by have := HS.out; rw [List.take_length] at this; exact this)
      clear HS
      go_wp2_with fail
      go_loopw [6] (fun i wr => ∃ k : Nat, 1 ≤ k ∧ k ≤ N ∧ i = .int .i64 k ∧ Hid (SetIs Tryd.prog 9 4 wr w.heap.size xs.length (fun s => hasS s xs)) ∧ Below w.heap.size w wr) (fun i _ => N - (intOf i).toNat)
      case atStart => exact ⟨1, Nat.le_refl _, hNl, rfl, HT, HB.out⟩
      case round =>
        clear HT HB hsz
        obtain ⟨k, hk1, hkN, rfl, HS, hbr⟩ := hrel
        have HB := Lib.hid hbr
        have HF := Lib.hid (implFmt_any (k : Int) (by omega) (by omega) wr (HP.out.below hbr))
        clear hbr
        go_wp2_with fail
        refine HF.out.mono ?_
        rintro e w1 ⟨rfl, hb1⟩
        have HB1 := Lib.hid (HB.out.trans (hb1.mono HB.out.size))
        have HS1 := Lib.hid (HS.out.below hb1)
        clear hb1 HF HS
        have hll := itoa_length_le (n := (k : Int)) (by omega) (by omega)
        have hvs : (vName k).size ≤ maxLen := Nat.le_trans (vName_size (by omega)) (by decide)
        obtain ⟨l, hl⟩ : ∃ l, l = Lib.itoa (k : Int) := ⟨_, rfl⟩
        rw [← hl] at hll ⊢
        have hv : (⟨#[118]⟩ : ByteArray) ++ ⟨l.toArray⟩ = vName k := by rw [hl]; rfl
        clear hl
        rw [← hv] at hvs
        have HV := Lib.hid hv
        by_cases hin : vName k ∈ xs
        · have hh : hasS ((⟨#[118]⟩ : ByteArray) ++ ⟨l.toArray⟩) xs = true := by rw [hv]; exact hasS_in hin
          have hk2 := HN.out.next hkN hin
          clear hin hv
          go_wp2_with (at_lookup; refine wpList_look_set _ rfl _ _ 49 rfl 9 4 lawKey Tryd.underlying9 Tryd.underlying49 Tryd.underlying4 (zeroBool _) w.heap.size _ _ rfl HS1.out _ rfl hvs true hh ?_; go_frame)
          go_roundw
          case rel => exact ⟨k + 1, by omega, hk2, by go_num, HS1, HB1.out⟩
          case measure => simp [intOf]; omega
        · have hh : hasS ((⟨#[118]⟩ : ByteArray) ++ ⟨l.toArray⟩) xs = false := by rw [hv]; exact hasS_out hin
          have hkk := HN.out.here hkN hk1 hin
          subst hkk
          clear hin hv
          go_wp2_with (at_lookup; refine wpList_look_set _ rfl _ _ 49 rfl 9 4 lawKey Tryd.underlying9 Tryd.underlying49 Tryd.underlying4 (zeroBool _) w.heap.size _ _ rfl HS1.out _ rfl hvs false hh ?_; go_frame)
          refine (implFmt_any (k : Int) (by omega) (by omega) w1 (HP.out.below HB1.out)).mono ?_
          rintro e w2 ⟨rfl, hb2⟩
          have HB2 := Lib.hid (HB1.out.trans (hb2.mono HB1.out.size))
          clear hb2
          obtain ⟨l2, hl2⟩ : ∃ l2, l2 = Lib.itoa (k : Int) := ⟨_, rfl⟩
          have hll2 : l2.length ≤ 20 := by rw [hl2]; exact itoa_length_le (by omega) (by omega)
          rw [← hl2]
          have HV2 : Hid ((⟨#[118]⟩ : ByteArray) ++ ⟨l2.toArray⟩ = vName k) := Lib.hid (by rw [hl2]; rfl)
          clear hl2
          go_wp2_with fail
          go_ret
          exact ⟨by rw [← HV2.out]; rfl, HB2.out⟩

theorem frI_any (xs : List ByteArray) (v : Value) (N : Nat) (w : World) (hn : xs.length ≤ 1048576) (zx : ∀ x ∈ xs, x.size ≤ 1048576) (h : SS w v xs) (hN : Fresh xs N) (hp : Pow w) :
    Calls Tryd.prog 7 #[v] w fun e w' => e = .returned (.string (vName N)) ∧ Below w.heap.size w w' := by
  obtain ⟨p, c, rfl, hA⟩ := h.at
  exact frI_at xs p c N w hn zx hA hN hp
#print axioms frI_any
#print axioms frS_any
end Go.Proofs.YtjipomnemgeaeaaDoor
