/-
  Several texts of the proof in one (each says below what it holds): Cur DrawI OnceI Pick DrawT2 DrawT3 TmLeaf Gnode Gop Glet TyText DrawT4 TmBox.
-/
import Derived.Test.YtfeijijeohfpgaaGreatDoorLv1
import Derived.Test.YtfeijijeohfpgaaGreatDoorLv3
import Derived.Test.YtfeijijeohfpgaaGreatDoorLv2
import Derived.Test.YtfeijijeohfpgaaGreatDoorProg
import Derived.WalkSmall
import Derived.Laws.OwnMore
import Derived.Deep.QuietTactic
import Derived.BigQuiet
set_option linter.unusedVariables false
set_option linter.unusedSimpArgs false
namespace Go.Proofs.YtfeijijeohfpgaaGreatDoor
open Go Go.RowKit
def CodeAt (w : World) (b : Nat) (v : Value) (len : Nat) : Prop :=
  ((∃ a cap, v = .slice a 0 cap) ∧ len = 0) ∨
  ∃ cb co cap, v = .slice (some ⟨cb, co, none⟩) len cap ∧ cb < b ∧ len ≤ 9223372036854775807 ∧ ∀ j, j < len → ∃ n : Int, 0 ≤ n ∧ n ≤ 255 ∧ w.cell? ⟨cb, co + j, none⟩ = some (.int .u8 n)
def Cur (w : World) (b : Nat) : Prop := ∃ (v : Value) (len i : Nat) (h : Int), w.heap[b]? = some (.cells #[v, .int .i64 i, .int .i64 h] 100 (0, 0)) ∧ CodeAt w b v len ∧ i ≤ len
def ByteRet (b : Nat) (w : World) (e : Ending) (w' : World) : Prop := ∃ x : Int, e = .returned (.int .i64 x) ∧ 0 ≤ x ∧ x ≤ 255 ∧ Cur w' b ∧ w.grownBy w' (some b)

theorem cur_set2 {w : World} {b : Nat} {v i h x : Value} (hc : w.heap[b]? = some (.cells #[v, i, h] 100 (0, 0))) :
    (w.setCell ⟨b, 2, none⟩ x).heap[b]? = some (.cells #[v, i, x] 100 (0, 0)) ∧ w.grownBy (w.setCell ⟨b, 2, none⟩ x) (some b) :=
  ⟨heap_setCell_same w b 2 _ _ x hc, ⟨rfl, rfl, rfl, by simp, fun k _ hk => heap_setCell_other w ⟨b, 2, none⟩ k x (fun e => hk (by simp [e]))⟩⟩
theorem cur_set1 {w : World} {b : Nat} {v i h x : Value} (hc : w.heap[b]? = some (.cells #[v, i, h] 100 (0, 0))) :
    (w.setCell ⟨b, 1, none⟩ x).heap[b]? = some (.cells #[v, x, h] 100 (0, 0)) ∧ w.grownBy (w.setCell ⟨b, 1, none⟩ x) (some b) :=
  ⟨heap_setCell_same w b 1 _ _ x hc, ⟨rfl, rfl, rfl, by simp, fun k _ hk => heap_setCell_other w ⟨b, 1, none⟩ k x (fun e => hk (by simp [e]))⟩⟩
theorem grownBy_trans {a b c : World} {row : Option Nat} (h : a.grownBy b row) (k : b.grownBy c row) : a.grownBy c row :=
  ⟨k.os.trans h.os, k.tape.trans h.tape, k.output.trans h.output, Nat.le_trans h.size k.size, fun j hj hr => (k.block j (Nat.lt_of_lt_of_le hj h.size) hr).trans (h.block j hj hr)⟩
theorem grownBy_drewN {a b : World} {row : Option Nat} (h : a.grownBy b row) (n : Nat) : a.grownBy (b.drewN n) row := ⟨h.os, h.tape, h.output, h.size, h.block⟩
theorem CodeAt.grown {w w' : World} {b : Nat} {v : Value} {len : Nat} (h : CodeAt w b v len) (hg : w.grownBy w' (some b)) : CodeAt w' b v len := by
  rcases h with h | ⟨cb, co, cap, rfl, hb, hl, hc⟩
  · exact Or.inl h
  · refine Or.inr ⟨cb, co, cap, rfl, hb, hl, fun j hj => ?_⟩
    obtain ⟨n, h0, h1, h2⟩ := hc j hj
    exact ⟨n, h0, h1, hg.cell h2 (fun e => Nat.ne_of_lt hb (Option.some.inj e))⟩
theorem cur_cells {w : World} {b : Nat} {v i h : Value} (hc : w.heap[b]? = some (.cells #[v, i, h] 100 (0, 0))) :
    w.cell? ⟨b, 0, none⟩ = some v ∧ w.cell? ⟨b, 1, none⟩ = some i ∧ w.cell? ⟨b, 2, none⟩ = some h ∧ w.frozen? ⟨b, 1, none⟩ = false ∧ w.frozen? ⟨b, 2, none⟩ = false :=
  ⟨by rw [cell_of_row w b 0 _ _ _ hc]; rfl, by rw [cell_of_row w b 1 _ _ _ hc]; rfl, by rw [cell_of_row w b 2 _ _ _ hc]; rfl, frozen_of_row w b 1 _ _ hc, frozen_of_row w b 2 _ _ hc⟩
theorem byte_ret {w w1 : World} {b : Nat} {v : Value} {len i : Nat} {h x : Int} {n : Nat} (hcode : CodeAt w b v len) (hg : w.grownBy w1 (some b)) (hw : w1.heap[b]? = some (.cells #[v, .int .i64 i, .int .i64 h] 100 (0, 0))) (hi : i ≤ len)
    (h0 : 0 ≤ x) (h1 : x ≤ 255) : ByteRet b w (.returned (.int .i64 x)) (w1.drewN n) :=
  ⟨x, rfl, h0, h1, ⟨v, len, i, h, hw, hcode.grown (grownBy_drewN hg n), hi⟩, grownBy_drewN hg n⟩

theorem byte_ret1 {w w1 : World} {b : Nat} {v : Value} {len i : Nat} {h x : Int} (hcode : CodeAt w b v len) (hg : w.grownBy w1 (some b)) (hw : w1.heap[b]? = some (.cells #[v, .int .i64 i, .int .i64 h] 100 (0, 0))) (hi : i < len)
    (h0 : 0 ≤ x) (h1 : x ≤ 255) : ByteRet b w (.returned (.int .i64 x)) (w1.setCell ⟨b, 1, none⟩ (.int .i64 ((i : Int) + 1))) := by
  have hs := cur_set1 (x := .int .i64 ((i + 1 : Nat) : Int)) hw
  rw [show ((i : Int) + 1) = ((i + 1 : Nat) : Int) by omega]
  have hg2 := grownBy_trans hg hs.2
  exact ⟨x, rfl, h0, h1, ⟨v, len, i + 1, h, hs.1, hcode.grown hg2, hi⟩, hg2⟩

set_option maxRecDepth 100000 in
set_option maxHeartbeats 1000000 in
theorem byte_nil (a : Option Addr) (cap b i : Nat) (h : Int) (w : World) (hi : i ≤ 0) (hc : w.heap[b]? = some (.cells #[.slice a 0 cap, .int .i64 i, .int .i64 h] 100 (0, 0))) :
    Calls Tryz.prog 93 #[.pointer (some ⟨b, 0, none⟩)] w (ByteRet b w) := by
  obtain ⟨c0, c1, c2, z1, z2⟩ := cur_cells hc
  have ha := and255
  have HC := Lib.hid hc
  clear hc
  go_enter Tryz.func93, Tryz.ntmps93
  go_wp2_with fail
  generalize wrap64 (h * 6364136223846793005) = h0
  generalize wrap64 (h0 + 1442695040888963407) = h1
  obtain ⟨hw, hg⟩ := cur_set2 (x := .int .i64 h1) HC.out
  clear c0 c1 c2 z1 z2
  generalize w.setCell ⟨b, 2, none⟩ (.int .i64 h1) = w1 at *
  obtain ⟨c0, c1, c2, z1, z2⟩ := cur_cells hw
  have HW := Lib.hid hw
  have HG := Lib.hid hg
  clear hw hg
  go_quiet (fail)
  go_wp2_with fail
  go_quiet (fail)
  go_wp2_with fail
  go_ret
  exact byte_ret (n := _) (Or.inl ⟨⟨a, cap, rfl⟩, rfl⟩) (grownBy_drewN HG.out _) HW.out hi (by omega) (by omega)

set_option maxRecDepth 100000 in
set_option maxHeartbeats 1000000 in
theorem byte_end (b i cb co len cap : Nat) (h : Int) (w : World) (hi : i ≤ len) (hlast : ¬ i < len) (hcode : CodeAt w b (.slice (some ⟨cb, co, none⟩) len cap) len) (hc : w.heap[b]? = some (.cells #[.slice (some ⟨cb, co, none⟩) len cap, .int .i64 i, .int .i64 h] 100 (0, 0))) :
    Calls Tryz.prog 93 #[.pointer (some ⟨b, 0, none⟩)] w (ByteRet b w) := by
  obtain ⟨c0, c1, c2, z1, z2⟩ := cur_cells hc
  have ha := and255
  have HC := Lib.hid hc
  have HK := Lib.hid hcode
  clear hcode
  clear hc
  go_enter Tryz.func93, Tryz.ntmps93
  go_wp2_with fail
  generalize wrap64 (h * 6364136223846793005) = h0
  generalize wrap64 (h0 + 1442695040888963407) = h1
  obtain ⟨hw, hg⟩ := cur_set2 (x := .int .i64 h1) HC.out
  clear c0 c1 c2 z1 z2
  generalize w.setCell ⟨b, 2, none⟩ (.int .i64 h1) = w1 at *
  obtain ⟨c0, c1, c2, z1, z2⟩ := cur_cells hw
  have HW := Lib.hid hw
  have HG := Lib.hid hg
  clear hw hg
  go_quiet (fail)
  go_wp2_with fail
  go_quiet (fail)
  go_wp2_with fail
  go_ret
  exact byte_ret (n := _) HK.out (grownBy_drewN HG.out _) HW.out hi (by omega) (by omega)

set_option maxRecDepth 100000 in
set_option maxHeartbeats 1000000 in
theorem byte_more (b i cb co len cap : Nat) (h : Int) (w : World) (hlt : i < len) (hlen : len ≤ 9223372036854775807) (hcb : cb ≠ b) (n : Int) (hn0 : 0 ≤ n) (hn1 : n ≤ 255) (hcell : w.cell? ⟨cb, co + i, none⟩ = some (.int .u8 n))
    (hcode : CodeAt w b (.slice (some ⟨cb, co, none⟩) len cap) len) (hc : w.heap[b]? = some (.cells #[.slice (some ⟨cb, co, none⟩) len cap, .int .i64 i, .int .i64 h] 100 (0, 0))) :
    Calls Tryz.prog 93 #[.pointer (some ⟨b, 0, none⟩)] w (ByteRet b w) := by
  have i0 : (0 : Int) ≤ (i : Int) := Int.natCast_nonneg _
  have i1 : (i : Int) < (len : Int) := by omega
  obtain ⟨c0, c1, c2, z1, z2⟩ := cur_cells hc
  have ha := and255
  have HC := Lib.hid hc
  have HK := Lib.hid hcode
  have HL := Lib.hid hcell
  clear hcode hcell
  clear hc
  go_enter Tryz.func93, Tryz.ntmps93
  go_wp2_with fail
  generalize wrap64 (h * 6364136223846793005) = h0
  generalize wrap64 (h0 + 1442695040888963407) = h1
  obtain ⟨hw, hg⟩ := cur_set2 (x := .int .i64 h1) HC.out
  clear c0 c1 c2 z1 z2
  generalize w.setCell ⟨b, 2, none⟩ (.int .i64 h1) = w1 at *
  obtain ⟨c0, c1, c2, z1, z2⟩ := cur_cells hw
  have cc : w1.cell? ⟨cb, co + i, none⟩ = some (.int .u8 n) := hg.cell HL.out (fun e => hcb (Option.some.inj e))
  have HW := Lib.hid hw
  have HG := Lib.hid hg
  clear hw hg
  go_quiet (fail)
  go_wp2_with fail
  go_quiet (fail)
  go_wp2_with fail
  go_quiet (fail)
  go_wp2_with fail
  go_ret
  exact byte_ret1 HK.out (grownBy_drewN HG.out _) HW.out hlt (by omega) (by omega)
theorem byte_any (b : Nat) (w : World) (hc : Cur w b) : Calls Tryz.prog 93 #[.pointer (some ⟨b, 0, none⟩)] w (ByteRet b w) := by
  obtain ⟨v, len, i, h, hw, hcode, hi⟩ := hc
  have hcode' := hcode
  rcases hcode with ⟨⟨a, cap, rfl⟩, rfl⟩ | ⟨cb, co, cap, rfl, hb, hl, hcell⟩
  · exact byte_nil a cap b i h w hi hw
  · by_cases hlt : i < len
    · obtain ⟨n, h0, h1, h2⟩ := hcell i hlt
      exact byte_more b i cb co len cap h w hlt hl (Nat.ne_of_lt hb) n h0 h1 h2 hcode' hw
    · exact byte_end b i cb co len cap h w hi hlt hcode' hw
end Go.Proofs.YtfeijijeohfpgaaGreatDoor
namespace Go.Proofs.YtfeijijeohfpgaaGreatDoor
open Go Go.RowKit

def DrawRet (P : Int → Prop) (b : Nat) (w : World) (e : Ending) (w' : World) : Prop := ∃ x : Int, P x ∧ e = .returned (.int .i64 x) ∧ Cur w' b ∧ w.grownBy w' (some b)
theorem draw_ret {P : Int → Prop} {b : Nat} {w w' : World} {x : Int} (h : P x) (hc : Cur w' b) (hg : w.grownBy w' (some b)) : DrawRet P b w (.returned (.int .i64 x)) w' := ⟨x, h, rfl, hc, hg⟩

set_option maxRecDepth 100000 in
set_option maxHeartbeats 1000000 in
theorem below_small (b : Nat) (n : Int) (w : World) (h1 : 1 ≤ n) (h2 : n ≤ 256) (hc : Cur w b) :
    Calls Tryz.prog 41 #[.pointer (some ⟨b, 0, none⟩), .int .i64 n] w (DrawRet (fun x => 0 ≤ x ∧ x < n) b w) := by
  have HC := Lib.hid (byte_any b w hc)
  clear hc
  go_enter Tryz.func41, Tryz.ntmps41
  go_wp2_with fail
  refine HC.out.mono ?_
  rintro e w1 ⟨x, rfl, hx0, hx1, hc1, hg1⟩
  have HC1 := Lib.hid hc1
  have HG1 := Lib.hid hg1
  clear hc1 hg1
  go_wp2_with fail
  go_ret
  exact draw_ret ⟨Int.emod_nonneg _ (by omega), Int.emod_lt_of_pos _ (by omega)⟩ HC1.out HG1.out

set_option maxRecDepth 100000 in
set_option maxHeartbeats 1000000 in
theorem below_big (b : Nat) (n : Int) (w : World) (h1 : 256 < n) (h2 : n ≤ 9223372036854775807) (hc : Cur w b) :
    Calls Tryz.prog 41 #[.pointer (some ⟨b, 0, none⟩), .int .i64 n] w (DrawRet (fun x => 0 ≤ x ∧ x < n) b w) := by
  have HC := Lib.hid (byte_any b w hc)
  clear hc
  go_enter Tryz.func41, Tryz.ntmps41
  go_wp2_with fail
  refine HC.out.mono ?_
  rintro e w1 ⟨x, rfl, hx0, hx1, hc1, hg1⟩
  have HC1 := Lib.hid (byte_any b w1 hc1)
  have HG1 := Lib.hid hg1
  clear hc1 hg1
  go_wp2_with fail
  refine HC1.out.mono ?_
  rintro e w2 ⟨y, rfl, hy0, hy1, hc2, hg2⟩
  have HC2 := Lib.hid (byte_any b w2 hc2)
  have HG2 := Lib.hid (grownBy_trans HG1.out hg2)
  clear hc2 hg2
  go_wp2_with fail
  refine HC2.out.mono ?_
  rintro e w3 ⟨z, rfl, hz0, hz1, hc3, hg3⟩
  have HC3 := Lib.hid (byte_any b w3 hc3)
  have HG3 := Lib.hid (grownBy_trans HG2.out hg3)
  clear hc3 hg3
  go_wp2_with fail
  refine HC3.out.mono ?_
  rintro e w4 ⟨u, rfl, hu0, hu1, hc4, hg4⟩
  have HC4 := Lib.hid hc4
  have HG4 := Lib.hid (grownBy_trans HG3.out hg4)
  clear hc4 hg4
  go_wp2_with fail
  go_ret
  exact draw_ret ⟨Int.emod_nonneg _ (by omega), Int.emod_lt_of_pos _ (by omega)⟩ HC4.out HG4.out
theorem below_any (b : Nat) (n : Int) (w : World) (h1 : 1 ≤ n) (h2 : n ≤ 9223372036854775807) (hc : Cur w b) :
    Calls Tryz.prog 41 #[.pointer (some ⟨b, 0, none⟩), .int .i64 n] w (DrawRet (fun x => 0 ≤ x ∧ x < n) b w) := by
  by_cases h : n ≤ 256
  · exact below_small b n w h1 h hc
  · exact below_big b n w (by omega) h2 hc

set_option maxRecDepth 100000 in
set_option maxHeartbeats 1000000 in
theorem pickInt_any (xs : List Int) (lb b : Nat) (w : World) (hne : lb ≠ b) (h1 : 1 ≤ xs.length) (h2 : xs.length ≤ 1048576) (hcell : ∀ j x, xs[j]? = some x → w.cell? ⟨lb, j, none⟩ = some (.int .i64 x)) (hc : Cur w b) :
    Calls Tryz.prog 83 #[.pointer (some ⟨b, 0, none⟩), .slice (some ⟨lb, 0, none⟩) xs.length xs.length] w (DrawRet (· ∈ xs) b w) := by
  have HC := Lib.hid (below_any b xs.length w (by omega) (by omega) hc)
  have HX := Lib.hid hcell
  clear hc hcell
  go_enter Tryz.func83, Tryz.ntmps83
  go_wp2_with fail
  refine HC.out.mono ?_
  rintro e w1 ⟨x, hx, rfl, hc1, hg1⟩
  obtain ⟨k, rfl⟩ := Int.eq_ofNat_of_zero_le hx.1
  have hk : k < xs.length := by omega
  have cell : w1.cell? ⟨lb, k, none⟩ = some (.int .i64 xs[k]) := hg1.cell (HX.out k _ (List.getElem?_eq_getElem hk)) (fun e => hne (Option.some.inj e))
  have HC1 := Lib.hid hc1
  have HG1 := Lib.hid hg1
  clear hc1 hg1 hx
  go_wp2_with fail
  go_ret
  exact draw_ret (List.getElem_mem hk) HC1.out HG1.out

def NewRet (w : World) (e : Ending) (w' : World) : Prop := e = .returned (.pointer (some ⟨w.heap.size, 0, none⟩)) ∧ Cur w' w.heap.size ∧ Below w.heap.size w w' ∧ w'.heap.size = w.heap.size + 1
theorem code_of (w : World) (cb co len cap : Nat) (hcb : cb < w.heap.size) (hl : len ≤ 9223372036854775807) (hcell : ∀ j, j < len → ∃ n : Int, 0 ≤ n ∧ n ≤ 255 ∧ w.cell? ⟨cb, co + j, none⟩ = some (.int .u8 n)) :
    CodeAt w w.heap.size (.slice (some ⟨cb, co, none⟩) len cap) len := Or.inr ⟨cb, co, cap, rfl, by omega, hl, hcell⟩
theorem new_ret {w : World} {v : Value} {len : Nat} (H : Int) (hc : CodeAt w w.heap.size v len) :
    NewRet w (.returned (.pointer (some ⟨w.heap.size, 0, none⟩))) (w.alloc (.cells #[v, .int .i64 0, .int .i64 H] 100)) := by
  have hb : Below w.heap.size w (w.alloc (.cells #[v, .int .i64 0, .int .i64 H] 100)) := (Below.refl _ _).alloc (Nat.le_refl _) _
  refine ⟨rfl, ⟨v, len, 0, H, heap_alloc_new w _, ?_, Nat.zero_le _⟩, hb, by simp⟩
  rcases hc with hc | ⟨cb, co, cap, rfl, h1, h2, h3⟩
  · exact Or.inl hc
  · refine Or.inr ⟨cb, co, cap, rfl, h1, h2, fun j hj => ?_⟩
    obtain ⟨n, h4, h5, h6⟩ := h3 j hj
    exact ⟨n, h4, h5, (hb.cell (p := ⟨cb, co + j, none⟩) (World.block_lt_of_cell? w _ h6)).trans h6⟩

set_option maxRecDepth 100000 in
set_option maxHeartbeats 1000000 in
theorem new_some (cb co len cap : Nat) (w : World) (hcb : cb < w.heap.size) (hlen : len ≤ 1048576) (hcell : ∀ j, j < len → ∃ n : Int, 0 ≤ n ∧ n ≤ 255 ∧ w.cell? ⟨cb, co + j, none⟩ = some (.int .u8 n)) :
    Calls Tryz.prog 37 #[.slice (some ⟨cb, co, none⟩) len cap] w (NewRet w) := by
  have ha := and30
  have HX := Lib.hid hcell
  clear hcell
  go_enter Tryz.func37, Tryz.ntmps37
  go_wp2_with fail
  go_loop [3, 4] (fun h i => ∃ (k : Nat) (H : Int), k ≤ len ∧ i = .int .i64 k ∧ h = .int .i64 H ∧ 0 ≤ H ∧ H ≤ 1073741824) (fun _ i => len - (intOf i).toNat)
  case atStart => exact ⟨0, _, Nat.zero_le _, rfl, rfl, by omega, by omega⟩
  case round =>
    obtain ⟨k, H, hk, rfl, rfl, hH0, hH1⟩ := hrel
    by_cases hlk : k < len
    · obtain ⟨n, hn0, hn1, hcell⟩ := HX.out k hlk
      by_cases h4 : (k : Int) < 4000
      · go_wp2_with fail
        go_round
        case rel => exact ⟨k + 1, _, by omega, by go_num, rfl, by omega, by omega⟩
        case measure => simp [intOf]; omega
      · have HK := Lib.hid (new_ret H (code_of w cb co len cap hcb (by omega) HX.out))
        clear hcell
        go_wp2_with fail
        go_ret
        exact HK.out
    · have HK := Lib.hid (new_ret H (code_of w cb co len cap hcb (by omega) HX.out))
      go_wp2_with fail
      go_ret
      exact HK.out

set_option maxRecDepth 100000 in
set_option maxHeartbeats 1000000 in
theorem new_nil (a : Option Addr) (cap : Nat) (w : World) : Calls Tryz.prog 37 #[.slice a 0 cap] w (NewRet w) := by
  have HK := Lib.hid (new_ret (w := w) 26583 (Or.inl ⟨⟨a, cap, rfl⟩, rfl⟩))
  go_enter Tryz.func37, Tryz.ntmps37
  go_wp2_with fail
  go_loop [3, 4] (fun h i => h = .int .i64 26583 ∧ i = .int .i64 0) (fun _ _ => 0)
  case atStart => exact ⟨rfl, rfl⟩
  case round =>
    obtain ⟨rfl, rfl⟩ := hrel
    go_wp2_with fail
    go_ret
    exact HK.out
def Bytes (w : World) (v : Value) : Prop :=
  (∃ a cap, v = .slice a 0 cap) ∨ ∃ cb co len cap, v = .slice (some ⟨cb, co, none⟩) len cap ∧ cb < w.heap.size ∧ len ≤ 9223372036854775807 ∧ ∀ j, j < len → ∃ n : Int, 0 ≤ n ∧ n ≤ 255 ∧ w.cell? ⟨cb, co + j, none⟩ = some (.int .u8 n)
def sliceLen : Value → Nat
  | .slice _ n _ => n
  | _ => 0
theorem new_any (v : Value) (w : World) (hv : Bytes w v) (hlen : sliceLen v ≤ 1048576) : Calls Tryz.prog 37 #[v] w (NewRet w) := by
  rcases hv with ⟨a, cap, rfl⟩ | ⟨cb, co, len, cap, rfl, hcb, _, hcell⟩
  · exact new_nil a cap w
  · exact new_some cb co len cap w hcb hlen hcell
theorem Bytes.below {w w' : World} {v : Value} (h : Bytes w v) (hb : Below w.heap.size w w') : Bytes w' v := by
  rcases h with ⟨a, cap, rfl⟩ | ⟨cb, co, len, cap, rfl, hcb, hl, hcell⟩
  · exact Or.inl ⟨a, cap, rfl⟩
  · refine Or.inr ⟨cb, co, len, cap, rfl, Nat.lt_of_lt_of_le hcb hb.size, hl, fun j hj => ?_⟩
    obtain ⟨n, h0, h1, h2⟩ := hcell j hj
    exact ⟨n, h0, h1, (hb.cell (p := ⟨cb, co + j, none⟩) hcb).trans h2⟩
theorem Cur.lt {w : World} {b : Nat} (h : Cur w b) : b < w.heap.size := by
  obtain ⟨v, len, i, x, hw, _⟩ := h
  rcases Nat.lt_or_ge b w.heap.size with h' | h'
  · exact h'
  · rw [Array.getElem?_eq_none h'] at hw; cases hw
theorem CodeAt.below {w w' : World} {b : Nat} {v : Value} {len : Nat} (h : CodeAt w b v len) (hb : Below w.heap.size w w') : CodeAt w' b v len := by
  rcases h with h | ⟨cb, co, cap, rfl, h1, h2, h3⟩
  · exact Or.inl h
  · refine Or.inr ⟨cb, co, cap, rfl, h1, h2, fun j hj => ?_⟩
    obtain ⟨n, h4, h5, h6⟩ := h3 j hj
    exact ⟨n, h4, h5, (hb.cell (p := ⟨cb, co + j, none⟩) (World.block_lt_of_cell? w _ h6)).trans h6⟩
theorem Cur.belowAt {w w' : World} {b B : Nat} (h : Cur w b) (hB : b < B) (hb : Below B w w') : Cur w' b := by
  obtain ⟨v, len, i, x, hw, hc, hi⟩ := h
  refine ⟨v, len, i, x, (hb.block b hB).trans hw, ?_, hi⟩
  rcases hc with hc | ⟨cb, co, cap, rfl, h1, h2, h3⟩
  · exact Or.inl hc
  · refine Or.inr ⟨cb, co, cap, rfl, h1, h2, fun j hj => ?_⟩
    obtain ⟨n, h4, h5, h6⟩ := h3 j hj
    exact ⟨n, h4, h5, (hb.cell (p := ⟨cb, co + j, none⟩) (Nat.lt_trans h1 hB)).trans h6⟩
theorem Cur.below {w w' : World} {b : Nat} (h : Cur w b) (hb : Below w.heap.size w w') : Cur w' b := by
  have hlt := h.lt
  obtain ⟨v, len, i, x, hw, hc, hi⟩ := h
  exact ⟨v, len, i, x, (hb.block b hlt).trans hw, hc.below hb, hi⟩
end Go.Proofs.YtfeijijeohfpgaaGreatDoor
namespace Go.Proofs.YtfeijijeohfpgaaGreatDoor
open Go Go.RowKit

def OnceRet (b : Nat) (w : World) (e : Ending) (w' : World) : Prop := ∃ x : Bool, e = .returned (.bool x) ∧ Cur w' b ∧ w.grownBy w' (some b)
set_option maxRecDepth 100000 in
set_option maxHeartbeats 1000000 in
theorem once_any (b : Nat) (n : Int) (w : World) (h1 : 1 ≤ n) (h2 : n ≤ 9223372036854775807) (hc : Cur w b) :
    Calls Tryz.prog 39 #[.pointer (some ⟨b, 0, none⟩), .int .i64 n] w (OnceRet b w) := by
  have HC := Lib.hid (below_any b n w h1 h2 hc)
  clear hc
  go_enter Tryz.func39, Tryz.ntmps39
  go_wp2_with fail
  refine HC.out.mono ?_
  rintro e w1 ⟨x, _, rfl, hc1, hg1⟩
  have HC1 := Lib.hid hc1
  have HG1 := Lib.hid hg1
  clear hc1 hg1
  go_wp2_with fail
  go_ret
  exact ⟨_, rfl, HC1.out, HG1.out⟩

end Go.Proofs.YtfeijijeohfpgaaGreatDoor
namespace Go.Proofs.YtfeijijeohfpgaaGreatDoor
open Go Go.RowKit

def GStr (P : ByteArray → Prop) (b : Nat) (w : World) (e : Ending) (w' : World) : Prop := ∃ x : ByteArray, P x ∧ e = .returned (.string x) ∧ Cur w' b ∧ w.grownBy w' (some b)
set_option maxRecDepth 100000 in
set_option maxHeartbeats 1000000 in
theorem pickS_any (xs : List ByteArray) (n lb b : Nat) (w : World) (hn : xs.length = n) (hne : lb ≠ b) (h1 : 1 ≤ n) (h2 : n ≤ 1048576) (hcell : ∀ j x, xs[j]? = some x → w.cell? ⟨lb, j, none⟩ = some (.string x)) (hc : Cur w b) :
    Calls Tryz.prog 84 #[.pointer (some ⟨b, 0, none⟩), .slice (some ⟨lb, 0, none⟩) n n] w (GStr (· ∈ xs) b w) := by
  subst hn
  have HC := Lib.hid (below_any b xs.length w (by omega) (by omega) hc)
  have HX := Lib.hid hcell
  clear hc hcell
  go_enter Tryz.func84, Tryz.ntmps84
  go_wp2_with fail
  refine HC.out.mono ?_
  rintro e w1 ⟨x, hx, rfl, hc1, hg1⟩
  obtain ⟨k, rfl⟩ := Int.eq_ofNat_of_zero_le hx.1
  have hk : k < xs.length := by omega
  have cell : w1.cell? ⟨lb, k, none⟩ = some (.string xs[k]) := hg1.cell (HX.out k _ (List.getElem?_eq_getElem hk)) (fun e => hne (Option.some.inj e))
  have HC1 := Lib.hid hc1
  have HG1 := Lib.hid hg1
  clear hc1 hg1 hx
  go_wp2_with fail
  go_ret
  exact ⟨_, List.getElem_mem hk, rfl, HC1.out, HG1.out⟩

theorem grown_drewB {w W : World} {r : Option Nat} (h : w.grownBy W r) : w.grownBy W.drew r := ⟨h.os, h.tape, h.output, h.size, h.block⟩
theorem grownB_refl (w : World) (r : Option Nat) : w.grownBy w r := ⟨rfl, rfl, rfl, Nat.le_refl _, fun _ _ _ => rfl⟩
theorem pickS_litG (L : List ByteArray) (n b : Nat) (w : World) (cs : Array Value) (hn : L.length = n) (h1 : 1 ≤ n) (h2 : n ≤ 1048576) (hcs : cs = (L.map Value.string).toArray) (hc : Cur w b) :
    Calls Tryz.prog 84 #[.pointer (some ⟨b, 0, none⟩), .slice (some ⟨w.heap.size, 0, none⟩) n n] (w.alloc (.cells cs 9)) (GStr (· ∈ L) b w) := by
  subst hn; subst hcs
  have hlt := hc.lt
  refine (pickS_any L L.length w.heap.size b _ rfl (by omega) h1 h2 (fun j x hj => ?_) (hc.below ((Below.refl _ _).alloc (Nat.le_refl _) _))).mono ?_
  · rw [World.cell?_alloc_at _ _ _ _ rfl, List.getElem?_toArray, List.getElem?_map, hj]; rfl
  · rintro e w' ⟨x, hx, rfl, hc', hg⟩
    exact ⟨x, hx, rfl, hc', grownBy_trans (World.grownBy_alloc _ _ _) hg⟩
end Go.Proofs.YtfeijijeohfpgaaGreatDoor
namespace Go.Proofs.YtfeijijeohfpgaaGreatDoor
open Go Go.RowKit

theorem Two.four {w : World} {k1 k2 : Int} {s1 s2 : Value} {W : World} (h : Two w k1 k2 s1 s2 W) : W.cell? ⟨w.heap.size, 0, none⟩ = some (.int .i64 k1) ∧ W.cell? ⟨w.heap.size, 1, none⟩ = some s1 ∧ W.cell? ⟨w.heap.size + 1, 0, none⟩ = some (.int .i64 k2) ∧ W.cell? ⟨w.heap.size + 1, 1, none⟩ = some s2 :=
  ⟨h.b1.1, h.b1.2, h.b2.1, h.b2.2⟩
theorem keepS4 {W : World} {b i a1 a2 a3 a4 i1 i2 i3 i4 : Nat} {v u1 u2 u3 u4 : Value} (h : W.cell? ⟨a1, i1, none⟩ = some u1 ∧ W.cell? ⟨a2, i2, none⟩ = some u2 ∧ W.cell? ⟨a3, i3, none⟩ = some u3 ∧ W.cell? ⟨a4, i4, none⟩ = some u4) (h1 : a1 ≠ b) (h2 : a2 ≠ b) (h3 : a3 ≠ b) (h4 : a4 ≠ b) :
    (W.setCell ⟨b, i, none⟩ v).cell? ⟨a1, i1, none⟩ = some u1 ∧ (W.setCell ⟨b, i, none⟩ v).cell? ⟨a2, i2, none⟩ = some u2 ∧ (W.setCell ⟨b, i, none⟩ v).cell? ⟨a3, i3, none⟩ = some u3 ∧ (W.setCell ⟨b, i, none⟩ v).cell? ⟨a4, i4, none⟩ = some u4 := by
  have k : ∀ {p : Addr} {u : Value}, W.cell? p = some u → p.block ≠ b → (W.setCell ⟨b, i, none⟩ v).cell? p = some u := fun {p u} hp hne => (World.cell?_of_block (heap_setCell_other W ⟨b, i, none⟩ p.block v hne)).trans hp
  exact ⟨k h.1 h1, k h.2.1 h2, k h.2.2.1 h3, k h.2.2.2 h4⟩
def TwoRet (t : Ty) (w : World) (k1 k2 : Int) (s1 s2 : Value) (W : World) (e : Ending) (W' : World) : Prop :=
  ∃ (p : Option Addr) (c : Nat), e = .returned (.agg #[.int .i64 t.kind, .slice p t.args.length c]) ∧ TS W' (fun z => w.heap.size + 3 ≤ z) t.args (.slice p t.args.length c) ∧ Two w k1 k2 s1 s2 W' ∧ Below W.heap.size W W'
theorem two_ret {t : Ty} {C : Nat → Prop} {v : Value} {w W : World} {k1 k2 : Int} {s1 s2 : Value} (h : TT w C t v) (hI : Two w k1 k2 s1 s2 W) (hn : nodesS t.args ≤ 1048576) :
    Calls Tryz.prog 129 #[v] W (TwoRet t w k1 k2 s1 s2 W) := by
  refine (copyT_any (h.keep hI.below) hn).mono ?_
  rintro e W' ⟨v', rfl, ⟨s, rfl, hs⟩, hb⟩
  obtain ⟨p, c, rfl⟩ := hs.form
  exact ⟨p, c, rfl, hs.mono (fun z hz _ => by have := hI.ge; show _ ≤ z; have : W.heap.size ≤ z := hz; omega), hI.keep hb, hb⟩

set_option maxRecDepth 100000 in
set_option maxHeartbeats 2000000 in
theorem l3Fun_any {C C' : Nat → Prop} {t u : Ty} {v x : Value} {w : World} (h : TT w C t v) (h2 : TT w C' u x) (hn : nodesS t.args ≤ 1048576) (hn2 : nodesS u.args ≤ 1048576) :
    Calls Tryz.prog 91 #[v, x] w (GrowRet (.mk 3 [t, u]) w) := by
  have hA := fun (k1 k2 : Int) (s1 s2 : Value) (W : World) (hI : Two w k1 k2 s1 s2 W) => two_ret h hI hn
  have hB := fun (k1 k2 : Int) (s1 s2 : Value) (W : World) (hI : Two w k1 k2 s1 s2 W) => two_ret h2 hI hn2
  obtain ⟨s, rfl, hS⟩ := h
  obtain ⟨p, c, rfl⟩ := hS.form
  obtain ⟨s2, rfl, hS2⟩ := h2
  obtain ⟨p2, c2, rfl⟩ := hS2.form
  have HA := Lib.hid (hA t.kind u.kind (.slice p t.args.length c) (.slice p2 u.args.length c2))
  have HB := Lib.hid (hB t.kind u.kind (.slice p t.args.length c) (.slice p2 u.args.length c2))
  clear hS hS2 hA hB
  have hK : Two w t.kind u.kind (.slice p t.args.length c) (.slice p2 u.args.length c2) (((w.alloc (.cells #[.int .i64 t.kind, .slice p t.args.length c] 26)).alloc (.cells #[.int .i64 u.kind, .slice p2 u.args.length c2] 26)).alloc (.cells #[.int .i64 0, .slice none 0 0] 26)).drew := by
    obtain ⟨wl, hwl, hsz, hbl, q0, q1, q2⟩ := loop_world3 w #[.int .i64 t.kind, .slice p t.args.length c] #[.int .i64 u.kind, .slice p2 u.args.length c2] #[.int .i64 0, .slice none 0 0] 26 26 26
    rw [hwl]
    have : Two w t.kind u.kind (.slice p t.args.length c) (.slice p2 u.args.length c2) wl := ⟨⟨cell_of_blk q0 0, cell_of_blk q0 1⟩, ⟨cell_of_blk q1 0, cell_of_blk q1 1⟩, q2, hbl, by omega⟩
    exact this.keep (Below.refl _ _).drew
  have HI0 := Lib.hid hK
  clear hK
  go_enter Tryz.func91, Tryz.ntmps91
  go_wp2_with fail
  go_region_held3 (fun w' => w'.cell? ⟨w.heap.size, 0, none⟩ = some (.int .i64 t.kind) ∧ w'.cell? ⟨w.heap.size, 1, none⟩ = some (.slice p t.args.length c) ∧ w'.cell? ⟨w.heap.size + 1, 0, none⟩ = some (.int .i64 u.kind) ∧ w'.cell? ⟨w.heap.size + 1, 1, none⟩ = some (.slice p2 u.args.length c2))
    (first
      | (go_keep; done)
      | exact ⟨by simp [*], by simp [*], by simp [*], by simp [*]⟩
      | exact HI1.out.four
      | exact HI2.out.four
      | exact keepS4 (keepS4 (by assumption) (by omega) (by omega) (by omega) (by omega)) (by omega) (by omega) (by omega) (by omega))
    (first
      | (go_at_call_of 129 (Value.agg #[.int .i64 t.kind, .slice p t.args.length c]); (first | refine (HA.out _ HI0.out).mono ?_ | refine (HA.out _ HI2.out).mono ?_); rintro e w1 ⟨p3, c3, rfl, hs1, hI1, hb1⟩; have HI1 := Lib.hid hI1; have HS1 := Lib.hid hs1; have HB1 := Lib.hid hb1; have g12 := al_cell (cell_of_blk hI1.r 0); have g13 := al_cell (cell_of_blk hI1.r 1); have g14 := al_frz hI1.r; clear hs1 hI1 hb1)
      | (go_at_call_of 129 (Value.agg #[.int .i64 u.kind, .slice p2 u.args.length c2]); (first | refine (HB.out _ HI0.out).mono ?_ | refine (HB.out _ HI1.out).mono ?_); rintro e w2 ⟨p4, c4, rfl, hs2, hI2, hb2⟩; have HI2 := Lib.hid hI2; have HS2 := Lib.hid hs2; have HB2 := Lib.hid hb2; have g22 := al_cell (cell_of_blk hI2.r 0); have g23 := al_cell (cell_of_blk hI2.r 1); have g24 := al_frz hI2.r; clear hs2 hI2 hb2))
  go_wp2_with fail
  refine bodyPost_ret (v := .agg #[.int .i64 3, .slice (some ⟨w2.heap.size, 0, none⟩) 2 2]) ?_ rfl ?_
  · rw [results_cell1 rfl]
    go_simp
  · exact two_fin HI2.out (HS1.out.keep HB2.out) HS2.out
end Go.Proofs.YtfeijijeohfpgaaGreatDoor
namespace Go.Proofs.YtfeijijeohfpgaaGreatDoor
open Go Go.RowKit

def GInt (P : Int → Prop) (b : Nat) (w : World) (e : Ending) (w' : World) : Prop := ∃ x : Int, P x ∧ e = .returned (.int .i64 x) ∧ Cur w' b ∧ w.grownBy w' (some b)
theorem cur_alloc {b : Nat} {w : World} (hc : Cur w b) (o : Obj) : Cur (w.alloc o) b := hc.below ((Below.refl _ _).alloc (Nat.le_refl _) _)
theorem pickInt_litG (L : List Int) (n b : Nat) (w : World) (cs : Array Value) (hn : L.length = n) (h1 : 1 ≤ n) (h2 : n ≤ 1048576) (hcs : cs = (L.map (Value.int .i64)).toArray) (hc : Cur w b) :
    Calls Tryz.prog 83 #[.pointer (some ⟨b, 0, none⟩), .slice (some ⟨w.heap.size, 0, none⟩) n n] (w.alloc (.cells cs 3)) (GInt (· ∈ L) b w) := by
  subst hn; subst hcs
  have hlt := hc.lt
  refine (pickInt_any L w.heap.size b _ (by omega) h1 h2 (fun j x hj => ?_) (cur_alloc hc _)).mono ?_
  · rw [World.cell?_alloc_at _ _ _ _ rfl, List.getElem?_toArray, List.getElem?_map, hj]; rfl
  · rintro e w' ⟨x, hx, rfl, hc', hg⟩
    exact ⟨x, hx, rfl, hc', grownBy_trans (World.grownBy_alloc _ _ _) hg⟩
theorem grown_below {w w1 w2 : World} {b B : Nat} (h : w.grownBy w1 (some b)) (hB : w.heap.size ≤ B) (hb : Below B w1 w2) : w.grownBy w2 (some b) :=
  ⟨hb.os.trans h.os, hb.tape.trans h.tape, hb.output.trans h.output, Nat.le_trans h.size hb.size, fun k hk hne => (hb.block k (by omega)).trans (h.block k hk hne)⟩
structure Rdy (w : World) (b : Nat) (W : World) : Prop where
  cur : Cur W b
  grown : w.grownBy W (some b)
  r : W.heap[w.heap.size]? = some (.cells #[.int .i64 0, .slice none 0 0] 26 (0, 0))
theorem Rdy.lt {w W : World} {b : Nat} (h : Rdy w b W) : w.heap.size < W.heap.size := (Array.getElem?_eq_some_iff.1 h.r).1
theorem Rdy.step {w W W' : World} {b : Nat} (h : Rdy w b W) (hbw : b < w.heap.size) (hc : Cur W' b) (hg : W.grownBy W' (some b)) : Rdy w b W' :=
  ⟨hc, grownBy_trans h.grown hg, (hg.block _ h.lt (fun e => by have := Option.some.inj e; omega)).trans h.r⟩
theorem Rdy.below {w W W' : World} {b : Nat} (h : Rdy w b W) (hb : Below W.heap.size W W') : Rdy w b W' :=
  ⟨h.cur.below hb, grown_below h.grown (Nat.le_of_lt h.lt) hb, (hb.block _ h.lt).trans h.r⟩
theorem Rdy.start {w : World} {b : Nat} (hc : Cur w b) : Rdy w b (w.alloc (.cells #[.int .i64 0, .slice none 0 0] 26)) :=
  ⟨cur_alloc hc _, World.grownBy_alloc _ _ _, blk_new w _⟩
def DrawT (d b : Nat) (w : World) (e : Ending) (w' : World) : Prop := ∃ v t, e = .returned v ∧ t.nodes + 1 ≤ 2 ^ d ∧ NewG t w.heap.size w' v ∧ Cur w' b ∧ w.grownBy w' (some b)
theorem small_args {t : Ty} {k : Nat} (h : t.nodes + 1 ≤ 2 ^ k) (hk : 2 ^ k ≤ 2 ^ 3) : nodesS t.args ≤ 1048576 := by
  rw [t.nodes_eq] at h; omega
theorem keep2 {W w1 : World} {p1 p2 : Addr} {v1 v2 : Value} (hb1 : Below W.heap.size W w1) (h : W.cell? p1 = some v1 ∧ W.cell? p2 = some v2) : w1.cell? p1 = some v1 ∧ w1.cell? p2 = some v2 :=
  ⟨(hb1.cell (World.block_lt_of_cell? W _ h.1)).trans h.1, (hb1.cell (World.block_lt_of_cell? W _ h.2)).trans h.2⟩
theorem keepS2 {W : World} {b i a1 a2 i1 i2 : Nat} {v u1 u2 : Value} (h : W.cell? ⟨a1, i1, none⟩ = some u1 ∧ W.cell? ⟨a2, i2, none⟩ = some u2) (h1 : a1 ≠ b) (h2 : a2 ≠ b) :
    (W.setCell ⟨b, i, none⟩ v).cell? ⟨a1, i1, none⟩ = some u1 ∧ (W.setCell ⟨b, i, none⟩ v).cell? ⟨a2, i2, none⟩ = some u2 :=
  ⟨(World.cell?_of_block (heap_setCell_other W ⟨b, i, none⟩ a1 v h1)).trans h.1, (World.cell?_of_block (heap_setCell_other W ⟨b, i, none⟩ a2 v h2)).trans h.2⟩
theorem draw_fin {w W : World} {b d base : Nat} {t : Ty} {s : Value} (h : Rdy w b W) (hbw : b < w.heap.size) (hn : NewG t base W (.agg #[.int .i64 t.kind, s])) (hbase : w.heap.size + 1 ≤ base) (hd : t.nodes + 1 ≤ 2 ^ d) :
    DrawT d b w (.returned (.agg #[.int .i64 t.kind, s])) ((W.setCell ⟨w.heap.size, 0, none⟩ (.int .i64 t.kind)).setCell ⟨w.heap.size, 1, none⟩ s) := by
  obtain ⟨s', es, h1, h2, h3⟩ := hn
  have hbl : Below w.heap.size W ((W.setCell ⟨w.heap.size, 0, none⟩ (.int .i64 t.kind)).setCell ⟨w.heap.size, 1, none⟩ s) := ((Below.refl _ W).setCell (p := ⟨w.heap.size, 0, none⟩) (Nat.le_refl _) _).setCell (p := ⟨w.heap.size, 1, none⟩) (Nat.le_refl _) _
  exact ⟨_, t, rfl, hd, ⟨s', es, h1, h2, ((h3.set w.heap.size 0 _ (by omega)).set w.heap.size 1 _ (by omega)).base (by omega)⟩, h.cur.belowAt hbw hbl, grown_below h.grown (Nat.le_refl _) hbl⟩
theorem leaf_fin {w W : World} {b d : Nat} {x : Int} (h : Rdy w b W) (hbw : b < w.heap.size) :
    DrawT (d + 1) b w (.returned (.agg #[.int .i64 x, .slice none 0 0])) ((W.setCell ⟨w.heap.size, 0, none⟩ (.int .i64 x)).setCell ⟨w.heap.size, 1, none⟩ (.slice none 0 0)) :=
  draw_fin (t := .mk x []) h hbw ⟨_, [], rfl, rfl, Grow.start W (w.heap.size + 1)⟩ (Nat.le_refl _) (by have := Nat.one_le_two_pow (n := d); simp only [Ty.nodes, nodesS, Nat.pow_succ]; omega)

set_option maxRecDepth 100000 in
set_option maxHeartbeats 2000000 in
theorem draw_step (k : Nat) (D : Int) (hD : D = (k : Int) + 1) (hk : k ≤ 3)
    (IH : 1 ≤ k → ∀ (b : Nat) (W : World), Cur W b → Calls Tryz.prog 140 #[.pointer (some ⟨b, 0, none⟩), .int .i64 (D - 1)] W (DrawT k b W)) (b : Nat) (w : World) (hc : Cur w b) :
    Calls Tryz.prog 140 #[.pointer (some ⟨b, 0, none⟩), .int .i64 D] w (DrawT (k + 1) b w) := by
  have hbw := hc.lt
  have hsz := fun (W : World) (h : Rdy w b W) => h.lt
  have HSZ := Lib.hid hsz
  clear hsz
  have d1 : 1 ≤ D := by omega
  have d4 : D ≤ 4 := by omega
  have HR0 := Lib.hid (Rdy.start hc)
  have HIH := Lib.hid IH
  have hp := pickInt_litG [1, 1, 2] 3 b (w.alloc (.cells #[.int .i64 0, .slice none 0 0] 26)) #[.int .i64 1, .int .i64 1, .int .i64 2] rfl (by decide) (by decide) rfl HR0.out.cur
  rw [World.size_alloc] at hp
  have HP := Lib.hid hp
  have HD := Lib.hid hD
  clear IH hc hp hD
  go_enter Tryz.func140, Tryz.ntmps140
  by_cases h2 : D < 2
  · go_wp2_with fail
    refine HP.out.mono ?_
    rintro e w1 ⟨x, _, rfl, hc1, hg1⟩
    have hr1 := HR0.out.step hbw hc1 hg1
    have g0 : w1.cell? ⟨w.heap.size, 0, none⟩ = some (.int .i64 0) := cell_of_blk hr1.r 0
    have g1 : w1.cell? ⟨w.heap.size, 1, none⟩ = some (.slice none 0 0) := cell_of_blk hr1.r 1
    have gz := unfrozen_of_blk hr1.r
    have HR1 := Lib.hid hr1
    clear hc1 hg1 hr1
    go_wp2_with fail
    refine bodyPost_ret (v := .agg #[.int .i64 x, .slice none 0 0]) ?_ rfl ?_
    · rw [results_cell1 rfl]
      go_simp
    · exact leaf_fin HR1.out hbw
  · have k1 : 1 ≤ k := by have := HD.out; omega
    have HIK := Lib.hid (HIH.out k1)
    go_wp2_with fail
    refine (once_any b 2 _ (by decide) (by decide) HR0.out.cur).mono ?_
    rintro e w1 ⟨x, rfl, hc1, hg1⟩
    have HR1 := Lib.hid (HR0.out.step hbw hc1 hg1)
    clear hc1 hg1
    cases x
    · go_wp2_with fail
      refine (once_any b 2 _ (by decide) (by decide) HR1.out.cur).mono ?_
      rintro e w2 ⟨y, rfl, hc2, hg2⟩
      have HR2 := Lib.hid (HR1.out.step hbw hc2 hg2)
      clear hc2 hg2
      cases y
      · go_wp2_with fail
        refine (HIK.out b w2 HR2.out.cur).mono ?_
        rintro e w3 ⟨v3, t3, rfl, hn3, hg3, hc3, hgr3⟩
        have hr3 := HR2.out.step hbw hc3 hgr3
        have hq : t3.nodes + 1 ≤ 8 := Nat.le_trans hn3 (Nat.pow_le_pow_right (n := 2) (by decide) hk)
        obtain ⟨s3, hv3, hs3⟩ := hg3.tt
        obtain ⟨p3, c3, rfl⟩ := hs3.form
        subst hv3
        have hba := alloc_below w3 (.cells #[.int .i64 t3.kind, .slice p3 t3.args.length c3] 26)
        have hbd := hba.drew
        have HRb := Lib.hid (hr3.below hbd)
        have hgb := HRb.out.cur
        have l23 := hgr3.size
        have l02 := HR2.out.lt
        have l03 := hr3.lt
        have HT4 := Lib.hid (fun (W : World) (hW : ((w3.alloc (.cells #[.int .i64 t3.kind, .slice p3 t3.args.length c3] 26)).drew).grownBy W (some b)) =>
          (⟨_, rfl, (hs3.keep hbd).stays (C := fun z => w2.heap.size ≤ z) ⟨hW.size, fun k hk hl => hW.block k hl (fun e => by have := Option.some.inj e; omega)⟩⟩ : TT W _ t3 (.agg #[.int .i64 t3.kind, .slice p3 t3.args.length c3])))
        have HX4 := Lib.hid (fun (W : World) (hW : ((w3.alloc (.cells #[.int .i64 t3.kind, .slice p3 t3.args.length c3] 26)).drew).grownBy W (some b)) =>
          (⟨hW.cell (Bx.new w3 t3.kind (.slice p3 t3.args.length c3) 26).1 (fun e => by have : w3.heap.size = b := Option.some.inj e; omega), hW.cell (Bx.new w3 t3.kind (.slice p3 t3.args.length c3) 26).2 (fun e => by have : w3.heap.size = b := Option.some.inj e; omega)⟩ :
            W.cell? ⟨w3.heap.size, 0, none⟩ = some (.int .i64 t3.kind) ∧ W.cell? ⟨w3.heap.size, 1, none⟩ = some (.slice p3 t3.args.length c3)))
        have HN3 := Lib.hid hn3
        have HQ3 : Hid (nodesS t3.args ≤ 1048576) := Lib.hid (by rw [t3.nodes_eq] at hq; omega)
        have hk8 := Nat.pow_le_pow_right (n := 2) (by decide) hk
        have HK8 := Lib.hid hk8
        clear hg3 hc3 hgr3 hn3 hr3 hs3 hba hbd hgb hq hk8
        go_wp2_with fail
        have a3 : IntKind.i64.wrap (D - 1) = D - 1 := IntWalk.i64_in _ (by omega)
        have a4 : wrap64 (D - 1) = D - 1 := by unfold wrap64; omega
        go_region_held3 (fun w' => w'.cell? ⟨w3.heap.size, 0, none⟩ = some (.int .i64 t3.kind) ∧ w'.cell? ⟨w3.heap.size, 1, none⟩ = some (.slice p3 t3.args.length c3))
          (first
            | (go_keep; done)
            | exact ⟨by simp [*], by simp [*]⟩
            | exact HS5.out
            | exact HS4.out
            | exact keepS2 (keepS2 (by assumption) (by omega) (by omega)) (by omega) (by omega))
          (first
            | (go_at_call 140; refine (HIK.out b _ HRb.out.cur).mono ?_; rintro e w4 ⟨v4, t4, rfl, hn4, hg4, hc4, hgr4⟩; have HS4 := Lib.hid (HX4.out w4 hgr4); have HT3 := Lib.hid (HT4.out w4 hgr4); have HR4 := Lib.hid (HRb.out.step hbw hc4 hgr4); have HG4 := Lib.hid hg4; have HN4 := Lib.hid hn4; obtain ⟨s4, hv4, hs4⟩ := hg4.tt; obtain ⟨p4, c4, rfl⟩ := hs4.form; subst hv4; clear hg4 hc4 hgr4 hn4 hs4)
            | (go_at_call 91; refine (l3Fun_any HT3.out HG4.out.tt HQ3.out (small_args HN4.out HK8.out)).mono ?_; rintro e w5 ⟨v5, rfl, hg5, hb5⟩; obtain ⟨s5, hv5, hs5⟩ := hg5.tt; obtain ⟨p5, c5, rfl⟩ := hs5.form; subst hv5; have HS5 := Lib.hid (keep2 hb5 HS4.out); have hr5 := HR4.out.below hb5; have HR5 := Lib.hid hr5; have HG5 := Lib.hid hg5; have g0 : w5.cell? ⟨w.heap.size, 0, none⟩ = some (.int .i64 0) := cell_of_blk hr5.r 0; have g1 : w5.cell? ⟨w.heap.size, 1, none⟩ = some (.slice none 0 0) := cell_of_blk hr5.r 1; have gz := unfrozen_of_blk hr5.r; clear hg5 hb5 hr5 hs5))
        go_wp2_with fail
        refine bodyPost_ret (v := .agg #[.int .i64 3, .slice p5 2 c5]) ?_ rfl ?_
        · rw [results_cell1 rfl]
          go_simp
        · exact draw_fin (t := .mk 3 [t3, t4]) HR5.out hbw HG5.out (by have := HR4.out.lt; omega) (by have := HN3.out; have := HN4.out; simp only [Ty.nodes, nodesS, Nat.pow_succ]; omega)
      · go_wp2_with fail
        refine (HIK.out b w2 HR2.out.cur).mono ?_
        rintro e w3 ⟨v3, t3, rfl, hn3, hg3, hc3, hgr3⟩
        have HR3 := Lib.hid (HR2.out.step hbw hc3 hgr3)
        have hq : t3.nodes + 1 ≤ 8 := Nat.le_trans hn3 (Nat.pow_le_pow_right (n := 2) (by decide) hk)
        have HN3 := Lib.hid hn3
        have HC3 := Lib.hid (l3Code_any hg3.tt (by rw [t3.nodes_eq] at hq; omega))
        clear hg3 hc3 hgr3 hn3
        go_wp2_with fail
        refine HC3.out.mono ?_
        rintro e w4 ⟨v4, rfl, hg4, hb4⟩
        have hr4 := HR3.out.below hb4
        have g0 : w4.cell? ⟨w.heap.size, 0, none⟩ = some (.int .i64 0) := cell_of_blk hr4.r 0
        have g1 : w4.cell? ⟨w.heap.size, 1, none⟩ = some (.slice none 0 0) := cell_of_blk hr4.r 1
        have gz := unfrozen_of_blk hr4.r
        obtain ⟨p4, c4, hv4⟩ : ∃ p c, v4 = .agg #[.int .i64 4, .slice p 1 c] := by
          obtain ⟨s, hv, hs⟩ := hg4.tt
          obtain ⟨p, c, rfl⟩ := hs.form
          exact ⟨p, c, hv⟩
        subst hv4
        have HR4 := Lib.hid hr4
        have HG4 := Lib.hid hg4
        have HB4 := Lib.hid hb4.size
        clear hg4 hb4 hr4
        go_wp2_with fail
        refine bodyPost_ret (v := .agg #[.int .i64 4, .slice p4 1 c4]) ?_ rfl ?_
        · rw [results_cell1 rfl]
          go_simp
        · exact draw_fin (t := .mk 4 [t3]) HR4.out hbw HG4.out (by have := HR3.out.lt; omega) (by have := HN3.out; simp only [Ty.nodes, nodesS, Nat.pow_succ]; omega)
    · go_wp2_with fail
      refine (pickInt_litG [1, 1, 2] 3 b w1 _ rfl (by decide) (by decide) rfl HR1.out.cur).mono ?_
      rintro e w2 ⟨x, _, rfl, hc2, hg2⟩
      have hr2 := HR1.out.step hbw hc2 hg2
      have g0 : w2.cell? ⟨w.heap.size, 0, none⟩ = some (.int .i64 0) := cell_of_blk hr2.r 0
      have g1 : w2.cell? ⟨w.heap.size, 1, none⟩ = some (.slice none 0 0) := cell_of_blk hr2.r 1
      have gz := unfrozen_of_blk hr2.r
      have HR2 := Lib.hid hr2
      clear hc2 hg2 hr2
      go_wp2_with fail
      refine bodyPost_ret (v := .agg #[.int .i64 x, .slice none 0 0]) ?_ rfl ?_
      · rw [results_cell1 rfl]
        go_simp
      · exact leaf_fin HR2.out hbw
end Go.Proofs.YtfeijijeohfpgaaGreatDoor
namespace Go.Proofs.YtfeijijeohfpgaaGreatDoor
open Go Go.RowKit

abbrev leaf (k : Int) (s : ByteArray) (n : Int) : Tm := .mk k s ⟨#[]⟩ n (.mk 0 []) (.mk 0 []) []
abbrev leafV (k : Int) (s : ByteArray) (n : Int) : Value := .agg #[.int .i64 k, .string s, .string ⟨#[]⟩, .int .i64 n, .int .i64 0, .slice none 0 0, .int .i64 0, .slice none 0 0, .slice none 0 0]
abbrev zero9 : Array Value := #[.int .i64 0, .string ⟨#[]⟩, .string ⟨#[]⟩, .int .i64 0, .int .i64 0, .slice none 0 0, .int .i64 0, .slice none 0 0, .slice none 0 0]
theorem leaf_new (w : World) (base : Nat) (C : Nat → Prop) (k : Int) (s : ByteArray) (n : Int) : NewTm w base C (leaf k s n) none 0 none 0 none 0 [] := ⟨.nil _ _, .nil _ _, RowM.start _ _ _⟩
structure RdyM (w : World) (b : Nat) (W : World) : Prop where
  cur : Cur W b
  grown : w.grownBy W (some b)
  r : W.heap[w.heap.size]? = some (.cells zero9 29 (0, 0))
theorem RdyM.lt {w W : World} {b : Nat} (h : RdyM w b W) : w.heap.size < W.heap.size := (Array.getElem?_eq_some_iff.1 h.r).1
theorem RdyM.step {w W W' : World} {b : Nat} (h : RdyM w b W) (hbw : b < w.heap.size) (hc : Cur W' b) (hg : W.grownBy W' (some b)) : RdyM w b W' :=
  ⟨hc, grownBy_trans h.grown hg, (hg.block _ h.lt (fun e => by have := Option.some.inj e; omega)).trans h.r⟩
theorem RdyM.below {w W W' : World} {b : Nat} (h : RdyM w b W) (hb : Below W.heap.size W W') : RdyM w b W' :=
  ⟨h.cur.below hb, grown_below h.grown (Nat.le_of_lt h.lt) hb, (hb.block _ h.lt).trans h.r⟩
theorem RdyM.start {w : World} {b : Nat} (hc : Cur w b) : RdyM w b (w.alloc (.cells zero9 29)) := ⟨cur_alloc hc _, World.grownBy_alloc _ _ _, blk_new w _⟩
theorem RdyM.fin {w W : World} {b : Nat} (h : RdyM w b W) (hbw : b < w.heap.size) (vs : List Value) : Cur (setN W w.heap.size 0 vs) b ∧ w.grownBy (setN W w.heap.size 0 vs) (some b) ∧ Stays (fun z => w.heap.size + 1 ≤ z) W (setN W w.heap.size 0 vs) :=
  have hb := setN_below vs w.heap.size W w.heap.size 0 (Nat.le_refl _)
  ⟨h.cur.belowAt hbw hb, grown_below h.grown (Nat.le_refl _) hb, setN_stays vs _ W _ 0 (by omega)⟩
theorem RdyM.facts {w W : World} {b : Nat} (h : RdyM w b W) : (W.cell? ⟨w.heap.size, 0, none⟩ = some (.int .i64 0) ∧ W.cell? ⟨w.heap.size, 1, none⟩ = some (.string ⟨#[]⟩) ∧ W.cell? ⟨w.heap.size, 2, none⟩ = some (.string ⟨#[]⟩) ∧ W.cell? ⟨w.heap.size, 3, none⟩ = some (.int .i64 0) ∧ W.cell? ⟨w.heap.size, 4, none⟩ = some (.int .i64 0) ∧ W.cell? ⟨w.heap.size, 5, none⟩ = some (.slice none 0 0) ∧ W.cell? ⟨w.heap.size, 6, none⟩ = some (.int .i64 0) ∧ W.cell? ⟨w.heap.size, 7, none⟩ = some (.slice none 0 0) ∧ W.cell? ⟨w.heap.size, 8, none⟩ = some (.slice none 0 0)) ∧ ∀ i, W.frozen? ⟨w.heap.size, i, none⟩ = false :=
  ⟨⟨cell_of_blk h.r 0, cell_of_blk h.r 1, cell_of_blk h.r 2, cell_of_blk h.r 3, cell_of_blk h.r 4, cell_of_blk h.r 5, cell_of_blk h.r 6, cell_of_blk h.r 7, cell_of_blk h.r 8⟩, unfrozen_of_blk h.r⟩

def LeafRet (k : Int) (s : ByteArray) (n : Int) (w : World) (e : Ending) (w' : World) : Prop := e = .returned (leafV k s n) ∧ Below w.heap.size w w'
set_option maxRecDepth 100000 in
set_option maxHeartbeats 1000000 in
theorem l5Var_any (s : ByteArray) (w : World) : Calls Tryz.prog 85 #[.string s] w (LeafRet 1 s 0 w) := by
  go_enter Tryz.func85, Tryz.ntmps85
  go_wp2_with fail
  refine bodyPost_ret (v := leafV 1 s 0) ?_ rfl ?_
  · rw [results_cell1 rfl]
    go_simp
  · exact ⟨rfl, al_below _ _⟩
set_option maxRecDepth 100000 in
set_option maxHeartbeats 1000000 in
theorem l5Int_any (n : Int) (w : World) : Calls Tryz.prog 173 #[.int .i64 n] w (LeafRet 2 ⟨#[]⟩ n w) := by
  go_enter Tryz.func173, Tryz.ntmps173
  go_wp2_with fail
  refine bodyPost_ret (v := leafV 2 ⟨#[]⟩ n) ?_ rfl ?_
  · rw [results_cell1 rfl]
    go_simp
  · exact ⟨rfl, al_below _ _⟩
set_option maxRecDepth 100000 in
set_option maxHeartbeats 1000000 in
theorem l5Bool_any (n : Int) (w : World) : Calls Tryz.prog 174 #[.int .i64 n] w (LeafRet 3 ⟨#[]⟩ n w) := by
  go_enter Tryz.func174, Tryz.ntmps174
  go_wp2_with fail
  refine bodyPost_ret (v := leafV 3 ⟨#[]⟩ n) ?_ rfl ?_
  · rw [results_cell1 rfl]
    go_simp
  · exact ⟨rfl, al_below _ _⟩
def LeafG (b : Nat) (w : World) (e : Ending) (w' : World) : Prop := ∃ (k : Int) (s : ByteArray) (n : Int), e = .returned (leafV k s n) ∧ s.size ≤ 1 ∧ Cur w' b ∧ w.grownBy w' (some b)
theorem leafM_fin {w W : World} {b : Nat} (h : RdyM w b W) (hbw : b < w.heap.size) (k : Int) (s : ByteArray) (n : Int) (hs : s.size ≤ 1) :
    LeafG b w (.returned (leafV k s n)) (setN W w.heap.size 0 [.int .i64 k, .string s, .string ⟨#[]⟩, .int .i64 n, .int .i64 0, .slice none 0 0, .int .i64 0, .slice none 0 0, .slice none 0 0]) :=
  have hf := h.fin hbw _
  ⟨k, s, n, rfl, hs, hf.1, hf.2.1⟩

set_option maxRecDepth 100000 in
set_option maxHeartbeats 2000000 in
theorem leafM_any (b : Nat) (w : World) (hc : Cur w b) : Calls Tryz.prog 139 #[.pointer (some ⟨b, 0, none⟩)] w (LeafG b w) := by
  have hbw := hc.lt
  have HR0 := Lib.hid (RdyM.start hc)
  clear hc
  go_enter Tryz.func139, Tryz.ntmps139
  go_wp2_with fail
  refine (below_any b 4 _ (by decide) (by decide) HR0.out.cur).mono ?_
  rintro e w1 ⟨x, hx, rfl, hc1, hg1⟩
  have HR1 := Lib.hid (HR0.out.step hbw hc1 hg1)
  obtain ⟨x0, x4⟩ := hx
  clear hc1 hg1
  rcases (show x = 0 ∨ x = 1 ∨ 2 ≤ x by omega) with rfl | rfl | h2
  · go_wp2_with fail
    refine (pickInt_litG [0, 1, 2, 3, 10006] 5 b w1 _ rfl (by decide) (by decide) rfl HR1.out.cur).mono ?_
    rintro e w2 ⟨n, hn, rfl, hc2, hg2⟩
    have HR2 := Lib.hid (HR1.out.step hbw hc2 hg2)
    clear hn hc2 hg2
    go_wp2_with fail
    refine (l5Int_any n w2).mono ?_
    rintro e w3 ⟨rfl, hb3⟩
    have hr3 := HR2.out.below hb3
    have HR3 := Lib.hid hr3
    obtain ⟨⟨g0, g1, g2, g3, g4, g5, g6, g7, g8⟩, gz⟩ := hr3.facts
    clear hr3 hb3
    go_wp2_with fail
    refine bodyPost_ret (v := leafV 2 ⟨#[]⟩ n) ?_ rfl ?_
    · rw [results_cell1 rfl]
      go_simp
    · have := leafM_fin HR3.out hbw 2 ⟨#[]⟩ n (by decide)
      rw [setN9] at this
      exact this
  · go_wp2_with fail
    refine (below_any b 2 w1 (by decide) (by decide) HR1.out.cur).mono ?_
    rintro e w2 ⟨n, hn, rfl, hc2, hg2⟩
    have HR2 := Lib.hid (HR1.out.step hbw hc2 hg2)
    clear hn hc2 hg2
    go_wp2_with fail
    refine (l5Bool_any n w2).mono ?_
    rintro e w3 ⟨rfl, hb3⟩
    have hr3 := HR2.out.below hb3
    have HR3 := Lib.hid hr3
    obtain ⟨⟨g0, g1, g2, g3, g4, g5, g6, g7, g8⟩, gz⟩ := hr3.facts
    clear hr3 hb3
    go_wp2_with fail
    refine bodyPost_ret (v := leafV 3 ⟨#[]⟩ n) ?_ rfl ?_
    · rw [results_cell1 rfl]
      go_simp
    · have := leafM_fin HR3.out hbw 3 ⟨#[]⟩ n (by decide)
      rw [setN9] at this
      exact this
  · have e0 : (x == 0) = false := by rw [beq_eq_false_iff_ne]; omega
    have e1 : (x == 1) = false := by rw [beq_eq_false_iff_ne]; omega
    go_wp2_with fail
    refine (pickS_litG [⟨#[120]⟩, ⟨#[121]⟩, ⟨#[102]⟩] 3 b w1 _ rfl (by decide) (by decide) rfl HR1.out.cur).mono ?_
    rintro e w2 ⟨s, hs, rfl, hc2, hg2⟩
    have HR2 := Lib.hid (HR1.out.step hbw hc2 hg2)
    have HS := Lib.hid (show s.size ≤ 1 by simp at hs; rcases hs with rfl | rfl | rfl <;> decide)
    clear hs hc2 hg2
    go_wp2_with fail
    refine (l5Var_any s w2).mono ?_
    rintro e w3 ⟨rfl, hb3⟩
    have hr3 := HR2.out.below hb3
    have HR3 := Lib.hid hr3
    obtain ⟨⟨g0, g1, g2, g3, g4, g5, g6, g7, g8⟩, gz⟩ := hr3.facts
    clear hr3 hb3
    go_wp2_with fail
    refine bodyPost_ret (v := leafV 1 s 0) ?_ rfl ?_
    · rw [results_cell1 rfl]
      go_simp
    · have := leafM_fin HR3.out hbw 1 s 0 HS.out
      rw [setN9] at this
      exact this
end Go.Proofs.YtfeijijeohfpgaaGreatDoor
namespace Go.Proofs.YtfeijijeohfpgaaGreatDoor
open Go Go.RowKit

abbrev zTy : Ty := .mk 0 []
theorem nodeC_fin {w wl W : World} {t : Tm} {tp rp p : Option Addr} {tc rc c bx : Nat} {xs : List Value} (h : CInv wl bx W t tp tc rp rc p c xs) (hb : Below w.heap.size w wl) (hs : wl.heap.size = w.heap.size + 1) :
    CopyRet t w (.returned (tmV t tp tc rp rc p c)) (setN W w.heap.size 0 [.int .i64 t.kind, .string t.name, .string t.other, .int .i64 t.n, .int .i64 t.ty.kind, .slice tp t.ty.args.length tc, .int .i64 t.res.kind, .slice rp t.res.args.length rc, .slice p t.args.length c]) :=
  ⟨tp, tc, rp, rc, p, c, xs, rfl, (h.new.stays (setN_stays _ (fun z => wl.heap.size ≤ z ∧ z ≠ bx) W w.heap.size 0 (fun hc => by have := hc.1; omega))).base (by omega) (fun z hz _ => by have := hz.1; omega),
    (hb.trans (h.below.mono hb.size)).trans (setN_below _ w.heap.size W w.heap.size 0 (Nat.le_refl _))⟩

set_option maxRecDepth 100000 in
set_option maxHeartbeats 4000000 in
theorem node_any {C : Nat → Prop} {ts : List Tm} {v : Value} {w : World} (q : Int) (h : DM w C (tmD ts) v) (hn : wtS ts ≤ 1048576) :
    Calls Tryz.prog 149 #[.int .i64 q, v] w (CopyRet (.mk q ⟨#[]⟩ ⟨#[]⟩ 0 zTy zTy ts) w) := by
  obtain ⟨i0, hi, hz0, hz1, hz2⟩ := info_parts infoTm
  obtain ⟨p, c, rfl⟩ := h.form
  have hlen := wtS_ge ts
  have hwa := hn
  have hb1 := al_below w (.cells zero9 29)
  obtain ⟨wl, hwl, hsz, hbl, q0⟩ := box_new w zero9 29
  have hal := al_below wl (.cells (tmC (.mk q ⟨#[]⟩ ⟨#[]⟩ 0 zTy zTy []) none 0 none 0 none 0) 29)
  have HI0 : Hid (CInv wl wl.heap.size (wl.alloc (.cells (tmC (.mk q ⟨#[]⟩ ⟨#[]⟩ 0 zTy zTy []) none 0 none 0 none 0) 29)) (.mk q ⟨#[]⟩ ⟨#[]⟩ 0 zTy zTy []) none 0 none 0 none 0 []) := Lib.hid ⟨hal, blk_new wl _, ⟨.nil _ _, .nil _ _, RowM.start _ _ _⟩, Nat.le_refl _⟩
  have HT := Lib.hid (h.stays (.of_below hbl))
  have HQ0 := Lib.hid q0
  have HSZ := Lib.hid hsz
  have HBL := Lib.hid hbl
  have HWL := Lib.hid hwl
  have hl0 : ts.length ≤ 1048576 := by omega
  clear h hn hb1 hsz hbl q0 hlen hal hwl
  go_enter Tryz.func149, Tryz.ntmps149
  go_upto_region 1 with fail
  rw [HWL.out]
  go_wp2_with fail
  go_loopw [6] (fun i wr => ∃ (k : Nat) (pp : Option Addr) (cc : Nat) (xs : List Value), k ≤ ts.length ∧ i = .int .i64 k ∧ CInv wl wl.heap.size wr (.mk q ⟨#[]⟩ ⟨#[]⟩ 0 zTy zTy (ts.take k)) none 0 none 0 pp cc xs) (fun i _ => ts.length - (intOf i).toNat)
  case atStart => exact ⟨0, none, 0, [], Nat.zero_le _, rfl, by rw [List.take_zero]; exact HI0.out⟩
  case round =>
    obtain ⟨k, pp, cc, xs, hk, rfl, hI⟩ := hrel
    have HI := Lib.hid hI
    have hx0 := (hI.below.block w.heap.size (by have := HSZ.out; omega)).trans HQ0.out
    by_cases hlk : k < ts.length
    · obtain ⟨b, o, tp2, tc2, rp2, rc2, p3, c3, rfl, hC, hb, h9, hP⟩ := tm_part HT.out k hlk
      obtain ⟨g0, g1, g2, g3, g4, g5, g6, g7, g8⟩ := h9 wr (.of_below hI.below)
      have n5 := wtS_at ts k hlk
      have hi0 : (0 : Int) ≤ (k : Int) := Int.natCast_nonneg _
      have hi1 : (k : Int) < (ts.length : Int) := by omega
      have HC := Lib.hid (copyM_any _ wr.drew (Nat.le_refl _) (hP.stays (.of_below hI.below.drew)) (by omega))
      have e1 : (ts.take k).length = k := by rw [List.length_take]; omega
      have HE1 := Lib.hid e1
      have HL := Lib.hid hI.lt
      have y8 := hI.facts.1.2.2.2.2.2.2.2.2
      rw [e1] at y8
      have yz := hI.facts.2
      clear hC hb h9 hP n5 hx0 hI e1
      go_wp2_with fail
      go_region_law (first
        | (refine step_app1 (w0 := w1) (v := .slice pp k cc) (n := k) (xs := xs) rfl (.tmp 16) (.tmp 22) rfl Tryz.underlying27 hi hz0 hz1 hz2 rfl (by decide) rfl HOW.out _ rfl (by simp) rfl (fun u hu => by simp at hu; rcases hu with rfl | rfl | rfl | rfl | rfl | rfl | rfl | rfl | rfl <;> rfl) (by unfold maxLen; omega) (by omega) HSW.out ?_; intro w' g2' cap2 hA; have d6b := (hA.kept wl.heap.size HI1.out.bxlt (fun e => by have hE := HE1.out; rw [← hE] at e; exact (HI1.out.new.row.blk _ e).2 rfl)).1.trans HI1.out.box; have d6 : w'.cell? ⟨wl.heap.size, 8, none⟩ = some (.slice pp k cc) := by have := cell8 d6b; have hE := HE1.out; rw [hE] at this; exact this
           have d6z := unfrozen_of_blk d6b)
        | (go_simp; go_at_call 77; refine HC.out.mono ?_; rintro e w1 ⟨tp3, tc3, rp3, rc3, p4, c4, xs3, rfl, hN, hb1⟩; have hI1 := (HI.out.keep ((Below.refl _ wr).drew)).keep hb1; have HI1 := Lib.hid hI1; have HN := Lib.hid hN; have HB1 := Lib.hid hb1; have HOW : Hid (w1.ownsRow wl.heap.size 29 9 (.slice pp k cc) k xs) := Lib.hid (by have hE := HE1.out; have := hI1.own; rw [hE] at this; exact this)
           have HSW : Hid (wl.heap.size ≤ w1.heap.size) := Lib.hid hI1.below.size
           have d4 : w1.cell? ⟨wl.heap.size, 8, none⟩ = some (.slice pp k cc) := by have := hI1.facts.1.2.2.2.2.2.2.2.2; have hE := HE1.out; rw [hE] at this; exact this
           have d4z := hI1.facts.2
           have d5 := fun (o : Obj) => al_cell d4 o
           clear hI1 hN hb1))
      all_goals
        have HAA := Lib.hid hA
        clear hA d4 d4z d5 d6b d6 d6z g0 g1 g2 g3 g4 g5 g6 g7 g8 y8 yz
        go_wp2_with fail
        go_roundw
        case rel =>
          refine ⟨k + 1, some ⟨g2', 0, none⟩, cap2, xs ++ [.int .i64 ts[k].kind, .string ts[k].name, .string ts[k].other, .int .i64 ts[k].n, .int .i64 ts[k].ty.kind, .slice tp3 ts[k].ty.args.length tc3, .int .i64 ts[k].res.kind, .slice rp3 ts[k].res.args.length rc3, .slice p4 ts[k].args.length c4], by omega, by go_num, ?_⟩
          have hE := HE1.out
          have hA2 := HAA.out
          have := HI1.out.app (x := ts[k]) (us := [.int .i64 ts[k].kind, .string ts[k].name, .string ts[k].other, .int .i64 ts[k].n, .int .i64 ts[k].ty.kind, .slice tp3 ts[k].ty.args.length tc3, .int .i64 ts[k].res.kind, .slice rp3 ts[k].res.args.length rc3, .slice p4 ts[k].args.length c4]) (g := g2') (cap := cap2) (by rw [hE]; exact hA2) (HN.out.tm.mono (fun z hz _ => ?_)).ms
          · rw [hE] at this
            rw [tm_take_next hlk]
            exact this
          · have l1 := HI.out.below.size
            have l2 := HI.out.bxlt
            have hz' : wr.heap.size ≤ z := hz
            refine ⟨⟨by omega, by omega⟩, fun e => ?_⟩
            have := (HI.out.new.row.own.lt _ e).2
            omega
        case measure => simp [intOf]; omega
    · obtain rfl : k = ts.length := by omega
      rw [List.take_length] at hI HI
      obtain ⟨⟨d0, d1, d2, d3, d4, d5, d6, d7, d8⟩, dz⟩ := hI.facts
      have r0 := cell_of_blk hx0 0
      have r1 := cell_of_blk hx0 1
      have r2 := cell_of_blk hx0 2
      have r3 := cell_of_blk hx0 3
      have r4 := cell_of_blk hx0 4
      have r5 := cell_of_blk hx0 5
      have r6 := cell_of_blk hx0 6
      have r7 := cell_of_blk hx0 7
      have r8 := cell_of_blk hx0 8
      have rz := unfrozen_of_blk hx0
      simp only [List.getElem?_toArray, List.getElem?_cons_zero, List.getElem?_cons_succ] at r0 r1 r2 r3 r4 r5 r6 r7 r8
      clear hx0 hI
      go_wp2_with fail
      refine bodyPost_ret (v := tmV (.mk q ⟨#[]⟩ ⟨#[]⟩ 0 zTy zTy ts) none 0 none 0 pp cc) ?_ rfl ?_
      · rw [results_cell1 rfl]
        go_simp
        all_goals (repeat' apply And.intro) <;> rfl
      · have := nodeC_fin HI.out HBL.out HSZ.out
        rw [setN9] at this
        exact this
end Go.Proofs.YtfeijijeohfpgaaGreatDoor
namespace Go.Proofs.YtfeijijeohfpgaaGreatDoor
open Go Go.RowKit

section
variable {w wl W W' w1 : World} {bx : Nat} {t : Tm} {k n : Int} {a o : ByteArray} {ty res : Ty} {ts : List Tm} {tp rp p : Option Addr} {tc rc c : Nat} {xs : List Value}
theorem CInv.of_copy (hN : NewTm w1 wl.heap.size (fun z => wl.heap.size ≤ z) t tp tc rp rc p c xs) (hb : Below wl.heap.size wl w1) : CInv wl w1.heap.size (w1.alloc (.cells (tmC t tp tc rp rc p c) 29)) t tp tc rp rc p c xs :=
  ⟨hb.trans ((al_below w1 _).mono hb.size), blk_new w1 _, (hN.base (C' := fun z => wl.heap.size ≤ z ∧ z ≠ w1.heap.size) (Nat.le_refl _) (fun z hz hl => ⟨hz, by omega⟩)).stays (.of_below (al_below w1 _)), hb.size⟩
theorem CInv.setName (h : CInv wl bx W (.mk k a o n ty res ts) tp tc rp rc p c xs) (a' : ByteArray) : CInv wl bx (W.setCell ⟨bx, 1, none⟩ (.string a')) (.mk k a' o n ty res ts) tp tc rp rc p c xs := by
  have hst : Stays (fun z => wl.heap.size ≤ z ∧ z ≠ bx) W (W.setCell ⟨bx, 1, none⟩ (.string a')) := setCell_stays _ _ _ _ _ (by simp)
  have hnew := h.new.stays hst
  refine ⟨h.below.setCell (p := ⟨bx, 1, none⟩) h.lt _, ?_, ⟨hnew.ty, hnew.res, hnew.row⟩, h.lt⟩
  rw [Go.Joins.block_setCell h.box _]
  rfl
theorem CInv.setTy (h : CInv wl bx W (.mk k a o n ty res ts) tp tc rp rc p c xs) (ty' : Ty) (q : Option Addr) (d : Nat) (hT : TS W (fun z => (wl.heap.size ≤ z ∧ z ≠ bx) ∧ (Value.slice p ts.length c).ownBlock ≠ some z) ty'.args (.slice q ty'.args.length d)) :
    CInv wl bx ((W.setCell ⟨bx, 4, none⟩ (.int .i64 ty'.kind)).setCell ⟨bx, 5, none⟩ (.slice q ty'.args.length d)) (.mk k a o n ty' res ts) q d rp rc p c xs := by
  have hst : Stays (fun z => wl.heap.size ≤ z ∧ z ≠ bx) W ((W.setCell ⟨bx, 4, none⟩ (.int .i64 ty'.kind)).setCell ⟨bx, 5, none⟩ (.slice q ty'.args.length d)) := (setCell_stays _ _ _ _ _ (by simp)).trans (setCell_stays _ _ _ _ _ (by simp))
  have hnew := h.new.stays hst
  refine ⟨(h.below.setCell (p := ⟨bx, 4, none⟩) h.lt _).setCell (p := ⟨bx, 5, none⟩) h.lt _, ?_, ⟨hT.stays (hst.mono (fun _ hz => hz.1)), hnew.res, hnew.row⟩, h.lt⟩
  rw [Go.Joins.block_setCell (Go.Joins.block_setCell h.box _) _]
  rfl
theorem zero9_facts (h : W.heap[bx]? = some (.cells zero9 29 (0, 0))) : (W.cell? ⟨bx, 0, none⟩ = some (.int .i64 0) ∧ W.cell? ⟨bx, 1, none⟩ = some (.string ⟨#[]⟩) ∧ W.cell? ⟨bx, 2, none⟩ = some (.string ⟨#[]⟩) ∧ W.cell? ⟨bx, 3, none⟩ = some (.int .i64 0) ∧ W.cell? ⟨bx, 4, none⟩ = some (.int .i64 0) ∧ W.cell? ⟨bx, 5, none⟩ = some (.slice none 0 0) ∧ W.cell? ⟨bx, 6, none⟩ = some (.int .i64 0) ∧ W.cell? ⟨bx, 7, none⟩ = some (.slice none 0 0) ∧ W.cell? ⟨bx, 8, none⟩ = some (.slice none 0 0)) ∧ ∀ i, W.frozen? ⟨bx, i, none⟩ = false :=
  ⟨⟨cell_of_blk h 0, cell_of_blk h 1, cell_of_blk h 2, cell_of_blk h 3, cell_of_blk h 4, cell_of_blk h 5, cell_of_blk h 6, cell_of_blk h 7, cell_of_blk h 8⟩, unfrozen_of_blk h⟩
end

set_option maxRecDepth 100000 in
set_option maxHeartbeats 1000000 in
theorem op_any {C : Nat → Prop} {ts : List Tm} {v : Value} {w : World} (s : ByteArray) (h : DM w C (tmD ts) v) (hn : wtS ts ≤ 1048576) :
    Calls Tryz.prog 190 #[.string s, v] w (CopyRet (.mk 4 s ⟨#[]⟩ 0 zTy zTy ts) w) := by
  obtain ⟨wl, hwl, hsz, hbl, q0⟩ := box_new w zero9 29
  have HC := Lib.hid (node_any 4 (h.stays (.of_below hbl)) hn)
  have HWL := Lib.hid hwl
  have HQ0 := Lib.hid q0
  have HSZ := Lib.hid hsz
  have HBL := Lib.hid hbl
  clear h hn hwl q0 hsz hbl
  go_enter Tryz.func190, Tryz.ntmps190
  go_upto_region 1 with fail
  rw [HWL.out]
  go_wp2_with fail
  refine HC.out.mono ?_
  rintro e w1 ⟨tp, tc, rp, rc, p, c, xs, rfl, hN, hb⟩
  have hI := CInv.of_copy hN hb
  have hlt : w.heap.size < w1.heap.size := by have h1 := hb.size; have h2 := HSZ.out; omega
  obtain ⟨W, hW⟩ : ∃ W, w1.alloc (.cells (tmC (.mk 4 ⟨#[]⟩ ⟨#[]⟩ 0 zTy zTy ts) tp tc rp rc p c) 29) = W := ⟨_, rfl⟩
  rw [hW] at hI
  have HI := Lib.hid hI
  have HW := Lib.hid hW
  obtain ⟨⟨r0, r1, r2, r3, r4, r5, r6, r7, r8⟩, rz⟩ := zero9_facts ((hI.below.block w.heap.size (by have := HSZ.out; omega)).trans HQ0.out)
  obtain ⟨⟨g0, g1, g2, g3, g4, g5, g6, g7, g8⟩, gz⟩ := hI.facts
  clear hI hN hb hW
  go_upto_region 2 with fail
  rw [HW.out]
  go_wp2_with fail
  refine bodyPost_ret (v := tmV (.mk 4 s ⟨#[]⟩ 0 zTy zTy ts) tp tc rp rc p c) ?_ rfl ?_
  · rw [results_cell1 rfl]
    go_simp
    all_goals (repeat' apply And.intro) <;> rfl
  · have h1 := nodeC_fin (HI.out.setName s) HBL.out HSZ.out
    rw [setN9] at h1
    exact h1
end Go.Proofs.YtfeijijeohfpgaaGreatDoor
namespace Go.Proofs.YtfeijijeohfpgaaGreatDoor
open Go Go.RowKit

theorem ms_append {w : World} {C : Nat → Prop} {ds es : List D} {us vs : List Value} (h : MS w C ds us) (k : MS w C es vs) : MS w C (ds ++ es) (us ++ vs) := by
  refine ⟨by rw [List.length_append, List.length_append, h.1, k.1], fun i d v hd hv => ?_⟩
  by_cases hi : i < ds.length
  · rw [List.getElem?_append_left hi] at hd
    rw [List.getElem?_append_left (by rw [h.1]; exact hi)] at hv
    exact h.2 i d v hd hv
  · rw [List.getElem?_append_right (by omega)] at hd
    rw [List.getElem?_append_right (by rw [h.1]; omega), h.1] at hv
    exact k.2 _ d v hd hv
theorem dm_lit {w : World} {C : Nat → Prop} {ts : List Tm} {us : List Value} {g : Nat} (h : w.heap[g]? = some (.cells us.toArray 29 (0, 0))) (hm : MS w C (flatTm ts) us) (hC : C g) (hn : 1 ≤ ts.length) (hx : ts.length ≤ 1000) : DM w C (tmD ts) (.slice (some ⟨g, 0, none⟩) ts.length ts.length) := by
  have hl : us.length = (flatTm ts).length := hm.1
  refine .rows (fun i => us[i]?.getD .nilIface) hn (Nat.le_refl _) (by omega) (flatTm_len ts) hC (Array.getElem?_eq_some_iff.1 h).1 (fun i d hd => ?_) (fun i d hd => ?_)
  · have hi := (List.getElem?_eq_some_iff.1 hd).1
    rw [Nat.zero_add, cell_of_blk h i]
    simp only [List.getElem?_toArray]
    rw [List.getElem?_eq_getElem (by omega)]; rfl
  · have hi := (List.getElem?_eq_some_iff.1 hd).1
    exact hm.2 i d _ hd (by rw [List.getElem?_eq_getElem (by omega)]; rfl)
theorem ms_one {w : World} {C : Nat → Prop} {x : Tm} {tp rp p : Option Addr} {tc rc c : Nat} (h : TM' w C x tp tc rp rc p c) : MS w C (flatTm [x]) [.int .i64 x.kind, .string x.name, .string x.other, .int .i64 x.n, .int .i64 x.ty.kind, .slice tp x.ty.args.length tc, .int .i64 x.res.kind, .slice rp x.res.args.length rc, .slice p x.args.length c] := by
  have := h.ms
  show MS w C (x.ds ++ []) _
  rw [List.append_nil]
  exact this
theorem ms_cons {w : World} {C : Nat → Prop} {x : Tm} {ts : List Tm} {us : List Value} {tp rp p : Option Addr} {tc rc c : Nat} (h : TM' w C x tp tc rp rc p c) (k : MS w C (flatTm ts) us) : MS w C (flatTm (x :: ts)) ([.int .i64 x.kind, .string x.name, .string x.other, .int .i64 x.n, .int .i64 x.ty.kind, .slice tp x.ty.args.length tc, .int .i64 x.res.kind, .slice rp x.res.args.length rc, .slice p x.args.length c] ++ us) :=
  ms_append h.ms k

theorem nine_facts {W : World} {bx : Nat} {T : TypeId} {v0 v1 v2 v3 v4 v5 v6 v7 v8 : Value} (h : W.heap[bx]? = some (.cells #[v0, v1, v2, v3, v4, v5, v6, v7, v8] T (0, 0))) :
    (W.cell? ⟨bx, 0, none⟩ = some v0 ∧ W.cell? ⟨bx, 1, none⟩ = some v1 ∧ W.cell? ⟨bx, 2, none⟩ = some v2 ∧ W.cell? ⟨bx, 3, none⟩ = some v3 ∧ W.cell? ⟨bx, 4, none⟩ = some v4 ∧ W.cell? ⟨bx, 5, none⟩ = some v5 ∧ W.cell? ⟨bx, 6, none⟩ = some v6 ∧ W.cell? ⟨bx, 7, none⟩ = some v7 ∧ W.cell? ⟨bx, 8, none⟩ = some v8) ∧ ∀ i, W.frozen? ⟨bx, i, none⟩ = false :=
  ⟨⟨cell_of_blk h 0, cell_of_blk h 1, cell_of_blk h 2, cell_of_blk h 3, cell_of_blk h 4, cell_of_blk h 5, cell_of_blk h 6, cell_of_blk h 7, cell_of_blk h 8⟩, unfrozen_of_blk h⟩
theorem nodeR_fin {w wl W : World} {t : Tm} {tp rp p : Option Addr} {tc rc c bx : Nat} {xs : List Value} (r : Nat) (h : CInv wl bx W t tp tc rp rc p c xs) (hb : Below w.heap.size w wl) (hr : w.heap.size ≤ r) (hs : r < wl.heap.size) :
    CopyRet t w (.returned (tmV t tp tc rp rc p c)) (setN W r 0 [.int .i64 t.kind, .string t.name, .string t.other, .int .i64 t.n, .int .i64 t.ty.kind, .slice tp t.ty.args.length tc, .int .i64 t.res.kind, .slice rp t.res.args.length rc, .slice p t.args.length c]) :=
  ⟨tp, tc, rp, rc, p, c, xs, rfl, (h.new.stays (setN_stays _ (fun z => wl.heap.size ≤ z ∧ z ≠ bx) W r 0 (fun hc => by have := hc.1; omega))).base hb.size (fun z hz _ => Nat.le_trans hb.size hz.1),
    (hb.trans (h.below.mono hb.size)).trans (setN_below _ w.heap.size W r 0 hr)⟩

set_option maxRecDepth 100000 in
set_option maxHeartbeats 1000000 in
theorem let_any {C : Nat → Prop} {x y : Tm} {vx vy : Value} {w : World} (s : ByteArray) (hx : TM w C x vx) (hy : TM w C y vy) (hn : x.wt + y.wt + 2 ≤ 1048576) :
    Calls Tryz.prog 187 #[.string s, vx, vy] w (CopyRet (.mk 8 s ⟨#[]⟩ 0 zTy zTy [x, y]) w) := by
  obtain ⟨tp1, tc1, rp1, rc1, p1, c1, rfl, hx⟩ := hx
  obtain ⟨tp2, tc2, rp2, rc2, p2, c2, rfl, hy⟩ := hy
  obtain ⟨wl, hwl, hsz, hbl, qx, qy, q0⟩ := box_new3 w #[Value.int .i64 x.kind, .string x.name, .string x.other, .int .i64 x.n, .int .i64 x.ty.kind, .slice tp1 x.ty.args.length tc1, .int .i64 x.res.kind, .slice rp1 x.res.args.length rc1, .slice p1 x.args.length c1] #[Value.int .i64 y.kind, .string y.name, .string y.other, .int .i64 y.n, .int .i64 y.ty.kind, .slice tp2 y.ty.args.length tc2, .int .i64 y.res.kind, .slice rp2 y.res.args.length rc2, .slice p2 y.args.length c2] zero9 29 29 29
  have hb2 := al_below wl (.cells ([Value.int .i64 x.kind, .string x.name, .string x.other, .int .i64 x.n, .int .i64 x.ty.kind, .slice tp1 x.ty.args.length tc1, .int .i64 x.res.kind, .slice rp1 x.res.args.length rc1, .slice p1 x.args.length c1] ++ [Value.int .i64 y.kind, .string y.name, .string y.other, .int .i64 y.n, .int .i64 y.ty.kind, .slice tp2 y.ty.args.length tc2, .int .i64 y.res.kind, .slice rp2 y.res.args.length rc2, .slice p2 y.args.length c2]).toArray 29)
  have hst : Stays C w (wl.alloc (.cells ([Value.int .i64 x.kind, .string x.name, .string x.other, .int .i64 x.n, .int .i64 x.ty.kind, .slice tp1 x.ty.args.length tc1, .int .i64 x.res.kind, .slice rp1 x.res.args.length rc1, .slice p1 x.args.length c1] ++ [Value.int .i64 y.kind, .string y.name, .string y.other, .int .i64 y.n, .int .i64 y.ty.kind, .slice tp2 y.ty.args.length tc2, .int .i64 y.res.kind, .slice rp2 y.res.args.length rc2, .slice p2 y.args.length c2]).toArray 29)) := .of_below (hbl.trans (hb2.mono hbl.size))
  have HC := Lib.hid (node_any (C := fun z => C z ∨ z = wl.heap.size) 8 (dm_lit (ts := [x, y]) (blk_new wl _) (ms_cons ((hx.stays hst).mono (fun z hz _ => Or.inl hz)) (ms_one ((hy.stays hst).mono (fun z hz _ => Or.inl hz)))) (Or.inr rfl) (by simp) (by simp)) (by simp only [wtS]; omega))
  have HB2 := Lib.hid hb2
  have HWL := Lib.hid hwl
  have HQ0 := Lib.hid q0
  have HSZ := Lib.hid hsz
  have HBL := Lib.hid hbl
  obtain ⟨⟨x0, x1, x2, x3, x4, x5, x6, x7, x8⟩, xz⟩ := nine_facts qx
  obtain ⟨⟨y0, y1, y2, y3, y4, y5, y6, y7, y8⟩, yz⟩ := nine_facts qy
  clear qx qy hx hy hn hwl q0 hsz hbl hb2 hst
  go_enter Tryz.func187, Tryz.ntmps187
  go_upto_region 1 with fail
  rw [HWL.out]
  go_wp2_with fail
  refine HC.out.mono ?_
  rintro e w1 ⟨tp, tc, rp, rc, p, c, xs, rfl, hN, hb⟩
  have hI := CInv.of_copy (wl := wl) (hN.base (by simp) (fun z hz _ => by have : _ ≤ z := hz; simp at this; omega)) (HB2.out.trans (hb.mono HB2.out.size))
  have hlt : w.heap.size + 1 + 1 < w1.heap.size := by have h1 := (HB2.out.trans (hb.mono HB2.out.size)).size; have h2 := HSZ.out; omega
  obtain ⟨W, hW⟩ : ∃ W, w1.alloc (.cells (tmC (.mk 8 ⟨#[]⟩ ⟨#[]⟩ 0 zTy zTy [x, y]) tp tc rp rc p c) 29) = W := ⟨_, rfl⟩
  rw [hW] at hI
  have HI := Lib.hid hI
  have HW := Lib.hid hW
  obtain ⟨⟨r0, r1, r2, r3, r4, r5, r6, r7, r8⟩, rz⟩ := zero9_facts ((hI.below.block (w.heap.size + 1 + 1) (by have := HSZ.out; omega)).trans HQ0.out)
  obtain ⟨⟨g0, g1, g2, g3, g4, g5, g6, g7, g8⟩, gz⟩ := hI.facts
  clear hI hN hb hW x0 x1 x2 x3 x4 x5 x6 x7 x8 xz y0 y1 y2 y3 y4 y5 y6 y7 y8 yz
  go_upto_region 2 with fail
  rw [HW.out]
  go_wp2_with fail
  refine bodyPost_ret (v := tmV (.mk 8 s ⟨#[]⟩ 0 zTy zTy [x, y]) tp tc rp rc p c) ?_ rfl ?_
  · rw [results_cell1 rfl]
    go_simp
    all_goals (repeat' apply And.intro) <;> rfl
  · have h1 := nodeR_fin (w.heap.size + 1 + 1) (HI.out.setName s) HBL.out (by omega) (by have := HSZ.out; omega)
    rw [setN9] at h1
    exact h1
set_option maxRecDepth 100000 in
set_option maxHeartbeats 1000000 in
theorem lam_any {C : Nat → Prop} {x : Tm} {t : Ty} {vx vt : Value} {w : World} (s : ByteArray) (ht : TT w C t vt) (hx : TM w C x vx) (hnt : nodesS t.args ≤ 1000) (hn : x.wt + 1 ≤ 1048576) :
    Calls Tryz.prog 146 #[.string s, vt, vx] w (CopyRet (.mk 6 s ⟨#[]⟩ 0 t zTy [x]) w) := by
  obtain ⟨tp1, tc1, rp1, rc1, p1, c1, rfl, hx⟩ := hx
  obtain ⟨st, rfl, hst0⟩ := ht
  obtain ⟨pt, ct, rfl⟩ := hst0.form
  obtain ⟨wl, hwl, hsz, hbl, qt, qx, q0⟩ := box_new3 w #[.int .i64 t.kind, .slice pt t.args.length ct] #[Value.int .i64 x.kind, .string x.name, .string x.other, .int .i64 x.n, .int .i64 x.ty.kind, .slice tp1 x.ty.args.length tc1, .int .i64 x.res.kind, .slice rp1 x.res.args.length rc1, .slice p1 x.args.length c1] zero9 26 29 29
  have hb2 := al_below wl (.cells ([Value.int .i64 x.kind, .string x.name, .string x.other, .int .i64 x.n, .int .i64 x.ty.kind, .slice tp1 x.ty.args.length tc1, .int .i64 x.res.kind, .slice rp1 x.res.args.length rc1, .slice p1 x.args.length c1]).toArray 29)
  have hst : Stays C w (wl.alloc (.cells ([Value.int .i64 x.kind, .string x.name, .string x.other, .int .i64 x.n, .int .i64 x.ty.kind, .slice tp1 x.ty.args.length tc1, .int .i64 x.res.kind, .slice rp1 x.res.args.length rc1, .slice p1 x.args.length c1]).toArray 29)) := .of_below (hbl.trans (hb2.mono hbl.size))
  have HC := Lib.hid (node_any (C := fun z => C z ∨ z = wl.heap.size) 6 (dm_lit (ts := [x]) (blk_new wl _) (ms_one ((hx.stays hst).mono (fun z hz _ => Or.inl hz))) (Or.inr rfl) (by simp) (by simp)) (by simp only [wtS]; omega))
  have HT := Lib.hid (fun (W : World) (hb : Below w.heap.size w W) => copyT_any (⟨_, rfl, hst0.stays (.of_below hb)⟩ : TT W C t (.agg #[.int .i64 t.kind, .slice pt t.args.length ct])) (by omega))
  have HB2 := Lib.hid hb2
  have HWL := Lib.hid hwl
  have HQT := Lib.hid qt
  have HQ0 := Lib.hid q0
  have HSZ := Lib.hid hsz
  have HBL := Lib.hid hbl
  obtain ⟨⟨x0, x1, x2, x3, x4, x5, x6, x7, x8⟩, xz⟩ := nine_facts qx
  clear qx hx hn hwl q0 qt hsz hbl hb2 hst hst0 hnt
  go_enter Tryz.func146, Tryz.ntmps146
  go_upto_region 1 with fail
  rw [HWL.out]
  go_wp2_with fail
  refine HC.out.mono ?_
  rintro e w1 ⟨tp, tc, rp, rc, p, c, xs, rfl, hN, hb⟩
  have hI := CInv.of_copy (wl := wl) (hN.base (by simp) (fun z hz _ => by have : _ ≤ z := hz; simp at this; omega)) (HB2.out.trans (hb.mono HB2.out.size))
  have hlt : w.heap.size + 1 + 1 < w1.heap.size := by have h1 := (HB2.out.trans (hb.mono HB2.out.size)).size; have h2 := HSZ.out; omega
  obtain ⟨W, hW⟩ : ∃ W, w1.alloc (.cells (tmC (.mk 6 ⟨#[]⟩ ⟨#[]⟩ 0 zTy zTy [x]) tp tc rp rc p c) 29) = W := ⟨_, rfl⟩
  rw [hW] at hI
  have HI := Lib.hid hI
  have HW := Lib.hid hW
  obtain ⟨⟨g0, g1, g2, g3, g4, g5, g6, g7, g8⟩, gz⟩ := hI.facts
  clear hI hN hb hW x0 x1 x2 x3 x4 x5 x6 x7 x8 xz
  go_upto_region 2 with fail
  rw [HW.out]
  go_upto_region 3 with fail
  obtain ⟨W3, hW3⟩ : ∃ W3, W.setCell ⟨w1.heap.size, 1, none⟩ (.string s) = W3 := ⟨_, rfl⟩
  have hI3 := HI.out.setName s
  rw [hW3] at hI3 ⊢
  have hq3 := (hI3.below.block w.heap.size (by have := HSZ.out; omega)).trans HQT.out
  have t0 := cell_of_blk hq3 0
  have t1 := cell_of_blk hq3 1
  simp only [List.getElem?_toArray, List.getElem?_cons_zero, List.getElem?_cons_succ] at t0 t1
  have tz := unfrozen_of_blk hq3
  have hbw : Below w.heap.size w W3 := HBL.out.trans (hI3.below.mono HBL.out.size)
  have HBW := Lib.hid hbw
  have HI3 := Lib.hid hI3
  clear hI3 hq3 hbw hW3 g0 g1 g2 g3 g4 g5 g6 g7 g8 gz
  go_wp2_with fail
  refine (HT.out W3 HBW.out).mono ?_
  rintro e w4 ⟨v4, rfl, hT4, hb4⟩
  obtain ⟨sl, rfl, hts⟩ := hT4
  obtain ⟨q4, d4, rfl⟩ := hts.form
  have hI4 := HI3.out.keep hb4
  have hI5 := hI4.setTy t q4 d4 (hts.mono (fun z hz _ => by
    have hz' : W3.heap.size ≤ z := hz
    have l1 := HI3.out.below.size
    have l2 := HI3.out.bxlt
    refine ⟨⟨by omega, by omega⟩, fun e => ?_⟩
    have := (HI3.out.new.row.own.lt _ e).2
    omega))
  obtain ⟨⟨k0, k1, k2, k3, k4, k5, k6, k7, k8⟩, kz⟩ := hI4.facts
  have HI5 := Lib.hid hI5
  have hlt4 : w.heap.size + 1 + 1 < w1.heap.size := hlt
  clear hI4 hI5 hts hb4
  go_upto_region 4 with fail
  obtain ⟨W5, hW5⟩ : ∃ W5, (w4.setCell ⟨w1.heap.size, 4, none⟩ (.int .i64 t.kind)).setCell ⟨w1.heap.size, 5, none⟩ (.slice q4 t.args.length d4) = W5 := ⟨_, rfl⟩
  have HI6 : Hid (CInv wl w1.heap.size W5 _ _ _ _ _ _ _ _) := Lib.hid (hW5 ▸ HI5.out)
  rw [hW5]
  obtain ⟨⟨r0, r1, r2, r3, r4, r5, r6, r7, r8⟩, rz⟩ := zero9_facts ((HI6.out.below.block (w.heap.size + 1 + 1) (by have := HSZ.out; omega)).trans HQ0.out)
  obtain ⟨⟨g0, g1, g2, g3, g4, g5, g6, g7, g8⟩, gz⟩ := HI6.out.facts
  clear hW5 k0 k1 k2 k3 k4 k5 k6 k7 k8 kz t0 t1 tz
  go_wp2_with fail
  refine bodyPost_ret (v := tmV (.mk 6 s ⟨#[]⟩ 0 t zTy [x]) q4 d4 rp rc p c) ?_ rfl ?_
  · rw [results_cell1 rfl]
    go_simp
    all_goals (repeat' apply And.intro) <;> rfl
  · have h1 := nodeR_fin (w.heap.size + 1 + 1) HI6.out HBL.out (by omega) (by have := HSZ.out; omega)
    rw [setN9] at h1
    exact h1
end Go.Proofs.YtfeijijeohfpgaaGreatDoor
namespace Go.Proofs.YtfeijijeohfpgaaGreatDoor
open Go Go.RowKit

def textK (k : Int) (xs : List (List UInt8)) : List UInt8 :=
  if k = 1 then [73] else if k = 2 then [66] else if k = 3 then 40 :: (xs.getD 0 [] ++ 62 :: (xs.getD 1 [] ++ [41])) else 60 :: (xs.getD 0 [] ++ [62])
mutual
def Ty.text : Ty → List UInt8
  | .mk k ts => textK k (textS ts)
def textS : List Ty → List (List UInt8)
  | [] => []
  | t :: ts => t.text :: textS ts
end
theorem text_fun (a b : Ty) : (Ty.mk 3 [a, b]).text = 40 :: (a.text ++ 62 :: (b.text ++ [41])) := by simp [Ty.text, textS, textK]
theorem text_code (a : Ty) : (Ty.mk 4 [a]).text = 60 :: (a.text ++ [62]) := by simp [Ty.text, textS, textK]
theorem text_int (ts : List Ty) : (Ty.mk 1 ts).text = [73] := by simp [Ty.text, textK]
theorem text_bool (ts : List Ty) : (Ty.mk 2 ts).text = [66] := by simp [Ty.text, textK]
theorem form_cases {t : Ty} (h : t.form = true) : t = .mk 1 [] ∨ t = .mk 2 [] ∨ (∃ a b, t = .mk 3 [a, b] ∧ a.form = true ∧ b.form = true) ∨ ∃ a, t = .mk 4 [a] ∧ a.form = true := by
  obtain ⟨k, ts⟩ := t
  obtain ⟨h1, h2⟩ := (form_mk k ts).1 h
  rcases h2 with ⟨hk, hl⟩ | ⟨rfl, hl⟩ | ⟨rfl, hl⟩
  · obtain rfl := List.eq_nil_of_length_eq_zero hl
    rcases hk with rfl | rfl
    · exact Or.inl rfl
    · exact Or.inr (Or.inl rfl)
  · obtain ⟨a, b, rfl⟩ : ∃ a b, ts = [a, b] := by
      match ts, hl with
      | [a, b], _ => exact ⟨a, b, rfl⟩
    simp only [formS_cons] at h1
    exact Or.inr (Or.inr (Or.inl ⟨a, b, rfl, h1.1, h1.2.1⟩))
  · obtain ⟨a, rfl⟩ := List.length_eq_one_iff.1 hl
    simp only [formS_cons] at h1
    exact Or.inr (Or.inr (Or.inr ⟨a, rfl, h1.1⟩))

theorem text_le : ∀ (n : Nat) (t : Ty), t.nodes ≤ n → t.form = true → t.text.length ≤ 3 * t.nodes
  | 0, t, hn, _ => by rw [t.nodes_eq] at hn; omega
  | n + 1, t, hn, h => by
    rcases form_cases h with rfl | rfl | ⟨a, b, rfl, ha, hb⟩ | ⟨a, rfl, ha⟩
    · simp [text_int, Ty.nodes, nodesS]
    · simp [text_bool, Ty.nodes, nodesS]
    · simp only [Ty.nodes, nodesS] at hn
      have h1 := text_le n a (by omega) ha
      have h2 := text_le n b (by omega) hb
      rw [text_fun]
      simp only [List.length_cons, List.length_append, List.length_nil, Ty.nodes, nodesS]
      omega
    · simp only [Ty.nodes, nodesS] at hn
      have h1 := text_le n a (by omega) ha
      rw [text_code]
      simp only [List.length_cons, List.length_append, List.length_nil, Ty.nodes, nodesS]
      omega
def ptys (f : Nat → Option (Ty × Nat)) (s : List UInt8) : List UInt8 → Nat → Option (List Ty × Nat)
  | [], i => some ([], i)
  | e :: es, i => match f i with
    | none => none
    | some (t, j) => if s[j]? = some e then (ptys f s es (j + 1)).map (fun r => (t :: r.1, r.2)) else none
def pty (s : List UInt8) : Nat → Nat → Option (Ty × Nat)
  | 0, _ => none
  | k + 1, i =>
    if s[i]? = some 73 then some (.mk 1 [], i + 1)
    else if s[i]? = some 66 then some (.mk 2 [], i + 1)
    else if s[i]? = some 40 then (ptys (pty s k) s [62, 41] (i + 1)).map fun r => (.mk 3 r.1, r.2)
    else if s[i]? = some 60 then (ptys (pty s k) s [62] (i + 1)).map fun r => (.mk 4 r.1, r.2)
    else none
structure Good (s : List UInt8) (k i : Nat) (t : Ty) (j : Nat) : Prop where
  lt : i < j
  le : j ≤ s.length
  depth : t.depth ≤ k
  nodes : t.nodes + 1 ≤ 2 ^ k
  form : t.form = true
  text : s.drop i = t.text ++ s.drop j
theorem drop_at {s : List UInt8} {i : Nat} {c : UInt8} (h : s[i]? = some c) : s.drop i = c :: s.drop (i + 1) ∧ i < s.length := by
  obtain ⟨h1, rfl⟩ := List.getElem?_eq_some_iff.1 h
  exact ⟨List.drop_eq_getElem_cons h1, h1⟩
theorem two_pow_pos (k : Nat) : 1 ≤ 2 ^ k := Nat.one_le_two_pow
theorem pty_good (s : List UInt8) : ∀ (k i : Nat) (t : Ty) (j : Nat), pty s k i = some (t, j) → Good s k i t j
  | 0, i, t, j, h => by cases h
  | k + 1, i, t, j, h => by
    have hp := two_pow_pos k
    unfold pty at h
    split at h
    · next hc =>
      obtain ⟨h1, h2⟩ := drop_at hc
      simp only [Option.some.injEq, Prod.mk.injEq] at h
      obtain ⟨rfl, rfl⟩ := h
      exact ⟨by omega, by omega, by simp [Ty.depth, depthS], by simp only [Ty.nodes, nodesS, Nat.pow_succ]; omega, by decide, by rw [h1, text_int]; rfl⟩
    · split at h
      · next hc =>
        obtain ⟨h1, h2⟩ := drop_at hc
        simp only [Option.some.injEq, Prod.mk.injEq] at h
        obtain ⟨rfl, rfl⟩ := h
        exact ⟨by omega, by omega, by simp [Ty.depth, depthS], by simp only [Ty.nodes, nodesS, Nat.pow_succ]; omega, by decide, by rw [h1, text_bool]; rfl⟩
      · split at h
        · next hc =>
          obtain ⟨h1, h2⟩ := drop_at hc
          simp only [ptys] at h
          cases ha : pty s k (i + 1) with
          | none => rw [ha] at h; cases h
          | some r =>
            obtain ⟨a, i1⟩ := r
            have ga := pty_good s k _ _ _ ha
            rw [ha] at h
            dsimp only at h
            split at h
            · next hc1 =>
              obtain ⟨h3, h4⟩ := drop_at hc1
              cases hb : pty s k (i1 + 1) with
              | none => rw [hb] at h; cases h
              | some r =>
                obtain ⟨b, i2⟩ := r
                have gb := pty_good s k _ _ _ hb
                rw [hb] at h
                dsimp only at h
                split at h
                · next hc2 =>
                  obtain ⟨h5, h6⟩ := drop_at hc2
                  simp only [Option.map_some, Option.some.injEq, Prod.mk.injEq] at h
                  obtain ⟨rfl, rfl⟩ := h
                  have := ga.lt
                  have := gb.lt
                  have := ga.nodes
                  have := gb.nodes
                  have := ga.depth
                  have := gb.depth
                  refine ⟨by omega, by omega, by simp only [Ty.depth, depthS]; omega, by simp only [Ty.nodes, nodesS, Nat.pow_succ]; omega, ?_, ?_⟩
                  · rw [form_mk]
                    simp [formS, ga.form, gb.form]
                  · rw [h1, ga.text, h3, gb.text, h5, text_fun]
                    simp
                · cases h
            · cases h
        · split at h
          · next hc =>
            obtain ⟨h1, h2⟩ := drop_at hc
            simp only [ptys] at h
            cases ha : pty s k (i + 1) with
            | none => rw [ha] at h; cases h
            | some r =>
              obtain ⟨a, i1⟩ := r
              have ga := pty_good s k _ _ _ ha
              rw [ha] at h
              dsimp only at h
              split at h
              · next hc1 =>
                obtain ⟨h3, h4⟩ := drop_at hc1
                simp only [Option.map_some, Option.some.injEq, Prod.mk.injEq] at h
                obtain ⟨rfl, rfl⟩ := h
                have := ga.lt
                have := ga.nodes
                have := ga.depth
                refine ⟨by omega, by omega, by simp only [Ty.depth, depthS]; omega, by simp only [Ty.nodes, nodesS, Nat.pow_succ]; omega, ?_, ?_⟩
                · rw [form_mk]
                  simp [formS, ga.form]
                · rw [h1, ga.text, h3, text_code]
                  simp
              · cases h
          · cases h
def fmtT (t : Ty) : List UInt8 := if t.valid then t.text else []
end Go.Proofs.YtfeijijeohfpgaaGreatDoor
namespace Go.Proofs.YtfeijijeohfpgaaGreatDoor
open Go Go.RowKit
theorem draw_any : ∀ k : Nat, 1 ≤ k → k ≤ 4 → ∀ (b : Nat) (w : World), Cur w b → Calls Tryz.prog 140 #[.pointer (some ⟨b, 0, none⟩), .int .i64 k] w (DrawT k b w)
  | 0, h, _ => by omega
  | k + 1, _, h4 => fun b w hc => draw_step k ((k + 1 : Nat) : Int) (by simp) (by omega) (fun h1 b W hW => by
      have := draw_any k h1 (by omega) b W hW
      rwa [show (((k + 1 : Nat) : Int) - 1) = (k : Int) by omega]) b w hc
structure Box (w : World) (b bx : Nat) (W : World) (t : Ty) (s : Value) : Prop where
  rdy : Rdy w b W
  box : W.heap[bx]? = some (.cells #[.int .i64 t.kind, s] 26 (0, 0))
  ts : TS W (fun z => w.heap.size + 1 ≤ z ∧ z ≠ bx) t.args s
  lt : w.heap.size + 1 ≤ bx
theorem Box.bxlt {w W : World} {b bx : Nat} {t : Ty} {s : Value} (h : Box w b bx W t s) : bx < W.heap.size := (Array.getElem?_eq_some_iff.1 h.box).1
theorem Box.step {w W W' : World} {b bx : Nat} {t : Ty} {s : Value} (h : Box w b bx W t s) (hbw : b < w.heap.size) (hc : Cur W' b) (hg : W.grownBy W' (some b)) : Box w b bx W' t s :=
  have hl := h.lt
  ⟨h.rdy.step hbw hc hg, (hg.block _ h.bxlt (fun e => by have := Option.some.inj e; omega)).trans h.box, h.ts.stays ⟨hg.size, fun z hz hl => hg.block z hl (fun e => by have := Option.some.inj e; omega)⟩, h.lt⟩
theorem Box.below {w W W' : World} {b bx : Nat} {t : Ty} {s : Value} (h : Box w b bx W t s) (hb : Below W.heap.size W W') : Box w b bx W' t s :=
  ⟨h.rdy.below hb, (hb.block _ h.bxlt).trans h.box, h.ts.keep hb, h.lt⟩
theorem Rdy.set {w W : World} {b bx i : Nat} {v : Value} (h : Rdy w b W) (hbw : b < w.heap.size) (hlt : w.heap.size < bx) : Rdy w b (W.setCell ⟨bx, i, none⟩ v) := by
  have hb : Below bx W (W.setCell ⟨bx, i, none⟩ v) := (Below.refl _ W).setCell (p := ⟨bx, i, none⟩) (Nat.le_refl _) _
  exact ⟨h.cur.belowAt (by omega) hb, grown_below h.grown (by omega) hb, (hb.block _ hlt).trans h.r⟩
theorem Box.set {w W : World} {b bx : Nat} {t u : Ty} {s s' : Value} (h : Box w b bx W t s) (hbw : b < w.heap.size) (hu : TS W (fun z => w.heap.size + 1 ≤ z ∧ z ≠ bx) u.args s') :
    Box w b bx ((W.setCell ⟨bx, 0, none⟩ (.int .i64 u.kind)).setCell ⟨bx, 1, none⟩ s') u s' := by
  have hl := h.lt
  refine ⟨(h.rdy.set hbw (by omega)).set hbw (by omega), ?_, hu.stays ((setCell_stays _ _ _ _ _ (by omega)).trans (setCell_stays _ _ _ _ _ (by omega))), h.lt⟩
  rw [Go.Joins.block_setCell (Go.Joins.block_setCell h.box _) _]
  rfl
theorem Box.setKind {w W : World} {b bx : Nat} {t : Ty} {s : Value} (h : Box w b bx W t s) (hbw : b < w.heap.size) (y : Int) : Box w b bx (W.setCell ⟨bx, 0, none⟩ (.int .i64 y)) (.mk y t.args) s := by
  have hl := h.lt
  refine ⟨h.rdy.set hbw (by omega), ?_, h.ts.stays (setCell_stays _ _ _ _ _ (by omega)), h.lt⟩
  rw [Go.Joins.block_setCell h.box _]
  rfl
theorem NewG.ts {u : Ty} {w W W' : World} {bx : Nat} {v : Value} (h : NewG u W.heap.size W' v) (h1 : w.heap.size + 1 ≤ W.heap.size) (h2 : bx < W.heap.size) : ∃ s, v = .agg #[.int .i64 u.kind, s] ∧ TS W' (fun z => w.heap.size + 1 ≤ z ∧ z ≠ bx) u.args s := by
  obtain ⟨s, rfl, hs⟩ := h.tt
  exact ⟨s, rfl, hs.mono (fun z hz _ => by have : W.heap.size ≤ z := hz; exact ⟨by omega, by omega⟩)⟩
theorem Grow.stays {w w' : World} {base : Nat} {v : Value} {st : Got} (h : Grow w base v st) (hst : Stays (fun z => base ≤ z) w w') : Grow w' base v st := by
  refine ⟨⟨h.own.1, ?_⟩, fun e he => ((h.ts e he).stays (hst.mono (fun z hz => hz.1)))⟩
  rcases h.own.2 with h0 | ⟨g, cap, cur, rfl, hbg, hblk, r⟩
  · exact Or.inl h0
  · exact Or.inr ⟨g, cap, cur, rfl, hbg, (hst.2 g hbg (Array.getElem?_eq_some_iff.1 hblk).1).trans hblk, r⟩
theorem Box.tt {w W : World} {b bx : Nat} {t : Ty} {s : Value} (h : Box w b bx W t s) : TT W (fun z => w.heap.size + 1 ≤ z ∧ z ≠ bx) t (.agg #[.int .i64 t.kind, s]) := ⟨s, rfl, h.ts⟩
theorem Box.facts {w W : World} {b bx : Nat} {t : Ty} {s : Value} (h : Box w b bx W t s) :
    (W.cell? ⟨bx, 0, none⟩ = some (.int .i64 t.kind) ∧ W.cell? ⟨bx, 1, none⟩ = some s ∧ ∀ i, W.frozen? ⟨bx, i, none⟩ = false) ∧
    W.cell? ⟨w.heap.size, 0, none⟩ = some (.int .i64 0) ∧ W.cell? ⟨w.heap.size, 1, none⟩ = some (.slice none 0 0) ∧ ∀ i, W.frozen? ⟨w.heap.size, i, none⟩ = false :=
  ⟨⟨cell_of_blk h.box 0, cell_of_blk h.box 1, unfrozen_of_blk h.box⟩, cell_of_blk h.rdy.r 0, cell_of_blk h.rdy.r 1, unfrozen_of_blk h.rdy.r⟩
def BentT (b : Nat) (w : World) (e : Ending) (w' : World) : Prop := ∃ v t, e = .returned v ∧ t.nodes ≤ 200 ∧ TT w' (fun z => w.heap.size ≤ z) t v ∧ Cur w' b ∧ w.grownBy w' (some b)
theorem bent_fin {w W : World} {b bx : Nat} {t : Ty} {s : Value} (h : Box w b bx W t s) (hbw : b < w.heap.size) (hn : t.nodes ≤ 200) :
    BentT b w (.returned (.agg #[.int .i64 t.kind, s])) ((W.setCell ⟨w.heap.size, 0, none⟩ (.int .i64 t.kind)).setCell ⟨w.heap.size, 1, none⟩ s) := by
  have hbl : Below w.heap.size W ((W.setCell ⟨w.heap.size, 0, none⟩ (.int .i64 t.kind)).setCell ⟨w.heap.size, 1, none⟩ s) := ((Below.refl _ W).setCell (p := ⟨w.heap.size, 0, none⟩) (Nat.le_refl _) _).setCell (p := ⟨w.heap.size, 1, none⟩) (Nat.le_refl _) _
  exact ⟨_, t, rfl, hn, ⟨s, rfl, (h.ts.stays ((setCell_stays _ _ _ _ _ (by omega)).trans (setCell_stays _ _ _ _ _ (by omega)))).mono (fun z hz _ => by omega)⟩, h.rdy.cur.belowAt hbw hbl, grown_below h.rdy.grown (Nat.le_refl _) hbl⟩

theorem ts_of_row {w : World} {C : Nat → Prop} {base : Nat} {v : Value} {st : Got} (h : w.ownsRow base 26 2 v st.length (ecells st)) (hC : ∀ g, v.ownBlock = some g → C g) (hts : ∀ e ∈ st, TS w C e.1.args e.2) : TS w C (st.map (·.1)) v := by
  rcases h.2 with ⟨rfl, h0⟩ | ⟨g, cap, cur, rfl, hg, hblk, h1, h2, h3, h4⟩
  · obtain rfl := List.eq_nil_of_length_eq_zero h0
    exact .nil _ _
  · by_cases hz : st.length = 0
    · obtain rfl := List.eq_nil_of_length_eq_zero hz
      exact .nil _ _
    · have hlt := (Array.getElem?_eq_some_iff.1 hblk).1
      have hl : (st.map (·.1)).length = st.length := List.length_map _
      have at_ : ∀ j x, (st.map (·.1))[j]? = some x → ∃ hj : j < st.length, x = st[j].1 := fun j x hj => by
        rw [List.getElem?_map, Option.map_eq_some_iff] at hj
        obtain ⟨e, he, rfl⟩ := hj
        obtain ⟨hj, rfl⟩ := List.getElem?_eq_some_iff.1 he
        exact ⟨hj, rfl⟩
      have key := TS.cons (w := w) (C := C) (ts := st.map (·.1)) (b := g) (o := 0) (c := cap) (fun j => (st[j]?.getD (.mk 0 [], .nilIface)).2) (by omega) (by omega) (by unfold maxLen at h2; omega) (hC g rfl) hlt
        (fun j x hj => by
          obtain ⟨hj', rfl⟩ := at_ j x hj
          rw [Nat.zero_add, h.cellAt (j * 2) (by omega), (ecells_at st j hj').1])
        (fun j x hj => by
          obtain ⟨hj', rfl⟩ := at_ j x hj
          rw [Nat.zero_add, h.cellAt (j * 2 + 1) (by omega), (ecells_at st j hj').2, List.getElem?_eq_getElem hj']
          rfl)
        (fun j x hj => by
          obtain ⟨hj', rfl⟩ := at_ j x hj
          rw [List.getElem?_eq_getElem hj']
          exact hts _ (List.getElem_mem hj'))
      rw [hl] at key
      exact key
theorem Grow.app_at {w1 W w' : World} {base bx g cap : Nat} {v s u : Value} {st : Got} {x : Ty} (h : Grow w1 base v st) (hbx : bx = w1.heap.size) (hs : Stays (fun z => base ≤ z) w1 W) (hlt : bx < W.heap.size)
    (hA : Appd W w' base 26 2 v st.length (ecells st) [.int .i64 x.kind, s] g cap) (hx : x.args = []) (hsv : s = .slice none 0 0) :
    TS (w'.setCell ⟨bx, 1, none⟩ u) (fun z => base ≤ z ∧ z ≠ bx) (st.map (·.1) ++ [x]) (.slice (some ⟨g, 0, none⟩) (st.length + 1) cap) := by
  have hgb : g ≠ bx := (hA.kept bx hlt (fun e => by have := (h.own.lt _ e).2; omega)).2
  have hst : Stays (fun z => base ≤ z ∧ v.ownBlock ≠ some z ∧ z < bx) w1 (w'.setCell ⟨bx, 1, none⟩ u) := by
    refine ⟨Nat.le_trans hs.1 (Nat.le_trans hA.size (by simp [World.setCell])), fun z hz hl => ?_⟩
    rw [Below.heap_setCell _ _ _ _ (by show z ≠ bx; omega)]
    exact (hA.kept z (Nat.lt_of_lt_of_le hl hs.1) hz.2.1).1.trans (hs.2 z hz.1 hl)
  have key := ts_of_row (w := w'.setCell ⟨bx, 1, none⟩ u) (C := fun z => base ≤ z ∧ z ≠ bx) (base := base) (v := .slice (some ⟨g, 0, none⟩) (st.length + 1) cap) (st := st ++ [(x, s)]) ?_ ?_ ?_
  · rw [List.map_append] at key
    exact key
  · rw [List.length_append, ecells_snoc]
    refine ⟨hA.own.1, ?_⟩
    rcases hA.own.2 with h0 | ⟨g', cap', cur, hv, hg, hblk, r⟩
    · exact Or.inl h0
    · have : g = g' := by cases hv; rfl
      subst this
      exact Or.inr ⟨g, cap', cur, hv, hg, (Below.heap_setCell _ _ _ _ hgb).trans hblk, r⟩
  · intro g' hg'
    have : g' = g := by simp [Value.ownBlock] at hg'; omega
    subst this
    exact ⟨(hA.own.lt g' hg').1, hgb⟩
  · intro e he
    rcases List.mem_append.1 he with he | he
    · exact (((h.ts e he).mono (C' := fun z => base ≤ z ∧ v.ownBlock ≠ some z ∧ z < bx) (fun z hz hl => ⟨hz.1, hz.2, by omega⟩)).stays hst).mono (fun z hz _ => ⟨hz.1, by omega⟩)
    · simp only [List.mem_singleton] at he
      subst he
      show TS _ _ x.args s
      rw [hx, hsv]
      exact .nil _ _
theorem box_app {w w1 W w' : World} {b bx g cap : Nat} {t : Ty} {v : Value} {st : Got} (h : Box w b bx W t v) (hbw : b < w.heap.size) (hG : Grow w1 (w.heap.size + 1) v st) (hbx : bx = w1.heap.size) (hs : Stays (fun z => w.heap.size + 1 ≤ z) w1 W)
    (hA : Appd W w' (w.heap.size + 1) 26 2 v st.length (ecells st) [.int .i64 1, .slice none 0 0] g cap) (hes : st.map (·.1) = t.args) :
    Box w b bx (w'.setCell ⟨bx, 1, none⟩ (.slice (some ⟨g, 0, none⟩) (st.length + 1) cap)) (.mk t.kind (t.args ++ [.mk 1 []])) (.slice (some ⟨g, 0, none⟩) (st.length + 1) cap) := by
  have hl := h.lt
  have hblk := (hA.kept bx h.bxlt (fun e => by have := (hG.own.lt _ e).2; omega)).1.trans h.box
  have hr : Rdy w b w' := ⟨h.rdy.cur.belowAt (by omega) hA.below, grown_below h.rdy.grown (by omega) hA.below, (hA.below.block _ (by omega)).trans h.rdy.r⟩
  have ht := hG.app_at (x := .mk 1 []) (u := .slice (some ⟨g, 0, none⟩) (st.length + 1) cap) hbx hs h.bxlt hA rfl rfl
  rw [hes] at ht
  refine ⟨hr.set hbw (by omega), ?_, ht, hl⟩
  rw [Go.Joins.block_setCell hblk _]
  rfl
end Go.Proofs.YtfeijijeohfpgaaGreatDoor
namespace Go.Proofs.YtfeijijeohfpgaaGreatDoor
open Go Go.RowKit

abbrev InBox (w : World) (bx : Nat) : Nat → Prop := fun z => w.heap.size + 1 ≤ z ∧ z ≠ bx
structure BoxM (w : World) (b bx : Nat) (W : World) (t : Tm) (tp : Option Addr) (tc : Nat) (rp : Option Addr) (rc : Nat) (p : Option Addr) (c : Nat) (xs : List Value) : Prop where
  rdy : RdyM w b W
  box : W.heap[bx]? = some (.cells (tmC t tp tc rp rc p c) 29 (0, 0))
  new : NewTm W (w.heap.size + 1) (InBox w bx) t tp tc rp rc p c xs
  lt : w.heap.size + 1 ≤ bx

section
variable {w W W' : World} {b bx : Nat} {t : Tm} {k n : Int} {a o : ByteArray} {ty res : Ty} {ts : List Tm} {tp rp p : Option Addr} {tc rc c : Nat} {xs : List Value}
theorem BoxM.bxlt (h : BoxM w b bx W t tp tc rp rc p c xs) : bx < W.heap.size := (Array.getElem?_eq_some_iff.1 h.box).1
theorem BoxM.step (h : BoxM w b bx W t tp tc rp rc p c xs) (hbw : b < w.heap.size) (hc : Cur W' b) (hg : W.grownBy W' (some b)) : BoxM w b bx W' t tp tc rp rc p c xs :=
  have hl := h.lt
  ⟨h.rdy.step hbw hc hg, (hg.block _ h.bxlt (fun e => by have := Option.some.inj e; omega)).trans h.box, h.new.stays ⟨hg.size, fun z hz hl => hg.block z hl (fun e => by have := Option.some.inj e; omega)⟩, h.lt⟩
theorem BoxM.below (h : BoxM w b bx W t tp tc rp rc p c xs) (hb : Below W.heap.size W W') : BoxM w b bx W' t tp tc rp rc p c xs :=
  ⟨h.rdy.below hb, (hb.block _ h.bxlt).trans h.box, h.new.stays (.of_below hb), h.lt⟩
theorem RdyM.set (h : RdyM w b W) (hbw : b < w.heap.size) (hlt : w.heap.size < bx) (i : Nat) (v : Value) : RdyM w b (W.setCell ⟨bx, i, none⟩ v) := by
  have hb : Below bx W (W.setCell ⟨bx, i, none⟩ v) := (Below.refl _ W).setCell (p := ⟨bx, i, none⟩) (Nat.le_refl _) _
  exact ⟨h.cur.belowAt (by omega) hb, grown_below h.grown (by omega) hb, (hb.block _ hlt).trans h.r⟩
theorem inbox_stays (i : Nat) (v : Value) : Stays (InBox w bx) W (W.setCell ⟨bx, i, none⟩ v) := setCell_stays _ _ _ _ _ (by simp)
theorem BoxM.setName (h : BoxM w b bx W (.mk k a o n ty res ts) tp tc rp rc p c xs) (hbw : b < w.heap.size) (a' : ByteArray) : BoxM w b bx (W.setCell ⟨bx, 1, none⟩ (.string a')) (.mk k a' o n ty res ts) tp tc rp rc p c xs := by
  have hl := h.lt
  have hn := h.new.stays (inbox_stays 1 (.string a'))
  refine ⟨h.rdy.set hbw (by omega) _ _, ?_, ⟨hn.ty, hn.res, hn.row⟩, h.lt⟩
  rw [Go.Joins.block_setCell h.box _]
  rfl
theorem BoxM.setOther (h : BoxM w b bx W (.mk k a o n ty res ts) tp tc rp rc p c xs) (hbw : b < w.heap.size) (a' : ByteArray) : BoxM w b bx (W.setCell ⟨bx, 2, none⟩ (.string a')) (.mk k a a' n ty res ts) tp tc rp rc p c xs := by
  have hl := h.lt
  have hn := h.new.stays (inbox_stays 2 (.string a'))
  refine ⟨h.rdy.set hbw (by omega) _ _, ?_, ⟨hn.ty, hn.res, hn.row⟩, h.lt⟩
  rw [Go.Joins.block_setCell h.box _]
  rfl
theorem BoxM.setKind (h : BoxM w b bx W (.mk k a o n ty res ts) tp tc rp rc p c xs) (hbw : b < w.heap.size) (y : Int) : BoxM w b bx (W.setCell ⟨bx, 0, none⟩ (.int .i64 y)) (.mk y a o n ty res ts) tp tc rp rc p c xs := by
  have hl := h.lt
  have hn := h.new.stays (inbox_stays 0 (.int .i64 y))
  refine ⟨h.rdy.set hbw (by omega) _ _, ?_, ⟨hn.ty, hn.res, hn.row⟩, h.lt⟩
  rw [Go.Joins.block_setCell h.box _]
  rfl
theorem BoxM.setNum (h : BoxM w b bx W (.mk k a o n ty res ts) tp tc rp rc p c xs) (hbw : b < w.heap.size) (y : Int) : BoxM w b bx (W.setCell ⟨bx, 3, none⟩ (.int .i64 y)) (.mk k a o y ty res ts) tp tc rp rc p c xs := by
  have hl := h.lt
  have hn := h.new.stays (inbox_stays 3 (.int .i64 y))
  refine ⟨h.rdy.set hbw (by omega) _ _, ?_, ⟨hn.ty, hn.res, hn.row⟩, h.lt⟩
  rw [Go.Joins.block_setCell h.box _]
  rfl
theorem BoxM.setTy {u : Ty} {q : Option Addr} {d : Nat} (h : BoxM w b bx W (.mk k a o n ty res ts) tp tc rp rc p c xs) (hbw : b < w.heap.size)
    (hu : TS W (fun z => InBox w bx z ∧ (Value.slice p ts.length c).ownBlock ≠ some z) u.args (.slice q u.args.length d)) :
    BoxM w b bx ((W.setCell ⟨bx, 4, none⟩ (.int .i64 u.kind)).setCell ⟨bx, 5, none⟩ (.slice q u.args.length d)) (.mk k a o n u res ts) q d rp rc p c xs := by
  have hl := h.lt
  have st : Stays (InBox w bx) W ((W.setCell ⟨bx, 4, none⟩ (.int .i64 u.kind)).setCell ⟨bx, 5, none⟩ (.slice q u.args.length d)) := (inbox_stays _ _).trans (inbox_stays _ _)
  have hn := h.new.stays st
  refine ⟨(h.rdy.set hbw (by omega) _ _).set hbw (by omega) _ _, ?_, ⟨hu.stays (st.mono (fun _ hz => hz.1)), hn.res, hn.row⟩, h.lt⟩
  rw [Go.Joins.block_setCell (Go.Joins.block_setCell h.box _) _]
  rfl
theorem BoxM.setRes {u : Ty} {q : Option Addr} {d : Nat} (h : BoxM w b bx W (.mk k a o n ty res ts) tp tc rp rc p c xs) (hbw : b < w.heap.size)
    (hu : TS W (fun z => InBox w bx z ∧ (Value.slice p ts.length c).ownBlock ≠ some z) u.args (.slice q u.args.length d)) :
    BoxM w b bx ((W.setCell ⟨bx, 6, none⟩ (.int .i64 u.kind)).setCell ⟨bx, 7, none⟩ (.slice q u.args.length d)) (.mk k a o n ty u ts) tp tc q d p c xs := by
  have hl := h.lt
  have st : Stays (InBox w bx) W ((W.setCell ⟨bx, 6, none⟩ (.int .i64 u.kind)).setCell ⟨bx, 7, none⟩ (.slice q u.args.length d)) := (inbox_stays _ _).trans (inbox_stays _ _)
  have hn := h.new.stays st
  refine ⟨(h.rdy.set hbw (by omega) _ _).set hbw (by omega) _ _, ?_, ⟨hn.ty, hu.stays (st.mono (fun _ hz => hz.1)), hn.row⟩, h.lt⟩
  rw [Go.Joins.block_setCell (Go.Joins.block_setCell h.box _) _]
  rfl
theorem BoxM.app {g cap : Nat} {x : Tm} {us : List Value} (h : BoxM w b bx W (.mk k a o n ty res ts) tp tc rp rc p c xs) (hbw : b < w.heap.size)
    (hA : Appd W W' (w.heap.size + 1) 29 9 (.slice p ts.length c) ts.length xs us g cap) (hx : MS W (fun z => InBox w bx z ∧ (Value.slice p ts.length c).ownBlock ≠ some z) x.ds us) :
    BoxM w b bx (W'.setCell ⟨bx, 8, none⟩ (.slice (some ⟨g, 0, none⟩) (ts.length + 1) cap)) (.mk k a o n ty res (ts ++ [x])) tp tc rp rc (some ⟨g, 0, none⟩) cap (xs ++ us) := by
  have hl := h.lt
  have hob : (Value.slice p ts.length c).ownBlock ≠ some bx := fun e => (h.new.row.blk _ e).2 rfl
  have hkb := hA.kept bx h.bxlt hob
  have hblk := hkb.1.trans h.box
  have hgb : InBox w bx g := ⟨(hA.own.lt g rfl).1, hkb.2⟩
  have hr : RdyM w b W' := ⟨h.rdy.cur.belowAt (by omega) hA.below, grown_below h.rdy.grown (by omega) hA.below, (hA.below.block _ (by omega)).trans h.rdy.r⟩
  have go : ∀ {us : List Ty} {v : Value}, TS W (fun z => InBox w bx z ∧ (Value.slice p ts.length c).ownBlock ≠ some z) us v → TS (W'.setCell ⟨bx, 8, none⟩ (.slice (some ⟨g, 0, none⟩) (ts.length + 1) cap)) (fun z => InBox w bx z ∧ (Value.slice (some ⟨g, 0, none⟩) (ts.length + 1) cap).ownBlock ≠ some z) us v := fun {us v} hd => by
    refine (((hd.mono (C' := fun z => (InBox w bx z ∧ (Value.slice p ts.length c).ownBlock ≠ some z) ∧ z < W.heap.size) (fun _ hz hl => ⟨hz, hl⟩)).stays (w' := W') ⟨hA.size, fun z hz hl => (hA.kept z hl hz.1.2).1⟩).stays (setCell_stays _ _ _ _ _ (fun hz => hz.1.1.2 rfl))).mono (fun z hz _ => ⟨hz.1.1, fun e => ?_⟩)
    have := (hA.kept z hz.2 hz.1.2).2
    simp [Value.ownBlock] at e
    omega
  have hrow := (h.new.row.app hA hgb hx).stays (inbox_stays 8 (.slice (some ⟨g, 0, none⟩) (ts.length + 1) cap))
  have e1 : (ts ++ [x]).length = ts.length + 1 := by simp
  refine ⟨hr.set hbw (by omega) _ _, ?_, ⟨?_, ?_, ?_⟩, h.lt⟩
  · rw [Go.Joins.block_setCell hblk _]
    show _ = some (Obj.cells (tmC (.mk k a o n ty res (ts ++ [x])) tp tc rp rc (some ⟨g, 0, none⟩) cap) _ _)
    simp only [tmC, Tm.args, e1]
    rfl
  · show TS _ (fun z => _ ∧ (Value.slice _ (ts ++ [x]).length _).ownBlock ≠ _) _ _
    rw [e1]; exact go h.new.ty
  · show TS _ (fun z => _ ∧ (Value.slice _ (ts ++ [x]).length _).ownBlock ≠ _) _ _
    rw [e1]; exact go h.new.res
  · show RowM _ _ _ (.slice _ (ts ++ [x]).length _) _ _
    rw [e1]; exact hrow
theorem BoxM.facts (h : BoxM w b bx W (.mk k a o n ty res ts) tp tc rp rc p c xs) :
    (W.cell? ⟨bx, 0, none⟩ = some (.int .i64 k) ∧ W.cell? ⟨bx, 1, none⟩ = some (.string a) ∧ W.cell? ⟨bx, 2, none⟩ = some (.string o) ∧ W.cell? ⟨bx, 3, none⟩ = some (.int .i64 n) ∧ W.cell? ⟨bx, 4, none⟩ = some (.int .i64 ty.kind) ∧ W.cell? ⟨bx, 5, none⟩ = some (.slice tp ty.args.length tc) ∧ W.cell? ⟨bx, 6, none⟩ = some (.int .i64 res.kind) ∧ W.cell? ⟨bx, 7, none⟩ = some (.slice rp res.args.length rc) ∧ W.cell? ⟨bx, 8, none⟩ = some (.slice p ts.length c)) ∧ ∀ i, W.frozen? ⟨bx, i, none⟩ = false :=
  ⟨⟨cell_of_blk h.box 0, cell_of_blk h.box 1, cell_of_blk h.box 2, cell_of_blk h.box 3, cell_of_blk h.box 4, cell_of_blk h.box 5, cell_of_blk h.box 6, cell_of_blk h.box 7, cell_of_blk h.box 8⟩, unfrozen_of_blk h.box⟩
end
def DrawM (m b : Nat) (w : World) (e : Ending) (w' : World) : Prop := ∃ (t : Tm) (tp : Option Addr) (tc : Nat) (rp : Option Addr) (rc : Nat) (p : Option Addr) (c : Nat) (xs : List Value),
  e = .returned (tmV t tp tc rp rc p c) ∧ t.wt ≤ m ∧ NewTm w' w.heap.size (fun z => w.heap.size ≤ z) t tp tc rp rc p c xs ∧ Cur w' b ∧ w.grownBy w' (some b)
theorem BoxM.fin {w W : World} {b bx m : Nat} {t : Tm} {tp rp p : Option Addr} {tc rc c : Nat} {xs : List Value} (h : BoxM w b bx W t tp tc rp rc p c xs) (hbw : b < w.heap.size) (hn : t.wt ≤ m) :
    DrawM m b w (.returned (tmV t tp tc rp rc p c)) (setN W w.heap.size 0 [.int .i64 t.kind, .string t.name, .string t.other, .int .i64 t.n, .int .i64 t.ty.kind, .slice tp t.ty.args.length tc, .int .i64 t.res.kind, .slice rp t.res.args.length rc, .slice p t.args.length c]) :=
  have hf := h.rdy.fin hbw _
  have h1 : NewTm W (w.heap.size + 1) (fun z => w.heap.size + 1 ≤ z) t tp tc rp rc p c xs := h.new.base (Nat.le_refl _) (fun _ hz _ => hz.1)
  ⟨t, tp, tc, rp, rc, p, c, xs, rfl, hn, (h1.stays hf.2.2).base (by omega) (fun z hz _ => by have : w.heap.size + 1 ≤ z := hz; omega), hf.1, hf.2.1⟩
end Go.Proofs.YtfeijijeohfpgaaGreatDoor
