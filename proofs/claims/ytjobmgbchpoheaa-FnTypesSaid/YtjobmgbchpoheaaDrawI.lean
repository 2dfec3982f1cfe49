/-
  The contracts of the draws below a bound, of one pick, of the cursor's making.
-/
import Derived.Test.YtjobmgbchpoheaaCur
namespace Go.Proofs.Ytjobmgbchpoheaa
open Go Go.RowKit

def DrawRet (P : Int → Prop) (b : Nat) (w : World) (e : Ending) (w' : World) : Prop := ∃ x : Int, P x ∧ e = .returned (.int .i64 x) ∧ Cur w' b ∧ w.grownBy w' (some b)
theorem draw_ret {P : Int → Prop} {b : Nat} {w w' : World} {x : Int} (h : P x) (hc : Cur w' b) (hg : w.grownBy w' (some b)) : DrawRet P b w (.returned (.int .i64 x)) w' := ⟨x, h, rfl, hc, hg⟩

set_option maxRecDepth 100000 in
set_option maxHeartbeats 1000000 in
theorem below_small (b : Nat) (n : Int) (w : World) (h1 : 1 ≤ n) (h2 : n ≤ 256) (hc : Cur w b) :
    Calls Try.prog 52 #[.pointer (some ⟨b, 0, none⟩), .int .i64 n] w (DrawRet (fun x => 0 ≤ x ∧ x < n) b w) := by
  have HC := Lib.hid (byte_any b w hc)
  clear hc
  go_enter Try.func52, Try.ntmps52
  go_wp2_with fail
  refine HC.out.mono ?_
  rintro e w1 ⟨x, rfl, hx0, hx1, hc1, hg1⟩
  have HC1 := Lib.hid hc1
  have HG1 := Lib.hid hg1
  clear hc1 hg1
  go_wp2_with fail
  go_ret
  exact draw_ret ⟨Int.emod_nonneg _ (by omega), Int.emod_lt_of_pos _ (by omega)⟩ HC1.out HG1.out

set_option maxRecDepth 100000 in
set_option maxHeartbeats 1000000 in
theorem below_big (b : Nat) (n : Int) (w : World) (h1 : 256 < n) (h2 : n ≤ 9223372036854775807) (hc : Cur w b) :
    Calls Try.prog 52 #[.pointer (some ⟨b, 0, none⟩), .int .i64 n] w (DrawRet (fun x => 0 ≤ x ∧ x < n) b w) := by
  have HC := Lib.hid (byte_any b w hc)
  clear hc
  go_enter Try.func52, Try.ntmps52
  go_wp2_with fail
  refine HC.out.mono ?_
  rintro e w1 ⟨x, rfl, hx0, hx1, hc1, hg1⟩
  have HC1 := Lib.hid (byte_any b w1 hc1)
  have HG1 := Lib.hid hg1
  clear hc1 hg1
  go_wp2_with fail
  refine HC1.out.mono ?_
  rintro e w2 ⟨y, rfl, hy0, hy1, hc2, hg2⟩
  have HC2 := Lib.hid (byte_any b w2 hc2)
  have HG2 := Lib.hid (grownBy_trans HG1.out hg2)
  clear hc2 hg2
  go_wp2_with fail
  refine HC2.out.mono ?_
  rintro e w3 ⟨z, rfl, hz0, hz1, hc3, hg3⟩
  have HC3 := Lib.hid (byte_any b w3 hc3)
  have HG3 := Lib.hid (grownBy_trans HG2.out hg3)
  clear hc3 hg3
  go_wp2_with fail
  refine HC3.out.mono ?_
  rintro e w4 ⟨u, rfl, hu0, hu1, hc4, hg4⟩
  have HC4 := Lib.hid hc4
  have HG4 := Lib.hid (grownBy_trans HG3.out hg4)
  clear hc4 hg4
  go_wp2_with fail
  go_ret
  exact draw_ret ⟨Int.emod_nonneg _ (by omega), Int.emod_lt_of_pos _ (by omega)⟩ HC4.out HG4.out

/-- A DRAW BELOW n. -/
theorem below_any (b : Nat) (n : Int) (w : World) (h1 : 1 ≤ n) (h2 : n ≤ 9223372036854775807) (hc : Cur w b) :
    Calls Try.prog 52 #[.pointer (some ⟨b, 0, none⟩), .int .i64 n] w (DrawRet (fun x => 0 ≤ x ∧ x < n) b w) := by
  by_cases h : n ≤ 256
  · exact below_small b n w h1 h hc
  · exact below_big b n w (by omega) h2 hc

set_option maxRecDepth 100000 in
set_option maxHeartbeats 1000000 in
theorem pickInt_any (xs : List Int) (lb b : Nat) (w : World) (hne : lb ≠ b) (h1 : 1 ≤ xs.length) (h2 : xs.length ≤ 1048576) (hcell : ∀ j x, xs[j]? = some x → w.cell? ⟨lb, j, none⟩ = some (.int .i64 x)) (hc : Cur w b) :
    Calls Try.prog 58 #[.pointer (some ⟨b, 0, none⟩), .slice (some ⟨lb, 0, none⟩) xs.length xs.length] w (DrawRet (· ∈ xs) b w) := by
  have HC := Lib.hid (below_any b xs.length w (by omega) (by omega) hc)
  have HX := Lib.hid hcell
  clear hc hcell
  go_enter Try.func58, Try.ntmps58
  go_wp2_with fail
  refine HC.out.mono ?_
  rintro e w1 ⟨x, hx, rfl, hc1, hg1⟩
  obtain ⟨k, rfl⟩ := Int.eq_ofNat_of_zero_le hx.1
  have hk : k < xs.length := by omega
  have cell : w1.cell? ⟨lb, k, none⟩ = some (.int .i64 xs[k]) := hg1.cell (HX.out k _ (List.getElem?_eq_getElem hk)) (fun e => hne (Option.some.inj e))
  have HC1 := Lib.hid hc1
  have HG1 := Lib.hid hg1
  clear hc1 hg1 hx
  go_wp2_with fail
  go_ret
  exact draw_ret (List.getElem_mem hk) HC1.out HG1.out

def NewRet (w : World) (e : Ending) (w' : World) : Prop := e = .returned (.pointer (some ⟨w.heap.size, 0, none⟩)) ∧ Cur w' w.heap.size ∧ Below w.heap.size w w' ∧ w'.heap.size = w.heap.size + 1
theorem code_of (w : World) (cb co len cap : Nat) (hcb : cb < w.heap.size) (hl : len ≤ 9223372036854775807) (hcell : ∀ j, j < len → ∃ n : Int, 0 ≤ n ∧ n ≤ 255 ∧ w.cell? ⟨cb, co + j, none⟩ = some (.int .u8 n)) :
    CodeAt w w.heap.size (.slice (some ⟨cb, co, none⟩) len cap) len := Or.inr ⟨cb, co, cap, rfl, by omega, hl, hcell⟩
theorem new_ret {w : World} {v : Value} {len : Nat} (H : Int) (hc : CodeAt w w.heap.size v len) :
    NewRet w (.returned (.pointer (some ⟨w.heap.size, 0, none⟩))) (w.alloc (.cells #[v, .int .i64 0, .int .i64 H] 71)) := by
  have hb : Below w.heap.size w (w.alloc (.cells #[v, .int .i64 0, .int .i64 H] 71)) := (Below.refl _ _).alloc (Nat.le_refl _) _
  refine ⟨rfl, ⟨v, len, 0, H, heap_alloc_new w _, ?_, Nat.zero_le _⟩, hb, by simp⟩
  rcases hc with hc | ⟨cb, co, cap, rfl, h1, h2, h3⟩
  · exact Or.inl hc
  · refine Or.inr ⟨cb, co, cap, rfl, h1, h2, fun j hj => ?_⟩
    obtain ⟨n, h4, h5, h6⟩ := h3 j hj
    exact ⟨n, h4, h5, (hb.cell (p := ⟨cb, co + j, none⟩) (World.block_lt_of_cell? w _ h6)).trans h6⟩

set_option maxRecDepth 100000 in
set_option maxHeartbeats 1000000 in
theorem new_some (cb co len cap : Nat) (w : World) (hcb : cb < w.heap.size) (hlen : len ≤ 1048576) (hcell : ∀ j, j < len → ∃ n : Int, 0 ≤ n ∧ n ≤ 255 ∧ w.cell? ⟨cb, co + j, none⟩ = some (.int .u8 n)) :
    Calls Try.prog 26 #[.slice (some ⟨cb, co, none⟩) len cap] w (NewRet w) := by
  have ha := and30
  have HX := Lib.hid hcell
  clear hcell
  go_enter Try.func26, Try.ntmps26
  go_wp2_with fail
  go_loop [3, 4] (fun h i => ∃ (k : Nat) (H : Int), k ≤ len ∧ i = .int .i64 k ∧ h = .int .i64 H ∧ 0 ≤ H ∧ H ≤ 1073741824) (fun _ i => len - (intOf i).toNat)
  case atStart => exact ⟨0, _, Nat.zero_le _, rfl, rfl, by omega, by omega⟩
  case round =>
    obtain ⟨k, H, hk, rfl, rfl, hH0, hH1⟩ := hrel
    by_cases hlk : k < len
    · obtain ⟨n, hn0, hn1, hcell⟩ := HX.out k hlk
      by_cases h4 : (k : Int) < 4000
      · go_wp2_with fail
        go_round
        case rel => exact ⟨k + 1, _, by omega, by go_num, rfl, by omega, by omega⟩
        case measure => simp [intOf]; omega
      · have HK := Lib.hid (new_ret H (code_of w cb co len cap hcb (by omega) HX.out))
        clear hcell
        go_wp2_with fail
        go_ret
        exact HK.out
    · have HK := Lib.hid (new_ret H (code_of w cb co len cap hcb (by omega) HX.out))
      go_wp2_with fail
      go_ret
      exact HK.out

set_option maxRecDepth 100000 in
set_option maxHeartbeats 1000000 in
theorem new_nil (a : Option Addr) (cap : Nat) (w : World) : Calls Try.prog 26 #[.slice a 0 cap] w (NewRet w) := by
  have HK := Lib.hid (new_ret (w := w) 26583 (Or.inl ⟨⟨a, cap, rfl⟩, rfl⟩))
  go_enter Try.func26, Try.ntmps26
  go_wp2_with fail
  go_loop [3, 4] (fun h i => h = .int .i64 26583 ∧ i = .int .i64 0) (fun _ _ => 0)
  case atStart => exact ⟨rfl, rfl⟩
  case round =>
    obtain ⟨rfl, rfl⟩ := hrel
    go_wp2_with fail
    go_ret
    exact HK.out

/-- A draw's bytes: nil, or a slice of bytes that can be read. -/
def Bytes (w : World) (v : Value) : Prop :=
  (∃ a cap, v = .slice a 0 cap) ∨ ∃ cb co len cap, v = .slice (some ⟨cb, co, none⟩) len cap ∧ cb < w.heap.size ∧ len ≤ 9223372036854775807 ∧ ∀ j, j < len → ∃ n : Int, 0 ≤ n ∧ n ≤ 255 ∧ w.cell? ⟨cb, co + j, none⟩ = some (.int .u8 n)
def sliceLen : Value → Nat
  | .slice _ n _ => n
  | _ => 0
/-- THE CURSOR IS MADE. -/
theorem new_any (v : Value) (w : World) (hv : Bytes w v) (hlen : sliceLen v ≤ 1048576) : Calls Try.prog 26 #[v] w (NewRet w) := by
  rcases hv with ⟨a, cap, rfl⟩ | ⟨cb, co, len, cap, rfl, hcb, _, hcell⟩
  · exact new_nil a cap w
  · exact new_some cb co len cap w hcb hlen hcell
theorem Bytes.below {w w' : World} {v : Value} (h : Bytes w v) (hb : Below w.heap.size w w') : Bytes w' v := by
  rcases h with ⟨a, cap, rfl⟩ | ⟨cb, co, len, cap, rfl, hcb, hl, hcell⟩
  · exact Or.inl ⟨a, cap, rfl⟩
  · refine Or.inr ⟨cb, co, len, cap, rfl, Nat.lt_of_lt_of_le hcb hb.size, hl, fun j hj => ?_⟩
    obtain ⟨n, h0, h1, h2⟩ := hcell j hj
    exact ⟨n, h0, h1, (hb.cell (p := ⟨cb, co + j, none⟩) hcb).trans h2⟩
theorem Cur.lt {w : World} {b : Nat} (h : Cur w b) : b < w.heap.size := by
  obtain ⟨v, len, i, x, hw, _⟩ := h
  rcases Nat.lt_or_ge b w.heap.size with h' | h'
  · exact h'
  · rw [Array.getElem?_eq_none h'] at hw; cases hw
theorem CodeAt.below {w w' : World} {b : Nat} {v : Value} {len : Nat} (h : CodeAt w b v len) (hb : Below w.heap.size w w') : CodeAt w' b v len := by
  rcases h with h | ⟨cb, co, cap, rfl, h1, h2, h3⟩
  · exact Or.inl h
  · refine Or.inr ⟨cb, co, cap, rfl, h1, h2, fun j hj => ?_⟩
    obtain ⟨n, h4, h5, h6⟩ := h3 j hj
    exact ⟨n, h4, h5, (hb.cell (p := ⟨cb, co + j, none⟩) (World.block_lt_of_cell? w _ h6)).trans h6⟩
theorem Cur.belowAt {w w' : World} {b B : Nat} (h : Cur w b) (hB : b < B) (hb : Below B w w') : Cur w' b := by
  obtain ⟨v, len, i, x, hw, hc, hi⟩ := h
  refine ⟨v, len, i, x, (hb.block b hB).trans hw, ?_, hi⟩
  rcases hc with hc | ⟨cb, co, cap, rfl, h1, h2, h3⟩
  · exact Or.inl hc
  · refine Or.inr ⟨cb, co, cap, rfl, h1, h2, fun j hj => ?_⟩
    obtain ⟨n, h4, h5, h6⟩ := h3 j hj
    exact ⟨n, h4, h5, (hb.cell (p := ⟨cb, co + j, none⟩) (Nat.lt_trans h1 hB)).trans h6⟩
theorem Cur.below {w w' : World} {b : Nat} (h : Cur w b) (hb : Below w.heap.size w w') : Cur w' b := by
  have hlt := h.lt
  obtain ⟨v, len, i, x, hw, hc, hi⟩ := h
  exact ⟨v, len, i, x, (hb.block b hlt).trans hw, hc.below hb, hi⟩
/-- What a draw leaves: the cursor, and all that lay below it. -/
def Left (b : Nat) (w w' : World) : Prop := Cur w' b ∧ Below b w w'
theorem left_of {b : Nat} {w w' : World} (hc : Cur w' b) (hg : w.grownBy w' (some b)) (hb : b < w.heap.size) : Left b w w' :=
  ⟨hc, (Below.refl b w).grown hg (Nat.le_of_lt hb) (fun k h => by cases h; exact Nat.le_refl _)⟩
theorem Left.trans {b : Nat} {w w1 w2 : World} (h : Left b w w1) (k : Left b w1 w2) : Left b w w2 := ⟨k.1, h.2.trans k.2⟩
theorem left_alloc {b : Nat} {w : World} (hc : Cur w b) (o : Obj) : Left b w (w.alloc o) :=
  ⟨hc.below ((Below.refl _ _).alloc (Nat.le_refl _) _), (Below.refl b w).alloc (Nat.le_of_lt hc.lt) _⟩

def DrawsInt (P : Int → Prop) (b : Nat) (w : World) (e : Ending) (w' : World) : Prop := ∃ x : Int, P x ∧ e = .returned (.int .i64 x) ∧ Left b w w'
theorem pickInt_lit (L : List Int) (n b : Nat) (w : World) (cs : Array Value) (hn : L.length = n) (h1 : 1 ≤ n) (h2 : n ≤ 1048576) (hcs : cs = (L.map (Value.int .i64)).toArray) (hc : Cur w b) :
    Calls Try.prog 58 #[.pointer (some ⟨b, 0, none⟩), .slice (some ⟨w.heap.size, 0, none⟩) n n] (w.alloc (.cells cs 3)) (DrawsInt (· ∈ L) b w) := by
  subst hn; subst hcs
  have hl := left_alloc hc (.cells (L.map (Value.int .i64)).toArray 3)
  have hlt := hc.lt
  refine (pickInt_any L w.heap.size b _ (by omega) h1 h2 (fun j x hj => ?_) hl.1).mono ?_
  · rw [World.cell?_alloc_at _ _ _ _ rfl, List.getElem?_toArray, List.getElem?_map, hj]; rfl
  · rintro e w' ⟨x, hx, rfl, hc', hg⟩
    exact ⟨x, hx, rfl, hl.trans (left_of hc' hg hl.1.lt)⟩
theorem below_left (b : Nat) (n : Int) (w : World) (h1 : 1 ≤ n) (h2 : n ≤ 9223372036854775807) (hc : Cur w b) :
    Calls Try.prog 52 #[.pointer (some ⟨b, 0, none⟩), .int .i64 n] w (DrawsInt (fun x => 0 ≤ x ∧ x < n) b w) := by
  refine (below_any b n w h1 h2 hc).mono ?_
  rintro e w' ⟨x, hx, rfl, hc', hg⟩
  exact ⟨x, hx, rfl, left_of hc' hg hc.lt⟩
#print axioms new_any
#print axioms pickInt_any
end Go.Proofs.Ytjobmgbchpoheaa

