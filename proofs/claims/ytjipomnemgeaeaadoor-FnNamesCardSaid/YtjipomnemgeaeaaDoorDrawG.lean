/-
  The draws out of a literal and below a bound, told exactly: the cursor's own block alone is written.
-/
import Derived.Test.YtjipomnemgeaeaaDoorDraw
import Derived.Test.YtjipomnemgeaeaaDoorUniteImpl
namespace Go.Proofs.YtjipomnemgeaeaaDoor
open Go Go.RowKit

def GInt (P : Int → Prop) (b : Nat) (w : World) (e : Ending) (w' : World) : Prop := ∃ x : Int, P x ∧ e = .returned (.int .i64 x) ∧ Cur w' b ∧ w.grownBy w' (some b)
def GStr (P : ByteArray → Prop) (b : Nat) (w : World) (e : Ending) (w' : World) : Prop := ∃ x : ByteArray, P x ∧ e = .returned (.string x) ∧ Cur w' b ∧ w.grownBy w' (some b)
theorem cur_alloc {b : Nat} {w : World} (hc : Cur w b) (o : Obj) : Cur (w.alloc o) b := hc.below ((Below.refl _ _).alloc (Nat.le_refl _) _)
theorem pick_litG (L : List ByteArray) (n b : Nat) (w : World) (cs : Array Value) (hn : L.length = n) (h1 : 1 ≤ n) (h2 : n ≤ 1048576) (hcs : cs = (L.map Value.string).toArray) (hc : Cur w b) :
    Calls Tryd.prog 37 #[.pointer (some ⟨b, 0, none⟩), .slice (some ⟨w.heap.size, 0, none⟩) n n] (w.alloc (.cells cs 9)) (GStr (· ∈ L) b w) := by
  subst hn; subst hcs
  have hlt := hc.lt
  refine (pick_any L w.heap.size b _ (by omega) h1 h2 (fun j x hj => ?_) (cur_alloc hc _)).mono ?_
  · rw [World.cell?_alloc_at _ _ _ _ rfl, List.getElem?_toArray, List.getElem?_map, hj]; rfl
  · rintro e w' ⟨x, hx, rfl, hc', hg⟩
    exact ⟨x, hx, rfl, hc', grownBy_trans (World.grownBy_alloc _ _ _) hg⟩
theorem pickInt_litG (L : List Int) (n b : Nat) (w : World) (cs : Array Value) (hn : L.length = n) (h1 : 1 ≤ n) (h2 : n ≤ 1048576) (hcs : cs = (L.map (Value.int .i64)).toArray) (hc : Cur w b) :
    Calls Tryd.prog 33 #[.pointer (some ⟨b, 0, none⟩), .slice (some ⟨w.heap.size, 0, none⟩) n n] (w.alloc (.cells cs 3)) (GInt (· ∈ L) b w) := by
  subst hn; subst hcs
  have hlt := hc.lt
  refine (pickInt_any L w.heap.size b _ (by omega) h1 h2 (fun j x hj => ?_) (cur_alloc hc _)).mono ?_
  · rw [World.cell?_alloc_at _ _ _ _ rfl, List.getElem?_toArray, List.getElem?_map, hj]; rfl
  · rintro e w' ⟨x, hx, rfl, hc', hg⟩
    exact ⟨x, hx, rfl, hc', grownBy_trans (World.grownBy_alloc _ _ _) hg⟩

/-- The bytes that the cursor reads, too, lie below B. -/
theorem grown_below {w w1 w2 : World} {b B : Nat} (h : w.grownBy w1 (some b)) (hB : w.heap.size ≤ B) (hb : Below B w1 w2) : w.grownBy w2 (some b) :=
  ⟨hb.os.trans h.os, hb.tape.trans h.tape, hb.output.trans h.output, Nat.le_trans h.size hb.size, fun k hk hne => (hb.block k (by omega)).trans (h.block k hk hne)⟩

/-- The list is short, and so are its strings. -/
structure Small (xs : List ByteArray) : Prop where
  len : xs.length ≤ 6
  all : ∀ x ∈ xs, x.size ≤ 5
theorem small_nil : Small [] := ⟨by decide, fun x hx => by cases hx⟩

/-- A call that draws a list of strings with the cursor at block b. -/
def GList (b : Nat) (w : World) (e : Ending) (w' : World) : Prop := ∃ v xs, e = .returned v ∧ Small xs ∧ Own w' w.heap.size v xs ∧ Cur w' b ∧ w.grownBy w' (some b)

set_option maxRecDepth 100000 in
set_option maxHeartbeats 2000000 in
theorem list_any (b : Nat) (w : World) (hc : Cur w b) :
    Calls Tryd.prog 29 #[.pointer (some ⟨b, 0, none⟩)] w (GList b w) := by
  have hbw := hc.lt
  have HB0 := Lib.hid (below_any b 6 (w.alloc (.cells #[] 9)) (by decide) (by decide) (cur_alloc hc _))
  have HO0 := Lib.hid (own_empty w)
  clear hc
  go_enter Tryd.func29, Tryd.ntmps29
  go_wp2_with fail
  refine HB0.out.mono ?_
  rintro e w1 ⟨n, hn, rfl, hc1, hg1⟩
  obtain ⟨n0, n6⟩ := hn
  have HO1 := Lib.hid (HO0.out.kept hbw hg1)
  have HG1 := Lib.hid (grownBy_trans (World.grownBy_alloc w (.cells #[] 9) (some b)) hg1)
  have HC1 := Lib.hid hc1
  clear hc1 hg1 HB0 HO0
  go_wp2_with fail
  go_loopw [3, 5] (fun v i wr => ∃ (k : Nat) (xs : List ByteArray), (k : Int) ≤ n ∧ i = .int .i64 k ∧ xs.length = k ∧ Hid (Small xs) ∧ Own wr w.heap.size v xs ∧ Cur wr b ∧ w.grownBy wr (some b)) (fun _ i _ => n.toNat - (intOf i).toNat)
  case atStart => exact ⟨0, [], n0, rfl, rfl, Lib.hid small_nil, HO1.out, HC1.out, HG1.out⟩
  case round =>
    clear HO1 HC1 HG1
    obtain ⟨k, xs, hk, rfl, hxk, HSm, hown, hcur, hgr⟩ := hrel
    have hsz := hgr.size
    have HO := Lib.hid hown
    have HC := Lib.hid hcur
    have HG := Lib.hid hgr
    clear hown hcur hgr
    by_cases hlk : (k : Int) < n
    · go_wp2_with fail
      refine (pick_litG [⟨#[120]⟩, ⟨#[121]⟩, ⟨#[118, 49]⟩, ⟨#[118, 50]⟩, ⟨#[102]⟩, ⟨#[120]⟩] 6 b wr _ rfl (by decide) (by decide) rfl HC.out).mono ?_
      rintro e w2 ⟨x, hx, rfl, hc2, hg2⟩
      have hx5 : x.size ≤ 5 := by
        simp only [List.mem_cons, List.mem_nil_iff, or_false] at hx
        rcases hx with rfl | rfl | rfl | rfl | rfl | rfl <;> decide
      have hsz2 := hg2.size
      have HO2 := Lib.hid (HO.out.kept hbw hg2)
      have HC2 := Lib.hid hc2
      have HG2 := Lib.hid (grownBy_trans HG.out hg2)
      have HSm2 : Hid (Small (xs ++ [x])) := Lib.hid ⟨by rw [List.length_append, hxk, List.length_singleton]; omega, fun y hy => by
        rcases List.mem_append.1 hy with h | h
        · exact HSm.out.all y h
        · rw [List.mem_singleton.1 h]; exact hx5⟩
      clear hc2 hg2 hx
      go_wp2_with (at_builtin; refine wpList_app_str rfl _ _ rfl w.heap.size _ _ rfl HO2.out x rfl (by omega) (by omega) ?_; intro v' w3 hown3 hb3; go_frame)
      have HO3 := Lib.hid hown3
      have HC3 : Hid (Cur w3 b) := Lib.hid (HC2.out.belowAt (by omega) hb3)
      have HG3 := Lib.hid (grown_below HG2.out (Nat.le_refl _) hb3)
      clear hown3 hb3
      go_roundw
      case rel => exact ⟨k + 1, xs ++ [x], by omega, by go_num, by rw [List.length_append, hxk]; rfl, HSm2, HO3.out, HC3.out, HG3.out⟩
      case measure => simp [intOf]; omega
    · go_wp2_with fail
      go_ret
      exact ⟨_, xs, rfl, HSm.out, HO.out, HC.out, HG.out⟩
end Go.Proofs.YtjipomnemgeaeaaDoor
