/-
  Several texts of the proof in one (each says below what it holds): CxRow Reduce Apply IsName SpecTy SpecTy2 SpecTy3 CxP CxLastS.
-/
import Derived.Test.YteoeefmdfalnjaaSc3
import Derived.Test.YteoeefmdfalnjaaSc1
import Derived.Test.YteoeefmdfalnjaaSc4
import Derived.Test.YteoeefmdfalnjaaSc2
import Derived.Test.YteoeefmdfalnjaaProg
import Derived.WalkSmall
import Derived.Laws.RangeAny
import Derived.LoopTactic
/- CxRow: A row of typings of the call's own that grows. -/
namespace Go.Proofs.Yteoeefmdfalnjaa
open Go Go.RowKit

theorem infoCx : (Try.prog.info? 43).map (fun i => (i.zero, i.size, i.bytes)) = some (some (.agg #[.string ⟨#[]⟩, .int .i64 0, .slice none 0 0, .int .i64 0]), 4, 56) := by kernel_rfl
theorem RowCx.mono {w : World} {base : Nat} {C C' : Nat → Prop} {L : List Tg} {v : Value} {xs : List Value} (h : RowCx w base C L v xs) (hC : ∀ z, C z → C' z) : RowCx w base C' L v xs := ⟨h.own, fun j x hj => (h.cells j x hj).mono (fun z hz _ => hC z hz)⟩
/-- While what is safe is gathered. -/
structure SafeI (w : World) (L' : List Tg) (v : Value) (us : List Value) (D : Nat → Prop) (W : World) : Prop where
  below : Below w.heap.size w W
  row : RowCx W w.heap.size D L' v us
  dom : ∀ z, D z → w.heap.size ≤ z ∧ z < W.heap.size ∧ v.ownBlock ≠ some z
theorem SafeI.keep {w W W' : World} {L' : List Tg} {v : Value} {us : List Value} {D : Nat → Prop} (h : SafeI w L' v us D W) (hb : Below W.heap.size W W') : SafeI w L' v us D W' :=
  ⟨h.below.trans (hb.mono h.below.size), h.row.keep (.of_below hb) (fun g hg => hb.block g (h.row.own.lt g hg).2), fun z hz => ⟨(h.dom z hz).1, Nat.lt_of_lt_of_le (h.dom z hz).2.1 hb.size, (h.dom z hz).2.2⟩⟩
theorem SafeI.app {w W w1 w2 : World} {L' : List Tg} {v : Value} {us cs : List Value} {D : Nat → Prop} {x : Tg} {g cap : Nat} (h : SafeI w L' v us D W) (hb : Below W.heap.size W w1) (hA : Appd w1 w2 w.heap.size 43 4 v L'.length us cs g cap) (hx : TgV w1 (fun z => W.heap.size ≤ z ∧ z < w1.heap.size) x cs) :
    SafeI w (L' ++ [x]) (.slice (some ⟨g, 0, none⟩) (L'.length + 1) cap) (us ++ cs) (fun z => D z ∨ (W.heap.size ≤ z ∧ z < w1.heap.size)) w2 := by
  have h1 := h.keep hb
  have l1 := h.below.size
  obtain ⟨hr, hc⟩ := (h1.row.mono (C' := fun z => D z ∨ (W.heap.size ≤ z ∧ z < w1.heap.size)) (fun z hz => Or.inl hz)).app hA (hx.mono (fun z hz _ => Or.inr hz)) (fun z hz => by
    rcases hz with hz | hz
    · exact ⟨(h1.dom z hz).2.1, (h1.dom z hz).2.2⟩
    · exact ⟨hz.2, fun e => by have := (h.row.own.lt z e).2; omega⟩)
  refine ⟨h1.below.trans hA.below, hr, fun z hz => ⟨?_, (hc z hz).1, (hc z hz).2⟩⟩
  rcases hz with hz | hz
  · exact (h.dom z hz).1
  · omega
end Go.Proofs.Yteoeefmdfalnjaa
/- Reduce: The contracts of Reduce, the program's and the model's: the remainder from 0 up to the modulus. -/
namespace Go.Proofs.Yteoeefmdfalnjaa
open Go Go.RowKit

theorem tmod_cases (n : Int) : n.tmod 10007 = n % 10007 ∧ 0 ≤ n ∨ n.tmod 10007 = -((-n) % 10007) ∧ n < 0 := by
  by_cases h : 0 ≤ n
  · exact Or.inl ⟨Int.tmod_eq_emod_of_nonneg h, h⟩
  · refine Or.inr ⟨?_, by omega⟩
    have e : n = -(-n) := by omega
    rw [e, Int.neg_tmod, Int.tmod_eq_emod_of_nonneg (by omega)]
    simp
theorem red_I (n : Int) : (wrap64 (n.tmod 10007 + 10007)).tmod 10007 = n % 10007 := by
  have hw : wrap64 (n.tmod 10007 + 10007) = n.tmod 10007 + 10007 := by
    rcases tmod_cases n with ⟨h, _⟩ | ⟨h, _⟩ <;> · rw [h]; unfold wrap64; omega
  rw [hw, Int.tmod_eq_emod_of_nonneg (by rcases tmod_cases n with ⟨h, _⟩ | ⟨h, _⟩ <;> omega)]
  rcases tmod_cases n with ⟨h, _⟩ | ⟨h, _⟩ <;> omega
theorem red_S (n : Int) (h : n.tmod 10007 < 0) : wrap64 (n.tmod 10007 + 10007) = n % 10007 := by
  have hw : wrap64 (n.tmod 10007 + 10007) = n.tmod 10007 + 10007 := by
    rcases tmod_cases n with ⟨h, _⟩ | ⟨h, _⟩ <;> · rw [h]; unfold wrap64; omega
  rw [hw]
  rcases tmod_cases n with ⟨h, _⟩ | ⟨h, _⟩ <;> omega
theorem red_S0 (n : Int) (h : 0 ≤ n.tmod 10007) : n.tmod 10007 = n % 10007 := by
  rcases tmod_cases n with ⟨h, _⟩ | ⟨h, _⟩ <;> omega
theorem ret_int {a b : Int} (h : a = b) : Ending.returned (.int .i64 a) = Ending.returned (.int .i64 b) := by rw [h]

end Go.Proofs.Yteoeefmdfalnjaa
/- Apply: The contracts of ApplyOp, the program's and the model's, and the walk of the law on it. -/
namespace Go.Proofs.Yteoeefmdfalnjaa
open Go Go.RowKit

def bit (x : Bool) : Int := if x then 1 else 0
/-- What an operation gives at two numbers of the language. -/
def apOp (op : ByteArray) (a b : Int) : Int × Bool :=
  if op.toList == [43] then ((a + b) % 10007, true)
  else if op.toList == [45] then ((a - b) % 10007, true)
  else if op.toList == [42] then ((a * b) % 10007, true)
  else if op.toList == [61] then (bit (a == b), true)
  else if op.toList == [60] then (bit (decide (a < b)), true)
  else if op.toList == [38] then (bit (a == 1 && b == 1), true)
  else if op.toList == [124] then (bit (a == 1 || b == 1), true)
  else if op.toList == [33] then (bit (a == 0), true)
  else (0, false)
def ap (op : ByteArray) (a b : Int) : Int × Bool := if 0 ≤ a ∧ a < 10007 ∧ 0 ≤ b ∧ b < 10007 then apOp op a b else (0, false)
def pairOf (p : Int × Bool) : Value := .tuple #[.int .i64 p.1, .bool p.2]

theorem in_any (n lo hi : Int) (w : World) : Calls Try.prog 17 #[.int .i64 n, .int .i64 lo, .int .i64 hi] w fun e w' => e = .returned (.bool (decide (lo ≤ n ∧ n ≤ hi))) ∧ w' = w := by
  obtain ⟨r, hr⟩ : ∃ r, r = decide (lo ≤ n ∧ n ≤ hi) := ⟨_, rfl⟩
  rw [← hr]
  by_cases h : lo ≤ n
  · have e : decide (n ≤ hi) = r := by rw [hr]; simp [h]
    have t : decide (lo ≤ n) = true := by simpa using h
    have E := Lib.hid e
    clear e hr
    go_enter Try.func17, Try.ntmps17
    go_wp2
    go_ret
    exact ⟨by rw [← E.out]; rfl, rfl⟩
  · have e : false = r := by rw [hr]; simp [h]
    have t : decide (lo ≤ n) = false := by simpa using h
    subst e
    clear hr
    go_enter Try.func17, Try.ntmps17
    go_wp2
    go_ret
    exact ⟨rfl, rfl⟩

/-- One of the numbers of the language. -/
def Num (a : Int) : Prop := 0 ≤ a ∧ a < 10007
theorem mul_in {a b : Int} (ha : 0 ≤ a) (ha1 : a < 10007) (hb : 0 ≤ b) (hb1 : b < 10007) : wrap64 (a * b) = a * b := by
  have h1 := Int.mul_nonneg ha hb
  have h2 := Int.mul_le_mul (show a ≤ 10006 by omega) (show b ≤ 10006 by omega) hb (by decide)
  unfold wrap64
  omega

theorem in_num (a : Int) (w : World) (h : Num a) : Calls Try.prog 17 #[.int .i64 a, .int .i64 0, .int .i64 10006] w fun e w' => e = .returned (.bool true) ∧ w' = w := by
  have h1 := in_any a 0 10006 w
  rw [show decide (0 ≤ a ∧ a ≤ 10006) = true from decide_eq_true ⟨h.1, by have := h.2; omega⟩] at h1
  exact h1
theorem in_not (a : Int) (w : World) (h : ¬ Num a) : Calls Try.prog 17 #[.int .i64 a, .int .i64 0, .int .i64 10006] w fun e w' => e = .returned (.bool false) ∧ w' = w := by
  have h1 := in_any a 0 10006 w
  rw [show decide (0 ≤ a ∧ a ≤ 10006) = false from decide_eq_false (fun hc => h ⟨hc.1, by have := hc.2; omega⟩)] at h1
  exact h1

end Go.Proofs.Yteoeefmdfalnjaa
/- IsName: The contracts of IsName, the program's and the model's, and the walk of the law on it. -/
namespace Go.Proofs.Yteoeefmdfalnjaa
open Go Go.RowKit

/-- The k-th byte may stand there in a name. -/
def okAt (s : ByteArray) (k : Nat) : Prop := ∀ h : k < s.size, (97 ≤ (s[k]'h).toNat ∧ (s[k]'h).toNat ≤ 122) ∨ (1 ≤ k ∧ 48 ≤ (s[k]'h).toNat ∧ (s[k]'h).toNat ≤ 57)
def Res (s : ByteArray) : Prop := s.toList = [105, 102] ∨ s.toList = [108, 101, 116] ∨ s.toList = [108, 105, 102, 116] ∨ s.toList = [114, 101, 99] ∨ s.toList = [114, 117, 110]
structure Nm (s : ByteArray) : Prop where
  ok : ∀ k, okAt s k
  lo : 1 ≤ s.size
  hi : s.size ≤ 4
  free : ¬ Res s
def Tells (p : Prop) (w : World) (e : Ending) (w' : World) : Prop := ∃ r : Bool, (r = true ↔ p) ∧ e = .returned (.bool r) ∧ Below w.heap.size w w'
theorem tells_no {p : Prop} (h : ¬ p) : (false = true ↔ p) := ⟨fun hc => (by cases hc), fun hp => absurd hp h⟩
theorem tells_yes {p : Prop} (h : p) : (true = true ↔ p) := ⟨fun _ => h, fun _ => rfl⟩
theorem lst {a b : List UInt8} (h : (a == b) = true) : a = b := by simpa using h
theorem nlst {a b : List UInt8} (h : (a == b) = false) : a ≠ b := by simpa using h

set_option maxHeartbeats 400000 in
theorem res_any (s : ByteArray) (w : World) : Calls Try.prog 35 #[.string s] w (Tells (Res s) w) := by
  go_enter Try.func35, Try.ntmps35
  go_wp2
  all_goals
    go_ret
    first
    | exact ⟨true, tells_yes (by unfold Res; simp_all), rfl, Below.refl _ _⟩
    | exact ⟨false, tells_no (by unfold Res; simp_all), rfl, Below.refl _ _⟩

theorem res_0 {s : ByteArray} (h : s.toList = [105, 102]) : (s.toList == [105, 102]) = true ∧ (s.toList == [108, 101, 116]) = false ∧ (s.toList == [108, 105, 102, 116]) = false ∧ (s.toList == [114, 101, 99]) = false ∧ (s.toList == [114, 117, 110]) = false := by rw [h]; exact ⟨rfl, rfl, rfl, rfl, rfl⟩
theorem res_1 {s : ByteArray} (h : s.toList = [108, 101, 116]) : (s.toList == [105, 102]) = false ∧ (s.toList == [108, 101, 116]) = true ∧ (s.toList == [108, 105, 102, 116]) = false ∧ (s.toList == [114, 101, 99]) = false ∧ (s.toList == [114, 117, 110]) = false := by rw [h]; exact ⟨rfl, rfl, rfl, rfl, rfl⟩
theorem res_2 {s : ByteArray} (h : s.toList = [108, 105, 102, 116]) : (s.toList == [105, 102]) = false ∧ (s.toList == [108, 101, 116]) = false ∧ (s.toList == [108, 105, 102, 116]) = true ∧ (s.toList == [114, 101, 99]) = false ∧ (s.toList == [114, 117, 110]) = false := by rw [h]; exact ⟨rfl, rfl, rfl, rfl, rfl⟩
theorem res_3 {s : ByteArray} (h : s.toList = [114, 101, 99]) : (s.toList == [105, 102]) = false ∧ (s.toList == [108, 101, 116]) = false ∧ (s.toList == [108, 105, 102, 116]) = false ∧ (s.toList == [114, 101, 99]) = true ∧ (s.toList == [114, 117, 110]) = false := by rw [h]; exact ⟨rfl, rfl, rfl, rfl, rfl⟩
theorem res_4 {s : ByteArray} (h : s.toList = [114, 117, 110]) : (s.toList == [105, 102]) = false ∧ (s.toList == [108, 101, 116]) = false ∧ (s.toList == [108, 105, 102, 116]) = false ∧ (s.toList == [114, 101, 99]) = false ∧ (s.toList == [114, 117, 110]) = true := by rw [h]; exact ⟨rfl, rfl, rfl, rfl, rfl⟩
theorem res_no {s : ByteArray} (h : ¬ Res s) : (s.toList == [105, 102]) = false ∧ (s.toList == [108, 101, 116]) = false ∧ (s.toList == [108, 105, 102, 116]) = false ∧ (s.toList == [114, 101, 99]) = false ∧ (s.toList == [114, 117, 110]) = false := by
  unfold Res at h
  simp only [not_or] at h
  exact ⟨by simpa using h.1, by simpa using h.2.1, by simpa using h.2.2.1, by simpa using h.2.2.2.1, by simpa using h.2.2.2.2⟩
theorem at_zero {k : Nat} (h : k = 0) : ((k : Int) == 0) = true := by rw [h]; rfl
theorem at_more {k : Nat} (h : 1 ≤ k) : ((k : Int) == 0) = false := by rw [beq_eq_false_iff_ne]; omega
theorem ok_letter {s : ByteArray} {k : Nat} {hk : k < s.size} (h1 : 97 ≤ (s[k]'hk).toNat) (h2 : (s[k]'hk).toNat ≤ 122) : okAt s k := fun _ => Or.inl ⟨h1, h2⟩
theorem ok_digit {s : ByteArray} {k : Nat} {hk : k < s.size} (h0 : 1 ≤ k) (h1 : 48 ≤ (s[k]'hk).toNat) (h2 : (s[k]'hk).toNat ≤ 57) : okAt s k := fun _ => Or.inr ⟨h0, h1, h2⟩
theorem ok_bad {s : ByteArray} {k : Nat} {hk : k < s.size} (h1 : (s[k]'hk).toNat < 97 ∨ 122 < (s[k]'hk).toNat) (h2 : k = 0 ∨ (s[k]'hk).toNat < 48 ∨ 57 < (s[k]'hk).toNat) : ¬ Nm s := fun h => by
  have := h.ok k hk
  omega
theorem ok_next {s : ByteArray} {k : Nat} (h : ∀ j, j < k → okAt s j) (h1 : okAt s k) : ∀ j, j < k + 1 → okAt s j := fun j hj => by
  by_cases e : j = k
  · rw [e]; exact h1
  · exact h j (by omega)
theorem ok_end {s : ByteArray} {k : Nat} (h : ∀ j, j < k → okAt s j) (hk : s.size ≤ k) : ∀ j, okAt s j := fun j => by
  by_cases e : j < k
  · exact h j e
  · exact fun hj => absurd hj (by omega)

set_option maxRecDepth 100000 in
set_option maxHeartbeats 1000000 in
theorem nmS_any (s : ByteArray) (w : World) (hs : s.size ≤ 9223372036854775807) : Calls Try.prog 15 #[.string s] w (Tells (Nm s) w) := by
  go_enter Try.func15, Try.ntmps15
  go_wp2_with fail
  go_loop [3] (fun i => ∃ k : Nat, k ≤ s.size ∧ i = .int .i64 k ∧ Hid (∀ j, j < k → okAt s j)) (fun i => s.size - (intOf i).toNat)
  case atStart => exact ⟨0, Nat.zero_le _, rfl, Lib.hid (fun j hj => absurd hj (Nat.not_lt_zero j))⟩
  case round =>
    obtain ⟨k, hk, rfl, HK⟩ := hrel
    by_cases hlk : k < s.size
    · by_cases hlet : 97 ≤ s[k].toNat ∧ s[k].toNat ≤ 122
      · obtain ⟨l1, l2⟩ := hlet
        have HN := Lib.hid (ok_next HK.out (ok_letter l1 l2))
        go_wp2_with fail
        go_round
        case rel => exact ⟨k + 1, by omega, by go_num, HN⟩
        case measure => simp [intOf]; omega
      · by_cases hdig : 1 ≤ k ∧ 48 ≤ s[k].toNat ∧ s[k].toNat ≤ 57
        · obtain ⟨d0, d1, d2⟩ := hdig
          have HN := Lib.hid (ok_next HK.out (ok_digit d0 d1 d2))
          have t := at_more d0
          clear hlet
          go_wp2_with fail
          go_round
          case rel => exact ⟨k + 1, by omega, by go_num, HN⟩
          case measure => simp [intOf]; omega
        · have HN := Lib.hid (ok_bad (s := s) (k := k) (hk := hlk) (by omega) (by omega))
          rcases (show s[k].toNat < 97 ∨ 122 < s[k].toNat by omega) with b1 | b1
          all_goals rcases (show k = 0 ∨ (1 ≤ k ∧ s[k].toNat < 48) ∨ (1 ≤ k ∧ 57 < s[k].toNat) by omega) with b2 | ⟨b2, b3⟩ | ⟨b2, b3⟩
          all_goals clear hdig hlet
          · subst b2
            have t2 : decide ((97 : Int) ≤ (s[0].toNat : Int)) = false := by simp; omega
            go_wp2_with fail
            go_ret
            exact ⟨false, tells_no HN.out, rfl, Below.refl _ _⟩
          · have t := at_more b2
            have t2 : decide ((97 : Int) ≤ (s[k].toNat : Int)) = false := by simp; omega
            go_wp2_with fail
            go_ret
            exact ⟨false, tells_no HN.out, rfl, Below.refl _ _⟩
          · have t := at_more b2
            have t2 : decide ((97 : Int) ≤ (s[k].toNat : Int)) = false := by simp; omega
            go_wp2_with fail
            go_ret
            exact ⟨false, tells_no HN.out, rfl, Below.refl _ _⟩
          · subst b2
            have t2 : decide ((s[0].toNat : Int) ≤ 122) = false := by simp; omega
            go_wp2_with fail
            go_ret
            exact ⟨false, tells_no HN.out, rfl, Below.refl _ _⟩
          · exfalso; omega
          · have t := at_more b2
            have t2 : decide ((s[k].toNat : Int) ≤ 122) = false := by simp; omega
            go_wp2_with fail
            go_ret
            exact ⟨false, tells_no HN.out, rfl, Below.refl _ _⟩
    · obtain rfl : k = s.size := by omega
      have HN := Lib.hid (ok_end HK.out (Nat.le_refl _))
      go_wp2_with fail
      refine (in_any _ _ _ _).mono ?_
      rintro e w1 ⟨rfl, rfl⟩
      by_cases hsz : 1 ≤ s.size ∧ s.size ≤ 4
      · have t : decide (1 ≤ (s.size : Int) ∧ (s.size : Int) ≤ 4) = true := decide_eq_true (by omega)
        rw [t]
        clear t
        by_cases hres : Res s
        · have HX := Lib.hid (show ¬ Nm s from fun h => h.free hres)
          rcases hres with h | h | h | h | h
          · obtain ⟨t1, t2, t3, t4, t5⟩ := res_0 h
            clear h
            go_wp2_with fail
            go_ret
            exact ⟨false, tells_no HX.out, rfl, Below.refl _ _⟩
          · obtain ⟨t1, t2, t3, t4, t5⟩ := res_1 h
            clear h
            go_wp2_with fail
            go_ret
            exact ⟨false, tells_no HX.out, rfl, Below.refl _ _⟩
          · obtain ⟨t1, t2, t3, t4, t5⟩ := res_2 h
            clear h
            go_wp2_with fail
            go_ret
            exact ⟨false, tells_no HX.out, rfl, Below.refl _ _⟩
          · obtain ⟨t1, t2, t3, t4, t5⟩ := res_3 h
            clear h
            go_wp2_with fail
            go_ret
            exact ⟨false, tells_no HX.out, rfl, Below.refl _ _⟩
          · obtain ⟨t1, t2, t3, t4, t5⟩ := res_4 h
            clear h
            go_wp2_with fail
            go_ret
            exact ⟨false, tells_no HX.out, rfl, Below.refl _ _⟩
        · have HX := Lib.hid (show Nm s from ⟨HN.out, hsz.1, hsz.2, hres⟩)
          obtain ⟨t1, t2, t3, t4, t5⟩ := res_no hres
          clear hres
          go_wp2_with fail
          go_ret
          exact ⟨true, tells_yes HX.out, rfl, Below.refl _ _⟩
      · have t : decide (1 ≤ (s.size : Int) ∧ (s.size : Int) ≤ 4) = false := decide_eq_false (by omega)
        rw [t]
        clear t
        have HZ := Lib.hid (show ¬ Nm s from fun h => hsz ⟨h.lo, h.hi⟩)
        clear hsz
        go_wp2_with fail
        go_ret
        exact ⟨false, tells_no HZ.out, rfl, Below.refl _ _⟩
end Go.Proofs.Yteoeefmdfalnjaa
/- SpecTy: The contracts of the model's SizeOfType, DepthOfType, l3Form, l3Left, l3Has: what they answer at a type in memory. -/
namespace Go.Proofs.Yteoeefmdfalnjaa
open Go Go.RowKit

end Go.Proofs.Yteoeefmdfalnjaa
/- SpecTy2: The contracts of the model's DepthOfType, l3Form, l3Left, l3Has: what they answer at a type in memory. -/
namespace Go.Proofs.Yteoeefmdfalnjaa
open Go Go.RowKit


set_option maxRecDepth 100000 in
theorem max_any (a b : Int) (w : World) : Calls Try.prog 46 #[.int .i64 a, .int .i64 b] w fun e w' => e = .returned (.int .i64 (max a b)) ∧ w' = w := by
  go_enter Try.func46, Try.ntmps46
  by_cases h : b < a
  · go_wp2
    go_ret
    exact ⟨congrArg (fun z => Ending.returned (.int .i64 z)) (Int.max_eq_left (by omega)).symm, rfl⟩
  · go_wp2
    go_ret
    exact ⟨congrArg (fun z => Ending.returned (.int .i64 z)) (Int.max_eq_right (by omega)).symm, rfl⟩

theorem form_false {q : Int} {ts : List Ty} {k : Nat} (h : k < ts.length) (hf : ts[k].form = false) : (Ty.mk q ts).form = false := by
  have e : formS ts = false := by
    rw [← List.take_append_drop (k + 1) ts, formS_append, take_next h, formS_append]
    simp [formS, hf]
  simp [Ty.form, e]
theorem has_true {q u : Int} {ts : List Ty} {k : Nat} (h : k < ts.length) (hf : ts[k].has u = true) : (Ty.mk q ts).has u = true := by
  have e : hasS u ts = true := by
    rw [← List.take_append_drop (k + 1) ts, hasS_append, take_next h, hasS_append]
    simp [hasS, hf]
  simp [Ty.has, e]
theorem form_kind {q : Int} {ts : List Ty} {b : Bool} (h : formS ts = true) (hb : b = (if q = 1 ∨ q = 2 then ts.length == 0 else if q = 3 then ts.length == 2 else q == 4 && ts.length == 1)) : b = (Ty.mk q ts).form := by
  rw [Ty.form, h, hb, Bool.true_and]
theorem beq_0 (n : Nat) : ((n : Int) == 0) = (n == 0) := by rw [Bool.eq_iff_iff]; simp only [beq_iff_eq]; omega
theorem beq_decide (a b : Nat) : (a == b) = decide (a = b) := by rw [Bool.eq_iff_iff]; simp
theorem beq_1 (n : Nat) : ((n : Int) == 1) = (n == 1) := by rw [Bool.eq_iff_iff]; simp only [beq_iff_eq]; omega
theorem beq_2 (n : Nat) : ((n : Int) == 2) = (n == 2) := by rw [Bool.eq_iff_iff]; simp only [beq_iff_eq]; omega

/-- What is left of a bound behind n nodes; below 0: there were more. -/
def LeftEnds (left : Int) (n : Nat) (r : Int) : Prop := (0 ≤ r ∧ r + n = left) ∨ (r < 0 ∧ -1 ≤ r ∧ left < n) ∨ (r = -1 ∧ left = -1)
theorem LeftEnds.range {left : Int} {n : Nat} {r : Int} (h : LeftEnds left n r) (hl : -1 ≤ left) : -1 ≤ r ∧ r ≤ left := by
  unfold LeftEnds at h
  omega
theorem leftEnds_start {left : Int} (h : 0 ≤ left) : LeftEnds (left - 1) (nodesS ([] : List Ty)) (left - 1) := by
  unfold LeftEnds; simp only [nodesS]; omega
theorem LeftEnds.stop {left L : Int} {ts : List Ty} {k : Nat} (h : LeftEnds (left - 1) (nodesS (ts.take k)) L) (hn : L < 0) (_ : nodesS (ts.take (k + 1)) ≤ nodesS ts) : LeftEnds left (1 + nodesS ts) L := by
  have := nodesS_take_le ts k
  unfold LeftEnds at *; omega
theorem LeftEnds.next {left L r : Int} {n m : Nat} (h : LeftEnds (left - 1) n L) (hr : LeftEnds L m r) (h0 : 0 ≤ L) : LeftEnds (left - 1) (n + m) r := by
  unfold LeftEnds at *; omega
theorem LeftEnds.full {left L : Int} {n : Nat} (h : LeftEnds (left - 1) n L) : LeftEnds left (1 + n) L := by
  unfold LeftEnds at *; omega

set_option maxRecDepth 100000 in
set_option maxHeartbeats 1000000 in
theorem depth_any {w0 : World} {C : Nat → Prop} {ts : List Ty} {v : Value} (h : TS w0 C ts v) : ∀ (w : World) (q : Int), Stays C w0 w → nodesS ts ≤ 2097152 → Calls Try.prog 32 #[.agg #[.int .i64 q, v]] w (IntRet (fun r => r = ((1 + depthS ts : Nat) : Int)) w) := by
  refine TS.ind (motive := fun ts v => ∀ (w : World) (q : Int), Stays C w0 w → nodesS ts ≤ 2097152 → Calls Try.prog 32 #[.agg #[.int .i64 q, v]] w (IntRet (fun r => r = ((1 + depthS ts : Nat) : Int)) w)) ?_ h
  intro ts p c hl H w q hst hn
  have HH := Lib.hid H
  have HST := Lib.hid hst
  have hlen := nodesS_ge ts
  clear H hst
  go_enter Try.func32, Try.ntmps32
  go_wp2_with fail
  go_loopw [3, 4] (fun n i wr => ∃ (k : Nat), k ≤ ts.length ∧ i = .int .i64 k ∧ n = .int .i64 ((depthS (ts.take k) : Nat) : Int) ∧ Below (w.alloc (.cells #[.int .i64 q, .slice p ts.length c] 41)).heap.size (w.alloc (.cells #[.int .i64 q, .slice p ts.length c] 41)) wr) (fun _ i _ => ts.length - (intOf i).toNat)
  case atStart => exact ⟨0, Nat.zero_le _, rfl, by simp [depthS], Below.refl _ _⟩
  case round =>
    obtain ⟨k, hk, rfl, rfl, hbr⟩ := hrel
    have HB := Lib.hid hbr
    obtain ⟨d0, d1⟩ := box2 hbr
    clear hbr
    by_cases hlk : k < ts.length
    · obtain ⟨b, o, p', c', rfl, hcs, hT, hI⟩ := HH.out k _ (List.getElem?_eq_getElem hlk)
      have hsr := HST.out.trans (Stays.of_below (C := C) (below_box HB.out))
      obtain ⟨c1, c2⟩ := hcs wr hsr
      have n1 := nodesS_take_next ts k hlk
      have n2 := nodesS_take_le ts (k + 1)
      have n3 := ts[k].nodes_eq
      have m1 := depthS_at ts k hlk
      have m2 := depthS_take_next ts k hlk
      have m3 := depth_at ts[k]
      have b1 : depthS (ts.take k) ≤ 2097152 := by omega
      have b2 : 1 + depthS ts[k].args ≤ 2097152 := by omega
      have HM2 := Lib.hid m2
      have HM3 := Lib.hid m3
      clear m1 m2 m3
      have HC := Lib.hid (hI wr ts[k].kind hsr (by omega))
      have HN1 := Lib.hid n1
      have HN2 := Lib.hid n2
      have HN3 := Lib.hid n3
      clear hcs hT hI hsr n1 n2 n3
      go_wp2_with fail
      refine HC.out.mono ?_
      rintro e w1 ⟨r, hr, rfl, hb1⟩
      have HB1 := Lib.hid (HB.out.trans (hb1.mono HB.out.size))
      clear hb1
      subst hr
      go_wp2_with fail
      refine (max_any _ _ _).mono ?_
      rintro e w2 ⟨rfl, rfl⟩
      go_wp2_with fail
      go_roundw
      case rel => exact ⟨k + 1, by omega, by go_num, by have h1 := HM2.out; have h2 := HM3.out; rw [h1, h2]; go_num, HB1.out⟩
      case measure => simp [intOf]; omega
    · obtain rfl : k = ts.length := by omega
      rw [List.take_length]
      have b3 := depthS_nodes ts
      go_wp2_with fail
      go_ret
      exact ⟨_, rfl, by go_num, below_box HB.out⟩

set_option maxRecDepth 100000 in
set_option maxHeartbeats 1000000 in
theorem form_any {w0 : World} {C : Nat → Prop} {ts : List Ty} {v : Value} (h : TS w0 C ts v) : ∀ (w : World) (q : Int), Stays C w0 w → nodesS ts ≤ 2097152 → Calls Try.prog 33 #[.agg #[.int .i64 q, v]] w (BoolRet (fun r => r = (Ty.mk q ts).form) w) := by
  refine TS.ind (motive := fun ts v => ∀ (w : World) (q : Int), Stays C w0 w → nodesS ts ≤ 2097152 → Calls Try.prog 33 #[.agg #[.int .i64 q, v]] w (BoolRet (fun r => r = (Ty.mk q ts).form) w)) ?_ h
  intro ts p c hl H w q hst hn
  have HH := Lib.hid H
  have HST := Lib.hid hst
  have hlen := nodesS_ge ts
  clear H hst
  go_enter Try.func33, Try.ntmps33
  go_wp2_with fail
  go_loopw [3] (fun i wr => ∃ (k : Nat), k ≤ ts.length ∧ i = .int .i64 k ∧ formS (ts.take k) = true ∧ Below (w.alloc (.cells #[.int .i64 q, .slice p ts.length c] 41)).heap.size (w.alloc (.cells #[.int .i64 q, .slice p ts.length c] 41)) wr) (fun i _ => ts.length - (intOf i).toNat)
  case atStart => exact ⟨0, Nat.zero_le _, rfl, by simp [formS], Below.refl _ _⟩
  case round =>
    obtain ⟨k, hk, rfl, hfm, hbr⟩ := hrel
    have HB := Lib.hid hbr
    obtain ⟨d0, d1⟩ := box2 hbr
    clear hbr
    by_cases hlk : k < ts.length
    · obtain ⟨b, o, p', c', rfl, hcs, hT, hI⟩ := HH.out k _ (List.getElem?_eq_getElem hlk)
      have hsr := HST.out.trans (Stays.of_below (C := C) (below_box HB.out))
      obtain ⟨c1, c2⟩ := hcs wr hsr
      have n1 := nodesS_take_next ts k hlk
      have n2 := nodesS_take_le ts (k + 1)
      have n3 := ts[k].nodes_eq
      have HM := Lib.hid hfm
      clear hfm
      have HC := Lib.hid (hI wr ts[k].kind hsr (by omega))
      have HN1 := Lib.hid n1
      have HN2 := Lib.hid n2
      have HN3 := Lib.hid n3
      clear hcs hT hI hsr n1 n2 n3
      go_wp2_with fail
      refine HC.out.mono ?_
      rintro e w1 ⟨r, hr, rfl, hb1⟩
      have HB1 := Lib.hid (HB.out.trans (hb1.mono HB.out.size))
      clear hb1
      have HR := Lib.hid hr
      clear hr
      cases r with
      | true =>
        go_wp2_with fail
        go_roundw
        case rel => exact ⟨k + 1, by omega, by go_num, by rw [take_next hlk, formS_append, HM.out]; simpa [formS, ← Ty.eta] using HR.out.symm, HB1.out⟩
        case measure => simp [intOf]; omega
      | false =>
        go_wp2_with fail
        go_ret
        exact ⟨false, (form_false hlk (by rw [Ty.eta ts[k]]; exact HR.out.symm)).symm, rfl, below_box HB1.out⟩
    · obtain rfl : k = ts.length := by omega
      rw [List.take_length] at hfm
      have HM := Lib.hid hfm
      clear hfm
      by_cases q1 : q = 1
      · subst q1
        go_wp2_with fail
        go_ret
        exact ⟨_, form_kind HM.out (by simp [beq_0]), rfl, below_box HB.out⟩
      by_cases q2 : q = 2
      · subst q2
        go_wp2_with fail
        go_ret
        exact ⟨_, form_kind HM.out (by simp [beq_0]), rfl, below_box HB.out⟩
      by_cases q3 : q = 3
      · subst q3
        go_wp2_with fail
        go_ret
        exact ⟨_, form_kind HM.out (by simp [beq_2]), rfl, below_box HB.out⟩
      by_cases q4 : q = 4
      · subst q4
        go_wp2_with fail
        go_ret
        exact ⟨_, form_kind HM.out (by simp [beq_1]), rfl, below_box HB.out⟩
      go_wp2_with fail
      go_ret
      exact ⟨_, form_kind HM.out (by simp [q1, q2, q3, q4]), rfl, below_box HB.out⟩

set_option maxRecDepth 100000 in
set_option maxHeartbeats 1000000 in
theorem left_any {w0 : World} {C : Nat → Prop} {ts : List Ty} {v : Value} (h : TS w0 C ts v) : ∀ (w : World) (q : Int) (left : Int), Stays C w0 w → nodesS ts ≤ 2097152 → 0 ≤ left → left ≤ 2097152 → Calls Try.prog 31 #[.agg #[.int .i64 q, v], .int .i64 left] w (IntRet (LeftEnds left (1 + nodesS ts)) w) := by
  refine TS.ind (motive := fun ts v => ∀ (w : World) (q : Int) (left : Int), Stays C w0 w → nodesS ts ≤ 2097152 → 0 ≤ left → left ≤ 2097152 → Calls Try.prog 31 #[.agg #[.int .i64 q, v], .int .i64 left] w (IntRet (LeftEnds left (1 + nodesS ts)) w)) ?_ h
  intro ts p c hl H w q left hst hn h0 hL
  have HH := Lib.hid H
  have HST := Lib.hid hst
  have hlen := nodesS_ge ts
  clear H hst
  go_enter Try.func31, Try.ntmps31
  go_wp2_with fail
  go_loopw [1, 5] (fun l i wr => ∃ (k : Nat) (L : Int), k ≤ ts.length ∧ i = .int .i64 k ∧ l = .int .i64 L ∧ LeftEnds (left - 1) (nodesS (ts.take k)) L ∧ Below (w.alloc (.cells #[.int .i64 q, .slice p ts.length c] 41)).heap.size (w.alloc (.cells #[.int .i64 q, .slice p ts.length c] 41)) wr) (fun _ i _ => ts.length - (intOf i).toNat)
  case atStart => exact ⟨0, _, Nat.zero_le _, rfl, rfl, leftEnds_start h0, Below.refl _ _⟩
  case round =>
    obtain ⟨k, L, hk, rfl, rfl, hle, hbr⟩ := hrel
    have HB := Lib.hid hbr
    obtain ⟨d0, d1⟩ := box2 hbr
    clear hbr
    by_cases hlk : k < ts.length
    · obtain ⟨b, o, p', c', rfl, hcs, hT, hI⟩ := HH.out k _ (List.getElem?_eq_getElem hlk)
      have hsr := HST.out.trans (Stays.of_below (C := C) (below_box HB.out))
      obtain ⟨c1, c2⟩ := hcs wr hsr
      have n1 := nodesS_take_next ts k hlk
      have n2 := nodesS_take_le ts (k + 1)
      have n3 := ts[k].nodes_eq
      have HM := Lib.hid hle
      have hLr := hle.range (by omega)
      clear hle
      by_cases hneg : L < 0
      · clear hcs hT hI hsr n1 n3
        go_wp2_with fail
        go_ret
        exact ⟨_, HM.out.stop hneg n2, rfl, below_box HB.out⟩
      have HC := Lib.hid (hI wr ts[k].kind L hsr (by omega) (by omega) (by omega))
      have HN1 := Lib.hid n1
      have HN2 := Lib.hid n2
      have HN3 := Lib.hid n3
      clear hcs hT hI hsr n1 n2 n3
      go_wp2_with fail
      refine HC.out.mono ?_
      rintro e w1 ⟨r, hr, rfl, hb1⟩
      have HB1 := Lib.hid (HB.out.trans (hb1.mono HB.out.size))
      clear hb1
      have hr2 := hr.range (by omega)
      have HR := Lib.hid hr
      clear hr
      go_wp2_with fail
      go_roundw
      case rel => exact ⟨k + 1, r, by omega, by go_num, rfl, by rw [HN1.out, HN3.out]; exact HM.out.next HR.out (by omega), HB1.out⟩
      case measure => simp [intOf]; omega
    · obtain rfl : k = ts.length := by omega
      rw [List.take_length] at hle
      have HM := Lib.hid hle
      have hLr := hle.range (by omega)
      clear hle
      go_wp2_with fail
      go_ret
      exact ⟨_, HM.out.full, rfl, below_box HB.out⟩

end Go.Proofs.Yteoeefmdfalnjaa
/- SpecTy3: The contracts of the model's IsValidType, IsBase, IsPlainType. -/
namespace Go.Proofs.Yteoeefmdfalnjaa
open Go Go.RowKit

def Ty.valid (t : Ty) : Bool := decide (t.nodes ≤ 30) && decide (t.depth ≤ 8) && t.form
def Ty.base (t : Ty) : Bool := decide ((t.kind = 1 ∨ t.kind = 2) ∧ t.args.length = 0)
def Ty.plain (t : Ty) : Bool := t.valid && !t.has 4

set_option maxRecDepth 100000 in
set_option maxHeartbeats 1000000 in
theorem valid_any {C : Nat → Prop} {t : Ty} {v : Value} {w : World} (h : TT w C t v) (hn : nodesS t.args ≤ 2097152) :
    Calls Try.prog 16 #[v] w (BoolRet (fun r => r = t.valid) w) := by
  obtain ⟨s, rfl, hS⟩ := h
  obtain ⟨p, c, rfl⟩ := hS.form
  have hb0 := (Below.refl w.heap.size w).alloc (Nat.le_refl _) (Obj.cells #[.int .i64 t.kind, .slice p t.args.length c] 41)
  have HB0 := Lib.hid hb0
  have HL := Lib.hid (left_any hS _ t.kind 30 (.of_below hb0) hn (by omega) (by omega))
  have HD := Lib.hid (fun w' (hw : Below w.heap.size w w') => depth_any hS w' t.kind (.of_below hw) hn)
  have HF := Lib.hid (fun w' (hw : Below w.heap.size w w') => form_any hS w' t.kind (.of_below hw) hn)
  have hdn := depthS_nodes t.args
  clear hS hb0
  have HV := Lib.hid (show t.valid = (decide (1 + nodesS t.args ≤ 30) && decide (1 + depthS t.args ≤ 8) && (Ty.mk t.kind t.args).form) by rw [Ty.valid, Ty.nodes_eq, depth_at, ← Ty.eta])
  go_enter Try.func16, Try.ntmps16
  go_wp2_with fail
  refine HL.out.mono ?_
  rintro e w1 ⟨r, hr, rfl, hb1⟩
  obtain ⟨c0, c1⟩ := box2 hb1
  have HB1 := Lib.hid (HB0.out.trans (hb1.mono HB0.out.size))
  have HR := Lib.hid hr
  have hrr := hr.range (by omega)
  by_cases h0 : 0 ≤ r
  · have hn30 : 1 + nodesS t.args ≤ 30 := by unfold LeftEnds at hr; omega
    clear hr hb1
    go_wp2_with fail
    refine (HD.out w1 HB1.out).mono ?_
    rintro e w2 ⟨d, rfl, rfl, hb2⟩
    have c20 := (hb2.cell (World.block_lt_of_cell? w1 _ c0)).trans c0
    have c21 := (hb2.cell (World.block_lt_of_cell? w1 _ c1)).trans c1
    have HB2 := Lib.hid (HB1.out.trans (hb2.mono HB1.out.size))
    clear hb2 c0 c1
    by_cases h8 : 1 + depthS t.args ≤ 8
    · go_wp2_with fail
      refine (HF.out w2 HB2.out).mono ?_
      rintro e w3 ⟨f, hf, rfl, hb3⟩
      have HB3 := Lib.hid (HB2.out.trans (hb3.mono HB2.out.size))
      have HFF := Lib.hid hf
      clear hf hb3
      go_wp2_with fail
      go_ret
      exact ⟨_, by rw [HV.out, ← HFF.out]; simp [hn30, h8], rfl, HB3.out⟩
    · go_wp2_with fail
      go_ret
      exact ⟨_, by rw [HV.out]; simp [h8], rfl, HB2.out⟩
  · have hn30 : ¬ 1 + nodesS t.args ≤ 30 := by unfold LeftEnds at hr; omega
    clear hr hb1
    go_wp2_with fail
    go_ret
    exact ⟨_, by rw [HV.out]; simp [hn30], rfl, HB1.out⟩

set_option maxRecDepth 100000 in
set_option maxHeartbeats 1000000 in
theorem base_any {C : Nat → Prop} {t : Ty} {v : Value} {w : World} (h : TT w C t v) :
    Calls Try.prog 22 #[v] w (BoolRet (fun r => r = t.base) w) := by
  obtain ⟨s, rfl, hS⟩ := h
  have hlen := hS.len
  obtain ⟨p, c, rfl⟩ := hS.form
  have HB0 := Lib.hid ((Below.refl w.heap.size w).alloc (Nat.le_refl _) (Obj.cells #[.int .i64 t.kind, .slice p t.args.length c] 41))
  have HV := Lib.hid (show t.base = decide ((t.kind = 1 ∨ t.kind = 2) ∧ t.args.length = 0) from rfl)
  clear hS
  go_enter Try.func22, Try.ntmps22
  by_cases h1 : t.kind = 1
  · go_wp2_with fail
    go_ret
    exact ⟨_, by rw [HV.out, beq_0]; simp [h1, beq_decide], rfl, (Below.refl w.heap.size w).alloc (Nat.le_refl _) _⟩
  · by_cases h2 : t.kind = 2
    · go_wp2_with fail
      go_ret
      exact ⟨_, by rw [HV.out, beq_0]; simp [h2, beq_decide], rfl, (Below.refl w.heap.size w).alloc (Nat.le_refl _) _⟩
    · go_wp2_with fail
      go_ret
      exact ⟨_, by rw [HV.out]; simp [h1, h2], rfl, HB0.out⟩

theorem formS_cons (t : Ty) (ts : List Ty) : formS (t :: ts) = true ↔ t.form = true ∧ formS ts = true := by simp [formS]
theorem form_mk (k : Int) (ts : List Ty) : (Ty.mk k ts).form = true ↔ formS ts = true ∧ ((k = 1 ∨ k = 2) ∧ ts.length = 0 ∨ k = 3 ∧ ts.length = 2 ∨ k = 4 ∧ ts.length = 1) := by
  simp only [Ty.form, Bool.and_eq_true]
  refine and_congr Iff.rfl ?_
  split
  · next h => simp only [beq_iff_eq]; omega
  · split
    · next h => simp only [beq_iff_eq]; omega
    · simp only [Bool.and_eq_true, beq_iff_eq]; omega
theorem valid_iff (t : Ty) : t.valid = true ↔ t.nodes ≤ 30 ∧ t.depth ≤ 8 ∧ t.form = true := by simp [Ty.valid, and_assoc]
end Go.Proofs.Yteoeefmdfalnjaa
/- CxP: Contexts, of no program: which typing counts, what may be run, what a proper context is. -/
namespace Go.Proofs.Yteoeefmdfalnjaa
open Go Go.RowKit

/-- The place of the last typing of a name. -/
def lastIx : List Tg → ByteArray → Option Nat
  | [], _ => none
  | x :: L, s => match lastIx L s with
    | some k => some (k + 1)
    | none => if x.nm = s then some 0 else none
theorem lastIx_none (L : List Tg) (s : ByteArray) : lastIx L s = none ↔ ∀ (j : Nat) (x : Tg), L[j]? = some x → ¬ x.nm = s := by
  induction L with
  | nil => simp [lastIx]
  | cons y L ih =>
    unfold lastIx
    constructor
    · intro h j x hj
      cases hL : lastIx L s with
      | some k => rw [hL] at h; cases h
      | none =>
        rw [hL] at h
        cases j with
        | zero =>
          simp only [List.getElem?_cons_zero, Option.some.injEq] at hj
          subst hj
          intro e
          simp [e] at h
        | succ j => exact ih.1 hL j x (by simpa using hj)
    · intro h
      rw [ih.2 (fun j x hj => h (j + 1) x (by simpa using hj))]
      simp [h 0 y rfl]
theorem lastIx_some (L : List Tg) (s : ByteArray) (k : Nat) : lastIx L s = some k ↔ (∃ x : Tg, L[k]? = some x ∧ x.nm = s) ∧ ∀ (j : Nat) (x : Tg), k < j → L[j]? = some x → ¬ x.nm = s := by
  induction L generalizing k with
  | nil => simp [lastIx]
  | cons y L ih =>
    unfold lastIx
    cases hL : lastIx L s with
    | some m =>
      simp only [Option.some.injEq]
      have hm := (ih m).1 hL
      constructor
      · rintro rfl
        refine ⟨by simpa using hm.1, fun j x hj hx => ?_⟩
        obtain ⟨j, rfl⟩ : ∃ i, j = i + 1 := ⟨j - 1, by omega⟩
        exact hm.2 j x (by omega) (by simpa using hx)
      · rintro ⟨⟨x, hx, hxs⟩, h2⟩
        obtain ⟨z, hz, hzs⟩ := hm.1
        rcases Nat.lt_trichotomy (m + 1) k with h | h | h
        · obtain ⟨i, rfl⟩ : ∃ i, k = i + 1 := ⟨k - 1, by omega⟩
          exact absurd hxs (hm.2 i x (by omega) (by simpa using hx))
        · exact h
        · exact absurd hzs (h2 (m + 1) z h (by simpa using hz))
    | none =>
      have hm := (lastIx_none L s).1 hL
      constructor
      · intro h
        by_cases hy : y.nm = s
        · rw [if_pos hy] at h
          obtain rfl := Option.some.inj h
          refine ⟨⟨y, rfl, hy⟩, fun j x hj hx => ?_⟩
          obtain ⟨j, rfl⟩ : ∃ i, j = i + 1 := ⟨j - 1, by omega⟩
          exact hm j x (by simpa using hx)
        · rw [if_neg hy] at h; cases h
      · rintro ⟨⟨x, hx, hxs⟩, h2⟩
        cases k with
        | zero =>
          simp only [List.getElem?_cons_zero, Option.some.injEq] at hx
          subst hx
          rw [if_pos hxs]
        | succ k => exact absurd hxs (hm k x (by simpa using hx))
theorem lastIx_lt {L : List Tg} {s : ByteArray} {k : Nat} (h : lastIx L s = some k) : k < L.length := by
  obtain ⟨⟨x, hx, _⟩, _⟩ := (lastIx_some L s k).1 h
  exact (List.getElem?_eq_some_iff.1 hx).1
theorem lastIx_append (L : List Tg) (y : Tg) (s : ByteArray) : lastIx (L ++ [y]) s = if y.nm = s then some L.length else lastIx L s := by
  by_cases hy : y.nm = s
  · rw [if_pos hy, lastIx_some]
    refine ⟨⟨y, by simp, hy⟩, fun j x hj hx => ?_⟩
    have := (List.getElem?_eq_some_iff.1 hx).1
    simp at this
    omega
  · rw [if_neg hy]
    cases h : lastIx L s with
    | none =>
      rw [lastIx_none]
      intro j x hx
      by_cases hj : j < L.length
      · rw [List.getElem?_append_left hj] at hx
        exact (lastIx_none L s).1 h j x hx
      · have := (List.getElem?_eq_some_iff.1 hx).1
        simp at this
        obtain rfl : j = L.length := by omega
        simp at hx
        exact hx ▸ hy
    | some k =>
      obtain ⟨⟨z, hz, hzs⟩, h2⟩ := (lastIx_some L s k).1 h
      have hk := (List.getElem?_eq_some_iff.1 hz).1
      rw [lastIx_some]
      refine ⟨⟨z, by rw [List.getElem?_append_left hk]; exact hz, hzs⟩, fun j x hj hx => ?_⟩
      by_cases hjl : j < L.length
      · rw [List.getElem?_append_left hjl] at hx
        exact h2 j x hj hx
      · have := (List.getElem?_eq_some_iff.1 hx).1
        simp at this
        obtain rfl : j = L.length := by omega
        simp at hx
        exact hx ▸ hy
/-- What may be run at level n, of the first k typings. -/
def safeUpto (L : List Tg) (n : Int) : Nat → List Tg
  | 0 => []
  | k + 1 => match L[k]? with
    | some x => if x.ty.base = true ∧ x.lv ≤ n ∧ lastIx L x.nm = some k then safeUpto L n k ++ [x] else safeUpto L n k
    | none => safeUpto L n k
def safeL (L : List Tg) (n : Int) : List Tg := safeUpto L n L.length
theorem safeUpto_yes {L : List Tg} {n : Int} {k : Nat} (hk : k < L.length) (h1 : L[k].ty.base = true) (h2 : L[k].lv ≤ n) (h3 : lastIx L L[k].nm = some k) : safeUpto L n (k + 1) = safeUpto L n k ++ [L[k]] := by
  simp [safeUpto, List.getElem?_eq_getElem hk, h1, h2, h3]
theorem safeUpto_no {L : List Tg} {n : Int} {k : Nat} (hk : k < L.length) (h : ¬ (L[k].ty.base = true ∧ L[k].lv ≤ n ∧ lastIx L L[k].nm = some k)) : safeUpto L n (k + 1) = safeUpto L n k := by
  rw [safeUpto, List.getElem?_eq_getElem hk]
  exact if_neg h
theorem safeUpto_len (L : List Tg) (n : Int) (k : Nat) : (safeUpto L n k).length ≤ k := by
  induction k with
  | zero => simp [safeUpto]
  | succ k ih =>
    unfold safeUpto
    split
    · split
      · simp; omega
      · omega
    · omega
theorem safeUpto_mem (L : List Tg) (n : Int) (k : Nat) : ∀ x ∈ safeUpto L n k, x ∈ L := by
  induction k with
  | zero => simp [safeUpto]
  | succ k ih =>
    unfold safeUpto
    split
    · next x hx =>
      split
      · intro y hy
        rcases List.mem_append.1 hy with hy | hy
        · exact ih y hy
        · rw [List.mem_singleton.1 hy]; exact List.mem_of_getElem? hx
      · exact ih
    · exact ih
theorem safeUpto_wt (L : List Tg) (n : Int) (k : Nat) (hk : k ≤ L.length) : wtC (safeUpto L n k) ≤ wtC (L.take k) := by
  induction k with
  | zero => simp [safeUpto, wtC]
  | succ k ih =>
    have hk' : k < L.length := by omega
    have h1 := wtC_take L k hk'
    have h2 := ih (by omega)
    by_cases h : L[k].ty.base = true ∧ L[k].lv ≤ n ∧ lastIx L L[k].nm = some k
    · rw [safeUpto_yes hk' h.1 h.2.1 h.2.2, wtC_append]
      simp only [wtC]
      omega
    · rw [safeUpto_no hk' h]
      omega
theorem safeL_wt (L : List Tg) (n : Int) : wtC (safeL L n) ≤ wtC L := by
  have := safeUpto_wt L n L.length (Nat.le_refl _)
  rwa [List.take_length] at this
/-- A proper typing; a proper context. -/
def Tg.ok (x : Tg) : Prop := Nm x.nm ∧ x.ty.valid = true ∧ 0 ≤ x.lv ∧ x.lv ≤ 2
def isCx (L : List Tg) : Prop := (∀ x ∈ L, x.ok) ∧ L.length ≤ 12
theorem cx_all_next {L : List Tg} {k : Nat} (h : ∀ x ∈ L.take k, x.ok) (hk : k < L.length) (hx : L[k].ok) : ∀ x ∈ L.take (k + 1), x.ok := by
  rw [cx_take_next hk]
  intro x h1
  rcases List.mem_append.1 h1 with h1 | h1
  · exact h x h1
  · rw [List.mem_singleton.1 h1]; exact hx
theorem not_cx_at {L : List Tg} {k : Nat} (hk : k < L.length) (hx : ¬ L[k].ok) : ¬ isCx L := fun h => hx (h.1 _ (List.getElem_mem hk))
end Go.Proofs.Yteoeefmdfalnjaa
/- CxLastS: The contract of the model's l9Last, exactly: the place of the typing that counts, or -1. -/
namespace Go.Proofs.Yteoeefmdfalnjaa
open Go Go.RowKit

def ixInt : Option Nat → Int
  | some k => k
  | none => -1
theorem ix_some {o : Option Nat} {k : Nat} (h : ixInt o = (k : Int)) : o = some k := by
  cases o with
  | none => exact absurd (show (-1 : Int) = (k : Int) from h) (by omega)
  | some m => have h' : (m : Int) = (k : Int) := h; congr 1; omega
set_option maxRecDepth 100000 in
set_option maxHeartbeats 1000000 in
theorem lastS_any {C : Nat → Prop} {L : List Tg} {v : Value} {w : World} (s : ByteArray) (h : DM w C (cxD L) v) (hn : L.length ≤ 2097152) :
    Calls Try.prog 23 #[v, .string s] w (fun e w' => e = .returned (.int .i64 (ixInt (lastIx L s))) ∧ w' = w) := by
  obtain ⟨q, c, rfl⟩ := h.form
  have HP := Lib.hid (fun (j : Nat) (hj : j < L.length) => show ∃ (b o : Nat), q = some ⟨b, o, none⟩ ∧ w.cell? ⟨b, o + j * 4, none⟩ = some (.string L[j].nm) from by
    obtain ⟨b, o, p, c', hq, _, _, hat, _⟩ := cx_part h j hj
    exact ⟨b, o, hq, (hat w (Stays.refl _ _)).nm⟩)
  clear h
  go_enter Try.func23, Try.ntmps23
  go_wp2_with fail
  go_loop [5] (fun i => (i = .int .i64 (-1) ∧ ∀ (j : Nat) (x : Tg), L[j]? = some x → ¬ x.nm = s) ∨ ∃ k : Nat, k < L.length ∧ i = .int .i64 k ∧ ∀ (j : Nat) (x : Tg), k < j → L[j]? = some x → ¬ x.nm = s) (fun i => (intOf i + 1).toNat)
  case atStart =>
    by_cases h0 : L.length = 0
    · refine Or.inl ⟨by simp only [h0]; rfl, fun j x hj => ?_⟩
      have := (List.getElem?_eq_some_iff.1 hj).1
      omega
    · refine Or.inr ⟨L.length - 1, by omega, by congr 1; omega, fun j x hj hx => ?_⟩
      have := (List.getElem?_eq_some_iff.1 hx).1
      omega
  case round =>
    rcases hrel with ⟨rfl, hno⟩ | ⟨k, hk, rfl, hno⟩
    · have HNO := Lib.hid ((lastIx_none L s).2 hno)
      clear hno
      go_wp2_with fail
      go_ret
      exact ⟨by rw [HNO.out]; rfl, rfl⟩
    · obtain ⟨b, o, rfl, c1⟩ := HP.out k hk
      by_cases hx : L[k].nm = s
      · have HNO := Lib.hid ((lastIx_some L s k).2 ⟨⟨L[k], List.getElem?_eq_getElem hk, hx⟩, hno⟩)
        have t := str_yes hx
        clear hx hno
        go_wp2_with fail
        go_ret
        exact ⟨by rw [HNO.out]; rfl, rfl⟩
      · have HNO : Hid (∀ (j : Nat) (x : Tg), k ≤ j → L[j]? = some x → ¬ x.nm = s) := Lib.hid (fun j x hj hxx => by
          by_cases e : j = k
          · subst e
            rw [List.getElem?_eq_getElem hk] at hxx
            rw [← Option.some.inj hxx]; exact hx
          · exact hno j x (by omega) hxx)
        have t := str_no hx
        clear hx hno
        go_wp2_with fail
        go_round
        case rel =>
          by_cases h0 : k = 0
          · subst h0
            exact Or.inl ⟨rfl, fun j x hj => HNO.out j x (Nat.zero_le _) hj⟩
          · exact Or.inr ⟨k - 1, by omega, by congr 1; omega, fun j x hj hx => HNO.out j x (by omega) hx⟩
        case measure => simp [intOf]
#print axioms lastS_any
end Go.Proofs.Yteoeefmdfalnjaa
