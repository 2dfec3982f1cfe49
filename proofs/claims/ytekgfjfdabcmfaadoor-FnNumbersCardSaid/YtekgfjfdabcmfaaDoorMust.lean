/-
  The contract of the program's helper mustParse: it returns the number whose numeral the text is, where that lies within the bounds, and panics with a string otherwise.
-/
import Derived.Test.YtekgfjfdabcmfaaDoorImplFmt
import Derived.Test.YtekgfjfdabcmfaaDoorCatch
import Derived.Shelf.Strconv.ErrVarAll
namespace Go.Proofs.YtekgfjfdabcmfaaDoor
open Go Go.RowKit

theorem gSyn : Tryd.prog.globalNamed "strconv.ErrSyntax" = some 1 := by kernel_rfl
theorem gRan : Tryd.prog.globalNamed "strconv.ErrRange" = some 2 := by kernel_rfl
/-- The library's two errors are errors, whichever. -/
def ErrIs (name : String) (g : Nat) (w : World) : Prop := (∃ tp p, w.var? Tryd.prog name = some #[.iface tp p]) ∧ g < w.heap.size
theorem ErrIs.below {name : String} {g : Nat} {w w' : World} (hg : Tryd.prog.globalNamed name = some g) (h : ErrIs name g w) (hb : Below w.heap.size w w') : ErrIs name g w' := by
  obtain ⟨⟨tp, p, hv⟩, hs⟩ := h
  exact ⟨⟨tp, p, var?_below hb hg hs hv⟩, Nat.lt_of_lt_of_le hs hb.size⟩
/-- What the parsing of integers reads of the library's variables. -/
def Env (w : World) : Prop := Pow w ∧ ErrIs "strconv.ErrSyntax" 1 w ∧ ErrIs "strconv.ErrRange" 2 w
theorem Env.below {w w' : World} (h : Env w) (hb : Below w.heap.size w w') : Env w' := ⟨h.1.below hb, h.2.1.below gSyn hb, h.2.2.below gRan hb⟩

theorem atoi_fails (s : ByteArray) (hlim : s.size ≤ 281474976710656) (w : World) (he : Env w) (hno : ∀ v, Lib.atoiAll s.data.toList ≠ .ok v) :
    Calls Tryd.prog 40 #[.string s] w fun e w' => (∃ (n : Int) (N : Nat), e = .returned (.tuple #[.int .i64 n, .iface 77 (.pointer (some ⟨N, 0, none⟩))])) ∧ Below w.heap.size w w' := by
  cases h : Lib.atoiAll s.data.toList
  · exact absurd h (hno _)
  · obtain ⟨⟨tp, p, hv⟩, _⟩ := he.2.1
    exact (Any.strconv_Atoi_syntax_var Tryd.laysC172 s hlim h tp p w hv).mono fun e w' ⟨N, h1, _, _, h4⟩ => ⟨⟨_, N, h1⟩, h4⟩
  · obtain ⟨⟨tp, p, hv⟩, _⟩ := he.2.2
    exact (Any.strconv_Atoi_range_var Tryd.laysC172 s hlim h tp p w hv).mono fun e w' ⟨N, h1, _, _, h4⟩ => ⟨⟨_, N, h1⟩, h4⟩
theorem atoi_gives (s : ByteArray) (hlim : s.size ≤ 281474976710656) (w : World) (v : Int) (h : Lib.atoiAll s.data.toList = .ok v) :
    Calls Tryd.prog 40 #[.string s] w fun e w' => e = .returned (.tuple #[.int .i64 v, .nilIface]) ∧ Below w.heap.size w w' :=
  (Tryd.strconv_Atoi_ok s (by omega) v h w).mono fun e w' ⟨h1, h2⟩ => ⟨h1, by
    rcases h2 with rfl | ⟨t, rfl⟩
    · exact Below.refl _ _
    · exact Lib.bytesWorld_below _ _ _⟩

set_option maxRecDepth 100000 in
set_option maxHeartbeats 400000 in
theorem must_fails (s : ByteArray) (hlim : s.size ≤ 281474976710656) (lo hi : Int) (w : World) (he : Env w) (hno : ∀ v, Lib.atoiAll s.data.toList ≠ .ok v) : MustDies s lo hi w := by
  unfold MustDies
  have HC := Lib.hid (atoi_fails s hlim w he hno)
  clear he hno hlim
  go_enter Tryd.func29, Tryd.ntmps29
  go_wp2_with fail
  refine HC.out.mono ?_
  rintro e w1 ⟨⟨n, N, rfl⟩, hb1⟩
  go_wp2_with fail
  exact ⟨rfl, ⟨_, rfl⟩, hb1⟩
set_option maxRecDepth 100000 in
set_option maxHeartbeats 400000 in
theorem must_low (s : ByteArray) (hlim : s.size ≤ 281474976710656) (lo hi : Int) (w : World) (_he : Env w) (v : Int) (h : Lib.atoiAll s.data.toList = .ok v) (hlo : v < lo) : MustDies s lo hi w := by
  unfold MustDies
  have HC := Lib.hid (atoi_gives s hlim w v h)
  clear _he h hlim
  go_enter Tryd.func29, Tryd.ntmps29
  go_wp2_with fail
  refine HC.out.mono ?_
  rintro e w1 ⟨rfl, hb1⟩
  go_wp2_with fail
  exact ⟨rfl, ⟨_, rfl⟩, hb1⟩
set_option maxRecDepth 100000 in
set_option maxHeartbeats 400000 in
theorem must_high (s : ByteArray) (hlim : s.size ≤ 281474976710656) (lo hi : Int) (w : World) (_he : Env w) (v : Int) (h : Lib.atoiAll s.data.toList = .ok v) (hlo : ¬ v < lo) (hhi : hi < v) : MustDies s lo hi w := by
  unfold MustDies
  have HC := Lib.hid (atoi_gives s hlim w v h)
  clear _he h hlim
  go_enter Tryd.func29, Tryd.ntmps29
  go_wp2_with fail
  refine HC.out.mono ?_
  rintro e w1 ⟨rfl, hb1⟩
  go_wp2_with fail
  exact ⟨rfl, ⟨_, rfl⟩, hb1⟩
set_option maxRecDepth 100000 in
set_option maxHeartbeats 400000 in
theorem must_ne (s : ByteArray) (hlim : s.size ≤ 281474976710656) (lo hi : Int) (w : World) (he : Env w) (v : Int) (h : Lib.atoiAll s.data.toList = .ok v) (hlo : ¬ v < lo) (hhi : ¬ hi < v) (h0 : -9223372036854775808 ≤ v) (h1 : v ≤ 9223372036854775807) (hne : ¬ Lib.itoa v = s.data.toList) : MustDies s lo hi w := by
  unfold MustDies
  have hbe : (Lib.itoa v == s.toList) = false := by rw [beq_eq_false_iff_ne, Lib.toList_data]; exact hne
  clear hne
  have HC := Lib.hid (atoi_gives s hlim w v h)
  have HE := Lib.hid he.1
  clear he h hlim
  go_enter Tryd.func29, Tryd.ntmps29
  go_wp2_with fail
  refine HC.out.mono ?_
  rintro e w1 ⟨rfl, hb1⟩
  have HF := Lib.hid (implFmt_any v h0 h1 w1 (HE.out.below hb1))
  go_wp2_with fail
  refine HF.out.mono ?_
  rintro e w2 ⟨rfl, hb2⟩
  go_wp2_with fail
  exact ⟨rfl, ⟨_, rfl⟩, hb1.trans (hb2.mono hb1.size)⟩
set_option maxRecDepth 100000 in
set_option maxHeartbeats 400000 in
theorem must_ok (s : ByteArray) (hlim : s.size ≤ 281474976710656) (lo hi : Int) (w : World) (he : Env w) (v : Int) (h : Lib.atoiAll s.data.toList = .ok v) (hlo : ¬ v < lo) (hhi : ¬ hi < v) (h0 : -9223372036854775808 ≤ v) (h1 : v ≤ 9223372036854775807) (hne : Lib.itoa v = s.data.toList) : MustGives s lo hi v w := by
  unfold MustGives
  have hbe : (Lib.itoa v == s.toList) = true := by rw [beq_iff_eq, Lib.toList_data]; exact hne
  clear hne
  have HC := Lib.hid (atoi_gives s hlim w v h)
  have HE := Lib.hid he.1
  clear he h hlim
  go_enter Tryd.func29, Tryd.ntmps29
  go_wp2_with fail
  refine HC.out.mono ?_
  rintro e w1 ⟨rfl, hb1⟩
  have HF := Lib.hid (implFmt_any v h0 h1 w1 (HE.out.below hb1))
  go_wp2_with fail
  refine HF.out.mono ?_
  rintro e w2 ⟨rfl, hb2⟩
  go_wp2_with fail
  go_ret
  exact ⟨rfl, hb1.trans (hb2.mono hb1.size)⟩

theorem atoi_range {l : List UInt8} {v : Int} (h : Lib.atoiAll l = .ok v) : -9223372036854775808 ≤ v ∧ v ≤ 9223372036854775807 := by
  cases l with
  | nil => cases h
  | cons c r =>
    unfold Lib.atoiAll at h
    dsimp only at h
    split at h
    · cases h
    · cases h
    · split at h
      · cases h
      · split at h
        · cases h
        · rename_i u _ h1 h2
          injection h with h
          rw [← h]
          split <;> omega

/-- The helper, at every text: it gives the number back where the text is its numeral. -/
theorem must_yes (s : ByteArray) (hlim : s.size ≤ 281474976710656) (lo hi v : Int) (hlo : -9223372036854775808 ≤ lo) (hhi : hi ≤ 9223372036854775807) (h0 : lo ≤ v) (h1 : v ≤ hi) (hv : Lib.itoa v = s.data.toList) (w : World) (he : Env w) :
    MustGives s lo hi v w :=
  must_ok s hlim lo hi w he v (by rw [← hv]; exact atoi_itoa v (by omega) (by omega)) (by omega) (by omega) (by omega) (by omega) hv
theorem must_no (s : ByteArray) (hlim : s.size ≤ 281474976710656) (lo hi : Int) (hno : ∀ v : Int, lo ≤ v → v ≤ hi → Lib.itoa v ≠ s.data.toList) (w : World) (he : Env w) : MustDies s lo hi w := by
  by_cases hx : ∃ v, Lib.atoiAll s.data.toList = .ok v
  · obtain ⟨v, hv⟩ := hx
    have hr := atoi_range hv
    by_cases h0 : v < lo
    · exact must_low s hlim lo hi w he v hv h0
    · by_cases h1 : hi < v
      · exact must_high s hlim lo hi w he v hv h0 h1
      · exact must_ne s hlim lo hi w he v hv h0 h1 hr.1 hr.2 (hno v (by omega) (by omega))
  · exact must_fails s hlim lo hi w he (fun v hv => hx ⟨v, hv⟩)

/-- How a reader's answer parts. -/
theorem num_cases (lo hi : Int) (l : List UInt8) : (∃ n, Lib.itoa n = l ∧ lo ≤ n ∧ n ≤ hi ∧ numOut lo hi l = .tuple #[.int .i64 n, .bool true]) ∨
    ((∀ n : Int, lo ≤ n → n ≤ hi → Lib.itoa n ≠ l) ∧ numOut lo hi l = .tuple #[.int .i64 0, .bool false]) := by
  by_cases h : ∃ n, Lib.itoa n = l ∧ lo ≤ n ∧ n ≤ hi
  · obtain ⟨n, h0, h1, h2⟩ := h
    exact Or.inl ⟨n, h0, h1, h2, numOut_yes h0 h1 h2⟩
  · have hn : ∀ n : Int, lo ≤ n → n ≤ hi → Lib.itoa n ≠ l := fun n h1 h2 h0 => h ⟨n, h0, h1, h2⟩
    exact Or.inr ⟨hn, numOut_no hn⟩
theorem implNumber_any (s : ByteArray) (hlim : s.size ≤ 281474976710656) (w : World) (he : Env w) :
    Calls Tryd.prog 15 #[.string s] w fun e w' => e = .returned (numOut 0 999999 s.data.toList) ∧ Below w.heap.size w w' := by
  rcases num_cases 0 999999 s.data.toList with ⟨n, h0, h1, h2, e⟩ | ⟨hn, e⟩
  · rw [e]
    exact parseN_ok s n w (fun W hb => must_yes s hlim 0 999999 n (by decide) (by decide) h1 h2 h0 W (he.below hb))
  · rw [e]
    exact parseN_bad s w (fun W hb => must_no s hlim 0 999999 hn W (he.below hb))
theorem implInt_any (s : ByteArray) (hlim : s.size ≤ 281474976710656) (w : World) (he : Env w) :
    Calls Tryd.prog 12 #[.string s] w fun e w' => e = .returned (numOut (-999999999999) 999999999999 s.data.toList) ∧ Below w.heap.size w w' := by
  rcases num_cases (-999999999999) 999999999999 s.data.toList with ⟨n, h0, h1, h2, e⟩ | ⟨hn, e⟩
  · rw [e]
    exact parseI_ok s n w (fun W hb => must_yes s hlim (-999999999999) 999999999999 n (by decide) (by decide) h1 h2 h0 W (he.below hb))
  · rw [e]
    exact parseI_bad s w (fun W hb => must_no s hlim (-999999999999) 999999999999 hn W (he.below hb))

#print axioms implNumber_any
#print axioms implInt_any
end Go.Proofs.YtekgfjfdabcmfaaDoor
