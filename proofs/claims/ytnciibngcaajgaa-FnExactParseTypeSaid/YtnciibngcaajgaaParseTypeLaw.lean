/-
  The walk of the law that ParseType answers as its model does, and owns its answer.
-/
import Derived.Test.YtnciibngcaajgaaParseI
import Derived.Test.YtnciibngcaajgaaTyMark
namespace Go.Proofs.Ytnciibngcaajgaa
open Go Go.RowKit

set_option maxRecDepth 100000 in
set_option maxHeartbeats 4000000 in
theorem lawParseType (s : ByteArray) (w : World) (hsz : s.size ≤ 9223372036854775807) :
    Calls Try.prog 11 #[.string s] w fun e w' => e = .returned (.bool true) ∧ Below w.heap.size w w' := by
  by_cases hbig : 1048576 < s.size
  · go_enter Try.func11, Try.ntmps11
    go_wp2_with fail
    go_ret
    exact ⟨rfl, Below.refl _ _⟩
  have hs : s.size ≤ 1073741824 := by omega
  have hsm := parse_small s.data.toList
  have HCS := Lib.hid (fun W => parseS_any s hs W)
  have HCI := Lib.hid (fun W => parseI_any s hs W)
  unfold ParseRet at HCS
  unfold ParseOwn at HCI
  generalize (parseT s.data.toList).getD (.mk 0 []) = T at hsm HCS HCI
  generalize (parseT s.data.toList).isSome = ok at HCS HCI
  go_enter Try.func11, Try.ntmps11
  go_wp2_with fail
  refine (HCS.out w).mono ?_
  rintro e w1 ⟨v1, rfl, ⟨s1, rfl, hw⟩, hb1⟩
  obtain ⟨p1, c1, rfl⟩ := hw.form
  have HW := Lib.hid (hw.mono (C' := (· < w1.heap.size)) (fun b _ hl => hl))
  have hba := alloc_below w1 (.cells #[.int .i64 T.kind, .slice p1 T.args.length c1] 26)
  have HBA := Lib.hid hba
  have HX1 := Lib.hid (Bx.new w1 T.kind (.slice p1 T.args.length c1) 26)
  have HB1 := Lib.hid (hb1.trans (hba.mono hb1.size))
  have lw1 := Lib.hid hb1.size
  clear hw hb1 hba
  go_wp2_with fail
  refine (HCI.out _).mono ?_
  rintro e w2 ⟨v2, rfl, ⟨s2, rfl, ho⟩, hb2⟩
  obtain ⟨p2, c2, rfl⟩ := ho.form
  have hba := alloc_below w2 (.cells #[.int .i64 T.kind, .slice p2 T.args.length c2] 26)
  obtain ⟨w2b, hw2⟩ : ∃ w2b, w2.alloc (.cells #[.int .i64 T.kind, .slice p2 T.args.length c2] 26) = w2b := ⟨_, rfl⟩
  have hs1 : (w1.alloc (.cells #[.int .i64 T.kind, .slice p1 T.args.length c1] 26)).heap.size = w1.heap.size + 1 := by simp
  have hs2 : w2b.heap.size = w2.heap.size + 1 := by rw [← hw2]; simp
  have l12 := hb2.size
  rw [hs1] at l12
  have XX2 : Bx w2b w2.heap.size T.kind (.slice p2 T.args.length c2) := hw2 ▸ Bx.new w2 T.kind (.slice p2 T.args.length c2) 26
  rw [hw2] at hba
  have hb2b := (hb2.trans (hba.mono hb2.size))
  have XX1 := HX1.out.keep hb2b
  have WW : TT w2b (· < w1.heap.size) T (.agg #[.int .i64 T.kind, .slice p1 T.args.length c1]) := ⟨_, rfl, (HW.out.keep HBA.out).keep hb2b⟩
  have GG : OT w2b T (.agg #[.int .i64 T.kind, .slice p2 T.args.length c2]) (fun z => w1.heap.size + 1 ≤ z ∧ z < w2.heap.size) := ⟨_, rfl, (ho.keep hba).mono (fun z hz => by rw [hs1] at hz; exact hz)⟩
  have BB : Below w.heap.size w w2b := HB1.out.trans (hb2b.mono HB1.out.size)
  have H1 := Lib.hid XX1
  have H2 := Lib.hid XX2
  have HWW := Lib.hid WW
  have HGG := Lib.hid GG
  have HBB := Lib.hid BB
  have HL := Lib.hid (And.intro l12 hs2)
  have HW2 := Lib.hid hw2
  have f10 := XX1.1
  have f11 := XX1.2
  have f20 := XX2.1
  have f21 := XX2.2
  rw [← hw2] at f10 f11 f20 f21
  have HEQ := Lib.hid (eqT_any GG.tt WW)
  rw [← hw2] at HEQ
  clear ho hb2 hba hw2 hs1 hs2 l12 XX1 XX2 WW GG BB hb2b
  go_wp2_with fail
  refine HEQ.out.mono ?_
  rintro e w6 ⟨b6, he6, rfl, hb6⟩
  rw [HW2.out] at hb6
  obtain rfl : b6 = true := by simpa using he6
  have HS6 := Lib.hid hb6
  have HB6 := Lib.hid (HBB.out.trans (hb6.mono HBB.out.size))
  obtain ⟨f20, f21⟩ := H2.out.keep hb6
  obtain ⟨n, hn2⟩ : ∃ n : Nat, 1 + nodesS T.args = n := ⟨_, rfl⟩
  have HN := Lib.hid hn2
  have hM := markT_any (HGG.out.keep hb6) 1 (by omega)
  rw [hn2] at hM
  have HM := Lib.hid (show Calls Try.prog 42 #[.agg #[.int .i64 T.kind, .slice p2 T.args.length c2], .int .i64 1] w6 _ from hM)
  have hnn : ¬ ((n : Int) < 0) := by omega
  clear f10 f11 he6 hb6 HEQ hM hn2
  go_wp2_with fail
  refine HM.out.mono ?_
  rintro e w11 ⟨rfl, hO, w10b, hb11, hbt11⟩
  obtain ⟨l12, hs2⟩ := HL.out
  have lw := lw1.out
  have S11 : Stays (fun z => z < w1.heap.size + 1 ∨ z = w2.heap.size) w2b w11 := ((Stays.of_below HS6.out).trans (.of_below hb11)).trans (hbt11.stays (fun z h1 h2 => by omega))
  have B11 : Below w.heap.size w w11 := (HB6.out.trans (hb11.mono HB6.out.size)).trans (hbt11.below _ (Nat.le_trans HB6.out.size hb11.size) (fun z hz => by omega))
  have HS11 := Lib.hid S11
  have HB11 := Lib.hid B11
  have HO11 := Lib.hid hO
  obtain ⟨y20, y21⟩ := H2.out.stays S11 (Or.inr rfl)
  have hH1 := heldT_any (k := 1) (ts := T.args) hO.tt rfl (by omega)
  rw [HN.out] at hH1
  have HH1 := Lib.hid (show Calls Try.prog 43 #[.agg #[.int .i64 T.kind, .slice p2 T.args.length c2], .int .i64 1] w11 _ from hH1)
  clear f20 f21 hb11 hbt11 S11 B11 hO hH1 l12 hs2 lw
  go_wp2_with fail
  refine HH1.out.mono ?_
  rintro e w12 ⟨r12, rfl, rfl, hb12⟩
  have HB12w := Lib.hid hb12
  have HB12 := Lib.hid (HB11.out.trans (hb12.mono HB11.out.size))
  clear y20 y21 hb12
  go_wp2_with fail
  refine (HCI.out _).mono ?_
  rintro e w14 ⟨v14, rfl, ⟨s14, rfl, ho14⟩, hb14⟩
  obtain ⟨p14, c14, rfl⟩ := ho14.form
  have hba := alloc_below w14 (.cells #[.int .i64 T.kind, .slice p14 T.args.length c14] 26)
  have hb12b := hb14.trans (hba.mono hb14.size)
  have HB12b := Lib.hid hb12b
  have S14 := (HS11.out.trans (.of_below HB12w.out)).trans (.of_below hb12b)
  obtain ⟨l12, hs2⟩ := HL.out
  have HEQ := Lib.hid (eqT_any (⟨_, rfl, ho14.ts.keep hba⟩ : TT (w14.alloc (.cells #[.int .i64 T.kind, .slice p14 T.args.length c14] 26)) _ T (.agg #[.int .i64 T.kind, .slice p14 T.args.length c14])) (HWW.out.stays (S14.mono (fun z hz => by omega))))
  obtain ⟨f10, f11⟩ := H1.out.stays S14 (Or.inl (by omega))
  obtain ⟨x0, x1⟩ := Bx.new w14 T.kind (.slice p14 T.args.length c14) 26
  have HS14 := Lib.hid S14
  clear ho14 hb14 hba hb12b S14 l12 hs2
  go_wp2_with fail
  refine HEQ.out.mono ?_
  rintro e w15 ⟨b15, he15, rfl, hb15⟩
  obtain rfl : b15 = true := by simpa using he15
  have S15 := HS14.out.trans (.of_below hb15)
  have b11 := HB12w.out.trans (((HB12b.out.trans (hb15.mono HB12b.out.size))).mono HB12w.out.size)
  have HB15 := Lib.hid (HB11.out.trans (b11.mono HB11.out.size))
  obtain ⟨y20, y21⟩ := H2.out.stays S15 (Or.inr rfl)
  have hH1 := heldT_any (k := 1) (ts := T.args) (HO11.out.tt.keep b11) rfl (by omega)
  rw [HN.out] at hH1
  have HH2 := Lib.hid (show Calls Try.prog 43 #[.agg #[.int .i64 T.kind, .slice p2 T.args.length c2], .int .i64 1] w15 _ from hH1)
  clear f10 f11 x0 x1 he15 hb15 S15 b11 hH1 HEQ
  go_wp2_with fail
  refine HH2.out.mono ?_
  rintro e w16 ⟨r16, rfl, rfl, hb16⟩
  have HB16 := Lib.hid (HB15.out.trans (hb16.mono HB15.out.size))
  clear y20 y21 hb16
  go_wp2_with fail
  go_ret
  exact ⟨rfl, HB16.out⟩
#print axioms lawParseType
end Go.Proofs.Ytnciibngcaajgaa

