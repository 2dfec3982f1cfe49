/-
  Several texts of the proof in one (each says below what it holds): TmLongS OpArI.
-/
import Derived.Test.YtjobmgbchpoheaaGreatDoorPB13
import Derived.Test.YtjobmgbchpoheaaGreatDoorPB20
import Derived.Test.YtjobmgbchpoheaaGreatDoorPB21
import Derived.Test.YtjobmgbchpoheaaGreatDoorPB14
import Derived.Test.YtjobmgbchpoheaaGreatDoorPB3
import Derived.Test.YtjobmgbchpoheaaGreatDoorPB8
import Derived.Deep.RegionHeld3
namespace Go.Proofs.YtjobmgbchpoheaaGreatDoor
open Go Go.RowKit

theorem tyText {C : Nat → Prop} {ty : Ty} {tp : Option Addr} {tc : Nat} {w : World} (h : TS w C ty.args (.slice tp ty.args.length tc)) (hv : ty.valid = true) (W : World) (hW : Below w.heap.size w W) :
    Calls Tryz.prog 103 #[.agg #[.int .i64 ty.kind, .slice tp ty.args.length tc]] W (StrRet ty.text W) := by
  obtain ⟨h1, _, h3⟩ := (valid_iff ty).1 hv
  have hn : nodesS ty.args ≤ 2097152 := by rw [ty.nodes_eq] at h1; omega
  have := spText_any h W ty.kind (.of_below hW) hn (by rw [← ty.eta]; exact h3)
  rwa [← ty.eta] at this
theorem valid_len {ty : Ty} (hv : ty.valid = true) : ty.text.length ≤ 90 := by
  obtain ⟨h1, _, h3⟩ := (valid_iff ty).1 hv
  have := text_le _ ty (Nat.le_refl _) h3
  omega
abbrev tb (l : List UInt8) : ByteArray := ⟨l.toArray⟩
theorem SS.one {w : World} {v : Value} {x : ByteArray} (h : SS w v [x]) : ∃ b i d, v = .slice (some ⟨b, i, none⟩) 1 d ∧ b < w.heap.size ∧ w.cell? ⟨b, i, none⟩ = some (.string x) := by
  rcases h with ⟨h, _⟩ | ⟨_, b, i, d, rfl, _, hb, hc⟩
  · cases h
  · exact ⟨b, i, d, rfl, hb, hc 0 x rfl⟩
theorem SS.two {w : World} {v : Value} {x y : ByteArray} (h : SS w v [x, y]) : ∃ b i d, v = .slice (some ⟨b, i, none⟩) 2 d ∧ b < w.heap.size ∧ w.cell? ⟨b, i, none⟩ = some (.string x) ∧ w.cell? ⟨b, i + 1, none⟩ = some (.string y) := by
  rcases h with ⟨h, _⟩ | ⟨_, b, i, d, rfl, _, hb, hc⟩
  · cases h
  · exact ⟨b, i, d, rfl, hb, hc 0 x rfl, hc 1 y rfl⟩
theorem join_call {xs : List ByteArray} {v : Value} {w : World} {J : List UInt8} (h : SS w v xs) (hJ : Lib.join (bs xs) [32] = J) (hl : J.length ≤ 140737488355328) (hn : xs.length ≤ 3) :
    Calls Tryz.prog 102 #[v, .string ⟨#[32]⟩] w (StrRet J w) := by
  have := joinS_any xs v ⟨#[32]⟩ w (by omega) (by rw [show (⟨#[32]⟩ : ByteArray).data.toList = [32] from rfl, hJ]; exact hl) h
  rw [show (⟨#[32]⟩ : ByteArray).data.toList = [32] from rfl, hJ] at this
  exact this
theorem kb {W w1 : World} {p : Addr} {v : Value} (hb : Below W.heap.size W w1) (h : W.cell? p = some v) : w1.cell? p = some v := (hb.cell (World.block_lt_of_cell? W _ h)).trans h
theorem kb1 {w W w1 : World} {p0 : Addr} {v0 : Value} (hb : Below W.heap.size W w1) (h : Below w.heap.size w W ∧ W.cell? p0 = some v0) : Below w.heap.size w w1 ∧ w1.cell? p0 = some v0 := by
  obtain ⟨h, h0⟩ := h
  exact ⟨h.trans (hb.mono h.size), kb hb h0⟩
theorem kb3 {w W w1 : World} {p0 p1 p2 : Addr} {v0 v1 v2 : Value} (hb : Below W.heap.size W w1) (h : Below w.heap.size w W ∧ W.cell? p0 = some v0 ∧ W.cell? p1 = some v1 ∧ W.cell? p2 = some v2) : Below w.heap.size w w1 ∧ w1.cell? p0 = some v0 ∧ w1.cell? p1 = some v1 ∧ w1.cell? p2 = some v2 := by
  obtain ⟨h, h0, h1, h2⟩ := h
  exact ⟨h.trans (hb.mono h.size), kb hb h0, kb hb h1, kb hb h2⟩
theorem kb4 {w W w1 : World} {p0 p1 p2 p3 : Addr} {v0 v1 v2 v3 : Value} (hb : Below W.heap.size W w1) (h : Below w.heap.size w W ∧ W.cell? p0 = some v0 ∧ W.cell? p1 = some v1 ∧ W.cell? p2 = some v2 ∧ W.cell? p3 = some v3) : Below w.heap.size w w1 ∧ w1.cell? p0 = some v0 ∧ w1.cell? p1 = some v1 ∧ w1.cell? p2 = some v2 ∧ w1.cell? p3 = some v3 := by
  obtain ⟨h, h0, h1, h2, h3⟩ := h
  exact ⟨h.trans (hb.mono h.size), kb hb h0, kb hb h1, kb hb h2, kb hb h3⟩
theorem kb6 {w W w1 : World} {p0 p1 p2 p3 p4 p5 : Addr} {v0 v1 v2 v3 v4 v5 : Value} (hb : Below W.heap.size W w1) (h : Below w.heap.size w W ∧ W.cell? p0 = some v0 ∧ W.cell? p1 = some v1 ∧ W.cell? p2 = some v2 ∧ W.cell? p3 = some v3 ∧ W.cell? p4 = some v4 ∧ W.cell? p5 = some v5) : Below w.heap.size w w1 ∧ w1.cell? p0 = some v0 ∧ w1.cell? p1 = some v1 ∧ w1.cell? p2 = some v2 ∧ w1.cell? p3 = some v3 ∧ w1.cell? p4 = some v4 ∧ w1.cell? p5 = some v5 := by
  obtain ⟨h, h0, h1, h2, h3, h4, h5⟩ := h
  exact ⟨h.trans (hb.mono h.size), kb hb h0, kb hb h1, kb hb h2, kb hb h3, kb hb h4, kb hb h5⟩
theorem kb7 {w W w1 : World} {p0 p1 p2 p3 p4 p5 p6 : Addr} {v0 v1 v2 v3 v4 v5 v6 : Value} (hb : Below W.heap.size W w1) (h : Below w.heap.size w W ∧ W.cell? p0 = some v0 ∧ W.cell? p1 = some v1 ∧ W.cell? p2 = some v2 ∧ W.cell? p3 = some v3 ∧ W.cell? p4 = some v4 ∧ W.cell? p5 = some v5 ∧ W.cell? p6 = some v6) : Below w.heap.size w w1 ∧ w1.cell? p0 = some v0 ∧ w1.cell? p1 = some v1 ∧ w1.cell? p2 = some v2 ∧ w1.cell? p3 = some v3 ∧ w1.cell? p4 = some v4 ∧ w1.cell? p5 = some v5 ∧ w1.cell? p6 = some v6 := by
  obtain ⟨h, h0, h1, h2, h3, h4, h5, h6⟩ := h
  exact ⟨h.trans (hb.mono h.size), kb hb h0, kb hb h1, kb hb h2, kb hb h3, kb hb h4, kb hb h5, kb hb h6⟩
theorem cat_run (x : List UInt8) : (⟨#[40, 114, 117, 110, 32]⟩ : ByteArray) ++ ⟨(x).toArray⟩ ++ (⟨#[41]⟩ : ByteArray) = ⟨(40 :: 114 :: 117 :: 110 :: 32 :: (x ++ [41])).toArray⟩ := by
  apply ByteArray.ext
  simp
set_option maxRecDepth 100000 in
set_option maxHeartbeats 2000000 in
theorem long_run (x : List UInt8) (tp : Option Addr) (tc : Nat) (rp : Option Addr) (rc : Nat) (p : Option Addr) (c : Nat) (v : Value) (w : World) (hS : SS w v [tb x]) (hx : x.length ≤ 209715200) :
    Calls Tryz.prog 62 #[.agg #[.int .i64 12, .string E0, .string E0, .int .i64 0, .int .i64 0, .slice tp 0 tc, .int .i64 0, .slice rp 0 rc, .slice p 1 c], v] w (StrRet (40 :: 114 :: 117 :: 110 :: 32 :: (x ++ [41])) w) := by
  have HB := Lib.hid (al_below w (.cells #[.int .i64 12, .string E0, .string E0, .int .i64 0, .int .i64 0, .slice tp 0 tc, .int .i64 0, .slice rp 0 rc, .slice p 1 c] 29))
  obtain ⟨b, i, d, rfl, hb, hc⟩ := hS.one
  have hc1 := kb HB.out hc
  have q0 : ¬ 9223372036854775807 < 5 + x.length := by omega
  have q1 : ¬ 9223372036854775807 < 5 + x.length + 1 := by omega
  clear hc hb hx
  go_enter Tryz.func62, Tryz.ntmps62
  go_wp2_with fail
  go_ret
  exact ⟨by rw [cat_run]; rfl, HB.out⟩
theorem cat_lift (x : List UInt8) : (⟨#[40, 108, 105, 102, 116, 32]⟩ : ByteArray) ++ ⟨(x).toArray⟩ ++ (⟨#[41]⟩ : ByteArray) = ⟨(40 :: 108 :: 105 :: 102 :: 116 :: 32 :: (x ++ [41])).toArray⟩ := by
  apply ByteArray.ext
  simp
set_option maxRecDepth 100000 in
set_option maxHeartbeats 2000000 in
theorem long_lift (x : List UInt8) (tp : Option Addr) (tc : Nat) (rp : Option Addr) (rc : Nat) (p : Option Addr) (c : Nat) (v : Value) (w : World) (hS : SS w v [tb x]) (hx : x.length ≤ 209715200) :
    Calls Tryz.prog 62 #[.agg #[.int .i64 13, .string E0, .string E0, .int .i64 0, .int .i64 0, .slice tp 0 tc, .int .i64 0, .slice rp 0 rc, .slice p 1 c], v] w (StrRet (40 :: 108 :: 105 :: 102 :: 116 :: 32 :: (x ++ [41])) w) := by
  have HB := Lib.hid (al_below w (.cells #[.int .i64 13, .string E0, .string E0, .int .i64 0, .int .i64 0, .slice tp 0 tc, .int .i64 0, .slice rp 0 rc, .slice p 1 c] 29))
  obtain ⟨b, i, d, rfl, hb, hc⟩ := hS.one
  have hc1 := kb HB.out hc
  have q0 : ¬ 9223372036854775807 < 6 + x.length := by omega
  have q1 : ¬ 9223372036854775807 < 6 + x.length + 1 := by omega
  clear hc hb hx
  go_enter Tryz.func62, Tryz.ntmps62
  go_wp2_with fail
  go_ret
  exact ⟨by rw [cat_lift]; rfl, HB.out⟩
theorem cat_cond (J : List UInt8) : (⟨#[40, 105, 102, 32]⟩ : ByteArray) ++ ⟨(J).toArray⟩ ++ (⟨#[41]⟩ : ByteArray) = ⟨(40 :: 105 :: 102 :: 32 :: (J ++ [41])).toArray⟩ := by
  apply ByteArray.ext
  simp
set_option maxRecDepth 100000 in
set_option maxHeartbeats 2000000 in
theorem long_cond (x y z J : List UInt8) (tp : Option Addr) (tc : Nat) (rp : Option Addr) (rc : Nat) (p : Option Addr) (c : Nat) (v : Value) (w : World) (hS : SS w v [tb x, tb y, tb z]) (hJ : J = (x ++ 32 :: (y ++ 32 :: z))) (hx : J.length ≤ 209715200) :
    Calls Tryz.prog 62 #[.agg #[.int .i64 5, .string E0, .string E0, .int .i64 0, .int .i64 0, .slice tp 0 tc, .int .i64 0, .slice rp 0 rc, .slice p 3 c], v] w (StrRet (40 :: 105 :: 102 :: 32 :: (J ++ [41])) w) := by
  have HB := Lib.hid (al_below w (.cells #[.int .i64 5, .string E0, .string E0, .int .i64 0, .int .i64 0, .slice tp 0 tc, .int .i64 0, .slice rp 0 rc, .slice p 3 c] 29))
  have HJ := Lib.hid (join_call (J := J) (hS.below HB.out) (by rw [hJ]; exact join3 x y z) (by omega) (by simp))
  have q0 : ¬ 9223372036854775807 < 4 + J.length := by omega
  have q1 : ¬ 9223372036854775807 < 4 + J.length + 1 := by omega
  clear hJ hx hS
  go_enter Tryz.func62, Tryz.ntmps62
  go_wp2_with fail
  refine HJ.out.mono ?_
  rintro e w1 ⟨rfl, hb1⟩
  have HB1 := Lib.hid (HB.out.trans (hb1.mono HB.out.size))
  clear hb1
  go_wp2_with fail
  go_ret
  exact ⟨by rw [cat_cond]; rfl, HB1.out⟩
theorem cat_app (J : List UInt8) : (⟨#[40]⟩ : ByteArray) ++ ⟨(J).toArray⟩ ++ (⟨#[41]⟩ : ByteArray) = ⟨(40 :: (J ++ [41])).toArray⟩ := by
  apply ByteArray.ext
  simp
set_option maxRecDepth 100000 in
set_option maxHeartbeats 2000000 in
theorem long_app (x y J : List UInt8) (tp : Option Addr) (tc : Nat) (rp : Option Addr) (rc : Nat) (p : Option Addr) (c : Nat) (v : Value) (w : World) (hS : SS w v [tb x, tb y]) (hJ : J = (x ++ 32 :: y)) (hx : J.length ≤ 209715200) :
    Calls Tryz.prog 62 #[.agg #[.int .i64 7, .string E0, .string E0, .int .i64 0, .int .i64 0, .slice tp 0 tc, .int .i64 0, .slice rp 0 rc, .slice p 2 c], v] w (StrRet (40 :: (J ++ [41])) w) := by
  have HB := Lib.hid (al_below w (.cells #[.int .i64 7, .string E0, .string E0, .int .i64 0, .int .i64 0, .slice tp 0 tc, .int .i64 0, .slice rp 0 rc, .slice p 2 c] 29))
  have HJ := Lib.hid (join_call (J := J) (hS.below HB.out) (by rw [hJ]; exact join2 x y) (by omega) (by simp))
  have q0 : ¬ 9223372036854775807 < 1 + J.length := by omega
  have q1 : ¬ 9223372036854775807 < 1 + J.length + 1 := by omega
  clear hJ hx hS
  go_enter Tryz.func62, Tryz.ntmps62
  go_wp2_with fail
  refine HJ.out.mono ?_
  rintro e w1 ⟨rfl, hb1⟩
  have HB1 := Lib.hid (HB.out.trans (hb1.mono HB.out.size))
  clear hb1
  go_wp2_with fail
  go_ret
  exact ⟨by rw [cat_app]; rfl, HB1.out⟩
theorem cat_bind (a : ByteArray) (J : List UInt8) : (⟨#[40, 108, 101, 116, 32]⟩ : ByteArray) ++ a ++ (⟨#[61]⟩ : ByteArray) ++ ⟨(J).toArray⟩ ++ (⟨#[41]⟩ : ByteArray) = ⟨(40 :: 108 :: 101 :: 116 :: 32 :: (a.data.toList ++ 61 :: (J ++ [41]))).toArray⟩ := by
  apply ByteArray.ext
  simp
set_option maxRecDepth 100000 in
set_option maxHeartbeats 2000000 in
theorem long_bind (a : ByteArray) (x y J : List UInt8) (tp : Option Addr) (tc : Nat) (rp : Option Addr) (rc : Nat) (p : Option Addr) (c : Nat) (v : Value) (w : World) (hS : SS w v [tb x, tb y]) (hJ : J = (x ++ 32 :: y)) (hx : J.length ≤ 209715200) (ha : a.size ≤ 2097152) :
    Calls Tryz.prog 62 #[.agg #[.int .i64 8, .string a, .string E0, .int .i64 0, .int .i64 0, .slice tp 0 tc, .int .i64 0, .slice rp 0 rc, .slice p 2 c], v] w (StrRet (40 :: 108 :: 101 :: 116 :: 32 :: (a.data.toList ++ 61 :: (J ++ [41]))) w) := by
  have HB := Lib.hid (al_below w (.cells #[.int .i64 8, .string a, .string E0, .int .i64 0, .int .i64 0, .slice tp 0 tc, .int .i64 0, .slice rp 0 rc, .slice p 2 c] 29))
  have HJ := Lib.hid (fun (W : World) (hW : Below w.heap.size w W) => join_call (J := J) (hS.below hW) (by rw [hJ]; exact join2 x y) (by omega) (by simp))
  have q0 : ¬ 9223372036854775807 < 5 + a.size := by omega
  have q1 : ¬ 9223372036854775807 < 5 + a.size + 1 := by omega
  have q2 : ¬ 9223372036854775807 < 5 + a.size + 1 + J.length := by omega
  have q3 : ¬ 9223372036854775807 < 5 + a.size + 1 + J.length + 1 := by omega
  clear hJ hx hS ha
  go_enter Tryz.func62, Tryz.ntmps62
  go_wp2_with fail
  have hn1 : (w.alloc (.cells #[.int .i64 8, .string a, .string E0, .int .i64 0, .int .i64 0, .slice tp 0 tc, .int .i64 0, .slice rp 0 rc, .slice p 2 c] 29)).cell? ⟨w.heap.size, 1, none⟩ = some (.string a) := cell_of_blk (blk_new w _) 1
  go_region_held3 (fun w' => Below w.heap.size w w' ∧ w'.cell? ⟨w.heap.size, 1, none⟩ = some (.string a))
    (first
      | (go_keep; done)
      | exact ⟨HB.out.drew, hn1⟩
      | with_reducible exact kb1 hb1 (by assumption)
      | fail)
    (first
      | (go_at_call 102; refine (HJ.out _ (And.left (by assumption))).mono ?_; rintro e w1 ⟨rfl, hb1⟩)
      | fail)
  rename_i hH
  have HBL := Lib.hid hH.1
  clear hH
  go_wp2_with fail
  go_ret
  exact ⟨by rw [cat_bind]; rfl, HBL.out⟩
theorem cat_lam (a : ByteArray) (ty : Ty) (x : List UInt8) : (⟨#[40, 92]⟩ : ByteArray) ++ a ++ (⟨#[58]⟩ : ByteArray) ++ ⟨(ty.text).toArray⟩ ++ (⟨#[46]⟩ : ByteArray) ++ ⟨(x).toArray⟩ ++ (⟨#[41]⟩ : ByteArray) = ⟨(40 :: 92 :: (a.data.toList ++ 58 :: (ty.text ++ 46 :: (x ++ [41])))).toArray⟩ := by
  apply ByteArray.ext
  simp
set_option maxRecDepth 100000 in
set_option maxHeartbeats 2000000 in
theorem long_lam {C : Nat → Prop} (a : ByteArray) (ty : Ty) (x : List UInt8) (tp : Option Addr) (tc : Nat) (rp : Option Addr) (rc : Nat) (p : Option Addr) (c : Nat) (v : Value) (w : World) (hS : SS w v [tb x]) (hv : ty.valid = true) (hT : TS w C ty.args (.slice tp ty.args.length tc)) (hx : x.length ≤ 209715200) (ha : a.size ≤ 2097152) :
    Calls Tryz.prog 62 #[.agg #[.int .i64 6, .string a, .string E0, .int .i64 0, .int .i64 ty.kind, .slice tp ty.args.length tc, .int .i64 0, .slice rp 0 rc, .slice p 1 c], v] w (StrRet (40 :: 92 :: (a.data.toList ++ 58 :: (ty.text ++ 46 :: (x ++ [41])))) w) := by
  have HB := Lib.hid (al_below w (.cells #[.int .i64 6, .string a, .string E0, .int .i64 0, .int .i64 ty.kind, .slice tp ty.args.length tc, .int .i64 0, .slice rp 0 rc, .slice p 1 c] 29))
  have HT := Lib.hid (tyText hT hv)
  have ht := valid_len hv
  obtain ⟨b, i, d, rfl, hb, hc⟩ := hS.one
  have hc1 := kb HB.out hc
  have q0 : ¬ 9223372036854775807 < 2 + a.size := by omega
  have q1 : ¬ 9223372036854775807 < 2 + a.size + 1 := by omega
  have q2 : ¬ 9223372036854775807 < 2 + a.size + 1 + ty.text.length := by omega
  have q3 : ¬ 9223372036854775807 < 2 + a.size + 1 + ty.text.length + 1 := by omega
  have q4 : ¬ 9223372036854775807 < 2 + a.size + 1 + ty.text.length + 1 + x.length := by omega
  have q5 : ¬ 9223372036854775807 < 2 + a.size + 1 + ty.text.length + 1 + x.length + 1 := by omega
  have g1 : (w.alloc (.cells #[.int .i64 6, .string a, .string E0, .int .i64 0, .int .i64 ty.kind, .slice tp ty.args.length tc, .int .i64 0, .slice rp 0 rc, .slice p 1 c] 29)).cell? ⟨w.heap.size, 1, none⟩ = some (.string a) := cell_of_blk (blk_new w _) 1
  have g4 : (w.alloc (.cells #[.int .i64 6, .string a, .string E0, .int .i64 0, .int .i64 ty.kind, .slice tp ty.args.length tc, .int .i64 0, .slice rp 0 rc, .slice p 1 c] 29)).cell? ⟨w.heap.size, 4, none⟩ = some (.int .i64 ty.kind) := cell_of_blk (blk_new w _) 4
  have g5 : (w.alloc (.cells #[.int .i64 6, .string a, .string E0, .int .i64 0, .int .i64 ty.kind, .slice tp ty.args.length tc, .int .i64 0, .slice rp 0 rc, .slice p 1 c] 29)).cell? ⟨w.heap.size, 5, none⟩ = some (.slice tp ty.args.length tc) := cell_of_blk (blk_new w _) 5
  clear hS hT hv hx ha ht hc hb
  go_enter Tryz.func62, Tryz.ntmps62
  go_wp2_with fail
  go_region_held3 (fun w' => Below w.heap.size w w' ∧ w'.cell? ⟨w.heap.size, 1, none⟩ = some (.string a) ∧ w'.cell? ⟨w.heap.size, 4, none⟩ = some (.int .i64 ty.kind) ∧ w'.cell? ⟨w.heap.size, 5, none⟩ = some (.slice tp ty.args.length tc) ∧ w'.cell? ⟨b, i, none⟩ = some (.string (tb x)))
    (first
      | (go_keep; done)
      | exact ⟨HB.out.drew, g1, g4, g5, hc1⟩
      | with_reducible exact kb4 hb1 (by assumption)
      | fail)
    (first
      | (go_at_call 103; refine (HT.out _ (And.left (by assumption))).mono ?_; rintro e w1 ⟨rfl, hb1⟩)
      | fail)
  rename_i hH
  have HBL := Lib.hid hH.1
  clear hH
  go_wp2_with fail
  go_ret
  exact ⟨by rw [cat_lam]; rfl, HBL.out⟩
theorem cat_fix (a a2 : ByteArray) (ty res : Ty) (x : List UInt8) : (⟨#[40, 114, 101, 99, 32]⟩ : ByteArray) ++ a ++ (⟨#[32]⟩ : ByteArray) ++ a2 ++ (⟨#[58]⟩ : ByteArray) ++ ⟨(ty.text).toArray⟩ ++ (⟨#[62]⟩ : ByteArray) ++ ⟨(res.text).toArray⟩ ++ (⟨#[46]⟩ : ByteArray) ++ ⟨(x).toArray⟩ ++ (⟨#[41]⟩ : ByteArray) = ⟨(40 :: 114 :: 101 :: 99 :: 32 :: (a.data.toList ++ 32 :: (a2.data.toList ++ 58 :: (ty.text ++ 62 :: (res.text ++ 46 :: (x ++ [41])))))).toArray⟩ := by
  apply ByteArray.ext
  simp
set_option maxRecDepth 100000 in
set_option maxHeartbeats 4000000 in
theorem long_fix {C : Nat → Prop} (a a2 : ByteArray) (ty res : Ty) (x : List UInt8) (tp : Option Addr) (tc : Nat) (rp : Option Addr) (rc : Nat) (p : Option Addr) (c : Nat) (v : Value) (w : World) (hS : SS w v [tb x]) (hv : ty.valid = true) (hv2 : res.valid = true) (hT : TS w C ty.args (.slice tp ty.args.length tc)) (hR : TS w C res.args (.slice rp res.args.length rc)) (hx : x.length ≤ 209715200) (ha : a.size ≤ 2097152) (ha2 : a2.size ≤ 2097152) :
    Calls Tryz.prog 62 #[.agg #[.int .i64 9, .string a, .string a2, .int .i64 0, .int .i64 ty.kind, .slice tp ty.args.length tc, .int .i64 res.kind, .slice rp res.args.length rc, .slice p 1 c], v] w (StrRet (40 :: 114 :: 101 :: 99 :: 32 :: (a.data.toList ++ 32 :: (a2.data.toList ++ 58 :: (ty.text ++ 62 :: (res.text ++ 46 :: (x ++ [41])))))) w) := by
  have HB := Lib.hid (al_below w (.cells #[.int .i64 9, .string a, .string a2, .int .i64 0, .int .i64 ty.kind, .slice tp ty.args.length tc, .int .i64 res.kind, .slice rp res.args.length rc, .slice p 1 c] 29))
  have HT := Lib.hid (tyText hT hv)
  have HR := Lib.hid (tyText hR hv2)
  have ht := valid_len hv
  have ht2 := valid_len hv2
  obtain ⟨b, i, d, rfl, hb, hc⟩ := hS.one
  have hc1 := kb HB.out hc
  have q0 : ¬ 9223372036854775807 < 5 + a.size := by omega
  have q1 : ¬ 9223372036854775807 < 5 + a.size + 1 := by omega
  have q2 : ¬ 9223372036854775807 < 5 + a.size + 1 + a2.size := by omega
  have q3 : ¬ 9223372036854775807 < 5 + a.size + 1 + a2.size + 1 := by omega
  have q4 : ¬ 9223372036854775807 < 5 + a.size + 1 + a2.size + 1 + ty.text.length := by omega
  have q5 : ¬ 9223372036854775807 < 5 + a.size + 1 + a2.size + 1 + ty.text.length + 1 := by omega
  have q6 : ¬ 9223372036854775807 < 5 + a.size + 1 + a2.size + 1 + ty.text.length + 1 + res.text.length := by omega
  have q7 : ¬ 9223372036854775807 < 5 + a.size + 1 + a2.size + 1 + ty.text.length + 1 + res.text.length + 1 := by omega
  have q8 : ¬ 9223372036854775807 < 5 + a.size + 1 + a2.size + 1 + ty.text.length + 1 + res.text.length + 1 + x.length := by omega
  have q9 : ¬ 9223372036854775807 < 5 + a.size + 1 + a2.size + 1 + ty.text.length + 1 + res.text.length + 1 + x.length + 1 := by omega
  have g1 : (w.alloc (.cells #[.int .i64 9, .string a, .string a2, .int .i64 0, .int .i64 ty.kind, .slice tp ty.args.length tc, .int .i64 res.kind, .slice rp res.args.length rc, .slice p 1 c] 29)).cell? ⟨w.heap.size, 1, none⟩ = some (.string a) := cell_of_blk (blk_new w _) 1
  have g2 : (w.alloc (.cells #[.int .i64 9, .string a, .string a2, .int .i64 0, .int .i64 ty.kind, .slice tp ty.args.length tc, .int .i64 res.kind, .slice rp res.args.length rc, .slice p 1 c] 29)).cell? ⟨w.heap.size, 2, none⟩ = some (.string a2) := cell_of_blk (blk_new w _) 2
  have g4 : (w.alloc (.cells #[.int .i64 9, .string a, .string a2, .int .i64 0, .int .i64 ty.kind, .slice tp ty.args.length tc, .int .i64 res.kind, .slice rp res.args.length rc, .slice p 1 c] 29)).cell? ⟨w.heap.size, 4, none⟩ = some (.int .i64 ty.kind) := cell_of_blk (blk_new w _) 4
  have g5 : (w.alloc (.cells #[.int .i64 9, .string a, .string a2, .int .i64 0, .int .i64 ty.kind, .slice tp ty.args.length tc, .int .i64 res.kind, .slice rp res.args.length rc, .slice p 1 c] 29)).cell? ⟨w.heap.size, 5, none⟩ = some (.slice tp ty.args.length tc) := cell_of_blk (blk_new w _) 5
  have g6 : (w.alloc (.cells #[.int .i64 9, .string a, .string a2, .int .i64 0, .int .i64 ty.kind, .slice tp ty.args.length tc, .int .i64 res.kind, .slice rp res.args.length rc, .slice p 1 c] 29)).cell? ⟨w.heap.size, 6, none⟩ = some (.int .i64 res.kind) := cell_of_blk (blk_new w _) 6
  have g7 : (w.alloc (.cells #[.int .i64 9, .string a, .string a2, .int .i64 0, .int .i64 ty.kind, .slice tp ty.args.length tc, .int .i64 res.kind, .slice rp res.args.length rc, .slice p 1 c] 29)).cell? ⟨w.heap.size, 7, none⟩ = some (.slice rp res.args.length rc) := cell_of_blk (blk_new w _) 7
  clear hS hT hR hv hv2 hx ha ha2 ht ht2 hc hb
  go_enter Tryz.func62, Tryz.ntmps62
  go_wp2_with fail
  go_region_held3 (fun w' => Below w.heap.size w w' ∧ w'.cell? ⟨w.heap.size, 1, none⟩ = some (.string a) ∧ w'.cell? ⟨w.heap.size, 2, none⟩ = some (.string a2) ∧ w'.cell? ⟨w.heap.size, 4, none⟩ = some (.int .i64 ty.kind) ∧ w'.cell? ⟨w.heap.size, 5, none⟩ = some (.slice tp ty.args.length tc) ∧ w'.cell? ⟨w.heap.size, 6, none⟩ = some (.int .i64 res.kind) ∧ w'.cell? ⟨w.heap.size, 7, none⟩ = some (.slice rp res.args.length rc) ∧ w'.cell? ⟨b, i, none⟩ = some (.string (tb x)))
    (first
      | (go_keep; done)
      | exact ⟨HB.out.drew, g1, g2, g4, g5, g6, g7, hc1⟩
      | with_reducible exact kb7 hb2 (by assumption)
      | with_reducible exact kb7 hb1 (by assumption)
      | fail)
    (first
      | (go_at_call_of 103 (Value.agg #[.int .i64 ty.kind, .slice tp ty.args.length tc]); refine (HT.out _ (And.left (by assumption))).mono ?_; rintro e w1 ⟨rfl, hb1⟩)
      | (go_at_call_of 103 (Value.agg #[.int .i64 res.kind, .slice rp res.args.length rc]); refine (HR.out _ (And.left (by assumption))).mono ?_; rintro e w2 ⟨rfl, hb2⟩)
      | fail)
  rename_i hH
  have HBL := Lib.hid hH.1
  clear hH
  go_wp2_with fail
  go_ret
  exact ⟨by rw [cat_fix]; rfl, HBL.out⟩
end Go.Proofs.YtjobmgbchpoheaaGreatDoor
namespace Go.Proofs.YtjobmgbchpoheaaGreatDoor
open Go Go.RowKit

set_option maxRecDepth 100000 in
set_option maxHeartbeats 1000000 in
theorem opArI_any (s : ByteArray) (w : World) : Calls Tryz.prog 68 #[.string s] w fun e w' => e = .returned (.int .i64 (opAr s.toList)) ∧ w' = w := by
  go_enter Tryz.func68, Tryz.ntmps68
  go_wp2
  all_goals
    go_ret
    exact ⟨by unfold opAr; simp_all, rfl⟩
end Go.Proofs.YtjobmgbchpoheaaGreatDoor
