/-
  Several texts of the proof in one (each says below what it holds): SgI.
-/
import Derived.Test.YtjobmgbchpoheaaGreatDoorPB13
import Derived.Test.YtjobmgbchpoheaaGreatDoorPB21
import Derived.Test.YtjobmgbchpoheaaGreatDoorPB22
namespace Go.Proofs.YtjobmgbchpoheaaGreatDoor
open Go Go.RowKit
def strC (xs : List (List UInt8)) : Array Value := (xs.map fun x => Value.string ⟨x.toArray⟩).toArray
def Sgs (xs : List (List UInt8)) (w : World) (e : Ending) (w' : World) : Prop :=
  ∃ b, e = .returned (.slice (some ⟨b, 0, none⟩) xs.length xs.length) ∧ w.heap.size ≤ b ∧ w'.heap[b]? = some (.cells (strC xs) 9 (0, 0)) ∧ Below w.heap.size w w'
theorem sgs_new {w w1 : World} (xs : List (List UInt8)) {cs : Array Value} {b n : Nat} (h : Below w.heap.size w w1) (hb : b = w1.heap.size) (hn : n = xs.length) (hc : cs = strC xs) :
    Sgs xs w (.returned (.slice (some ⟨b, 0, none⟩) n n)) (w1.alloc (.cells cs 9)) := by
  subst hc hb hn
  exact ⟨w1.heap.size, rfl, h.size, blk_new _ _, h.trans ((al_below w1 _).mono h.size)⟩
theorem fmt_len (t : Ty) : (fmtT t).length ≤ 90 := by
  unfold fmtT
  split
  · rename_i h; exact valid_len h
  · simp
theorem fmtAt {C : Nat → Prop} {ty : Ty} {tp : Option Addr} {tc : Nat} {w : World} (h : TS w C ty.args (.slice tp ty.args.length tc)) (hn : nodesS ty.args ≤ 2097152) (W : World) (hW : Below w.heap.size w W) :
    Calls Tryz.prog 69 #[.agg #[.int .i64 ty.kind, .slice tp ty.args.length tc]] W (StrRet (fmtT ty) W) :=
  imFmt_any ⟨_, rfl, h.stays (.of_below hW)⟩ hn
set_option maxRecDepth 100000 in
set_option maxHeartbeats 2000000 in
theorem sg_1 (a o : ByteArray) (n : Int) (ty res : Ty) (tp : Option Addr) (tc : Nat) (rp : Option Addr) (rc : Nat) (p : Option Addr) (m c : Nat) (w : World) :
    Calls Tryz.prog 33 #[.agg #[.int .i64 1, .string a, .string o, .int .i64 n, .int .i64 ty.kind, .slice tp ty.args.length tc, .int .i64 res.kind, .slice rp res.args.length rc, .slice p m c]] w (Sgs [a.data.toList] w) := by
  have HB := Lib.hid (al_below w (.cells #[.int .i64 1, .string a, .string o, .int .i64 n, .int .i64 ty.kind, .slice tp ty.args.length tc, .int .i64 res.kind, .slice rp res.args.length rc, .slice p m c] 29))
  go_enter Tryz.func33, Tryz.ntmps33
  go_wp2_with fail
  go_ret
  exact sgs_new [a.data.toList] HB.out (by simp) rfl (rfl)
set_option maxRecDepth 100000 in
set_option maxHeartbeats 2000000 in
theorem sg_30 (a o : ByteArray) (ty res : Ty) (tp : Option Addr) (tc : Nat) (rp : Option Addr) (rc : Nat) (p : Option Addr) (m c : Nat) (w : World) :
    Calls Tryz.prog 33 #[.agg #[.int .i64 3, .string a, .string o, .int .i64 0, .int .i64 ty.kind, .slice tp ty.args.length tc, .int .i64 res.kind, .slice rp res.args.length rc, .slice p m c]] w (Sgs [[35, 102]] w) := by
  have HB := Lib.hid (al_below w (.cells #[.int .i64 3, .string a, .string o, .int .i64 0, .int .i64 ty.kind, .slice tp ty.args.length tc, .int .i64 res.kind, .slice rp res.args.length rc, .slice p m c] 29))
  go_enter Tryz.func33, Tryz.ntmps33
  go_wp2_with fail
  go_ret
  exact sgs_new [[35, 102]] HB.out (by simp) rfl (rfl)
set_option maxRecDepth 100000 in
set_option maxHeartbeats 2000000 in
theorem sg_3x (a o : ByteArray) (n : Int) (ty res : Ty) (tp : Option Addr) (tc : Nat) (rp : Option Addr) (rc : Nat) (p : Option Addr) (m c : Nat) (w : World) (h0 : ¬ n = 0) :
    Calls Tryz.prog 33 #[.agg #[.int .i64 3, .string a, .string o, .int .i64 n, .int .i64 ty.kind, .slice tp ty.args.length tc, .int .i64 res.kind, .slice rp res.args.length rc, .slice p m c]] w (Sgs [[35, 116]] w) := by
  have HB := Lib.hid (al_below w (.cells #[.int .i64 3, .string a, .string o, .int .i64 n, .int .i64 ty.kind, .slice tp ty.args.length tc, .int .i64 res.kind, .slice rp res.args.length rc, .slice p m c] 29))
  have t0 : (n == 0) = false := by simpa using h0
  go_enter Tryz.func33, Tryz.ntmps33
  go_wp2_with fail
  go_ret
  exact sgs_new [[35, 116]] HB.out (by simp) rfl (rfl)
set_option maxRecDepth 100000 in
set_option maxHeartbeats 2000000 in
theorem sg_5 (a o : ByteArray) (n : Int) (ty res : Ty) (tp : Option Addr) (tc : Nat) (rp : Option Addr) (rc : Nat) (p : Option Addr) (m c : Nat) (w : World) :
    Calls Tryz.prog 33 #[.agg #[.int .i64 5, .string a, .string o, .int .i64 n, .int .i64 ty.kind, .slice tp ty.args.length tc, .int .i64 res.kind, .slice rp res.args.length rc, .slice p m c]] w (Sgs [[40, 105, 102, 32], [32], [32], [41]] w) := by
  have HB := Lib.hid (al_below w (.cells #[.int .i64 5, .string a, .string o, .int .i64 n, .int .i64 ty.kind, .slice tp ty.args.length tc, .int .i64 res.kind, .slice rp res.args.length rc, .slice p m c] 29))
  go_enter Tryz.func33, Tryz.ntmps33
  go_wp2_with fail
  go_ret
  exact sgs_new [[40, 105, 102, 32], [32], [32], [41]] HB.out (by simp) rfl (rfl)
set_option maxRecDepth 100000 in
set_option maxHeartbeats 2000000 in
theorem sg_7 (a o : ByteArray) (n : Int) (ty res : Ty) (tp : Option Addr) (tc : Nat) (rp : Option Addr) (rc : Nat) (p : Option Addr) (m c : Nat) (w : World) :
    Calls Tryz.prog 33 #[.agg #[.int .i64 7, .string a, .string o, .int .i64 n, .int .i64 ty.kind, .slice tp ty.args.length tc, .int .i64 res.kind, .slice rp res.args.length rc, .slice p m c]] w (Sgs [[40], [32], [41]] w) := by
  have HB := Lib.hid (al_below w (.cells #[.int .i64 7, .string a, .string o, .int .i64 n, .int .i64 ty.kind, .slice tp ty.args.length tc, .int .i64 res.kind, .slice rp res.args.length rc, .slice p m c] 29))
  go_enter Tryz.func33, Tryz.ntmps33
  go_wp2_with fail
  go_ret
  exact sgs_new [[40], [32], [41]] HB.out (by simp) rfl (rfl)
set_option maxRecDepth 100000 in
set_option maxHeartbeats 2000000 in
theorem sg_10 (a o : ByteArray) (n : Int) (ty res : Ty) (tp : Option Addr) (tc : Nat) (rp : Option Addr) (rc : Nat) (p : Option Addr) (m c : Nat) (w : World) :
    Calls Tryz.prog 33 #[.agg #[.int .i64 10, .string a, .string o, .int .i64 n, .int .i64 ty.kind, .slice tp ty.args.length tc, .int .i64 res.kind, .slice rp res.args.length rc, .slice p m c]] w (Sgs [[60], [62]] w) := by
  have HB := Lib.hid (al_below w (.cells #[.int .i64 10, .string a, .string o, .int .i64 n, .int .i64 ty.kind, .slice tp ty.args.length tc, .int .i64 res.kind, .slice rp res.args.length rc, .slice p m c] 29))
  go_enter Tryz.func33, Tryz.ntmps33
  go_wp2_with fail
  go_ret
  exact sgs_new [[60], [62]] HB.out (by simp) rfl (rfl)
set_option maxRecDepth 100000 in
set_option maxHeartbeats 2000000 in
theorem sg_11 (a o : ByteArray) (n : Int) (ty res : Ty) (tp : Option Addr) (tc : Nat) (rp : Option Addr) (rc : Nat) (p : Option Addr) (m c : Nat) (w : World) :
    Calls Tryz.prog 33 #[.agg #[.int .i64 11, .string a, .string o, .int .i64 n, .int .i64 ty.kind, .slice tp ty.args.length tc, .int .i64 res.kind, .slice rp res.args.length rc, .slice p m c]] w (Sgs [[126], []] w) := by
  have HB := Lib.hid (al_below w (.cells #[.int .i64 11, .string a, .string o, .int .i64 n, .int .i64 ty.kind, .slice tp ty.args.length tc, .int .i64 res.kind, .slice rp res.args.length rc, .slice p m c] 29))
  go_enter Tryz.func33, Tryz.ntmps33
  go_wp2_with fail
  go_ret
  exact sgs_new [[126], []] HB.out (by simp) rfl (rfl)
set_option maxRecDepth 100000 in
set_option maxHeartbeats 2000000 in
theorem sg_12 (a o : ByteArray) (n : Int) (ty res : Ty) (tp : Option Addr) (tc : Nat) (rp : Option Addr) (rc : Nat) (p : Option Addr) (m c : Nat) (w : World) :
    Calls Tryz.prog 33 #[.agg #[.int .i64 12, .string a, .string o, .int .i64 n, .int .i64 ty.kind, .slice tp ty.args.length tc, .int .i64 res.kind, .slice rp res.args.length rc, .slice p m c]] w (Sgs [[40, 114, 117, 110, 32], [41]] w) := by
  have HB := Lib.hid (al_below w (.cells #[.int .i64 12, .string a, .string o, .int .i64 n, .int .i64 ty.kind, .slice tp ty.args.length tc, .int .i64 res.kind, .slice rp res.args.length rc, .slice p m c] 29))
  go_enter Tryz.func33, Tryz.ntmps33
  go_wp2_with fail
  go_ret
  exact sgs_new [[40, 114, 117, 110, 32], [41]] HB.out (by simp) rfl (rfl)
set_option maxRecDepth 100000 in
set_option maxHeartbeats 2000000 in
theorem sg_13 (a o : ByteArray) (n : Int) (ty res : Ty) (tp : Option Addr) (tc : Nat) (rp : Option Addr) (rc : Nat) (p : Option Addr) (m c : Nat) (w : World) :
    Calls Tryz.prog 33 #[.agg #[.int .i64 13, .string a, .string o, .int .i64 n, .int .i64 ty.kind, .slice tp ty.args.length tc, .int .i64 res.kind, .slice rp res.args.length rc, .slice p m c]] w (Sgs [[40, 108, 105, 102, 116, 32], [41]] w) := by
  have HB := Lib.hid (al_below w (.cells #[.int .i64 13, .string a, .string o, .int .i64 n, .int .i64 ty.kind, .slice tp ty.args.length tc, .int .i64 res.kind, .slice rp res.args.length rc, .slice p m c] 29))
  go_enter Tryz.func33, Tryz.ntmps33
  go_wp2_with fail
  go_ret
  exact sgs_new [[40, 108, 105, 102, 116, 32], [41]] HB.out (by simp) rfl (rfl)
theorem cat_8 (a : ByteArray) : (⟨#[40, 108, 101, 116, 32]⟩ : ByteArray) ++ a ++ (⟨#[61]⟩ : ByteArray) = ⟨(40 :: 108 :: 101 :: 116 :: 32 :: (a.data.toList ++ [61])).toArray⟩ := by
  apply ByteArray.ext
  simp
set_option maxRecDepth 100000 in
set_option maxHeartbeats 2000000 in
theorem sg_8 (a o : ByteArray) (n : Int) (ty res : Ty) (tp : Option Addr) (tc : Nat) (rp : Option Addr) (rc : Nat) (p : Option Addr) (m c : Nat) (w : World) (ha : a.size ≤ 2097152) :
    Calls Tryz.prog 33 #[.agg #[.int .i64 8, .string a, .string o, .int .i64 n, .int .i64 ty.kind, .slice tp ty.args.length tc, .int .i64 res.kind, .slice rp res.args.length rc, .slice p m c]] w (Sgs [40 :: 108 :: 101 :: 116 :: 32 :: (a.data.toList ++ [61]), [32], [41]] w) := by
  have HB := Lib.hid (al_below w (.cells #[.int .i64 8, .string a, .string o, .int .i64 n, .int .i64 ty.kind, .slice tp ty.args.length tc, .int .i64 res.kind, .slice rp res.args.length rc, .slice p m c] 29))
  have q0 : ¬ 9223372036854775807 < 5 + a.size := by omega
  have q1 : ¬ 9223372036854775807 < 5 + a.size + 1 := by omega
  clear ha
  go_enter Tryz.func33, Tryz.ntmps33
  go_wp2_with fail
  go_ret
  exact sgs_new [40 :: 108 :: 101 :: 116 :: 32 :: (a.data.toList ++ [61]), [32], [41]] HB.out (by simp) rfl (by rw [cat_8]; rfl)
set_option maxRecDepth 100000 in
set_option maxHeartbeats 2000000 in
theorem sg_2 (a o : ByteArray) (n : Int) (ty res : Ty) (tp : Option Addr) (tc : Nat) (rp : Option Addr) (rc : Nat) (p : Option Addr) (m c : Nat) (w : World) (hf : ∀ W, Below w.heap.size w W → Calls Tryz.prog 67 #[.int .i64 n] W (StrRet (Lib.itoa n) W)) :
    Calls Tryz.prog 33 #[.agg #[.int .i64 2, .string a, .string o, .int .i64 n, .int .i64 ty.kind, .slice tp ty.args.length tc, .int .i64 res.kind, .slice rp res.args.length rc, .slice p m c]] w (Sgs [Lib.itoa n] w) := by
  have HB := Lib.hid (al_below w (.cells #[.int .i64 2, .string a, .string o, .int .i64 n, .int .i64 ty.kind, .slice tp ty.args.length tc, .int .i64 res.kind, .slice rp res.args.length rc, .slice p m c] 29))
  have HF := Lib.hid hf
  clear hf
  go_enter Tryz.func33, Tryz.ntmps33
  go_wp2_with fail
  refine (HF.out _ HB.out).mono ?_
  rintro e w1 ⟨rfl, hb1⟩
  have HB1 := Lib.hid (HB.out.trans (hb1.mono HB.out.size))
  clear hb1
  go_wp2_with fail
  go_ret
  exact sgs_new [Lib.itoa n] HB1.out rfl rfl rfl
theorem cat_40 (a : ByteArray) : (⟨#[40]⟩ : ByteArray) ++ a = ⟨(40 :: a.data.toList).toArray⟩ := by
  apply ByteArray.ext
  simp
set_option maxRecDepth 100000 in
set_option maxHeartbeats 2000000 in
theorem sg_41 (a o : ByteArray) (n : Int) (ty res : Ty) (tp : Option Addr) (tc : Nat) (rp : Option Addr) (rc : Nat) (p : Option Addr) (m c : Nat) (w : World) (ha : a.size ≤ 2097152) (h1 : opAr a.data.toList = 1) :
    Calls Tryz.prog 33 #[.agg #[.int .i64 4, .string a, .string o, .int .i64 n, .int .i64 ty.kind, .slice tp ty.args.length tc, .int .i64 res.kind, .slice rp res.args.length rc, .slice p m c]] w (Sgs [40 :: a.data.toList, [41]] w) := by
  have HB := Lib.hid (al_below w (.cells #[.int .i64 4, .string a, .string o, .int .i64 n, .int .i64 ty.kind, .slice tp ty.args.length tc, .int .i64 res.kind, .slice rp res.args.length rc, .slice p m c] 29))
  have g1 : (w.alloc (.cells #[.int .i64 4, .string a, .string o, .int .i64 n, .int .i64 ty.kind, .slice tp ty.args.length tc, .int .i64 res.kind, .slice rp res.args.length rc, .slice p m c] 29)).cell? ⟨w.heap.size, 1, none⟩ = some (.string a) := cell_of_blk (blk_new w _) 1
  go_enter Tryz.func33, Tryz.ntmps33
  go_wp2_with fail
  refine (opArI_any a _).mono ?_
  rintro e w1 ⟨rfl, rfl⟩
  have HB1 := Lib.hid HB.out
  have t0 : (opAr a.toList == 1) = true := by simpa [ByteArray.toList_eq] using h1
  clear h1
  have q0 : ¬ 9223372036854775807 < 1 + a.size := by omega
  clear ha
  go_wp2_with fail
  go_ret
  exact sgs_new [40 :: a.data.toList, [41]] HB1.out (by simp) rfl (by rw [cat_40]; rfl)
set_option maxRecDepth 100000 in
set_option maxHeartbeats 2000000 in
theorem sg_42 (a o : ByteArray) (n : Int) (ty res : Ty) (tp : Option Addr) (tc : Nat) (rp : Option Addr) (rc : Nat) (p : Option Addr) (m c : Nat) (w : World) (h1 : ¬ opAr a.data.toList = 1) :
    Calls Tryz.prog 33 #[.agg #[.int .i64 4, .string a, .string o, .int .i64 n, .int .i64 ty.kind, .slice tp ty.args.length tc, .int .i64 res.kind, .slice rp res.args.length rc, .slice p m c]] w (Sgs [[40], a.data.toList, [41]] w) := by
  have HB := Lib.hid (al_below w (.cells #[.int .i64 4, .string a, .string o, .int .i64 n, .int .i64 ty.kind, .slice tp ty.args.length tc, .int .i64 res.kind, .slice rp res.args.length rc, .slice p m c] 29))
  have g1 : (w.alloc (.cells #[.int .i64 4, .string a, .string o, .int .i64 n, .int .i64 ty.kind, .slice tp ty.args.length tc, .int .i64 res.kind, .slice rp res.args.length rc, .slice p m c] 29)).cell? ⟨w.heap.size, 1, none⟩ = some (.string a) := cell_of_blk (blk_new w _) 1
  go_enter Tryz.func33, Tryz.ntmps33
  go_wp2_with fail
  refine (opArI_any a _).mono ?_
  rintro e w1 ⟨rfl, rfl⟩
  have HB1 := Lib.hid HB.out
  have t0 : (opAr a.toList == 1) = false := by simpa [ByteArray.toList_eq] using h1
  clear h1
  go_wp2_with fail
  go_ret
  exact sgs_new [[40], a.data.toList, [41]] HB1.out (by simp) rfl (rfl)
theorem cat_6 (a : ByteArray) (t : List UInt8) : (⟨#[40, 92]⟩ : ByteArray) ++ a ++ (⟨#[58]⟩ : ByteArray) ++ ⟨t.toArray⟩ ++ (⟨#[46]⟩ : ByteArray) = ⟨(40 :: 92 :: (a.data.toList ++ 58 :: (t ++ [46]))).toArray⟩ := by
  apply ByteArray.ext
  simp
set_option maxRecDepth 100000 in
set_option maxHeartbeats 2000000 in
theorem sg_6 {C : Nat → Prop} (a o : ByteArray) (n : Int) (ty res : Ty) (tp : Option Addr) (tc : Nat) (rp : Option Addr) (rc : Nat) (p : Option Addr) (m c : Nat) (w : World) (ha : a.size ≤ 2097152) (hT : TS w C ty.args (.slice tp ty.args.length tc)) (hn : nodesS ty.args ≤ 2097152) :
    Calls Tryz.prog 33 #[.agg #[.int .i64 6, .string a, .string o, .int .i64 n, .int .i64 ty.kind, .slice tp ty.args.length tc, .int .i64 res.kind, .slice rp res.args.length rc, .slice p m c]] w (Sgs [40 :: 92 :: (a.data.toList ++ 58 :: (fmtT ty ++ [46])), [41]] w) := by
  have HB := Lib.hid (al_below w (.cells #[.int .i64 6, .string a, .string o, .int .i64 n, .int .i64 ty.kind, .slice tp ty.args.length tc, .int .i64 res.kind, .slice rp res.args.length rc, .slice p m c] 29))
  have HT := Lib.hid (fmtAt hT hn)
  have ht := fmt_len ty
  have q0 : ¬ 9223372036854775807 < 2 + a.size := by omega
  have q1 : ¬ 9223372036854775807 < 2 + a.size + 1 := by omega
  have q2 : ¬ 9223372036854775807 < 2 + a.size + 1 + (fmtT ty).length := by omega
  have q3 : ¬ 9223372036854775807 < 2 + a.size + 1 + (fmtT ty).length + 1 := by omega
  have g1 : (w.alloc (.cells #[.int .i64 6, .string a, .string o, .int .i64 n, .int .i64 ty.kind, .slice tp ty.args.length tc, .int .i64 res.kind, .slice rp res.args.length rc, .slice p m c] 29)).cell? ⟨w.heap.size, 1, none⟩ = some (.string a) := cell_of_blk (blk_new w _) 1
  have g4 : (w.alloc (.cells #[.int .i64 6, .string a, .string o, .int .i64 n, .int .i64 ty.kind, .slice tp ty.args.length tc, .int .i64 res.kind, .slice rp res.args.length rc, .slice p m c] 29)).cell? ⟨w.heap.size, 4, none⟩ = some (.int .i64 ty.kind) := cell_of_blk (blk_new w _) 4
  have g5 : (w.alloc (.cells #[.int .i64 6, .string a, .string o, .int .i64 n, .int .i64 ty.kind, .slice tp ty.args.length tc, .int .i64 res.kind, .slice rp res.args.length rc, .slice p m c] 29)).cell? ⟨w.heap.size, 5, none⟩ = some (.slice tp ty.args.length tc) := cell_of_blk (blk_new w _) 5
  clear hT hn ha ht
  go_enter Tryz.func33, Tryz.ntmps33
  go_wp2_with fail
  go_region_held3 (fun w' => Below w.heap.size w w' ∧ w'.cell? ⟨w.heap.size, 1, none⟩ = some (.string a) ∧ w'.cell? ⟨w.heap.size, 4, none⟩ = some (.int .i64 ty.kind) ∧ w'.cell? ⟨w.heap.size, 5, none⟩ = some (.slice tp ty.args.length tc))
    (first
      | (go_keep; done)
      | exact ⟨HB.out.drew, g1, g4, g5⟩
      | with_reducible exact kb3 hb1 (by assumption)
      | with_reducible exact kb3 (al_below _ _) (by assumption)
      | fail)
    (first
      | (go_at_call 69; refine (HT.out _ (And.left (by assumption))).mono ?_; rintro e w1 ⟨rfl, hb1⟩)
      | fail)
  have hbl := HB.out.drew.trans (hb1.mono HB.out.drew.size)
  have HBL := Lib.hid hbl
  clear hbl
  rename_i hH
  clear hH
  go_wp2_with fail
  go_ret
  exact sgs_new [40 :: 92 :: (a.data.toList ++ 58 :: (fmtT ty ++ [46])), [41]] HBL.out rfl rfl (by rw [cat_6 a]; rfl)
theorem cat_9 (a o : ByteArray) (t r : List UInt8) : (⟨#[40, 114, 101, 99, 32]⟩ : ByteArray) ++ a ++ (⟨#[32]⟩ : ByteArray) ++ o ++ (⟨#[58]⟩ : ByteArray) ++ ⟨t.toArray⟩ ++ (⟨#[62]⟩ : ByteArray) ++ ⟨r.toArray⟩ ++ (⟨#[46]⟩ : ByteArray) = ⟨(40 :: 114 :: 101 :: 99 :: 32 :: (a.data.toList ++ 32 :: (o.data.toList ++ 58 :: (t ++ 62 :: (r ++ [46]))))).toArray⟩ := by
  apply ByteArray.ext
  simp
set_option maxRecDepth 100000 in
set_option maxHeartbeats 2000000 in
theorem sg_9 {C : Nat → Prop} (a o : ByteArray) (n : Int) (ty res : Ty) (tp : Option Addr) (tc : Nat) (rp : Option Addr) (rc : Nat) (p : Option Addr) (m c : Nat) (w : World) (ha : a.size ≤ 2097152) (hT : TS w C ty.args (.slice tp ty.args.length tc)) (hn : nodesS ty.args ≤ 2097152) (ho : o.size ≤ 2097152) (hR : TS w C res.args (.slice rp res.args.length rc)) (hn2 : nodesS res.args ≤ 2097152) :
    Calls Tryz.prog 33 #[.agg #[.int .i64 9, .string a, .string o, .int .i64 n, .int .i64 ty.kind, .slice tp ty.args.length tc, .int .i64 res.kind, .slice rp res.args.length rc, .slice p m c]] w (Sgs [40 :: 114 :: 101 :: 99 :: 32 :: (a.data.toList ++ 32 :: (o.data.toList ++ 58 :: (fmtT ty ++ 62 :: (fmtT res ++ [46])))), [41]] w) := by
  have HB := Lib.hid (al_below w (.cells #[.int .i64 9, .string a, .string o, .int .i64 n, .int .i64 ty.kind, .slice tp ty.args.length tc, .int .i64 res.kind, .slice rp res.args.length rc, .slice p m c] 29))
  have HT := Lib.hid (fmtAt hT hn)
  have ht := fmt_len ty
  have HR := Lib.hid (fmtAt hR hn2)
  have ht2 := fmt_len res
  have q0 : ¬ 9223372036854775807 < 5 + a.size := by omega
  have q1 : ¬ 9223372036854775807 < 5 + a.size + 1 := by omega
  have q2 : ¬ 9223372036854775807 < 5 + a.size + 1 + o.size := by omega
  have q3 : ¬ 9223372036854775807 < 5 + a.size + 1 + o.size + 1 := by omega
  have q4 : ¬ 9223372036854775807 < 5 + a.size + 1 + o.size + 1 + (fmtT ty).length := by omega
  have q5 : ¬ 9223372036854775807 < 5 + a.size + 1 + o.size + 1 + (fmtT ty).length + 1 := by omega
  have q6 : ¬ 9223372036854775807 < 5 + a.size + 1 + o.size + 1 + (fmtT ty).length + 1 + (fmtT res).length := by omega
  have q7 : ¬ 9223372036854775807 < 5 + a.size + 1 + o.size + 1 + (fmtT ty).length + 1 + (fmtT res).length + 1 := by omega
  have g1 : (w.alloc (.cells #[.int .i64 9, .string a, .string o, .int .i64 n, .int .i64 ty.kind, .slice tp ty.args.length tc, .int .i64 res.kind, .slice rp res.args.length rc, .slice p m c] 29)).cell? ⟨w.heap.size, 1, none⟩ = some (.string a) := cell_of_blk (blk_new w _) 1
  have g2 : (w.alloc (.cells #[.int .i64 9, .string a, .string o, .int .i64 n, .int .i64 ty.kind, .slice tp ty.args.length tc, .int .i64 res.kind, .slice rp res.args.length rc, .slice p m c] 29)).cell? ⟨w.heap.size, 2, none⟩ = some (.string o) := cell_of_blk (blk_new w _) 2
  have g4 : (w.alloc (.cells #[.int .i64 9, .string a, .string o, .int .i64 n, .int .i64 ty.kind, .slice tp ty.args.length tc, .int .i64 res.kind, .slice rp res.args.length rc, .slice p m c] 29)).cell? ⟨w.heap.size, 4, none⟩ = some (.int .i64 ty.kind) := cell_of_blk (blk_new w _) 4
  have g5 : (w.alloc (.cells #[.int .i64 9, .string a, .string o, .int .i64 n, .int .i64 ty.kind, .slice tp ty.args.length tc, .int .i64 res.kind, .slice rp res.args.length rc, .slice p m c] 29)).cell? ⟨w.heap.size, 5, none⟩ = some (.slice tp ty.args.length tc) := cell_of_blk (blk_new w _) 5
  have g6 : (w.alloc (.cells #[.int .i64 9, .string a, .string o, .int .i64 n, .int .i64 ty.kind, .slice tp ty.args.length tc, .int .i64 res.kind, .slice rp res.args.length rc, .slice p m c] 29)).cell? ⟨w.heap.size, 6, none⟩ = some (.int .i64 res.kind) := cell_of_blk (blk_new w _) 6
  have g7 : (w.alloc (.cells #[.int .i64 9, .string a, .string o, .int .i64 n, .int .i64 ty.kind, .slice tp ty.args.length tc, .int .i64 res.kind, .slice rp res.args.length rc, .slice p m c] 29)).cell? ⟨w.heap.size, 7, none⟩ = some (.slice rp res.args.length rc) := cell_of_blk (blk_new w _) 7
  clear hT hn ha ht ho hR hn2 ht2
  go_enter Tryz.func33, Tryz.ntmps33
  go_wp2_with fail
  go_region_held3 (fun w' => Below w.heap.size w w' ∧ w'.cell? ⟨w.heap.size, 1, none⟩ = some (.string a) ∧ w'.cell? ⟨w.heap.size, 2, none⟩ = some (.string o) ∧ w'.cell? ⟨w.heap.size, 4, none⟩ = some (.int .i64 ty.kind) ∧ w'.cell? ⟨w.heap.size, 5, none⟩ = some (.slice tp ty.args.length tc) ∧ w'.cell? ⟨w.heap.size, 6, none⟩ = some (.int .i64 res.kind) ∧ w'.cell? ⟨w.heap.size, 7, none⟩ = some (.slice rp res.args.length rc))
    (first
      | (go_keep; done)
      | exact ⟨HB.out.drew, g1, g2, g4, g5, g6, g7⟩
      | with_reducible exact kb6 hb2 (by assumption)
      | with_reducible exact kb6 hb1 (by assumption)
      | with_reducible exact kb6 (al_below _ _) (by assumption)
      | fail)
    (first
      | (go_at_call_of 69 (Value.agg #[.int .i64 ty.kind, .slice tp ty.args.length tc]); refine (HT.out _ (And.left (by assumption))).mono ?_; rintro e w1 ⟨rfl, hb1⟩)
      | (go_at_call_of 69 (Value.agg #[.int .i64 res.kind, .slice rp res.args.length rc]); refine (HR.out _ (And.left (by assumption))).mono ?_; rintro e w2 ⟨rfl, hb2⟩)
      | fail)
  have hbm := HB.out.drew.trans (hb1.mono HB.out.drew.size)
  have hbl := hbm.trans (hb2.mono hbm.size)
  have HBL := Lib.hid hbl
  clear hbl
  rename_i hH
  clear hH
  go_wp2_with fail
  go_ret
  exact sgs_new [40 :: 114 :: 101 :: 99 :: 32 :: (a.data.toList ++ 32 :: (o.data.toList ++ 58 :: (fmtT ty ++ 62 :: (fmtT res ++ [46])))), [41]] HBL.out rfl rfl (by rw [cat_9 a o]; rfl)
theorem sg_any {C : Nat → Prop} {t : Tm} {tp : Option Addr} {tc : Nat} {rp : Option Addr} {rc : Nat} (p : Option Addr) (m c : Nat) (w : World) (hk : 1 ≤ t.kind ∧ t.kind ≤ 13) (hT : TS w C t.ty.args (.slice tp t.ty.args.length tc)) (hR : TS w C t.res.args (.slice rp t.res.args.length rc))
    (ha : t.name.size ≤ 2097152) (ho : t.other.size ≤ 2097152) (hn : nodesS t.ty.args ≤ 2097152) (hn2 : nodesS t.res.args ≤ 2097152)
    (hf : t.kind = 2 → ∀ W, Below w.heap.size w W → Calls Tryz.prog 67 #[.int .i64 t.n] W (StrRet (Lib.itoa t.n) W)) :
    Calls Tryz.prog 33 #[.agg #[.int .i64 t.kind, .string t.name, .string t.other, .int .i64 t.n, .int .i64 t.ty.kind, .slice tp t.ty.args.length tc, .int .i64 t.res.kind, .slice rp t.res.args.length rc, .slice p m c]] w (Sgs (sg t) w) := by
  obtain ⟨k, a, o, n, ty, res, ts⟩ := t
  simp only [Tm.kind, Tm.name, Tm.other, Tm.n, Tm.ty, Tm.res] at hk hT hR ha ho hn hn2 hf
  simp only [sg, Tm.kind, Tm.name, Tm.other, Tm.n, Tm.ty, Tm.res]
  rcases (show k = 1 ∨ k = 2 ∨ k = 3 ∨ k = 4 ∨ k = 5 ∨ k = 6 ∨ k = 7 ∨ k = 8 ∨ k = 9 ∨ k = 10 ∨ k = 11 ∨ k = 12 ∨ k = 13 by omega) with rfl | rfl | rfl | rfl | rfl | rfl | rfl | rfl | rfl | rfl | rfl | rfl | rfl
  · simpa [sgN] using sg_1 a o n ty res tp tc rp rc p m c w
  · simpa [sgN] using sg_2 a o n ty res tp tc rp rc p m c w (hf rfl)
  · by_cases h0 : n = 0
    · subst h0
      simpa [sgN] using sg_30 a o ty res tp tc rp rc p m c w
    · simpa [sgN, h0] using sg_3x a o n ty res tp tc rp rc p m c w h0
  · by_cases h1 : opAr a.data.toList = 1
    · simpa [sgN, h1] using sg_41 a o n ty res tp tc rp rc p m c w ha h1
    · simpa [sgN, h1] using sg_42 a o n ty res tp tc rp rc p m c w h1
  · simpa [sgN] using sg_5 a o n ty res tp tc rp rc p m c w
  · simpa [sgN] using sg_6 a o n ty res tp tc rp rc p m c w ha hT hn
  · simpa [sgN] using sg_7 a o n ty res tp tc rp rc p m c w
  · simpa [sgN] using sg_8 a o n ty res tp tc rp rc p m c w ha
  · simpa [sgN] using sg_9 a o n ty res tp tc rp rc p m c w ha hT hn ho hR hn2
  · simpa [sgN] using sg_10 a o n ty res tp tc rp rc p m c w
  · simpa [sgN] using sg_11 a o n ty res tp tc rp rc p m c w
  · simpa [sgN] using sg_12 a o n ty res tp tc rp rc p m c w
  · simpa [sgN] using sg_13 a o n ty res tp tc rp rc p m c w
end Go.Proofs.YtjobmgbchpoheaaGreatDoor
