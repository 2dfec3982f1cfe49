/-
  The contracts of the model's SizeOf, DepthOf, l5Left: what they answer at a term in memory.
-/
import Derived.Test.YtnciibngcaajgaaTmSz
import Derived.Test.YtnciibngcaajgaaSpecTy2
namespace Go.Proofs.Ytnciibngcaajgaa
open Go Go.RowKit

mutual
def Tm.depth : Tm → Nat
  | .mk _ _ _ _ _ _ ts => 1 + depthM ts
def depthM : List Tm → Nat
  | [] => 0
  | t :: ts => max t.depth (depthM ts)
end
theorem Tm.depth_eq (t : Tm) : t.depth = 1 + depthM t.args := by cases t; simp [Tm.depth, Tm.args]
theorem depthM_append (a b : List Tm) : depthM (a ++ b) = max (depthM a) (depthM b) := by
  induction a with
  | nil => simp [depthM]
  | cons x a ih => simp only [List.cons_append, depthM, ih]; omega
theorem depthM_take (ts : List Tm) (k : Nat) (h : k < ts.length) : depthM (ts.take (k + 1)) = max (depthM (ts.take k)) ts[k].depth := by
  rw [tm_take_next h, depthM_append]; simp [depthM]
mutual
theorem depthM_nodes : ∀ ts : List Tm, depthM ts ≤ nodesM ts
  | [] => Nat.le_refl _
  | t :: ts => by
    have h1 := Tm.depth_nodes t
    have h2 := depthM_nodes ts
    simp only [depthM, nodesM]
    omega
theorem Tm.depth_nodes : ∀ t : Tm, t.depth ≤ t.nodes
  | .mk k a b n t r ts => by
    have := depthM_nodes ts
    simp only [Tm.depth, Tm.nodes]
    omega
end
theorem leftM_stop {left L : Int} {a n : Nat} (h : LeftEnds (left - 1) a L) (hn : L < 0) (ha : a ≤ n) : LeftEnds left (1 + n) L := by
  unfold LeftEnds at *; omega
theorem box_rest {w w' : World} {A : Array Value} {T : TypeId} (h : Below (w.alloc (.cells A T)).heap.size (w.alloc (.cells A T)) w') : Below w.heap.size w w' :=
  (al_below w _).trans (h.mono (by simp))


set_option maxRecDepth 100000 in
set_option maxHeartbeats 1000000 in
theorem sizeM_any {C : Nat → Prop} : ∀ (m : Nat) {t : Tm} {tp : Option Addr} {tc : Nat} {rp : Option Addr} {rc : Nat} {p : Option Addr} {c : Nat} (w : World), t.nodes ≤ m → TM' w C t tp tc rp rc p c → t.wt ≤ 1048576 → Calls Try.prog 47 #[tmV t tp tc rp rc p c] w (IntRet (fun r => r = ((t.nodes : Nat) : Int)) w)
  | 0, t, tp, tc, rp, rc, p, c, w, hm, hT, hn => by rw [t.nodes_eq] at hm; omega
  | m + 1, t, tp, tc, rp, rc, p, c, w, hm, hT, hn => by
    have HT := Lib.hid hT
    have HX0 := Lib.hid (Bx9.new w t tp tc rp rc p c 55)
    have HB0 := Lib.hid (al_below w (.cells (tmC t tp tc rp rc p c) 55))
    have hne := t.nodes_eq
    have hwe := t.wt_eq
    have hlen := wtS_ge t.args
    have hnw := nodesM_wt t.args
    have HM := Lib.hid hm
    have HNE := Lib.hid hne
    have hwa : wtS t.args ≤ 1048576 := by omega
    clear hT hne hwe hm
    go_enter Try.func47, Try.ntmps47
    go_wp2_with fail
    go_loopw [3, 4] (fun n i wr => ∃ (k : Nat), k ≤ t.args.length ∧ i = .int .i64 k ∧ n = .int .i64 ((1 + nodesM (t.args.take k) : Nat) : Int) ∧ Below (w.alloc (.cells (tmC t tp tc rp rc p c) 55)).heap.size (w.alloc (.cells (tmC t tp tc rp rc p c) 55)) wr) (fun _ i _ => t.args.length - (intOf i).toNat)
    case atStart => exact ⟨0, Nat.zero_le _, rfl, by simp [nodesM], Below.refl _ _⟩
    case round =>
      obtain ⟨k, hk, rfl, rfl, hbr⟩ := hrel
      have HBR := Lib.hid hbr
      have HB := Lib.hid (HB0.out.trans (hbr.mono HB0.out.size))
      obtain ⟨_, _, _, _, _, _, _, _, d8⟩ := HX0.out.keep hbr
      clear hbr
      by_cases hlk : k < t.args.length
      · obtain ⟨b, o, tp2, tc2, rp2, rc2, p2, c2, rfl, hC, hb, h9, hP⟩ := tm_part HT.out.args k hlk
        obtain ⟨g0, g1, g2, g3, g4, g5, g6, g7, g8⟩ := h9 wr (.of_below HB.out)
        have n1 := nodesM_take t.args k hlk
        have n2 := nodesM_take_le t.args (k + 1)
        have n4 := nodesM_at t.args k hlk
        have n5 := wtS_at t.args k hlk
        have hmk : t.args[k].nodes ≤ m := by have := HM.out; have := HNE.out; omega
        have hi0 : (0 : Int) ≤ (k : Int) := Int.natCast_nonneg _
        have hi1 : (k : Int) < (t.args.length : Int) := by omega
        have b1 : nodesM (t.args.take k) ≤ 1048576 := by omega
        have b2 : t.args[k].nodes ≤ 1048577 := by omega
        have HC := Lib.hid (sizeM_any m wr hmk (hP.stays (.of_below HB.out)) (by omega))
        have HN1 := Lib.hid n1
        have HN2 := Lib.hid n2
        clear hC hb h9 hP n1 n2 n4 n5 hmk
        go_wp2_with fail
        refine HC.out.mono ?_
        rintro e w1 ⟨r, hr, rfl, hb1⟩
        have HB1 := Lib.hid (HBR.out.trans (hb1.mono HBR.out.size))
        clear hb1
        subst hr
        go_wp2_with fail
        go_roundw
        case rel => exact ⟨k + 1, by omega, by go_num, by have h1 := HN1.out; rw [h1]; go_num, HB1.out⟩
        case measure => simp [intOf]; omega
      · obtain rfl : k = t.args.length := by omega
        rw [List.take_length]
        go_wp2_with fail
        go_ret
        exact ⟨_, by rw [HNE.out], rfl, box_rest HBR.out⟩


set_option maxRecDepth 100000 in
set_option maxHeartbeats 1000000 in
theorem depthM_any {C : Nat → Prop} : ∀ (m : Nat) {t : Tm} {tp : Option Addr} {tc : Nat} {rp : Option Addr} {rc : Nat} {p : Option Addr} {c : Nat} (w : World), t.nodes ≤ m → TM' w C t tp tc rp rc p c → t.wt ≤ 1048576 → Calls Try.prog 51 #[tmV t tp tc rp rc p c] w (IntRet (fun r => r = ((t.depth : Nat) : Int)) w)
  | 0, t, tp, tc, rp, rc, p, c, w, hm, hT, hn => by rw [t.nodes_eq] at hm; omega
  | m + 1, t, tp, tc, rp, rc, p, c, w, hm, hT, hn => by
    have HT := Lib.hid hT
    have HX0 := Lib.hid (Bx9.new w t tp tc rp rc p c 55)
    have HB0 := Lib.hid (al_below w (.cells (tmC t tp tc rp rc p c) 55))
    have hne := t.nodes_eq
    have hwe := t.wt_eq
    have hlen := wtS_ge t.args
    have hnw := nodesM_wt t.args
    have HM := Lib.hid hm
    have HNE := Lib.hid hne
    have hwa : wtS t.args ≤ 1048576 := by omega
    clear hT hne hwe hm
    go_enter Try.func51, Try.ntmps51
    go_wp2_with fail
    go_loopw [3, 4] (fun n i wr => ∃ (k : Nat), k ≤ t.args.length ∧ i = .int .i64 k ∧ n = .int .i64 ((depthM (t.args.take k) : Nat) : Int) ∧ Below (w.alloc (.cells (tmC t tp tc rp rc p c) 55)).heap.size (w.alloc (.cells (tmC t tp tc rp rc p c) 55)) wr) (fun _ i _ => t.args.length - (intOf i).toNat)
    case atStart => exact ⟨0, Nat.zero_le _, rfl, by simp [depthM], Below.refl _ _⟩
    case round =>
      obtain ⟨k, hk, rfl, rfl, hbr⟩ := hrel
      have HBR := Lib.hid hbr
      have HB := Lib.hid (HB0.out.trans (hbr.mono HB0.out.size))
      obtain ⟨_, _, _, _, _, _, _, _, d8⟩ := HX0.out.keep hbr
      clear hbr
      by_cases hlk : k < t.args.length
      · obtain ⟨b, o, tp2, tc2, rp2, rc2, p2, c2, rfl, hC, hb, h9, hP⟩ := tm_part HT.out.args k hlk
        obtain ⟨g0, g1, g2, g3, g4, g5, g6, g7, g8⟩ := h9 wr (.of_below HB.out)
        have n1 := nodesM_take t.args k hlk
        have n2 := nodesM_take_le t.args (k + 1)
        have n4 := nodesM_at t.args k hlk
        have n5 := wtS_at t.args k hlk
        have hmk : t.args[k].nodes ≤ m := by have := HM.out; have := HNE.out; omega
        have hi0 : (0 : Int) ≤ (k : Int) := Int.natCast_nonneg _
        have hi1 : (k : Int) < (t.args.length : Int) := by omega
        have m2 := depthM_take t.args k hlk
        have m3 := depthM_nodes (t.args.take k)
        have m4 := t.args[k].depth_nodes
        have b1 : depthM (t.args.take k) ≤ 1048576 := by omega
        have b2 : t.args[k].depth ≤ 1048577 := by omega
        have HM2 := Lib.hid m2
        clear m2 m3 m4
        have HC := Lib.hid (depthM_any m wr hmk (hP.stays (.of_below HB.out)) (by omega))
        have HN1 := Lib.hid n1
        have HN2 := Lib.hid n2
        clear hC hb h9 hP n1 n2 n4 n5 hmk
        go_wp2_with fail
        refine HC.out.mono ?_
        rintro e w1 ⟨r, hr, rfl, hb1⟩
        have HB1 := Lib.hid (HBR.out.trans (hb1.mono HBR.out.size))
        clear hb1
        subst hr
        go_wp2_with fail
        refine (max_any _ _ _).mono ?_
        rintro e w2 ⟨rfl, rfl⟩
        go_wp2_with fail
        go_roundw
        case rel => exact ⟨k + 1, by omega, by go_num, by have h1 := HM2.out; rw [h1]; go_num, HB1.out⟩
        case measure => simp [intOf]; omega
      · obtain rfl : k = t.args.length := by omega
        rw [List.take_length]
        have b3 := depthM_nodes t.args
        have HDE := Lib.hid t.depth_eq
        go_wp2_with fail
        go_ret
        exact ⟨_, by rw [HDE.out]; go_num, rfl, box_rest HBR.out⟩


end Go.Proofs.Ytnciibngcaajgaa

