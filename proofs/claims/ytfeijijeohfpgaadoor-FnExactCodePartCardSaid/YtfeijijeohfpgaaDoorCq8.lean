/-
  Several texts of the proof in one (each says below what it holds): IsNameI SizesT WithinT ValidT FormI WithinM IsTermI RangeD TermAt PartsP.
-/
import Derived.Test.YtfeijijeohfpgaaDoorCq3
import Derived.Test.YtfeijijeohfpgaaDoorCq6
import Derived.Test.YtfeijijeohfpgaaDoorCq7
import Derived.Test.YtfeijijeohfpgaaDoorCq4
import Derived.Test.YtfeijijeohfpgaaDoorCq2
import Derived.Lib.SmallJoins
import Derived.Deep.CutRange
import Derived.Deep.CutBlock
import Derived.Deep.RegionHeld3
set_option linter.unusedVariables false
set_option linter.unusedSimpArgs false
namespace Go.Proofs.YtfeijijeohfpgaaDoor
open Go Go.RowKit

theorem iter_below (w : World) (s : ByteArray) (pos : Nat) : Below w.heap.size w (w.iter s pos) := (Below.refl _ _).alloc (Nat.le_refl _) _
theorem size_nil {s : ByteArray} (h : s.toList = []) : s.size = 0 := by
  rw [ByteArray.toList_eq] at h
  obtain ⟨⟨l⟩⟩ := s
  have : l = [] := h
  subst this
  rfl
theorem nil_size {s : ByteArray} (h : s.size = 0) : s.toList = [] := by
  rw [ByteArray.toList_eq]
  obtain ⟨⟨l⟩⟩ := s
  exact List.eq_nil_of_length_eq_zero h

set_option maxRecDepth 100000 in
set_option maxHeartbeats 1000000 in
theorem nmI_loop (s : ByteArray) (w : World) (h1 : 1 ≤ s.size) (h4 : s.size ≤ 4) (hfree : ¬ Res s) : Calls Tryd.prog 67 #[.string s] w (Tells (Nm s) w) := by
  have t0 : (s.toList == []) = false := by
    rw [beq_eq_false_iff_ne]
    exact fun hc => absurd (size_nil hc) (by omega)
  have HC : Hid (Calls Tryd.prog 87 #[.string s] w fun e w' => e = .returned (.bool false) ∧ Below w.heap.size w w') := Lib.hid ((res_any s w).mono fun e w' ⟨r, hr, he, hb⟩ => by
    cases r with
    | true => exact absurd (hr.1 rfl) hfree
    | false => exact ⟨he, hb⟩)
  have HE := Lib.hid (fun (h : ∀ k, okAt s k) => Nm.mk h h1 h4 hfree)
  clear hfree
  go_enter Tryd.func67, Tryd.ntmps67
  go_wp2_with fail
  refine HC.out.mono ?_
  rintro e w1 ⟨rfl, hb1⟩
  have HB := Lib.hid hb1
  clear hb1 HC
  go_wp2_with fail
  go_loopw [3] (fun _ wr => ∃ pos : Nat, wr = w1.iter s pos ∧ Hid (∀ j, j < pos → okAt s j)) (fun _ wr => s.size - wr.iterPos w1.heap.size)
  case atStart => exact ⟨0, rfl, Lib.hid (fun j hj => absurd hj (Nat.not_lt_zero j))⟩
  case round =>
    obtain ⟨pos, rfl, HK⟩ := hrel
    have HBI := Lib.hid (HB.out.trans ((iter_below w1 s pos).mono HB.out.size))
    by_cases hp : pos < s.size
    · by_cases ha : s[pos].toNat < 128
      · have hnx : ∀ ty, (Instr.next (.pointer (some ⟨w1.heap.size, 0, none⟩)) true ty).run Tryd.prog (w1.iter s pos) = _ := fun ty => run_next_ascii w1 s pos ty hp ha
        have HBN := Lib.hid (HB.out.trans ((iter_below w1 s (pos + 1)).mono HB.out.size))
        by_cases hlet : 97 ≤ s[pos].toNat ∧ s[pos].toNat ≤ 122
        · obtain ⟨l1, l2⟩ := hlet
          have HN := Lib.hid (ok_next HK.out (ok_letter l1 l2))
          go_wp2_with fail
          go_roundw
          case rel => exact ⟨pos + 1, rfl, HN⟩
          case measure => simp; omega
        · by_cases hdig : 1 ≤ pos ∧ 48 ≤ s[pos].toNat ∧ s[pos].toNat ≤ 57
          · obtain ⟨d0, d1, d2⟩ := hdig
            have HN := Lib.hid (ok_next HK.out (ok_digit d0 d1 d2))
            have t := at_more d0
            clear hlet
            go_wp2_with fail
            go_roundw
            case rel => exact ⟨pos + 1, rfl, HN⟩
            case measure => simp; omega
          · have HN := Lib.hid (ok_bad (s := s) (k := pos) (hk := hp) (by omega) (by omega))
            rcases (show s[pos].toNat < 48 ∨ (pos = 0 ∧ 48 ≤ s[pos].toNat ∧ s[pos].toNat ≤ 57) ∨ (57 < s[pos].toNat ∧ s[pos].toNat < 97) ∨ 122 < s[pos].toNat by omega) with b1 | ⟨b0, b1, b2⟩ | ⟨b1, b2⟩ | b1
            all_goals clear hdig hlet
            · skip
              have p48 : decide ((48 : Int) ≤ (s[pos].toNat : Int)) = false := by simp; omega
              have p57 : decide ((s[pos].toNat : Int) ≤ 57) = true := by simp; omega
              have p97 : decide ((97 : Int) ≤ (s[pos].toNat : Int)) = false := by simp; omega
              have p122 : decide ((s[pos].toNat : Int) ≤ 122) = true := by simp; omega
              go_wp2_with fail
              go_ret
              exact ⟨false, tells_no HN.out, rfl, HBN.out⟩
            · subst b0
              have p48 : decide ((48 : Int) ≤ (s[0].toNat : Int)) = true := by simp; omega
              have p57 : decide ((s[0].toNat : Int) ≤ 57) = true := by simp; omega
              have p97 : decide ((97 : Int) ≤ (s[0].toNat : Int)) = false := by simp; omega
              have p122 : decide ((s[0].toNat : Int) ≤ 122) = true := by simp; omega
              go_wp2_with fail
              go_ret
              exact ⟨false, tells_no HN.out, rfl, HBN.out⟩
            · skip
              have p48 : decide ((48 : Int) ≤ (s[pos].toNat : Int)) = true := by simp; omega
              have p57 : decide ((s[pos].toNat : Int) ≤ 57) = false := by simp; omega
              have p97 : decide ((97 : Int) ≤ (s[pos].toNat : Int)) = false := by simp; omega
              have p122 : decide ((s[pos].toNat : Int) ≤ 122) = true := by simp; omega
              go_wp2_with fail
              go_ret
              exact ⟨false, tells_no HN.out, rfl, HBN.out⟩
            · skip
              have p48 : decide ((48 : Int) ≤ (s[pos].toNat : Int)) = true := by simp; omega
              have p57 : decide ((s[pos].toNat : Int) ≤ 57) = false := by simp; omega
              have p97 : decide ((97 : Int) ≤ (s[pos].toNat : Int)) = true := by simp; omega
              have p122 : decide ((s[pos].toNat : Int) ≤ 122) = false := by simp; omega
              go_wp2_with fail
              go_ret
              exact ⟨false, tells_no HN.out, rfl, HBN.out⟩
      · obtain ⟨r, hr⟩ : ∃ r, r = (Utf8.decode s pos).1 := ⟨_, rfl⟩
        obtain ⟨wd, hwd⟩ : ∃ wd, wd = (Utf8.decode s pos).2 := ⟨_, rfl⟩
        have hnx : ∀ ty, (Instr.next (.pointer (some ⟨w1.heap.size, 0, none⟩)) true ty).run Tryd.prog (w1.iter s pos) = _ := fun ty => run_next_any w1 s pos ty hp
        have hrh : 128 ≤ r := by rw [hr]; exact (decode_high s pos hp (by omega)).1
        rw [← hr, ← hwd] at hnx
        clear hr hwd
        have HBN := Lib.hid (HB.out.trans ((iter_below w1 s (pos + wd)).mono HB.out.size))
        have HN := Lib.hid (ok_bad (s := s) (k := pos) (hk := hp) (by omega) (by omega))
        have p48 : decide ((48 : Int) ≤ (r : Int)) = true := by simp; omega
        have p57 : decide ((r : Int) ≤ 57) = false := by simp; omega
        have p97 : decide ((97 : Int) ≤ (r : Int)) = true := by simp; omega
        have p122 : decide ((r : Int) ≤ 122) = false := by simp; omega
        go_wp2_with fail
        go_ret
        exact ⟨false, tells_no HN.out, rfl, HBN.out⟩
    · have hnx : ∀ ty, (Instr.next (.pointer (some ⟨w1.heap.size, 0, none⟩)) true ty).run Tryd.prog (w1.iter s pos) = _ := fun ty => run_next_end w1 s pos ty hp
      have HN := Lib.hid (HE.out (ok_end HK.out (by omega)))
      go_wp2_with fail
      go_ret
      exact ⟨true, tells_yes HN.out, rfl, HBI.out⟩

set_option maxRecDepth 100000 in
set_option maxHeartbeats 1000000 in
theorem nmI_any (s : ByteArray) (w : World) (hs : s.size ≤ 9223372036854775807) : Calls Tryd.prog 67 #[.string s] w (Tells (Nm s) w) := by
  by_cases h0 : s.size = 0
  · have t0 : (s.toList == []) = true := by rw [nil_size h0]; rfl
    have HN := Lib.hid (show ¬ Nm s from fun h => absurd h.lo (by omega))
    clear h0
    go_enter Tryd.func67, Tryd.ntmps67
    go_wp2_with fail
    go_ret
    exact ⟨false, tells_no HN.out, rfl, Below.refl _ _⟩
  have t0 : (s.toList == []) = false := by
    rw [beq_eq_false_iff_ne]
    exact fun hc => h0 (size_nil hc)
  by_cases h4 : 4 < (s.size : Int)
  · have HN := Lib.hid (show ¬ Nm s from fun h => absurd h.hi (by omega))
    go_enter Tryd.func67, Tryd.ntmps67
    go_wp2_with fail
    go_ret
    exact ⟨false, tells_no HN.out, rfl, Below.refl _ _⟩
  by_cases hres : Res s
  · have HN := Lib.hid (show ¬ Nm s from fun h => h.free hres)
    have HC : Hid (Calls Tryd.prog 87 #[.string s] w fun e w' => e = .returned (.bool true) ∧ Below w.heap.size w w') := Lib.hid ((res_any s w).mono fun e w' ⟨r, hr, he, hb⟩ => by
      cases r with
      | true => exact ⟨he, hb⟩
      | false => exact absurd (hr.2 hres) (by decide))
    clear hres
    go_enter Tryd.func67, Tryd.ntmps67
    go_wp2_with fail
    refine HC.out.mono ?_
    rintro e w1 ⟨rfl, hb1⟩
    go_wp2_with fail
    go_ret
    exact ⟨false, tells_no HN.out, rfl, hb1⟩
  exact nmI_loop s w (by omega) (by omega) hres

end Go.Proofs.YtfeijijeohfpgaaDoor
namespace Go.Proofs.YtfeijijeohfpgaaDoor
open Go Go.RowKit Go.Shelf
attribute [local go_sem] Oper.semAt_some

theorem nstaysT {w w' : World} {C : Nat → Prop} {t : Ty} {v : Value} (h : NT w C t v) (hs : Stays C w w') : NT w' C t v := by
  obtain ⟨s, hv, h⟩ := h
  exact ⟨s, hv, h.stays hs⟩
abbrev encNT (x : Ty × Value × Nat) : Array Value := #[x.2.1, .int .i64 (x.2.2 : Nat)]
abbrev keyNT (x : Ty × Value × Nat) : Ty × Nat := (x.1, x.2.2)
abbrev GoodNT (C : Nat → Prop) (x : Ty × Value × Nat) (W : World) : Prop := NT W C x.1 x.2.1
structure IterT (w : World) (t : Ty) (p : Option Addr) (c : Nat) (Bt Bp : Nat) : Prop where
  bt : w.heap[Bt]? = some (.cells #[.int .i64 t.kind, .slice p t.args.length c] 32 (0, 0))
  bp : w.heap[Bp]? = some (.cells #[.func (.func 108) #[] #[]] 128 (0, 0))
  node : TS' w (· < w.heap.size) t p c
abbrev iterT (Bt Bp : Nat) : Value := .func (.func 116) #[] #[.pointer (some ⟨Bt, 0, none⟩), .pointer (some ⟨Bp, 0, none⟩)]

theorem nodesT_seq {w wl : World} {t : Ty} {p : Option Addr} {c : Nat} {Bt Bp : Nat} (h : IterT w t p c Bt Bp) (hn : t.nodes ≤ 2097153) (hb : Below w.heap.size w wl) (Cb : Nat → Prop) (hCb : ∀ b, Cb b → w.heap.size ≤ b ∧ b < wl.heap.size) :
    SeqT Fence.wide 1 Tryd.prog 116 #[.pointer (some ⟨Bt, 0, none⟩), .pointer (some ⟨Bp, 0, none⟩)] encNT keyNT (GoodNT (· < w.heap.size)) Cb (walkT t 1) wl := by
  intro l J Jx W hbW hJ hY hJ0
  have hbt := (Array.getElem?_eq_some_iff.1 h.bt).1
  have hbp := (Array.getElem?_eq_some_iff.1 h.bp).1
  have hbb : Below w.heap.size w W := hb.trans (hbW.mono hb.size)
  exact nodesT_it l Bt Bp t p c Cb (· < w.heap.size) W J Jx ((hbb.block _ hbt).trans h.bt) ((hbb.block _ hbp).trans h.bp) (h.node.stays (.of_below hbb)) hn
    (fun b hc => Nat.lt_of_lt_of_le (hCb b hc).2 hbW.size) (fun b hc => ⟨fun h2 => by have := (hCb b h2).1; omega, Nat.lt_of_lt_of_le hc hbb.size⟩) hbp hJ (fun pre x v d W1 h1 h2 h3 => hY pre (x, v, d) W1 h1 h2 h3) hJ0

theorem goodT_keep {C : Nat → Prop} {n : Nat} (hC : ∀ b, C b → b < n) (x : Ty × Value × Nat) (A B : World) (h : GoodNT C x A) (hb : Below n A B) : GoodNT C x B :=
  nstaysT h ⟨hb.size, fun b hc _ => hb.block b (hC b hc)⟩

def MakesIterT (t : Ty) (p : Option Addr) (c : Nat) (w : World) (e : Ending) (w' : World) : Prop := ∃ Bt Bp, e = .returned (iterT Bt Bp) ∧ IterT w' t p c Bt Bp ∧ Below w.heap.size w w' ∧ w.heap.size ≤ Bt ∧ w.heap.size ≤ Bp
set_option maxRecDepth 100000 in
theorem tnT_any {C : Nat → Prop} {t : Ty} {p : Option Addr} {c : Nat} {w : World} (h : TS' w C t p c) : Calls Tryd.prog 91 #[.agg #[.int .i64 t.kind, .slice p t.args.length c]] w (MakesIterT t p c w) := by
  have HT := Lib.hid (h.mono (C' := (· < w.heap.size)) (fun _ _ hl => hl))
  clear h
  go_enter Tryd.func91, Tryd.ntmps91
  go_wp2
  obtain ⟨wl, hwl, hsz, hbl, _, k1, k2⟩ := box_new3 w #[.int .i64 t.kind, .slice p t.args.length c] #[.int .i64 t.kind, .slice p t.args.length c] #[.func (.func 108) #[] #[]] 32 32 128
  rw [hwl]
  go_ret
  exact ⟨_, _, rfl, ⟨k1, k2, (HT.out.stays (.of_below hbl)).mono (fun z hz _ => by omega)⟩, hbl, by omega, by omega⟩

theorem walkT_pre {pre : List (Ty × Nat)} {t : Ty} (h : pre <+: walkT t 1) (hn : t.nodes ≤ 2097153) : pre.length ≤ 2097153 := by
  have h1 := h.length_le
  rw [walkT_length] at h1
  omega
def maxdT : List (Ty × Nat) → Nat
  | [] => 0
  | e :: l => max e.2 (maxdT l)
theorem maxdT_append (a b : List (Ty × Nat)) : maxdT (a ++ b) = max (maxdT a) (maxdT b) := by
  induction a with
  | nil => simp [maxdT]
  | cons e a ih => simp only [List.cons_append, maxdT, ih]; omega
theorem maxdT_snoc (a : List (Ty × Nat)) (e : Ty × Nat) : maxdT (a ++ [e]) = max (maxdT a) e.2 := by rw [maxdT_append]; simp [maxdT]
theorem maxdT_prefix {a b : List (Ty × Nat)} (h : a <+: b) : maxdT a ≤ maxdT b := by
  obtain ⟨c, rfl⟩ := h
  rw [maxdT_append]
  omega
theorem maxdT_le {l : List (Ty × Nat)} {n : Nat} : maxdT l ≤ n ↔ ∀ e ∈ l, e.2 ≤ n := by
  induction l with
  | nil => simp [maxdT]
  | cons e l ih =>
    rw [List.forall_mem_cons, ← ih]
    simp only [maxdT]
    omega
mutual
theorem maxdT_walk : ∀ (t : Ty) (d : Nat), maxdT (walkT t d) + 1 = d + t.depth
  | .mk k ts, d => by
    have h := maxdT_walkS ts d
    simp only [walkT, maxdT, Ty.depth]
    omega
theorem maxdT_walkS : ∀ (ts : List Ty) (d : Nat), max d (maxdT (walkST ts (d + 1))) = d + depthS ts
  | [], d => by simp [walkST, maxdT, depthS]
  | t :: ts, d => by
    have h1 := maxdT_walkS ts d
    have h2 := maxdT_walk t (d + 1)
    simp only [walkST, maxdT_append, depthS]
    omega
end

end Go.Proofs.YtfeijijeohfpgaaDoor
namespace Go.Proofs.YtfeijijeohfpgaaDoor
open Go Go.RowKit Go.Shelf
attribute [local go_sem] Oper.semAt_some
def SoFarT (ok : Ty → Bool) (ms md : Nat) (pre : List (Ty × Nat)) : Prop := (∀ e ∈ pre, ok e.1 = true ∧ e.2 ≤ md) ∧ pre.length ≤ ms
theorem soFarT_nil (ok : Ty → Bool) (ms md : Nat) : SoFarT ok ms md [] := ⟨by simp, by simp⟩
theorem SoFarT.next {ok : Ty → Bool} {ms md : Nat} {pre : List (Ty × Nat)} {x : Ty} {d : Nat} (h : SoFarT ok ms md pre) (h1 : ok x = true) (h2 : d ≤ md) (h3 : pre.length + 1 ≤ ms) : SoFarT ok ms md (pre ++ [(x, d)]) := by
  refine ⟨fun e he => ?_, by rw [List.length_append, List.length_singleton]; exact h3⟩
  rcases List.mem_append.1 he with he | he
  · exact h.1 e he
  · simp only [List.mem_singleton] at he; subst he; exact ⟨h1, h2⟩
theorem SoFarT.not {ok : Ty → Bool} {ms md : Nat} {t x : Ty} {d : Nat} {pre : List (Ty × Nat)} (h : pre ++ [(x, d)] <+: walkT t 1) (hb : ¬ (ok x = true ∧ d ≤ md ∧ pre.length + 1 ≤ ms)) : ¬ ((∀ e ∈ walkT t 1, ok e.1 = true ∧ e.2 ≤ md) ∧ t.nodes ≤ ms) := by
  rintro ⟨h1, h2⟩
  obtain ⟨h3, h4⟩ := h1 (x, d) (h.subset (by simp))
  have h5 := h.length_le
  rw [walkT_length, List.length_append, List.length_singleton] at h5
  exact hb ⟨h3, h4, by omega⟩

set_option maxRecDepth 100000 in
set_option maxHeartbeats 2000000 in
theorem withinT_any {t : Ty} {p : Option Addr} {c : Nat} {Bt Bp : Nat} {w : World} (h : IterT w t p c Bt Bp) (hn : t.nodes ≤ 2097153) (pf : FuncId) (ok : Ty → Bool) (ms md : Nat) (hpe : ∀ args w, (callFunc pf args).run Tryd.prog w = .ok (.enter pf args) w)
    (hp : ∀ (x : Ty) (v : Value) (d : Nat) (W : World), (x, d) ∈ walkT t 1 → NT W (· < w.heap.size) x v → Below w.heap.size w W → Calls Tryd.prog pf #[v] W (BoolRet (fun b => b = ok x) W)) :
    Calls Tryd.prog 90 #[iterT Bt Bp, .func (.func pf) #[] #[], .int .i64 (ms : Nat), .int .i64 (md : Nat)] w (BoolRet (fun r => r = true ↔ (∀ e ∈ walkT t 1, ok e.1 = true ∧ e.2 ≤ md) ∧ t.nodes ≤ ms) w) := by
  have HI := Lib.hid h
  have HPF := Lib.hid hp
  have HPE := Lib.hid hpe
  clear h hp hpe
  refine (callsIn_wide (n := 2)).1 ?_
  refine callsIn_of_wp_marks Tryd.func90 rfl trivial ?_ rfl
  simp only [Tryd.ntmps90, List.size_toArray, List.length_cons, List.length_nil, Nat.reduceAdd, Nat.reduceSub, Array.replicate_succ, Array.replicate_zero, List.push_toArray, List.append_toArray, List.nil_append, List.cons_append]
  gi_wp2_with fail
  obtain ⟨wl, hwl, hsz, hbl, k0, k1, k2, k3, k4⟩ := box_new5 w #[.func (.func pf) #[] #[]] #[.int .i64 (ms : Nat)] #[.int .i64 (md : Nat)] #[.bool false] #[.int .i64 0] 76 3 3 4 3
  rw [hwl]
  refine range_law (F := Fence.wide) (n := 2) rfl (by omega) (gf := 116) (lb := #[.pointer (some ⟨Bt, 0, none⟩), .pointer (some ⟨Bp, 0, none⟩)]) rfl trivial (enters_of Tryd.func116 (by kernel_rfl) rfl)
    (nodesT_seq HI.out hn hbl (fun b => b = w.heap.size + 3 ∨ b = w.heap.size + 4) (fun b h => by omega)) (fun _ => rfl) (fun b h => by omega)
    (fun pre W => W.heap[w.heap.size]? = some (.cells #[.func (.func pf) #[] #[]] 76 (0, 0)) ∧ W.heap[w.heap.size + 1]? = some (.cells #[.int .i64 (ms : Nat)] 3 (0, 0)) ∧ W.heap[w.heap.size + 1 + 1]? = some (.cells #[.int .i64 (md : Nat)] 3 (0, 0)) ∧
      W.heap[w.heap.size + 1 + 1 + 1]? = some (.cells #[.bool false] 4 (0, 0)) ∧ W.heap[w.heap.size + 1 + 1 + 1 + 1]? = some (.cells #[.int .i64 (pre.length : Nat)] 3 (0, 0)) ∧ SoFarT ok ms md pre ∧ Below w.heap.size w W)
    (fun j pre W => j = .ret ∧ W.cell? ⟨w.heap.size + 1 + 1 + 1, 0, none⟩ = some (.bool false) ∧ ¬ ((∀ e ∈ walkT t 1, ok e.1 = true ∧ e.2 ≤ md) ∧ t.nodes ≤ ms) ∧ Below w.heap.size w W)
    (fun pre A B h hb => ⟨(hb.block _ (by omega)).trans h.1, (hb.block _ (by omega)).trans h.2.1, (hb.block _ (by omega)).trans h.2.2.1, (hb.block _ (by omega)).trans h.2.2.2.1, (hb.block _ (by omega)).trans h.2.2.2.2.1, h.2.2.2.2.2.1, h.2.2.2.2.2.2.trans (hb.mono (by omega))⟩)
    (fun j pre A B h hb => ⟨h.1, (hb.cell (by show w.heap.size + 1 + 1 + 1 < _; omega)).trans h.2.1, h.2.2.1, h.2.2.2.trans (hb.mono (by omega))⟩)
    (goodT_keep (fun b h => by omega)) ⟨k0, k1, k2, k3, k4, soFarT_nil ok ms md, hbl⟩
    (fun x a' W => ∃ bx, W.heap[bx]? = some (.cells x.2.1.cells 32 (0, 0)) ∧ a' = { tmps := #[iterT Bt Bp, .func (.func pf) #[] #[], .int .i64 (ms : Nat), .int .i64 (md : Nat), undef, .pointer (some ⟨w.heap.size, 0, none⟩), .pointer (some ⟨w.heap.size + 1, 0, none⟩), .pointer (some ⟨w.heap.size + 1 + 1, 0, none⟩), .pointer (some ⟨w.heap.size + 1 + 1 + 1, 0, none⟩), .pointer (some ⟨w.heap.size + 1 + 1 + 1 + 1, 0, none⟩),
      .pointer (some ⟨bx, 0, none⟩), .int .i64 (x.2.2 : Nat), iterT Bt Bp, x.2.1, .int .i64 (x.2.2 : Nat), undef, undef, undef, undef, undef, undef, undef, undef, undef, undef, undef, undef, undef, undef, undef, undef], defers := [] })
    (fun x a' W l r o h hl => by
      obtain ⟨bx, h2, h3⟩ := h
      exact ⟨bx, (World.putObj_heap_other (fun e => by rw [e, hl] at h2; cases h2)).trans h2, h3⟩) ?assign ?body ?done ?stop
  case assign =>
    rintro l ⟨x, v, d⟩ W K hG hK
    have hG : TT W (· < w.heap.size) x v := hG
    obtain ⟨s', rfl, hG'⟩ := hG
    obtain ⟨p', c', rfl⟩ := hG'.form
    have HK := Lib.hid hK
    clear hK
    gi_wp2
    exact HK.out _ _ ((Below.refl _ _).alloc (Nat.le_refl _) _) ⟨W.heap.size, blk_new _ _, by simp⟩
  case body =>
    rintro l pre ⟨x, v, d⟩ a' W ⟨hf, hms', hmd', hr, hs, hso, hB⟩ hpre hG ⟨bx, hbx, rfl⟩
    have hpre : pre ++ [(x, d)] <+: walkT t 1 := hpre
    have hbx : W.heap[bx]? = some (.cells v.cells 32 (0, 0)) := hbx
    have hlen := walkT_pre hpre hn
    rw [List.length_append, List.length_singleton] at hlen
    have hd : d ≤ 2097153 := by
      have h1 := maxdT_prefix hpre
      have h2 := maxdT_walk t 1
      have h3 := t.depth_nodes
      rw [maxdT_snoc] at h1
      simp only at h1
      omega
    have hmem : (x, d) ∈ walkT t 1 := hpre.subset (by simp)
    have hG : TT W (· < w.heap.size) x v := hG
    obtain ⟨s', rfl, hG'⟩ := hG
    obtain ⟨p', c', rfl⟩ := hG'.form
    simp only [Value.cells] at hbx
    have s0 := cell_of_blk hs 0
    have sz := unfrozen_of_blk hs 0
    have f0 := cell_of_blk hf 0
    have x0 := cell_of_blk hbx 0
    have x1 := cell_of_blk hbx 1
    simp only [List.getElem?_toArray, List.getElem?_cons_zero, List.getElem?_cons_succ] at x0 x1
    simp only [List.getElem?_toArray, List.getElem?_cons_zero] at s0 f0
    let W1 := W.setCell ⟨w.heap.size + 1 + 1 + 1 + 1, 0, none⟩ (.int .i64 ((pre.length : Nat) + 1))
    have hne : bx ≠ w.heap.size + 1 + 1 + 1 + 1 := fun e => by rw [e, hs] at hbx; simp at hbx
    have hs1 : W1.heap[w.heap.size + 1 + 1 + 1 + 1]? = some (.cells #[.int .i64 ((pre.length : Nat) + 1)] 3 (0, 0)) := by
      rw [show W1 = W.setCell ⟨w.heap.size + 1 + 1 + 1 + 1, 0, none⟩ (.int .i64 ((pre.length : Nat) + 1)) from rfl, Go.Joins.block_setCell hs]; rfl
    have oth : ∀ b, b ≠ w.heap.size + 1 + 1 + 1 + 1 → W1.heap[b]? = W.heap[b]? := fun b hb => Below.heap_setCell _ _ _ _ hb
    have hH1 : Holds (fun b => b = w.heap.size + 3 ∨ b = w.heap.size + 4) W W1 := Holds.setCell (Holds.refl _ W) ⟨w.heap.size + 1 + 1 + 1 + 1, 0, none⟩ (Or.inr rfl) _
    have hB1 : Below w.heap.size w W1 := hB.setCell (p := ⟨w.heap.size + 1 + 1 + 1 + 1, 0, none⟩) (by show w.heap.size ≤ w.heap.size + 1 + 1 + 1 + 1; omega) _
    have hG1 : NT W1 (· < w.heap.size) x (.agg #[.int .i64 x.kind, .slice p' x.args.length c']) := nstaysT (ntT_mk hG') ⟨hH1.1, fun b hb _ => oth b (by omega)⟩
    have HC := Lib.hid (HPF.out x _ d W1 hmem hG1 hB1)
    have HF1 := Lib.hid ((oth _ (by omega)).trans hf)
    have HMS := Lib.hid ((oth _ (by omega)).trans hms')
    have HMD := Lib.hid ((oth _ (by omega)).trans hmd')
    have HR1 := Lib.hid ((oth _ (by omega)).trans hr)
    have HS1 := Lib.hid hs1
    have HH1 := Lib.hid hH1
    have HB1 := Lib.hid hB1
    have HSO := Lib.hid hso
    have HP := Lib.hid hpre
    have HMEM := Lib.hid hmem
    clear hs1 hH1 hB1 hso hpre hs hr hf hms' hmd' hbx hB k0 k1 k2 k3 k4 hG' hG1 hbl hwl oth hmem
    gi_wp2_with fail
    refine ⟨trivial, ?_⟩
    rw [HPE.out]
    refine ⟨(fun h => by cases h), ?_⟩
    refine (CallsIn.inRound l (callsIn_wide.2 HC.out)).mono ?_
    rintro e W2 ⟨b, hb, rfl, hb2⟩
    have l1 := (Array.getElem?_eq_some_iff.1 HS1.out).1
    have l2 := (Array.getElem?_eq_some_iff.1 HR1.out).1
    have l3 := (Array.getElem?_eq_some_iff.1 HMS.out).1
    have l4 := (Array.getElem?_eq_some_iff.1 HMD.out).1
    have l5 := (Array.getElem?_eq_some_iff.1 HF1.out).1
    have s2 := cell_of_blk ((hb2.block _ l1).trans HS1.out) 0
    have r2 := cell_of_blk ((hb2.block _ l2).trans HR1.out) 0
    have rz := unfrozen_of_blk ((hb2.block _ l2).trans HR1.out) 0
    have m2 := cell_of_blk ((hb2.block _ l3).trans HMS.out) 0
    have n2 := cell_of_blk ((hb2.block _ l4).trans HMD.out) 0
    simp only [List.getElem?_toArray, List.getElem?_cons_zero] at s2 r2 m2 n2
    have HF2 := Lib.hid ((hb2.block _ l5).trans HF1.out)
    have HMS2 := Lib.hid ((hb2.block _ l3).trans HMS.out)
    have HMD2 := Lib.hid ((hb2.block _ l4).trans HMD.out)
    have HS2 := Lib.hid ((hb2.block _ l1).trans HS1.out)
    have HR2 := Lib.hid ((hb2.block _ l2).trans HR1.out)
    have hH2 : Holds (fun b => b = w.heap.size + 3 ∨ b = w.heap.size + 4) W W2 := HH1.out.trans (.of_below hb2)
    have hB2 : Below w.heap.size w W2 := HB1.out.trans (hb2.mono HB1.out.size)
    have finR : ¬ (ok x = true ∧ d ≤ md ∧ pre.length + 1 ≤ ms) → Holds (fun b => b = w.heap.size + 3 ∨ b = w.heap.size + 4) W (W2.setCell ⟨w.heap.size + 1 + 1 + 1, 0, none⟩ (.bool false)) ∧
        ((W2.setCell ⟨w.heap.size + 1 + 1 + 1, 0, none⟩ (.bool false)).cell? ⟨w.heap.size + 1 + 1 + 1, 0, none⟩ = some (.bool false) ∧ ¬ ((∀ e ∈ walkT t 1, ok e.1 = true ∧ e.2 ≤ md) ∧ t.nodes ≤ ms) ∧ Below w.heap.size w (W2.setCell ⟨w.heap.size + 1 + 1 + 1, 0, none⟩ (.bool false))) := fun hv =>
      ⟨hH2.setCell ⟨w.heap.size + 1 + 1 + 1, 0, none⟩ (Or.inl rfl) _, World.cell?_setCell_same' _ _ _ (by rw [r2]; rfl), SoFarT.not HP.out hv, hB2.setCell (p := ⟨w.heap.size + 1 + 1 + 1, 0, none⟩) (by show w.heap.size ≤ w.heap.size + 1 + 1 + 1; omega) _⟩
    have finN : ok x = true → d ≤ md → pre.length + 1 ≤ ms → Holds (fun b => b = w.heap.size + 3 ∨ b = w.heap.size + 4) W W2 ∧
        (W2.heap[w.heap.size]? = some (.cells #[.func (.func pf) #[] #[]] 76 (0, 0)) ∧ W2.heap[w.heap.size + 1]? = some (.cells #[.int .i64 (ms : Nat)] 3 (0, 0)) ∧ W2.heap[w.heap.size + 1 + 1]? = some (.cells #[.int .i64 (md : Nat)] 3 (0, 0)) ∧
        W2.heap[w.heap.size + 1 + 1 + 1]? = some (.cells #[.bool false] 4 (0, 0)) ∧ W2.heap[w.heap.size + 1 + 1 + 1 + 1]? = some (.cells #[.int .i64 ((pre ++ [(x, d)]).length : Nat)] 3 (0, 0)) ∧ SoFarT ok ms md (pre ++ [(x, d)]) ∧ Below w.heap.size w W2) := fun h1 h2 h3 =>
      ⟨hH2, HF2.out, HMS2.out, HMD2.out, HR2.out, by rw [HS2.out, List.length_append, List.length_singleton]; rfl, HSO.out.next h1 h2 h3, hB2⟩
    have FR := Lib.hid finR
    have FN := Lib.hid finN
    have HBB := Lib.hid hb
    clear finR finN hH2 hB2 hb2 hb s0 sz f0 x0 x1 l1 l2 l3 l4 l5
    have d0 : (0 : Int) ≤ (d : Int) := Int.natCast_nonneg _
    cases b with
    | true =>
      by_cases h30 : (ms : Int) < (pre.length : Int) + 1
      · gi_wp2_with fail
        exact (fun h => ⟨h.1, rfl, h.2⟩) (FR.out (fun h => by omega))
      · by_cases h8 : (md : Int) < (d : Int)
        · gi_wp2_with fail
          exact (fun h => ⟨h.1, rfl, h.2⟩) (FR.out (fun h => by omega))
        · gi_wp2_with fail
          exact FN.out HBB.out.symm (by omega) (by omega)
    | false =>
      gi_wp2_with fail
      exact (fun h => ⟨h.1, rfl, h.2⟩) (FR.out (fun h => by have := HBB.out; rw [h.1] at this; exact absurd this (by decide)))
  case done =>
    rintro D W hD ⟨_, _, _, hr, _, hso, hB⟩ hK
    have r0 := cell_of_blk hr 0
    have rz := unfrozen_of_blk hr 0
    simp only [List.getElem?_toArray, List.getElem?_cons_zero] at r0
    have HV := Lib.hid (show (∀ e ∈ walkT t 1, ok e.1 = true ∧ e.2 ≤ md) ∧ t.nodes ≤ ms from ⟨hso.1, by have := hso.2; rwa [walkT_length] at this⟩)
    have HB := Lib.hid hB
    have HK := Lib.hid hK
    have hK' : (W.setCell ⟨w.heap.size + 1 + 1 + 1, 0, none⟩ (.bool true)).heap[D]? = some (.deferred (some [])) := (Below.heap_setCell _ _ _ _ (by show D ≠ w.heap.size + 1 + 1 + 1; omega)).trans hK
    clear hso hB hr hK k0 k1 k2 k3 k4 hbl hwl
    gi_wp2_with fail
    refine ⟨by simp, .inl ⟨_, _, rfl, run_takeDeferred hK', ?_⟩⟩
    have hc := (World.cell?_of_block (a := ⟨w.heap.size + 1 + 1 + 1, 0, none⟩) (w' := (W.setCell ⟨w.heap.size + 1 + 1 + 1, 0, none⟩ (.bool true)).putObj D (.deferred none)) (World.putObj_heap_other (by show w.heap.size + 1 + 1 + 1 ≠ D; omega))).trans (World.cell?_setCell_same' W ⟨w.heap.size + 1 + 1 + 1, 0, none⟩ (.bool true) (by rw [r0]; rfl))
    refine ⟨.bool true, ?_, _, ⟨fun _ => HV.out, fun _ => rfl⟩, rfl, (HB.out.setCell (p := ⟨w.heap.size + 1 + 1 + 1, 0, none⟩) (by show w.heap.size ≤ w.heap.size + 1 + 1 + 1; omega) _).trans (below_putObj _ _ _ _ (by omega))⟩
    rw [results_cell1 rfl]
    go_simp
  case stop =>
    rintro D c pre W hD hpre ⟨rfl, hr, hv, hB⟩ hK
    have HB := Lib.hid hB
    have HV := Lib.hid hv
    clear hv hB k0 k1 k2 k3 k4 hbl hwl
    gi_wp2_with fail
    refine ⟨by simp, .inl ⟨_, _, rfl, run_takeDeferred hK, ?_⟩⟩
    have hc := (World.cell?_of_block (a := ⟨w.heap.size + 1 + 1 + 1, 0, none⟩) (w' := W.putObj D (.deferred none)) (World.putObj_heap_other (by show w.heap.size + 1 + 1 + 1 ≠ D; omega))).trans hr
    refine ⟨.bool false, ?_, _, ⟨fun h => by simp at h, fun h => absurd h HV.out⟩, rfl, HB.out.trans (below_putObj _ _ _ _ (by omega))⟩
    rw [results_cell1 rfl]
    go_simp
end Go.Proofs.YtfeijijeohfpgaaDoor
namespace Go.Proofs.YtfeijijeohfpgaaDoor
open Go Go.RowKit Go.Shelf
attribute [local go_sem] Oper.semAt_some
def okK (x : Ty) : Bool := if x.kind = 1 ∨ x.kind = 2 then x.args.length == 0 else if x.kind = 3 then x.args.length == 2 else x.kind == 4 && x.args.length == 1
theorem form_at (t : Ty) : t.form = (formS t.args && okK t) := by cases t; rw [Ty.form]; rfl
mutual
theorem form_walk : ∀ (t : Ty) (d : Nat), t.form = true ↔ ∀ e ∈ walkT t d, okK e.1 = true
  | .mk k ts, d => by
    have h := form_walkST ts (d + 1)
    rw [form_at, Bool.and_eq_true]
    simp only [Ty.args_mk, walkT, List.forall_mem_cons, h]
    exact And.comm
theorem form_walkST : ∀ (ts : List Ty) (d : Nat), formS ts = true ↔ ∀ e ∈ walkST ts d, okK e.1 = true
  | [], d => by simp [formS, walkST]
  | t :: ts, d => by
    have h1 := form_walkST ts d
    have h2 := form_walk t d
    simp only [formS, walkST, Bool.and_eq_true, List.forall_mem_append, h1, h2]
end
theorem valid_walk (t : Ty) : t.valid = true ↔ (∀ e ∈ walkT t 1, okK e.1 = true ∧ e.2 ≤ 8) ∧ t.nodes ≤ 30 := by
  have h1 := form_walk t 1
  have h2 : t.depth ≤ 8 ↔ ∀ e ∈ walkT t 1, e.2 ≤ 8 := by
    rw [← maxdT_le]
    have := maxdT_walk t 1
    omega
  simp only [Ty.valid, Bool.and_eq_true, decide_eq_true_eq]
  rw [h1, h2]
  constructor
  · rintro ⟨⟨a, b⟩, c⟩
    exact ⟨fun e he => ⟨c e he, b e he⟩, a⟩
  · rintro ⟨a, b⟩
    exact ⟨⟨b, fun e he => (a e he).2⟩, fun e he => (a e he).1⟩
theorem okK_kind (x : Ty) : okK x = true ↔ (x.kind = 1 ∧ x.args.length = 0) ∨ (x.kind = 2 ∧ x.args.length = 0) ∨ (x.kind = 3 ∧ x.args.length = 2) ∨ (x.kind = 4 ∧ x.args.length = 1) := by
  unfold okK
  by_cases h1 : x.kind = 1 ∨ x.kind = 2
  · rw [if_pos h1]; simp only [beq_iff_eq]; omega
  · rw [if_neg h1]
    by_cases h3 : x.kind = 3
    · rw [if_pos h3]; simp only [beq_iff_eq]; omega
    · rw [if_neg h3]; simp only [Bool.and_eq_true, beq_iff_eq]; omega

set_option maxRecDepth 100000 in
theorem proper_any {C : Nat → Prop} {x : Ty} {v : Value} {w : World} (h : TT w C x v) : Calls Tryd.prog 88 #[v] w (BoolRet (fun b => b = okK x) w) := by
  obtain ⟨s, rfl, hS⟩ := h
  obtain ⟨p, c, rfl⟩ := hS.form
  have HL := Lib.hid hS.len
  have HOK := Lib.hid (okK_kind x)
  clear hS
  go_enter Tryd.func88, Tryd.ntmps88
  go_wp2_with fail
  refine (kindOf_any x.kind p x.args.length c _ HL.out).mono ?_
  rintro e w1 ⟨rfl, hb⟩
  have HB := Lib.hid hb
  clear hb
  rcases kindV_cases x.kind x.args.length with ⟨hc, hk⟩ | ⟨hc, hk⟩ | ⟨hc, hk⟩ | ⟨hc, hk⟩ | ⟨hc, hk⟩
  · rw [hk]
    have HO1 := Lib.hid (HOK.out.2 (by omega))
    clear hc hk
    go_wp2_with fail
    go_ret
    exact ⟨_, HO1.out.symm, rfl, ((Below.refl w.heap.size w).alloc (Nat.le_refl _) _).trans (HB.out.mono (by simp))⟩
  · rw [hk]
    have HO1 := Lib.hid (HOK.out.2 (by omega))
    clear hc hk
    go_wp2_with fail
    go_ret
    exact ⟨_, HO1.out.symm, rfl, ((Below.refl w.heap.size w).alloc (Nat.le_refl _) _).trans (HB.out.mono (by simp))⟩
  · rw [hk]
    have HO1 := Lib.hid (HOK.out.2 (by omega))
    clear hc hk
    go_wp2_with fail
    go_ret
    exact ⟨_, HO1.out.symm, rfl, ((Below.refl w.heap.size w).alloc (Nat.le_refl _) _).trans (HB.out.mono (by simp))⟩
  · rw [hk]
    have HO1 := Lib.hid (HOK.out.2 (by omega))
    clear hc hk
    go_wp2_with fail
    go_ret
    exact ⟨_, HO1.out.symm, rfl, ((Below.refl w.heap.size w).alloc (Nat.le_refl _) _).trans (HB.out.mono (by simp))⟩
  · rw [hk]
    have HO1 := Lib.hid (show okK x = false by cases h : okK x with | false => rfl | true => have := HOK.out.1 h; omega)
    clear hc hk
    go_wp2_with fail
    go_ret
    exact ⟨_, HO1.out.symm, rfl, ((Below.refl w.heap.size w).alloc (Nat.le_refl _) _).trans (HB.out.mono (by simp))⟩

set_option maxRecDepth 100000 in
theorem validI_any {C : Nat → Prop} {t : Ty} {v : Value} {w : World} (h : TT w C t v) (hn : nodesS t.args ≤ 2097152) :
    Calls Tryd.prog 69 #[v] w (BoolRet (fun r => r = t.valid) w) := by
  have hn' : t.nodes ≤ 2097153 := by have := t.nodes_eq; omega
  obtain ⟨s, rfl, hS⟩ := h
  obtain ⟨p, c, rfl⟩ := hS.form
  have HT := Lib.hid (fun (A : Array Value) (T : TypeId) => tnT_any (hS.stays (.of_below ((Below.refl w.heap.size w).alloc (Nat.le_refl _) (.cells A T)))))
  clear hS
  go_enter Tryd.func69, Tryd.ntmps69
  go_wp2_with fail
  refine (HT.out _ _).mono ?_
  rintro e w1 ⟨Bt, Bp, rfl, hI, hb, -⟩
  have HI := Lib.hid hI
  have HB := Lib.hid hb
  clear hI hb
  go_wp2_with fail
  refine (withinT_any HI.out hn' 88 okK 30 8 (enters_of Tryd.func88 (by kernel_rfl) rfl) (fun x v d W _ hx _ => proper_any hx)).mono ?_
  rintro e w2 ⟨r, hr, rfl, hb2⟩
  have HR := Lib.hid (show r = t.valid by
    have h1 := valid_walk t
    rw [← hr] at h1
    cases r <;> cases hv : t.valid <;> simp_all)
  have HB2 := Lib.hid hb2
  clear hr hb2
  go_wp2_with fail
  go_ret
  exact ⟨_, HR.out, rfl, (((Below.refl w.heap.size w).alloc (Nat.le_refl _) _).trans (HB.out.mono (by simp))).trans (HB2.out.mono (by have := HB.out.size; simp at this; omega))⟩
end Go.Proofs.YtfeijijeohfpgaaDoor
namespace Go.Proofs.YtfeijijeohfpgaaDoor
open Go Go.RowKit

theorem Tm.NodeOk.ar {t : Tm} (h : t.NodeOk) : t.arOk := ⟨h.2, fun k => by
  have h1 := h.2
  have h2 := (names_4 k).1 h.1.names
  rw [Tm.arity, k] at h1
  simp only [arK] at h1
  have h3 : (arK 4 (opAr t.name.toList)) = opAr t.name.toList := by simp [arK]
  omega⟩
theorem node_fields {t : Tm} (ha : t.arOk) : t.NodeOk ↔ t.FieldsOk := ⟨fun h => h.1, fun h => ⟨h, ha.1⟩⟩
theorem zero_valid {t : Ty} (h : zeroT t) : ¬ t.valid = true := fun e => by
  have h1 := ((valid_walk t).1 e).1 (t, 1) (by rw [walkT_eq]; simp)
  have h2 := (okK_kind t).1 h1.1
  have h3 := h.1
  omega
theorem fo_plain {t : Tm} (h6 : ¬ t.kind = 6) (h9 : ¬ t.kind = 9) : t.FieldsOk ↔ zeroT t.ty ∧ zeroT t.res ∧ (0 ≤ t.n ∧ t.n ≤ t.most) ∧ t.namesOk :=
  ⟨fun h => ⟨h.ty2.elim (fun e => (e.elim h6 h9).elim) id, h.res2.elim (fun e => (h9 e).elim) id, h.n, h.names⟩,
   fun h => ⟨⟨fun e => (e.elim h6 h9).elim, fun e => (zero_valid h.1 e).elim⟩, Or.inr h.1, ⟨fun e => (h9 e).elim, fun e => (zero_valid h.2.1 e).elim⟩, Or.inr h.2.1, h.2.2.1, h.2.2.2⟩⟩
theorem fo_six {t : Tm} (k : t.kind = 6) : t.FieldsOk ↔ t.ty.valid = true ∧ zeroT t.res ∧ (0 ≤ t.n ∧ t.n ≤ t.most) ∧ t.namesOk :=
  have h9 : ¬ t.kind = 9 := by omega
  ⟨fun h => ⟨h.ty1.1 (Or.inl k), h.res2.elim (fun e => (h9 e).elim) id, h.n, h.names⟩,
   fun h => ⟨⟨fun _ => h.1, fun _ => Or.inl k⟩, Or.inl (Or.inl k), ⟨fun e => (h9 e).elim, fun e => (zero_valid h.2.1 e).elim⟩, Or.inr h.2.1, h.2.2.1, h.2.2.2⟩⟩
theorem fo_nine {t : Tm} (k : t.kind = 9) : t.FieldsOk ↔ t.ty.valid = true ∧ t.res.valid = true ∧ (0 ≤ t.n ∧ t.n ≤ t.most) ∧ t.namesOk :=
  ⟨fun h => ⟨h.ty1.1 (Or.inr k), h.res1.1 k, h.n, h.names⟩,
   fun h => ⟨⟨fun _ => h.1, fun _ => Or.inr k⟩, Or.inl (Or.inr k), ⟨fun _ => h.2.1, fun _ => k⟩, Or.inl k, h.2.2.1, h.2.2.2⟩⟩
theorem emp_list : (⟨#[]⟩ : ByteArray).toList = [] := nil_size rfl
def Tm.Clear (u : Tm) : Prop := u.name.toList = [] ∧ u.other.toList = [] ∧ u.n = 0 ∧ zeroT u.ty ∧ zeroT u.res

theorem clear_name {t : Tm} (h6 : ¬ t.kind = 6) (h9 : ¬ t.kind = 9) (h4 : ¬ t.kind = 4) (ha : t.arOk) (h2 : t.kind = 1 ∨ t.kind = 8) {r : Bool} (hr : r = true ↔ Nm t.name) :
    (r = true ∧ (Tm.mk t.kind ⟨#[]⟩ t.other t.n t.ty t.res t.args).Clear) ↔ t.NodeOk := by
  rw [node_fields ha, fo_plain h6 h9, names_1 h4 (by omega), hr, show t.most = 0 from by unfold Tm.most; rw [if_neg (by omega), if_neg (by omega)]]
  constructor
  · rintro ⟨a, b, c, d, e, f⟩
    exact ⟨e, f, ⟨by show 0 ≤ t.n; have : t.n = 0 := d; omega, by have : t.n = 0 := d; omega⟩, a, c⟩
  · rintro ⟨a, b, c, d, e⟩
    exact ⟨d, emp_list, e, by show t.n = 0; omega, a, b⟩
theorem clear_num {t : Tm} (h4 : ¬ t.kind = 4) (h1 : ¬ (t.kind = 1 ∨ t.kind = 6 ∨ t.kind = 8)) (h9 : ¬ t.kind = 9) (ha : t.arOk) {r : Bool} (hr : r = true ↔ 0 ≤ t.n ∧ t.n ≤ t.most) :
    (r = true ∧ (Tm.mk t.kind t.name t.other 0 t.ty t.res t.args).Clear) ↔ t.NodeOk := by
  rw [node_fields ha, fo_plain (fun e => h1 (Or.inr (Or.inl e))) h9, names_0 h4 h1 h9, hr]
  constructor
  · rintro ⟨a, b, c, d, e, f⟩
    exact ⟨e, f, a, b, c⟩
  · rintro ⟨a, b, c, d, e⟩
    exact ⟨c, d, e, rfl, a, b⟩
theorem clear_op {t : Tm} (h4 : t.kind = 4) (ha : t.arOk) :
    (true = true ∧ (Tm.mk t.kind ⟨#[]⟩ t.other t.n t.ty t.res t.args).Clear) ↔ t.NodeOk := by
  have hp : 0 < opAr t.name.toList := by
    have h1 := ha.1
    have h2 := ha.2 h4
    rw [Tm.arity, h4] at h1
    have h3 : (arK 4 (opAr t.name.toList)) = opAr t.name.toList := by simp [arK]
    omega
  rw [node_fields ha, fo_plain (by omega) (by omega), names_4 h4, show t.most = 0 from by unfold Tm.most; rw [if_neg (by omega), if_neg (by omega)]]
  constructor
  · rintro ⟨-, b, c, d, e, f⟩
    exact ⟨e, f, ⟨by show 0 ≤ t.n; have : t.n = 0 := d; omega, by have : t.n = 0 := d; omega⟩, hp, c⟩
  · rintro ⟨a, b, c, d, e⟩
    exact ⟨rfl, emp_list, e, by show t.n = 0; omega, a, b⟩
theorem clear_six {t : Tm} (k : t.kind = 6) (ha : t.arOk) {r : Bool} (hr : r = true ↔ Nm t.name ∧ t.ty.valid = true) :
    (r = true ∧ (Tm.mk t.kind ⟨#[]⟩ t.other t.n (.mk 0 []) t.res t.args).Clear) ↔ t.NodeOk := by
  rw [node_fields ha, fo_six k, names_1 (by omega) (by omega), hr, show t.most = 0 from by unfold Tm.most; rw [if_neg (by omega), if_neg (by omega)]]
  constructor
  · rintro ⟨⟨a, a2⟩, b, c, d, e, f⟩
    exact ⟨a2, f, ⟨by show 0 ≤ t.n; have : t.n = 0 := d; omega, by have : t.n = 0 := d; omega⟩, a, c⟩
  · rintro ⟨a, b, c, d, e⟩
    exact ⟨⟨d, a⟩, emp_list, e, by show t.n = 0; omega, ⟨rfl, rfl⟩, b⟩
theorem clear_nine {t : Tm} (k : t.kind = 9) (ha : t.arOk) {r : Bool} (hr : r = true ↔ Nm t.name ∧ Nm t.other ∧ t.name ≠ t.other ∧ t.ty.valid = true ∧ t.res.valid = true) :
    (r = true ∧ (Tm.mk t.kind ⟨#[]⟩ ⟨#[]⟩ t.n (.mk 0 []) (.mk 0 []) t.args).Clear) ↔ t.NodeOk := by
  rw [node_fields ha, fo_nine k, names_9 (by omega) (by omega) k, hr, show t.most = 0 from by unfold Tm.most; rw [if_neg (by omega), if_neg (by omega)]]
  constructor
  · rintro ⟨⟨a1, a2, a3, a4, a5⟩, b, c, d, e, f⟩
    exact ⟨a4, a5, ⟨by show 0 ≤ t.n; have : t.n = 0 := d; omega, by have : t.n = 0 := d; omega⟩, a1, a2, a3⟩
  · rintro ⟨a, b, c, d1, d2, d3⟩
    exact ⟨⟨d1, d2, d3, a, b⟩, emp_list, emp_list, by show t.n = 0; omega, ⟨rfl, rfl⟩, ⟨rfl, rfl⟩⟩
theorem clear_oth {t : Tm} (h4 : ¬ t.kind = 4) (h1 : ¬ (t.kind = 1 ∨ t.kind = 6 ∨ t.kind = 8)) (h9 : ¬ t.kind = 9) (h2 : ¬ t.kind = 2) (h3 : ¬ t.kind = 3) (ha : t.arOk) :
    (true = true ∧ (Tm.mk t.kind t.name t.other t.n t.ty t.res t.args).Clear) ↔ t.NodeOk := by
  rw [node_fields ha, fo_plain (fun e => h1 (Or.inr (Or.inl e))) h9, names_0 h4 h1 h9, show t.most = 0 from by unfold Tm.most; rw [if_neg h2, if_neg h3]]
  constructor
  · rintro ⟨-, b, c, d, e, f⟩
    exact ⟨e, f, ⟨by show 0 ≤ t.n; have : t.n = 0 := d; omega, by have : t.n = 0 := d; omega⟩, b, c⟩
  · rintro ⟨a, b, c, d, e⟩
    exact ⟨rfl, d, e, by show t.n = 0; omega, a, b⟩

set_option maxRecDepth 100000 in
set_option maxHeartbeats 8000000 in
theorem formI_any {C : Nat → Prop} {t : Tm} {tp : Option Addr} {tc : Nat} {rp : Option Addr} {rc : Nat} {p : Option Addr} {c : Nat} (w : World) (hka : KA w) (hT : TM' w C t tp tc rp rc p c) (hn : t.wt ≤ 2097152) :
    Calls Tryd.prog 44 #[tmV t tp tc rp rc p c] w (Tells t.NodeOk w) := by
  have hb0 := al_below w (.cells (tmC t tp tc rp rc p c) 35)
  have HA := Lib.hid (hasAr_any t tp tc rp rc p c _ (hka.below hb0) hn)
  have HB := Lib.hid hb0
  have hwt := t.wt_eq
  have HNM := Lib.hid (fun W => nmI_any t.name W (by omega))
  have HNO := Lib.hid (fun W => nmI_any t.other W (by omega))
  have n1 : nodesS t.ty.args ≤ 2097152 := by omega
  have n2 : nodesS t.res.args ≤ 2097152 := by omega
  have HVT := Lib.hid (fun (W : World) (hW : Below w.heap.size w W) => validI_any (⟨_, rfl, hT.ty.keep hW⟩ : TT W C t.ty (.agg #[.int .i64 t.ty.kind, .slice tp t.ty.args.length tc])) n1)
  have HVR := Lib.hid (fun (W : World) (hW : Below w.heap.size w W) => validI_any (⟨_, rfl, hT.res.keep hW⟩ : TT W C t.res (.agg #[.int .i64 t.res.kind, .slice rp t.res.args.length rc])) n2)
  clear hka hb0 hwt n1 n2 hT hn
  have HX := Lib.hid (Bx9.new w t tp tc rp rc p c 35)
  go_enter Tryd.func44, Tryd.ntmps44
  go_wp2_with fail
  refine HA.out.mono ?_
  rintro e w1 ⟨r, hr, rfl, hb1⟩
  have HR := Lib.hid hr
  have HB1 := Lib.hid (HB.out.trans (hb1.mono HB.out.size))
  have HX1 := Lib.hid (HX.out.keep hb1)
  obtain ⟨g0, g1, g2, g3, g4, g5, g6, g7, g8⟩ := HX.out.keep hb1
  clear hr hb1 HA
  cases r with
  | false =>
    go_wp2_with fail
    go_ret
    exact ⟨_, lit_f (fun h => by have := HR.out.2 h.ar; cases this), rfl, HB1.out⟩
  | true =>
    have HAR := Lib.hid (HR.out.1 rfl)
    have hbn := al_below w1 (.cells (tmC t tp tc rp rc p c) 35)
    have HBN := Lib.hid (HB1.out.trans (hbn.mono HB1.out.size))
    have HXN := Lib.hid (HX1.out.keep hbn)
    have HNB := Lib.hid (blk_new w1 (.cells (tmC t tp tc rp rc p c) 35))
    have n0 : (w1.alloc (.cells #[.int .i64 t.kind, .string t.name, .string t.other, .int .i64 t.n, .int .i64 t.ty.kind, .slice tp t.ty.args.length tc, .int .i64 t.res.kind, .slice rp t.res.args.length rc, .slice p t.args.length c] 35)).cell? ⟨w.heap.size, 0, none⟩ = some (.int .i64 t.kind) := HXN.out.kind
    clear hbn
    go_upto_block 0 with fail
    go_cut [3] from 5 to 112 (fun s3 wx => ∃ (pr : Bool) (u : Tm) (tp' : Option Addr) (tc' : Nat) (rp' : Option Addr) (rc' : Nat), s3 = .bool pr ∧ Bx9 wx w1.heap.size u tp' tc' rp' rc' p c ∧ ((pr = true ∧ u.Clear) ↔ t.NodeOk) ∧ Below w.heap.size w wx)
    case first =>
      clear n0 g0 g1 g2 g3 g4 g5 g6 g7 g8
      obtain ⟨g0, g1, g2, g3, g4, g5, g6, g7, g8⟩ := HXN.out
      have HKN := Lib.hid HNB.out
      by_cases k1 : t.kind = 1
      · have HKD := Lib.hid k1
        have e1 : (t.kind == 1) = true := by simp [k1]
        clear k1
        go_wp2_with fail
        refine (HNM.out _).mono ?_
        rintro e w2 ⟨r2, hr2, rfl, hb2⟩
        have HR2 := Lib.hid hr2
        clear hr2
        have HB2 := Lib.hid (HBN.out.trans (hb2.mono HBN.out.size))
        have HX2 := Lib.hid (HXN.out.keep hb2)
        have HK2 := Lib.hid ((hb2.block _ (Array.getElem?_eq_some_iff.1 HKN.out).1).trans HKN.out)
        clear hb2 g0 g1 g2 g3 g4 g5 g6 g7 g8
        obtain ⟨g0, g1, g2, g3, g4, g5, g6, g7, g8⟩ := HX2.out
        have c1 := cell_of_blk HK2.out 1
        have cz := unfrozen_of_blk HK2.out
        go_wp2_with fail
        go_meet
        exact ⟨_, (.mk t.kind ⟨#[]⟩ t.other t.n t.ty t.res t.args), tp, tc, rp, rc, rfl, Bx9.of (by rw [Go.Joins.block_setCell HK2.out _]; rfl), clear_name (by have := HKD.out; omega) (by have := HKD.out; omega) (by have := HKD.out; omega) HAR.out (Or.inl HKD.out) HR2.out, (HB2.out.setCell (p := ⟨w1.heap.size, 1, none⟩) (by show w.heap.size ≤ w1.heap.size; exact HB1.out.size) _)⟩
      by_cases k8 : t.kind = 8
      · have HKD := Lib.hid k8
        have e1 : (t.kind == 1) = false := by simp [k8]
        have e8 : (t.kind == 8) = true := by simp [k8]
        clear k1
        clear k8
        go_wp2_with fail
        refine (HNM.out _).mono ?_
        rintro e w2 ⟨r2, hr2, rfl, hb2⟩
        have HR2 := Lib.hid hr2
        clear hr2
        have HB2 := Lib.hid (HBN.out.trans (hb2.mono HBN.out.size))
        have HX2 := Lib.hid (HXN.out.keep hb2)
        have HK2 := Lib.hid ((hb2.block _ (Array.getElem?_eq_some_iff.1 HKN.out).1).trans HKN.out)
        clear hb2 g0 g1 g2 g3 g4 g5 g6 g7 g8
        obtain ⟨g0, g1, g2, g3, g4, g5, g6, g7, g8⟩ := HX2.out
        have c1 := cell_of_blk HK2.out 1
        have cz := unfrozen_of_blk HK2.out
        go_wp2_with fail
        go_meet
        exact ⟨_, (.mk t.kind ⟨#[]⟩ t.other t.n t.ty t.res t.args), tp, tc, rp, rc, rfl, Bx9.of (by rw [Go.Joins.block_setCell HK2.out _]; rfl), clear_name (by have := HKD.out; omega) (by have := HKD.out; omega) (by have := HKD.out; omega) HAR.out (Or.inr HKD.out) HR2.out, (HB2.out.setCell (p := ⟨w1.heap.size, 1, none⟩) (by show w.heap.size ≤ w1.heap.size; exact HB1.out.size) _)⟩
      by_cases k2 : t.kind = 2
      · have HKD := Lib.hid k2
        have e1 : (t.kind == 1) = false := by simp [k2]
        have e8 : (t.kind == 8) = false := by simp [k2]
        have e2 : (t.kind == 2) = true := by simp [k2]
        clear k1 k8
        clear k2
        have c3 := cell_of_blk HKN.out 3
        have cz := unfrozen_of_blk HKN.out
        have HRD := Lib.hid (redI_any t.n)
        go_wp2_with fail
        go_region_held3 (fun w' => w'.cell? ⟨w.heap.size, 3, none⟩ = some (.int .i64 t.n) ∧ w'.heap[w1.heap.size]? = some (.cells (tmC t tp tc rp rc p c) 35 (0, 0)) ∧ Below w.heap.size w w')
          (first
            | (go_keep; done)
            | exact ⟨g3, HKN.out, HBN.out.drew⟩
            | assumption)
          (first
            | (go_at_call 68; refine (HRD.out _).mono ?_; rintro e w5 ⟨rfl, rfl⟩))
        rename_i hH
        clear hH
        go_wp2_with fail
        go_meet
        exact ⟨_, (.mk t.kind t.name t.other 0 t.ty t.res t.args), tp, tc, rp, rc, rfl, Bx9.of (blk_new w1 _), clear_num (by have := HKD.out; omega) (by have := HKD.out; omega) (by have := HKD.out; omega) HAR.out (by rw [beq_iff_eq, Tm.most, if_pos HKD.out]; omega), (HB1.out.trans ((al_below w1 _).mono HB1.out.size)).drew⟩
      by_cases k3 : t.kind = 3
      · have HKD := Lib.hid k3
        have e1 : (t.kind == 1) = false := by simp [k3]
        have e8 : (t.kind == 8) = false := by simp [k3]
        have e2 : (t.kind == 2) = false := by simp [k3]
        have e3 : (t.kind == 3) = true := by simp [k3]
        clear k1 k8 k2
        clear k3
        have c3 := cell_of_blk HKN.out 3
        have cz := unfrozen_of_blk HKN.out
        by_cases z0 : t.n = 0
        · have z1 : (t.n == 0) = true := by simp [z0]
          have HZ := Lib.hid z0
          clear z0
          go_wp2_with fail
          go_meet
          exact ⟨_, (.mk t.kind t.name t.other 0 t.ty t.res t.args), tp, tc, rp, rc, rfl, Bx9.of (blk_new w1 _), clear_num (by have := HKD.out; omega) (by have := HKD.out; omega) (by have := HKD.out; omega) HAR.out (by rw [Tm.most, if_neg (by have := HKD.out; omega), if_pos HKD.out]; have := HZ.out; simp only [true_iff]; omega), (HB1.out.trans ((al_below w1 _).mono HB1.out.size))⟩
        · have z1 : (t.n == 0) = false := by simp [z0]
          have HZ := Lib.hid z0
          clear z0
          go_wp2_with fail
          go_meet
          exact ⟨_, (.mk t.kind t.name t.other 0 t.ty t.res t.args), tp, tc, rp, rc, rfl, Bx9.of (blk_new w1 _), clear_num (by have := HKD.out; omega) (by have := HKD.out; omega) (by have := HKD.out; omega) HAR.out (by rw [Tm.most, if_neg (by have := HKD.out; omega), if_pos HKD.out]; have := HZ.out; rw [beq_iff_eq]; omega), (HB1.out.trans ((al_below w1 _).mono HB1.out.size))⟩
      by_cases k4 : t.kind = 4
      · have HKD := Lib.hid k4
        have e1 : (t.kind == 1) = false := by simp [k4]
        have e8 : (t.kind == 8) = false := by simp [k4]
        have e2 : (t.kind == 2) = false := by simp [k4]
        have e3 : (t.kind == 3) = false := by simp [k4]
        have e4 : (t.kind == 4) = true := by simp [k4]
        clear k1 k8 k2 k3
        clear k4
        have c1 := cell_of_blk HKN.out 1
        have cz := unfrozen_of_blk HKN.out
        go_wp2_with fail
        go_meet
        exact ⟨_, (.mk t.kind ⟨#[]⟩ t.other t.n t.ty t.res t.args), tp, tc, rp, rc, rfl, Bx9.of (blk_new w1 _), clear_op HKD.out HAR.out, (HB1.out.trans ((al_below w1 _).mono HB1.out.size))⟩
      by_cases k6 : t.kind = 6
      · have HKD := Lib.hid k6
        have e1 : (t.kind == 1) = false := by simp [k6]
        have e8 : (t.kind == 8) = false := by simp [k6]
        have e2 : (t.kind == 2) = false := by simp [k6]
        have e3 : (t.kind == 3) = false := by simp [k6]
        have e4 : (t.kind == 4) = false := by simp [k6]
        have e6 : (t.kind == 6) = true := by simp [k6]
        clear k1 k8 k2 k3 k4
        clear k6
        go_wp2_with fail
        refine (HNM.out _).mono ?_
        rintro e w2 ⟨r2, hr2, rfl, hb2⟩
        have HR2 := Lib.hid hr2
        clear hr2
        have HB2 := Lib.hid (HBN.out.trans (hb2.mono HBN.out.size))
        have HX2 := Lib.hid (HXN.out.keep hb2)
        have HK2 := Lib.hid ((hb2.block _ (Array.getElem?_eq_some_iff.1 HKN.out).1).trans HKN.out)
        clear hb2 g0 g1 g2 g3 g4 g5 g6 g7 g8
        obtain ⟨g0, g1, g2, g3, g4, g5, g6, g7, g8⟩ := HX2.out
        have c1 := cell_of_blk HK2.out 1
        have c4 := cell_of_blk HK2.out 4
        have c5 := cell_of_blk HK2.out 5
        have cz := unfrozen_of_blk HK2.out
        cases r2 with
        | false =>
          go_wp2_with fail
          go_meet
          exact ⟨_, (.mk t.kind ⟨#[]⟩ t.other t.n (.mk 0 []) t.res t.args), none, 0, rp, rc, rfl, Bx9.of (by rw [Go.Joins.block_setCell (Go.Joins.block_setCell (Go.Joins.block_setCell HK2.out _) _) _]; rfl), clear_six HKD.out HAR.out ⟨fun h => (by cases h), fun h => absurd (HR2.out.2 h.1) (by decide)⟩, (((HB2.out.setCell (p := ⟨w1.heap.size, 1, none⟩) (by show w.heap.size ≤ w1.heap.size; exact HB1.out.size) _).setCell (p := ⟨w1.heap.size, 4, none⟩) (by show w.heap.size ≤ w1.heap.size; exact HB1.out.size) _).setCell (p := ⟨w1.heap.size, 5, none⟩) (by show w.heap.size ≤ w1.heap.size; exact HB1.out.size) _)⟩
        | true =>
          clear c1 c4 c5 cz
          go_wp2_with fail
          refine (HVT.out _ HB2.out).mono ?_
          rintro e w3 ⟨r3, hr3, rfl, hb3⟩
          have HR3 := Lib.hid hr3
          clear hr3
          have HB3 := Lib.hid (HB2.out.trans (hb3.mono HB2.out.size))
          have HX3 := Lib.hid (HX2.out.keep hb3)
          have HK3 := Lib.hid ((hb3.block _ (Array.getElem?_eq_some_iff.1 HK2.out).1).trans HK2.out)
          clear hb3 g0 g1 g2 g3 g4 g5 g6 g7 g8
          obtain ⟨g0, g1, g2, g3, g4, g5, g6, g7, g8⟩ := HX3.out
          have c1 := cell_of_blk HK3.out 1
          have c4 := cell_of_blk HK3.out 4
          have c5 := cell_of_blk HK3.out 5
          have cz := unfrozen_of_blk HK3.out
          go_wp2_with fail
          go_meet
          exact ⟨_, (.mk t.kind ⟨#[]⟩ t.other t.n (.mk 0 []) t.res t.args), none, 0, rp, rc, rfl, Bx9.of (by rw [Go.Joins.block_setCell (Go.Joins.block_setCell (Go.Joins.block_setCell HK3.out _) _) _]; rfl), clear_six HKD.out HAR.out (by rw [HR3.out]; exact ⟨fun h => ⟨HR2.out.1 (by trivial), h⟩, fun h => h.2⟩), (((HB3.out.setCell (p := ⟨w1.heap.size, 1, none⟩) (by show w.heap.size ≤ w1.heap.size; exact HB1.out.size) _).setCell (p := ⟨w1.heap.size, 4, none⟩) (by show w.heap.size ≤ w1.heap.size; exact HB1.out.size) _).setCell (p := ⟨w1.heap.size, 5, none⟩) (by show w.heap.size ≤ w1.heap.size; exact HB1.out.size) _)⟩
      by_cases k9 : t.kind = 9
      · have HKD := Lib.hid k9
        have e1 : (t.kind == 1) = false := by simp [k9]
        have e8 : (t.kind == 8) = false := by simp [k9]
        have e2 : (t.kind == 2) = false := by simp [k9]
        have e3 : (t.kind == 3) = false := by simp [k9]
        have e4 : (t.kind == 4) = false := by simp [k9]
        have e6 : (t.kind == 6) = false := by simp [k9]
        have e9 : (t.kind == 9) = true := by simp [k9]
        clear k1 k8 k2 k3 k4 k6
        clear k9
        go_wp2_with fail
        refine (HNM.out _).mono ?_
        rintro e w2 ⟨r2, hr2, rfl, hb2⟩
        have HR2 := Lib.hid hr2
        clear hr2
        have HB2 := Lib.hid (HBN.out.trans (hb2.mono HBN.out.size))
        have HX2 := Lib.hid (HXN.out.keep hb2)
        have HK2 := Lib.hid ((hb2.block _ (Array.getElem?_eq_some_iff.1 HKN.out).1).trans HKN.out)
        clear hb2 g0 g1 g2 g3 g4 g5 g6 g7 g8
        obtain ⟨g0, g1, g2, g3, g4, g5, g6, g7, g8⟩ := HX2.out
        cases r2 with
        | false =>
          have c1 := cell_of_blk HK2.out 1
          have c2 := cell_of_blk HK2.out 2
          have c4 := cell_of_blk HK2.out 4
          have c5 := cell_of_blk HK2.out 5
          have c6 := cell_of_blk HK2.out 6
          have c7 := cell_of_blk HK2.out 7
          have cz := unfrozen_of_blk HK2.out
          go_wp2_with fail
          go_meet
          exact ⟨_, (.mk t.kind ⟨#[]⟩ ⟨#[]⟩ t.n (.mk 0 []) (.mk 0 []) t.args), none, 0, none, 0, rfl, Bx9.of (by rw [Go.Joins.block_setCell (Go.Joins.block_setCell (Go.Joins.block_setCell (Go.Joins.block_setCell (Go.Joins.block_setCell (Go.Joins.block_setCell HK2.out _) _) _) _) _) _]; rfl), clear_nine HKD.out HAR.out ⟨fun h => (by cases h), fun h => absurd (HR2.out.2 h.1) (by decide)⟩, ((((((HB2.out.setCell (p := ⟨w1.heap.size, 1, none⟩) (by show w.heap.size ≤ w1.heap.size; exact HB1.out.size) _).setCell (p := ⟨w1.heap.size, 2, none⟩) (by show w.heap.size ≤ w1.heap.size; exact HB1.out.size) _).setCell (p := ⟨w1.heap.size, 4, none⟩) (by show w.heap.size ≤ w1.heap.size; exact HB1.out.size) _).setCell (p := ⟨w1.heap.size, 5, none⟩) (by show w.heap.size ≤ w1.heap.size; exact HB1.out.size) _).setCell (p := ⟨w1.heap.size, 6, none⟩) (by show w.heap.size ≤ w1.heap.size; exact HB1.out.size) _).setCell (p := ⟨w1.heap.size, 7, none⟩) (by show w.heap.size ≤ w1.heap.size; exact HB1.out.size) _)⟩
        | true =>
          go_wp2_with fail
          refine (HNO.out _).mono ?_
          rintro e w3 ⟨r3, hr3, rfl, hb3⟩
          have HR3 := Lib.hid hr3
          clear hr3
          have HB3 := Lib.hid (HB2.out.trans (hb3.mono HB2.out.size))
          have HX3 := Lib.hid (HX2.out.keep hb3)
          have HK3 := Lib.hid ((hb3.block _ (Array.getElem?_eq_some_iff.1 HK2.out).1).trans HK2.out)
          clear hb3 g0 g1 g2 g3 g4 g5 g6 g7 g8
          obtain ⟨g0, g1, g2, g3, g4, g5, g6, g7, g8⟩ := HX3.out
          cases r3 with
          | false =>
            have c1 := cell_of_blk HK3.out 1
            have c2 := cell_of_blk HK3.out 2
            have c4 := cell_of_blk HK3.out 4
            have c5 := cell_of_blk HK3.out 5
            have c6 := cell_of_blk HK3.out 6
            have c7 := cell_of_blk HK3.out 7
            have cz := unfrozen_of_blk HK3.out
            go_wp2_with fail
            go_meet
            exact ⟨_, (.mk t.kind ⟨#[]⟩ ⟨#[]⟩ t.n (.mk 0 []) (.mk 0 []) t.args), none, 0, none, 0, rfl, Bx9.of (by rw [Go.Joins.block_setCell (Go.Joins.block_setCell (Go.Joins.block_setCell (Go.Joins.block_setCell (Go.Joins.block_setCell (Go.Joins.block_setCell HK3.out _) _) _) _) _) _]; rfl), clear_nine HKD.out HAR.out ⟨fun h => (by cases h), fun h => absurd (HR3.out.2 h.2.1) (by decide)⟩, ((((((HB3.out.setCell (p := ⟨w1.heap.size, 1, none⟩) (by show w.heap.size ≤ w1.heap.size; exact HB1.out.size) _).setCell (p := ⟨w1.heap.size, 2, none⟩) (by show w.heap.size ≤ w1.heap.size; exact HB1.out.size) _).setCell (p := ⟨w1.heap.size, 4, none⟩) (by show w.heap.size ≤ w1.heap.size; exact HB1.out.size) _).setCell (p := ⟨w1.heap.size, 5, none⟩) (by show w.heap.size ≤ w1.heap.size; exact HB1.out.size) _).setCell (p := ⟨w1.heap.size, 6, none⟩) (by show w.heap.size ≤ w1.heap.size; exact HB1.out.size) _).setCell (p := ⟨w1.heap.size, 7, none⟩) (by show w.heap.size ≤ w1.heap.size; exact HB1.out.size) _)⟩
          | true =>
            by_cases hq : t.name = t.other
            · have hq1 := str_yes hq
              have HQ := Lib.hid hq
              clear hq
              have c1 := cell_of_blk HK3.out 1
              have c2 := cell_of_blk HK3.out 2
              have c4 := cell_of_blk HK3.out 4
              have c5 := cell_of_blk HK3.out 5
              have c6 := cell_of_blk HK3.out 6
              have c7 := cell_of_blk HK3.out 7
              have cz := unfrozen_of_blk HK3.out
              go_wp2_with fail
              go_meet
              exact ⟨_, (.mk t.kind ⟨#[]⟩ ⟨#[]⟩ t.n (.mk 0 []) (.mk 0 []) t.args), none, 0, none, 0, rfl, Bx9.of (by rw [Go.Joins.block_setCell (Go.Joins.block_setCell (Go.Joins.block_setCell (Go.Joins.block_setCell (Go.Joins.block_setCell (Go.Joins.block_setCell HK3.out _) _) _) _) _) _]; rfl), clear_nine HKD.out HAR.out ⟨fun h => (by cases h), fun h => absurd HQ.out h.2.2.1⟩, ((((((HB3.out.setCell (p := ⟨w1.heap.size, 1, none⟩) (by show w.heap.size ≤ w1.heap.size; exact HB1.out.size) _).setCell (p := ⟨w1.heap.size, 2, none⟩) (by show w.heap.size ≤ w1.heap.size; exact HB1.out.size) _).setCell (p := ⟨w1.heap.size, 4, none⟩) (by show w.heap.size ≤ w1.heap.size; exact HB1.out.size) _).setCell (p := ⟨w1.heap.size, 5, none⟩) (by show w.heap.size ≤ w1.heap.size; exact HB1.out.size) _).setCell (p := ⟨w1.heap.size, 6, none⟩) (by show w.heap.size ≤ w1.heap.size; exact HB1.out.size) _).setCell (p := ⟨w1.heap.size, 7, none⟩) (by show w.heap.size ≤ w1.heap.size; exact HB1.out.size) _)⟩
            · have hq1 := str_no hq
              have HQ := Lib.hid hq
              clear hq
              go_wp2_with fail
              refine (HVT.out _ HB3.out).mono ?_
              rintro e w4 ⟨r4, hr4, rfl, hb4⟩
              have HR4 := Lib.hid hr4
              clear hr4
              have HB4 := Lib.hid (HB3.out.trans (hb4.mono HB3.out.size))
              have HX4 := Lib.hid (HX3.out.keep hb4)
              have HK4 := Lib.hid ((hb4.block _ (Array.getElem?_eq_some_iff.1 HK3.out).1).trans HK3.out)
              clear hb4 g0 g1 g2 g3 g4 g5 g6 g7 g8
              obtain ⟨g0, g1, g2, g3, g4, g5, g6, g7, g8⟩ := HX4.out
              cases r4 with
              | false =>
                have c1 := cell_of_blk HK4.out 1
                have c2 := cell_of_blk HK4.out 2
                have c4 := cell_of_blk HK4.out 4
                have c5 := cell_of_blk HK4.out 5
                have c6 := cell_of_blk HK4.out 6
                have c7 := cell_of_blk HK4.out 7
                have cz := unfrozen_of_blk HK4.out
                go_wp2_with fail
                go_meet
                exact ⟨_, (.mk t.kind ⟨#[]⟩ ⟨#[]⟩ t.n (.mk 0 []) (.mk 0 []) t.args), none, 0, none, 0, rfl, Bx9.of (by rw [Go.Joins.block_setCell (Go.Joins.block_setCell (Go.Joins.block_setCell (Go.Joins.block_setCell (Go.Joins.block_setCell (Go.Joins.block_setCell HK4.out _) _) _) _) _) _]; rfl), clear_nine HKD.out HAR.out ⟨fun h => (by cases h), fun h => absurd (HR4.out.trans h.2.2.2.1) (by decide)⟩, ((((((HB4.out.setCell (p := ⟨w1.heap.size, 1, none⟩) (by show w.heap.size ≤ w1.heap.size; exact HB1.out.size) _).setCell (p := ⟨w1.heap.size, 2, none⟩) (by show w.heap.size ≤ w1.heap.size; exact HB1.out.size) _).setCell (p := ⟨w1.heap.size, 4, none⟩) (by show w.heap.size ≤ w1.heap.size; exact HB1.out.size) _).setCell (p := ⟨w1.heap.size, 5, none⟩) (by show w.heap.size ≤ w1.heap.size; exact HB1.out.size) _).setCell (p := ⟨w1.heap.size, 6, none⟩) (by show w.heap.size ≤ w1.heap.size; exact HB1.out.size) _).setCell (p := ⟨w1.heap.size, 7, none⟩) (by show w.heap.size ≤ w1.heap.size; exact HB1.out.size) _)⟩
              | true =>
                go_wp2_with fail
                refine (HVR.out _ HB4.out).mono ?_
                rintro e w5 ⟨r5, hr5, rfl, hb5⟩
                have HR5 := Lib.hid hr5
                clear hr5
                have HB5 := Lib.hid (HB4.out.trans (hb5.mono HB4.out.size))
                have HX5 := Lib.hid (HX4.out.keep hb5)
                have HK5 := Lib.hid ((hb5.block _ (Array.getElem?_eq_some_iff.1 HK4.out).1).trans HK4.out)
                clear hb5 g0 g1 g2 g3 g4 g5 g6 g7 g8
                obtain ⟨g0, g1, g2, g3, g4, g5, g6, g7, g8⟩ := HX5.out
                have c1 := cell_of_blk HK5.out 1
                have c2 := cell_of_blk HK5.out 2
                have c4 := cell_of_blk HK5.out 4
                have c5 := cell_of_blk HK5.out 5
                have c6 := cell_of_blk HK5.out 6
                have c7 := cell_of_blk HK5.out 7
                have cz := unfrozen_of_blk HK5.out
                go_wp2_with fail
                go_meet
                exact ⟨_, (.mk t.kind ⟨#[]⟩ ⟨#[]⟩ t.n (.mk 0 []) (.mk 0 []) t.args), none, 0, none, 0, rfl, Bx9.of (by rw [Go.Joins.block_setCell (Go.Joins.block_setCell (Go.Joins.block_setCell (Go.Joins.block_setCell (Go.Joins.block_setCell (Go.Joins.block_setCell HK5.out _) _) _) _) _) _]; rfl), clear_nine HKD.out HAR.out (by rw [HR5.out]; exact ⟨fun h => ⟨HR2.out.1 (by trivial), HR3.out.1 (by trivial), HQ.out, HR4.out.symm, h⟩, fun h => h.2.2.2.2⟩), ((((((HB5.out.setCell (p := ⟨w1.heap.size, 1, none⟩) (by show w.heap.size ≤ w1.heap.size; exact HB1.out.size) _).setCell (p := ⟨w1.heap.size, 2, none⟩) (by show w.heap.size ≤ w1.heap.size; exact HB1.out.size) _).setCell (p := ⟨w1.heap.size, 4, none⟩) (by show w.heap.size ≤ w1.heap.size; exact HB1.out.size) _).setCell (p := ⟨w1.heap.size, 5, none⟩) (by show w.heap.size ≤ w1.heap.size; exact HB1.out.size) _).setCell (p := ⟨w1.heap.size, 6, none⟩) (by show w.heap.size ≤ w1.heap.size; exact HB1.out.size) _).setCell (p := ⟨w1.heap.size, 7, none⟩) (by show w.heap.size ≤ w1.heap.size; exact HB1.out.size) _)⟩
      have e1 : (t.kind == 1) = false := by simp [k1]
      have e8 : (t.kind == 8) = false := by simp [k8]
      have e2 : (t.kind == 2) = false := by simp [k2]
      have e3 : (t.kind == 3) = false := by simp [k3]
      have e4 : (t.kind == 4) = false := by simp [k4]
      have e6 : (t.kind == 6) = false := by simp [k6]
      have e9 : (t.kind == 9) = false := by simp [k9]
      have HKO := Lib.hid (And.intro k4 (And.intro (show ¬ (t.kind = 1 ∨ t.kind = 6 ∨ t.kind = 8) by omega) (And.intro k9 (And.intro k2 k3))))
      clear k1 k8 k2 k3 k4 k6 k9
      go_wp2_with fail
      go_meet
      exact ⟨_, t, tp, tc, rp, rc, rfl, Bx9.of HKN.out, (by have := clear_oth HKO.out.1 HKO.out.2.1 HKO.out.2.2.1 HKO.out.2.2.2.1 HKO.out.2.2.2.2 HAR.out; rwa [← t.eta] at this), HBN.out⟩
    case rest =>
      obtain ⟨pr, u, tp', tc', rp', rc', rfl, hx, hiff, hbx⟩ := hcut
      have HI := Lib.hid hiff
      have HBX := Lib.hid hbx
      have HXU := Lib.hid hx
      clear hiff hbx hx g0 g1 g2 g3 g4 g5 g6 g7 g8
      obtain ⟨d0, d1, d2, d3, d4, d5, d6, d7, d8⟩ := HXU.out
      cases pr with
      | false =>
        go_wp2_with fail
        go_ret
        exact ⟨_, lit_f (fun h => by have := (HI.out.2 h).1; cases this), rfl, HBX.out⟩
      | true =>
        by_cases z1 : u.name.toList = []
        case neg =>
          have q1 : (u.name.toList == []) = false := by simpa using z1
          have HZ1 := Lib.hid z1
          clear z1
          go_wp2_with fail
          go_ret
          exact ⟨_, lit_f (fun h => HZ1.out (HI.out.2 h).2.1), rfl, HBX.out⟩
        have q1 : (u.name.toList == []) = true := by simpa using z1
        have HZ1 := Lib.hid z1
        clear z1
        by_cases z2 : u.other.toList = []
        case neg =>
          have q2 : (u.other.toList == []) = false := by simpa using z2
          have HZ2 := Lib.hid z2
          clear z2
          go_wp2_with fail
          go_ret
          exact ⟨_, lit_f (fun h => HZ2.out (HI.out.2 h).2.2.1), rfl, HBX.out⟩
        have q2 : (u.other.toList == []) = true := by simpa using z2
        have HZ2 := Lib.hid z2
        clear z2
        by_cases z3 : u.n = 0
        case neg =>
          have q3 : (u.n == 0) = false := by simpa using z3
          have HZ3 := Lib.hid z3
          clear z3
          go_wp2_with fail
          go_ret
          exact ⟨_, lit_f (fun h => HZ3.out (HI.out.2 h).2.2.2.1), rfl, HBX.out⟩
        have q3 : (u.n == 0) = true := by simpa using z3
        have HZ3 := Lib.hid z3
        clear z3
        go_wp2_with fail
        refine (zeroI_any _ _ _ _ _).mono ?_
        rintro e w8 ⟨r8, hr8, rfl, hb8⟩
        have HR8 := Lib.hid hr8
        have HB8 := Lib.hid (HBX.out.trans (hb8.mono HBX.out.size))
        clear hr8 d0 d1 d2 d3 d4 d5 d6 d7 d8
        obtain ⟨d0, d1, d2, d3, d4, d5, d6, d7, d8⟩ := HXU.out.keep hb8
        clear hb8
        cases r8 with
        | false =>
          go_wp2_with fail
          go_ret
          exact ⟨_, lit_f (fun h => by have := HR8.out.2 (HI.out.2 h).2.2.2.2.1; cases this), rfl, HB8.out⟩
        | true =>
          go_wp2_with fail
          refine (zeroI_any _ _ _ _ _).mono ?_
          rintro e w9 ⟨r9, hr9, rfl, hb9⟩
          have HR9 := Lib.hid hr9
          have HB9 := Lib.hid (HB8.out.trans (hb9.mono HB8.out.size))
          clear hr9 hb9 d0 d1 d2 d3 d4 d5 d6 d7 d8
          go_wp2_with fail
          go_ret
          exact ⟨_, ⟨fun h => HI.out.1 ⟨by trivial, HZ1.out, HZ2.out, HZ3.out, HR8.out.1 (by trivial), HR9.out.1 h⟩, fun h => HR9.out.2 (HI.out.2 h).2.2.2.2.2⟩, rfl, HB9.out⟩
end Go.Proofs.YtfeijijeohfpgaaDoor
namespace Go.Proofs.YtfeijijeohfpgaaDoor
open Go Go.RowKit Go.Shelf
attribute [local go_sem] Oper.semAt_some

end Go.Proofs.YtfeijijeohfpgaaDoor
namespace Go.Proofs.YtfeijijeohfpgaaDoor
open Go Go.RowKit Go.Shelf
attribute [local go_sem] Oper.semAt_some

set_option maxRecDepth 100000 in
set_option maxHeartbeats 2000000 in
theorem isTermI_any {C : Nat → Prop} {t : Tm} {v : Value} {w : World} (hka : KA w) (h : TM w C t v) (hn : t.wt ≤ 2097152) :
    Calls Tryd.prog 43 #[v] w (Tells t.IsT w) := by
  have hnt : t.nodes ≤ 2097153 := by have := t.nodes_wt; omega
  have HKA := Lib.hid (fun (w' : World) (hb : Below w.heap.size w w') => hka.below hb)
  have HWT := Lib.hid hn
  clear hka hn
  obtain ⟨tp, tc, rp, rc, p, c, rfl, hT⟩ := h
  have HT := Lib.hid (hT.mono (C' := (· < w.heap.size)) (fun _ _ h => h))
  clear hT
  refine (callsIn_wide (n := 2)).1 ?_
  refine callsIn_of_wp_marks Tryd.func43 rfl trivial ?_ rfl
  simp only [Tryd.ntmps43, List.size_toArray, List.length_cons, List.length_nil, Nat.reduceAdd, Nat.reduceSub, Array.replicate_succ, Array.replicate_zero, List.push_toArray, List.append_toArray, List.nil_append, List.cons_append]
  gi_wp2_with fail
  obtain ⟨w0, hw0, hs0, hb0, hk0, hk1⟩ := box_new2 w (tmC t tp tc rp rc p c) #[.bool false] 35 4
  rw [hw0]
  refine ⟨trivial, ?_⟩
  refine (callsIn_wide.2 (tnM_any (HT.out.stays (.of_below hb0)))).mono ?_
  rintro e wl ⟨Bt, Bp, rfl, hI, hbw, hBt, hBp⟩
  have hsz := hbw.size
  have hbl : Below w.heap.size w wl := hb0.trans (hbw.mono hb0.size)
  have k1 : wl.heap[w.heap.size + 1]? = some (.cells #[.bool false] 4 (0, 0)) := (hbw.block _ (by omega)).trans hk1
  have hbp := (Array.getElem?_eq_some_iff.1 hI.bp).1
  have HSL : TM' wl (fun b => b < w.heap.size ∨ b = Bp) t tp tc rp rc p c := (HT.out.stays (.of_below hbl)).mono (fun z hz _ => Or.inl hz)
  clear hk0 hk1 hb0 hw0
  gi_wp2_with fail
  refine range_law (F := Fence.wide) (n := 2) rfl (by omega) (gf := 106) (lb := #[.pointer (some ⟨Bt, 0, none⟩), .pointer (some ⟨Bp, 0, none⟩)]) rfl trivial (enters_of Tryd.func106 (by kernel_rfl) rfl)
    (nodesM_seq2 hI HSL hnt (Below.refl _ _) (fun b => b = w.heap.size + 1) (fun b h => by omega) (fun b h => by omega) (Or.inr rfl)) (fun _ => rfl) (fun b h => by omega)
    (fun pre W => W.heap[w.heap.size + 1]? = some (.cells #[.bool false] 4 (0, 0)) ∧ AllOk pre ∧ Below w.heap.size w W)
    (fun j pre W => j = .ret ∧ W.cell? ⟨w.heap.size + 1, 0, none⟩ = some (.bool false) ∧ ¬ t.IsT ∧ Below w.heap.size w W)
    (fun pre A B h hb => ⟨(hb.block _ (by omega)).trans h.1, h.2.1, h.2.2.trans (hb.mono (by omega))⟩)
    (fun j pre A B h hb => ⟨h.1, (hb.cell (by show w.heap.size + 1 < _; omega)).trans h.2.1, h.2.2.1, h.2.2.2.trans (hb.mono (by omega))⟩)
    (goodM_keep (fun b h => by omega)) ⟨k1, (fun e he => absurd he (List.not_mem_nil)), hbl⟩
    (fun x a' W => ∃ bx, W.heap[bx]? = some (.cells x.2.1.cells 35 (0, 0)) ∧ a' = { tmps := #[tmV t tp tc rp rc p c, .pointer (some ⟨w.heap.size, 0, none⟩), .pointer (some ⟨w.heap.size + 1, 0, none⟩), .pointer (some ⟨bx, 0, none⟩),
      tmV t tp tc rp rc p c, iterM Bt Bp, x.2.1, .int .i64 (x.2.2 : Nat), undef, undef, undef], defers := [] })
    (fun x a' W l r o h hl => by
      obtain ⟨bx, h2, h3⟩ := h
      exact ⟨bx, (World.putObj_heap_other (fun e => by rw [e, hl] at h2; cases h2)).trans h2, h3⟩) ?assign ?body ?done ?stop
  case assign =>
    rintro l ⟨x, v, d⟩ W K hG hK
    have hG : TM W _ x v := hG
    obtain ⟨tp', tc', rp', rc', p', c', rfl, hG'⟩ := hG
    have HK := Lib.hid hK
    clear hK
    gi_wp2
    exact HK.out _ _ ((Below.refl _ _).alloc (Nat.le_refl _) _) ⟨W.heap.size, blk_new _ _, by simp⟩
  case body =>
    rintro l pre ⟨x, v, d⟩ a' W ⟨hr, hso, hB⟩ hpre hG ⟨bx, hbx, rfl⟩
    have hpre : pre ++ [(x, d)] <+: walkM t 1 := hpre
    have hbx : W.heap[bx]? = some (.cells v.cells 35 (0, 0)) := hbx
    have hG : TM W _ x v := hG
    obtain ⟨tp', tc', rp', rc', p', c', rfl, hG'⟩ := hG
    simp only [Value.cells] at hbx
    obtain ⟨x0, x1, x2, x3, x4, x5, x6, x7, x8⟩ := Bx9.of hbx
    have hxw : x.wt ≤ 2097152 := by
      have h1 := wt_walk t 1 (x, d) (hpre.subset (by simp))
      have h2 := HWT.out
      simp only at h1
      omega
    have HC := Lib.hid (formI_any W (HKA.out W hB) hG' hxw)
    have HR1 := Lib.hid hr
    have HB1 := Lib.hid hB
    have HSO := Lib.hid hso
    have HP := Lib.hid hpre
    clear hso hpre hr hbx hB k1 hG' HSL hbl hbw hI hxw
    gi_wp2_with fail
    refine ⟨trivial, rfl, ?_⟩
    refine (CallsIn.inRound l (callsIn_wide.2 HC.out)).mono ?_
    rintro e W2 ⟨b, hb, rfl, hb2⟩
    have l2 := (Array.getElem?_eq_some_iff.1 HR1.out).1
    have HR2 := Lib.hid ((hb2.block _ l2).trans HR1.out)
    have r2 := cell_of_blk HR2.out 0
    have rz := unfrozen_of_blk HR2.out 0
    simp only [List.getElem?_toArray, List.getElem?_cons_zero] at r2
    have hH2 : Holds (fun b => b = w.heap.size + 1) W W2 := .of_below hb2
    have hB2 : Below w.heap.size w W2 := HB1.out.trans (hb2.mono HB1.out.size)
    have HBB := Lib.hid hb
    have HH2 := Lib.hid hH2
    have HB2 := Lib.hid hB2
    clear hb hb2 hH2 hB2 x0 x1 x2 x3 x4 x5 x6 x7 x8 l2
    cases b with
    | false =>
      have hcc := World.cell?_setCell_same' W2 ⟨w.heap.size + 1, 0, none⟩ (.bool false) (by rw [r2]; rfl)
      have HCC := Lib.hid hcc
      clear hcc
      gi_wp2_with fail
      exact ⟨HH2.out.setCell ⟨w.heap.size + 1, 0, none⟩ rfl _, rfl, HCC.out, not_isT_at HP.out (fun h => by have := HBB.out.2 h; cases this), HB2.out.setCell (p := ⟨w.heap.size + 1, 0, none⟩) (by show w.heap.size ≤ w.heap.size + 1; omega) _⟩
    | true =>
      gi_wp2_with fail
      exact ⟨HH2.out, HR2.out, HSO.out.next (HBB.out.1 (by trivial)), HB2.out⟩
  case done =>
    rintro D W hD ⟨hr, hso, hB⟩ hK
    have r0 := cell_of_blk hr 0
    have rz := unfrozen_of_blk hr 0
    simp only [List.getElem?_toArray, List.getElem?_cons_zero] at r0
    have HV := Lib.hid (isT_of hso)
    have HB := Lib.hid hB
    have hK' : (W.setCell ⟨w.heap.size + 1, 0, none⟩ (.bool true)).heap[D]? = some (.deferred (some [])) := (Below.heap_setCell _ _ _ _ (by show D ≠ w.heap.size + 1; omega)).trans hK
    clear hso hB hr hK k1 HSL hbl hbw hI
    gi_wp2_with fail
    refine ⟨by simp, .inl ⟨_, _, rfl, run_takeDeferred hK', ?_⟩⟩
    have hc := (World.cell?_of_block (a := ⟨w.heap.size + 1, 0, none⟩) (w' := (W.setCell ⟨w.heap.size + 1, 0, none⟩ (.bool true)).putObj D (.deferred none)) (World.putObj_heap_other (by show w.heap.size + 1 ≠ D; omega))).trans (World.cell?_setCell_same' W ⟨w.heap.size + 1, 0, none⟩ (.bool true) (by rw [r0]; rfl))
    refine ⟨.bool true, ?_, _, ⟨fun _ => HV.out, fun _ => rfl⟩, rfl, (HB.out.setCell (p := ⟨w.heap.size + 1, 0, none⟩) (by show w.heap.size ≤ w.heap.size + 1; omega) _).trans (below_putObj _ _ _ _ (by omega))⟩
    rw [results_cell1 rfl]
    go_simp
  case stop =>
    rintro D c pre W hD hpre ⟨rfl, hr, hv, hB⟩ hK
    have HB := Lib.hid hB
    have HV := Lib.hid hv
    clear hv hB k1 HSL hbl hbw hI
    gi_wp2_with fail
    refine ⟨by simp, .inl ⟨_, _, rfl, run_takeDeferred hK, ?_⟩⟩
    have hc := (World.cell?_of_block (a := ⟨w.heap.size + 1, 0, none⟩) (w' := W.putObj D (.deferred none)) (World.putObj_heap_other (by show w.heap.size + 1 ≠ D; omega))).trans hr
    refine ⟨.bool false, ?_, _, ⟨fun h => by simp at h, fun h => absurd h HV.out⟩, rfl, HB.out.trans (below_putObj _ _ _ _ (by omega))⟩
    rw [results_cell1 rfl]
    go_simp
end Go.Proofs.YtfeijijeohfpgaaDoor
namespace Go.Proofs.YtfeijijeohfpgaaDoor
open Go Go.RowKit
def Keep (base : Nat) (B : Nat → Prop) (w w' : World) : Prop := Below base w w' ∧ ∀ b, B b → b < w.heap.size → w'.heap[b]? = w.heap[b]?
theorem Keep.of_below {base : Nat} {B : Nat → Prop} {w w' : World} (hb : base ≤ w.heap.size) (h : Below w.heap.size w w') : Keep base B w w' := ⟨h.mono hb, fun b _ hl => h.block b hl⟩
theorem Keep.mono {base base' : Nat} {B B' : Nat → Prop} {w w' : World} (h : Keep base B w w') (hb : base' ≤ base) (hB : ∀ b, B' b → B b) : Keep base' B' w w' := ⟨h.1.mono hb, fun b hb hl => h.2 b (hB b hb) hl⟩
def Grew (B B' : Nat → Prop) (n m : Nat) : Prop := ∀ b, B' b → (B b ∨ n ≤ b) ∧ b < m
theorem Grew.refl {B : Nat → Prop} {n m : Nat} (h : ∀ b, B b → b < m) : Grew B B n m := fun b hb => ⟨Or.inl hb, h b hb⟩
def SeqD {α β : Type} (F : Fence) (n : Nat) (P : Program) (g : Nat) (lb : Array Value) (encs : α → Array Value) (key : α → β) (Good : α → (Nat → Prop) → World → Prop) (C : Nat → Prop) (all : List β) (w : World) : Prop :=
  ∀ (l : Nat) (J Jx : List β → (Nat → Prop) → (Nat → Prop) → World → Prop) (B0 : Nat → Prop) (W : World), Below w.heap.size w W → (∀ b, C b → ¬ B0 b) → (∀ b, B0 b → b < W.heap.size) →
    (∀ pre B N A A', J pre B N A → Keep W.heap.size (fun z => B z ∨ N z) A A' → J pre B N A') →
    (∀ pre B N A A', Jx pre B N A → Keep W.heap.size (fun z => B z ∨ N z) A A' → Jx pre B N A') →
    (∀ pre x Y B N W1, J pre B N W1 → pre ++ [key x] <+: all → Good x Y W1 → (∀ z, Y z → ¬ B z) → YieldAt F (n - 1) P l (encs x) W1 fun e W' =>
      ∃ B' N', Grew B B' W1.heap.size W'.heap.size ∧ (∀ z, N' z → N z ∨ Y z) ∧ ((e = .returned (.bool true) ∧ J (pre ++ [key x]) B' N' W' ∧ Holds B W1 W') ∨ (e = .returned (.bool false) ∧ Jx (pre ++ [key x]) B' N' W' ∧ Holds B W1 W'))) →
    J [] B0 (fun _ => False) W →
    CallsIn F n P g (#[.func (.yield l) #[] #[]] ++ lb) W fun e W' => (∃ v, e = .returned v) ∧ ((∃ B' N', J all B' N' W') ∨ ∃ pre B' N', pre <+: all ∧ Jx pre B' N' W')
def postD {β : Type} (B N Y : Nat → Prop) (I : List β → (Nat → Prop) → (Nat → Prop) → World → Prop) (Ix : Code → List β → (Nat → Prop) → (Nat → Prop) → World → Prop) (xs : List β) (W : World) : Exit → Act → World → Prop
  | .normal, _, W' => ∃ B' N', Grew B B' W.heap.size W'.heap.size ∧ (∀ z, N' z → N z ∨ Y z) ∧ Holds B W W' ∧ I xs B' N' W'
  | .ret, _, W' => ∃ B' N', Grew B B' W.heap.size W'.heap.size ∧ (∀ z, N' z → N z ∨ Y z) ∧ Holds B W W' ∧ Ix .ret xs B' N' W'
  | .exit id, _, W' => ∃ B' N', Grew B B' W.heap.size W'.heap.size ∧ (∀ z, N' z → N z ∨ Y z) ∧ Holds B W W' ∧ Ix (.exit id) xs B' N' W'
  | .goto t, _, W' => ∃ B' N', Grew B B' W.heap.size W'.heap.size ∧ (∀ z, N' z → N z ∨ Y z) ∧ Holds B W W' ∧ Ix (.goto t) xs B' N' W'
  | .panic _, _, _ => False
  | .outgrown, _, _ => False

variable {F : Fence} {n : Nat} {P : Program}
theorem rangeD_law {α β : Type} {g : Operand} {ps : Array Tmp} {assign body : Code} {Q : Exit → Act → World → Prop} {a : Act} {w : World}
    (hro : F.round = none) (h1 : 1 ≤ n) {gf : Nat} {lb : Array Value} (hg : a.eval g = .func (.func gf) #[] lb) (hFg : F.fn gf) (eg : ∀ args w, (callFunc gf args).run P w = .ok (.enter gf args) w)
    {encs : α → Array Value} {key : α → β} {Good : α → (Nat → Prop) → World → Prop} {C B0 : Nat → Prop} {all : List β} (hseq : SeqD F (n - 1) P gf lb encs key Good C all w) (hps : ∀ x, (encs x).size = ps.size) (hC : ∀ b, C b → ¬ B0 b) (hCl : ∀ b, C b → b < w.heap.size) (hB0 : ∀ b, B0 b → b < w.heap.size)
    (I : List β → (Nat → Prop) → (Nat → Prop) → World → Prop) (Ix : Code → List β → (Nat → Prop) → (Nat → Prop) → World → Prop) (hI : ∀ pre B N A A', I pre B N A → Keep w.heap.size (fun z => B z ∨ N z) A A' → I pre B N A') (hIx : ∀ c pre B N A A', Ix c pre B N A → Keep w.heap.size (fun z => B z ∨ N z) A A' → Ix c pre B N A')
    (hG : ∀ x Y A A' l r, w.heap.size ≤ l → Good x Y A → A.heap[l]? = some (.loop r) → Holds (fun b => b = l) A A' → Good x Y A') (hIB : ∀ pre B N A, I pre B N A → ∀ z, B z → z < A.heap.size) (hGY : ∀ x Y A z, Good x Y A → Y z → ∃ cs T fr, A.heap[z]? = some (.cells cs T fr)) (h0 : I [] B0 (fun _ => False) w)
    (Ax : α → Nat → Act → World → Prop) (hAx : ∀ x s a' W l r o, Ax x s a' W → W.heap[l]? = some (.loop r) → Ax x s a' (W.putObj l o))
    (hassign : ∀ (l : Nat) (x : α) (Y : Nat → Prop) (W : World) (K : Act → World → Prop), Good x Y W → (∀ a' W', Below W.heap.size W W' → Ax x W.heap.size a' W' → K a' W') →
      assign.wpIn (F.inRound l) (n - 1 - 1) P (Exit.then K (fun _ _ _ => False)) { tmps := (ps.zip (encs x)).foldl (fun t (p, v) => t.setIfInBounds p v) a.tmps, defers := [] } W)
    (hbody : ∀ (l : Nat) (pre : List β) (x : α) (s : Nat) (a' : Act) (Y B N : Nat → Prop) (W : World), I pre B N W → pre ++ [key x] <+: all → Good x Y W → (∀ z, Y z → ¬ B z) → (∀ z, B z → z < s) → Ax x s a' W → (∃ r, W.heap[l]? = some (.loop r)) → ¬ B l → body.wpIn (F.inRound l) (n - 1 - 1) P (postD B N Y I Ix (pre ++ [key x]) W) a' W)
    (hdone : ∀ (D : Nat) (B N : Nat → Prop) (W : World), w.heap.size ≤ D → (∀ b, B b ∨ N b → b ≠ D) → I all B N W → W.heap[D]? = some (.deferred (some [])) → Q .normal { a with defers := { target := .collected D, args := #[] } :: a.defers } W)
    (hstop : ∀ (D : Nat) (c : Code) (pre : List β) (B N : Nat → Prop) (W : World), w.heap.size ≤ D → (∀ b, B b ∨ N b → b ≠ D) → pre <+: all → Ix c pre B N W → W.heap[D]? = some (.deferred (some [])) → c.wpIn F n P Q { a with defers := { target := .collected D, args := #[] } :: a.defers } W) :
    (Code.rangeFunc g ps assign body).wpIn F n P Q a w := by
  refine wpIn_rangeFunc (fun fn hfn => ?_)
  rw [hro]
  -- the record of the loop, in its three states
  let rec_ : LoopState → Option Code → Loop := fun st pe => { state := st, pending := pe, fn, tmps := a.tmps, params := ps, assign, body, defers := w.heap.size }
  let w1 := (w.alloc (.deferred (some []))).alloc (.loop (rec_ .ready none))
  have hs1 : w1.heap.size = w.heap.size + 2 := by simp [w1]
  have hb1 : Below w.heap.size w w1 := ((Below.refl _ w).alloc (Nat.le_refl _) _).alloc (by simp) _
  have hl1 : w1.heap[w.heap.size + 1]? = some (.loop (rec_ .ready none)) := by
    have := World.alloc_heap_new (w.alloc (.deferred (some []))) (.loop (rec_ .ready none))
    rwa [World.size_alloc] at this
  have hd1 : w1.heap[w.heap.size]? = some (.deferred (some [])) := (Below.heap_alloc _ _ _ (by simp)).trans (World.alloc_heap_new w _)
  refine ⟨w.heap.size + 1, [{ target := .collected w.heap.size, args := #[] }], w1, { target := .fn (.func gf) lb, args := #[.func (.yield (w.heap.size + 1)) #[] #[]] }, w1, gf,
    #[.func (.yield (w.heap.size + 1)) #[] #[]] ++ lb, w1, run_enterLoop_outer _ _ _ _ _, by simp only [resolve, hg]; simp [go_sem], fun f' hf' => by simp [Target.leads] at hf'; subst hf'; exact hFg, by simp [invoke, go_sem, eg], fun _ => h1, ?_⟩
  have still : ∀ {B : Nat → Prop} {A A' : World} {k : Nat} {o : Obj}, Keep w1.heap.size B A A' → k < w1.heap.size → A.heap[k]? = some o → A'.heap[k]? = some o := fun hb hk h => (hb.1.block _ hk).trans h
  refine (hseq (w.heap.size + 1)
    (fun pre B N W => ∃ B1 : Nat → Prop, (∀ z, B z ↔ B1 z ∨ z = w.heap.size + 1) ∧ I pre B1 N W ∧ W.heap[w.heap.size + 1]? = some (.loop (rec_ .ready none)) ∧ W.heap[w.heap.size]? = some (.deferred (some [])) ∧ ∀ b, B1 b ∨ N b → b < w.heap.size ∨ w.heap.size + 2 ≤ b)
    (fun pre B N W => ∃ (B1 : Nat → Prop) (c : Code), (∀ z, B z ↔ B1 z ∨ z = w.heap.size + 1) ∧ Ix c pre B1 N W ∧ W.heap[w.heap.size + 1]? = some (.loop (rec_ .done (some c))) ∧ W.heap[w.heap.size]? = some (.deferred (some [])) ∧ ∀ b, B1 b ∨ N b → b < w.heap.size ∨ w.heap.size + 2 ≤ b)
    (fun z => B0 z ∨ z = w.heap.size + 1) w1 hb1 (fun b hb h => h.elim (hC b hb) (fun e => by have := hCl b hb; omega)) (fun b hb => hb.elim (fun hb => by have := hB0 b hb; omega) (fun e => by omega)) (fun pre B N A A' h hb => by
      obtain ⟨B1, h0, h1, h2, h3, h4⟩ := h
      exact ⟨B1, h0, hI pre B1 N A A' h1 (hb.mono (by omega) (fun z h => h.imp (fun h => (h0 z).2 (Or.inl h)) id)), still hb (by omega) h2, still hb (by omega) h3, h4⟩) (fun pre B N A A' h hb => by
      obtain ⟨B1, c, h0, h1, h2, h3, h4⟩ := h
      exact ⟨B1, c, h0, hIx c pre B1 N A A' h1 (hb.mono (by omega) (fun z h => h.imp (fun h => (h0 z).2 (Or.inl h)) id)), still hb (by omega) h2, still hb (by omega) h3, h4⟩) ?_ ⟨B0, fun _ => Iff.rfl, hI _ _ _ _ _ h0 (.of_below (Nat.le_refl _) hb1), hl1, hd1, fun b hb => Or.inl (hb.elim (hB0 b) False.elim)⟩).mono ?_
  · -- one round
    rintro pre x Y BL N W ⟨B, hBe, hi, hl, hd, hBl⟩ hpre hgood hYB0
    have hYB : ∀ z, Y z → ¬ B z := fun z hz hb => hYB0 z hz ((hBe z).2 (Or.inl hb))
    have hy := run_yield (P := P) (args := encs x) hl (hps x)
    refine ⟨fn, _, assign, body, hy, roundIn_of_wpIn hfn (hassign _ x Y W _ hgood (fun a' Wa hba hax => ?_))⟩
    have hlt : w.heap.size + 1 < W.heap.size := (Array.getElem?_eq_some_iff.1 hl).1
    have hla : Wa.heap[w.heap.size + 1]? = some (.loop (rec_ .ready none)) := (hba.block _ hlt).trans hl
    have hda : Wa.heap[w.heap.size]? = some (.deferred (some [])) := (hba.block _ (by omega)).trans hd
    refine ⟨_, run_beginRound hla rfl, ?_⟩
    have hlta : w.heap.size + 1 < Wa.heap.size := (Array.getElem?_eq_some_iff.1 hla).1
    let busy : Loop := { rec_ .ready none with state := .busy }
    let Wb := Wa.putObj (w.heap.size + 1) (.loop busy)
    have hbb : Below w.heap.size Wa Wb := below_putObj _ _ _ _ (by omega)
    have hlb : Wb.heap[w.heap.size + 1]? = some (.loop busy) := World.putObj_heap_same hlta
    have hdb : Wb.heap[w.heap.size]? = some (.deferred (some [])) := (World.putObj_heap_other (by omega)).trans hda
    have hszb : Wb.heap.size = Wa.heap.size := by simp [Wb]
    have hwa := hba.size
    have hkw : Keep w.heap.size (fun z => B z ∨ N z) W Wb := ⟨(hba.mono (Nat.le_of_lt (by omega : w.heap.size < W.heap.size))).trans hbb, fun b hb hl' => by
      rw [World.putObj_heap_other (by have := hBl b hb; omega)]
      exact hba.block b hl'⟩
    have hol : Holds (fun b => b = w.heap.size + 1) W Wb := ⟨by omega, fun b hb hc => by rw [World.putObj_heap_other hc]; exact hba.block b hb⟩
    have hnl : ¬ B (w.heap.size + 1) := fun h => by have := hBl _ (Or.inl h); omega
    have hnd : ¬ B w.heap.size := fun h => by have := hBl _ (Or.inl h); omega
    refine wpIn_mono (hbody _ pre x W.heap.size a' Y B N Wb (hI _ _ _ _ _ hi hkw) hpre (hG _ _ _ _ _ _ (Nat.le_succ _) hgood hl hol) hYB (hIB _ _ _ _ hi) (hAx _ _ _ _ _ _ _ hax hla) ⟨_, hlb⟩ hnl) ?_
    have fin : ∀ (jump : Option Code) (W3 : World), Holds B Wb W3 →
        (Instr.endRound (w.heap.size + 1) jump).run P W3 = .ok (.bool jump.isNone) (W3.putObj (w.heap.size + 1) (.loop (rec_ (if jump.isNone then .ready else .done) jump))) ∧
        Below w.heap.size W3 (W3.putObj (w.heap.size + 1) (.loop (rec_ (if jump.isNone then .ready else .done) jump))) ∧
        (W3.putObj (w.heap.size + 1) (.loop (rec_ (if jump.isNone then .ready else .done) jump))).heap[w.heap.size + 1]? = some (.loop (rec_ (if jump.isNone then .ready else .done) jump)) ∧
        (W3.putObj (w.heap.size + 1) (.loop (rec_ (if jump.isNone then .ready else .done) jump))).heap[w.heap.size]? = some (.deferred (some [])) := fun jump W3 hk => by
      have hwb : Wb.heap.size = Wa.heap.size := by simp [Wb]
      have h3 : W3.heap[w.heap.size + 1]? = some (.loop busy) := (hk.2 _ (by omega) hnl).trans hlb
      have hd3 : W3.heap[w.heap.size]? = some (.deferred (some [])) := (hk.2 _ (by omega) hnd).trans hdb
      exact ⟨run_endRound (P := P) jump h3, below_putObj _ _ _ _ (by omega), World.putObj_heap_same (Array.getElem?_eq_some_iff.1 h3).1, (World.putObj_heap_other (by omega)).trans hd3⟩
    have bl' : ∀ (B' N' : Nat → Prop) (m : Nat), Grew B B' Wb.heap.size m → (∀ z, N' z → N z ∨ Y z) → ∀ b, B' b ∨ N' b → b < w.heap.size ∨ w.heap.size + 2 ≤ b := fun B' N' m hg hN b hb => by
      rcases hb with hb | hb
      · rcases (hg b hb).1 with h1 | h1
        · exact hBl b (Or.inl h1)
        · exact Or.inr (by omega)
      · rcases hN b hb with h1 | h1
        · exact hBl b (Or.inr h1)
        · obtain ⟨cs, T, fr, hc⟩ := hGY x Y W b hgood h1
          by_cases e1 : b = w.heap.size
          · subst e1; rw [hd] at hc; cases hc
          · by_cases e2 : b = w.heap.size + 1
            · subst e2; rw [hl] at hc; cases hc
            · omega
    have gw : ∀ (B' : Nat → Prop) (W3 : World) (o : Obj), Holds B Wb W3 → Grew B B' Wb.heap.size W3.heap.size → Grew BL (fun z => B' z ∨ z = w.heap.size + 1) W.heap.size (W3.putObj (w.heap.size + 1) o).heap.size := fun B' W3 o hk hg b hb => by
      have hk1 := hk.1
      rcases hb with hb | rfl
      · obtain ⟨h1, h2⟩ := hg b hb
        exact ⟨h1.imp (fun h => (hBe b).2 (Or.inl h)) (fun h => by omega), by simpa using h2⟩
      · exact ⟨Or.inl ((hBe _).2 (Or.inr rfl)), by simp; omega⟩
    have hold : ∀ (W3 : World) (o : Obj), Holds B Wb W3 → Holds BL W (W3.putObj (w.heap.size + 1) o) := fun W3 o hk => by
      have hk1 := hk.1
      refine ⟨by simp; omega, fun b hb hc => ?_⟩
      have e : b ≠ w.heap.size + 1 := fun e => hc ((hBe b).2 (Or.inr e))
      rw [World.putObj_heap_other e, hk.2 b (by omega) (fun h => hc ((hBe b).2 (Or.inl h))), World.putObj_heap_other e, hba.block b hb]
    rintro e a3 W3 hp
    cases e with
    | normal =>
      obtain ⟨B', N', hgr, hN, hk, hi3⟩ := hp
      obtain ⟨hr, hb3, hl3, hd3⟩ := fin none W3 hk
      have hBl' := bl' B' N' _ hgr hN
      exact ⟨_, _, hr, fun z => B' z ∨ z = w.heap.size + 1, N', gw B' _ _ hk hgr, hN, .inl ⟨rfl, ⟨B', fun _ => Iff.rfl, hI _ _ _ _ _ hi3 ⟨hb3, fun b hb _ => World.putObj_heap_other (by have := hBl' b hb; omega)⟩, hl3, hd3, hBl'⟩, hold W3 _ hk⟩⟩
    | ret =>
      obtain ⟨B', N', hgr, hN, hk, hi3⟩ := hp
      obtain ⟨hr, hb3, hl3, hd3⟩ := fin (some .ret) W3 hk
      have hBl' := bl' B' N' _ hgr hN
      exact ⟨_, _, hr, fun z => B' z ∨ z = w.heap.size + 1, N', gw B' _ _ hk hgr, hN, .inr ⟨rfl, ⟨B', _, fun _ => Iff.rfl, hIx _ _ _ _ _ _ hi3 ⟨hb3, fun b hb _ => World.putObj_heap_other (by have := hBl' b hb; omega)⟩, hl3, hd3, hBl'⟩, hold W3 _ hk⟩⟩
    | exit id =>
      obtain ⟨B', N', hgr, hN, hk, hi3⟩ := hp
      obtain ⟨hr, hb3, hl3, hd3⟩ := fin (some (.exit id)) W3 hk
      have hBl' := bl' B' N' _ hgr hN
      exact ⟨_, _, hr, fun z => B' z ∨ z = w.heap.size + 1, N', gw B' _ _ hk hgr, hN, .inr ⟨rfl, ⟨B', _, fun _ => Iff.rfl, hIx _ _ _ _ _ _ hi3 ⟨hb3, fun b hb _ => World.putObj_heap_other (by have := hBl' b hb; omega)⟩, hl3, hd3, hBl'⟩, hold W3 _ hk⟩⟩
    | goto t =>
      obtain ⟨B', N', hgr, hN, hk, hi3⟩ := hp
      obtain ⟨hr, hb3, hl3, hd3⟩ := fin (some (.goto t)) W3 hk
      have hBl' := bl' B' N' _ hgr hN
      exact ⟨_, _, hr, fun z => B' z ∨ z = w.heap.size + 1, N', gw B' _ _ hk hgr, hN, .inr ⟨rfl, ⟨B', _, fun _ => Iff.rfl, hIx _ _ _ _ _ _ hi3 ⟨hb3, fun b hb _ => World.putObj_heap_other (by have := hBl' b hb; omega)⟩, hl3, hd3, hBl'⟩, hold W3 _ hk⟩⟩
    | panic ch => exact hp.elim
    | outgrown => exact hp.elim
  · -- the iterator has returned
    rintro e W2 ⟨⟨v, rfl⟩, (⟨BL, N', B', hBe, hi, hl, hd, hBl⟩ | ⟨pre, BL, N', hpre, B', c, hBe, hi, hl, hd, hBl⟩)⟩
    · exact ⟨none, _, run_endLoop (P := P) hl (by simp [rec_]), hdone _ B' N' _ (Nat.le_refl _) (fun b hb e => by have := hBl b hb; omega) (hI _ _ _ _ _ hi ⟨below_putObj _ _ _ _ (by omega), fun b hb _ => World.putObj_heap_other (by have := hBl b hb; omega)⟩) ((World.putObj_heap_other (by omega)).trans hd)⟩
    · exact ⟨some c, _, run_endLoop (P := P) hl (by simp [rec_]), hstop _ c pre B' N' _ (Nat.le_refl _) (fun b hb e => by have := hBl b hb; omega) hpre (hIx _ _ _ _ _ _ hi ⟨below_putObj _ _ _ _ (by omega), fun b hb _ => World.putObj_heap_other (by have := hBl b hb; omega)⟩) ((World.putObj_heap_other (by omega)).trans hd)⟩
end Go.Proofs.YtfeijijeohfpgaaDoor
namespace Go.Proofs.YtfeijijeohfpgaaDoor
open Go Go.RowKit

theorem At9.keep {w w' : World} {b o : Nat} {t : Tm} {tp rp p : Option Addr} {tc rc c : Nat} (h : At9 w b o t tp tc rp rc p c) (hb : w'.heap[b]? = w.heap[b]?) : At9 w' b o t tp tc rp rc p c := by
  have k : ∀ i, w'.cell? ⟨b, i, none⟩ = w.cell? ⟨b, i, none⟩ := fun i => World.cell?_of_block (a := ⟨b, i, none⟩) hb
  exact ⟨(k _).trans h.kind, (k _).trans h.name, (k _).trans h.other, (k _).trans h.n, (k _).trans h.tk, (k _).trans h.ta, (k _).trans h.rk, (k _).trans h.ra, (k _).trans h.args⟩
def TermAt (w : World) (C : Nat → Prop) (t : Tm) (b o : Nat) : Prop := ∃ (tp : Option Addr) (tc : Nat) (rp : Option Addr) (rc : Nat) (p : Option Addr) (c : Nat), C b ∧ b < w.heap.size ∧ At9 w b o t tp tc rp rc p c ∧ TM' w C t tp tc rp rc p c
theorem TermAt.stays {w w' : World} {C : Nat → Prop} {t : Tm} {b o : Nat} (h : TermAt w C t b o) (hs : Stays C w w') : TermAt w' C t b o := by
  obtain ⟨tp, tc, rp, rc, p, c, h1, h2, h3, h4⟩ := h
  exact ⟨tp, tc, rp, rc, p, c, h1, Nat.lt_of_lt_of_le h2 hs.1, h3.keep (hs.2 b h1 h2), h4.stays hs⟩
end Go.Proofs.YtfeijijeohfpgaaDoor
namespace Go.Proofs.YtfeijijeohfpgaaDoor
open Go Go.RowKit
def LP (w : World) (C Z : Nat → Prop) (l : List Tm) (v : Value) : Prop := ∃ (q : Option Addr) (c : Nat), v = .slice q l.length c ∧ l.length ≤ c ∧ c ≤ maxLen ∧
  ∀ (j : Nat) (hj : j < l.length), ∃ (g o b1 o1 : Nat), q = some ⟨g, o, none⟩ ∧ Z g ∧ g < w.heap.size ∧ w.cell? ⟨g, o + j, none⟩ = some (.pointer (some ⟨b1, o1, none⟩)) ∧ TermAt w C l[j] b1 o1
theorem LP.stays {w w' : World} {C Z : Nat → Prop} {l : List Tm} {v : Value} (h : LP w C Z l v) (hc : Stays C w w') (hz : Stays Z w w') : LP w' C Z l v := by
  obtain ⟨q, c, h1, h2, h3, h4⟩ := h
  refine ⟨q, c, h1, h2, h3, fun j hj => ?_⟩
  obtain ⟨g, o, b1, o1, e1, e2, e3, e4, e6⟩ := h4 j hj
  exact ⟨g, o, b1, o1, e1, e2, Nat.lt_of_lt_of_le e3 hz.1, (World.cell?_of_block (a := ⟨g, o + j, none⟩) (hz.2 g e2 e3)).trans e4, e6.stays hc⟩
theorem LP.mono {w : World} {C Z Z' : Nat → Prop} {l : List Tm} {v : Value} (h : LP w C Z l v) (hz : ∀ z, Z z → z < w.heap.size → Z' z) : LP w C Z' l v := by
  obtain ⟨q, c, h1, h2, h3, h4⟩ := h
  refine ⟨q, c, h1, h2, h3, fun j hj => ?_⟩
  obtain ⟨g, o, b1, o1, e1, e2, e3, e4, e6⟩ := h4 j hj
  exact ⟨g, o, b1, o1, e1, hz g e2 e3, e3, e4, e6⟩
theorem LP.form {w : World} {C Z : Nat → Prop} {l : List Tm} {v : Value} (h : LP w C Z l v) : ∃ q c, v = .slice q l.length c := by
  obtain ⟨q, c, h1, _⟩ := h
  exact ⟨q, c, h1⟩
theorem LP.open {w : World} {C Z : Nat → Prop} {x : Tm} {l : List Tm} {v : Value} (h : LP w C Z (x :: l) v) :
    ∃ (b o c b1 o1 : Nat), v = .slice (some ⟨b, o, none⟩) (l.length + 1) c ∧ l.length + 1 ≤ c ∧ c ≤ maxLen ∧ Z b ∧ b < w.heap.size ∧ w.cell? ⟨b, o, none⟩ = some (.pointer (some ⟨b1, o1, none⟩)) ∧
      TermAt w C x b1 o1 ∧ ∀ q, (l ≠ [] → q = some ⟨b, o + 1, none⟩) → LP w C Z l (.slice q l.length (c - 1)) := by
  obtain ⟨q, c, rfl, h2, h3, h4⟩ := h
  obtain ⟨b, o, b1, o1, rfl, e2, e3, e4, e6⟩ := h4 0 (by simp)
  simp only [List.length_cons] at h2
  refine ⟨b, o, c, b1, o1, rfl, h2, h3, e2, e3, by simpa using e4, e6, fun q hq => ⟨q, c - 1, rfl, by omega, by omega, fun j hj => ?_⟩⟩
  obtain ⟨b', o', b1', o1', f1, f2, f3, f4, f6⟩ := h4 (j + 1) (by simp; omega)
  simp only [Option.some.injEq, Addr.mk.injEq, and_true] at f1
  obtain ⟨rfl, rfl⟩ := f1
  refine ⟨b, o + 1, b1', o1', hq (fun e => by rw [e] at hj; simp at hj), f2, f3, ?_, by simpa using f6⟩
  rw [show o + 1 + j = o + (j + 1) by omega]; exact f4
theorem infoP : (Tryd.prog.info? 54).map (fun i => (i.zero, i.size, i.bytes)) = some (some (.pointer none), 1, 8) := by kernel_rfl
structure RowP (w : World) (g n : Nat) (P : Nat → Value) (k : Nat) : Prop where
  blk : ∃ cur : Array Value, w.heap[g]? = some (.cells cur 54 (0, 0)) ∧ cur.size = n ∧ ∀ j, j < n → cur[j]? = some (if j < k then P j else .pointer none)
section
variable {w w' : World} {g n k : Nat} {P : Nat → Value}
theorem RowP.lt (h : RowP w g n P k) : g < w.heap.size := by
  obtain ⟨cur, hb, _⟩ := h.blk
  exact (Array.getElem?_eq_some_iff.1 hb).1
theorem RowP.frozen (h : RowP w g n P k) (i : Nat) : w.frozen? ⟨g, i, none⟩ = false := by
  obtain ⟨cur, hb, _⟩ := h.blk
  exact unfrozen_of_blk hb i
theorem RowP.ptr (h : RowP w g n P k) {j : Nat} (hj : j < n) : w.cell? ⟨g, j, none⟩ = some (if j < k then P j else .pointer none) := by
  obtain ⟨cur, hb, _, hc⟩ := h.blk
  rw [cell_of_blk hb]; exact hc j hj
theorem RowP.next (h : RowP w g n P k) : RowP (w.setCell ⟨g, k, none⟩ (P k)) g n P (k + 1) := by
  obtain ⟨cur, h1, h2, h3⟩ := h.blk
  refine ⟨cur.setIfInBounds k (P k), Go.Joins.block_setCell h1 _, by simpa using h2, fun j hj => ?_⟩
  have e1 := h3 j hj
  rw [Array.getElem?_setIfInBounds]
  by_cases e : k = j
  · subst e
    rw [if_pos rfl, if_pos (by omega), if_pos (by omega)]
  · rw [if_neg (by omega), e1]
    by_cases e3 : j < k
    · rw [if_pos e3, if_pos (by omega)]
    · rw [if_neg e3, if_neg (by omega)]
theorem rowP_start {base : Nat} {xs : List Value} (h : w.ownsRow base 54 1 (.slice (some ⟨g, 0, none⟩) n n) n xs) (hx : ∀ j, j < n → xs[j]? = some (.pointer none)) : RowP w g n P 0 := by
  rcases h.2 with ⟨e0, e1⟩ | ⟨g', cap', cur, hv, hg, hblk, h1, h2, h3, h4⟩
  · cases e0
  · simp only [Value.slice.injEq, Option.some.injEq, Addr.mk.injEq, true_and, and_true] at hv
    obtain ⟨rfl, rfl⟩ := hv
    refine ⟨cur, hblk, by simpa using h3, fun j hj => ?_⟩
    have e1 := hx j hj
    rw [← h4, List.getElem?_take, if_pos (by omega), Array.getElem?_toList] at e1
    rw [if_neg (by omega)]
    exact e1
end
theorem zerosP (n j : Nat) (h : j < n) : (madeCells (#[Value.pointer none]) n).toList[j]? = some (.pointer none) := by
  simp [madeCells, h, Nat.mod_one]
def ptrP (p : Option Addr) (j : Nat) : Value := .pointer (match p with | some a => some ⟨a.block, a.off + j * 9, none⟩ | none => none)
theorem lp_fin {C : Nat → Prop} {w wf : World} {t : Tm} {tp rp p : Option Addr} {tc rc c G k : Nat} (hR : RowP wf G k (ptrP p) k) (hG : w.heap.size ≤ G) (hm : k = t.args.length) (hk : k ≤ maxLen)
    (hb : Below w.heap.size w wf) (hT : TM' w C t tp tc rp rc p c) :
    LP wf C (fun z => w.heap.size ≤ z ∧ z < wf.heap.size) t.args (.slice (some ⟨G, 0, none⟩) k k) := by
  subst hm
  refine ⟨_, _, rfl, Nat.le_refl _, hk, fun j hj => ?_⟩
  obtain ⟨b', o', tp', tc', rp', rc', p', c', hp, hC', hb', h9', hx'⟩ := tm_part hT.args j hj
  have hst : Stays C w wf := .of_below hb
  refine ⟨G, 0, b', o' + j * 9, rfl, ⟨hG, hR.lt⟩, hR.lt, ?_, ⟨_, _, _, _, _, _, hC', Nat.lt_of_lt_of_le hb' hb.size, h9' wf hst, hx'.stays hst⟩⟩
  rw [Nat.zero_add, hR.ptr hj, if_pos hj, hp]
  rfl
set_option maxRecDepth 100000 in
set_option maxHeartbeats 4000000 in
theorem partsP_any {C : Nat → Prop} {w : World} {b o : Nat} {t : Tm} (h : TermAt w C t b o) (hn : t.wt ≤ 2097152) :
    Calls Tryd.prog 61 #[.pointer (some ⟨b, o, none⟩)] w fun e w' => ∃ v, e = .returned v ∧ LP w' C (fun z => w.heap.size ≤ z ∧ z < w'.heap.size) t.args v ∧ Below w.heap.size w w' := by
  obtain ⟨i0, hi, hz0, hz1, hz2⟩ := info_parts infoP
  obtain ⟨tp, tc, rp, rc, p, c, hC, hb, h9, hT⟩ := h
  have HT := Lib.hid hT
  have hlen : t.args.length ≤ 2097152 := by have h1 := t.wt_eq; have h2 := wtS_ge t.args; omega
  have k8 := h9.args
  obtain ⟨m, hm⟩ : ∃ m, m = t.args.length := ⟨_, rfl⟩
  rw [← hm] at k8 hlen
  have HM := Lib.hid hm
  have HB := Lib.hid hb
  have HK8 := Lib.hid k8
  clear h9 hT hm
  go_enter Tryd.func61, Tryd.ntmps61
  go_wp2_with (at_make; refine wpList_make_full _ rfl _ _ 87 rfl w.heap.size 54 i0 _ 1 Tryd.underlying87 hi hz0 hz1 .i64 .i64 _ _ m rfl rfl rfl rfl ?c1 ?c2 ?c3 ?_)
  case c1 => rw [hz2]; omega
  case c2 => unfold maxLen; omega
  case c3 => exact Nat.le_refl _
  intro w2 hown0 hg
  have hb2 : Below w.heap.size w w2 := (Below.refl _ _).grown hg (Nat.le_refl _) (fun k h => by cases h)
  have HR0 := Lib.hid (rowP_start (P := ptrP p) hown0 (fun j hj => zerosP m j hj))
  clear hown0 hg
  have HB2 := Lib.hid hb2
  clear hb2
  go_wp2_with fail
  go_loopw [13] (fun i wr => ∃ k : Nat, k ≤ m ∧ i = .int .i64 k ∧ RowP wr w.heap.size m (ptrP p) k ∧ Below w.heap.size w wr) (fun i _ => m - (intOf i).toNat)
  case atStart => exact ⟨0, Nat.zero_le _, rfl, HR0.out, HB2.out⟩
  case round =>
    obtain ⟨k, hk, rfl, hrow, hbr⟩ := hrel
    have HR := Lib.hid hrow
    have HBR := Lib.hid hbr
    clear hrow hbr HR0 HB2
    by_cases hlk : k < m
    · have hka2 : k < t.args.length := by rw [← HM.out]; exact hlk
      obtain ⟨b', o', tp', tc', rp', rc', p', c', rfl, hC', hb', h9', hx'⟩ := tm_part HT.out.args k hka2
      have f0 := HR.out.ptr hlk
      have fz := HR.out.frozen
      have HNX := Lib.hid HR.out.next
      have kr := (HBR.out.cell HB.out).trans HK8.out
      have i0 : (0 : Int) ≤ (k : Int) := Int.natCast_nonneg _
      have i1 : (k : Int) < (m : Int) := by omega
      clear h9' hx' hka2
      go_wp2_with fail
      go_roundw
      case rel => exact ⟨k + 1, by omega, by go_num, HNX.out, HBR.out.setCell (p := ⟨w.heap.size, k, none⟩) (Nat.le_refl _) _⟩
      case measure => simp [intOf]; omega
    · obtain rfl : k = m := by omega
      go_wp2_with fail
      go_ret
      exact ⟨_, rfl, lp_fin HR.out (Nat.le_refl _) HM.out (by unfold maxLen; omega) HBR.out HT.out, HBR.out⟩
end Go.Proofs.YtfeijijeohfpgaaDoor
