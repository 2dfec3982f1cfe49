/-
  KindName: the contracts of the model's and of the program's, and the walk of the law.
-/
import Derived.Test.YtingnigiijdllaaDoorKN
import Derived.Test.YtingnigiijdllaaDoorApply
import Derived.Test.YtingnigiijdllaaDoorLoopW
import Derived.Lib.SmallJoins
import Derived.Laws.StructEq
import Derived.ChangeKeysEq
namespace Go.Proofs.YtingnigiijdllaaDoor
open Go Go.RowKit

def kname (k : Int) : ByteArray := if 1 ≤ k ∧ k ≤ 13 then ⟨(knTab.getD k.toNat []).toArray⟩ else ⟨#[63]⟩
theorem kname_out {k : Int} (h : ¬ (1 ≤ k ∧ k ≤ 13)) : kname k = ⟨#[63]⟩ := if_neg h
theorem kcases {k : Int} (h : 1 ≤ k ∧ k ≤ 13) : k = 1 ∨ k = 2 ∨ k = 3 ∨ k = 4 ∨ k = 5 ∨ k = 6 ∨ k = 7 ∨ k = 8 ∨ k = 9 ∨ k = 10 ∨ k = 11 ∨ k = 12 ∨ k = 13 := by omega
def StrRet (s : ByteArray) (w : World) (e : Ending) (w' : World) : Prop := e = .returned (.string s) ∧ Below w.heap.size w w'
set_option maxRecDepth 100000 in
set_option maxHeartbeats 4000000 in
theorem knS_any (k : Int) (w : World) : Calls Tryd.prog 21 #[.int .i64 k] w (StrRet (kname k) w) := by
  by_cases h : 1 ≤ k ∧ k ≤ 13
  · rcases kcases h with rfl | rfl | rfl | rfl | rfl | rfl | rfl | rfl | rfl | rfl | rfl | rfl | rfl
    all_goals
      clear h
      go_enter Tryd.func21, Tryd.ntmps21
      go_wp2_with fail
      refine (in_any _ 1 13 _).mono ?_
      rintro e w1 ⟨rfl, rfl⟩
      go_wp2_with fail
      go_ret
      exact ⟨rfl, (Below.refl _ _).alloc (Nat.le_refl _) _⟩
  · rw [kname_out h]
    go_enter Tryd.func21, Tryd.ntmps21
    go_wp2_with fail
    refine (in_any k 1 13 _).mono ?_
    rintro e w1 ⟨rfl, rfl⟩
    have hd : decide (1 ≤ k ∧ k ≤ 13) = false := decide_eq_false h
    go_wp2_with fail
    go_ret
    exact ⟨rfl, Below.refl _ _⟩

theorem run_items_strs {P : Program} {w : World} (d c : Nat) {e : TypeId} (xs ys : Array Value) (g : Nat → Bool) (he : P.underlying e = some .string) : ∀ (is : List Nat),
    (∀ i ∈ is, ∃ a b : ByteArray, (part e xs (i * c)).run P w = .ok (.string a) w ∧ (part e ys (i * c)).run P w = .ok (.string b) w ∧ g i = (a.toList == b.toList)) → (Op.eqItems (d + 1) e c xs ys is).run P w = .ok (is.all g) w
  | [], _ => by simp [Op.eqItems]
  | i :: is, h => by
    obtain ⟨a, b, h1, h2, h3⟩ := h i (by simp)
    have h4 := run_items_strs d c xs ys g he is (fun j hj => h j (by simp [hj]))
    simp only [Op.eqItems, Sem.run_bind, h1, h2, Result.andThen_ok, run_equalIn_string _ d e a b he, List.all_cons, h3]
    cases a.toList == b.toList with
    | false => simp
    | true => simpa using h4
theorem part_str {P : Program} {w : World} {e : TypeId} {xs : Array Value} {i : Nat} {s : ByteArray} (he : P.underlying e = some .string) (h : xs[i]? = some (.string s)) : (part e xs i).run P w = .ok (.string s) w := by
  simp [part, isAgg, run_underlying he, h]
theorem infoKnS : (Tryd.prog.info? 9).isSome = true := by kernel_rfl
theorem cellsOfS : Tryd.prog.cellsOf 9 = 1 := by kernel_rfl
theorem kn_cell {w : World} {g : Nat} {cs : Array Value} {t : TypeId} {fr : Nat × Nat} (h : w.heap[g]? = some (.cells cs t fr)) {i : Nat} : w.cell? ⟨g, i, none⟩ = cs[i]? := by simp [World.cell?, h]
/-- The fourteen names, the one of the number k taken away if it stands before n. -/
def knAt (k : Int) (n i : Nat) : ByteArray := if (i : Int) = k ∧ i < n then ⟨#[]⟩ else ⟨(knTab.getD i []).toArray⟩
def OthersAre (w : World) (b : Nat) (k : Int) (n : Nat) : Prop := ∃ cur : Array Value, w.heap[b]? = some (.cells cur 57 (0, 0)) ∧ cur.size = 14 ∧ ∀ i, i < 14 → cur[i]? = some (.string (knAt k n i))
theorem knAt_next (k : Int) (n i : Nat) (h : ¬ (n : Int) = k) : knAt k (n + 1) i = knAt k n i := by
  unfold knAt
  by_cases hi : (i : Int) = k
  · have : i ≠ n := fun e => h (e ▸ hi)
    simp only [hi, true_and]
    by_cases hn : i < n
    · rw [if_pos (by omega), if_pos hn]
    · rw [if_neg (by omega), if_neg hn]
  · rw [if_neg (fun hh => hi hh.1), if_neg (fun hh => hi hh.1)]
theorem knAt_same (n i : Nat) : knAt (n : Int) (n + 1) i = if i = n then ⟨#[]⟩ else knAt (n : Int) n i := by
  unfold knAt
  by_cases hi : i = n
  · subst hi; simp
  · rw [if_neg hi, if_neg (fun hh => hi (by omega)), if_neg (fun hh => hi (by omega))]
theorem OthersAre.next {w : World} {b : Nat} {k : Int} {n : Nat} (h : OthersAre w b k n) (hk : ¬ (n : Int) = k) : OthersAre w b k (n + 1) := by
  obtain ⟨cur, h1, h2, h3⟩ := h
  exact ⟨cur, h1, h2, fun i hi => by rw [knAt_next k n i hk]; exact h3 i hi⟩
theorem OthersAre.store {w : World} {b n : Nat} (h : OthersAre w b (n : Int) n) (hn : n < 14) : OthersAre (w.setCell ⟨b, n, none⟩ (.string ⟨#[]⟩)) b (n : Int) (n + 1) := by
  obtain ⟨cur, h1, h2, h3⟩ := h
  refine ⟨cur.setIfInBounds n (.string ⟨#[]⟩), Go.Joins.block_setCell h1 _, by simp [h2], fun i hi => ?_⟩
  rw [knAt_same, Array.getElem?_setIfInBounds]
  by_cases hin : i = n
  · subst hin
    rw [if_pos rfl, if_pos (by omega), if_pos rfl]
  · rw [if_neg (fun e => hin e.symm), if_neg hin]
    exact h3 i hi
theorem kn_all (k : Int) : ((List.range 14).all fun i => (knAt k 14 i).toList == (⟨(knTab.getD i []).toArray⟩ : ByteArray).toList) = decide (¬ (1 ≤ k ∧ k ≤ 13)) := by
  by_cases h : 1 ≤ k ∧ k ≤ 13
  · rw [decide_eq_false (fun hh => hh h), List.all_eq_false]
    obtain ⟨n, rfl⟩ := Int.eq_ofNat_of_zero_le (show 0 ≤ k by omega)
    refine ⟨n, by rw [List.mem_range]; omega, ?_⟩
    have e : knAt (n : Int) 14 n = ⟨#[]⟩ := if_pos ⟨rfl, by omega⟩
    rw [e]
    have hn : 1 ≤ n ∧ n ≤ 13 := by omega
    have : ∀ m : Fin 14, 1 ≤ m.val → ¬ (((⟨#[]⟩ : ByteArray).toList == (⟨(knTab.getD m.val []).toArray⟩ : ByteArray).toList) = true) := by
      simp only [ByteArray.toList_eq]
      decide
    exact this ⟨n, by omega⟩ hn.1
  · rw [decide_eq_true h, List.all_eq_true]
    intro i hi
    have hi := List.mem_range.1 hi
    by_cases hk : (i : Int) = k
    · have hi0 : i = 0 := by omega
      subst hi0
      have e : knAt k 14 0 = ⟨#[]⟩ := if_pos ⟨hk, by omega⟩
      rw [e]
      exact beq_self_eq_true _
    · have e : knAt k 14 i = ⟨(knTab.getD i []).toArray⟩ := if_neg (fun hh => hk hh.1)
      rw [e]
      exact beq_self_eq_true _
set_option maxRecDepth 100000 in
set_option maxHeartbeats 1000000 in
theorem knI_any (k : Int) (w : World) (hk : KN w) : Calls Tryd.prog 22 #[.int .i64 k] w (StrRet (kname k) w) := by
  have HK := Lib.hid (fun (w' : World) (hb : Below w.heap.size w w') => hk.below hb)
  go_enter Tryd.func22, Tryd.ntmps22
  have k0 := hk.cell 0
  have k1 := hk.cell 1
  have k2 := hk.cell 2
  have k3 := hk.cell 3
  have k4 := hk.cell 4
  have k5 := hk.cell 5
  have k6 := hk.cell 6
  have k7 := hk.cell 7
  have k8 := hk.cell 8
  have k9 := hk.cell 9
  have k10 := hk.cell 10
  have k11 := hk.cell 11
  have k12 := hk.cell 12
  have k13 := hk.cell 13
  simp only [knTab, List.map_cons, List.map_nil, List.getElem?_toArray, List.getElem?_cons_zero, List.getElem?_cons_succ] at k0 k1 k2 k3 k4 k5 k6 k7 k8 k9 k10 k11 k12 k13
  go_wp2_with fail
  obtain ⟨wl, hwl, hsz, hbl, q0⟩ := box_new w (knTab.map fun z => Value.string ⟨z.toArray⟩).toArray 57
  have hwl2 := hwl
  simp only [knTab, List.map_cons, List.map_nil] at hwl2
  rw [hwl2]
  have HO : Hid (OthersAre wl w.heap.size k 0) := Lib.hid ⟨_, q0, by rfl, fun i hi => by
    have e : knAt k 0 i = ⟨(knTab.getD i []).toArray⟩ := if_neg (by omega)
    rw [e, List.getElem?_toArray, List.getElem?_map, List.getElem?_eq_getElem (by show i < 14; omega), List.getD_eq_getElem?_getD, List.getElem?_eq_getElem (by show i < 14; omega)]
    rfl⟩
  have HBL := Lib.hid hbl
  clear hwl hwl2 hsz hbl q0 k0 k1 k2 k3 k4 k5 k6 k7 k8 k9 k10 k11 k12 k13
  go_loopw [6] (fun i wr => ∃ (n : Nat), n ≤ 14 ∧ i = .int .i64 n ∧ OthersAre wr w.heap.size k n ∧ Below w.heap.size w wr) (fun i _ => 14 - (intOf i).toNat)
  case atStart => exact ⟨0, by omega, rfl, HO.out, HBL.out⟩
  case round =>
    obtain ⟨n, hn, rfl, ho, hb⟩ := hrel
    have HOO := Lib.hid ho
    have HB := Lib.hid hb
    by_cases hlt : n < 14
    · have hd : decide ((n : Int) < 14) = true := decide_eq_true (by omega)
      by_cases hk2 : (n : Int) = k
      · subst hk2
        have t1 : ((n : Int) == (n : Int)) = true := by simp
        obtain ⟨cur, h1, h2, h3⟩ := ho
        have c0 : wr.cell? ⟨w.heap.size, n, none⟩ = some (.string (knAt (n : Int) n n)) := by rw [kn_cell h1]; exact h3 n hlt
        have cz := unfrozen_of_blk h1
        have i0 : (0 : Int) ≤ (n : Int) := Int.natCast_nonneg _
        have i1 : (n : Int) < 14 := by omega
        clear h1 h2 h3 hb hd
        go_wp2_with fail
        go_roundw
        case rel => exact ⟨n + 1, by omega, by go_num, HOO.out.store hlt, HB.out.setCell (p := ⟨w.heap.size, n, none⟩) (Nat.le_refl _) _⟩
        case measure => simp [intOf]; omega
      · have t1 : ((n : Int) == k) = false := by simpa using hk2
        have HNX := Lib.hid (ho.next hk2)
        have i1 : (n : Int) < 14 := by omega
        clear ho hb hk2 hd
        go_wp2_with fail
        go_roundw
        case rel => exact ⟨n + 1, by omega, by go_num, HNX.out, HB.out⟩
        case measure => simp [intOf]; omega
    · obtain rfl : n = 14 := by omega
      have HO14 := Lib.hid (fun (i : Nat) (hi : i < 14) => show wr.cell? ⟨w.heap.size, i, none⟩ = some (.string (knAt k 14 i)) from by
        obtain ⟨cur, h1, h2, h3⟩ := ho
        rw [kn_cell h1]
        exact h3 i hi)
      have hkn := HK.out wr hb
      clear ho hb
      have hd : decide ((14 : Int) < 14) = false := by decide
      have d0 := HO14.out 0 (by omega)
      have d1 := HO14.out 1 (by omega)
      have d2 := HO14.out 2 (by omega)
      have d3 := HO14.out 3 (by omega)
      have d4 := HO14.out 4 (by omega)
      have d5 := HO14.out 5 (by omega)
      have d6 := HO14.out 6 (by omega)
      have d7 := HO14.out 7 (by omega)
      have d8 := HO14.out 8 (by omega)
      have d9 := HO14.out 9 (by omega)
      have d10 := HO14.out 10 (by omega)
      have d11 := HO14.out 11 (by omega)
      have d12 := HO14.out 12 (by omega)
      have d13 := HO14.out 13 (by omega)
      have k0 := hkn.cell 0
      have k1 := hkn.cell 1
      have k2 := hkn.cell 2
      have k3 := hkn.cell 3
      have k4 := hkn.cell 4
      have k5 := hkn.cell 5
      have k6 := hkn.cell 6
      have k7 := hkn.cell 7
      have k8 := hkn.cell 8
      have k9 := hkn.cell 9
      have k10 := hkn.cell 10
      have k11 := hkn.cell 11
      have k12 := hkn.cell 12
      have k13 := hkn.cell 13
      simp only [knTab, List.map_cons, List.map_nil, List.getElem?_toArray, List.getElem?_cons_zero, List.getElem?_cons_succ] at k0 k1 k2 k3 k4 k5 k6 k7 k8 k9 k10 k11 k12 k13
      obtain ⟨ii, hii⟩ := Option.isSome_iff_exists.1 infoKnS
      have HEQ := Lib.hid (fun (A B : Array Value) (hA : ∀ i, i < 14 → A[i]? = some (.string (knAt k 14 i))) (hB : ∀ i, i < 14 → B[i]? = some (.string ⟨(knTab.getD i []).toArray⟩)) =>
        show (Op.equalIn 10000 57 (.agg A) (.agg B)).run Tryd.prog wr = .ok ((List.range 14).all fun i => (knAt k 14 i).toList == (⟨(knTab.getD i []).toArray⟩ : ByteArray).toList) wr from by
          rw [run_equalIn_array wr 9999 A B Tryd.underlying57 hii, cellsOfS]
          exact run_items_strs 9998 1 A B _ Tryd.underlying9 _ (fun i hi => by
            have hi := List.mem_range.1 hi
            exact ⟨_, _, part_str Tryd.underlying9 (by rw [Nat.mul_one]; exact hA i hi), part_str Tryd.underlying9 (by rw [Nat.mul_one]; exact hB i hi), rfl⟩))
      have heq := HEQ.out #[.string (knAt k 14 0), .string (knAt k 14 1), .string (knAt k 14 2), .string (knAt k 14 3), .string (knAt k 14 4), .string (knAt k 14 5), .string (knAt k 14 6), .string (knAt k 14 7), .string (knAt k 14 8), .string (knAt k 14 9), .string (knAt k 14 10), .string (knAt k 14 11), .string (knAt k 14 12), .string (knAt k 14 13)]
        (knTab.map fun z => Value.string ⟨z.toArray⟩).toArray (fun i hi => by
          match i, hi with
          | 0, _ => rfl | 1, _ => rfl | 2, _ => rfl | 3, _ => rfl | 4, _ => rfl | 5, _ => rfl | 6, _ => rfl | 7, _ => rfl | 8, _ => rfl | 9, _ => rfl | 10, _ => rfl | 11, _ => rfl | 12, _ => rfl | 13, _ => rfl
          | n + 14, h => omega) (fun i hi => by
          match i, hi with
          | 0, _ => rfl | 1, _ => rfl | 2, _ => rfl | 3, _ => rfl | 4, _ => rfl | 5, _ => rfl | 6, _ => rfl | 7, _ => rfl | 8, _ => rfl | 9, _ => rfl | 10, _ => rfl | 11, _ => rfl | 12, _ => rfl | 13, _ => rfl
          | n + 14, h => omega)
      have hb := kn_all k
      by_cases hin : 1 ≤ k ∧ k ≤ 13
      · rw [hb, decide_eq_false (fun h => h hin)] at heq
        simp only [knTab, List.map_cons, List.map_nil] at heq
        obtain ⟨n, rfl⟩ := Int.eq_ofNat_of_zero_le (show 0 ≤ k by omega)
        have hc := hkn.cell n
        rw [List.getElem?_toArray, List.getElem?_map, List.getElem?_eq_getElem (by show n < 14; omega)] at hc
        have hkm : kname (n : Int) = ⟨(knTab[n]'(by show n < 14; omega)).toArray⟩ := by
          unfold kname
          rw [if_pos hin, List.getD_eq_getElem?_getD, show ((n : Int)).toNat = n from rfl, List.getElem?_eq_getElem (by show n < 14; omega)]
          rfl
        simp only [Option.map_some, ← hkm] at hc
        have i0 : (0 : Int) ≤ (n : Int) := Int.natCast_nonneg _
        have i1 : (n : Int) < 14 := by omega
        clear hin hb hkm
        go_wp2_with fail
        go_ret
        exact ⟨rfl, HB.out⟩
      · rw [hb, decide_eq_true hin] at heq
        simp only [knTab, List.map_cons, List.map_nil] at heq
        have HKO := Lib.hid (kname_out hin)
        clear hin hb
        go_wp2_with fail
        go_ret
        exact ⟨by rw [HKO.out]; rfl, HB.out⟩
set_option maxRecDepth 100000 in
theorem lawKindName (k : Int) (w : World) (hk : KN w) : Calls Tryd.prog 7 #[.int .i64 k] w fun e w' => e = .returned (.bool true) ∧ Below w.heap.size w w' := by
  have HK := Lib.hid (fun (w' : World) (hb : Below w.heap.size w w') => hk.below hb)
  go_enter Tryd.func7, Tryd.ntmps7
  go_wp2_with fail
  refine (knS_any k w).mono ?_
  rintro e w1 ⟨rfl, hb1⟩
  have HB1 := Lib.hid hb1
  clear hb1
  go_wp2_with fail
  refine (knI_any k w1 (HK.out _ HB1.out)).mono ?_
  rintro e w2 ⟨rfl, hb2⟩
  have HB2 := Lib.hid (HB1.out.trans (hb2.mono HB1.out.size))
  clear hb2
  go_wp2_with fail
  go_ret
  exact ⟨rfl, HB2.out⟩
end Go.Proofs.YtingnigiijdllaaDoor

