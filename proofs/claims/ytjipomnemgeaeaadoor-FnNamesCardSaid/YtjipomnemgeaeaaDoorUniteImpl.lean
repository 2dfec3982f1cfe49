/-
  The contract of the program's UniteNames: the strings of both lists, each at its first place; what has been seen stands in a map.
-/
import Derived.Test.YtjipomnemgeaeaaDoorUniteSpec
import Derived.Test.YtjipomnemgeaeaaDoorSets
namespace Go.Proofs.YtjipomnemgeaeaaDoor
open Go Go.RowKit Go.Maps

theorem lawKey : Keyed Tryd.prog 9 := string_keyed Tryd.underlying9
theorem zeroBool (w : World) : (zeroValue 4).run Tryd.prog w = .ok (.bool false) w := by kernel_rfl

/-- The map at block b says of each string whether it is among acc. -/
def Seen (w : World) (b : Nat) (acc : List ByteArray) : Prop := SetIs Tryd.prog 9 4 w b acc.length (fun s => hasS s acc)
theorem seen_made (w : World) : Seen (w.alloc (.map #[] 0)) w.heap.size [] := setIs_made w _ _ _
theorem Seen.belowAt {w w' : World} {b B : Nat} {acc : List ByteArray} (h : Seen w b acc) (hlt : b < B) (hb : Below B w w') : Seen w' b acc := SetIs.belowAt h hlt hb
theorem Seen.next {w : World} {b : Nat} {acc : List ByteArray} {x : ByteArray} (h : SetIs Tryd.prog 9 4 w b (acc.length + 1) (fun s => decide (s = x) || hasS s acc)) : Seen w b (acc ++ [x]) := by
  unfold Seen
  rw [List.length_append]
  exact h.congr (fun s => hasS_snoc s acc x)

theorem Own.kept {w w' : World} {base g : Nat} {v : Value} {xs : List ByteArray} (h : Own w base v xs) (hlt : g < base) (hg : w.grownBy w' (some g)) : Own w' base v xs := by
  refine ⟨h.1, ?_⟩
  rcases h.2 with h0 | ⟨k, cap, cur, rfl, hk, hblk, h1, h2, h3, h4⟩
  · exact Or.inl h0
  · refine Or.inr ⟨k, cap, cur, rfl, hk, ?_, h1, h2, h3, h4⟩
    rw [hg.block k (h.lt k rfl).2 (by simp; omega)]; exact hblk

/-- What has been gathered of the first m lists. -/
def gath (a b : List ByteArray) : Nat → List ByteArray
  | 0 => []
  | 1 => add [] a
  | _ => un a b

/-- The state of the walk: what has been gathered, the map, the two lists in their literal. -/
structure US (w0 w : World) (va vb v : Value) (acc : List ByteArray) : Prop where
  own : Own w (w0.heap.size + 2) v acc
  seen : Seen w w0.heap.size acc
  c0 : w.cell? ⟨w0.heap.size + 1, 0, none⟩ = some va
  c1 : w.cell? ⟨w0.heap.size + 1, 1, none⟩ = some vb
  below : Below w0.heap.size w0 w
  size : w0.heap.size + 2 ≤ w.heap.size

theorem US.start (w0 : World) (va vb : Value) : US w0 ((w0.alloc (.map #[] 0)).alloc (.cells #[va, vb] 24)) va vb (.slice none 0 0) [] := by
  have e1 : (w0.alloc (.map #[] 0)).heap.size = w0.heap.size + 1 := by simp
  have hb := (Below.refl (w0.heap.size + 1) (w0.alloc (.map #[] 0))).alloc (by omega) (.cells #[va, vb] 24)
  refine ⟨own_nil _ _, (seen_made w0).belowAt (Nat.lt_succ_self _) hb, ?_, ?_, ((Below.refl _ w0).alloc (Nat.le_refl _) _).alloc (by omega) _, by simp⟩
  · rw [← e1]; exact World.cell?_alloc_mark _ _ _ _ _
  · rw [← e1]; exact World.cell?_alloc_mark _ _ _ _ _

/-- The m-th of the two lists. -/
theorem US.list {w0 w : World} {a b : List ByteArray} {p q : Option Addr} {c d : Nat} {v : Value} {acc : List ByteArray} (h : US w0 w (.slice p a.length c) (.slice q b.length d) v acc) (hA : At w0 p a) (hB : At w0 q b)
    (ha : a.length ≤ 1048576) (hb : b.length ≤ 1048576) (za : ∀ x ∈ a, x.size ≤ 1048576) (zb : ∀ x ∈ b, x.size ≤ 1048576) {m : Nat} (hm : m < 2) (hacc : acc = gath a b m) :
    ∃ (r : Option Addr) (k : Nat) (ys : List ByteArray), w.cell? ⟨w0.heap.size + 1, m, none⟩ = some (.slice r ys.length k) ∧ At w0 r ys ∧ ys.length ≤ 1048576 ∧ (∀ x ∈ ys, x.size ≤ 1048576) ∧ gath a b (m + 1) = add acc ys ∧ acc.length ≤ 1048576 := by
  have hm' : m = 0 ∨ m = 1 := by omega
  rcases hm' with rfl | rfl
  · exact ⟨p, c, a, h.c0, hA, ha, za, by rw [hacc]; rfl, by rw [hacc]; simp [gath]⟩
  · refine ⟨q, d, b, h.c1, hB, hb, zb, by rw [hacc]; rfl, ?_⟩
    rw [hacc]
    have := add_length a []
    simp only [List.length_nil, Nat.zero_add] at this
    simp only [gath]
    omega

/-- A string that has not been seen: the map is told, the string is put behind. -/
theorem US.told {w0 w w1 w2 : World} {va vb v v' : Value} {acc : List ByteArray} {x : ByteArray} (h : US w0 w va vb v acc)
    (hset : SetIs Tryd.prog 9 4 w1 w0.heap.size (acc.length + 1) (fun s => decide (s = x) || hasS s acc)) (hg : w.grownBy w1 (some w0.heap.size))
    (hown : Own w2 (w0.heap.size + 2) v' (acc ++ [x])) (hb : Below (w0.heap.size + 2) w1 w2) : US w0 w2 va vb v' (acc ++ [x]) := by
  have hs1 := hg.size
  have hs2 := hb.size
  have hs := h.size
  refine ⟨hown, (Seen.next hset).belowAt (by omega) hb, ?_, ?_, ?_, by omega⟩
  · exact (hb.cell (p := ⟨w0.heap.size + 1, 0, none⟩) (by simp)).trans (hg.cell h.c0 (by simp))
  · exact (hb.cell (p := ⟨w0.heap.size + 1, 1, none⟩) (by simp)).trans (hg.cell h.c1 (by simp))
  · exact (h.below.grown hg (by omega) (fun k hk => by cases hk; exact Nat.le_refl _)).trans (hb.mono (by omega))

set_option maxRecDepth 100000 in
set_option maxHeartbeats 2000000 in
theorem unI_at (a b : List ByteArray) (p q : Option Addr) (c d : Nat) (w : World) (ha : a.length ≤ 1048576) (hb : b.length ≤ 1048576) (za : ∀ x ∈ a, x.size ≤ 1048576) (zb : ∀ x ∈ b, x.size ≤ 1048576) (hA : At w p a) (hB : At w q b) :
    Calls Tryd.prog 9 #[.slice p a.length c, .slice q b.length d] w (NewS' (un a b) w) := by
  have HL := Lib.hid (fun (wx : World) (v : Value) (acc : List ByteArray) (m : Nat) (h : US w wx (.slice p a.length c) (.slice q b.length d) v acc) (hm : m < 2) (hacc : acc = gath a b m) => h.list hA hB ha hb za zb hm hacc)
  have hmm := @run_makeMap Tryd.prog
  clear hA hB za zb
  go_enter Tryd.func9, Tryd.ntmps9
  go_wp2_with fail
  go_loopw [5, 16] (fun v i wr => ∃ (m : Nat) (acc : List ByteArray), m ≤ 2 ∧ i = .int .i64 m ∧ Hid (acc = gath a b m) ∧ US w wr (.slice p a.length c) (.slice q b.length d) v acc) (fun _ i _ => 2 - (intOf i).toNat)
  case atStart => exact ⟨0, [], Nat.zero_le _, rfl, Lib.hid rfl, US.start _ _ _⟩
  case round =>
    obtain ⟨m, acc, hm, rfl, HAcc, hus⟩ := hrel
    have hsz := hus.size
    by_cases hlm : m < 2
    · obtain ⟨r, kk, ys, cy, hR, hyl, hyz, hgn, hal⟩ := HL.out wr _ acc m hus hlm HAcc.out
      have HG := Lib.hid hgn
      have HR := Lib.hid hR
      have HZ := Lib.hid hyz
      have HU := Lib.hid hus
      clear hgn hR hyz hus
      go_wp2_with fail
      go_loopw [5, 22] (fun v i wx => ∃ (j : Nat) (cur : List ByteArray), j ≤ ys.length ∧ i = .int .i64 j ∧ Hid (cur = add acc (ys.take j)) ∧ US w wx (.slice p a.length c) (.slice q b.length d) v cur) (fun _ i _ => ys.length - (intOf i).toNat)
      case atStart => exact ⟨0, acc, Nat.zero_le _, rfl, Lib.hid rfl, HU.out⟩
      case round =>
        clear HU cy hsz
        obtain ⟨j, cur, hj, rfl, HC, hus⟩ := hrel
        have hsz := hus.size
        by_cases hlj : j < ys.length
        · obtain ⟨b0, o0, rfl, hb0, c0⟩ := HR.out j _ (List.getElem?_eq_getElem hlj)
          have c1 := (hus.below.cell (p := ⟨b0, o0 + j, none⟩) hb0).trans c0
          clear c0
          have hys : ys[j].size ≤ maxLen := by
            have := HZ.out _ (List.getElem_mem hlj)
            unfold maxLen
            omega
          have hcl : cur.length ≤ 4194304 := by
            have := add_take_length acc ys j
            rw [← HC.out] at this
            omega
          have hcm : cur.length < maxLen := by unfold maxLen; omega
          have HST : Hid (add acc (ys.take (j + 1)) = addS cur ys[j]) := Lib.hid (by rw [add_step acc hlj, ← HC.out])
          have HS := Lib.hid hus.seen
          have HU := Lib.hid hus
          clear hus
          by_cases hin : ys[j] ∈ cur
          · have hh := hasS_in hin
            have HX := Lib.hid (addS_in hin)
            clear hin
            go_wp2_with (at_lookup; refine wpList_look_set _ rfl _ _ 49 rfl 9 4 lawKey Tryd.underlying9 Tryd.underlying49 Tryd.underlying4 (zeroBool _) w.heap.size _ _ rfl HS.out ys[j] rfl hys true hh ?_; go_frame)
            go_roundw
            case rel => exact ⟨j + 1, cur, by omega, by go_num, Lib.hid (by rw [HST.out, HX.out]), HU.out⟩
            case measure => simp [intOf]; omega
          · have hh := hasS_out hin
            have HX := Lib.hid (addS_out hin)
            clear hin
            go_wp2_with (first
              | (at_lookup; refine wpList_look_set _ rfl _ _ 49 rfl 9 4 lawKey Tryd.underlying9 Tryd.underlying49 Tryd.underlying4 (zeroBool _) w.heap.size _ _ rfl HS.out ys[j] rfl hys false hh ?_; go_frame)
              | (at_mapUpdate; refine wpList_store_set _ rfl _ _ _ 49 rfl 9 4 lawKey Tryd.underlying9 Tryd.underlying49 Tryd.underlying4 w.heap.size _ _ rfl HS.out hcm ys[j] rfl rfl hys ?_; intro w1 hset1 hg1; have HS1 := Lib.hid hset1; have HG1 := Lib.hid hg1; have HO1 := Lib.hid (HU.out.own.kept (by omega) hg1); have hs1 := hg1.size; clear hset1 hg1; go_frame)
              | (at_builtin; refine wpList_app_str rfl _ _ rfl (w.heap.size + 2) _ _ rfl HO1.out ys[j] rfl (by omega) (by omega) ?_; intro v' w2 hown2 hb2; go_frame))
            have HU2 := Lib.hid (HU.out.told HS1.out HG1.out hown2 hb2)
            clear hown2 hb2
            go_roundw
            case rel => exact ⟨j + 1, _, by omega, by go_num, Lib.hid (by rw [HST.out, HX.out]), HU2.out⟩
            case measure => simp [intOf]; omega
        · obtain rfl : j = ys.length := by omega
          have HN : Hid (cur = gath a b (m + 1)) := Lib.hid (by rw [HG.out, HC.out, List.take_length])
          have HU := Lib.hid hus
          clear hus
          go_wp2_with fail
          go_roundw
          case rel => exact ⟨m + 1, cur, by omega, by go_num, HN, HU.out⟩
          case measure => simp [intOf]; omega
    · obtain rfl : m = 2 := by omega
      have HO : Hid (Own wr w.heap.size u5 (un a b)) := Lib.hid (by have := HAcc.out; rw [← show acc = un a b from this]; exact ownsRow_mono hus.own (by omega))
      have HB := Lib.hid hus.below
      clear hus
      go_wp2_with fail
      go_ret
      exact ⟨_, rfl, HO.out, HB.out⟩

theorem unI_any (a b : List ByteArray) (u v : Value) (w : World) (ha : a.length ≤ 1048576) (hb : b.length ≤ 1048576) (za : ∀ x ∈ a, x.size ≤ 1048576) (zb : ∀ x ∈ b, x.size ≤ 1048576) (hA : SS w u a) (hB : SS w v b) :
    Calls Tryd.prog 9 #[u, v] w (NewS' (un a b) w) := by
  obtain ⟨p, c, rfl, hp⟩ := hA.at
  obtain ⟨q, d, rfl, hq⟩ := hB.at
  exact unI_at a b p q c d w ha hb za zb hp hq
#print axioms unI_any
end Go.Proofs.YtjipomnemgeaeaaDoor
