/-
  Go's own slices.Concat of rows of bytes.
-/
import Derived.Test.YtilfmmjjiiabgaaRow
import Derived.Test.YtilfmmjjiiabgaaRows
import Derived.Lib.AppendZerosOnto
import Derived.StillTailTactics
namespace Go.Proofs.Ytilfmmjjiiabgaa.SlbC
open Go.RowKit Go.My

theorem info_b : (Try.prog.info? 5).map (fun i => (i.zero, i.size, i.bytes)) = some (some (.int .u8 0), 1, 1) := by kernel_rfl

set_option maxRecDepth 100000 in
set_option maxHeartbeats 2000000 in
/-- slices.Grow of no slice. -/
theorem grow_any (n : Nat) (hn : 1 ≤ n) (hn2 : n ≤ 1073741824) (w : World) :
    Calls Try.prog 39 #[.slice none 0 0, .int .i64 (n : Int)] w fun e w' => ∃ a c, e = .returned (.slice a 0 c) ∧ OwnV 5 w.heap.size w' (.slice a 0 c) [] ∧ Below w.heap.size w w' := by
  obtain ⟨i, hi, hz0, hsz, hz2⟩ := info_parts info_b
  have hrz : ∀ ty, (Builtin.append_ #[22, 3] ty #[.slice none 0 0, .int .i64 (n : Int)]).run Try.prog w =
      .ok (.slice (some ⟨w.heap.size, 0, none⟩) n (grownCap w n 0 5)) (w.drew.alloc (.cells (#[] ++ Builtin.zeroCells (Value.int .u8 0).cells n ++ Builtin.zeroCells (Value.int .u8 0).cells (grownCap w n 0 5 - n)) 5)) := fun ty => by
    have h := Lib.run_append_grow_zeros (P := Try.prog) w 22 3 ty 5 i (.int .u8 0) .i64 .i64 Try.underlying22 Try.underlying3 hi hz0 none 0 0 [] (run_firstCells_none w.drew i.size 0 0 0) n (by omega) (by omega) (by omega) (by omega) (by rw [hz2]; omega)
      (by rw [hz2, Nat.zero_add]; exact growslice_fits (by omega) (by omega))
    rw [Nat.zero_add] at h
    exact h
  have hG := grownCap_ge w n 0 5
  have hG2 := grownCap_le_maxLen w n 0 5 (by unfold maxLen; omega)
  obtain ⟨G, hGe⟩ : ∃ G, G = grownCap w n 0 5 := ⟨_, rfl⟩
  rw [← hGe] at hrz hG hG2
  have hG63 : G ≤ 9223372036854775807 := by unfold maxLen at hG2; omega
  have w1 : IntKind.i64.wrap (n : Int) = (n : Int) := IntWalk.i64_in _ (by omega)
  have hgt : (0 : Int) < (n : Int) := by omega
  have HZ := Lib.hid hrz
  have HG2 := Lib.hid hG2
  obtain ⟨C, hC⟩ : ∃ C, C = (#[] ++ Builtin.zeroCells (Value.int .u8 0).cells n ++ Builtin.zeroCells (Value.int .u8 0).cells (G - n)) := ⟨_, rfl⟩
  have hCs : C.size = G := by
    have e1 : (Value.int .u8 0).cells.size = 1 := rfl
    rw [hC, Array.size_append, Array.size_append, size_zeroCells, size_zeroCells, e1]
    simp
    omega
  rw [← hC] at HZ
  clear hrz hGe hG2 hC
  go_enter Try.func39, Try.ntmps39
  go_wp2_with (at_builtin; refine Lib.wpList_append_run _ rfl _ _ _ _ rfl _ _ rfl rfl _ _ (HZ.out _) ?_)
  all_goals
    go_ret
    refine ⟨_, _, rfl, ⟨by simp, .inr ⟨w.heap.size, G, C, rfl, Nat.le_refl _, heap_alloc_new w _, by simp, HG2.out, by rw [hCs]; simp, by simp⟩⟩, ((Below.refl w.heap.size w).alloc (Nat.le_refl _) _).drew⟩

/-- K rows of numbers. -/
structure Rws (w : World) (a : Option Addr) (K c : Nat) (f : Nat → Value) (L : Nat → List Value) : Prop where
  tab : RowIn w a K c ((List.range K).map f)
  row : ∀ i, i < K → ∃ a' c', f i = .slice a' (L i).length c' ∧ RowIn w a' (L i).length c' (L i)
  one : ∀ i, i < K → ∀ u ∈ L i, u.oneCell' = true
def cat (L : Nat → List Value) : Nat → List Value
  | 0 => []
  | k + 1 => cat L k ++ L k
theorem cat_le (L : Nat → List Value) {a b : Nat} (h : a ≤ b) : (cat L a).length ≤ (cat L b).length := by
  induction h with
  | refl => exact Nat.le_refl _
  | step _ ih => rw [cat, List.length_append]; omega
theorem Rws.below {w w' : World} {a : Option Addr} {K c : Nat} {f : Nat → Value} {L : Nat → List Value} (h : Rws w a K c f L) (hb : Below w.heap.size w w') : Rws w' a K c f L :=
  ⟨h.tab.below (Nat.le_refl _) hb, fun i hi => by obtain ⟨a', c', h1, h2⟩ := h.row i hi; exact ⟨a', c', h1, h2.below (Nat.le_refl _) hb⟩, h.one⟩

set_option maxRecDepth 100000 in
set_option maxHeartbeats 4000000 in
/-- slices.Concat of rows of numbers. -/
theorem concat_any (a : Option Addr) (K c : Nat) (f : Nat → Value) (L : Nat → List Value) (w : World) (h : Rws w a K c f L) (hK : K ≤ 100) (h1 : 1 ≤ (cat L K).length) (h2 : (cat L K).length ≤ 1073741824) :
    Calls Try.prog 27 #[.slice a K c] w fun e w' => ∃ a' c', e = .returned (.slice a' (cat L K).length c') ∧ OwnV 5 w.heap.size w' (.slice a' (cat L K).length c') (cat L K) ∧ Below w.heap.size w w' := by
  have H := Lib.hid h
  clear h
  go_enter Try.func27, Try.ntmps27
  go_wp2_with fail
  go_loop [3, 5, 11] (fun x _ y => ∃ k : Nat, k ≤ K ∧ x = .int .i64 ((cat L k).length : Int) ∧ y = .int .i64 (k : Int)) (fun _ _ y => K - (intOf y).toNat)
  case atStart => exact ⟨0, Nat.zero_le _, rfl, rfl⟩
  case round =>
    obtain ⟨k, hk, rfl, rfl⟩ := hrel
    by_cases hlt : k < K
    · obtain ⟨b, off, rfl⟩ := H.out.tab.some_ (by omega)
      obtain ⟨a', c', e1, hr⟩ := H.out.row k hlt
      have hc : w.cell? ⟨b, off + k, none⟩ = some (.slice a' (L k).length c') := by
        rw [H.out.tab.get k (by simpa using hlt)]; simp [e1]
      have hle := cat_le L (show k + 1 ≤ K by omega)
      have hs : (cat L (k + 1)).length = (cat L k).length + (L k).length := by rw [cat, List.length_append]
      have w1 : IntKind.i64.wrap (((cat L k).length : Int) + ((L k).length : Int)) = ((cat L (k + 1)).length : Int) := by rw [IntWalk.i64_in _ (by omega), hs]; omega
      have hpos : ¬ ((cat L (k + 1)).length : Int) < 0 := by omega
      have HS := Lib.hid hs
      clear hs
      obtain ⟨N1, hN1⟩ : ∃ N1, N1 = (cat L (k + 1)).length := ⟨_, rfl⟩
      rw [← hN1] at w1 hpos hle HS
      have HN := Lib.hid hN1
      clear hN1
      go_wp2_with fail
      go_round
      case rel => exact ⟨k + 1, by omega, by rw [HN.out], by go_num⟩
      case measure => simp [intOf]; omega
    · obtain rfl : k = K := by omega
      go_wp2_with fail
      refine (grow_any (cat L k).length h1 h2 w).mono ?_
      rintro e w1 ⟨a1, c1, rfl, hown, hb⟩
      have HO := Lib.hid hown
      have HB := Lib.hid hb
      clear hown hb h1
      go_wp2_with fail
      go_loopw [6, 8, 27] (fun x _ y wr => ∃ j a' c', j ≤ k ∧ x = .slice a' (cat L j).length c' ∧ y = .int .i64 ((j : Nat) : Int) ∧ Hid (OwnV 5 w.heap.size wr (.slice a' (cat L j).length c') (cat L j)) ∧ Hid (Below w.heap.size w wr)) (fun _ _ y _ => k - (intOf y).toNat)
      case atStart => exact ⟨0, a1, c1, Nat.zero_le _, rfl, rfl, HO, HB⟩
      case round =>
        clear HO HB
        obtain ⟨j, a2, c2, hj, rfl, rfl, HO, HB⟩ := hrel
        by_cases hlt : j < k
        · have H1 := Lib.hid (H.out.below HB.out)
          obtain ⟨b, off, rfl⟩ := H1.out.tab.some_ (by omega)
          obtain ⟨a', c', e1, hr⟩ := H1.out.row j hlt
          have hc : wr.cell? ⟨b, off + j, none⟩ = some (.slice a' (L j).length c') := by
            rw [H1.out.tab.get j (by simpa using hlt)]; simp [e1]
          have hle := cat_le L (show j + 1 ≤ k by omega)
          have hs : (cat L (j + 1)).length = (cat L j).length + (L j).length := by rw [cat, List.length_append]
          have HR := Lib.hid hr
          have hsz := HB.out.size
          go_wp2_with (at_builtin; refine wpList_append_row (by rfl) (.tmp 31) (.tmp 32) 22 (by rfl) w.heap.size 5 (.int .u8 0) 1 Try.underlying22 info_b rfl _ (cat L j) (by rfl) HO.out a' (L j).length c' (L j) (by rfl) HR.out (H1.out.one j hlt) (by omega) (by omega) hsz ?_)
          intro a3 c3 w3 hown hgrow hnext
          have hb3 : Below w.heap.size w w3 := HO.out.grown HB.out hgrow hsz
          have HO3 := Lib.hid hown
          have HB3 := Lib.hid hb3
          have HS := Lib.hid hs
          clear hown hgrow hnext hb3 HO HB H1 hs hc
          go_wp2_with fail
          go_roundw
          case rel => exact ⟨j + 1, a3, c3, by omega, by rw [HS.out], by go_num, by rw [HS.out]; exact HO3, HB3⟩
          case measure => simp [intOf]; omega
        · obtain rfl : j = k := by omega
          go_wp2_with fail
          go_ret
          exact ⟨a2, c2, rfl, HO.out, HB.out⟩


/-! ### in the words of bytes -/
theorem row_of {w : World} {a : Option Addr} {n c : Nat} {l : List UInt8} (h : Bytes w a n c l) : RowIn w a n c (l.map bv) := by
  refine ⟨by simp [h.len_eq], h.le_cap, h.cap_le, h.nil, h.at_.imp_right ?_⟩
  rintro ⟨b, off, ha, hs, hc⟩
  exact ⟨b, off, ha, hs, fun i hi => by rw [hc i (by simpa using hi)]; simp [bv]⟩
theorem own_of {B : Nat} {w : World} {v : Value} {l : List UInt8} (h : OwnV 5 B w v (l.map bv)) : Own 5 B w v l := by
  unfold OwnV at h
  unfold Own
  rw [List.length_map] at h
  exact h
/-- Three rows of bytes, one behind the other. -/
theorem concat_three (b0 : Nat) (a1 a2 a3 : Option Addr) (n1 n2 n3 c1 c2 c3 : Nat) (l1 l2 l3 : List UInt8) (w : World) (h : RowIn w (some ⟨b0, 0, none⟩) 3 3 [.slice a1 n1 c1, .slice a2 n2 c2, .slice a3 n3 c3])
    (h1 : Bytes w a1 n1 c1 l1) (h2 : Bytes w a2 n2 c2 l2) (h3 : Bytes w a3 n3 c3 l3) (hl : 1 ≤ (l1 ++ l2 ++ l3).length) (hm : (l1 ++ l2 ++ l3).length ≤ 1073741824) :
    Calls Try.prog 27 #[.slice (some ⟨b0, 0, none⟩) 3 3] w fun e w' => OwnRet 5 w (l1 ++ l2 ++ l3) e w' := by
  have hcat : cat (fun i => if i = 0 then l1.map bv else if i = 1 then l2.map bv else l3.map bv) 3 = (l1 ++ l2 ++ l3).map bv := by simp [cat]
  have hlen : ((l1 ++ l2 ++ l3).map bv).length = (l1 ++ l2 ++ l3).length := List.length_map _
  obtain rfl := h1.len_eq
  obtain rfl := h2.len_eq
  obtain rfl := h3.len_eq
  have hr : Rws w (some ⟨b0, 0, none⟩) 3 3 (fun i => if i = 0 then .slice a1 l1.length c1 else if i = 1 then .slice a2 l2.length c2 else .slice a3 l3.length c3) (fun i => if i = 0 then l1.map bv else if i = 1 then l2.map bv else l3.map bv) := by
    refine ⟨h, fun i hi => ?_, fun i hi u hu => ?_⟩
    · have : i = 0 ∨ i = 1 ∨ i = 2 := by omega
      rcases this with rfl | rfl | rfl
      · exact ⟨a1, c1, by simp, by simpa using row_of h1⟩
      · exact ⟨a2, c2, by simp, by simpa using row_of h2⟩
      · exact ⟨a3, c3, by simp, by simpa using row_of h3⟩
    · have : ∃ x : UInt8, u = bv x := by
        split at hu
        · obtain ⟨x, -, rfl⟩ := List.mem_map.1 hu; exact ⟨x, rfl⟩
        · split at hu
          · obtain ⟨x, -, rfl⟩ := List.mem_map.1 hu; exact ⟨x, rfl⟩
          · obtain ⟨x, -, rfl⟩ := List.mem_map.1 hu; exact ⟨x, rfl⟩
      obtain ⟨x, rfl⟩ := this
      rfl
  refine (concat_any _ 3 3 _ _ w hr (by omega) (by rw [hcat, hlen]; exact hl) (by rw [hcat, hlen]; exact hm)).mono ?_
  rintro e w' ⟨a', c', rfl, ho, hb⟩
  refine ⟨_, rfl, own_of (l := l1 ++ l2 ++ l3) ?_, hb⟩
  rw [← hcat]
  exact ho
end Go.Proofs.Ytilfmmjjiiabgaa.SlbC
