import Derived.Test.YtdbcendnibgcaaaGreatDoorMgAp
import Derived.Test.YtdbcendnibgcaaaGreatDoorRows
import Derived.Lib.AppendZerosOnto
import Derived.StillTailTactics
import Derived.Test.YtdbcendnibgcaaaGreatDoorMgBk
import Derived.Deep.RegionWith
import Derived.Lib.SlBytesConst

section
/-
  Go's own slices.Concat of rows of bytes.
-/
namespace Go.Proofs.YtdbcendnibgcaaaGreatDoor.SlbC
open Go.RowKit Go.My

theorem info_b : (Tryz.prog.info? 5).map (fun i => (i.zero, i.size, i.bytes)) = some (some (.int .u8 0), 1, 1) := by kernel_rfl

set_option maxRecDepth 100000 in
set_option maxHeartbeats 2000000 in
/-- slices.Grow of no slice. -/
theorem grow_any (n : Nat) (hn : 1 ≤ n) (hn2 : n ≤ 1073741824) (w : World) :
    Calls Tryz.prog 35 #[.slice none 0 0, .int .i64 (n : Int)] w fun e w' => ∃ a c, e = .returned (.slice a 0 c) ∧ OwnV 5 w.heap.size w' (.slice a 0 c) [] ∧ Below w.heap.size w w' := by
  obtain ⟨i, hi, hz0, hsz, hz2⟩ := info_parts info_b
  have hrz : ∀ ty, (Builtin.append_ #[22, 3] ty #[.slice none 0 0, .int .i64 (n : Int)]).run Tryz.prog w =
      .ok (.slice (some ⟨w.heap.size, 0, none⟩) n (grownCap w n 0 5)) (w.drew.alloc (.cells (#[] ++ Builtin.zeroCells (Value.int .u8 0).cells n ++ Builtin.zeroCells (Value.int .u8 0).cells (grownCap w n 0 5 - n)) 5)) := fun ty => by
    have h := Lib.run_append_grow_zeros (P := Tryz.prog) w 22 3 ty 5 i (.int .u8 0) .i64 .i64 Tryz.underlying22 Tryz.underlying3 hi hz0 none 0 0 [] (run_firstCells_none w.drew i.size 0 0 0) n (by omega) (by omega) (by omega) (by omega) (by rw [hz2]; omega)
      (by rw [hz2, Nat.zero_add]; exact growslice_fits (by omega) (by omega))
    rw [Nat.zero_add] at h
    exact h
  have hG := grownCap_ge w n 0 5
  have hG2 := grownCap_le_maxLen w n 0 5 (by unfold maxLen; omega)
  obtain ⟨G, hGe⟩ : ∃ G, G = grownCap w n 0 5 := ⟨_, rfl⟩
  rw [← hGe] at hrz hG hG2
  have hG63 : G ≤ 9223372036854775807 := by unfold maxLen at hG2; omega
  have w1 : IntKind.i64.wrap (n : Int) = (n : Int) := IntWalk.i64_in _ (by omega)
  have hgt : (0 : Int) < (n : Int) := by omega
  have HZ := Lib.hid hrz
  have HG2 := Lib.hid hG2
  obtain ⟨C, hC⟩ : ∃ C, C = (#[] ++ Builtin.zeroCells (Value.int .u8 0).cells n ++ Builtin.zeroCells (Value.int .u8 0).cells (G - n)) := ⟨_, rfl⟩
  have hCs : C.size = G := by
    have e1 : (Value.int .u8 0).cells.size = 1 := rfl
    rw [hC, Array.size_append, Array.size_append, size_zeroCells, size_zeroCells, e1]
    simp
    omega
  rw [← hC] at HZ
  clear hrz hGe hG2 hC
  go_enter Tryz.func35, Tryz.ntmps35
  go_wp2_with (at_builtin; refine Lib.wpList_append_run _ rfl _ _ _ _ rfl _ _ rfl rfl _ _ (HZ.out _) ?_)
  all_goals
    go_ret
    refine ⟨_, _, rfl, ⟨by simp, .inr ⟨w.heap.size, G, C, rfl, Nat.le_refl _, heap_alloc_new w _, by simp, HG2.out, by rw [hCs]; simp, by simp⟩⟩, ((Below.refl w.heap.size w).alloc (Nat.le_refl _) _).drew⟩

/-- K rows of numbers. -/
structure Rws (w : World) (a : Option Addr) (K c : Nat) (f : Nat → Value) (L : Nat → List Value) : Prop where
  tab : RowIn w a K c ((List.range K).map f)
  row : ∀ i, i < K → ∃ a' c', f i = .slice a' (L i).length c' ∧ RowIn w a' (L i).length c' (L i)
  one : ∀ i, i < K → ∀ u ∈ L i, u.oneCell' = true
def cat (L : Nat → List Value) : Nat → List Value
  | 0 => []
  | k + 1 => cat L k ++ L k
theorem cat_le (L : Nat → List Value) {a b : Nat} (h : a ≤ b) : (cat L a).length ≤ (cat L b).length := by
  induction h with
  | refl => exact Nat.le_refl _
  | step _ ih => rw [cat, List.length_append]; omega
theorem Rws.below {w w' : World} {a : Option Addr} {K c : Nat} {f : Nat → Value} {L : Nat → List Value} (h : Rws w a K c f L) (hb : Below w.heap.size w w') : Rws w' a K c f L :=
  ⟨h.tab.below (Nat.le_refl _) hb, fun i hi => by obtain ⟨a', c', h1, h2⟩ := h.row i hi; exact ⟨a', c', h1, h2.below (Nat.le_refl _) hb⟩, h.one⟩

set_option maxRecDepth 100000 in
set_option maxHeartbeats 4000000 in
/-- slices.Concat of rows of numbers. -/
theorem concat_any (a : Option Addr) (K c : Nat) (f : Nat → Value) (L : Nat → List Value) (w : World) (h : Rws w a K c f L) (hK : K ≤ 100) (h1 : 1 ≤ (cat L K).length) (h2 : (cat L K).length ≤ 1073741824) :
    Calls Tryz.prog 22 #[.slice a K c] w fun e w' => ∃ a' c', e = .returned (.slice a' (cat L K).length c') ∧ OwnV 5 w.heap.size w' (.slice a' (cat L K).length c') (cat L K) ∧ Below w.heap.size w w' := by
  have H := Lib.hid h
  clear h
  go_enter Tryz.func22, Tryz.ntmps22
  go_wp2_with fail
  go_loop [3, 5, 11] (fun x _ y => ∃ k : Nat, k ≤ K ∧ x = .int .i64 ((cat L k).length : Int) ∧ y = .int .i64 (k : Int)) (fun _ _ y => K - (intOf y).toNat)
  case atStart => exact ⟨0, Nat.zero_le _, rfl, rfl⟩
  case round =>
    obtain ⟨k, hk, rfl, rfl⟩ := hrel
    by_cases hlt : k < K
    · obtain ⟨b, off, rfl⟩ := H.out.tab.some_ (by omega)
      obtain ⟨a', c', e1, hr⟩ := H.out.row k hlt
      have hc : w.cell? ⟨b, off + k, none⟩ = some (.slice a' (L k).length c') := by
        rw [H.out.tab.get k (by simpa using hlt)]; simp [e1]
      have hle := cat_le L (show k + 1 ≤ K by omega)
      have hs : (cat L (k + 1)).length = (cat L k).length + (L k).length := by rw [cat, List.length_append]
      have w1 : IntKind.i64.wrap (((cat L k).length : Int) + ((L k).length : Int)) = ((cat L (k + 1)).length : Int) := by rw [IntWalk.i64_in _ (by omega), hs]; omega
      have hpos : ¬ ((cat L (k + 1)).length : Int) < 0 := by omega
      have HS := Lib.hid hs
      clear hs
      obtain ⟨N1, hN1⟩ : ∃ N1, N1 = (cat L (k + 1)).length := ⟨_, rfl⟩
      rw [← hN1] at w1 hpos hle HS
      have HN := Lib.hid hN1
      clear hN1
      go_wp2_with fail
      go_round
      case rel => exact ⟨k + 1, by omega, by rw [HN.out], by go_num⟩
      case measure => simp [intOf]; omega
    · obtain rfl : k = K := by omega
      go_wp2_with fail
      refine (grow_any (cat L k).length h1 h2 w).mono ?_
      rintro e w1 ⟨a1, c1, rfl, hown, hb⟩
      have HO := Lib.hid hown
      have HB := Lib.hid hb
      clear hown hb h1
      go_wp2_with fail
      go_loopw [6, 8, 27] (fun x _ y wr => ∃ j a' c', j ≤ k ∧ x = .slice a' (cat L j).length c' ∧ y = .int .i64 ((j : Nat) : Int) ∧ Hid (OwnV 5 w.heap.size wr (.slice a' (cat L j).length c') (cat L j)) ∧ Hid (Below w.heap.size w wr)) (fun _ _ y _ => k - (intOf y).toNat)
      case atStart => exact ⟨0, a1, c1, Nat.zero_le _, rfl, rfl, HO, HB⟩
      case round =>
        clear HO HB
        obtain ⟨j, a2, c2, hj, rfl, rfl, HO, HB⟩ := hrel
        by_cases hlt : j < k
        · have H1 := Lib.hid (H.out.below HB.out)
          obtain ⟨b, off, rfl⟩ := H1.out.tab.some_ (by omega)
          obtain ⟨a', c', e1, hr⟩ := H1.out.row j hlt
          have hc : wr.cell? ⟨b, off + j, none⟩ = some (.slice a' (L j).length c') := by
            rw [H1.out.tab.get j (by simpa using hlt)]; simp [e1]
          have hle := cat_le L (show j + 1 ≤ k by omega)
          have hs : (cat L (j + 1)).length = (cat L j).length + (L j).length := by rw [cat, List.length_append]
          have HR := Lib.hid hr
          have hsz := HB.out.size
          go_wp2_with (at_builtin; refine wpList_append_row (by rfl) (.tmp 31) (.tmp 32) 22 (by rfl) w.heap.size 5 (.int .u8 0) 1 Tryz.underlying22 info_b rfl _ (cat L j) (by rfl) HO.out a' (L j).length c' (L j) (by rfl) HR.out (H1.out.one j hlt) (by omega) (by omega) hsz ?_)
          intro a3 c3 w3 hown hgrow hnext
          have hb3 : Below w.heap.size w w3 := HO.out.grown HB.out hgrow hsz
          have HO3 := Lib.hid hown
          have HB3 := Lib.hid hb3
          have HS := Lib.hid hs
          clear hown hgrow hnext hb3 HO HB H1 hs hc
          go_wp2_with fail
          go_roundw
          case rel => exact ⟨j + 1, a3, c3, by omega, by rw [HS.out], by go_num, by rw [HS.out]; exact HO3, HB3⟩
          case measure => simp [intOf]; omega
        · obtain rfl : j = k := by omega
          go_wp2_with fail
          go_ret
          exact ⟨a2, c2, rfl, HO.out, HB.out⟩


/-! ### in the words of bytes -/
theorem row_of {w : World} {a : Option Addr} {n c : Nat} {l : List UInt8} (h : Bytes w a n c l) : RowIn w a n c (l.map bv) := by
  refine ⟨by simp [h.len_eq], h.le_cap, h.cap_le, h.nil, h.at_.imp_right ?_⟩
  rintro ⟨b, off, ha, hs, hc⟩
  exact ⟨b, off, ha, hs, fun i hi => by rw [hc i (by simpa using hi)]; simp [bv]⟩
theorem own_of {B : Nat} {w : World} {v : Value} {l : List UInt8} (h : OwnV 5 B w v (l.map bv)) : Own 5 B w v l := by
  unfold OwnV at h
  unfold Own
  rw [List.length_map] at h
  exact h
/-- Three rows of bytes, one behind the other. -/
theorem concat_three (b0 : Nat) (a1 a2 a3 : Option Addr) (n1 n2 n3 c1 c2 c3 : Nat) (l1 l2 l3 : List UInt8) (w : World) (h : RowIn w (some ⟨b0, 0, none⟩) 3 3 [.slice a1 n1 c1, .slice a2 n2 c2, .slice a3 n3 c3])
    (h1 : Bytes w a1 n1 c1 l1) (h2 : Bytes w a2 n2 c2 l2) (h3 : Bytes w a3 n3 c3 l3) (hl : 1 ≤ (l1 ++ l2 ++ l3).length) (hm : (l1 ++ l2 ++ l3).length ≤ 1073741824) :
    Calls Tryz.prog 22 #[.slice (some ⟨b0, 0, none⟩) 3 3] w fun e w' => OwnRet 5 w (l1 ++ l2 ++ l3) e w' := by
  have hcat : cat (fun i => if i = 0 then l1.map bv else if i = 1 then l2.map bv else l3.map bv) 3 = (l1 ++ l2 ++ l3).map bv := by simp [cat]
  have hlen : ((l1 ++ l2 ++ l3).map bv).length = (l1 ++ l2 ++ l3).length := List.length_map _
  obtain rfl := h1.len_eq
  obtain rfl := h2.len_eq
  obtain rfl := h3.len_eq
  have hr : Rws w (some ⟨b0, 0, none⟩) 3 3 (fun i => if i = 0 then .slice a1 l1.length c1 else if i = 1 then .slice a2 l2.length c2 else .slice a3 l3.length c3) (fun i => if i = 0 then l1.map bv else if i = 1 then l2.map bv else l3.map bv) := by
    refine ⟨h, fun i hi => ?_, fun i hi u hu => ?_⟩
    · have : i = 0 ∨ i = 1 ∨ i = 2 := by omega
      rcases this with rfl | rfl | rfl
      · exact ⟨a1, c1, by simp, by simpa using row_of h1⟩
      · exact ⟨a2, c2, by simp, by simpa using row_of h2⟩
      · exact ⟨a3, c3, by simp, by simpa using row_of h3⟩
    · have : ∃ x : UInt8, u = bv x := by
        split at hu
        · obtain ⟨x, -, rfl⟩ := List.mem_map.1 hu; exact ⟨x, rfl⟩
        · split at hu
          · obtain ⟨x, -, rfl⟩ := List.mem_map.1 hu; exact ⟨x, rfl⟩
          · obtain ⟨x, -, rfl⟩ := List.mem_map.1 hu; exact ⟨x, rfl⟩
      obtain ⟨x, rfl⟩ := this
      rfl
  refine (concat_any _ 3 3 _ _ w hr (by omega) (by rw [hcat, hlen]; exact hl) (by rw [hcat, hlen]; exact hm)).mono ?_
  rintro e w' ⟨a', c', rfl, ho, hb⟩
  refine ⟨_, rfl, own_of (l := l1 ++ l2 ++ l3) ?_, hb⟩
  rw [← hcat]
  exact ho
end Go.Proofs.YtdbcendnibgcaaaGreatDoor.SlbC
end

section
/-
  zlib.Wrap; the document's ReadZ, WrapZ.
-/
namespace Go.Proofs.YtdbcendnibgcaaaGreatDoor.ZlC
open Go.RowKit Go.My ZlMath
open Go.My.NumMath (bytesOf)

theorem three_rows (E : TypeId) (w : World) (u v x : Value) : RowIn (w.alloc (.cells #[u, v, x] E)) (some ⟨w.heap.size, 0, none⟩) 3 3 [u, v, x] := by
  refine ⟨rfl, Nat.le_refl _, by omega, (fun h => by cases h), .inr ⟨w.heap.size, 0, rfl, by simp, fun i hi => ?_⟩⟩
  rw [cell_of_row _ _ _ _ _ _ (heap_alloc_new w _)]
  have : i = 0 ∨ i = 1 ∨ i = 2 := by simp at hi; omega
  rcases this with rfl | rfl | rfl <;> rfl
set_option maxRecDepth 100000 in
set_option maxHeartbeats 1000000 in
theorem wrap_any (a : Option Addr) (n c : Nat) (packed : List UInt8) (sum : Nat) (w : World) (hp : Bytes w a n c packed) (hn : n ≤ 1000000) (h1 : sum < 4294967296) :
    Calls Tryz.prog 10 #[.slice a n c, .int .u32 (sum : Int)] w fun e w' => OwnRet 5 w (wrp packed sum) e w' := by
  have HP := Lib.hid (And.intro hp hn)
  clear hp
  obtain ⟨w1, hw1⟩ : ∃ w1, w1 = w.alloc (.cells #[.int .u8 120, .int .u8 156] 5 (2, 3)) := ⟨_, rfl⟩
  have kc : (convert 22 22 (.slice (some ⟨w.heap.size, 0, none⟩) 2 2)).run Tryz.prog (w.alloc (.cells #[.int .u8 120, .int .u8 156] 5)) = .ok (.slice (some ⟨w.heap.size, 0, none⟩) 2 2) w1 := by
    rw [hw1]
    exact Go.Lib.run_convert_bytes_const (P := Tryz.prog) w 22 5 #[.int .u8 120, .int .u8 156] 2 2 Tryz.underlying22 Tryz.underlying5
  have HBY1 : Hid (Bytes w1 (some ⟨w.heap.size, 0, none⟩) 2 2 [120, 156]) := Lib.hid (by rw [hw1]; exact row_lit 5 w [120, 156] (2, 3) (by decide))
  have HB1 : Hid (Below w.heap.size w w1) := Lib.hid (by rw [hw1]; exact (Below.refl _ _).alloc (Nat.le_refl _) _)
  have HT := Lib.hid (tail_any sum w1 h1)
  clear hw1
  go_enter Tryz.func10, Tryz.ntmps10
  go_wp2_with fail
  refine HT.out.mono ?_
  rintro e w2 ⟨v2, rfl, ho2, hb2⟩
  obtain ⟨a2, c2, rfl, hby2⟩ := own_four ho2
  have HY2 := Lib.hid hby2
  have HB2 := Lib.hid hb2
  have hl4 : (bytesOf true 4 sum).length = 4 := Go.My.NumMath.bytesOf_len _ _ _
  have HQ : Hid (wrp packed sum = [120, 156] ++ packed ++ bytesOf true 4 sum) := Lib.hid rfl
  have HL4 := Lib.hid hl4
  generalize bytesOf true 4 sum = T at *
  clear ho2 hb2 hby2 HT kc hl4
  go_wp2_with fail
  have hal : Below w2.heap.size w2 (w2.alloc (.cells #[.slice (some ⟨w.heap.size, 0, none⟩) 2 2, .slice a n c, .slice a2 4 c2] 22)) := (Below.refl _ _).alloc (Nat.le_refl _) _
  have h12 := HB2.out.trans (hal.mono HB2.out.size)
  have hall := HB1.out.trans (h12.mono HB1.out.size)
  refine (SlbC.concat_three w2.heap.size (some ⟨w.heap.size, 0, none⟩) a a2 2 n 4 2 c c2 [120, 156] packed T _ (three_rows _ _ _ _ _) (HBY1.out.below (Nat.le_refl _) h12) (HP.out.1.below (Nat.le_refl _) hall) (HY2.out.below (Nat.le_refl _) hal) ?_ ?_).mono ?_
  · simp
  · have := HP.out.1.len_eq; have := HP.out.2; have := HL4.out; simp; omega
  rintro e w3 ⟨v3, rfl, ho3, hb3⟩
  have HO3 := Lib.hid ho3
  have HB3 := Lib.hid hb3
  have HAL := Lib.hid hall
  clear ho3 hb3 hal hall h12
  go_wp2_with fail
  go_ret
  rw [HQ.out]
  exact ⟨v3, rfl, own_low HO3.out HAL.out.size, HAL.out.trans (HB3.out.mono HAL.out.size)⟩
set_option maxRecDepth 100000 in
set_option maxHeartbeats 1000000 in
theorem wrapz_any (a : Option Addr) (n c : Nat) (packed : List UInt8) (sum : Nat) (w : World) (hp : Bytes w a n c packed) (hn : n ≤ 1000000) (h1 : sum < 4294967296) :
    Calls Tryz.prog 11 #[.slice a n c, .int .u32 (sum : Int)] w fun e w' => e = .returned (.string ⟨(wrp packed sum).toArray⟩) ∧ Below w.heap.size w w' := by
  have w1 : IntKind.u64.wrap (sum : Int) = (sum : Int) := IntWalk.u64_in _ (by omega)
  have HP := Lib.hid (And.intro hp hn)
  obtain ⟨S1, hS1⟩ : ∃ S1 : ByteArray, S1 = ⟨packed.toArray⟩ := ⟨_, rfl⟩
  have hs1 : S1.size = n := by rw [hS1, ← hp.len_eq]; simp [ByteArray.size]
  have hcv : ∀ W, Below w.heap.size w W → (convert 22 9 (.slice a n c)).run Tryz.prog W = .ok (.string S1) W := fun W hW => by
    rw [hS1]
    exact run_string_bytes W 22 9 5 Tryz.underlying22 Tryz.underlying5 Tryz.underlying9 (hp.below (Nat.le_refl _) hW)
  have HC := Lib.hid hcv
  have hc0 := hcv w (Below.refl _ _)
  have hc1 := hcv w.drew (Below.refl _ _).drew
  have HB := Lib.hid (fun W => NumC.bytes_any sum 4 true W (by omega) (by omega))
  obtain ⟨S2, hS2⟩ : ∃ S2 : ByteArray, S2 = ⟨(bytesOf true 4 sum).toArray⟩ := ⟨_, rfl⟩
  rw [← hS2] at HB
  have hs2 : S2.size = 4 := by rw [hS2]; simp [ByteArray.size, Go.My.NumMath.bytesOf_len]
  have HQ : Hid ((⟨(wrp packed sum).toArray⟩ : ByteArray) = ⟨#[120, 156]⟩ ++ S1 ++ S2) := Lib.hid (by
    rw [hS1, hS2, show (⟨#[120, 156]⟩ : ByteArray) = ⟨([120, 156] : List UInt8).toArray⟩ from rfl, str_app, str_app]; rfl)
  rw [HQ.out]
  have k1 : ¬ 9223372036854775807 < 2 + S1.size := by omega
  have k2 : ¬ 9223372036854775807 < 2 + S1.size + S2.size := by omega
  have HSZ := Lib.hid (And.intro hs1 hs2)
  clear hcv hp hS1 hS2 hs1 hs2
  go_enter Tryz.func11, Tryz.ntmps11
  go_upto_region 1 with (fail)
  go_region_with (go_at_call 19; refine (HB.out _).mono ?_; rintro e w2 ⟨rfl, hb2⟩; have hc2 := HC.out w2 ((Below.refl w.heap.size w).drew.trans hb2); have HB2 := Lib.hid ((Below.refl w.heap.size w).drew.trans hb2); clear hb2)
  all_goals
    go_wp2_with fail
    go_ret
    exact ⟨rfl, HB2.out⟩
set_option maxRecDepth 100000 in
set_option maxHeartbeats 4000000 in
theorem readz_any (a : Option Addr) (len cap : Nat) (l : List UInt8) (w : World) (hb : Bytes w a len cap l) :
    Calls Tryz.prog 9 #[.slice a len cap] w fun e w' => e = .returned (.tuple #[.int .i64 (rdN l : Int), .int .i64 (rdC l : Int)]) ∧ Below w.heap.size w w' := by
  by_cases h2 : len < 2
  · have hn : rdN l = 0 ∧ rdC l = 5 := by
      have := hb.len_eq
      match l with
      | [] => exact ⟨rfl, rfl⟩
      | [_] => exact ⟨rfl, rfl⟩
      | _ :: _ :: _ => simp at this; omega
    rw [hn.1, hn.2]
    clear hb hn
    go_enter Tryz.func9, Tryz.ntmps9
    go_wp2_with fail
    go_ret2
    exact ⟨rfl, Below.refl _ _⟩
  · obtain ⟨x, y, r, rfl⟩ : ∃ x y r, l = x :: y :: r := by
      have := hb.len_eq
      match l with
      | [] => simp at this; omega
      | [_] => simp at this; omega
      | x :: y :: r => exact ⟨x, y, r, rfl⟩
    obtain ⟨b, o, rfl⟩ := hb.some_ (by omega)
    have x0 := MatC.byte_at hb 0 (by simp)
    have x1 := MatC.byte_at hb 1 (by simp)
    simp only [List.getElem_cons_zero, List.getElem_cons_succ, Nat.add_zero] at x0 x1
    have hx := x.toNat_lt
    have hy := y.toNat_lt
    have e1 := and15 x.toNat hx
    have e2 := and32 y.toNat hy
    have hg2 : ¬ (len : Int) < 2 := by omega
    have HN : Hid (rdN (x :: y :: r) = (if zbad x.toNat y.toNat then 0 else 2 ^ (x.toNat / 16 + 8)) ∧ rdC (x :: y :: r) = if zbad x.toNat y.toNat then 2 else 0) := Lib.hid ⟨rfl, rfl⟩
    clear hb h2
    generalize x.toNat = X at *
    generalize y.toNat = Y at *
    by_cases c1 : X % 16 = 8
    · have d1 : ((X : Int) % 16 != 8) = false := by simp; omega
      by_cases c2 : X / 16 ≤ 7
      · have d2 : decide (7 < (X : Int) / 16) = false := by simp; omega
        by_cases c3 : (X * 256 + Y) % 31 = 0
        · have d3 : (((X : Int) * 256 + (Y : Int)) % 31 != 0) = false := by simp; omega
          by_cases c4 : Y / 32 % 2 = 0
          · have d4 : ((Y : Int) / 32 % 2 * 32 != 0) = false := by simp; omega
            have hz : zbad X Y = false := by unfold zbad; simp [c1, c2, c3, c4]
            rw [hz] at HN
            simp only [Bool.false_eq_true, if_false] at HN
            go_enter Tryz.func9, Tryz.ntmps9
            go_upto_region 3 with (fail)
            go_quiet (fail)
            have y0 : (w.drewN nq).cell? ⟨b, o, none⟩ = some (.int .u8 (X : Int)) := x0
            clear d1 d2 d3 d4 c1 c3 c4 e1 e2 x0 x1 hz
            have h8 : X / 16 = 0 ∨ X / 16 = 1 ∨ X / 16 = 2 ∨ X / 16 = 3 ∨ X / 16 = 4 ∨ X / 16 = 5 ∨ X / 16 = 6 ∨ X / 16 = 7 := by omega
            rcases h8 with h | h | h | h | h | h | h | h
            all_goals
              rw [h] at HN
              first
                | (have e1 : (X : Int) / 16 = 0 := by omega)
                | (have e1 : (X : Int) / 16 = 1 := by omega)
                | (have e1 : (X : Int) / 16 = 2 := by omega)
                | (have e1 : (X : Int) / 16 = 3 := by omega)
                | (have e1 : (X : Int) / 16 = 4 := by omega)
                | (have e1 : (X : Int) / 16 = 5 := by omega)
                | (have e1 : (X : Int) / 16 = 6 := by omega)
                | (have e1 : (X : Int) / 16 = 7 := by omega)
              clear h c2
              go_wp2_with fail
              go_ret2
              rw [HN.out.1, HN.out.2]
              exact ⟨rfl, MatC.quiet_below _ _⟩
          · have d4 : ((Y : Int) / 32 % 2 * 32 != 0) = true := by simp; omega
            have hz : zbad X Y = true := by unfold zbad; simp; omega
            rw [hz] at HN
            simp only [if_true] at HN
            go_enter Tryz.func9, Tryz.ntmps9
            go_upto_region 3 with (fail)
            go_quiet (fail)
            go_wp2_with fail
            go_ret2
            rw [HN.out.1, HN.out.2]
            exact ⟨rfl, MatC.quiet_below _ _⟩
        · have d3 : (((X : Int) * 256 + (Y : Int)) % 31 != 0) = true := by simp; omega
          have hz : zbad X Y = true := by unfold zbad; simp; omega
          rw [hz] at HN
          simp only [if_true] at HN
          go_enter Tryz.func9, Tryz.ntmps9
          go_upto_region 3 with (fail)
          go_quiet (fail)
          go_wp2_with fail
          go_ret2
          rw [HN.out.1, HN.out.2]
          exact ⟨rfl, MatC.quiet_below _ _⟩
      · have d2 : decide (7 < (X : Int) / 16) = true := by simp; omega
        have hz : zbad X Y = true := by unfold zbad; simp; omega
        rw [hz] at HN
        simp only [if_true] at HN
        go_enter Tryz.func9, Tryz.ntmps9
        go_upto_region 3 with (fail)
        go_quiet (fail)
        go_wp2_with fail
        go_ret2
        rw [HN.out.1, HN.out.2]
        exact ⟨rfl, MatC.quiet_below _ _⟩
    · have d1 : ((X : Int) % 16 != 8) = true := by simp; omega
      have hz : zbad X Y = true := by unfold zbad; simp; omega
      rw [hz] at HN
      simp only [if_true] at HN
      go_enter Tryz.func9, Tryz.ntmps9
      go_upto_region 3 with (fail)
      go_quiet (fail)
      go_wp2_with fail
      go_ret2
      rw [HN.out.1, HN.out.2]
      exact ⟨rfl, MatC.quiet_below _ _⟩
end Go.Proofs.YtdbcendnibgcaaaGreatDoor.ZlC
end
