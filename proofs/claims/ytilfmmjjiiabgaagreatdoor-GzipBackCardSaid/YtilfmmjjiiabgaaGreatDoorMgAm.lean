import Derived.Test.YtilfmmjjiiabgaaGreatDoorMgAl
import Derived.Test.YtilfmmjjiiabgaaGreatDoorRows
import Derived.Lib.AppendZerosOnto
import Derived.StillTailTactics
import Derived.Test.YtilfmmjjiiabgaaGreatDoorMgAk
import Derived.Deep.RegionHeld3

section
/-
  Go's own slices.Concat of rows of bytes.
-/
namespace Go.Proofs.YtilfmmjjiiabgaaGreatDoor.SlbC
open Go.RowKit Go.My

theorem info_b : (Tryz.prog.info? 5).map (fun i => (i.zero, i.size, i.bytes)) = some (some (.int .u8 0), 1, 1) := by kernel_rfl

set_option maxRecDepth 100000 in
set_option maxHeartbeats 2000000 in
/-- slices.Grow of no slice. -/
theorem grow_any (n : Nat) (hn : 1 ≤ n) (hn2 : n ≤ 1073741824) (w : World) :
    Calls Tryz.prog 29 #[.slice none 0 0, .int .i64 (n : Int)] w fun e w' => ∃ a c, e = .returned (.slice a 0 c) ∧ OwnV 5 w.heap.size w' (.slice a 0 c) [] ∧ Below w.heap.size w w' := by
  obtain ⟨i, hi, hz0, hsz, hz2⟩ := info_parts info_b
  have hrz : ∀ ty, (Builtin.append_ #[25, 3] ty #[.slice none 0 0, .int .i64 (n : Int)]).run Tryz.prog w =
      .ok (.slice (some ⟨w.heap.size, 0, none⟩) n (grownCap w n 0 5)) (w.drew.alloc (.cells (#[] ++ Builtin.zeroCells (Value.int .u8 0).cells n ++ Builtin.zeroCells (Value.int .u8 0).cells (grownCap w n 0 5 - n)) 5)) := fun ty => by
    have h := Lib.run_append_grow_zeros (P := Tryz.prog) w 25 3 ty 5 i (.int .u8 0) .i64 .i64 Tryz.underlying25 Tryz.underlying3 hi hz0 none 0 0 [] (run_firstCells_none w.drew i.size 0 0 0) n (by omega) (by omega) (by omega) (by omega) (by rw [hz2]; omega)
      (by rw [hz2, Nat.zero_add]; exact growslice_fits (by omega) (by omega))
    rw [Nat.zero_add] at h
    exact h
  have hG := grownCap_ge w n 0 5
  have hG2 := grownCap_le_maxLen w n 0 5 (by unfold maxLen; omega)
  obtain ⟨G, hGe⟩ : ∃ G, G = grownCap w n 0 5 := ⟨_, rfl⟩
  rw [← hGe] at hrz hG hG2
  have hG63 : G ≤ 9223372036854775807 := by unfold maxLen at hG2; omega
  have w1 : IntKind.i64.wrap (n : Int) = (n : Int) := IntWalk.i64_in _ (by omega)
  have hgt : (0 : Int) < (n : Int) := by omega
  have HZ := Lib.hid hrz
  have HG2 := Lib.hid hG2
  obtain ⟨C, hC⟩ : ∃ C, C = (#[] ++ Builtin.zeroCells (Value.int .u8 0).cells n ++ Builtin.zeroCells (Value.int .u8 0).cells (G - n)) := ⟨_, rfl⟩
  have hCs : C.size = G := by
    have e1 : (Value.int .u8 0).cells.size = 1 := rfl
    rw [hC, Array.size_append, Array.size_append, size_zeroCells, size_zeroCells, e1]
    simp
    omega
  rw [← hC] at HZ
  clear hrz hGe hG2 hC
  go_enter Tryz.func29, Tryz.ntmps29
  go_wp2_with (at_builtin; refine Lib.wpList_append_run _ rfl _ _ _ _ rfl _ _ rfl rfl _ _ (HZ.out _) ?_)
  all_goals
    go_ret
    refine ⟨_, _, rfl, ⟨by simp, .inr ⟨w.heap.size, G, C, rfl, Nat.le_refl _, heap_alloc_new w _, by simp, HG2.out, by rw [hCs]; simp, by simp⟩⟩, ((Below.refl w.heap.size w).alloc (Nat.le_refl _) _).drew⟩

/-- K rows of numbers. -/
structure Rws (w : World) (a : Option Addr) (K c : Nat) (f : Nat → Value) (L : Nat → List Value) : Prop where
  tab : RowIn w a K c ((List.range K).map f)
  row : ∀ i, i < K → ∃ a' c', f i = .slice a' (L i).length c' ∧ RowIn w a' (L i).length c' (L i)
  one : ∀ i, i < K → ∀ u ∈ L i, u.oneCell' = true
def cat (L : Nat → List Value) : Nat → List Value
  | 0 => []
  | k + 1 => cat L k ++ L k
theorem cat_le (L : Nat → List Value) {a b : Nat} (h : a ≤ b) : (cat L a).length ≤ (cat L b).length := by
  induction h with
  | refl => exact Nat.le_refl _
  | step _ ih => rw [cat, List.length_append]; omega
theorem Rws.below {w w' : World} {a : Option Addr} {K c : Nat} {f : Nat → Value} {L : Nat → List Value} (h : Rws w a K c f L) (hb : Below w.heap.size w w') : Rws w' a K c f L :=
  ⟨h.tab.below (Nat.le_refl _) hb, fun i hi => by obtain ⟨a', c', h1, h2⟩ := h.row i hi; exact ⟨a', c', h1, h2.below (Nat.le_refl _) hb⟩, h.one⟩

set_option maxRecDepth 100000 in
set_option maxHeartbeats 4000000 in
/-- slices.Concat of rows of numbers. -/
theorem concat_any (a : Option Addr) (K c : Nat) (f : Nat → Value) (L : Nat → List Value) (w : World) (h : Rws w a K c f L) (hK : K ≤ 100) (h1 : 1 ≤ (cat L K).length) (h2 : (cat L K).length ≤ 1073741824) :
    Calls Tryz.prog 18 #[.slice a K c] w fun e w' => ∃ a' c', e = .returned (.slice a' (cat L K).length c') ∧ OwnV 5 w.heap.size w' (.slice a' (cat L K).length c') (cat L K) ∧ Below w.heap.size w w' := by
  have H := Lib.hid h
  clear h
  go_enter Tryz.func18, Tryz.ntmps18
  go_wp2_with fail
  go_loop [3, 5, 11] (fun x _ y => ∃ k : Nat, k ≤ K ∧ x = .int .i64 ((cat L k).length : Int) ∧ y = .int .i64 (k : Int)) (fun _ _ y => K - (intOf y).toNat)
  case atStart => exact ⟨0, Nat.zero_le _, rfl, rfl⟩
  case round =>
    obtain ⟨k, hk, rfl, rfl⟩ := hrel
    by_cases hlt : k < K
    · obtain ⟨b, off, rfl⟩ := H.out.tab.some_ (by omega)
      obtain ⟨a', c', e1, hr⟩ := H.out.row k hlt
      have hc : w.cell? ⟨b, off + k, none⟩ = some (.slice a' (L k).length c') := by
        rw [H.out.tab.get k (by simpa using hlt)]; simp [e1]
      have hle := cat_le L (show k + 1 ≤ K by omega)
      have hs : (cat L (k + 1)).length = (cat L k).length + (L k).length := by rw [cat, List.length_append]
      have w1 : IntKind.i64.wrap (((cat L k).length : Int) + ((L k).length : Int)) = ((cat L (k + 1)).length : Int) := by rw [IntWalk.i64_in _ (by omega), hs]; omega
      have hpos : ¬ ((cat L (k + 1)).length : Int) < 0 := by omega
      have HS := Lib.hid hs
      clear hs
      obtain ⟨N1, hN1⟩ : ∃ N1, N1 = (cat L (k + 1)).length := ⟨_, rfl⟩
      rw [← hN1] at w1 hpos hle HS
      have HN := Lib.hid hN1
      clear hN1
      go_wp2_with fail
      go_round
      case rel => exact ⟨k + 1, by omega, by rw [HN.out], by go_num⟩
      case measure => simp [intOf]; omega
    · obtain rfl : k = K := by omega
      go_wp2_with fail
      refine (grow_any (cat L k).length h1 h2 w).mono ?_
      rintro e w1 ⟨a1, c1, rfl, hown, hb⟩
      have HO := Lib.hid hown
      have HB := Lib.hid hb
      clear hown hb h1
      go_wp2_with fail
      go_loopw [6, 8, 27] (fun x _ y wr => ∃ j a' c', j ≤ k ∧ x = .slice a' (cat L j).length c' ∧ y = .int .i64 ((j : Nat) : Int) ∧ Hid (OwnV 5 w.heap.size wr (.slice a' (cat L j).length c') (cat L j)) ∧ Hid (Below w.heap.size w wr)) (fun _ _ y _ => k - (intOf y).toNat)
      case atStart => exact ⟨0, a1, c1, Nat.zero_le _, rfl, rfl, HO, HB⟩
      case round =>
        clear HO HB
        obtain ⟨j, a2, c2, hj, rfl, rfl, HO, HB⟩ := hrel
        by_cases hlt : j < k
        · have H1 := Lib.hid (H.out.below HB.out)
          obtain ⟨b, off, rfl⟩ := H1.out.tab.some_ (by omega)
          obtain ⟨a', c', e1, hr⟩ := H1.out.row j hlt
          have hc : wr.cell? ⟨b, off + j, none⟩ = some (.slice a' (L j).length c') := by
            rw [H1.out.tab.get j (by simpa using hlt)]; simp [e1]
          have hle := cat_le L (show j + 1 ≤ k by omega)
          have hs : (cat L (j + 1)).length = (cat L j).length + (L j).length := by rw [cat, List.length_append]
          have HR := Lib.hid hr
          have hsz := HB.out.size
          go_wp2_with (at_builtin; refine wpList_append_row (by rfl) (.tmp 31) (.tmp 32) 25 (by rfl) w.heap.size 5 (.int .u8 0) 1 Tryz.underlying25 info_b rfl _ (cat L j) (by rfl) HO.out a' (L j).length c' (L j) (by rfl) HR.out (H1.out.one j hlt) (by omega) (by omega) hsz ?_)
          intro a3 c3 w3 hown hgrow hnext
          have hb3 : Below w.heap.size w w3 := HO.out.grown HB.out hgrow hsz
          have HO3 := Lib.hid hown
          have HB3 := Lib.hid hb3
          have HS := Lib.hid hs
          clear hown hgrow hnext hb3 HO HB H1 hs hc
          go_wp2_with fail
          go_roundw
          case rel => exact ⟨j + 1, a3, c3, by omega, by rw [HS.out], by go_num, by rw [HS.out]; exact HO3, HB3⟩
          case measure => simp [intOf]; omega
        · obtain rfl : j = k := by omega
          go_wp2_with fail
          go_ret
          exact ⟨a2, c2, rfl, HO.out, HB.out⟩


/-! ### in the words of bytes -/
theorem row_of {w : World} {a : Option Addr} {n c : Nat} {l : List UInt8} (h : Bytes w a n c l) : RowIn w a n c (l.map bv) := by
  refine ⟨by simp [h.len_eq], h.le_cap, h.cap_le, h.nil, h.at_.imp_right ?_⟩
  rintro ⟨b, off, ha, hs, hc⟩
  exact ⟨b, off, ha, hs, fun i hi => by rw [hc i (by simpa using hi)]; simp [bv]⟩
theorem own_of {B : Nat} {w : World} {v : Value} {l : List UInt8} (h : OwnV 5 B w v (l.map bv)) : Own 5 B w v l := by
  unfold OwnV at h
  unfold Own
  rw [List.length_map] at h
  exact h
/-- Three rows of bytes, one behind the other. -/
theorem concat_three (b0 : Nat) (a1 a2 a3 : Option Addr) (n1 n2 n3 c1 c2 c3 : Nat) (l1 l2 l3 : List UInt8) (w : World) (h : RowIn w (some ⟨b0, 0, none⟩) 3 3 [.slice a1 n1 c1, .slice a2 n2 c2, .slice a3 n3 c3])
    (h1 : Bytes w a1 n1 c1 l1) (h2 : Bytes w a2 n2 c2 l2) (h3 : Bytes w a3 n3 c3 l3) (hl : 1 ≤ (l1 ++ l2 ++ l3).length) (hm : (l1 ++ l2 ++ l3).length ≤ 1073741824) :
    Calls Tryz.prog 18 #[.slice (some ⟨b0, 0, none⟩) 3 3] w fun e w' => OwnRet 5 w (l1 ++ l2 ++ l3) e w' := by
  have hcat : cat (fun i => if i = 0 then l1.map bv else if i = 1 then l2.map bv else l3.map bv) 3 = (l1 ++ l2 ++ l3).map bv := by simp [cat]
  have hlen : ((l1 ++ l2 ++ l3).map bv).length = (l1 ++ l2 ++ l3).length := List.length_map _
  obtain rfl := h1.len_eq
  obtain rfl := h2.len_eq
  obtain rfl := h3.len_eq
  have hr : Rws w (some ⟨b0, 0, none⟩) 3 3 (fun i => if i = 0 then .slice a1 l1.length c1 else if i = 1 then .slice a2 l2.length c2 else .slice a3 l3.length c3) (fun i => if i = 0 then l1.map bv else if i = 1 then l2.map bv else l3.map bv) := by
    refine ⟨h, fun i hi => ?_, fun i hi u hu => ?_⟩
    · have : i = 0 ∨ i = 1 ∨ i = 2 := by omega
      rcases this with rfl | rfl | rfl
      · exact ⟨a1, c1, by simp, by simpa using row_of h1⟩
      · exact ⟨a2, c2, by simp, by simpa using row_of h2⟩
      · exact ⟨a3, c3, by simp, by simpa using row_of h3⟩
    · have : ∃ x : UInt8, u = bv x := by
        split at hu
        · obtain ⟨x, -, rfl⟩ := List.mem_map.1 hu; exact ⟨x, rfl⟩
        · split at hu
          · obtain ⟨x, -, rfl⟩ := List.mem_map.1 hu; exact ⟨x, rfl⟩
          · obtain ⟨x, -, rfl⟩ := List.mem_map.1 hu; exact ⟨x, rfl⟩
      obtain ⟨x, rfl⟩ := this
      rfl
  refine (concat_any _ 3 3 _ _ w hr (by omega) (by rw [hcat, hlen]; exact hl) (by rw [hcat, hlen]; exact hm)).mono ?_
  rintro e w' ⟨a', c', rfl, ho, hb⟩
  refine ⟨_, rfl, own_of (l := l1 ++ l2 ++ l3) ?_, hb⟩
  rw [← hcat]
  exact ho
end Go.Proofs.YtilfmmjjiiabgaaGreatDoor.SlbC
end

section
/-
  gzip.Wrap; the document's Put and Wrap.
-/
namespace Go.Proofs.YtilfmmjjiiabgaaGreatDoor.GzC
open Go.RowKit Go.My GzMath
open Go.My.NumMath (bytesOf)

/-- A time's number. -/
noncomputable def uT (t : Nat) : Nat := (ClkC.unixT t).toNat
theorem uT_eq (t : Nat) : ClkC.unixT t = (uT t : Int) := by
  unfold uT
  have : 0 ≤ ClkC.unixT t := by unfold ClkC.unixT; split <;> omega
  omega
theorem uT_le (t : Nat) : uT t ≤ 4294967295 := by
  unfold uT
  have : ClkC.unixT t ≤ 4294967295 := by unfold ClkC.unixT; split <;> omega
  omega
theorem badH_len {named : Bool} {name : List UInt8} (h : badH named name = false) : name.length ≤ 65535 := by
  unfold badH at h
  simp only [Bool.or_eq_false_iff] at h
  have := h.1.2
  simpa using this
theorem putH_len (named : Bool) (name : List UInt8) (u : Nat) : 10 ≤ (putH named name u).length ∧ (putH named name u).length ≤ 11 + name.length := by
  unfold putH
  cases named <;> simp [Go.My.NumMath.bytesOf_len] <;> omega
theorem put_all (named : Bool) (name : List UInt8) (t : Nat) (w : World) (hb : badH named name = false) :
    Calls Tryz.prog 16 #[.agg #[.bool named, .string ⟨name.toArray⟩, .float .f64 t]] w fun e w' => ∃ v, e = .returned (.tuple #[v, .int .i64 0]) ∧ Own 5 w.heap.size w' v (putH named name (uT t)) ∧ Below w.heap.size w w' :=
  put_ok named name t w hb (badH_len hb) (uT t) (uT_eq t) (uT_le t)
/-- A member's bytes. -/
noncomputable def wrapB (named : Bool) (name : List UInt8) (t : Nat) (packed : List UInt8) (sum size : Nat) : List UInt8 := putH named name (uT t) ++ packed ++ (bytesOf false 4 sum ++ bytesOf false 4 size)
theorem three_rows (E : TypeId) (w : World) (u v x : Value) : RowIn (w.alloc (.cells #[u, v, x] E)) (some ⟨w.heap.size, 0, none⟩) 3 3 [u, v, x] := by
  refine ⟨rfl, Nat.le_refl _, by omega, (fun h => by cases h), .inr ⟨w.heap.size, 0, rfl, by simp, fun i hi => ?_⟩⟩
  rw [cell_of_row _ _ _ _ _ _ (heap_alloc_new w _)]
  have : i = 0 ∨ i = 1 ∨ i = 2 := by simp at hi; omega
  rcases this with rfl | rfl | rfl <;> rfl
set_option maxRecDepth 100000 in
set_option maxHeartbeats 1000000 in
theorem wrap_ok (named : Bool) (name : List UInt8) (t : Nat) (a : Option Addr) (n c : Nat) (packed : List UInt8) (sum size : Nat) (w : World) (hb : badH named name = false) (hp : Bytes w a n c packed) (hn : n ≤ 1000000000) (h1 : sum < 4294967296) (h2 : size < 9223372036854775808) :
    Calls Tryz.prog 7 #[.agg #[.bool named, .string ⟨name.toArray⟩, .float .f64 t], .slice a n c, .int .u32 (sum : Int), .int .i64 (size : Int)] w fun e w' => ∃ v, e = .returned (.tuple #[v, .int .i64 0]) ∧ Own 5 w.heap.size w' v (wrapB named name t packed sum size) ∧ Below w.heap.size w w' := by
  have HP := Lib.hid (And.intro hp hn)
  have hnl := badH_len hb
  have hge : ¬ (size : Int) < 0 := by omega
  clear hp
  go_enter Tryz.func7, Tryz.ntmps7
  go_wp2_with fail
  refine (put_all named name t _ hb).mono ?_
  rintro e w1 ⟨v1, rfl, ho, hb1⟩
  have HB : Hid (Below w.heap.size w w1) := Lib.hid (((Below.refl w.heap.size w).alloc (Nat.le_refl _) _).trans (hb1.mono (by simp)))
  obtain ⟨a1, c1, rfl, hby⟩ := ho.bytes
  have HBY := Lib.hid hby
  have HLH := Lib.hid (putH_len named name (uT t))
  have HQ : Hid (wrapB named name t packed sum size = putH named name (uT t) ++ packed ++ (bytesOf false 4 sum ++ bytesOf false 4 size)) := Lib.hid rfl
  generalize putH named name (uT t) = P at *
  clear hb1 ho hby
  go_wp2_with fail
  refine (tail_any sum size w1 h1 h2).mono ?_
  rintro e w2 ⟨v2, rfl, ho2, hb2⟩
  obtain ⟨a2, c2, rfl, hby2⟩ := ho2.bytes
  have hl2 : (bytesOf false 4 sum ++ bytesOf false 4 size).length = 8 := by simp [Go.My.NumMath.bytesOf_len]
  rw [hl2] at hby2 ⊢
  have HBY2 := Lib.hid hby2
  have HB2 := Lib.hid hb2
  have HL2 := Lib.hid hl2
  generalize bytesOf false 4 sum ++ bytesOf false 4 size = T at *
  clear ho2 hb2 hby2 hl2
  go_wp2_with fail
  have hal : Below w2.heap.size w2 (w2.alloc (.cells #[.slice a1 P.length c1, .slice a n c, .slice a2 8 c2] 25)) := (Below.refl _ _).alloc (Nat.le_refl _) _
  have hall := HB.out.trans ((HB2.out.trans (hal.mono HB2.out.size)).mono HB.out.size)
  refine (SlbC.concat_three w2.heap.size a1 a a2 P.length n 8 c1 c c2 P packed T _ (three_rows _ _ _ _ _) ((HBY.out.below (Nat.le_refl _) HB2.out).below (Nat.le_refl _) hal) (HP.out.1.below (Nat.le_refl _) hall) (HBY2.out.below (Nat.le_refl _) hal) ?_ ?_).mono ?_
  · have := HLH.out; simp; omega
  · have := HLH.out; have := HP.out.1.len_eq; have := HP.out.2; have := HL2.out; simp; omega
  rintro e w3 ⟨v3, rfl, ho3, hb3⟩
  have HO3 := Lib.hid ho3
  have HB3 := Lib.hid hb3
  have HAL := Lib.hid hall
  clear ho3 hb3 hal hall
  go_wp2_with fail
  go_ret2
  rw [HQ.out]
  exact ⟨v3, rfl, own_low HO3.out HAL.out.size, HAL.out.trans (HB3.out.mono HAL.out.size)⟩
end Go.Proofs.YtilfmmjjiiabgaaGreatDoor.GzC
end

section
/-
  gzip.Read: every call.
-/
namespace Go.Proofs.YtilfmmjjiiabgaaGreatDoor.GzC
open Go.RowKit Go.My GzMath

theorem mf : ∀ (fn : Fn) (first cap : Array Value) (w : World), (Instr.makeFunc fn first cap).run Tryz.prog w = .ok (.func fn first cap) w := fun _ _ _ _ => rfl
/-- The error's variable of a face that catches (a block of its own). -/
theorem read_idle (B : Nat) (w : World) (hc : w.cell? ⟨B, 0, none⟩ = some (.int .i64 0)) (hz : w.frozen? ⟨B, 0, none⟩ = false) :
    CallsD Tryz.prog 26 #[.pointer (some ⟨B, 0, none⟩)] .returning w fun e u' w' => e = .returned (.tuple #[]) ∧ u' = .returning ∧ w.setCell ⟨B, 0, none⟩ (.int .i64 0) = w' := by
  refine callsD_of_wpS Tryz.func26 rfl fun c₀ cs hu => ?_
  apply wpS_region
  simp [wpOpsS, go_sem, recoverD, hu, Tryz.ntmps26]
  refine (caught_nil w).mono ?_
  rintro e w' ⟨rfl, rfl⟩
  cases c₀
  simp_all [go_sem, bodyPostS, results, Tryz.results26]
theorem read_caught (B : Nat) (c at_ : Int) (older : List PanicEntry) (w : World) (hb0 : Blk w B 28 #[.int .i64 0]) :
    CallsD Tryz.prog 26 #[.pointer (some ⟨B, 0, none⟩)] (.panicking ({ v := fault c at_, recovered := false } :: older)) w fun e u' w' =>
      e = .returned (.tuple #[]) ∧ u' = .panicking ({ v := fault c at_, recovered := true } :: older) ∧ Blk w' B 28 #[.int .i64 c] ∧ Only (fun k => k = B) w w' := by
  have hB := hb0.lt
  refine callsD_of_wpS Tryz.func26 rfl fun c₀ cs hu => ?_
  apply wpS_region
  simp [wpOpsS, go_sem, recoverD, hu, Tryz.ntmps26]
  refine (caught_fault c at_ w).mono ?_
  rintro e w1 ⟨rfl, hb⟩
  have hb1 : Blk w1 B 28 #[.int .i64 0] := hb0.same (hb.block B hB)
  have h1 : w1.cell? ⟨B, 0, none⟩ = some (.int .i64 0) := hb1.cell 0
  have h2 : w1.frozen? ⟨B, 0, none⟩ = false := hb1.frozen 0
  have hs := hb1.set_ 0 (.int .i64 c)
  have ho : Only (fun k => k = B) w (w1.setCell ⟨B, 0, none⟩ (.int .i64 c)) := ((Only.of_below hb (fun k => B = k)).setCell (p := ⟨B, 0, none⟩) (fun _ => rfl) _).mono (fun _ _ h => h.symm)
  cases c₀
  simp [go_sem, bodyPostS, results, Tryz.results26, h1, h2]
  exact ⟨hs, ho⟩
/-- What Read answers. -/
noncomputable def readV : Got → Value
  | .bad c => .tuple #[headV false [] 0, .int .i64 0, .int .i64 (c : Int)]
  | .ok h => .tuple #[headV h.named h.name (ClkC.fromU (h.time : Int)), .int .i64 (h.n : Int), .int .i64 0]
set_option maxRecDepth 100000 in
set_option maxHeartbeats 4000000 in
theorem read_any (a : Option Addr) (len cap : Nat) (l : List UInt8) (w : World) (hb : Bytes w a len cap l) (hl : len ≤ 1099511627776) :
    Calls Tryz.prog 17 #[.slice a len cap] w fun e w' => e = .returned (readV (rd l)) ∧ Below w.heap.size w w' := by
  have hmf := mf
  have HI := Lib.hid (And.intro hb hl)
  clear hb hl
  go_enter_defers Tryz.func17, Tryz.ntmps17
  go_upto_region 3 with (fail)
  obtain ⟨g2, hg2⟩ : ∃ g2, g2 = w.heap.size := ⟨_, rfl⟩
  obtain ⟨w1, hw1⟩ : ∃ w1, w1 = ((w.alloc (.cells #[.bool false, .string ⟨#[]⟩, .float .f64 0] 27)).alloc (.cells #[.int .i64 0] 28)).alloc (.cells #[.slice a len cap, .int .i64 0] 61) := ⟨_, rfl⟩
  have hb1 : Below w.heap.size w w1 := by
    rw [hw1]
    exact (((Below.refl _ w).alloc (Nat.le_refl _) _).alloc (by simp) _).alloc (by simp; omega) _
  have k2 : Blk w1 g2 27 #[.bool false, .string ⟨#[]⟩, .float .f64 0] := by rw [hw1, hg2]; exact ((Blk.new w _ _).alloc _).alloc _
  have k4 : Blk w1 (g2 + 1) 28 #[.int .i64 0] := by
    have := (Blk.new (w.alloc (.cells #[.bool false, .string ⟨#[]⟩, .float .f64 0] 27)) 28 #[.int .i64 0]).alloc (.cells #[.slice a len cap, .int .i64 0] 61)
    rw [World.size_alloc, ← hg2] at this
    rw [hw1]; exact this
  have kx : Blk w1 (g2 + 1 + 1) 61 #[.slice a len cap, .int .i64 0] := by
    have := Blk.new ((w.alloc (.cells #[.bool false, .string ⟨#[]⟩, .float .f64 0] 27)).alloc (.cells #[.int .i64 0] 28)) 61 #[.slice a len cap, .int .i64 0]
    rw [World.size_alloc, World.size_alloc, ← hg2] at this
    rw [hw1]; exact this
  have hr1 : Rdr w1 (g2 + 1 + 1) a len cap l 0 w1 := by
    refine ⟨kx, HI.out.1.below (Nat.le_refl _) hb1, fun h0 b off e => ?_, Only.refl _ _, Nat.zero_le _, HI.out.2⟩
    rcases HI.out.1.at_ with h1 | ⟨b', off', e', hlt', -⟩
    · omega
    · rw [e] at e'; cases e'; omega
  rw [← hg2, ← hw1]
  obtain ⟨x, hx⟩ : ∃ x, x = g2 + 1 + 1 := ⟨_, rfl⟩
  obtain ⟨g4, hg4⟩ : ∃ g4, g4 = g2 + 1 := ⟨_, rfl⟩
  rw [← hx] at hr1
  rw [← hx, ← hg4]
  rw [← hg4] at k4
  have HB1 := Lib.hid hb1
  have HE := Lib.hid (show g2 = w.heap.size ∧ g4 = g2 + 1 ∧ x = g4 + 1 from ⟨hg2, hg4, by omega⟩)
  have K2 := Lib.hid k2
  have K4 := Lib.hid k4
  have HR1 := Lib.hid hr1
  clear hmf hg2 hw1 hb1 k2 k4 kx hr1 hx hg4
  have HQ := Lib.hid (head_any HR1)
  go_wp2_with fail
  refine HQ.out.mono ?_
  rintro e w2 (⟨c, hrd, hc, ⟨q, rfl⟩, ho⟩ | ⟨h, hrd, rfl, HR2⟩)
  · have K22 := Lib.hid (ho.blk K2.out (by have := HE.out; omega))
    have K42 := Lib.hid (ho.blk K4.out (by have := HE.out; omega))
    have HO2 := Lib.hid ho
    have HRD := Lib.hid hrd
    clear ho HQ HR1 hrd
    go_wp2_with fail
    refine leaves_cons (f := 26) (args := #[.pointer (some ⟨g4, 0, none⟩)]) (by simp) (by simp [go_sem]) ?_
    refine (read_caught g4 (c : Int) q [] _ K42.out).mono ?_
    rintro e u w3 ⟨rfl, rfl, k43, ho3⟩
    have k23 := ho3.blk K22.out (by have := HE.out; omega)
    have hc4 : w3.cell? ⟨g4, 0, none⟩ = some (.int .i64 (c : Int)) := k43.cell 0
    have d0 : w3.cell? ⟨g2, 0, none⟩ = some (.bool false) := k23.cell 0
    have d1 : w3.cell? ⟨g2, 1, none⟩ = some (.string ⟨#[]⟩) := k23.cell 1
    have d2 : w3.cell? ⟨g2, 2, none⟩ = some (.float .f64 0) := k23.cell 2
    simp [Leaves, settle, results, Tryz.results17, go_sem, hc4, d0, d1, d2]
    refine ⟨by rw [HRD.out]; rfl, HB1.out.trans ?_⟩
    have h12 := (HO2.out.mono (T := fun k => k = x ∨ k = g4) (fun _ _ h => .inl h)).trans (ho3.mono (T := fun k => k = x ∨ k = g4) (fun _ _ h => .inr h)) (fun _ _ h => h)
    exact h12.below HB1.out.size (fun k hk => by have := HE.out; omega)
  · have K22 := Lib.hid (HR2.out.only.blk K2.out (by have := HE.out; omega))
    have K42 := Lib.hid (HR2.out.only.blk K4.out (by have := HE.out; omega))
    have HRD := Lib.hid hrd
    obtain ⟨tf, htf⟩ : ∃ tf, tf = ClkC.fromU (h.time : Int) := ⟨_, rfl⟩
    unfold headV
    rw [← htf]
    have HTF := Lib.hid htf
    clear htf hrd HQ HR1
    go_wp2_with (first
        | (refine wpList_store_row rfl _ _ _ rfl g2 _ rfl rfl 27 #[.bool false, .string ⟨#[]⟩, .float .f64 0] K22.out (by kernel_rfl) rfl (by simp [Value.oneCell']) ?_))
    have hro := only_row w2 g2 #[.bool h.named, .string ⟨h.name.toArray⟩, .float .f64 tf]
    have K23 : Hid (Blk (w2.setRow g2 #[.bool h.named, .string ⟨h.name.toArray⟩, .float .f64 tf]) g2 27 #[.bool h.named, .string ⟨h.name.toArray⟩, .float .f64 tf]) := Lib.hid (setRow_heap _ _ _ _ _ _ K22.out)
    have K43 := Lib.hid (hro.blk K42.out (by have := HE.out; omega))
    have KX := Lib.hid (hro.blk HR2.out.blk (by have := HE.out; omega))
    have HO3 : Hid (Only (fun k => k = x ∨ k = g2 ∨ k = g4) w1 (w2.setRow g2 #[.bool h.named, .string ⟨h.name.toArray⟩, .float .f64 tf])) := Lib.hid ((HR2.out.only.mono (fun _ _ h => .inl h)).trans (hro.mono (T := fun k => k = x ∨ k = g2 ∨ k = g4) (fun _ _ h => .inr (.inl h))) (fun _ _ h => h))
    clear hro
    generalize w2.setRow g2 #[.bool h.named, .string ⟨h.name.toArray⟩, .float .f64 tf] = w3 at *
    have d0 : w3.cell? ⟨g2, 0, none⟩ = some (.bool h.named) := K23.out.cell 0
    have d1 : w3.cell? ⟨g2, 1, none⟩ = some (.string ⟨h.name.toArray⟩) := K23.out.cell 1
    have d2 : w3.cell? ⟨g2, 2, none⟩ = some (.float .f64 tf) := K23.out.cell 2
    have dx : w3.cell? ⟨x, 1, none⟩ = some (.int .i64 (h.n : Int)) := KX.out.cell 1
    have f0 : w3.frozen? ⟨g2, 0, none⟩ = false := K23.out.frozen 0
    have f1 : w3.frozen? ⟨g2, 1, none⟩ = false := K23.out.frozen 1
    have K24 : Blk ((w3.setCell ⟨g2, 0, none⟩ (.bool h.named)).setCell ⟨g2, 1, none⟩ (.string ⟨h.name.toArray⟩)).drew g2 27 #[.bool h.named, .string ⟨h.name.toArray⟩, .float .f64 tf] := ((K23.out.set_ 0 (.bool h.named)).set_ 1 (.string ⟨h.name.toArray⟩)).drew
    have hst := store_float ⟨g2, 2, none⟩ tf ((w3.setCell ⟨g2, 0, none⟩ (.bool h.named)).setCell ⟨g2, 1, none⟩ (.string ⟨h.name.toArray⟩)).drew _ (K24.cell 2) (K24.frozen 2)
    obtain ⟨w4, hw4⟩ : ∃ w4, w4 = ((w3.setCell ⟨g2, 0, none⟩ (.bool h.named)).setCell ⟨g2, 1, none⟩ (.string ⟨h.name.toArray⟩)).drew.setCell ⟨g2, 2, none⟩ (.float .f64 tf) := ⟨_, rfl⟩
    rw [← hw4] at hst
    have hon : Only (fun k => k = g2) w3 w4 := by
      rw [hw4]
      exact ((((Only.refl (fun k => g2 = k) w3).setCell (p := ⟨g2, 0, none⟩) (fun _ => rfl) _).setCell (p := ⟨g2, 1, none⟩) (fun _ => rfl) _).drew.setCell (p := ⟨g2, 2, none⟩) (fun _ => rfl) _).mono (fun _ _ h => h.symm)
    have K25 : Blk w4 g2 27 #[.bool h.named, .string ⟨h.name.toArray⟩, .float .f64 tf] := by rw [hw4]; exact K24.set_ 2 (.float .f64 tf)
    have k45 := hon.blk K43.out (by have := HE.out; omega)
    have c4 : w4.cell? ⟨g4, 0, none⟩ = some (.int .i64 0) := k45.cell 0
    have f4 : w4.frozen? ⟨g4, 0, none⟩ = false := k45.frozen 0
    have cx : w4.cell? ⟨x, 1, none⟩ = some (.int .i64 (h.n : Int)) := (hon.blk KX.out (by have := HE.out; omega)).cell 1
    have HON := Lib.hid (HO3.out.trans (hon.mono (T := fun k => k = x ∨ k = g2 ∨ k = g4) (fun _ _ h => .inr (.inl h))) (fun _ _ h => h))
    have HK25 := Lib.hid K25
    have HK45 := Lib.hid k45
    clear hw4 hon K24 K25 k45
    refine wp_region_noPanic ?_
    go_region
    all_goals
      refine NoPanic.normal ?_
      go_wp2_with fail
      clear hst d0 d1 d2 dx f0 f1 cx
      have ho5 : Only (fun k => k = g4) w4 (w4.setCell ⟨g4, 0, none⟩ (.int .i64 0)) := ((Only.refl (fun k => g4 = k) w4).setCell (p := ⟨g4, 0, none⟩) (fun _ => rfl) _).mono (fun _ _ h => h.symm)
      have K46 := HK45.out.set_ 0 (.int .i64 0)
      have K26 := ho5.blk HK25.out (by have := HE.out; omega)
      have HO5 := Lib.hid (HON.out.trans (ho5.mono (T := fun k => k = x ∨ k = g2 ∨ k = g4) (fun _ _ h => .inr (.inr h))) (fun _ _ h => h))
      clear ho5 c4 f4
      generalize w4.setCell ⟨g4, 0, none⟩ (.int .i64 0) = w5 at *
      refine leaves_cons (f := 26) (args := #[.pointer (some ⟨g4, 0, none⟩)]) (by simp) (by simp [go_sem]) ?_
      refine (read_idle g4 _ (K46.cell 0) (K46.frozen 0)).mono ?_
      rintro e u w6 ⟨rfl, rfl, rfl⟩
      have ho6 : Only (fun k => k = g4) w5 (w5.setCell ⟨g4, 0, none⟩ (.int .i64 0)) := ((Only.refl (fun k => g4 = k) w5).setCell (p := ⟨g4, 0, none⟩) (fun _ => rfl) _).mono (fun _ _ h => h.symm)
      have K47 := K46.set_ 0 (.int .i64 0)
      have K27 := ho6.blk K26 (by have := HE.out; omega)
      have HO6 := Lib.hid (HO5.out.trans (ho6.mono (T := fun k => k = x ∨ k = g2 ∨ k = g4) (fun _ _ h => .inr (.inr h))) (fun _ _ h => h))
      clear ho6
      generalize w5.setCell ⟨g4, 0, none⟩ (.int .i64 0) = w6 at *
      have hc4 : w6.cell? ⟨g4, 0, none⟩ = some (.int .i64 0) := K47.cell 0
      have d0 : w6.cell? ⟨g2, 0, none⟩ = some (.bool h.named) := K27.cell 0
      have d1 : w6.cell? ⟨g2, 1, none⟩ = some (.string ⟨h.name.toArray⟩) := K27.cell 1
      have d2 : w6.cell? ⟨g2, 2, none⟩ = some (.float .f64 tf) := K27.cell 2
      simp [Leaves, settle, results, Tryz.results17, go_sem, hc4, d0, d1, d2]
      refine ⟨by rw [HRD.out]; unfold readV headV; simp only; rw [← HTF.out], HB1.out.trans ?_⟩
      exact HO6.out.below HB1.out.size (fun k hk => by have := HE.out; omega)
end Go.Proofs.YtilfmmjjiiabgaaGreatDoor.GzC
end
