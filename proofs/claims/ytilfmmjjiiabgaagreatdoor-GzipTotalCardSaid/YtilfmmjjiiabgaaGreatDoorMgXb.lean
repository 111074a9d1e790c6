import Derived.Test.YtilfmmjjiiabgaaGreatDoorMgAn
import Derived.Test.YtilfmmjjiiabgaaGreatDoorRows
import Derived.Test.YtilfmmjjiiabgaaGreatDoorMgAa
import Derived.Laws.Pointers
import Derived.Deep.QuietTactic
import Derived.BigQuiet
import Derived.StillTailTactics
import Derived.Test.YtilfmmjjiiabgaaGreatDoorMgXa

section
/-
  The document's own answer for bits (stevedoreref5): Bytes alone (R5's, for seats without Of and Number).
-/
namespace Go.Proofs.YtilfmmjjiiabgaaGreatDoor.RefC
open Go.RowKit Go.My BitMath

/-! ### bits as bytes -/
/-- What Bytes has laid behind k rounds, of n bytes. -/
def packAt (L : List Bool) (n k : Nat) : List UInt8 := (List.range n).map fun j => UInt8.ofNat (num (((L.take k).drop (8 * j)).take 8))
theorem packAt_len (L : List Bool) (n k : Nat) : (packAt L n k).length = n := by simp [packAt]
theorem packAt_full (L : List Bool) : packAt L ((L.length + 7) / 8) L.length = pack L := by unfold packAt pack; rw [List.take_length]
theorem packAt_zero (L : List Bool) (n : Nat) : packAt L n 0 = List.replicate n 0 := by
  unfold packAt
  apply List.ext_getElem
  · simp
  · intro i h1 h2; simp [num]
theorem packAt_get (L : List Bool) (n k : Nat) (h : k / 8 < n) (hk : k < L.length) : (packAt L n k)[k / 8]'(by rw [packAt_len]; exact h) = UInt8.ofNat (num (((L.take k).drop (8 * (k / 8))))) := by
  unfold packAt
  simp only [List.getElem_map, List.getElem_range]
  rw [List.take_of_length_le (by simp; omega)]
theorem cur_lt (L : List Bool) (k : Nat) (hk : k < L.length) : num ((L.take k).drop (8 * (k / 8))) < 2 ^ (k % 8) := by
  have := num_lt ((L.take k).drop (8 * (k / 8)))
  rwa [List.length_drop, List.length_take, show min k L.length - 8 * (k / 8) = k % 8 from by omega] at this
theorem packAt_at (L : List Bool) (n k j : Nat) (h : j < (packAt L n k).length) : (packAt L n k)[j] = UInt8.ofNat (num (((L.take k).drop (8 * j)).take 8)) := by simp [packAt]
theorem packAt_set (L : List Bool) (n k : Nat) (hk : k < L.length) :
    (packAt L n k).set (k / 8) (UInt8.ofNat (num ((L.take k).drop (8 * (k / 8))) + 2 ^ (k % 8) * (L[k]).toNat)) = packAt L n (k + 1) := by
  apply List.ext_getElem
  · simp [packAt]
  · intro j h1 h2
    rw [List.getElem_set, packAt_at, packAt_at]
    rw [packAt_len] at h2
    by_cases hj : k / 8 = j
    · subst hj
      rw [if_pos rfl, List.take_succ_eq_append_getElem hk, List.drop_append_of_le_length (by simp; omega), List.take_of_length_le (l := (L.take k).drop (8 * (k / 8)) ++ [L[k]]) (by simp; omega), num_snoc]
      congr 3
      simp only [List.length_drop, List.length_take]
      congr 1
      omega
    · rw [if_neg hj]
      by_cases hlt : k < 8 * j
      · rw [List.drop_of_length_le (by simp; omega), List.drop_of_length_le (by simp; omega)]
      · rw [List.take_succ_eq_append_getElem hk, List.drop_append_of_le_length (by simp; omega), List.take_append_of_le_length (by simp; omega)]
theorem u8_put (c m b : Nat) (hm : m < 8) (hc : c < 2 ^ m) (hb : b ≤ 1) : bits .or .u8 (c : Int) ((b : Int) * 2 ^ m) = ((c + 2 ^ m * b : Nat) : Int) := by
  have h7 : 2 ^ m ≤ 2 ^ 7 := Nat.pow_le_pow_right (by omega) (by omega)
  have e : (b : Int) * 2 ^ m = ((b * 2 ^ m : Nat) : Int) := by push_cast; rfl
  have hbm : b * 2 ^ m ≤ 1 * 2 ^ m := Nat.mul_le_mul_right _ hb
  rw [e, u8_or_nat _ _ (by omega) (by omega), or_join m c b hc]

set_option maxRecDepth 100000 in
set_option maxHeartbeats 2000000 in
theorem refbytes_any (L : List Bool) (w : World) (hl : L.length ≤ 1000000000) :
    Calls Tryz.prog 22 #[.string (txt L)] w fun e w' => e = .returned (.slice (some ⟨w.heap.size, 0, none⟩) ((L.length + 7) / 8) ((L.length + 7) / 8)) ∧ Hid (Own 5 w.heap.size w' (.slice (some ⟨w.heap.size, 0, none⟩) ((L.length + 7) / 8) ((L.length + 7) / 8)) (pack L)) ∧ Below w.heap.size w w' := by
  have htl := txt_len L
  obtain ⟨s, hs⟩ : ∃ s, s = txt L := ⟨_, rfl⟩
  have hg : ∀ k (h : k < L.length) (h2 : k < s.size), s[k] = chB L[k] := by
    subst hs; intro k h h2; exact txt_get L k h2
  rw [← hs] at htl ⊢
  have HG := Lib.hid hg
  have HTL := Lib.hid htl
  have hsz : s.size ≤ 1000000000 := by omega
  obtain ⟨n, hn⟩ : ∃ n, n = (L.length + 7) / 8 := ⟨_, rfl⟩
  rw [← hn]
  have HN : Hid (n = (s.size + 7) / 8) := Lib.hid (by rw [hn, htl])
  have HW := Lib.hid (Below.refl w.heap.size w)
  have hn2 : n ≤ 1000000000 := by omega
  have HF : Hid (packAt L n s.size = pack L) := Lib.hid (by rw [hn, htl, packAt_full])
  have HNL := Lib.hid hn
  clear hg hs htl hn
  go_enter Tryz.func22, Tryz.ntmps22
  go_wp2_with (at_make; refine wpList_make_bytes _ rfl (.tmp 8) (.tmp 8) 25 rfl w.heap.size 5 Tryz.underlying25 info5 .i64 .i64 ((s.size + 7) / 8) (by rfl) (by rfl) (by omega) (Nat.le_refl _) ?_)
  intro w1 hown hg
  rw [← HN.out] at hown ⊢
  have HB := Lib.hid (grown_none_below (Below.refl w.heap.size w) hg (Nat.le_refl _))
  have HO : Hid (Own 5 w.heap.size w1 (.slice (some ⟨w.heap.size, 0, none⟩) n n) (packAt L n 0)) := Lib.hid (by rw [packAt_zero]; exact hown)
  clear hown hg
  go_wp2_with fail
  generalize hB : w.heap.size = g at *
  go_loopw [4] (fun i wr => ∃ k : Nat, k ≤ s.size ∧ i = .int .i64 (k : Int) ∧ Hid (Own 5 g wr (.slice (some ⟨g, 0, none⟩) n n) (packAt L n k)) ∧ Hid (Below g w wr)) (fun i _ => s.size - (intOf i).toNat)
  case atStart => exact ⟨0, Nat.zero_le _, rfl, HO, HB⟩
  case round =>
    clear HO HB
    obtain ⟨k, hk, rfl, HO, HB⟩ := hrel
    by_cases hlt : k < s.size
    · have hkn : k / 8 < n := by have := HN.out; omega
      have hkL : k < L.length := by have := HTL.out; omega
      have hcell := own_cell HO.out (packAt_len _ _ _) (k / 8) (by rw [packAt_len]; exact hkn)
      rw [packAt_get L n k hkn hkL] at hcell
      have hfree := own_free HO.out (packAt_len _ _ _) (k / 8)
      have hcur := cur_lt L k hkL
      have hset := packAt_set L n k hkL
      have hs1 := HG.out k hkL hlt
      generalize num ((L.take k).drop (8 * (k / 8))) = c at *
      have hq1 : (0 : Int) ≤ (k : Int) / 8 := by omega
      have hq2 : (k : Int) / 8 < (n : Int) := by omega
      have hk1 : (k : Int) < (s.size : Int) := by omega
      have hm1 : (0 : Int) ≤ (k : Int) % 8 := by omega
      have ht1 : ((k : Int) / 8).toNat = k / 8 := by omega
      obtain ⟨b, hb⟩ : ∃ b, b = L[k] := ⟨_, rfl⟩
      rw [← hb] at hset hs1
      have hb1 : b.toNat ≤ 1 := Bool.toNat_le b
      have hcb := chB_nat b
      have h7 : 2 ^ (k % 8) ≤ 2 ^ 7 := Nat.pow_le_pow_right (by omega) (by omega)
      have hp0 : 0 < 2 ^ (k % 8) := Nat.two_pow_pos _
      have hbm : b.toNat * 2 ^ (k % 8) ≤ 1 * 2 ^ (k % 8) := Nat.mul_le_mul_right _ hb1
      have hcc : c < 256 := by omega
      have hcell' : wr.cell? ⟨g, k / 8, none⟩ = some (.int .u8 (c : Int)) := by
        rw [hcell]; unfold bv; rw [UInt8.toNat_ofNat', Nat.mod_eq_of_lt hcc]
      have hput := u8_put c (k % 8) b.toNat (Nat.mod_lt _ (by omega)) hcur hb1
      have hsub : IntKind.u8.wrap (((chB b).toNat : Int) - 48) = (b.toNat : Int) := by
        rw [hcb, IntWalk.u8_in _ (by omega)]; omega
      have hmod : (k : Int).tmod 8 = (k : Int) % 8 := Int.tmod_eq_emod_of_nonneg (by omega)
      have hw2 : IntKind.u64.wrap ((k : Int) % 8) = (k : Int) % 8 := IntWalk.u64_in _ (by omega)
      have ht2 : ((k : Int) % 8).toNat = k % 8 := by omega
      have hw4 : min (k % 8) 8 = k % 8 := by omega
      have hw3 : IntKind.u8.wrap ((b.toNat : Int) * 2 ^ (k % 8)) = (b.toNat : Int) * 2 ^ (k % 8) := IntWalk.u8_in _ (by
        have e : (b.toNat : Int) * 2 ^ (k % 8) = ((b.toNat * 2 ^ (k % 8) : Nat) : Int) := by push_cast; rfl
        rw [e]; omega)
      have hsum : c + 2 ^ (k % 8) * b.toNat < 256 := by rw [Nat.mul_comm]; omega
      have hw1 : IntKind.i64.wrap ((k : Int) / 8) = (k : Int) / 8 := IntWalk.i64_in _ (by omega)
      have HSET := Lib.hid hset
      have HSUM := Lib.hid hsum
      have HB1 := Lib.hid hb
      clear hset hsum hb hcell hcur hcc h7 hp0 hbm hcb hb1
      go_wp2_with fail
      go_still_tail 18, (by kernel_rfl)
      change wpList _ _ _ _ _ wr.drew
      have HO2 : Hid (Own 5 g wr.drew (.slice (some ⟨g, 0, none⟩) n n) (packAt L n k)) := HO
      have HB2 : Hid (Below g w wr.drew) := Lib.hid HB.out.drew
      have hfree2 : wr.drew.frozen? ⟨g, k / 8, none⟩ = false := hfree
      have hcell2 : wr.drew.cell? ⟨g, k / 8, none⟩ = some (.int .u8 (c : Int)) := hcell'
      clear HO HB hfree hcell'
      generalize wr.drew = w2 at *
      clear hw1 hw2 ht2 hw4 hw3 hmod hsub ht1 hs1
      go_wp2_with fail
      have HO1 := own_store HO2.out (packAt_len _ _ _) (k / 8) (UInt8.ofNat (c + 2 ^ (k % 8) * b.toNat))
      rw [HSET.out] at HO1
      unfold bv at HO1
      rw [UInt8.toNat_ofNat', Nat.mod_eq_of_lt (HSUM.out)] at HO1
      go_roundw
      case rel => exact ⟨k + 1, by omega, by go_num, Lib.hid HO1, Lib.hid (HB2.out.setCell (p := ⟨g, k / 8, none⟩) (Nat.le_refl _) _)⟩
      case measure => simp [intOf]; omega
    · obtain rfl : k = s.size := by omega
      rw [HF.out] at HO
      go_wp2_with fail
      go_ret
      subst hB
      exact ⟨rfl, HO, HB.out⟩

end Go.Proofs.YtilfmmjjiiabgaaGreatDoor.RefC
end

section
/-
  GzipTotal's law.
-/
namespace Go.Proofs.YtilfmmjjiiabgaaGreatDoor.GzC
open Go.RowKit Go.My GzMath CrcMath Flt BitMath InfC
open Go.My.NumMath (bytesOf)

/-- Run259's bits. -/
def run4_bits : List Bool := ("1100111000111000101000000000000" : String).toList.map (· == '1')
theorem run4_pack : pack run4_bits = run4 := by decide
theorem run4_len : run4_bits.length = 31 := by decide
theorem run_any (w : World) : Calls Tryz.prog 15 #[] w fun e w' => ∃ a c, e = .returned (.slice a 4 c) ∧ Hid (Own 5 w.heap.size w' (.slice a 4 c) run4) ∧ Hid (Below w.heap.size w w') := by
  have h := RefC.refbytes_any run4_bits w (by rw [run4_len]; omega)
  rw [run4_len, run4_pack, show txt run4_bits = ⟨#[49, 49, 48, 48, 49, 49, 49, 48, 48, 48, 49, 49, 49, 48, 48, 48, 49, 48, 49, 48, 48, 48, 48, 48, 48, 48, 48, 48, 48, 48, 48]⟩ from by decide] at h
  have H := Lib.hid h
  clear h
  go_enter Tryz.func15, Tryz.ntmps15
  go_wp2_with fail
  refine H.out.mono ?_
  rintro e w1 ⟨rfl, h1, h2⟩
  have H2 := Lib.hid h2
  go_wp2_with fail
  go_ret
  exact ⟨_, _, rfl, h1, H2⟩
/-- The member of 259 bytes alike. -/
noncomputable def itR : It := ⟨false, [], uT 0, run4, List.replicate 259 65⟩
theorem wrap_run : wrapB false [] 0 run4 (crc 0#32 (List.replicate 259 65)).toNat 259 = itR.bytes := by
  unfold wrapB It.bytes It.hd itR tailB
  simp only [List.length_replicate, List.append_assoc]
theorem len_run : itR.bytes.length = 22 := by
  rw [It.len_eq]
  show (putH false [] (uT 0)).length + run4.length + 8 = _
  unfold putH
  simp [Go.My.NumMath.bytesOf_len, run4]
/-- The row, filled so far. -/
def fr (i : Nat) : List UInt8 := List.replicate i 65 ++ List.replicate (259 - i) 0
theorem fr_zero : fr 0 = List.replicate 259 0 := by unfold fr; rfl
theorem fr_all : fr 259 = List.replicate 259 65 := by unfold fr; rw [Nat.sub_self, List.replicate_zero, List.append_nil]
theorem fr_len {i : Nat} (h : i ≤ 259) : (fr i).length = 259 := by unfold fr; rw [List.length_append, List.length_replicate, List.length_replicate]; omega
theorem fr_set (i : Nat) (h : i < 259) : (fr i).set i 65 = fr (i + 1) := by
  unfold fr
  rw [List.set_append_right _ _ (by rw [List.length_replicate]; omega), List.length_replicate, Nat.sub_self, show 259 - i = (259 - (i + 1)) + 1 by omega, List.replicate_succ, List.set_cons_zero, List.replicate_succ', List.append_assoc]
  rfl
theorem all_len (i : Nat) : (allD (List.replicate i itR)).length = 259 * i := by
  induction i with
  | zero => rfl
  | succ i ih =>
    have hod : itR.d.length = 259 := by show (List.replicate 259 (65 : UInt8)).length = 259; rw [List.length_replicate]
    rw [List.replicate_succ, allD_cons, List.length_append, ih, hod]; omega
theorem u64_of (z : Int) : ∃ u : Nat, IntKind.u64.wrap z = (u : Int) ∧ u < 18446744073709551616 := by
  refine ⟨(z % 18446744073709551616).toNat, ?_, by omega⟩
  simp [IntKind.wrap, IntKind.bits, IntKind.signed]
  omega
set_option maxRecDepth 100000 in
set_option maxHeartbeats 8000000 in
theorem total_law (z m : Int) (ratio : Nat) (w : World) (hO : Ordr w.heap.size w) :
    Calls Tryz.prog 5 #[.int .i64 z, .int .i64 m, .float .f64 ratio] w fun e w' => e = .returned (.bool true) ∧ Below w.heap.size w w' := by
  have HT := Lib.hid (fun w => told_any w)
  have HR := Lib.hid (fun w => run_any w)
  have HOr := Lib.hid hO
  obtain ⟨u, hu, hu2⟩ : ∃ u : Nat, IntKind.u64.wrap z = (u : Int) ∧ u < 18446744073709551616 := u64_of z
  obtain ⟨v, hv, hv2⟩ : ∃ v : Nat, IntKind.u64.wrap m = (v : Int) ∧ v < 18446744073709551616 := u64_of m
  obtain ⟨j, hj, hj2⟩ : ∃ j : Nat, (u : Int).tmod 6 = (j : Int) ∧ j < 6 := ⟨u % 6, by rw [show (6 : Int) = ((6 : Nat) : Int) from rfl, Int.ofNat_tmod], Nat.mod_lt _ (by omega)⟩
  obtain ⟨k, hk, hk2⟩ : ∃ k : Nat, (v : Int).tmod 2000 = (k : Int) ∧ k < 2000 := ⟨v % 2000, by rw [show (2000 : Int) = ((2000 : Nat) : Int) from rfl, Int.ofNat_tmod], Nat.mod_lt _ (by omega)⟩
  have n5 : IntKind.u64.wrap (j : Int) = (j : Int) := IntWalk.u64_in _ (by omega)
  have n6 : IntKind.i64.wrap (j : Int) = (j : Int) := IntWalk.i64_in _ (by omega)
  have n7 : IntKind.i64.wrap (1 + (j : Int)) = 1 + (j : Int) := IntWalk.i64_in _ (by omega)
  have m5 : IntKind.u64.wrap (k : Int) = (k : Int) := IntWalk.u64_in _ (by omega)
  have m6 : IntKind.i64.wrap (k : Int) = (k : Int) := IntWalk.i64_in _ (by omega)
  clear hO
  go_enter Tryz.func5, Tryz.ntmps5
  go_wp2_with (at_make; refine wpList_make_bytes _ rfl (.const (.int .i64 259)) (.const (.int .i64 259)) 25 rfl w.heap.size 5 Tryz.underlying25 info5 .i64 .i64 259 rfl rfl (by omega) (Nat.le_refl _) ?_)
  intro w1 hown hg
  obtain ⟨q, hq⟩ : ∃ q, q = w.heap.size := ⟨_, rfl⟩
  have HB1 := Lib.hid (grown_none_below (Below.refl w.heap.size w) hg (Nat.le_refl _))
  have HO1 : Hid (Own 5 w.heap.size w1 (.slice (some ⟨q, 0, none⟩) 259 259) (fr 0)) := Lib.hid (by rw [fr_zero, hq]; exact hown)
  have HQ := Lib.hid hq
  rw [← hq]
  clear hown hg hq
  go_wp2_with fail
  go_loopw [9] (fun iv wr => ∃ i : Nat, iv = .int .i64 (i : Int) ∧ i ≤ 259 ∧ Hid (Own 5 w.heap.size wr (.slice (some ⟨q, 0, none⟩) 259 259) (fr i)) ∧ Hid (Below w.heap.size w wr)) (fun iv _ => 259 - (intOf iv).toNat)
  case atStart => exact ⟨0, rfl, by omega, HO1, HB1⟩
  case round =>
    clear HO1 HB1
    obtain ⟨i, rfl, hi, HO1, HB1⟩ := hrel
    by_cases hlt : i < 259
    · have x0 : wr.cell? ⟨q, i, none⟩ = some (bv ((fr i)[i]'(by rw [fr_len hi]; exact hlt))) := RefC.own_cell HO1.out (fr_len hi) i (by rw [fr_len hi]; exact hlt)
      have x1 : wr.frozen? ⟨q, i, none⟩ = false := RefC.own_free HO1.out (fr_len hi) i
      have HO2 : Hid (Own 5 w.heap.size (wr.setCell ⟨q, i, none⟩ (.int .u8 65)) (.slice (some ⟨q, 0, none⟩) 259 259) (fr (i + 1))) := Lib.hid (by rw [← fr_set i hlt]; exact RefC.own_store HO1.out (fr_len hi) i 65)
      have HB2 : Hid (Below w.heap.size w (wr.setCell ⟨q, i, none⟩ (.int .u8 65))) := Lib.hid (HB1.out.setCell (by rw [HQ.out]; exact Nat.le_refl _) _)
      have e1 : IntKind.i64.wrap ((i : Int) + 1) = (i : Int) + 1 := IntWalk.i64_in _ (by omega)
      generalize bv ((fr i)[i]'(by rw [fr_len hi]; exact hlt)) = V at x0
      clear HO1 HB1
      go_wp2_with fail
      go_roundw
      case rel => exact ⟨i + 1, by simp, by omega, HO2, HB2⟩
      case measure => simp [intOf]; omega
    · obtain rfl : i = 259 := by omega
      have HO2 : Hid (Own 5 w.heap.size wr (.slice (some ⟨q, 0, none⟩) 259 259) (List.replicate 259 65)) := Lib.hid (by rw [← fr_all]; exact HO1.out)
      clear HO1
      go_wp2_with fail
      refine (HR.out _).mono ?_
      rintro e w2 ⟨a2, c2, rfl, HO3, HB3⟩
      obtain ⟨X, hX⟩ : ∃ X : List UInt8, X = List.replicate 259 65 := ⟨_, rfl⟩
      rw [← hX] at HO2
      have HXe := Lib.hid hX
      have HC := Lib.hid (CrcC.ref_bv 0#32 (some ⟨q, 0, none⟩) 259 259 X w2 ((own_by HO2.out).2.below (Nat.le_refl _) HB3.out))
      obtain ⟨W, hW⟩ : ∃ W, W = itR.bytes := ⟨_, rfl⟩
      have hWl : W.length = 22 := by rw [hW]; exact len_run
      have hwr := wrap_ok false [] 0 a2 4 c2 run4 (crc 0#32 X).toNat 259 w2 badH_none (own_by HO3.out).2 (by omega) (crc 0#32 X).isLt (by omega)
      rw [show wrapB false [] 0 run4 (crc 0#32 X).toNat 259 = W from by rw [hX, hW]; exact wrap_run] at hwr
      have HW := Lib.hid hwr
      have HWW := Lib.hid (And.intro hW hWl)
      have HB2 := Lib.hid (HB1.out.trans (HB3.out.mono HB1.out.size))
      clear hwr hW hX HB1 HB3 HO2 hlt hi
      go_wp2_with fail
      refine HC.out.mono ?_
      rintro e w2' ⟨rfl, rfl⟩
      go_wp2_with fail
      refine HW.out.mono ?_
      rintro e w3 ⟨v3, rfl, ho3, hb3⟩
      obtain ⟨a3, c3, rfl, hby3⟩ := ho3.bytes
      rw [hWl] at hby3 ⊢
      have HB3 := Lib.hid (HB2.out.trans (hb3.mono HB2.out.size))
      have HY3 := Lib.hid hby3
      obtain ⟨n, hn⟩ : ∃ n : Nat, n = 1 + j := ⟨_, rfl⟩
      have hnI : 1 + (j : Int) = (n : Int) := by omega
      have hn1 : 1 ≤ n := by omega
      have hn6 : n ≤ 6 := by omega
      rw [hnI]
      clear ho3 hb3 hby3 hWl HW HC HO3 HB2 hn hnI n7 hj2
      go_wp2_with fail
      go_loopw [13, 14] (fun sv iv wr => ∃ (i : Nat) (oa : Option Addr) (oc : Nat), iv = .int .i64 (i : Int) ∧ sv = .slice oa (22 * i) oc ∧ i ≤ n ∧ Hid (Own 5 w3.heap.size wr (.slice oa (22 * i) oc) (allB (List.replicate i itR))) ∧ Hid (Below w3.heap.size w3 wr)) (fun _ iv _ => 10 - (intOf iv).toNat)
      case atStart => exact ⟨0, none, 0, rfl, rfl, by omega, Lib.hid (Own.nil _ _ _), Lib.hid (Below.refl _ _)⟩
      case round =>
        obtain ⟨i, oa, oc, rfl, rfl, hi, HOs, HBs⟩ := hrel
        by_cases hlt : i < n
        · have HYr : Hid (Bytes wr a3 22 c3 W) := Lib.hid (HY3.out.below (Nat.le_refl _) HBs.out)
          have hsz : w3.heap.size ≤ wr.heap.size := HBs.out.size
          have HSZ := Lib.hid hsz
          have hal : (allB (List.replicate i itR)).length = 22 * i := (own_by HOs.out).1
          have HAL := Lib.hid hal
          have e1 : IntKind.i64.wrap ((i : Int) + 1) = (i : Int) + 1 := IntWalk.i64_in _ (by omega)
          clear hsz hal
          go_wp2_with (at_builtin; refine wpList_append_lie (by rfl) (.tmp 47) (.tmp 48) 25 (by rfl) w3.heap.size 5 Tryz.underlying25 info5 (.slice oa (22 * i) oc) (allB (List.replicate i itR)) (by rfl) HOs.out a3 22 c3 W (by rfl) HYr.out (by rw [HAL.out]; omega) HSZ.out ?_)
          intro a4 c4 w4 hown hg _
          have HO5 : Hid (Own 5 w3.heap.size w4 (.slice a4 (22 * (i + 1)) c4) (allB (List.replicate (i + 1) itR))) := Lib.hid (by
            rw [List.replicate_succ', show allB (List.replicate i itR ++ [itR]) = allB (List.replicate i itR) ++ W by rw [HWW.out.1]; simp [allB], show 22 * (i + 1) = (allB (List.replicate i itR)).length + 22 by rw [HAL.out]; omega]
            exact hown)
          have HB5 : Hid (Below w3.heap.size w3 w4) := Lib.hid (grown_below HOs.out HBs.out hg HSZ.out)
          have hl5 : (allB (List.replicate i itR)).length + 22 = 22 * (i + 1) := by rw [HAL.out]; omega
          rw [hl5]
          clear hown hg HOs HBs HYr HAL HSZ hl5
          go_wp2_with fail
          go_roundw
          case rel => exact ⟨i + 1, a4, c4, by simp, rfl, by omega, HO5, HB5⟩
          case measure => simp [intOf]; omega
        · obtain rfl : i = n := by omega
          have HBA : Hid (Bytes wr oa (22 * i) oc (allB (List.replicate i itR))) := Lib.hid (own_by HOs.out).2
          have HBr := Lib.hid (HB3.out.trans (HBs.out.mono HB3.out.size))
          have had : (allD (List.replicate i itR)).length = 259 * i := all_len i
          have hfin : itR.Fine := fine_run (uT_le 0)
          have hmem : ∀ y ∈ List.replicate i itR, y = itR := fun y hy => List.eq_of_mem_replicate hy
          have hsplit : allB (List.replicate i itR) = itR.bytes ++ allB (List.replicate (i - 1) itR) := by
            conv => lhs; rw [show i = (i - 1) + 1 by omega, List.replicate_succ, allB_cons]
          obtain ⟨PP, x, HGO, hx⟩ : ∃ (PP : List Mb) (x : Option Nat), Hid (Goes (allB (List.replicate i itR)) k ratio true 0 0 PP x) ∧ ((ovr 259 4 ratio = true ∧ x = some 3) ∨ (ovr 259 4 ratio = false ∧ k < 259 * i ∧ x = some 3) ∨ (ovr 259 4 ratio = false ∧ ¬ k < 259 * i ∧ x = none ∧ PP.length = i ∧ (dat PP).length = 259 * i)) := by
            have hod : itR.d.length = 259 := by show (List.replicate 259 (65 : UInt8)).length = 259; rw [List.length_replicate]
            have hos : itR.S.length = 4 := rfl
            by_cases ho : ovr 259 4 ratio = true
            · exact ⟨[], some 3, Lib.hid (by rw [hsplit]; exact goes_ratio (by omega) itR _ hfin (by rw [hod, hos]; exact ho)), .inl ⟨ho, rfl⟩⟩
            · have ho2 : ovr 259 4 ratio = false := by simpa using ho
              have hgood : ∀ y ∈ List.replicate i itR, y.Good ratio := fun y hy => by rw [hmem y hy]; exact ⟨hfin, by rw [hod, hos]; exact ho2⟩
              by_cases hkn : k < 259 * i
              · obtain ⟨R, hR⟩ := goes_wide (most := k) (ratio := ratio) (by omega) (List.replicate i itR) hgood (by rw [had]; exact hkn)
                exact ⟨R, some 3, Lib.hid hR, .inr (.inl ⟨ho2, hkn, rfl⟩)⟩
              · refine ⟨mbs 0 (List.replicate i itR), none, Lib.hid (goes_whole (by omega) _ (by intro h; have := congrArg List.length h; simp at this; omega) hgood (by rw [had]; omega)), .inr (.inr ⟨ho2, hkn, rfl, by rw [mbs_len, List.length_replicate], ?_⟩)⟩
                unfold dat; rw [mbs_data, had]
          have HA := Lib.hid (gall_any oa (22 * i) oc (allB (List.replicate i itR)) k ratio PP x wr HBA.out (by omega) (by omega) (HOr.out.up HBr.out) HGO.out)
          clear HGO hsplit hmem hfin had HBA HOs HBs hlt hi
          go_wp2_with fail
          have hcst : floatOfInt .f64 259 = 4643263992377114624 := by decide +kernel
          have e9 : IntKind.i64.wrap (259 * (i : Int)) = 259 * (i : Int) := IntWalk.i64_in _ (by omega)
          refine HA.out.mono ?_
          rintro e w5 ⟨hat, hb5⟩
          obtain ⟨r, W5, hm5, hbm, ho5⟩ := mul_any ratio (floatOfInt .f64 4) w5
          have eo := ovr_of (n := 259) (used := 4) ho5
          rw [show floatOfInt .f64 ((259 : Nat) : Int) = 4643263992377114624 from hcst] at eo
          have HB5 := Lib.hid (HBr.out.trans (hb5.mono HBr.out.size))
          have HB6 := Lib.hid (HB5.out.trans (hbm.mono HB5.out.size))
          clear HA hb5 hbm ho5 hcst HBr HB5
          rcases hx with ⟨ho, rfl⟩ | ⟨ho, hkn, rfl⟩ | ⟨ho, hkn, rfl, hPl, hdl⟩
          · rw [ho] at eo
            rcases hat with ⟨h, -⟩ | ⟨c, h, -, rfl⟩
            · cases h
            cases h
            by_cases hkn : (k : Int) < 259 * (i : Int)
            · go_wp2_with fail
              refine (HT.out _).mono ?_
              rintro e w8 ⟨rfl, hb8⟩
              have HB8 := Lib.hid (HB6.out.trans (hb8.mono HB6.out.size))
              clear hb8 HB6
              go_wp2_with fail
              go_ret
              exact ⟨rfl, HB8.out⟩
            · go_wp2_with fail
              refine (HT.out _).mono ?_
              rintro e w8 ⟨rfl, hb8⟩
              have HB8 := Lib.hid (HB6.out.trans (hb8.mono HB6.out.size))
              clear hb8 HB6
              go_wp2_with fail
              go_ret
              exact ⟨rfl, HB8.out⟩
          · rw [ho] at eo
            rcases hat with ⟨h, -⟩ | ⟨c, h, -, rfl⟩
            · cases h
            cases h
            have hkI : (k : Int) < 259 * (i : Int) := by omega
            go_wp2_with fail
            refine (HT.out _).mono ?_
            rintro e w8 ⟨rfl, hb8⟩
            have HB8 := Lib.hid (HB6.out.trans (hb8.mono HB6.out.size))
            clear hb8 HB6
            go_wp2_with fail
            go_ret
            exact ⟨rfl, HB8.out⟩
          · rw [ho] at eo
            rcases hat with ⟨-, pv, ov, oc', rfl, hm, -⟩ | ⟨c, h, -⟩
            case inr => cases h
            obtain ⟨pa, pc, rfl, -⟩ := hm.get
            rw [hPl, hdl]
            have hkI : ¬ (k : Int) < 259 * (i : Int) := by omega
            clear hm hkn
            go_wp2_with fail
            refine (HT.out _).mono ?_
            rintro e w8 ⟨rfl, hb8⟩
            have HB8 := Lib.hid (HB6.out.trans (hb8.mono HB6.out.size))
            clear hb8 HB6
            go_wp2_with fail
            go_ret
            exact ⟨rfl, HB8.out⟩
end Go.Proofs.YtilfmmjjiiabgaaGreatDoor.GzC
end
