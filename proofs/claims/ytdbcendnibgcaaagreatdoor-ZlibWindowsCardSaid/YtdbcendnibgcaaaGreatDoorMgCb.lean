import Derived.Test.YtdbcendnibgcaaaGreatDoorMgAb
import Derived.Test.YtdbcendnibgcaaaGreatDoorRows
import Derived.Test.YtdbcendnibgcaaaGreatDoorMgAa
import Derived.Laws.Pointers
import Derived.Deep.QuietTactic
import Derived.BigQuiet
import Derived.StillTailTactics
import Derived.Test.YtdbcendnibgcaaaGreatDoorMgBp
import Derived.Test.YtdbcendnibgcaaaGreatDoorMgCa
import Derived.Test.YtdbcendnibgcaaaGreatDoorMgBs
import Derived.Test.YtdbcendnibgcaaaGreatDoorMgAf

section
/-
  The document's own answer for bits (stevedoreref5): Bytes alone (R5's, for seats without Of and Number).
-/
namespace Go.Proofs.YtdbcendnibgcaaaGreatDoor.RefC
open Go.RowKit Go.My BitMath

/-! ### bits as bytes -/
/-- What Bytes has laid behind k rounds, of n bytes. -/
def packAt (L : List Bool) (n k : Nat) : List UInt8 := (List.range n).map fun j => UInt8.ofNat (num (((L.take k).drop (8 * j)).take 8))
theorem packAt_len (L : List Bool) (n k : Nat) : (packAt L n k).length = n := by simp [packAt]
theorem packAt_full (L : List Bool) : packAt L ((L.length + 7) / 8) L.length = pack L := by unfold packAt pack; rw [List.take_length]
theorem packAt_zero (L : List Bool) (n : Nat) : packAt L n 0 = List.replicate n 0 := by
  unfold packAt
  apply List.ext_getElem
  · simp
  · intro i h1 h2; simp [num]
theorem packAt_get (L : List Bool) (n k : Nat) (h : k / 8 < n) (hk : k < L.length) : (packAt L n k)[k / 8]'(by rw [packAt_len]; exact h) = UInt8.ofNat (num (((L.take k).drop (8 * (k / 8))))) := by
  unfold packAt
  simp only [List.getElem_map, List.getElem_range]
  rw [List.take_of_length_le (by simp; omega)]
theorem cur_lt (L : List Bool) (k : Nat) (hk : k < L.length) : num ((L.take k).drop (8 * (k / 8))) < 2 ^ (k % 8) := by
  have := num_lt ((L.take k).drop (8 * (k / 8)))
  rwa [List.length_drop, List.length_take, show min k L.length - 8 * (k / 8) = k % 8 from by omega] at this
theorem packAt_at (L : List Bool) (n k j : Nat) (h : j < (packAt L n k).length) : (packAt L n k)[j] = UInt8.ofNat (num (((L.take k).drop (8 * j)).take 8)) := by simp [packAt]
theorem packAt_set (L : List Bool) (n k : Nat) (hk : k < L.length) :
    (packAt L n k).set (k / 8) (UInt8.ofNat (num ((L.take k).drop (8 * (k / 8))) + 2 ^ (k % 8) * (L[k]).toNat)) = packAt L n (k + 1) := by
  apply List.ext_getElem
  · simp [packAt]
  · intro j h1 h2
    rw [List.getElem_set, packAt_at, packAt_at]
    rw [packAt_len] at h2
    by_cases hj : k / 8 = j
    · subst hj
      rw [if_pos rfl, List.take_succ_eq_append_getElem hk, List.drop_append_of_le_length (by simp; omega), List.take_of_length_le (l := (L.take k).drop (8 * (k / 8)) ++ [L[k]]) (by simp; omega), num_snoc]
      congr 3
      simp only [List.length_drop, List.length_take]
      congr 1
      omega
    · rw [if_neg hj]
      by_cases hlt : k < 8 * j
      · rw [List.drop_of_length_le (by simp; omega), List.drop_of_length_le (by simp; omega)]
      · rw [List.take_succ_eq_append_getElem hk, List.drop_append_of_le_length (by simp; omega), List.take_append_of_le_length (by simp; omega)]
theorem u8_put (c m b : Nat) (hm : m < 8) (hc : c < 2 ^ m) (hb : b ≤ 1) : bits .or .u8 (c : Int) ((b : Int) * 2 ^ m) = ((c + 2 ^ m * b : Nat) : Int) := by
  have h7 : 2 ^ m ≤ 2 ^ 7 := Nat.pow_le_pow_right (by omega) (by omega)
  have e : (b : Int) * 2 ^ m = ((b * 2 ^ m : Nat) : Int) := by push_cast; rfl
  have hbm : b * 2 ^ m ≤ 1 * 2 ^ m := Nat.mul_le_mul_right _ hb
  rw [e, u8_or_nat _ _ (by omega) (by omega), or_join m c b hc]

set_option maxRecDepth 100000 in
set_option maxHeartbeats 2000000 in
theorem refbytes_any (L : List Bool) (w : World) (hl : L.length ≤ 1000000000) :
    Calls Tryz.prog 31 #[.string (txt L)] w fun e w' => e = .returned (.slice (some ⟨w.heap.size, 0, none⟩) ((L.length + 7) / 8) ((L.length + 7) / 8)) ∧ Hid (Own 5 w.heap.size w' (.slice (some ⟨w.heap.size, 0, none⟩) ((L.length + 7) / 8) ((L.length + 7) / 8)) (pack L)) ∧ Below w.heap.size w w' := by
  have htl := txt_len L
  obtain ⟨s, hs⟩ : ∃ s, s = txt L := ⟨_, rfl⟩
  have hg : ∀ k (h : k < L.length) (h2 : k < s.size), s[k] = chB L[k] := by
    subst hs; intro k h h2; exact txt_get L k h2
  rw [← hs] at htl ⊢
  have HG := Lib.hid hg
  have HTL := Lib.hid htl
  have hsz : s.size ≤ 1000000000 := by omega
  obtain ⟨n, hn⟩ : ∃ n, n = (L.length + 7) / 8 := ⟨_, rfl⟩
  rw [← hn]
  have HN : Hid (n = (s.size + 7) / 8) := Lib.hid (by rw [hn, htl])
  have HW := Lib.hid (Below.refl w.heap.size w)
  have hn2 : n ≤ 1000000000 := by omega
  have HF : Hid (packAt L n s.size = pack L) := Lib.hid (by rw [hn, htl, packAt_full])
  have HNL := Lib.hid hn
  clear hg hs htl hn
  go_enter Tryz.func31, Tryz.ntmps31
  go_wp2_with (at_make; refine wpList_make_bytes _ rfl (.tmp 8) (.tmp 8) 22 rfl w.heap.size 5 Tryz.underlying22 info5 .i64 .i64 ((s.size + 7) / 8) (by rfl) (by rfl) (by omega) (Nat.le_refl _) ?_)
  intro w1 hown hg
  rw [← HN.out] at hown ⊢
  have HB := Lib.hid (grown_none_below (Below.refl w.heap.size w) hg (Nat.le_refl _))
  have HO : Hid (Own 5 w.heap.size w1 (.slice (some ⟨w.heap.size, 0, none⟩) n n) (packAt L n 0)) := Lib.hid (by rw [packAt_zero]; exact hown)
  clear hown hg
  go_wp2_with fail
  generalize hB : w.heap.size = g at *
  go_loopw [4] (fun i wr => ∃ k : Nat, k ≤ s.size ∧ i = .int .i64 (k : Int) ∧ Hid (Own 5 g wr (.slice (some ⟨g, 0, none⟩) n n) (packAt L n k)) ∧ Hid (Below g w wr)) (fun i _ => s.size - (intOf i).toNat)
  case atStart => exact ⟨0, Nat.zero_le _, rfl, HO, HB⟩
  case round =>
    clear HO HB
    obtain ⟨k, hk, rfl, HO, HB⟩ := hrel
    by_cases hlt : k < s.size
    · have hkn : k / 8 < n := by have := HN.out; omega
      have hkL : k < L.length := by have := HTL.out; omega
      have hcell := own_cell HO.out (packAt_len _ _ _) (k / 8) (by rw [packAt_len]; exact hkn)
      rw [packAt_get L n k hkn hkL] at hcell
      have hfree := own_free HO.out (packAt_len _ _ _) (k / 8)
      have hcur := cur_lt L k hkL
      have hset := packAt_set L n k hkL
      have hs1 := HG.out k hkL hlt
      generalize num ((L.take k).drop (8 * (k / 8))) = c at *
      have hq1 : (0 : Int) ≤ (k : Int) / 8 := by omega
      have hq2 : (k : Int) / 8 < (n : Int) := by omega
      have hk1 : (k : Int) < (s.size : Int) := by omega
      have hm1 : (0 : Int) ≤ (k : Int) % 8 := by omega
      have ht1 : ((k : Int) / 8).toNat = k / 8 := by omega
      obtain ⟨b, hb⟩ : ∃ b, b = L[k] := ⟨_, rfl⟩
      rw [← hb] at hset hs1
      have hb1 : b.toNat ≤ 1 := Bool.toNat_le b
      have hcb := chB_nat b
      have h7 : 2 ^ (k % 8) ≤ 2 ^ 7 := Nat.pow_le_pow_right (by omega) (by omega)
      have hp0 : 0 < 2 ^ (k % 8) := Nat.two_pow_pos _
      have hbm : b.toNat * 2 ^ (k % 8) ≤ 1 * 2 ^ (k % 8) := Nat.mul_le_mul_right _ hb1
      have hcc : c < 256 := by omega
      have hcell' : wr.cell? ⟨g, k / 8, none⟩ = some (.int .u8 (c : Int)) := by
        rw [hcell]; unfold bv; rw [UInt8.toNat_ofNat', Nat.mod_eq_of_lt hcc]
      have hput := u8_put c (k % 8) b.toNat (Nat.mod_lt _ (by omega)) hcur hb1
      have hsub : IntKind.u8.wrap (((chB b).toNat : Int) - 48) = (b.toNat : Int) := by
        rw [hcb, IntWalk.u8_in _ (by omega)]; omega
      have hmod : (k : Int).tmod 8 = (k : Int) % 8 := Int.tmod_eq_emod_of_nonneg (by omega)
      have hw2 : IntKind.u64.wrap ((k : Int) % 8) = (k : Int) % 8 := IntWalk.u64_in _ (by omega)
      have ht2 : ((k : Int) % 8).toNat = k % 8 := by omega
      have hw4 : min (k % 8) 8 = k % 8 := by omega
      have hw3 : IntKind.u8.wrap ((b.toNat : Int) * 2 ^ (k % 8)) = (b.toNat : Int) * 2 ^ (k % 8) := IntWalk.u8_in _ (by
        have e : (b.toNat : Int) * 2 ^ (k % 8) = ((b.toNat * 2 ^ (k % 8) : Nat) : Int) := by push_cast; rfl
        rw [e]; omega)
      have hsum : c + 2 ^ (k % 8) * b.toNat < 256 := by rw [Nat.mul_comm]; omega
      have hw1 : IntKind.i64.wrap ((k : Int) / 8) = (k : Int) / 8 := IntWalk.i64_in _ (by omega)
      have HSET := Lib.hid hset
      have HSUM := Lib.hid hsum
      have HB1 := Lib.hid hb
      clear hset hsum hb hcell hcur hcc h7 hp0 hbm hcb hb1
      go_wp2_with fail
      go_still_tail 18, (by kernel_rfl)
      change wpList _ _ _ _ _ wr.drew
      have HO2 : Hid (Own 5 g wr.drew (.slice (some ⟨g, 0, none⟩) n n) (packAt L n k)) := HO
      have HB2 : Hid (Below g w wr.drew) := Lib.hid HB.out.drew
      have hfree2 : wr.drew.frozen? ⟨g, k / 8, none⟩ = false := hfree
      have hcell2 : wr.drew.cell? ⟨g, k / 8, none⟩ = some (.int .u8 (c : Int)) := hcell'
      clear HO HB hfree hcell'
      generalize wr.drew = w2 at *
      clear hw1 hw2 ht2 hw4 hw3 hmod hsub ht1 hs1
      go_wp2_with fail
      have HO1 := own_store HO2.out (packAt_len _ _ _) (k / 8) (UInt8.ofNat (c + 2 ^ (k % 8) * b.toNat))
      rw [HSET.out] at HO1
      unfold bv at HO1
      rw [UInt8.toNat_ofNat', Nat.mod_eq_of_lt (HSUM.out)] at HO1
      go_roundw
      case rel => exact ⟨k + 1, by omega, by go_num, Lib.hid HO1, Lib.hid (HB2.out.setCell (p := ⟨g, k / 8, none⟩) (Nat.le_refl _) _)⟩
      case measure => simp [intOf]; omega
    · obtain rfl : k = s.size := by omega
      rw [HF.out] at HO
      go_wp2_with fail
      go_ret
      subst hB
      exact ⟨rfl, HO, HB.out⟩

end Go.Proofs.YtdbcendnibgcaaaGreatDoor.RefC
end

section
/-
  ZlibWindows' last block.
-/
namespace Go.Proofs.YtdbcendnibgcaaaGreatDoor.ZlC
open Go.RowKit Go.My InfC BitMath

theorem mtail_txt (m n v : Nat) (hm : m < 32) : [true, true, false, false, false, false, false, false, false, true] ++ (lows 5 m).reverse ++ lows n v ++ [false, false, false, false, false, false, false] = InfMath.mtail m n v := by
  unfold InfMath.mtail
  rw [InfMath.fix257, InfMath.fix256, InfMath.fixD_bits m hm]
  simp
theorem put_any (v n : Nat) (w : World) (hn : n ≤ 32) (hv : v < 4294967296) :
    Calls Tryz.prog 33 #[.int .u32 (v : Int), .int .i64 (n : Int)] w fun e w' => e = .returned (.string (txt (lows n v))) ∧ w = w' := by
  by_cases h0 : n = 0
  · subst h0
    exact RefC.refput_no (v : Int) 0 w (.inl (by omega))
  · exact RefC.refput_any v n w (by omega) hn hv
set_option maxRecDepth 100000 in
set_option maxHeartbeats 1000000 in
theorem ltail_any (m n v : Nat) (w : World) (hm : m < 32) (hn : n ≤ 13) (hv : v < 8192) :
    Calls Tryz.prog 17 #[.int .i64 (m : Int), .int .i64 (n : Int), .int .i64 (v : Int)] w fun e w' => ∃ ta, e = .returned (.slice ta ((22 + n + 7) / 8) ((22 + n + 7) / 8)) ∧ Hid (Own 5 w.heap.size w' (.slice ta ((22 + n + 7) / 8) ((22 + n + 7) / 8)) (pack (InfMath.mtail m n v))) ∧ Hid (Below w.heap.size w w') := by
  have w1 : IntKind.u32.wrap (m : Int) = (m : Int) := IntWalk.u32_in _ (by omega)
  have w2 : IntKind.u32.wrap (v : Int) = (v : Int) := IntWalk.u32_in _ (by omega)
  have HC := Lib.hid (RefC.refcode_any m 5 w (by omega) (by omega) (by omega))
  have HP := Lib.hid (put_any v n w (by omega) (by omega))
  obtain ⟨q1, hq1⟩ : ∃ q1, q1 = txt (lows 5 m).reverse := ⟨_, rfl⟩
  obtain ⟨q2, hq2⟩ : ∃ q2, q2 = txt (lows n v) := ⟨_, rfl⟩
  have hs1 : q1.size = 5 := by rw [hq1, txt_len]; simp [lows_len]
  have hs2 : q2.size = n := by rw [hq2, txt_len, lows_len]
  rw [← hq1] at HC
  rw [← hq2] at HP
  obtain ⟨q3, hq3⟩ : ∃ q3 : ByteArray, q3 = ⟨#[49, 49, 48, 48, 48, 48, 48, 48, 48, 49]⟩ ++ q1 ++ q2 ++ ⟨#[48, 48, 48, 48, 48, 48, 48]⟩ := ⟨_, rfl⟩
  have h3 : q3 = txt (InfMath.mtail m n v) := by
    rw [hq3, hq1, hq2, show (⟨#[49, 49, 48, 48, 48, 48, 48, 48, 48, 49]⟩ : ByteArray) = txt [true, true, false, false, false, false, false, false, false, true] from rfl, show (⟨#[48, 48, 48, 48, 48, 48, 48]⟩ : ByteArray) = txt [false, false, false, false, false, false, false] from rfl, txt_append, txt_append, txt_append, mtail_txt m n v hm]
  have hB := RefC.refbytes_any (InfMath.mtail m n v) w (by rw [InfMath.mtail_len m n v hm]; omega)
  rw [← h3, InfMath.mtail_len m n v hm] at hB
  have HB := Lib.hid hB
  have k1 : ¬ 9223372036854775807 < 10 + 5 := by omega
  have k2 : ¬ 9223372036854775807 < 10 + 5 + n := by omega
  have k3 : ¬ 9223372036854775807 < 10 + 5 + n + 7 := by omega
  have k4 : ¬ 9223372036854775807 < 10 + q1.size := by omega
  have k5 : ¬ 9223372036854775807 < 10 + q1.size + q2.size := by omega
  have k6 : ¬ 9223372036854775807 < 10 + q1.size + q2.size + 7 := by omega
  have hq3' := hq3.symm
  clear hB h3 hq1 hq2 hq3
  generalize (22 + n + 7) / 8 = N at *
  go_enter Tryz.func17, Tryz.ntmps17
  go_wp2_with fail
  refine HC.out.mono ?_
  rintro e w' ⟨rfl, rfl⟩
  go_wp2_with fail
  refine HP.out.mono ?_
  rintro e w' ⟨rfl, rfl⟩
  go_wp2_with fail
  refine HB.out.mono ?_
  rintro e w' ⟨rfl, HO, hb⟩
  have HBl := Lib.hid hb
  clear hb HB
  go_wp2_with fail
  go_ret
  exact ⟨_, rfl, HO, HBl⟩
end Go.Proofs.YtdbcendnibgcaaaGreatDoor.ZlC
end

section
/-
  Not more than 5,000 times as many.
-/
namespace Go.Proofs.YtdbcendnibgcaaaGreatDoor.ZlC
open Go.RowKit Go.My Flt
set_option maxHeartbeats 4000000 in
theorem ovr_5000 : ∀ n : Fin 1001, ∀ j : Fin 3, ovr (n.val + 3) (8 + n.val + j.val) f5000 = false := by unfold ovr; decide +kernel
end Go.Proofs.YtdbcendnibgcaaaGreatDoor.ZlC
end
