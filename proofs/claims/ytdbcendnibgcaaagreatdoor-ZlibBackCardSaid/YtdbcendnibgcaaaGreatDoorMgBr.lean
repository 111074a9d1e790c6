import Derived.Test.YtdbcendnibgcaaaGreatDoorMgBk
import Derived.Test.YtdbcendnibgcaaaGreatDoorMgBm
import Derived.Test.YtdbcendnibgcaaaGreatDoorMgBp
import Derived.Test.YtdbcendnibgcaaaGreatDoorMgBq

section
/-
  ZlibBack's law.
-/
namespace Go.Proofs.YtdbcendnibgcaaaGreatDoor.ZlC
open Go.RowKit Go.My ZlMath InfC
open Go.My.NumMath (bytesOf)
open Go.My.AdlerMath (adler adler_lt)

theorem str_take (l : List UInt8) (k : Nat) : (⟨l.toArray⟩ : ByteArray).extract 0 k = ⟨(l.take k).toArray⟩ := by
  apply ByteArray.ext
  simp [ByteArray.data_extract]
theorem str_list (l : List UInt8) : (⟨l.toArray⟩ : ByteArray).data.toList = l := by simp
theorem str_size (l : List UInt8) : (⟨l.toArray⟩ : ByteArray).size = l.length := by simp [ByteArray.size]
/-- The last byte turned. -/
theorem last_turned {A : List UInt8} (h : A.length = 4) (y : UInt8) : (A.take 3 ++ [A.getD 3 0 ^^^ y] = A) ↔ y = 0 := by
  match A, h with
  | [a, b, c, d], _ =>
    simp
    constructor
    · exact xor_self_eq
    · rintro rfl; simp
set_option maxRecDepth 100000 in
set_option maxHeartbeats 8000000 in
theorem back_law (a : Option Addr) (len cap : Nat) (b : List UInt8) (y : UInt8) (w : World) (hb : Bytes w a len cap b) (hO : Ordr w.heap.size w) :
    Calls Tryz.prog 5 #[.slice a len cap, .int .u8 (y.toNat : Int)] w fun e w' => e = .returned (.bool true) ∧ Below w.heap.size w w' := by
  have HT := Lib.hid (fun W hW => told_any W (hO.up hW))
  by_cases h1 : 300 < len
  · clear hb hO
    go_enter Tryz.func5, Tryz.ntmps5
    go_wp2_with fail
    refine (HT.out w (Below.refl _ _)).mono ?_
    rintro e w1 ⟨rfl, hb1⟩
    have HB := Lib.hid hb1
    clear hb1
    go_wp2_with fail
    go_ret
    exact ⟨rfl, HB.out⟩
  have hn : len ≤ 300 := by omega
  have hbl := hb.len_eq
  have HS := Lib.hid (InfC.store_any true a len cap b w hb (by omega))
  have HI := Lib.hid (And.intro hb (And.intro hO hbl))
  have HAD := Lib.hid (fun (W : World) (hW : Below w.heap.size w W) => AdlerC.ref_any 1 a len cap b W (by omega) (hb.below (Nat.le_refl _) hW))
  obtain ⟨AD, hAD⟩ : ∃ AD, AD = adler 1 b := ⟨_, rfl⟩
  have had : AD < 4294967296 := by rw [hAD]; exact adler_lt 1 b
  rw [← hAD] at HAD
  have HADL := Lib.hid (And.intro hAD had)
  clear hb hO hbl h1 hAD
  go_enter Tryz.func5, Tryz.ntmps5
  go_wp2_with fail
  refine HS.out.mono ?_
  rintro e w1 ⟨a1, c1, rfl, HO1, HB1⟩
  clear HS
  go_wp2_with fail
  refine (HAD.out w1 HB1.out).mono ?_
  rintro e w1' ⟨rfl, rfl⟩
  have hwr := wrap_any a1 (5 + len) c1 (InfMath.stored b true) AD w1 (own_by HO1.out).2 (by omega) had
  have HWR := Lib.hid hwr
  clear hwr had HAD
  go_wp2_with fail
  refine HWR.out.mono ?_
  rintro e w2 ⟨v2, rfl, ho2, hb2⟩
  obtain ⟨a2, c2, rfl, hby2⟩ := ho2.bytes
  have HB2 := Lib.hid (HB1.out.trans (hb2.mono HB1.out.size))
  obtain ⟨T, hT⟩ : ∃ T, T = bytesOf true 4 AD := ⟨_, rfl⟩
  have hTl : T.length = 4 := by rw [hT]; exact Go.My.NumMath.bytesOf_len _ _ _
  have hTa : T = bytesOf true 4 (adler 1 b) := by rw [hT, HADL.out.1]
  obtain ⟨W, hW⟩ : ∃ W, W = [120, 156] ++ (InfMath.stored b true ++ T) := ⟨_, rfl⟩
  have hWw : wrp (InfMath.stored b true) AD = W := by rw [hW, hT]; simp [wrp]
  have hWl : W.length = len + 11 := by rw [hW, List.length_append, List.length_append, InfMath.stored_len, hTl, HI.out.2.2]; simp; omega
  rw [hWw] at hby2 ⊢
  rw [hWl] at hby2 ⊢
  obtain ⟨S1, hS1⟩ : ∃ S1 : ByteArray, S1 = ⟨W.toArray⟩ := ⟨_, rfl⟩
  have hs1 : S1.size = len + 11 := by rw [hS1, str_size, hWl]
  have hcv : (convert 22 9 (.slice a2 (len + 11) c2)).run Tryz.prog w2 = .ok (.string S1) w2 := by
    rw [hS1]
    exact run_string_bytes _ 22 9 5 Tryz.underlying22 Tryz.underlying5 Tryz.underlying9 hby2
  have HTT := Lib.hid (And.intro hTl (And.intro hTa (And.intro hW (And.intro hWl hS1))))
  obtain ⟨d1, v1, hv1, hr1, hl1⟩ := str_bytes w2 S1 (by omega)
  rw [hs1] at hv1 hr1
  have HR1 := Lib.hid hr1
  have HB3 := Lib.hid (HB2.out.trans (hl1.mono HB2.out.size))
  have HSZ := Lib.hid hs1
  clear HWR ho2 hb2 hby2 hT hTl hTa hW hWw hWl hS1 HB1 HO1 hr1 hl1 hs1
  go_wp2_with fail
  have hbl1 : b.length = len := HI.out.2.2
  have hr := HR1.out
  rw [show S1.data.toList = [120, 156] ++ (InfMath.stored b true ++ T) by rw [HTT.out.2.2.2.2, str_list, HTT.out.2.2.1]] at hr
  have hA := sto_code (d := b) (tl := T) (most := len) f1 v1 hr (by omega) (by rw [HTT.out.1]; omega) (by omega) (by omega) (HI.out.2.1.up HB3.out)
  rw [show sres b T f1 = 0 by unfold sres; rw [ovr_one ⟨b.length, by omega⟩, if_neg (by decide), if_pos HTT.out.2.1], hbl1] at hA
  have HA := Lib.hid hA
  clear hA hr HR1 hv1
  refine HA.out.mono ?_
  rintro e w3 ⟨⟨ov, u, rfl, hx⟩, hb3⟩
  obtain ⟨rfl, oa, oc, rfl, hown⟩ := hx rfl
  have HB4 := Lib.hid (HB3.out.trans (hb3.out.mono HB3.out.size))
  have hcx := conv_own hown.out
  have hcb := run_string_bytes w3 22 9 5 Tryz.underlying22 Tryz.underlying5 Tryz.underlying9 (HI.out.1.below (Nat.le_refl _) HB4.out)
  obtain ⟨B0, hB0⟩ : ∃ B0 : ByteArray, B0 = ⟨b.toArray⟩ := ⟨_, rfl⟩
  rw [← hB0] at hcx hcb
  have heq : (B0.toList == B0.toList) = true := by simp
  have hs1 := HSZ.out
  clear HA hx hown hb3 HB3 hB0 hbl1
  go_upto_region 7 with (fail)
  clear heq hcx hcb
  -- a byte more
  obtain ⟨S2, hS2⟩ : ∃ S2 : ByteArray, S1 ++ ⟨#[0]⟩ = S2 := ⟨_, rfl⟩
  have hS2l : S2 = ⟨([120, 156] ++ (InfMath.stored b true ++ (T ++ [0]))).toArray⟩ := by
    rw [← hS2, HTT.out.2.2.2.2, HTT.out.2.2.1, show (⟨#[0]⟩ : ByteArray) = ⟨([0] : List UInt8).toArray⟩ from rfl, str_app]
    simp
  have hs2 : S2.size = len + 12 := by rw [hS2l, str_size]; have := HI.out.2.2; have := HTT.out.1; simp [InfMath.stored_len]; omega
  obtain ⟨d4, v4, hv4, hr4, hl4⟩ := str_bytes w3 S2 (by omega)
  rw [hs2] at hv4 hr4
  rw [show S2.data.toList = [120, 156] ++ (InfMath.stored b true ++ (T ++ [0])) by rw [hS2l, str_list]] at hr4
  have HB5 := Lib.hid (HB4.out.trans (hl4.mono HB4.out.size))
  have hA := sto_code (d := b) (tl := T ++ [0]) (most := len) f1 v4 hr4 (by have := HI.out.2.2; omega) (by have := HTT.out.1; simp; omega) (by have := HI.out.2.2; omega) (by omega) (HI.out.2.1.up HB5.out)
  rw [show sres b (T ++ [0]) f1 = 2 by unfold sres; rw [ovr_one ⟨b.length, by have := HI.out.2.2; omega⟩, if_neg (by decide), if_neg (fun h => by have := congrArg List.length h; rw [← HTT.out.2.1] at this; simp at this)]] at hA
  have HA := Lib.hid hA
  have k1 : ¬ 9223372036854775807 < len + 11 + 1 := by omega
  clear hA hr4 hl4 hS2l hs2
  go_wp2_with fail
  refine HA.out.mono ?_
  rintro e w5 ⟨⟨ov5, u5, rfl, -⟩, hb5⟩
  have HB6 := Lib.hid (HB5.out.trans (hb5.out.mono HB5.out.size))
  clear HA hb5 HB5 HB4 hS2 hv4 k1
  go_upto_region 8 with (fail)
  -- a byte less
  obtain ⟨S3, hS3⟩ : ∃ S3 : ByteArray, S1.extract 0 (len + 10) = S3 := ⟨_, rfl⟩
  have hS3l : S3 = ⟨([120, 156] ++ (InfMath.stored b true ++ T.take 3)).toArray⟩ := by
    rw [← hS3, HTT.out.2.2.2.2, str_take, HTT.out.2.2.1]
    have hl := InfMath.stored_len b true
    have := HI.out.2.2
    rw [List.take_append, List.take_append, List.take_of_length_le (l := [120, 156]) (by simp), List.take_of_length_le (l := InfMath.stored b true) (by simp; omega)]
    simp
    congr 1
    omega
  have hs3 : S3.size = len + 10 := by rw [hS3l, str_size]; have := HI.out.2.2; have := HTT.out.1; simp [InfMath.stored_len]; omega
  obtain ⟨d6, v6, hv6, hr6, hl6⟩ := str_bytes w5 S3 (by omega)
  rw [hs3] at hv6 hr6
  rw [show S3.data.toList = [120, 156] ++ (InfMath.stored b true ++ T.take 3) by rw [hS3l, str_list]] at hr6
  have HB7 := Lib.hid (HB6.out.trans (hl6.mono HB6.out.size))
  have hA := sto_code (d := b) (tl := T.take 3) (most := len) f1 v6 hr6 (by have := HI.out.2.2; omega) (by have := HTT.out.1; simp; omega) (by have := HI.out.2.2; omega) (by omega) (HI.out.2.1.up HB7.out)
  rw [show sres b (T.take 3) f1 = 2 by unfold sres; rw [ovr_one ⟨b.length, by have := HI.out.2.2; omega⟩, if_neg (by decide), if_neg (fun h => by have := congrArg List.length h; rw [← HTT.out.2.1, List.length_take, HTT.out.1] at this; omega)]] at hA
  have HA := Lib.hid hA
  have m1 : ((len : Int) + 11 - 1).toNat = len + 10 := by omega
  clear hA hr6 hl6
  have HS3 := Lib.hid (And.intro hS3l hs3)
  clear hS3l hs3
  go_wp2_with fail
  refine HA.out.mono ?_
  rintro e w7 ⟨⟨ov7, u7, rfl, -⟩, hb7⟩
  have HB8 := Lib.hid (HB7.out.trans (hb7.out.mono HB7.out.size))
  clear HA hb7 HB7 HB6 hv6
  go_upto_region 9 with (fail)
  -- the last byte turned
  obtain ⟨Z, hZ⟩ : ∃ Z : UInt8, Z = T.getD 3 0 := ⟨_, rfl⟩
  have hk : len + 10 < S1.size := by omega
  have hz : S1[len + 10]'hk = Z := by
    have h1 : S1[len + 10]'hk = S1.data.toList.getD (len + 10) 0 := by
      rw [List.getD, List.getElem?_eq_getElem (by rw [Array.length_toList]; exact hk)]
      rfl
    have hl := InfMath.stored_len b true
    have h2 := HI.out.2.2
    rw [h1, HTT.out.2.2.2.2, str_list, HTT.out.2.2.1, hZ, List.getD_eq_getElem?_getD, List.getD_eq_getElem?_getD, List.getElem?_append_right (by simp), List.getElem?_append_right (by simp; omega)]
    congr 2
    simp
    omega
  obtain ⟨Y, hY⟩ : ∃ Y, Y = Z ^^^ y := ⟨_, rfl⟩
  have x2 : bits .xor .u8 (Z.toNat : Int) (y.toNat : Int) = (Y.toNat : Int) := by rw [hY]; exact u8_xor Z y
  obtain ⟨S5, hS5⟩ : ∃ S5 : ByteArray, S5 = ⟨#[Y]⟩ := ⟨_, rfl⟩
  have hm2 : ((len : Int) + 10).toNat = len + 10 := by omega
  have aux : ∀ (q : Nat) (hq : q < S1.size), q = len + 10 → S1[q]'hq = Z := by rintro _ _ rfl; exact hz
  have hk2 : ((len : Int) + 10).toNat < S1.size := by omega
  have hz2 : S1[((len : Int) + 10).toNat]'hk2 = Z := aux _ _ hm2
  obtain ⟨WA, hWA⟩ : ∃ WA, WA = (w7.alloc (.cells #[.int .u8 (Y.toNat : Int)] 5)).drew := ⟨_, rfl⟩
  have hbA : Bytes WA (some ⟨w7.heap.size, 0, none⟩) 1 1 [Y] := by rw [hWA]; exact (row_bytes 5 w7 [Y] (by simp)).below (Nat.le_refl _) (Below.refl _ _).drew
  have hcA : (convert 22 9 (.slice (some ⟨w7.heap.size, 0, none⟩) 1 1)).run Tryz.prog ((w7.alloc (.cells #[.int .u8 (Y.toNat : Int)] 5)).drew) = .ok (.string S5) ((w7.alloc (.cells #[.int .u8 (Y.toNat : Int)] 5)).drew) := by
    rw [← hWA, hS5]
    exact run_string_bytes _ 22 9 5 Tryz.underlying22 Tryz.underlying5 Tryz.underlying9 hbA
  have hBA : Below w.heap.size w WA := by
    rw [hWA]
    have h := HB8.out.alloc HB8.out.size (.cells #[.int .u8 (Y.toNat : Int)] 5)
    exact h.trans ((Below.refl _ _).drew.mono h.size)
  have hWs : WA.heap.size = w7.heap.size + 1 := by rw [hWA]; simp
  have hs3 := HS3.out.2
  have hs5 : S5.size = 1 := by rw [hS5]; rfl
  obtain ⟨S6, hS6⟩ : ∃ S6 : ByteArray, S3 ++ S5 = S6 := ⟨_, rfl⟩
  have hS6l : S6 = ⟨([120, 156] ++ (InfMath.stored b true ++ (T.take 3 ++ [Y]))).toArray⟩ := by
    rw [← hS6, HS3.out.1, hS5, show (⟨#[Y]⟩ : ByteArray) = ⟨([Y] : List UInt8).toArray⟩ from rfl, str_app]
    simp
  have hs6 : S6.size = len + 11 := by rw [← hS6, ByteArray.size_append, hs3, hs5]
  obtain ⟨d8, v8, hv8, hr8, hl8⟩ := str_bytes WA S6 (by omega)
  rw [hs6, hWs] at hv8 hr8
  rw [show S6.data.toList = [120, 156] ++ (InfMath.stored b true ++ (T.take 3 ++ [Y])) by rw [hS6l, str_list]] at hr8
  have HB9 := Lib.hid (hBA.trans (hl8.mono hBA.size))
  have hA := sto_code (d := b) (tl := T.take 3 ++ [Y]) (most := len) f1 v8 hr8 (by have := HI.out.2.2; omega) (by have := HTT.out.1; simp; omega) (by have := HI.out.2.2; omega) (by omega) (HI.out.2.1.up HB9.out)
  rw [show sres b (T.take 3 ++ [Y]) f1 = if y = 0 then 0 else 2 by
    have h := last_turned HTT.out.1 y
    rw [← hZ, ← hY] at h
    unfold sres
    rw [ovr_one ⟨b.length, by have := HI.out.2.2; omega⟩, if_neg (by decide), ← HTT.out.2.1]
    by_cases h0 : y = 0
    · rw [if_pos (h.2 h0), if_pos h0]
    · rw [if_neg (fun e => h0 (h.1 e)), if_neg h0]] at hA
  obtain ⟨C8, hC8⟩ : ∃ C8 : Nat, C8 = if y = 0 then 0 else 2 := ⟨_, rfl⟩
  rw [← hC8] at hA
  have HA := Lib.hid hA
  have HC8 := Lib.hid hC8
  have q1 : IntKind.i64.wrap ((len : Int) + 11 - 1) = ((len + 10 : Nat) : Int) := by rw [IntWalk.i64_in _ (by omega)]; omega
  have q2 : wrap64 ((len : Int) + 11 - 1) = ((len + 10 : Nat) : Int) := by rw [IntWalk.wrap64_in _ (by omega)]; omega
  have k2 : ¬ 9223372036854775807 < S3.size + S5.size := by omega
  have k3 : ¬ 9223372036854775807 < len + 10 + 1 := by omega
  rw [hWA] at hv8
  clear hA hC8 hr8 hl8 hS6l hs6 hbA hWA hBA hY hZ hS5 aux hWs
  have m3 : (0 : Int) ≤ (len : Int) + 10 := by omega
  have m4 : ¬ 9223372036854775807 < ((len : Int) + 10).toNat + 1 := by omega
  go_cut [17] (fun v wd => v = .int .i64 (C8 : Int) ∧ Hid (Below w.heap.size w wd))
  case first =>
    go_region_with (go_at_call 12; refine HA.out.mono ?_; rintro e w9 ⟨⟨ov9, u9, rfl, -⟩, hb9⟩; have HB10 := Lib.hid (HB9.out.trans (hb9.out.mono HB9.out.size)); clear hb9)
    all_goals (go_wp2_with fail; go_meet)
    all_goals exact ⟨rfl, HB10⟩
  obtain ⟨rfl, HBC⟩ := hcut
  clear q1 q2 k2 k3 m1 m3 m4 hv8 hcA x2 hz hz2 hk2 hm2 hk hS6 hS3 hs3 hs5 HA HB9 HB8 HS3
  by_cases h0 : len = 0
  · have z0 : ¬ (0 : Int) < (len : Int) := by omega
    clear h0
    go_wp2_with fail
    refine (HT.out _ HBC.out).mono ?_
    rintro e wt ⟨rfl, hbt⟩
    have HBT := Lib.hid (HBC.out.trans (hbt.mono HBC.out.size))
    clear hbt HT
    by_cases hy : y = 0
    · have hC : C8 = 0 := HC8.out.trans (if_pos hy)
      have y1 : ((y.toNat : Int) != 0) = false := by rw [hy]; rfl
      subst hC
      clear hy HC8
      go_wp2_with fail
      go_ret
      exact ⟨rfl, HBT.out⟩
    · have hC : C8 = 2 := HC8.out.trans (if_neg hy)
      have y1 : ((y.toNat : Int) != 0) = true := by
        have h : y.toNat ≠ 0 := fun h => hy (UInt8.toNat_inj.1 (by rw [h]; rfl))
        simp only [bne_iff_ne, ne_eq]
        omega
      subst hC
      clear hy HC8
      go_wp2_with fail
      go_ret
      exact ⟨rfl, HBT.out⟩
  · have z0 : (0 : Int) < (len : Int) := by omega
    obtain ⟨d10, v10, hv10, hr10, hl10⟩ := str_bytes wc S1 (by omega)
    rw [hs1] at hv10 hr10
    rw [show S1.data.toList = [120, 156] ++ (InfMath.stored b true ++ T) by rw [HTT.out.2.2.2.2, str_list, HTT.out.2.2.1]] at hr10
    have HB11 := Lib.hid (HBC.out.trans (hl10.mono HBC.out.size))
    have hA := sto_over_code (d := b) (tl := T) (most := len - 1) f1 v10 hr10 (by have := HI.out.2.2; omega) (by rw [HTT.out.1]; omega) (by have := HI.out.2.2; omega) (HI.out.2.1.up HB11.out)
    rw [show ((len - 1 : Nat) : Int) = (len : Int) - 1 by omega] at hA
    have HA := Lib.hid hA
    clear hA hr10 hl10 h0
    go_wp2_with fail
    refine HA.out.mono ?_
    rintro e w11 ⟨rfl, hb11⟩
    have HB12 := Lib.hid (HB11.out.trans (hb11.out.mono HB11.out.size))
    clear HA hb11 HB11 HBC hv10
    obtain ⟨d12, v12, hv12, hr12, hl12⟩ := str_bytes w11 S1 (by omega)
    rw [hs1] at hv12 hr12
    rw [show S1.data.toList = [120, 156] ++ (InfMath.stored b true ++ T) by rw [HTT.out.2.2.2.2, str_list, HTT.out.2.2.1]] at hr12
    have HB13 := Lib.hid (HB12.out.trans (hl12.mono HB12.out.size))
    have hA := sto_code (d := b) (tl := T) (most := len) 0 v12 hr12 (by have := HI.out.2.2; omega) (by rw [HTT.out.1]; omega) (by have := HI.out.2.2; omega) (by omega) (HI.out.2.1.up HB13.out)
    rw [show sres b T 0 = 3 by unfold sres; rw [ovr_zero ⟨b.length, by have := HI.out.2.2; omega⟩ (by have := HI.out.2.2; simp only; omega), if_pos rfl]] at hA
    have HA := Lib.hid hA
    clear hA hr12 hl12
    go_wp2_with fail
    refine HA.out.mono ?_
    rintro e w13 ⟨⟨ov13, u13, rfl, -⟩, hb13⟩
    have HB14 := Lib.hid (HB13.out.trans (hb13.out.mono HB13.out.size))
    clear HA hb13 HB13 HB12 hv12
    go_wp2_with fail
    refine (HT.out _ HB14.out).mono ?_
    rintro e wt ⟨rfl, hbt⟩
    have HBT := Lib.hid (HB14.out.trans (hbt.mono HB14.out.size))
    clear hbt HT
    by_cases hy : y = 0
    · have hC : C8 = 0 := HC8.out.trans (if_pos hy)
      have y1 : ((y.toNat : Int) != 0) = false := by rw [hy]; rfl
      subst hC
      clear hy HC8
      go_wp2_with fail
      go_ret
      exact ⟨rfl, HBT.out⟩
    · have hC : C8 = 2 := HC8.out.trans (if_neg hy)
      have y1 : ((y.toNat : Int) != 0) = true := by
        have h : y.toNat ≠ 0 := fun h => hy (UInt8.toNat_inj.1 (by rw [h]; rfl))
        simp only [bne_iff_ne, ne_eq]
        omega
      subst hC
      clear hy HC8
      go_wp2_with fail
      go_ret
      exact ⟨rfl, HBT.out⟩
end Go.Proofs.YtdbcendnibgcaaaGreatDoor.ZlC
end
