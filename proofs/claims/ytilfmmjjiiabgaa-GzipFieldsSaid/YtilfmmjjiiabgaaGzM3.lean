/-
  GzipFields' law.
-/
import Derived.Test.YtilfmmjjiiabgaaGzL1
import Derived.Test.YtilfmmjjiiabgaaGzFld
import Derived.Test.YtilfmmjjiiabgaaGzS
namespace Go.Proofs.Ytilfmmjjiiabgaa.GzC
open Go.RowKit Go.My GzMath CrcMath Flt
open Go.My.NumMath (bytesOf)

set_option maxRecDepth 100000 in
set_option maxHeartbeats 8000000 in
theorem fields_law (a0 : Option Addr) (len0 cap0 : Nat) (ex : List UInt8) (N R : ByteArray) (by_ : Nat) (w : World)
    (h0 : Bytes w a0 len0 cap0 ex) (hN : N.size ≤ 9223372036854775807) (hR : R.size ≤ 9223372036854775807) (h3 : by_ < 256) :
    Calls Try.prog 4 #[.slice a0 len0 cap0, .string N, .string R, .int .u8 (by_ : Int)] w fun e w' => e = .returned (.bool true) ∧ Below w.heap.size w w' := by
  have HT := Lib.hid (fun w => told_any w)
  by_cases hbig : (100 < len0 ∨ 50 < N.size) ∨ 50 < R.size
  · have d0 : decide ((len0 : Int) > 100) = decide (100 < len0) := by apply decide_eq_decide.2; omega
    have d1 : decide ((N.size : Int) > 50) = decide (50 < N.size) := by apply decide_eq_decide.2; omega
    have d2 : decide ((R.size : Int) > 50) = decide (50 < R.size) := by apply decide_eq_decide.2; omega
    by_cases x0 : 100 < len0
    · clear hbig h0 d1 d2
      go_enter Try.func4, Try.ntmps4
      go_wp2_with fail
      refine (HT.out _).mono ?_
      rintro e w1 ⟨rfl, hb⟩
      have HB := Lib.hid hb
      clear hb
      go_wp2_with fail
      go_ret
      exact ⟨rfl, HB.out⟩
    · by_cases x1 : 50 < N.size
      · clear hbig h0 d2
        go_enter Try.func4, Try.ntmps4
        go_wp2_with fail
        refine (HT.out _).mono ?_
        rintro e w1 ⟨rfl, hb⟩
        have HB := Lib.hid hb
        clear hb
        go_wp2_with fail
        go_ret
        exact ⟨rfl, HB.out⟩
      · have x2 : 50 < R.size := by omega
        clear hbig h0
        go_enter Try.func4, Try.ntmps4
        go_wp2_with fail
        refine (HT.out _).mono ?_
        rintro e w1 ⟨rfl, hb⟩
        have HB := Lib.hid hb
        clear hb
        go_wp2_with fail
        go_ret
        exact ⟨rfl, HB.out⟩
  have x0 : ¬ 100 < len0 := by omega
  have x1 : ¬ 50 < N.size := by omega
  have x2 : ¬ 50 < R.size := by omega
  have d0 : decide ((len0 : Int) > 100) = false := by simp; omega
  have d1 : decide ((N.size : Int) > 50) = false := by simp; omega
  have d2 : decide ((R.size : Int) > 50) = false := by simp; omega
  have HI := Lib.hid h0
  clear h0 hbig
  go_enter Try.func4, Try.ntmps4
  go_wp2_with fail
  have hNRs : (N ++ R).size = N.size + R.size := by simp
  have hnl : (N ++ R).data.toList.length = N.size + R.size := by rw [Array.length_toList]; exact hNRs
  have y0 : ¬ 9223372036854775807 < N.size + R.size := by omega
  go_loop [9] (fun i => ∃ k : Nat, k ≤ N.size + R.size ∧ i = .int .i64 (k : Int) ∧ Hid (k ≤ zer (N ++ R).data.toList)) (fun i => N.size + R.size - (intOf i).toNat)
  case atStart => exact ⟨0, Nat.zero_le _, rfl, Lib.hid (Nat.zero_le _)⟩
  case round =>
    obtain ⟨k, hk, rfl, HZ⟩ := hrel
    have ew : IntKind.i64.wrap ((N.size : Int) + (R.size : Int)) = ((N.size + R.size : Nat) : Int) := by rw [IntWalk.i64_in _ (by omega)]; simp
    by_cases hlt : k < N.size + R.size
    · have hd : decide ((k : Int) < ((N.size + R.size : Nat) : Int)) = true := by simp; omega
      have hks : k < (N ++ R).size := by rw [hNRs]; exact hlt
      have hbx : ((N ++ R)[k]'hks) = (N ++ R).data.toList.getD k 0 := by
        rw [List.getD, List.getElem?_eq_getElem (by rw [hnl]; exact hlt)]
        rfl
      by_cases hz : (N ++ R).data.toList.getD k 0 = 0
      · have e1 : ((((N ++ R)[k]'hks).toNat : Int) == 0) = true := by rw [hbx, hz]; rfl
        clear hbx hz hnl
        go_wp2_with fail
        refine (HT.out _).mono ?_
        rintro e w1 ⟨rfl, hb⟩
        have HB := Lib.hid hb
        clear hb
        go_wp2_with fail
        go_ret
        exact ⟨rfl, HB.out⟩
      · have e1 : ((((N ++ R)[k]'hks).toNat : Int) == 0) = false := by
          rw [hbx]
          have : ((N ++ R).data.toList.getD k 0).toNat ≠ 0 := fun h => hz (UInt8.toNat_inj.1 (by rw [h]; rfl))
          simp only [beq_eq_false_iff_ne, ne_eq]
          omega
        have hzz : k + 1 ≤ zer (N ++ R).data.toList := by
          have := HZ.out
          by_cases h : k = zer (N ++ R).data.toList
          · exact absurd (by rw [h]; exact zer_zero _ (by omega)) hz
          · omega
        have HZZ := Lib.hid hzz
        clear hbx hz hzz hnl
        go_wp2_with fail
        go_round
        case rel => exact ⟨k + 1, by omega, by go_num, HZZ⟩
        case measure => simp [intOf]; omega
    · obtain rfl : k = N.size + R.size := by omega
      have hge : decide (((N.size + R.size : Nat) : Int) < ((N.size + R.size : Nat) : Int)) = false := by simp
      clear hk hlt
      obtain ⟨LB, hLB⟩ : ∃ LB : ByteArray, LB = ⟨(bytesOf false 2 len0).toArray⟩ := ⟨_, rfl⟩
      obtain ⟨EX, hEX⟩ : ∃ EX : ByteArray, EX = ⟨ex.toArray⟩ := ⟨_, rfl⟩
      have zl : LB.size = 2 := by rw [hLB]; simp [ByteArray.size, Go.My.NumMath.bytesOf_len]
      have hel := HI.out.len_eq
      have ze : EX.size = len0 := by rw [hEX]; simp [ByteArray.size, hel]
      have HBY := Lib.hid (fun w => NumC.bytes_any len0 2 false w (by omega) (by omega))
      rw [← hLB] at HBY
      have HEX := Lib.hid hEX
      have ul : IntKind.u64.wrap (len0 : Int) = (len0 : Int) := IntWalk.u64_in _ (by omega)
      have hcv : ∀ p : Later w, (convert 22 9 (.slice a0 len0 cap0)).run Try.prog p.at' = .ok (.string EX) p.at' := fun p => by
        rw [HEX.out]
        exact run_string_bytes _ 22 9 5 Try.underlying22 Try.underlying5 Try.underlying9 (HI.out.below (Nat.le_refl _) p.kept)
      have HLE := Lib.hid (And.intro hLB (And.intro hel (And.intro hnl HZ.out)))
      clear hLB hEX hel hnl HZ hge ew
      go_upto_region 8 with (fail)
      go_wp2_with (refine wp_region_later (by kernel_rfl) (by kernel_rfl) ?_)
      repeat (go_big_quiet_step (first | (go_at_call 13; first | (with_reducible exact later_of (HBY.out _)))))
      refine wpQuiet_nil ?_
      intro p
      obtain ⟨S, hS⟩ : ∃ S : ByteArray, S = ⟨#[31, 139, 8, 31, 5, 0, 0, 0, 2, 3]⟩ ++ LB ++ EX ++ N ++ ⟨#[0]⟩ ++ R ++ ⟨#[0]⟩ := ⟨_, rfl⟩
      have hSs : S.size = 14 + len0 + N.size + R.size := by
        rw [hS]
        simp only [ByteArray.size_append, zl, ze]
        rw [show (⟨#[31, 139, 8, 31, 5, 0, 0, 0, 2, 3]⟩ : ByteArray).size = 10 from rfl, show (⟨#[0]⟩ : ByteArray).size = 1 from rfl]
        omega
      have HSL : Hid (S.data.toList = fldS ex N.data.toList R.data.toList) := Lib.hid (by
        rw [hS, HEX.out, HLE.out.1, ← HLE.out.2.1]
        unfold fldS
        simp)
      rw [← hS]
      have HB0 := Lib.hid p.kept
      generalize p.at' = W0 at *
      clear hS hcv zl ze HEX HBY ul y0
      obtain ⟨c1, W1, hcv1, hby1, hbl1⟩ := str_bytes W0 S (by omega)
      obtain ⟨sm, hsm⟩ : ∃ sm, sm = (crc 0#32 (fldS ex N.data.toList R.data.toList)).toNat := ⟨_, rfl⟩
      have hsl : sm < 4294967296 := by rw [hsm]; exact (crc 0#32 _).isLt
      have hcrc : Calls Try.prog 14 #[.int .u32 0, .slice (some ⟨W0.heap.size, 0, none⟩) S.size c1] W1 fun e w' => e = .returned (.int .u32 (sm : Int)) ∧ W1 = w' := by
        have := CrcC.ref_bv 0#32 _ _ _ _ W1 hby1
        rw [HSL.out, ← hsm] at this
        exact this
      have HB1 := Lib.hid (HB0.out.trans (hbl1.mono HB0.out.size))
      have HCrc := Lib.hid hcrc
      have HSM := Lib.hid hsm
      have HSs := Lib.hid hSs
      clear hby1 hbl1 hcrc hsm HB0 hSs
      go_upto_region 9 with (fail)
      go_wp2_with (refine wpList_convert rfl 9 22 _ rfl (.string S) _ rfl hcv1 ?_; clear hcv1)
      refine HCrc.out.mono ?_
      rintro e w1 ⟨rfl, rfl⟩
      clear HCrc
      have us : IntKind.u64.wrap (sm : Int) = (sm : Int) := IntWalk.u64_in _ (by omega)
      obtain ⟨T, hT⟩ : ∃ T : ByteArray, T = ⟨(bytesOf false 2 sm).toArray⟩ := ⟨_, rfl⟩
      have hTs : T.size = 2 := by rw [hT]; simp [ByteArray.size, Go.My.NumMath.bytesOf_len]
      have HTL : Hid (T.data.toList = bytesOf false 2 sm) := Lib.hid (by rw [hT])
      have HBY := Lib.hid (fun w => NumC.bytes_any sm 2 false w (by omega) (by omega))
      rw [← hT] at HBY
      clear hT
      go_wp2_with fail
      refine (HBY.out _).mono ?_
      rintro e w2 ⟨rfl, hb2⟩
      have HB2 := Lib.hid (HB1.out.trans (hb2.mono HB1.out.size))
      clear hb2 HB1
      obtain ⟨S2, hS2⟩ : ∃ S2 : ByteArray, S2 = S ++ T ++ ⟨#[114, 101, 115, 116]⟩ := ⟨_, rfl⟩
      have hSs := HSs.out
      have hS2s : S2.size = S.size + 6 := by
        rw [hS2]
        simp only [ByteArray.size_append, hTs]
        rw [show (⟨#[114, 101, 115, 116]⟩ : ByteArray).size = 4 from rfl]
      obtain ⟨c3, W3, hcv3, hby3, hbl3⟩ := str_bytes w2 S2 (by omega)
      have HF : Hid (S2.data.toList = fldF ex N.data.toList R.data.toList (bytesOf false 2 sm) [114, 101, 115, 116]) := Lib.hid (by
        rw [fldF_eq, ← HSL.out, ← HTL.out, hS2]
        simp)
      have hcv4 : (convert 9 22 (.string (S ++ T ++ ⟨#[114, 101, 115, 116]⟩))).run Try.prog w2 = .ok (.slice (some ⟨w2.heap.size, 0, none⟩) S2.size c3) W3 := by rw [← hS2]; exact hcv3
      have hlenS : (fldS ex N.data.toList R.data.toList).length = S.size := by rw [← HSL.out, Array.length_toList]; rfl
      have hnz : (∀ c ∈ N.data.toList, c ≠ 0) ∧ (∀ c ∈ R.data.toList, c ≠ 0) := zer_all (by
        have h1 := HLE.out.2.2.2
        rw [show (N ++ R).data.toList = N.data.toList ++ R.data.toList by simp] at h1
        rw [Array.length_toList, Array.length_toList]
        exact h1)
      have hNl : N.data.toList.length ≤ 50 := by rw [Array.length_toList]; exact Nat.not_lt.1 x1
      have hRl : R.data.toList.length ≤ 50 := by rw [Array.length_toList]; exact Nat.not_lt.1 x2
      have hxl : ex.length ≤ 100 := by rw [HLE.out.2.1]; exact Nat.not_lt.1 x0
      have HRD : Hid (∀ (t r : List UInt8), t.length = 2 → ∀ k, k ≤ (fldF ex N.data.toList R.data.toList t r).length → rd ((fldF ex N.data.toList R.data.toList t r).take k) = if k < S.size + 2 then .bad 5 else if Go.My.NumMath.num false t ≠ sm % 65536 then .bad 2 else .ok ⟨true, N.data.toList, 5, S.size + 2⟩) := Lib.hid fun t r ht k hk => by
        have h := rd_fields t r hnz.1 hnz.2 hxl hNl hRl ht k hk
        rw [hlenS, ← HSM.out] at h
        exact h
      have hrd : rd S2.data.toList = .ok ⟨true, N.data.toList, 5, S.size + 2⟩ := by
        have h := HRD.out (bytesOf false 2 sm) [114, 101, 115, 116] (Go.My.NumMath.bytesOf_len _ _ _) _ (Nat.le_refl _)
        rw [List.take_length, ← HF.out] at h
        rw [h, if_neg (by rw [Array.length_toList]; show ¬ S2.size < _; omega), if_neg (by rw [num_bytes2]; simp)]
      have hread := read_any _ _ _ _ W3 hby3 (by omega)
      rw [hrd] at hread
      unfold readV headV at hread
      simp only at hread
      rw [show (⟨N.data.toList.toArray⟩ : ByteArray) = N by cases N; simp] at hread
      have HR3 := Lib.hid hread
      have HB3 := Lib.hid (HB2.out.trans (hbl3.mono HB2.out.size))
      have y1 : ¬ 9223372036854775807 < S.size + 2 := by omega
      have y2 : ¬ 9223372036854775807 < S.size + 2 + 4 := by omega
      clear hread hrd hcv3 hby3 hbl3 HF hlenS hnz hNl hRl hxl hS2 hSs hS2s HB2
      go_wp2_with fail
      refine HR3.out.mono ?_
      rintro e w4 ⟨rfl, hb4⟩
      have HB4 := Lib.hid (HB3.out.trans (hb4.mono HB3.out.size))
      clear hb4 HR3 HB3 hcv4
      go_upto_region 11 with (first
        | (refine wpList_store_row rfl _ _ _ rfl w4.heap.size _ rfl rfl 27 zeroC (heap_alloc_new w4 _) (by kernel_rfl) rfl (by simp [Value.oneCell']) ?_))
      obtain ⟨t5, ht5⟩ : ∃ t5, t5 = ClkC.fromU 5 := ⟨_, rfl⟩
      rw [← ht5]
      obtain ⟨g, hg⟩ : ∃ g, g = w4.heap.size := ⟨_, rfl⟩
      obtain ⟨w5, hw5⟩ : ∃ w5, w5 = (w4.alloc (.cells #[.bool false, .string ⟨#[]⟩, .float .f64 0] 27)).setRow w4.heap.size #[.bool true, .string N, .float .f64 t5] := ⟨_, rfl⟩
      rw [← hw5, ← hg]
      have hb5 : Below w4.heap.size w4 w5 := by rw [hw5]; exact below_setRow ((Below.refl _ _).alloc (Nat.le_refl _) _) (Nat.le_refl _) _
      have hk5 : Blk w5 g 27 #[.bool true, .string N, .float .f64 t5] := by rw [hw5, hg]; exact setRow_heap _ _ _ _ _ _ (heap_alloc_new w4 _)
      have d0 : w5.cell? ⟨g, 0, none⟩ = some (.bool true) := hk5.cell 0
      have d1 : w5.cell? ⟨g, 1, none⟩ = some (.string N) := hk5.cell 1
      have d2 : w5.cell? ⟨g, 2, none⟩ = some (.float .f64 t5) := hk5.cell 2
      have h5 : FloatKind.f64.format.order t5 4617315517961601024 = some .eq := by rw [ht5]; simpa using five
      have enn : (N.toList == N.toList) = true := by simp
      have ws : IntKind.i64.wrap ((S.size : Int) + 2) = (S.size : Int) + 2 := by
        have := HSs.out
        have := x1
        have := x2
        exact IntWalk.i64_in _ (by omega)
      have ess : (((S.size : Int) + 2) == ((S.size : Int) + 2)) = true := by simp
      have HB5 := Lib.hid (HB4.out.trans (hb5.mono HB4.out.size))
      clear hw5 hg hb5 hk5 ht5 HB4
      go_upto_region 13 with (fail)
      clear d0 d1 d2 h5 enn ess
      go_wp2_with fail
      go_loopw [15] (fun i wr => ∃ k : Nat, i = .int .i64 (k : Int) ∧ k ≤ S.size + 2 ∧ Hid (Below w.heap.size w wr)) (fun i _ => S.size + 2 - (intOf i).toNat)
      case atStart => exact ⟨0, rfl, Nat.zero_le _, HB5⟩
      case round =>
        obtain ⟨k, rfl, hk, HBR⟩ := hrel
        by_cases hlt : k < S.size + 2
        · have hd : decide ((k : Int) < (S.size : Int) + 2) = true := by simp; omega
          have HLT := Lib.hid hlt
          have hk9 : k ≤ 1000 := by have := HSs.out; omega
          clear hlt hk
          as_aux_lemma =>
            go_wp2_with fail
            refine (HBY.out _).mono ?_
            rintro e w6 ⟨rfl, hb6⟩
            have HB6 := Lib.hid (HBR.out.trans (hb6.mono HBR.out.size))
            clear hb6 HBR HBY HB5
            have hkI : (k : Int) ≤ (S.size : Int) + 2 := by have := HLT.out; omega
            have hkN : k ≤ S.size + 2 := by have := HLT.out; omega
            obtain ⟨X, hX⟩ : ∃ X : ByteArray, X = (S ++ T).extract 0 k := ⟨_, rfl⟩
            have hXs : X.size = k := by rw [hX]; simp [ByteArray.size_extract, ByteArray.size_append, hTs]; omega
            have HXL : Hid (X.data.toList = (fldF ex N.data.toList R.data.toList (bytesOf false 2 sm) []).take k) := Lib.hid (by
              rw [fldF_eq, ← HSL.out, ← HTL.out, hX]
              rw [List.append_nil, List.take_append, Array.length_toList]
              simp [List.extract_eq_take_drop])
            obtain ⟨c7, W7, hcv7, hby7, hbl7⟩ := str_bytes w6 X (by have := HSs.out; omega)
            have hrd : rd X.data.toList = .bad 5 := by
              have h := HRD.out (bytesOf false 2 sm) [] (Go.My.NumMath.bytesOf_len _ _ _) k (by
                rw [fldF_eq, ← HSL.out, List.length_append, Array.length_toList, List.append_nil, Go.My.NumMath.bytesOf_len]
                exact hkN)
              rw [HXL.out, h, if_pos HLT.out]
            have hread := read_any _ _ _ _ W7 hby7 (by have := HSs.out; omega)
            rw [hrd] at hread
            unfold readV headV at hread
            simp only at hread
            have HR7 := Lib.hid hread
            have HB7 := Lib.hid (HB6.out.trans (hbl7.mono HB6.out.size))
            have hcv8 : (convert 9 22 (.string ((S ++ T).extract 0 k))).run Try.prog w6 = .ok (.slice (some ⟨w6.heap.size, 0, none⟩) X.size c7) W7 := by rw [← hX]; exact hcv7
            clear hcv7 hby7 hbl7 hread hrd HXL hX hXs HB6
            go_wp2_with fail
            refine HR7.out.mono ?_
            rintro e w8 ⟨rfl, hb8⟩
            have HB8 := Lib.hid (HB7.out.trans (hb8.mono HB7.out.size))
            clear hb8 HR7 HB7 hcv8 hkI hkN
            go_wp2_with (first
              | (refine wpList_store_row rfl _ _ _ rfl w8.heap.size _ rfl rfl 27 zeroC (heap_alloc_new w8 _) (by kernel_rfl) rfl (by simp [Value.oneCell']) ?_))
            have HB9 := Lib.hid (HB8.out.trans ((below_setRow ((Below.refl w8.heap.size w8).alloc (Nat.le_refl _) (.cells #[.bool false, .string ⟨#[]⟩, .float .f64 0] 27)) (Nat.le_refl _) #[.bool false, .string ⟨#[]⟩, .float .f64 0]).mono HB8.out.size))
            go_roundw
            case rel => exact ⟨k + 1, by go_num, HLT.out, HB9⟩
            case measure =>
              have h1 := HLT.out
              simp [intOf]; omega
        · obtain rfl : k = S.size + 2 := by omega
          have hd : decide (((S.size + 2 : Nat) : Int) < (S.size : Int) + 2) = false := by simp
          clear hk hlt
          as_aux_lemma =>
            go_upto_region 20 with (fail)
            obtain ⟨T2, hT2⟩ : ∃ T2 : ByteArray, T2 = ⟨(bytesOf false 2 (sm ^^^ by_)).toArray⟩ := ⟨_, rfl⟩
            have hT2s : T2.size = 2 := by rw [hT2]; simp [ByteArray.size, Go.My.NumMath.bytesOf_len]
            have HT2 : Hid (T2.data.toList = bytesOf false 2 (sm ^^^ by_)) := Lib.hid (by rw [hT2])
            have HX2 := Lib.hid (fun w => NumC.bytes_any (sm ^^^ by_) 2 false w (by omega) (by omega))
            rw [← hT2] at HX2
            have hxo : bits .xor .u64 (sm : Int) (by_ : Int) = ((sm ^^^ by_ : Nat) : Int) := u64_xor_nat _ _ (by omega) (by omega)
            rw [hxo]
            refine (HX2.out _).mono ?_
            rintro e w6 ⟨rfl, hb6⟩
            have HB6 := Lib.hid (HBR.out.trans (hb6.mono HBR.out.size))
            clear hb6 HBR HBY HB5 hT2 HX2 hxo
            obtain ⟨X, hX⟩ : ∃ X : ByteArray, X = S ++ T2 := ⟨_, rfl⟩
            have hXs : X.size = S.size + 2 := by rw [hX]; simp [ByteArray.size_append, hT2s]
            have HXL : Hid (X.data.toList = fldF ex N.data.toList R.data.toList (bytesOf false 2 (sm ^^^ by_)) []) := Lib.hid (by
              rw [fldF_eq, ← HSL.out, ← HT2.out, hX]
              simp)
            obtain ⟨c7, W7, hcv7, hby7, hbl7⟩ := str_bytes w6 X (by have := HSs.out; omega)
            have hread := read_any _ _ _ _ W7 hby7 (by have := HSs.out; omega)
            have h := HRD.out (bytesOf false 2 (sm ^^^ by_)) [] (Go.My.NumMath.bytesOf_len _ _ _) _ (Nat.le_refl _)
            rw [List.take_length, ← HXL.out, if_neg (by rw [Array.length_toList]; show ¬ X.size < _; omega), num_bytes2] at h
            have HB7 := Lib.hid (HB6.out.trans (hbl7.mono HB6.out.size))
            have hcv8 : (convert 9 22 (.string (S ++ T2))).run Try.prog w6 = .ok (.slice (some ⟨w6.heap.size, 0, none⟩) X.size c7) W7 := by rw [← hX]; exact hcv7
            clear hcv7 hby7 hbl7 HXL hX hXs HB6
            by_cases hz : by_ = 0
            · rw [if_neg (by simp [(xor_by sm by_ h3).2 hz])] at h
              rw [h] at hread
              unfold readV headV at hread
              simp only at hread
              have HR7 := Lib.hid hread
              clear hread h
              go_wp2_with fail
              refine HR7.out.mono ?_
              rintro e w8 ⟨rfl, hb8⟩
              have HB8 := Lib.hid (HB7.out.trans (hb8.mono HB7.out.size))
              clear hb8 HR7 HB7 hcv8
              go_wp2_with (first
                | (refine wpList_store_row rfl _ _ _ rfl w8.heap.size _ rfl rfl 27 zeroC (heap_alloc_new w8 _) (by kernel_rfl) rfl (by simp [Value.oneCell']) ?_))
              refine (HT.out _).mono ?_
              rintro e w9 ⟨rfl, hb⟩
              have HB9 := Lib.hid ((HB8.out.trans ((below_setRow ((Below.refl w8.heap.size w8).alloc (Nat.le_refl _) (.cells #[.bool false, .string ⟨#[]⟩, .float .f64 0] 27)) (Nat.le_refl _) _).mono HB8.out.size)).trans (hb.mono (by simp [World.setRow]; have := HB8.out.size; omega)))
              clear hb
              go_wp2_with fail
              go_ret
              exact ⟨rfl, HB9.out⟩
            · rw [if_pos (fun e => hz ((xor_by sm by_ h3).1 e))] at h
              rw [h] at hread
              unfold readV headV at hread
              simp only at hread
              have HR7 := Lib.hid hread
              clear hread h
              go_wp2_with fail
              refine HR7.out.mono ?_
              rintro e w8 ⟨rfl, hb8⟩
              have HB8 := Lib.hid (HB7.out.trans (hb8.mono HB7.out.size))
              clear hb8 HR7 HB7 hcv8
              go_wp2_with (first
                | (refine wpList_store_row rfl _ _ _ rfl w8.heap.size _ rfl rfl 27 zeroC (heap_alloc_new w8 _) (by kernel_rfl) rfl (by simp [Value.oneCell']) ?_))
              refine (HT.out _).mono ?_
              rintro e w9 ⟨rfl, hb⟩
              have HB9 := Lib.hid ((HB8.out.trans ((below_setRow ((Below.refl w8.heap.size w8).alloc (Nat.le_refl _) (.cells #[.bool false, .string ⟨#[]⟩, .float .f64 0] 27)) (Nat.le_refl _) _).mono HB8.out.size)).trans (hb.mono (by simp [World.setRow]; have := HB8.out.size; omega)))
              clear hb
              go_wp2_with fail
              go_ret
              refine ⟨?_, HB9.out⟩
              show Ending.returned (Value.bool ((by_ : Int) != 0)) = Ending.returned (Value.bool true)
              rw [show ((by_ : Int) != 0) = true by simpa using hz]
end Go.Proofs.Ytilfmmjjiiabgaa.GzC
