import Derived.Test.YtilfmmjjiiabgaaNumA
namespace Go.Proofs.Ytilfmmjjiiabgaa.NumC
open Go.RowKit Go.My NumMath

theorem info5 : (Try.prog.info? 5).map (fun i => (i.zero, i.size, i.bytes)) = some (some (.int .u8 0), 1, 1) := by kernel_rfl

set_option maxRecDepth 100000 in
theorem apart_any (a : Option Addr) (len cap : Nat) (l : List UInt8) (w : World) (hb : Bytes w a len cap l) (hl : l.length ≤ 1000) :
    Calls Try.prog 36 #[.slice a len cap] w fun e w' => OwnRet 5 w l e w' := by
  have H := Lib.hid hb
  obtain rfl : len = l.length := hb.len_eq.symm
  clear hb
  go_enter Try.func36, Try.ntmps36
  go_wp2_with (at_make; refine wpList_make_cap _ rfl (.const (.int .i64 0)) (.tmp 5) 22 rfl w.heap.size 5 Try.underlying22 info5 .i64 .i64 _ (l.length + 8) rfl rfl (by omega) (by omega) (Nat.le_refl _) ?_)
  intro w1 hown hg
  have hb1 := grown_none_below (Below.refl w.heap.size w) hg (Nat.le_refl _)
  have H1 := Lib.hid (H.out.below (Nat.le_refl _) hb1)
  have HB := Lib.hid hb1
  have HO := Lib.hid hown
  clear hg hb1 hown
  go_wp2_with (at_builtin; refine wpList_append_bytes rfl (.tmp 6) (.tmp 7) 22 rfl w.heap.size 5 Try.underlying22 info5 _ [] rfl HO.out a l.length cap l rfl H1.out (by simp; omega) HB.out.size ?_)
  intro v' w2 hown hg
  have hb2 := grown_below HO.out HB.out hg HB.out.size
  clear hg
  go_wp2_with fail
  go_ret
  exact ⟨v', rfl, by simpa using hown, hb2⟩

theorem u8_of (v k : Nat) : IntKind.u8.wrap ((v / 2 ^ (8 * k) : Nat) : Int) = ((byteAt v k).toNat : Int) := by
  rw [byteAt_toNat, show (256 : Nat) = 2 ^ 8 from rfl, ← Nat.pow_mul]
  simp [IntKind.wrap, IntKind.bits, IntKind.signed]
theorem byte_val (v k : Nat) : IntKind.u8.wrap ((v : Int) / 2 ^ (8 * k)) = ((byteAt v k).toNat : Int) := by
  have h := u8_of v k
  rw [Int.natCast_ediv, Int.natCast_pow] at h
  rw [← h]
  rfl

set_option maxRecDepth 100000 in
set_option maxHeartbeats 1000000 in
theorem putlittle_any (a : Option Addr) (len cap : Nat) (l : List UInt8) (v n : Nat) (w : World) (hb : Bytes w a len cap l) (hl : l.length ≤ 1000) (h1 : 1 ≤ n) (h2 : n ≤ 8) :
    Calls Try.prog 24 #[.slice a len cap, .int .u64 (v : Int), .int .i64 (n : Int)] w fun e w' => OwnRet 5 w (l ++ bytesOf false n v) e w' := by
  go_enter Try.func24, Try.ntmps24
  go_wp2_with fail
  refine (apart_any a len cap l w hb hl).mono ?_
  rintro e w1 ⟨v1, rfl, ho, hw⟩
  have HO := Lib.hid ho
  have HW := Lib.hid hw
  clear ho hw hb
  go_wp2_with fail
  refine (fits_yes n _ (by omega) (by omega)).mono ?_
  rintro e w2 ⟨rfl, rfl⟩
  go_wp2_with fail
  go_loopw [0, 15] (fun b i wr => ∃ j : Nat, j ≤ n ∧ i = .int .i64 j ∧ Hid (Own 5 w.heap.size wr b (l ++ bytesTo false n v j)) ∧ Hid (Below w.heap.size w wr)) (fun _ i _ => n - (intOf i).toNat)
  case atStart => exact ⟨0, by omega, rfl, Lib.hid (by rw [bytesTo_zero, List.append_nil]; exact HO.out), HW⟩
  case round =>
    obtain ⟨j, hj, rfl, HO1, HB1⟩ := hrel
    by_cases hlt : j < n
    · have e := byte_val v j
      go_wp2_with (at_builtin; refine wpList_append_bytes rfl (.tmp 18) (.tmp 24) 22 rfl w.heap.size 5 Try.underlying22 info5 _ (l ++ bytesTo false n v j) rfl (HO1.out.below (Nat.le_refl _) ((Below.refl _ _).alloc (Nat.le_refl _) _)) (some ⟨wr.heap.size, 0, none⟩) 1 1 [byteAt v j] rfl (one_bytes _ _ _) (by simp [bytesTo_len]; omega) (by have := HB1.out.size; simp; omega) ?_)
      intro v' w2 hown hg
      have HO2 : Hid (Own 5 w.heap.size w2 v' (l ++ bytesTo false n v (j + 1))) := Lib.hid (by rw [bytesTo_succ]; simpa [List.append_assoc] using hown)
      have HB2 := Lib.hid (grown_below (HO1.out.below (Nat.le_refl _) ((Below.refl _ _).alloc (Nat.le_refl _) (.cells #[.int .u8 ((byteAt v j).toNat : Int)] 5))) (HB1.out.alloc HB1.out.size _) hg (by have := HB1.out.size; simp; omega))
      clear hown hg
      go_wp2_with fail
      go_roundw
      case rel => exact ⟨j + 1, by omega, by go_num, HO2, HB2⟩
      case measure => simp [intOf]; omega
    · obtain rfl : j = n := by omega
      go_wp2_with fail
      go_ret
      exact ⟨_, rfl, HO1.out, HB1.out⟩
set_option maxRecDepth 100000 in
set_option maxHeartbeats 1000000 in
theorem bytes_any (v n : Nat) (big : Bool) (w : World) (h1 : 1 ≤ n) (h2 : n ≤ 8) :
    Calls Try.prog 13 #[.int .u64 (v : Int), .int .i64 (n : Int), .bool big] w fun e w' => e = .returned (.string ⟨(bytesOf big n v).toArray⟩) ∧ Below w.heap.size w w' := by
  have d1 : decide ((n : Int) < 1) = false := by simp; omega
  have d8 : decide ((n : Int) > 8) = false := by simp; omega
  go_enter Try.func13, Try.ntmps13
  go_wp2_with fail
  clear d1 d8
  go_loopw [7, 8] (fun b i wr => ∃ j : Nat, j ≤ n ∧ i = .int .i64 j ∧ Hid (Own 5 w.heap.size wr b (bytesTo big n v j)) ∧ Hid (Below w.heap.size w wr)) (fun _ i _ => n - (intOf i).toNat)
  case atStart => exact ⟨0, by omega, rfl, Lib.hid (Own.nil _ _ _), Lib.hid (Below.refl _ _)⟩
  case round =>
    obtain ⟨j, hj, rfl, HO1, HB1⟩ := hrel
    by_cases hlt : j < n
    · cases big
      · have e := byte_val v j
        go_wp2_with (at_builtin; refine wpList_append_bytes rfl (.tmp 27) (.tmp 34) 22 rfl w.heap.size 5 Try.underlying22 info5 _ (bytesTo false n v j) rfl (HO1.out.below (Nat.le_refl _) ((Below.refl _ _).alloc (Nat.le_refl _) _)) (some ⟨wr.heap.size, 0, none⟩) 1 1 [byteAt v j] rfl (one_bytes _ _ _) (by simp [bytesTo_len]; omega) (by have := HB1.out.size; simp; omega) ?_)
        intro v' w2 hown hg
        have HO2 : Hid (Own 5 w.heap.size w2 v' (bytesTo false n v (j + 1))) := Lib.hid (by rw [bytesTo_succ]; simpa [List.append_assoc] using hown)
        have HB2 := Lib.hid (grown_below (HO1.out.below (Nat.le_refl _) ((Below.refl _ _).alloc (Nat.le_refl _) (.cells #[.int .u8 ((byteAt v j).toNat : Int)] 5))) (HB1.out.alloc HB1.out.size _) hg (by have := HB1.out.size; simp; omega))
        clear hown hg
        go_wp2_with fail
        go_roundw
        case rel => exact ⟨j + 1, by omega, by go_num, HO2, HB2⟩
        case measure => simp [intOf]; omega
      · have e := byte_val v (n - 1 - j)
        go_wp2_with (at_builtin; refine wpList_append_bytes rfl (.tmp 27) (.tmp 34) 22 rfl w.heap.size 5 Try.underlying22 info5 _ (bytesTo true n v j) rfl (HO1.out.below (Nat.le_refl _) ((Below.refl _ _).alloc (Nat.le_refl _) _)) (some ⟨wr.heap.size, 0, none⟩) 1 1 [byteAt v (n - 1 - j)] rfl (one_bytes _ _ _) (by simp [bytesTo_len]; omega) (by have := HB1.out.size; simp; omega) ?_)
        intro v' w2 hown hg
        have HO2 : Hid (Own 5 w.heap.size w2 v' (bytesTo true n v (j + 1))) := Lib.hid (by rw [bytesTo_succ]; simpa [List.append_assoc] using hown)
        have HB2 := Lib.hid (grown_below (HO1.out.below (Nat.le_refl _) ((Below.refl _ _).alloc (Nat.le_refl _) (.cells #[.int .u8 ((byteAt v (n - 1 - j)).toNat : Int)] 5))) (HB1.out.alloc HB1.out.size _) hg (by have := HB1.out.size; simp; omega))
        clear hown hg
        go_wp2_with fail
        go_roundw
        case rel => exact ⟨j + 1, by omega, by go_num, HO2, HB2⟩
        case measure => simp [intOf]; omega
    · obtain rfl : j = n := by omega
      obtain ⟨a1, c1, hv1, hb1⟩ := HO1.out.bytes
      subst hv1
      have k1 := run_string_bytes (P := Try.prog) wr 22 9 5 Try.underlying22 Try.underlying5 Try.underlying9 hb1
      clear hb1
      go_wp2_with fail
      go_ret
      exact ⟨rfl, HB1.out⟩
end Go.Proofs.Ytilfmmjjiiabgaa.NumC
