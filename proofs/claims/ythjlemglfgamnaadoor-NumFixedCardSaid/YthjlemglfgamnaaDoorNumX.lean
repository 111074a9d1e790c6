import Derived.Test.YthjlemglfgamnaaDoorNumW
namespace Go.Proofs.YthjlemglfgamnaaDoor.NumC
open Go.RowKit Go.My NumMath

theorem ch_oct (d : Nat) (h : d < 8) : ((ch d).toNat : Int) = 48 + (d : Int) := by
  unfold ch; rw [if_pos (by omega), UInt8.toNat_ofNat']; omega
theorem pow_zero_iff (v b k : Nat) (hb : 1 ≤ b) : v < b ^ k ↔ v / b ^ k = 0 := by
  have hp : 0 < b ^ k := Nat.pow_pos (by omega)
  constructor
  · intro h; exact Nat.div_eq_of_lt h
  · intro h
    have := (Nat.div_lt_iff_lt_mul (k := b ^ k) (x := v) (y := 1) hp).1 (by omega)
    omega
theorem i64_and7 (x : Nat) : bits .and .i64 (x : Int) 7 = ((x % 8 : Nat) : Int) := by
  rw [i64_and_mask (x : Int) 3 (by omega) 7 8 rfl rfl]; omega

set_option maxRecDepth 100000 in
theorem refputoctal_arg (v n : Int) (w : World) (h : n < 2 ∨ 32 < n) :
    Calls Tryd.prog 17 #[.int .i64 v, .int .i64 n] w fun e w' => e = .returned (.tuple #[.string ⟨#[]⟩, .int .i64 1]) ∧ w = w' := by
  by_cases h1 : n < 2
  · go_enter Tryd.func17, Tryd.ntmps17
    go_wp2_with fail
    go_ret2
    exact ⟨rfl, rfl⟩
  · have h8 : decide (n > 32) = true := by simp; omega
    go_enter Tryd.func17, Tryd.ntmps17
    go_wp2_with fail
    go_ret2
    exact ⟨rfl, rfl⟩
set_option maxRecDepth 100000 in
theorem refputoctal_range (v n : Int) (w : World) (h1 : 2 ≤ n) (h2 : n ≤ 32) (h : v < 0 ∨ 4611686018427387904 < v) :
    Calls Tryd.prog 17 #[.int .i64 v, .int .i64 n] w fun e w' => e = .returned (.tuple #[.string ⟨#[]⟩, .int .i64 7]) ∧ w = w' := by
  have d1 : decide (n < 2) = false := by simp; omega
  have d8 : decide (n > 32) = false := by simp; omega
  by_cases h3 : v < 0
  · go_enter Tryd.func17, Tryd.ntmps17
    go_wp2_with fail
    go_ret2
    exact ⟨rfl, rfl⟩
  · have e1 : decide (v < 0) = false := by simp; omega
    have e2 : decide (v > 4611686018427387904) = true := by simp; omega
    go_enter Tryd.func17, Tryd.ntmps17
    go_wp2_with fail
    go_ret2
    exact ⟨rfl, rfl⟩

set_option maxRecDepth 100000 in
set_option maxHeartbeats 4000000 in
theorem refputoctal_any (v n : Nat) (w : World) (h1 : 2 ≤ n) (h2 : n ≤ 32) (hv : v ≤ 4611686018427387904) :
    Calls Tryd.prog 17 #[.int .i64 (v : Int), .int .i64 (n : Int)] w fun e w' => e = .returned (.tuple #[.string (fieldS v n), .int .i64 ((fieldE v n : Nat) : Int)]) ∧ Below w.heap.size w w' := by
  have d1 : decide ((n : Int) < 2) = false := by simp; omega
  have d8 : decide ((n : Int) > 32) = false := by simp; omega
  have e1 : decide ((v : Int) < 0) = false := by simp
  have e2 : decide ((v : Int) > 4611686018427387904) = false := by simp; omega
  go_enter Tryd.func17, Tryd.ntmps17
  go_wp2_with fail
  clear d1 d8 e1 e2
  go_loopw [6, 7, 8] (fun sv xv i wr => ∃ (j x : Nat) (s : ByteArray), j ≤ n - 1 ∧ i = .int .i64 (j : Int) ∧ xv = .int .i64 (x : Int) ∧ x ≤ v ∧ sv = .string s ∧ Hid (x = v / 8 ^ j) ∧ Hid (s = ⟨(fix ch 8 j v ++ [0]).toArray⟩) ∧ Hid (Below w.heap.size w wr)) (fun _ _ i _ => n - 1 - (intOf i).toNat)
  case atStart => exact ⟨0, v, _, by omega, rfl, rfl, Nat.le_refl _, rfl, Lib.hid (by simp), Lib.hid rfl, Lib.hid (Below.refl _ _)⟩
  case round =>
    obtain ⟨j, x, s, hj, rfl, rfl, hxv, rfl, HX, HS, HB⟩ := hrel
    by_cases hlt : j < n - 1
    · obtain ⟨d, hd, hdx⟩ : ∃ d : Nat, d < 8 ∧ d = x % 8 := ⟨x % 8, Nat.mod_lt _ (by omega), rfl⟩
      have e := i64_and7 x
      rw [← hdx] at e
      have HD := Lib.hid hdx
      have hby := one_bytes 5 wr (ch d)
      rw [ch_oct d hd] at hby
      have k1 := run_string_bytes (P := Tryd.prog) _ 22 9 5 Tryd.underlying22 Tryd.underlying5 Tryd.underlying9 hby
      have hss : s.size ≤ 1000 := by rw [HS.out, Lib.size_eq]; simp [fix_len]; omega
      have hq : (⟨[ch d].toArray⟩ : ByteArray).size ≤ 1000 := by rw [Lib.size_eq]; simp
      have HS1 : Hid ((⟨[ch d].toArray⟩ : ByteArray) ++ s = ⟨(fix ch 8 (j + 1) v ++ [0]).toArray⟩) := Lib.hid (by
        rw [HS.out, ba_append, fix, ← HX.out, ← HD.out]; rfl)
      have HX1 : Hid (x / 8 = v / 8 ^ (j + 1)) := Lib.hid (by rw [HX.out, Nat.div_div_eq_div_mul, Nat.pow_succ])
      have HB1 : Hid (Below w.heap.size w (wr.alloc (.cells #[.int .u8 (48 + (d : Int))] 5))) := Lib.hid (HB.out.alloc HB.out.size _)
      clear hdx hby
      generalize (⟨[ch d].toArray⟩ : ByteArray) = q at *
      go_wp2_with fail
      go_roundw
      case rel => exact ⟨j + 1, x / 8, q ++ s, by omega, by go_num, by go_num, by omega, rfl, HX1, HS1, HB1⟩
      case measure => simp [intOf]; omega
    · obtain rfl : j = n - 1 := by omega
      have hx := pow_zero_iff v 8 (n - 1) (by omega)
      rw [← HX.out] at hx
      by_cases h0 : x = 0
      · have HS1 : Hid (fieldS v n = s) := Lib.hid (by rw [HS.out]; exact if_pos (hx.2 h0))
        have HE : Hid (fieldE v n = 0) := Lib.hid (if_pos (hx.2 h0))
        clear hx
        subst h0
        go_wp2_with fail
        go_ret2
        exact ⟨ret_se HS1.out.symm (by rw [HE.out]; rfl), HB.out⟩
      · have HS1 : Hid (fieldS v n = markS v n) := Lib.hid (if_neg (fun h => h0 (hx.1 h)))
        have HE : Hid (fieldE v n = markE v n) := Lib.hid (if_neg (fun h => h0 (hx.1 h)))
        have hx0 : 0 < x := by omega
        clear hx h0 HX HS
        go_wp2_with (at_make; refine wpList_make_bytes _ rfl (.tmp 43) (.tmp 43) 22 rfl w.heap.size 5 Tryd.underlying22 info5 .i64 .i64 n rfl rfl (by omega) HB.out.size ?_)
        intro w1 hown hg
        have hb1 := grown_none_below HB.out hg HB.out.size
        have HB1 := Lib.hid hb1
        have hf0 : List.replicate n (0 : UInt8) = field 0 n 0 v := by
          unfold field
          obtain ⟨m, rfl⟩ : ∃ m, n = m + 1 := ⟨n - 1, by omega⟩
          simp [List.replicate_succ, fix]
        have HO1 : Hid (Own 5 w.heap.size w1 (.slice (some ⟨wr.heap.size, 0, none⟩) n n) (field 0 n 0 v)) := Lib.hid (by rw [← hf0]; exact hown)
        have HG : Hid (w.heap.size ≤ wr.heap.size) := Lib.hid HB.out.size
        clear hown hg hb1 hf0 HB hx0 hxv
        go_wp2_with fail
        generalize wr.heap.size = g at *
        go_loopw [7, 10] (fun xv i wr => ∃ (j p x : Nat), p + j ≤ n - 1 ∧ n - 1 ≤ p + j ∧ i = .int .i64 (p : Int) ∧ xv = .int .i64 (x : Int) ∧ x ≤ v ∧ Hid (x = v / 256 ^ j) ∧ Hid (Own 5 w.heap.size wr (.slice (some ⟨g, 0, none⟩) n n) (field 0 n j v)) ∧ Hid (Below w.heap.size w wr)) (fun _ i _ => (intOf i).toNat)
        case atStart => exact ⟨0, n - 1, v, by omega, by omega, by go_num, rfl, Nat.le_refl _, Lib.hid (by simp), HO1, HB1⟩
        case round =>
          clear HO1 HB1
          obtain ⟨j, p, x, hp1, hp2, rfl, rfl, hxv, HX, HO, HB⟩ := hrel
          have HL : Hid ((field 0 n j v).length = n) := Lib.hid (field_len _ _ _ _ (by omega) (by omega))
          by_cases hlt : 0 < p
          · have hcell := own_cell HO.out HL.out p (by rw [HL.out]; omega)
            have hfree := own_free HO.out HL.out p
            generalize bv ((field 0 n j v)[p]'(by rw [HL.out]; omega)) = old at hcell
            have e := u8_wrap x
            have HO2 : Hid (Own 5 w.heap.size (wr.setCell ⟨g, p, none⟩ (.int .u8 ((bch (x % 256)).toNat : Int))) (.slice (some ⟨g, 0, none⟩) n n) (field 0 n (j + 1) v)) := Lib.hid (by
              rw [← field_set 0 n j v (by omega), ← HX.out, show n - 1 - j = p from by omega]
              exact own_store HO.out HL.out p _)
            have HB2 : Hid (Below w.heap.size w (wr.setCell ⟨g, p, none⟩ (.int .u8 ((bch (x % 256)).toNat : Int)))) := Lib.hid (HB.out.setCell (p := ⟨g, p, none⟩) HG.out _)
            have HX1 : Hid (x / 256 = v / 256 ^ (j + 1)) := Lib.hid (by rw [HX.out, Nat.div_div_eq_div_mul, Nat.pow_succ])
            go_wp2_with fail
            go_roundw
            case rel => exact ⟨j + 1, p - 1, x / 256, by omega, by omega, by go_num, by go_num, by omega, HX1, HO2, HB2⟩
            case measure => simp [intOf]; omega
          · obtain rfl : p = 0 := by omega
            obtain rfl : j = n - 1 := by omega
            have hx := pow_zero_iff v 256 (n - 1) (by omega)
            rw [← HX.out] at hx
            by_cases h0 : x = 0
            · have HS2 : Hid (markS v n = ⟨(128 :: fix bch 256 (n - 1) v).toArray⟩) := Lib.hid (if_pos (hx.2 h0))
              have HE2 : Hid (markE v n = 0) := Lib.hid (if_pos (hx.2 h0))
              have hcell := own_cell HO.out HL.out 0 (by rw [HL.out]; omega)
              have hfree := own_free HO.out HL.out 0
              generalize bv ((field 0 n (n - 1) v)[0]'(by rw [HL.out]; omega)) = old at hcell
              have ho := own_store HO.out HL.out 0 128
              rw [show (field 0 n (n - 1) v).set 0 128 = 128 :: fix bch 256 (n - 1) v from by rw [field_done]; rfl] at ho
              have HB2 : Hid (Below w.heap.size w (wr.setCell ⟨g, 0, none⟩ (.int .u8 128))) := Lib.hid (HB.out.setCell (p := ⟨g, 0, none⟩) HG.out _)
              obtain ⟨a1, c1, hv1, hby⟩ := ho.bytes
              rw [show (128 :: fix bch 256 (n - 1) v).length = n from by simp [fix_len]; omega] at hv1 hby
              simp only [Value.slice.injEq, true_and] at hv1
              obtain ⟨rfl, rfl⟩ := hv1
              have k1 := run_string_bytes (P := Tryd.prog) _ 22 9 5 Tryd.underlying22 Tryd.underlying5 Tryd.underlying9 hby
              rw [show bv 128 = .int .u8 128 from rfl] at k1
              clear ho hby hx
              subst h0
              generalize (⟨(128 :: fix bch 256 (n - 1) v).toArray⟩ : ByteArray) = r at *
              go_wp2_with fail
              go_ret2
              exact ⟨ret_se (by rw [HS1.out, HS2.out]) (by rw [HE.out, HE2.out]; rfl), HB2.out⟩
            · have HS2 : Hid (markS v n = ⟨#[]⟩) := Lib.hid (if_neg (fun h => h0 (hx.1 h)))
              have HE2 : Hid (markE v n = 7) := Lib.hid (if_neg (fun h => h0 (hx.1 h)))
              have hx0 : ((x : Int) != 0) = true := by simp; omega
              clear hx h0
              go_wp2_with fail
              go_ret2
              exact ⟨ret_se (by rw [HS1.out, HS2.out]) (by rw [HE.out, HE2.out]; rfl), HB.out⟩
end Go.Proofs.YthjlemglfgamnaaDoor.NumC
