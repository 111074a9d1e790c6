import Derived.Test.YthjlemglfgamnaaDoorNumN
import Derived.Test.YthjlemglfgamnaaDoorNumR
import Derived.Test.YthjlemglfgamnaaDoorNumP
namespace Go.Proofs.YthjlemglfgamnaaDoor.NumC
open Go.RowKit Go.My NumMath

/-- The last sentence of the law. -/
theorem back_why (v n : Int) (pe he : Nat) (hp : pe = pE v n) (hh : he = hE v) :
    (pe = 0 ∨ (n < 2 ∨ 32 < n ∨ v < 0 ∨ 4611686018427387904 < v ∨ n < 9)) ∧ (he = 0 ∧ 0 ≤ v ∧ v < 4294967296 ∨ he ≠ 0 ∧ (v < 0 ∨ 4294967296 ≤ v)) := by
  subst hp hh
  refine ⟨?_, ?_⟩
  · by_cases h : pE v n = 0
    · exact .inl h
    · exact .inr (pwhy v n h)
  · by_cases h : hE v = 0
    · exact .inl ⟨h, (hback v h).2.2⟩
    · exact .inr ⟨h, hwhy v h⟩

theorem mask_u64 (u k : Nat) (hu : u < 18446744073709551616) (hk : k < 8) : bits .and .u64 (u : Int) (IntKind.u64.wrap (IntKind.u64.wrap (2 ^ (8 * k)) - 1)) = ((u % 256 ^ k : Nat) : Int) := by
  have e8 : (256 : Nat) ^ k = 2 ^ (8 * k) := by rw [show (256 : Nat) = 2 ^ 8 from rfl, ← Nat.pow_mul]
  have hle : (2 : Nat) ^ (8 * k) ≤ 2 ^ 56 := Nat.pow_le_pow_right (by omega) (by omega)
  have hp : 0 < (2 : Nat) ^ (8 * k) := Nat.two_pow_pos _
  have ep : ((2 : Int) ^ (8 * k)) = ((2 ^ (8 * k) : Nat) : Int) := by rw [Int.natCast_pow]; rfl
  have i1 : IntKind.u64.wrap ((2 ^ (8 * k) : Nat) : Int) = ((2 ^ (8 * k) : Nat) : Int) := by rw [IntKind.wrap_u64, Int.emod_eq_of_lt (by omega) (by omega)]
  rw [ep, i1, show ((2 ^ (8 * k) : Nat) : Int) - 1 = ((2 ^ (8 * k) - 1 : Nat) : Int) from by omega]
  rw [IntKind.wrap_u64, Int.emod_eq_of_lt (by omega) (by omega), u64_and_nat _ _ hu (by omega), Nat.and_two_pow_sub_one_eq_mod, e8]

/-- A slice that holds just these bytes. -/
def SlRet (w : World) (n : Nat) (l : List UInt8) (e : Ending) (w' : World) : Prop := ∃ b off c, e = .returned (.slice (some ⟨b, off, none⟩) n c) ∧ Bytes w' (some ⟨b, off, none⟩) n c l ∧ Below w.heap.size w w'
theorem ownret_sl {E : TypeId} {w : World} {l : List UInt8} {e : Ending} {w' : World} (h : OwnRet E w l e w') (n : Nat) (hn : l.length = n) (hp : 0 < n) : SlRet w n l e w' := by
  obtain ⟨v, rfl, ho, hb⟩ := h
  obtain ⟨a, c, rfl, hby⟩ := ho.bytes
  obtain ⟨b, off, rfl⟩ := hby.some_ (by omega)
  subst hn
  exact ⟨b, off, c, rfl, hby, hb⟩
theorem putlittle_back (u k : Nat) (w : World) (h1 : 1 ≤ k) (h2 : k ≤ 8) :
    Calls Tryd.prog 11 #[.slice none 0 0, .int .u64 (u : Int), .int .i64 (k : Int)] w fun e w' => SlRet w k (bytesOf false k u) e w' :=
  (putlittle_any none 0 0 [] u k w (nil_bytes _) (by simp) h1 h2).mono fun e w' h => ownret_sl (l := bytesOf false k u) h k (bytesOf_len _ _ _) (by omega)
theorem putbig_back (b u k : Nat) (w : World) (hb : Bytes w (some ⟨b, 0, none⟩) 1 1 [9]) (h1 : 1 ≤ k) (h2 : k ≤ 8) :
    Calls Tryd.prog 13 #[.slice (some ⟨b, 0, none⟩) 1 1, .int .u64 (u : Int), .int .i64 (k : Int)] w fun e w' => SlRet w (k + 1) (9 :: bytesOf true k u) e w' :=
  (putbig_any _ 1 1 [9] u k w hb (by simp) h1 h2).mono fun e w' h => ownret_sl (l := 9 :: bytesOf true k u) h (k + 1) (by simp [bytesOf_len]) (by omega)
theorem little_back (b off c k u m : Nat) (w : World) (hb : Bytes w (some ⟨b, off, none⟩) k c (bytesOf false k u)) (h1 : 1 ≤ k) (h2 : k ≤ 8) (hm : m = u % 256 ^ k) :
    Calls Tryd.prog 8 #[.slice (some ⟨b, off, none⟩) k c, .int .i64 0, .int .i64 (k : Int)] w fun e w' => e = .returned (.tuple #[.int .u64 (m : Int), .int .i64 0]) ∧ Below w.heap.size w w' := by
  have h := little_ok b off k c 0 k (bytesOf false k u) w hb h1 h2 (by omega)
  rw [List.drop_zero, List.take_of_length_le (by rw [bytesOf_len]; omega), num_bytes, ← hm] at h
  exact h
theorem big_back (b off c k u m : Nat) (w : World) (hb : Bytes w (some ⟨b, off, none⟩) (k + 1) c (9 :: bytesOf true k u)) (h1 : 1 ≤ k) (h2 : k ≤ 8) (hm : m = u % 256 ^ k) :
    Calls Tryd.prog 10 #[.slice (some ⟨b, off, none⟩) (k + 1) c, .int .i64 1, .int .i64 (k : Int)] w fun e w' => e = .returned (.tuple #[.int .u64 (m : Int), .int .i64 0]) ∧ Below w.heap.size w w' := by
  have h := big_ok b off (k + 1) c 1 k (9 :: bytesOf true k u) w hb h1 h2 (by omega)
  rw [show ((9 :: bytesOf true k u).drop 1).take k = bytesOf true k u from by
    rw [List.drop_succ_cons, List.drop_zero, List.take_of_length_le (by rw [bytesOf_len]; omega)], num_bytes, ← hm] at h
  exact h

set_option maxRecDepth 100000 in
set_option maxHeartbeats 8000000 in
theorem back_law (v n : Int) (u : Nat) (w : World) (hu : u < 18446744073709551616) (hT : Tab w) :
    Calls Tryd.prog 6 #[.int .i64 v, .int .i64 n, .int .u64 (u : Int)] w fun e w' => e = .returned (.bool true) ∧ Below w.heap.size w w' := by
  have HT := Lib.hid hT
  clear hT
  obtain ⟨pe, hpe⟩ : ∃ pe, pe = pE v n := ⟨_, rfl⟩
  obtain ⟨he, hhe⟩ : ∃ he, he = hE v := ⟨_, rfl⟩
  have HW := Lib.hid (back_why v n pe he hpe hhe)
  have cp := fun w hT => putoctal_all v n w hT
  rw [← hpe] at cp
  have ch := fun w hT => puthex_all v w hT
  rw [← hhe] at ch
  have CP := Lib.hid cp
  have CH := Lib.hid ch
  have PB : Hid (pe = 0 → octE (pS v n).data.toList = 0 ∧ ((octV (pS v n).data.toList : Nat) : Int) = v ∧ ((pS v n).size : Int) = n ∧ (pS v n).size ≤ 1000000) := Lib.hid (fun h => pback v n (hpe ▸ h))
  have HBK : Hid (he = 0 → hexE (hS v).data.toList = 0 ∧ ((hexV (hS v).data.toList : Nat) : Int) = v ∧ 0 ≤ v ∧ v < 4294967296) := Lib.hid (fun h => hback v (hhe ▸ h))
  clear cp ch hpe hhe
  generalize pS v n = ps at *
  generalize hS v = hs at *
  go_enter Tryd.func6, Tryd.ntmps6
  go_wp2_with fail
  refine (CP.out w HT.out).mono ?_
  rintro e w1 ⟨rfl, b1⟩
  have HT1 := Lib.hid (HT.out.below (Nat.le_refl _) b1)
  have B1 := Lib.hid b1
  clear b1
  by_cases hp0 : pe = 0
  · obtain ⟨q1, q2, q3, q4⟩ := PB.out hp0
    subst hp0
    have c := fun w => octal_any ps w q4
    rw [q1, q2] at c
    have C := Lib.hid c
    clear c q1 q2
    go_wp2_with fail
    refine (C.out w1).mono ?_
    rintro e wa ⟨rfl, b2⟩
    have HTA := Lib.hid (HT1.out.below (Nat.le_refl _) b2)
    have BA := Lib.hid (B1.out.trans (b2.mono B1.out.size))
    clear b2 HT1 B1 C
    go_wp2_with fail
    clear q3 q4
    refine (CH.out wa HTA.out).mono ?_
    rintro e wb ⟨rfl, b3⟩
    have HTB := Lib.hid (HTA.out.below (Nat.le_refl _) b3)
    have BB := Lib.hid (BA.out.trans (b3.mono BA.out.size))
    clear b3 HTA BA
    by_cases hh0 : he = 0
    · obtain ⟨r1, r2, r3, r4⟩ := HBK.out hh0
      subst hh0
      have c := fun w => hex_any hs w
      rw [r1, r2] at c
      have C := Lib.hid c
      clear c r1 r2
      go_wp2_with fail
      refine (C.out wb).mono ?_
      rintro e wc ⟨rfl, b4⟩
      have HTC := Lib.hid (HTB.out.below (Nat.le_refl _) b4)
      have BC := Lib.hid (BB.out.trans (b4.mono BB.out.size))
      clear b4 HTB BB C
      go_wp2_with fail
      go_loopw [15] (fun i wr => ∃ k : Nat, 1 ≤ k ∧ k ≤ 9 ∧ i = .int .i64 (k : Int) ∧ Hid (Tab wr) ∧ Hid (Below w.heap.size w wr)) (fun i _ => 9 - (intOf i).toNat)
      case atStart => exact ⟨1, by omega, by omega, rfl, HTC, BC⟩
      case round =>
        clear HTC BC
        obtain ⟨k, hk1, hk2, rfl, HTR, BR⟩ := hrel
        by_cases hlt : k ≤ 8
        · obtain ⟨m, hm⟩ : ∃ m, m = u % 256 ^ k := ⟨_, rfl⟩
          have HM := Lib.hid hm
          have h88 : k < 8 ∧ bits .and .u64 (u : Int) (IntKind.u64.wrap (IntKind.u64.wrap (2 ^ (8 * k)) - 1)) = (m : Int) ∨ k = 8 ∧ u = m := by
            by_cases h8 : k < 8
            · exact .inl ⟨h8, by rw [mask_u64 u k hu h8, hm]⟩
            · obtain rfl : k = 8 := by omega
              exact .inr ⟨rfl, by rw [hm]; omega⟩
          clear hm
          rcases h88 with ⟨h8, em⟩ | ⟨h8, em⟩
          · go_wp2_with fail
            refine (putlittle_back u k wr hk1 hlt).mono ?_
            rintro e x1 ⟨b1, o1, c1, rfl, hy1, hb1⟩
            have HY1 := Lib.hid hy1
            have HB1 := Lib.hid (BR.out.trans (hb1.mono BR.out.size))
            have HT1 := Lib.hid (HTR.out.below (Nat.le_refl _) hb1)
            clear hy1 hb1
            go_wp2_with fail
            refine (little_back b1 o1 c1 k u m x1 HY1.out hk1 hlt HM.out).mono ?_
            rintro e x2 ⟨rfl, hb2⟩
            have HB2 := Lib.hid (HB1.out.trans (hb2.mono HB1.out.size))
            have HT2 := Lib.hid (HT1.out.below (Nat.le_refl _) hb2)
            clear hb2 HY1 HB1 HT1
            go_wp2_with fail
            have hnine := one_bytes 5 x2 9
            refine (putbig_back x2.heap.size u k _ hnine hk1 hlt).mono ?_
            rintro e x3 ⟨b3, o3, c3, rfl, hy3, hb3⟩
            have hb2' := (Below.refl x2.heap.size x2).alloc (Nat.le_refl _) (.cells #[.int .u8 9] 5)
            have hb3' := hb2'.trans (hb3.mono hb2'.size)
            have HY3 := Lib.hid hy3
            have HB3 := Lib.hid (HB2.out.trans (hb3'.mono HB2.out.size))
            have HT3 := Lib.hid (HT2.out.below (Nat.le_refl _) hb3')
            clear hy3 hb3 hb2' hb3' hnine HB2 HT2
            go_wp2_with fail
            refine (big_back b3 o3 c3 k u m x3 HY3.out hk1 hlt HM.out).mono ?_
            rintro e x4 ⟨rfl, hb4⟩
            have HB4 := Lib.hid (HB3.out.trans (hb4.mono HB3.out.size))
            have HT4 := Lib.hid (HT3.out.below (Nat.le_refl _) hb4)
            clear hb4 HY3 HB3 HT3
            go_wp2_with fail
            go_roundw
            case rel => exact ⟨k + 1, by omega, by omega, by go_num, HT4, HB4⟩
            case measure => simp [intOf]; omega
          · subst h8
            subst em
            go_wp2_with fail
            refine (putlittle_back u 8 wr hk1 hlt).mono ?_
            rintro e x1 ⟨b1, o1, c1, rfl, hy1, hb1⟩
            have HY1 := Lib.hid hy1
            have HB1 := Lib.hid (BR.out.trans (hb1.mono BR.out.size))
            have HT1 := Lib.hid (HTR.out.below (Nat.le_refl _) hb1)
            clear hy1 hb1
            go_wp2_with fail
            refine (little_back b1 o1 c1 8 u u x1 HY1.out hk1 hlt HM.out).mono ?_
            rintro e x2 ⟨rfl, hb2⟩
            have HB2 := Lib.hid (HB1.out.trans (hb2.mono HB1.out.size))
            have HT2 := Lib.hid (HT1.out.below (Nat.le_refl _) hb2)
            clear hb2 HY1 HB1 HT1
            go_wp2_with fail
            have hnine := one_bytes 5 x2 9
            refine (putbig_back x2.heap.size u 8 _ hnine hk1 hlt).mono ?_
            rintro e x3 ⟨b3, o3, c3, rfl, hy3, hb3⟩
            have hb2' := (Below.refl x2.heap.size x2).alloc (Nat.le_refl _) (.cells #[.int .u8 9] 5)
            have hb3' := hb2'.trans (hb3.mono hb2'.size)
            have HY3 := Lib.hid hy3
            have HB3 := Lib.hid (HB2.out.trans (hb3'.mono HB2.out.size))
            have HT3 := Lib.hid (HT2.out.below (Nat.le_refl _) hb3')
            clear hy3 hb3 hb2' hb3' hnine HB2 HT2
            go_wp2_with fail
            refine (big_back b3 o3 c3 8 u u x3 HY3.out hk1 hlt HM.out).mono ?_
            rintro e x4 ⟨rfl, hb4⟩
            have HB4 := Lib.hid (HB3.out.trans (hb4.mono HB3.out.size))
            have HT4 := Lib.hid (HT3.out.below (Nat.le_refl _) hb4)
            clear hb4 HY3 HB3 HT3
            go_wp2_with fail
            go_roundw
            case rel => exact ⟨9, by omega, by omega, by go_num, HT4, HB4⟩
            case measure => simp [intOf]
        · obtain rfl : k = 9 := by omega
          have HWB := HW
          clear HW
          go_wp2_with fail
          refine (told_any _ HTR.out).mono ?_
          rintro e wz ⟨rfl, bz⟩
          have BZ := Lib.hid (BR.out.trans (bz.mono BR.out.size))
          clear bz
          go_wp2_with fail
          go_ret
          exact ⟨rfl, BZ.out⟩
    · have hhz : ((he : Int) == 0) = false := by simp; omega
      have HTC := HTB
      have BC := BB
      clear HTB BB
      go_wp2_with fail
      go_loopw [15] (fun i wr => ∃ k : Nat, 1 ≤ k ∧ k ≤ 9 ∧ i = .int .i64 (k : Int) ∧ Hid (Tab wr) ∧ Hid (Below w.heap.size w wr)) (fun i _ => 9 - (intOf i).toNat)
      case atStart => exact ⟨1, by omega, by omega, rfl, HTC, BC⟩
      case round =>
        clear HTC BC
        obtain ⟨k, hk1, hk2, rfl, HTR, BR⟩ := hrel
        by_cases hlt : k ≤ 8
        · obtain ⟨m, hm⟩ : ∃ m, m = u % 256 ^ k := ⟨_, rfl⟩
          have HM := Lib.hid hm
          have h88 : k < 8 ∧ bits .and .u64 (u : Int) (IntKind.u64.wrap (IntKind.u64.wrap (2 ^ (8 * k)) - 1)) = (m : Int) ∨ k = 8 ∧ u = m := by
            by_cases h8 : k < 8
            · exact .inl ⟨h8, by rw [mask_u64 u k hu h8, hm]⟩
            · obtain rfl : k = 8 := by omega
              exact .inr ⟨rfl, by rw [hm]; omega⟩
          clear hm
          rcases h88 with ⟨h8, em⟩ | ⟨h8, em⟩
          · go_wp2_with fail
            refine (putlittle_back u k wr hk1 hlt).mono ?_
            rintro e x1 ⟨b1, o1, c1, rfl, hy1, hb1⟩
            have HY1 := Lib.hid hy1
            have HB1 := Lib.hid (BR.out.trans (hb1.mono BR.out.size))
            have HT1 := Lib.hid (HTR.out.below (Nat.le_refl _) hb1)
            clear hy1 hb1
            go_wp2_with fail
            refine (little_back b1 o1 c1 k u m x1 HY1.out hk1 hlt HM.out).mono ?_
            rintro e x2 ⟨rfl, hb2⟩
            have HB2 := Lib.hid (HB1.out.trans (hb2.mono HB1.out.size))
            have HT2 := Lib.hid (HT1.out.below (Nat.le_refl _) hb2)
            clear hb2 HY1 HB1 HT1
            go_wp2_with fail
            have hnine := one_bytes 5 x2 9
            refine (putbig_back x2.heap.size u k _ hnine hk1 hlt).mono ?_
            rintro e x3 ⟨b3, o3, c3, rfl, hy3, hb3⟩
            have hb2' := (Below.refl x2.heap.size x2).alloc (Nat.le_refl _) (.cells #[.int .u8 9] 5)
            have hb3' := hb2'.trans (hb3.mono hb2'.size)
            have HY3 := Lib.hid hy3
            have HB3 := Lib.hid (HB2.out.trans (hb3'.mono HB2.out.size))
            have HT3 := Lib.hid (HT2.out.below (Nat.le_refl _) hb3')
            clear hy3 hb3 hb2' hb3' hnine HB2 HT2
            go_wp2_with fail
            refine (big_back b3 o3 c3 k u m x3 HY3.out hk1 hlt HM.out).mono ?_
            rintro e x4 ⟨rfl, hb4⟩
            have HB4 := Lib.hid (HB3.out.trans (hb4.mono HB3.out.size))
            have HT4 := Lib.hid (HT3.out.below (Nat.le_refl _) hb4)
            clear hb4 HY3 HB3 HT3
            go_wp2_with fail
            go_roundw
            case rel => exact ⟨k + 1, by omega, by omega, by go_num, HT4, HB4⟩
            case measure => simp [intOf]; omega
          · subst h8
            subst em
            go_wp2_with fail
            refine (putlittle_back u 8 wr hk1 hlt).mono ?_
            rintro e x1 ⟨b1, o1, c1, rfl, hy1, hb1⟩
            have HY1 := Lib.hid hy1
            have HB1 := Lib.hid (BR.out.trans (hb1.mono BR.out.size))
            have HT1 := Lib.hid (HTR.out.below (Nat.le_refl _) hb1)
            clear hy1 hb1
            go_wp2_with fail
            refine (little_back b1 o1 c1 8 u u x1 HY1.out hk1 hlt HM.out).mono ?_
            rintro e x2 ⟨rfl, hb2⟩
            have HB2 := Lib.hid (HB1.out.trans (hb2.mono HB1.out.size))
            have HT2 := Lib.hid (HT1.out.below (Nat.le_refl _) hb2)
            clear hb2 HY1 HB1 HT1
            go_wp2_with fail
            have hnine := one_bytes 5 x2 9
            refine (putbig_back x2.heap.size u 8 _ hnine hk1 hlt).mono ?_
            rintro e x3 ⟨b3, o3, c3, rfl, hy3, hb3⟩
            have hb2' := (Below.refl x2.heap.size x2).alloc (Nat.le_refl _) (.cells #[.int .u8 9] 5)
            have hb3' := hb2'.trans (hb3.mono hb2'.size)
            have HY3 := Lib.hid hy3
            have HB3 := Lib.hid (HB2.out.trans (hb3'.mono HB2.out.size))
            have HT3 := Lib.hid (HT2.out.below (Nat.le_refl _) hb3')
            clear hy3 hb3 hb2' hb3' hnine HB2 HT2
            go_wp2_with fail
            refine (big_back b3 o3 c3 8 u u x3 HY3.out hk1 hlt HM.out).mono ?_
            rintro e x4 ⟨rfl, hb4⟩
            have HB4 := Lib.hid (HB3.out.trans (hb4.mono HB3.out.size))
            have HT4 := Lib.hid (HT3.out.below (Nat.le_refl _) hb4)
            clear hb4 HY3 HB3 HT3
            go_wp2_with fail
            go_roundw
            case rel => exact ⟨9, by omega, by omega, by go_num, HT4, HB4⟩
            case measure => simp [intOf]
        · obtain rfl : k = 9 := by omega
          have HWB := HW
          clear HW
          go_wp2_with fail
          refine (told_any _ HTR.out).mono ?_
          rintro e wz ⟨rfl, bz⟩
          have BZ := Lib.hid (BR.out.trans (bz.mono BR.out.size))
          clear bz
          by_cases v3 : v < 0
          · go_wp2_with fail
            go_ret
            exact ⟨rfl, BZ.out⟩
          · have v4 : 4294967296 ≤ v := by have := HWB.out.2; omega
            have d4 : decide (v < 4294967296) = false := by simp; omega
            go_wp2_with fail
            go_ret
            exact ⟨rfl, BZ.out⟩
  · have hpz : ((pe : Int) == 0) = false := by simp; omega
    go_wp2_with fail
    refine (CH.out w1 HT1.out).mono ?_
    rintro e wb ⟨rfl, b3⟩
    have HTB := Lib.hid (HT1.out.below (Nat.le_refl _) b3)
    have BB := Lib.hid (B1.out.trans (b3.mono B1.out.size))
    clear b3 HT1 B1
    by_cases hh0 : he = 0
    · obtain ⟨r1, r2, r3, r4⟩ := HBK.out hh0
      subst hh0
      have c := fun w => hex_any hs w
      rw [r1, r2] at c
      have C := Lib.hid c
      clear c r1 r2
      go_wp2_with fail
      refine (C.out wb).mono ?_
      rintro e wc ⟨rfl, b4⟩
      have HTC := Lib.hid (HTB.out.below (Nat.le_refl _) b4)
      have BC := Lib.hid (BB.out.trans (b4.mono BB.out.size))
      clear b4 HTB BB C
      go_wp2_with fail
      go_loopw [15] (fun i wr => ∃ k : Nat, 1 ≤ k ∧ k ≤ 9 ∧ i = .int .i64 (k : Int) ∧ Hid (Tab wr) ∧ Hid (Below w.heap.size w wr)) (fun i _ => 9 - (intOf i).toNat)
      case atStart => exact ⟨1, by omega, by omega, rfl, HTC, BC⟩
      case round =>
        clear HTC BC
        obtain ⟨k, hk1, hk2, rfl, HTR, BR⟩ := hrel
        by_cases hlt : k ≤ 8
        · obtain ⟨m, hm⟩ : ∃ m, m = u % 256 ^ k := ⟨_, rfl⟩
          have HM := Lib.hid hm
          have h88 : k < 8 ∧ bits .and .u64 (u : Int) (IntKind.u64.wrap (IntKind.u64.wrap (2 ^ (8 * k)) - 1)) = (m : Int) ∨ k = 8 ∧ u = m := by
            by_cases h8 : k < 8
            · exact .inl ⟨h8, by rw [mask_u64 u k hu h8, hm]⟩
            · obtain rfl : k = 8 := by omega
              exact .inr ⟨rfl, by rw [hm]; omega⟩
          clear hm
          rcases h88 with ⟨h8, em⟩ | ⟨h8, em⟩
          · go_wp2_with fail
            refine (putlittle_back u k wr hk1 hlt).mono ?_
            rintro e x1 ⟨b1, o1, c1, rfl, hy1, hb1⟩
            have HY1 := Lib.hid hy1
            have HB1 := Lib.hid (BR.out.trans (hb1.mono BR.out.size))
            have HT1 := Lib.hid (HTR.out.below (Nat.le_refl _) hb1)
            clear hy1 hb1
            go_wp2_with fail
            refine (little_back b1 o1 c1 k u m x1 HY1.out hk1 hlt HM.out).mono ?_
            rintro e x2 ⟨rfl, hb2⟩
            have HB2 := Lib.hid (HB1.out.trans (hb2.mono HB1.out.size))
            have HT2 := Lib.hid (HT1.out.below (Nat.le_refl _) hb2)
            clear hb2 HY1 HB1 HT1
            go_wp2_with fail
            have hnine := one_bytes 5 x2 9
            refine (putbig_back x2.heap.size u k _ hnine hk1 hlt).mono ?_
            rintro e x3 ⟨b3, o3, c3, rfl, hy3, hb3⟩
            have hb2' := (Below.refl x2.heap.size x2).alloc (Nat.le_refl _) (.cells #[.int .u8 9] 5)
            have hb3' := hb2'.trans (hb3.mono hb2'.size)
            have HY3 := Lib.hid hy3
            have HB3 := Lib.hid (HB2.out.trans (hb3'.mono HB2.out.size))
            have HT3 := Lib.hid (HT2.out.below (Nat.le_refl _) hb3')
            clear hy3 hb3 hb2' hb3' hnine HB2 HT2
            go_wp2_with fail
            refine (big_back b3 o3 c3 k u m x3 HY3.out hk1 hlt HM.out).mono ?_
            rintro e x4 ⟨rfl, hb4⟩
            have HB4 := Lib.hid (HB3.out.trans (hb4.mono HB3.out.size))
            have HT4 := Lib.hid (HT3.out.below (Nat.le_refl _) hb4)
            clear hb4 HY3 HB3 HT3
            go_wp2_with fail
            go_roundw
            case rel => exact ⟨k + 1, by omega, by omega, by go_num, HT4, HB4⟩
            case measure => simp [intOf]; omega
          · subst h8
            subst em
            go_wp2_with fail
            refine (putlittle_back u 8 wr hk1 hlt).mono ?_
            rintro e x1 ⟨b1, o1, c1, rfl, hy1, hb1⟩
            have HY1 := Lib.hid hy1
            have HB1 := Lib.hid (BR.out.trans (hb1.mono BR.out.size))
            have HT1 := Lib.hid (HTR.out.below (Nat.le_refl _) hb1)
            clear hy1 hb1
            go_wp2_with fail
            refine (little_back b1 o1 c1 8 u u x1 HY1.out hk1 hlt HM.out).mono ?_
            rintro e x2 ⟨rfl, hb2⟩
            have HB2 := Lib.hid (HB1.out.trans (hb2.mono HB1.out.size))
            have HT2 := Lib.hid (HT1.out.below (Nat.le_refl _) hb2)
            clear hb2 HY1 HB1 HT1
            go_wp2_with fail
            have hnine := one_bytes 5 x2 9
            refine (putbig_back x2.heap.size u 8 _ hnine hk1 hlt).mono ?_
            rintro e x3 ⟨b3, o3, c3, rfl, hy3, hb3⟩
            have hb2' := (Below.refl x2.heap.size x2).alloc (Nat.le_refl _) (.cells #[.int .u8 9] 5)
            have hb3' := hb2'.trans (hb3.mono hb2'.size)
            have HY3 := Lib.hid hy3
            have HB3 := Lib.hid (HB2.out.trans (hb3'.mono HB2.out.size))
            have HT3 := Lib.hid (HT2.out.below (Nat.le_refl _) hb3')
            clear hy3 hb3 hb2' hb3' hnine HB2 HT2
            go_wp2_with fail
            refine (big_back b3 o3 c3 8 u u x3 HY3.out hk1 hlt HM.out).mono ?_
            rintro e x4 ⟨rfl, hb4⟩
            have HB4 := Lib.hid (HB3.out.trans (hb4.mono HB3.out.size))
            have HT4 := Lib.hid (HT3.out.below (Nat.le_refl _) hb4)
            clear hb4 HY3 HB3 HT3
            go_wp2_with fail
            go_roundw
            case rel => exact ⟨9, by omega, by omega, by go_num, HT4, HB4⟩
            case measure => simp [intOf]
        · obtain rfl : k = 9 := by omega
          have HWB := HW
          clear HW
          go_wp2_with fail
          refine (told_any _ HTR.out).mono ?_
          rintro e wz ⟨rfl, bz⟩
          have BZ := Lib.hid (BR.out.trans (bz.mono BR.out.size))
          clear bz
          by_cases w1 : n < 2
          · go_wp2_with fail
            go_ret
            exact ⟨rfl, BZ.out⟩
          by_cases w2 : 32 < n
          · go_wp2_with fail
            go_ret
            exact ⟨rfl, BZ.out⟩
          have w3 : ¬ v < 0 := by omega
          by_cases w4 : 4611686018427387904 < v
          · omega
          have w5 : n < 9 := by have := HWB.out.1; omega
          go_wp2_with fail
          go_ret
          exact ⟨rfl, BZ.out⟩
    · have hhz : ((he : Int) == 0) = false := by simp; omega
      have HTC := HTB
      have BC := BB
      clear HTB BB
      go_wp2_with fail
      go_loopw [15] (fun i wr => ∃ k : Nat, 1 ≤ k ∧ k ≤ 9 ∧ i = .int .i64 (k : Int) ∧ Hid (Tab wr) ∧ Hid (Below w.heap.size w wr)) (fun i _ => 9 - (intOf i).toNat)
      case atStart => exact ⟨1, by omega, by omega, rfl, HTC, BC⟩
      case round =>
        clear HTC BC
        obtain ⟨k, hk1, hk2, rfl, HTR, BR⟩ := hrel
        by_cases hlt : k ≤ 8
        · obtain ⟨m, hm⟩ : ∃ m, m = u % 256 ^ k := ⟨_, rfl⟩
          have HM := Lib.hid hm
          have h88 : k < 8 ∧ bits .and .u64 (u : Int) (IntKind.u64.wrap (IntKind.u64.wrap (2 ^ (8 * k)) - 1)) = (m : Int) ∨ k = 8 ∧ u = m := by
            by_cases h8 : k < 8
            · exact .inl ⟨h8, by rw [mask_u64 u k hu h8, hm]⟩
            · obtain rfl : k = 8 := by omega
              exact .inr ⟨rfl, by rw [hm]; omega⟩
          clear hm
          rcases h88 with ⟨h8, em⟩ | ⟨h8, em⟩
          · go_wp2_with fail
            refine (putlittle_back u k wr hk1 hlt).mono ?_
            rintro e x1 ⟨b1, o1, c1, rfl, hy1, hb1⟩
            have HY1 := Lib.hid hy1
            have HB1 := Lib.hid (BR.out.trans (hb1.mono BR.out.size))
            have HT1 := Lib.hid (HTR.out.below (Nat.le_refl _) hb1)
            clear hy1 hb1
            go_wp2_with fail
            refine (little_back b1 o1 c1 k u m x1 HY1.out hk1 hlt HM.out).mono ?_
            rintro e x2 ⟨rfl, hb2⟩
            have HB2 := Lib.hid (HB1.out.trans (hb2.mono HB1.out.size))
            have HT2 := Lib.hid (HT1.out.below (Nat.le_refl _) hb2)
            clear hb2 HY1 HB1 HT1
            go_wp2_with fail
            have hnine := one_bytes 5 x2 9
            refine (putbig_back x2.heap.size u k _ hnine hk1 hlt).mono ?_
            rintro e x3 ⟨b3, o3, c3, rfl, hy3, hb3⟩
            have hb2' := (Below.refl x2.heap.size x2).alloc (Nat.le_refl _) (.cells #[.int .u8 9] 5)
            have hb3' := hb2'.trans (hb3.mono hb2'.size)
            have HY3 := Lib.hid hy3
            have HB3 := Lib.hid (HB2.out.trans (hb3'.mono HB2.out.size))
            have HT3 := Lib.hid (HT2.out.below (Nat.le_refl _) hb3')
            clear hy3 hb3 hb2' hb3' hnine HB2 HT2
            go_wp2_with fail
            refine (big_back b3 o3 c3 k u m x3 HY3.out hk1 hlt HM.out).mono ?_
            rintro e x4 ⟨rfl, hb4⟩
            have HB4 := Lib.hid (HB3.out.trans (hb4.mono HB3.out.size))
            have HT4 := Lib.hid (HT3.out.below (Nat.le_refl _) hb4)
            clear hb4 HY3 HB3 HT3
            go_wp2_with fail
            go_roundw
            case rel => exact ⟨k + 1, by omega, by omega, by go_num, HT4, HB4⟩
            case measure => simp [intOf]; omega
          · subst h8
            subst em
            go_wp2_with fail
            refine (putlittle_back u 8 wr hk1 hlt).mono ?_
            rintro e x1 ⟨b1, o1, c1, rfl, hy1, hb1⟩
            have HY1 := Lib.hid hy1
            have HB1 := Lib.hid (BR.out.trans (hb1.mono BR.out.size))
            have HT1 := Lib.hid (HTR.out.below (Nat.le_refl _) hb1)
            clear hy1 hb1
            go_wp2_with fail
            refine (little_back b1 o1 c1 8 u u x1 HY1.out hk1 hlt HM.out).mono ?_
            rintro e x2 ⟨rfl, hb2⟩
            have HB2 := Lib.hid (HB1.out.trans (hb2.mono HB1.out.size))
            have HT2 := Lib.hid (HT1.out.below (Nat.le_refl _) hb2)
            clear hb2 HY1 HB1 HT1
            go_wp2_with fail
            have hnine := one_bytes 5 x2 9
            refine (putbig_back x2.heap.size u 8 _ hnine hk1 hlt).mono ?_
            rintro e x3 ⟨b3, o3, c3, rfl, hy3, hb3⟩
            have hb2' := (Below.refl x2.heap.size x2).alloc (Nat.le_refl _) (.cells #[.int .u8 9] 5)
            have hb3' := hb2'.trans (hb3.mono hb2'.size)
            have HY3 := Lib.hid hy3
            have HB3 := Lib.hid (HB2.out.trans (hb3'.mono HB2.out.size))
            have HT3 := Lib.hid (HT2.out.below (Nat.le_refl _) hb3')
            clear hy3 hb3 hb2' hb3' hnine HB2 HT2
            go_wp2_with fail
            refine (big_back b3 o3 c3 8 u u x3 HY3.out hk1 hlt HM.out).mono ?_
            rintro e x4 ⟨rfl, hb4⟩
            have HB4 := Lib.hid (HB3.out.trans (hb4.mono HB3.out.size))
            have HT4 := Lib.hid (HT3.out.below (Nat.le_refl _) hb4)
            clear hb4 HY3 HB3 HT3
            go_wp2_with fail
            go_roundw
            case rel => exact ⟨9, by omega, by omega, by go_num, HT4, HB4⟩
            case measure => simp [intOf]
        · obtain rfl : k = 9 := by omega
          have HWB := HW
          clear HW
          go_wp2_with fail
          refine (told_any _ HTR.out).mono ?_
          rintro e wz ⟨rfl, bz⟩
          have BZ := Lib.hid (BR.out.trans (bz.mono BR.out.size))
          clear bz
          by_cases w1 : n < 2
          · by_cases v3 : v < 0
            · go_wp2_with fail
              go_ret
              exact ⟨rfl, BZ.out⟩
            · have v4 : 4294967296 ≤ v := by have := HWB.out.2; omega
              have d4 : decide (v < 4294967296) = false := by simp; omega
              go_wp2_with fail
              go_ret
              exact ⟨rfl, BZ.out⟩
          by_cases w2 : 32 < n
          · by_cases v3 : v < 0
            · go_wp2_with fail
              go_ret
              exact ⟨rfl, BZ.out⟩
            · have v4 : 4294967296 ≤ v := by have := HWB.out.2; omega
              have d4 : decide (v < 4294967296) = false := by simp; omega
              go_wp2_with fail
              go_ret
              exact ⟨rfl, BZ.out⟩
          by_cases w3 : v < 0
          · go_wp2_with fail
            go_ret
            exact ⟨rfl, BZ.out⟩
          by_cases w4 : 4611686018427387904 < v
          · have v4 : 4294967296 ≤ v := by omega
            have d4 : decide (v < 4294967296) = false := by simp; omega
            go_wp2_with fail
            go_ret
            exact ⟨rfl, BZ.out⟩
          have w5 : n < 9 := by have := HWB.out.1; omega
          have v4 : 4294967296 ≤ v := by have := HWB.out.2; omega
          have d4 : decide (v < 4294967296) = false := by simp; omega
          go_wp2_with fail
          go_ret
          exact ⟨rfl, BZ.out⟩
end Go.Proofs.YthjlemglfgamnaaDoor.NumC
