import Derived.Test.YtbjjkhlebdaoaaaGreatDoorMgDb
import Derived.Test.YtbjjkhlebdaoaaaGreatDoorMgZ

section
/-
  DeflateBack's law.
-/
namespace Go.Proofs.YtbjjkhlebdaoaaaGreatDoor.DfC
open Go.RowKit Go.My BitMath BlkC
open InfMath (Rd stos)
open EfC (lv Pls)

set_option maxRecDepth 100000 in
set_option maxHeartbeats 8000000 in
theorem back_law {a : Option Addr} {len cap : Nat} {b : List UInt8} (n : Int) (x : Nat) (wide : Bool) (w : World) (hb : Bytes w a len cap b) (hT : Tbls w.heap.size w) (hP : Pls w) :
    Calls Tryz.prog 3 #[.slice a len cap, .int .i64 n, .float .f64 x, .bool wide] w fun e w' => e = .returned (.bool true) ∧ Below w.heap.size w w' := by
  have HB := Lib.hid hb
  have HL := Lib.hid hb.len_eq
  have HT := Lib.hid hT
  have HP := Lib.hid hP
  have hlc := hb.le_cap
  have hcm := hb.cap_le
  clear hb hT hP
  by_cases hbig : 300 < len
  · have HTO := Lib.hid (told_at HT.out HP.out (Below.refl _ _))
    go_enter Tryz.func3, Tryz.ntmps3
    go_wp2_with fail
    refine HTO.out.mono ?_
    rintro e w2 ⟨rfl, hbe⟩
    go_wp2_with fail
    go_ret
    exact ⟨rfl, hbe⟩
  · have HLG := Lib.hid (long_any n w HB.out (by omega))
    have hrl : (rep b (times n)).length ≤ 4800 := rep_le b n 300 (by rw [HL.out]; omega)
    go_enter Tryz.func3, Tryz.ntmps3
    go_wp2_with fail
    refine HLG.out.mono ?_
    intro e w1 h1
    obtain ⟨a1, c1, rfl, hb1, hl1⟩ := own_ret h1
    have HC := Lib.hid (Ctx.mk hl1 hb1)
    clear h1 hb1 hl1 HLG
    generalize rep b (times n) = s at *
    obtain ⟨N, hN⟩ : ∃ N, N = s.length := ⟨_, rfl⟩
    have HN := Lib.hid hN
    rw [← hN] at hrl ⊢
    clear hN
    have HE : Hid (My.Own 5 w1.heap.size (w1.alloc (.cells #[] 5)) (.slice (some ⟨w1.heap.size, 0, none⟩) 0 0) []) := Lib.hid (My.Own.empty 5 w1 (Nat.le_refl _))
    have HBA : Hid (Bytes (w1.alloc (.cells #[] 5)) a1 N c1 s) := Lib.hid (by rw [HN.out]; exact HC.out.by_.below (Nat.le_refl _) ((Below.refl _ _).alloc (Nat.le_refl _) _))
    go_wp2_with (at_builtin; refine wpList_append_lie (by rfl) (.tmp 23) (.tmp 24) 22 (by rfl) w1.heap.size 5 Tryz.underlying22 BitC.info5 (.slice (some ⟨w1.heap.size, 0, none⟩) 0 0) [] (by rfl) HE.out a1 N c1 s (by rfl) HBA.out (by simp; omega) (by simp) ?_)
    intro a2 c2 w2 hown hg _
    have hw2 : Below w1.heap.size w1 w2 := grown_below (My.Own.empty 5 w1 (Nat.le_refl _)) ((Below.refl _ _).alloc (Nat.le_refl _) _) hg (by simp)
    have HC2 := Lib.hid (HC.out.next hw2)
    have HI2 : Hid (Ctx w w2 a2 c2 s) := Lib.hid ⟨HC2.out.bel, by rw [← HN.out]; exact (own_by hown).2⟩
    have HAL := Lib.hid (all_at x wide (by have := HN.out; omega) HT.out HP.out HI2.out)
    rw [← HN.out] at HAL
    clear hown hg hw2 HE HBA HC
    go_wp2_with fail
    refine HAL.out.mono ?_
    rintro e w3 ⟨P, hd, h3⟩
    obtain ⟨a3, c3, rfl, hb3, hl3⟩ := own_ret h3
    have HC3 := Lib.hid (HC2.out.next hl3)
    have HI3 := Lib.hid (HI2.out.next hl3)
    have HB3 := Lib.hid hb3
    have HD := Lib.hid hd
    obtain ⟨M, hM⟩ : ∃ M, M = P.length := ⟨_, rfl⟩
    rw [← hM]
    have HM := Lib.hid hM
    clear h3 hb3 hl3 hd hM HAL HC2 HI2
    obtain ⟨sz, hsz, hsz2⟩ : ∃ sz : Nat, (if wide then 65536 else 32768) ≤ sz ∧ sz = (if wide then 65536 else 32768) := ⟨_, Nat.le_refl _, rfl⟩
    have HS := Lib.hid (And.intro hsz hsz2)
    clear hsz hsz2
    go_upto_if 30 with (fail)
    go_cut [12] (fun v wc => v = .int .i64 (sz : Int) ∧ wc = w3)
    case first =>
      cases wide
      · have e : sz = 32768 := HS.out.2
        go_wp2_with fail
        go_meet
        case rel => exact ⟨by rw [e]; rfl, rfl⟩
      · have e : sz = 65536 := HS.out.2
        go_wp2_with fail
        go_meet
        case rel => exact ⟨by rw [e]; rfl, rfl⟩
    obtain ⟨rfl, rfl⟩ := hcut
    have hml : M ≤ 10000 := by
      have h1 := HD.out.len
      have h2 : sto s.length ≤ 5000 := by unfold sto; have := HN.out; omega
      have := HM.out; omega
    have HE : Hid (My.Own 5 wc.heap.size (wc.alloc (.cells #[] 5)) (.slice (some ⟨wc.heap.size, 0, none⟩) 0 0) []) := Lib.hid (My.Own.empty 5 wc (Nat.le_refl _))
    have HBA : Hid (Bytes (wc.alloc (.cells #[] 5)) a3 M c3 P) := Lib.hid (by rw [HM.out]; exact HB3.out.below (Nat.le_refl _) ((Below.refl _ _).alloc (Nat.le_refl _) _))
    go_wp2_with (at_builtin; refine wpList_append_lie (by rfl) (.tmp 32) (.tmp 33) 22 (by rfl) wc.heap.size 5 Tryz.underlying22 BitC.info5 (.slice (some ⟨wc.heap.size, 0, none⟩) 0 0) [] (by rfl) HE.out a3 M c3 P (by rfl) HBA.out (by simp; omega) (by simp) ?_)
    intro a4 c4 w4 hown hg _
    have HW4 : Hid (Below wc.heap.size wc w4) := Lib.hid (grown_below (My.Own.empty 5 wc (Nat.le_refl _)) ((Below.refl _ _).alloc (Nat.le_refl _) _) hg (by simp))
    have HO4 : Hid (My.Own 5 wc.heap.size (w4.alloc (.cells #[.int .u8 7] 5)) (.slice a4 M c4) P) := Lib.hid (hown.below (Nat.le_refl _) ((Below.refl _ _).alloc (Nat.le_refl _) _))
    have HB7 : Hid (Bytes (w4.alloc (.cells #[.int .u8 7] 5)) (some ⟨w4.heap.size, 0, none⟩) 1 1 [7]) := Lib.hid (one_bytes 5 w4 7)
    have hs4 : wc.heap.size ≤ w4.heap.size + 1 := by have := HW4.out.size; omega
    clear hown hg HE HBA
    go_wp2_with (at_builtin; refine wpList_append_lie (by rfl) (.tmp 34) (.tmp 35) 22 (by rfl) wc.heap.size 5 Tryz.underlying22 BitC.info5 (.slice a4 M c4) P (by rfl) HO4.out (some ⟨w4.heap.size, 0, none⟩) 1 1 [7] (by rfl) HB7.out (by have := HM.out; simp; omega) (by simpa using hs4) ?_)
    intro a5 c5 w5 hown hg _
    have hw45 : Below wc.heap.size wc w5 := grown_below HO4.out (HW4.out.alloc (by have := HW4.out.size; omega) _) hg (by simpa using hs4)
    have HC5 := Lib.hid (HC3.out.next hw45)
    have HI5 := Lib.hid (HI3.out.next hw45)
    obtain ⟨X, z, hX, hR, hU⟩ := HD.out.shown
    have hb5 := own_by hown
    have HAL := Lib.hid (RfC.all_used (S := sz) wide N w5 hb5.2 (by have := HM.out; omega) (by omega) (by have := HS.out.2; split at this <;> omega) HS.out.1 (by have := HS.out.2; split at this <;> omega) (show bitsOf (P ++ [7]) = X ++ (z ++ bitsOf [7]) by rw [bitsOf_append, hX, List.append_assoc]) hR (by have := HN.out; omega))
    rw [hU, ← HM.out] at HAL
    rw [← HM.out]
    have hmz := HD.out.most (by have := HN.out; omega)
    rw [← HM.out, ← HN.out] at hmz
    have HRM := Lib.hid (fun w => rmost_any (N : Int) w (by omega))
    generalize mostZ (N : Int) = mz at *
    have hle : decide ((M : Int) ≤ mz) = true := decide_eq_true hmz
    clear hown hg hw45 HC3 HI3 HB3 HW4 HO4 HB7 hs4 hX hR hU hb5 HD hmz
    go_wp2_with fail
    refine HAL.out.mono ?_
    rintro e w6 ⟨ov, rfl, ho6, hb6⟩
    obtain ⟨a6, c6, rfl, hy6⟩ := ho6.bytes
    rw [← HN.out] at hy6 ⊢
    have HC6 := Lib.hid (HC5.out.next hb6)
    have HI6 := Lib.hid (HI5.out.next hb6)
    have HY6 := Lib.hid hy6
    have HTO := Lib.hid (told_at HT.out HP.out HC6.out.bel)
    clear ho6 hb6 hy6 HAL HC5 HI5
    go_wp2_with fail
    refine HTO.out.mono ?_
    rintro e w7 ⟨rfl, hb7⟩
    have HC7 := Lib.hid (HC6.out.next hb7)
    have v1 := conv_own HC7.out.by_
    have v2 := conv_own (HI6.out.next hb7).by_
    have v3 := conv_own (HY6.out.below (Nat.le_refl _) hb7)
    rw [← HN.out] at v1 v2
    clear hb7 HTO HC6 HI6 HY6
    go_wp2_with fail
    refine (HRM.out w7).mono ?_
    rintro e w8 ⟨rfl, rfl⟩
    go_wp2_with fail
    go_ret
    exact ⟨rfl, HC7.out.bel⟩
end Go.Proofs.YtbjjkhlebdaoaaaGreatDoor.DfC
end
