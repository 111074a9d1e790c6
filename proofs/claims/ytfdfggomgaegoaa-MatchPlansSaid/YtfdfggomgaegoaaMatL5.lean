/-
  MatchPlans' law.
-/
import Derived.Test.YtfdfggomgaegoaaMatL4
namespace Go.Proofs.Ytfdfggomgaegoaa.MatC
open Go.RowKit Go.My MatMath LzC

set_option maxRecDepth 100000 in
set_option maxHeartbeats 16000000 in
theorem plans_law {a : Option Addr} {len cap : Nat} {b : List UInt8} (n z p q : Int) (w : World) (hb : Bytes w a len cap b) :
    Calls Try.prog 7 #[.slice a len cap, .int .i64 n, .int .i64 z, .int .i64 p, .int .i64 q] w fun e w' => e = .returned (.bool true) ∧ Below w.heap.size w w' := by
  have HB := Lib.hid hb
  have HL := Lib.hid hb.len_eq
  have hlc := hb.le_cap
  have hcm := hb.cap_le
  clear hb
  by_cases hbig : 200 < len
  · go_enter Try.func7, Try.ntmps7
    go_wp2_with fail
    refine (told_any _).mono ?_
    rintro e w2 ⟨rfl, hbe⟩
    have HBE := Lib.hid hbe
    clear hbe
    go_wp2_with fail
    go_ret
    exact ⟨rfl, HBE.out⟩
  by_cases hnil : len = 0
  · have g0 : ((len : Int) == 0) = true := by simp; omega
    have g1 : decide ((200 : Int) < (len : Int)) = false := by simp; omega
    clear hnil
    go_enter Try.func7, Try.ntmps7
    go_wp2_with fail
    refine (told_any _).mono ?_
    rintro e w2 ⟨rfl, hbe⟩
    have HBE := Lib.hid hbe
    clear hbe
    go_wp2_with fail
    go_ret
    exact ⟨rfl, HBE.out⟩
  have g0 : ((len : Int) == 0) = false := by simp; omega
  have g1 : decide ((200 : Int) < (len : Int)) = false := by simp; omega
  have hand1 := i64_and_mask p 10 (by omega) 1023 1024 (by decide) (by decide)
  have hand2 := i64_and_mask q 10 (by omega) 1023 1024 (by decide) (by decide)
  obtain ⟨x0, hx0⟩ : ∃ x0 : Nat, p % 1024 = (x0 : Int) := ⟨(p % 1024).toNat, by omega⟩
  obtain ⟨y0, hy0⟩ : ∃ y0 : Nat, q % 1024 = (y0 : Int) := ⟨(q % 1024).toNat, by omega⟩
  have hx1 : x0 < 1024 := by omega
  have hy1 : y0 < 1024 := by omega
  rw [hx0] at hand1
  rw [hy0] at hand2
  obtain ⟨X, hX⟩ : ∃ X, X = min x0 y0 := ⟨_, rfl⟩
  obtain ⟨Y, hY⟩ : ∃ Y, Y = max x0 y0 := ⟨_, rfl⟩
  have hXY : X ≤ Y := by omega
  have hY2 : Y < 1024 := by omega
  have HX := Lib.hid hX
  have HY := Lib.hid hY
  clear hX hY hx0 hy0
  go_enter Try.func7, Try.ntmps7
  go_wp2_with fail
  refine (long_any n w HB.out (by omega)).mono ?_
  intro e w1 h1
  obtain ⟨a1, c1, rfl, hb1, hl1⟩ := own_ret h1
  have HB1 := Lib.hid hb1
  have HE1 := Lib.hid hl1
  have hrl : (rep b (times n)).length ≤ 1600 := rep_le b n 200 (by rw [HL.out]; omega)
  have hpos : 0 < (rep b (times n)).length := by
    rw [rep_len, HL.out]
    exact Nat.mul_pos (by have := (times_le n).1; omega) (by omega)
  clear h1 hb1 hl1 g0 g1 HB
  generalize rep b (times n) = s at *
  obtain ⟨k, hk, hrem⟩ := un_rem z s.length hpos (by omega)
  go_upto_if 50 with (fail)
  clear hrem hand1 hand2
  go_cut [13, 14] (fun xv yv wc => xv = .int .i64 (X : Int) ∧ yv = .int .i64 (Y : Int) ∧ wc = w1)
  case first =>
    by_cases hlt : y0 < x0
    · have g1 : decide (y0 < x0) = true := by simp; omega
      have H1 : Hid (X = y0 ∧ Y = x0) := Lib.hid (by rw [HX.out, HY.out]; omega)
      go_wp2_with fail
      go_meet
      case rel => exact ⟨by rw [H1.out.1], by rw [H1.out.2], rfl⟩
    · have g1 : decide (y0 < x0) = false := by simp; omega
      have H1 : Hid (X = x0 ∧ Y = y0) := Lib.hid (by rw [HX.out, HY.out]; omega)
      go_wp2_with fail
      go_meet
      case rel => exact ⟨by rw [H1.out.1], by rw [H1.out.2], rfl⟩
  obtain ⟨rfl, rfl, rfl⟩ := hcut
  generalize wc = w1 at *
  have h1 := new_any false (X : Int) false 100000 false w1 HB1.out (by omega)
  unfold pv at h1
  have HN1 := Lib.hid h1
  clear h1
  go_wp2_with fail
  refine HN1.out.mono ?_
  rintro e w2 ⟨g1, rfl, hf, hb2, _⟩
  have HF1 := Lib.hid hf
  have HB2 := Lib.hid (HB1.out.below (Nat.le_refl _) hb2)
  have HE2 := Lib.hid (HE1.out.trans (hb2.mono HE1.out.size))
  clear hf hb2 HN1 HB1 HE1
  have h1 := new_any false (Y : Int) false 100000 false w2 HB2.out (by omega)
  unfold pv at h1
  have HN1 := Lib.hid h1
  clear h1
  go_wp2_with fail
  refine HN1.out.mono ?_
  rintro e w3 ⟨g2, rfl, hf, hb3, _⟩
  have HG1 := Lib.hid (HF1.out.below hb3)
  have HF2 := Lib.hid hf
  have HB3 := Lib.hid (HB2.out.below (Nat.le_refl _) hb3)
  have HE3 := Lib.hid (HE2.out.trans (hb3.mono HE2.out.size))
  clear hf hb3 HN1 HB2 HE2 HF1
  have h1 := new_any false (Y : Int) false 100000 true w3 HB3.out (by omega)
  unfold pv at h1
  have HN1 := Lib.hid h1
  clear h1
  go_wp2_with fail
  refine HN1.out.mono ?_
  rintro e w4 ⟨g3, rfl, hf, hb4, _⟩
  have HI1 := Lib.hid (HG1.out.below hb4)
  have HI2 := Lib.hid (HF2.out.below hb4)
  have HI3 := Lib.hid hf
  have HB4 := Lib.hid (HB3.out.below (Nat.le_refl _) hb4)
  have HE4 := Lib.hid (HE3.out.trans (hb4.mono HE3.out.size))
  clear hf hb4 HN1 HB3 HE3 HF2 HG1
  obtain ⟨N1, D1, hnd1⟩ : ∃ N D, find s (X : Int) 100000 false k = (N, D) := ⟨_, _, rfl⟩
  obtain ⟨N2, D2, hnd2⟩ : ∃ N D, find s (Y : Int) 100000 false k = (N, D) := ⟨_, _, rfl⟩
  obtain ⟨N3, D3, hnd3⟩ : ∃ N D, find s (Y : Int) 100000 true k = (N, D) := ⟨_, _, rfl⟩
  have hwx : (Lit.int .i64 (X : Int)).wf = true := WalkArith.wf_i64 (by omega)
  have hwy : (Lit.int .i64 (Y : Int)).wf = true := WalkArith.wf_i64 (by omega)
  have HC1 := Lib.hid (find_all g1 ⟨false, X, false, 100000, false⟩ s k w4 HI1.out hwx N1 D1 hnd1)
  have HC2 := Lib.hid (fun (wx : World) (hd : Drew w4 wx) => find_all g2 ⟨false, Y, false, 100000, false⟩ s k wx (HI2.out.below hd.below) hwy N2 D2 hnd2)
  have HC3 := Lib.hid (fun (wx : World) (hd : Drew w4 wx) => find_all g3 ⟨false, Y, false, 100000, true⟩ s k wx (HI3.out.below hd.below) hwy N3 D3 hnd3)
  have hle1 : N1 ≤ N2 := by
    have := find_le s k (X : Int) (Y : Int) (by omega) hrl false false (.inl rfl)
    rw [hnd1, hnd2] at this
    exact this
  have hle2 : N2 ≤ N3 := by
    have := find_le s k (Y : Int) (Y : Int) (by omega) hrl false true (.inl rfl)
    rw [hnd2, hnd3] at this
    exact this
  have hz0 : X = 0 → N1 = 0 := fun h => by
    rw [h] at hnd1
    have := find_zero s k 100000 false
    rw [show ((0 : Nat) : Int) = 0 from rfl, this] at hnd1
    injection hnd1 with h1 _
    exact h1.symm
  have hnn : N1 = 0 ∨ 3 ≤ N1 := by
    obtain ⟨n', d', h1, h2⟩ := find_nums s (X : Int) 100000 false k
    rw [hnd1] at h1
    injection h1 with h3 h4
    subst h3 h4
    rcases h2 with h2 | h2
    · exact .inl h2.1
    · exact .inr h2.1
  have HRP : Hid (∀ i, i < N1 → k + N1 ≤ s.length ∧ D1 ≤ k ∧ at_ s (k + i) = at_ s (k + i - D1)) := Lib.hid (fun i hi => by
    obtain ⟨n', d', h1, h2⟩ := find_nums s (X : Int) 100000 false k
    rw [hnd1] at h1
    injection h1 with h3 h4
    subst h3 h4
    rcases h2 with h2 | h2
    · omega
    · exact ⟨h2.2.2.1, h2.2.2.2.2.2.1, h2.2.2.2.2.2.2 i hi⟩)
  clear hnd1 hnd2 hnd3 hwx hwy HI1 HI2 HI3
  go_wp2_with fail
  refine HC1.out.mono ?_
  rintro e w5 ⟨rfl, hd5⟩
  have HD5 := Lib.hid ((hd5))
  clear hd5 HC1
  go_wp2_with fail
  refine (HC2.out _ HD5.out).mono ?_
  rintro e w6 ⟨rfl, hd6⟩
  have HD6 : Hid (Drew w4 w6) := Lib.hid (by
    obtain ⟨i, hi⟩ := hd6
    rw [hi]
    exact HD5.out.more i)
  clear hd6 HC2 HD5
  go_wp2_with fail
  refine (HC3.out _ HD6.out).mono ?_
  rintro e w7 ⟨rfl, hd7⟩
  have HD7 : Hid (Drew w4 w7) := Lib.hid (by
    obtain ⟨i, hi⟩ := hd7
    rw [hi]
    exact HD6.out.more i)
  clear hd7 HC3 HD6
  have t1 : decide (N2 < N1) = false := by simp; omega
  have t2 : decide (N3 < N2) = false := by simp; omega
  obtain ⟨L, hL⟩ : ∃ L, L = s.length := ⟨_, rfl⟩
  rw [← hL] at HB4 hk hrl hpos ⊢
  have HLS := Lib.hid hL
  clear hL
  go_upto_region 16 with (fail)
  go_cut [108] (fun v wc => v = .bool false ∧ wc = w7)
  case first =>
    by_cases hX0 : X = 0
    · have t3 : ((X : Int) == 0) = true := by simp; omega
      have t4 : ((N1 : Int) != 0) = false := by simp; have := hz0 hX0; omega
      clear hX0 hz0
      go_wp2_with fail
      go_meet
      case rel => exact ⟨rfl, rfl⟩
    · have t3 : ((X : Int) == 0) = false := by simp; omega
      clear hX0 hz0
      go_wp2_with fail
      go_meet
      case rel => exact ⟨rfl, rfl⟩
  obtain ⟨rfl, rfl⟩ := hcut
  generalize wc = w7 at *
  clear hz0 t1 t2
  go_wp2_with fail
  go_loopw [24] (fun v wr => ∃ i : Nat, i ≤ N1 ∧ v = .int .i64 (i : Int) ∧ Hid (Drew w4 wr)) (fun v _ => N1 - (intOf v).toNat)
  case atStart => exact ⟨0, Nat.zero_le _, rfl, HD7⟩
  case round =>
    clear HD7
    obtain ⟨i, hi, rfl, HD⟩ := hrel
    by_cases hlt : i < N1
    · have g1' : decide (i < N1) = true := by simp; omega
      obtain ⟨r1, r2, r3⟩ := HRP.out i hlt
      obtain ⟨P, hP⟩ : ∃ P, P = k + i := ⟨_, rfl⟩
      obtain ⟨Q, hQ⟩ : ∃ Q, Q = k + i - D1 := ⟨_, rfl⟩
      rw [← hQ, ← hP] at r3
      rw [← HLS.out] at r1
      have hN1 : N1 ≤ 1600 := by omega
      have hPL : P < L := by omega
      have hQL : Q < L := by omega
      have eP : (k : Int) + (i : Int) = (P : Int) := by omega
      have eQ : (P : Int) - (D1 : Int) = (Q : Int) := by omega
      have eP2 : IntKind.i64.wrap (P : Int) = (P : Int) := IntWalk.i64_in _ (by omega)
      have eQ2 : IntKind.i64.wrap (Q : Int) = (Q : Int) := IntWalk.i64_in _ (by omega)
      have HBr := HD.out.bytes HB4.out
      obtain ⟨b1, o1, rfl⟩ := HBr.some_ hpos
      rw [HLS.out] at HBr hPL hQL
      have z1 := at_cell HBr P hPL
      have z2 := at_cell HBr Q hQL
      rw [← HLS.out] at hPL hQL
      rw [r3] at z1
      have g4 : (((at_ s Q).toNat : Int) != ((at_ s Q).toNat : Int)) = false := by simp
      generalize (at_ s Q).toNat = y1 at *
      clear HBr r1 r2 r3 hP hQ
      go_wp2_with fail
      go_quiet (fail)
      have HD2 := Lib.hid (HD.out.more nq)
      clear HD z1 z2 g4 eP eQ eP2 eQ2 g1'
      go_wp2_with fail
      go_roundw
      case rel => exact ⟨i + 1, by omega, by go_num, HD2⟩
      case measure => simp [intOf]; omega
    · have g1' : decide (i < N1) = false := by simp; omega
      have HEr := Lib.hid (HE4.out.trans (HD.out.below.mono HE4.out.size))
      go_wp2_with fail
      refine (told_any _).mono ?_
      rintro e w8 ⟨rfl, hb8⟩
      have HE8 := Lib.hid (HEr.out.trans (hb8.mono HEr.out.size))
      clear hb8 HD HEr
      rcases hnn with h0 | h3
      · have g5 : ((N1 : Int) == 0) = true := by simp; omega
        clear h0
        go_wp2_with fail
        go_ret
        exact ⟨rfl, HE8.out⟩
      · have g5 : ((N1 : Int) == 0) = false := by simp; omega
        have g6 : decide ((N1 : Int) ≥ 3) = true := by simp; omega
        have g6' : decide (3 ≤ N1) = true := by simp; omega
        go_wp2_with fail
        go_ret
        exact ⟨rfl, HE8.out⟩
end Go.Proofs.Ytfdfggomgaegoaa.MatC
