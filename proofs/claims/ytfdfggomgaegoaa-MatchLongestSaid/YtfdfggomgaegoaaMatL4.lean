/-
  MatchLongest's law.
-/
import Derived.Test.YtfdfggomgaegoaaMatL1
import Derived.Test.YtfdfggomgaegoaaMatMax
namespace Go.Proofs.Ytfdfggomgaegoaa.MatC
open Go.RowKit Go.My MatMath LzC

theorem un_rem (z : Int) (m : Nat) (h : 0 < m) (h2 : m ≤ 1000000) : ∃ q : Nat, q < m ∧ (IntKind.u64.wrap z).tmod (m : Int) = (q : Int) := by
  have h0 : 0 ≤ IntKind.u64.wrap z := by rw [IntKind.wrap_u64]; omega
  rw [Int.tmod_eq_emod_of_nonneg h0]
  have h1 := Int.emod_nonneg (IntKind.u64.wrap z) (show (m : Int) ≠ 0 by omega)
  have h3 := Int.emod_lt_of_pos (IntKind.u64.wrap z) (show (0 : Int) < m by omega)
  generalize IntKind.u64.wrap z % (m : Int) = r at *
  obtain ⟨q, rfl⟩ := Int.eq_ofNat_of_zero_le h1
  exact ⟨q, by omega, rfl⟩
/-- What repeats is the same piece. -/
theorem same_piece {s : List UInt8} {a d n : Nat} (hd : d ≤ a) (ha : a + n ≤ s.length) (h : ∀ i, i < n → at_ s (a + i) = at_ s (a + i - d)) : (s.drop (a - d)).take n = (s.drop a).take n := by
  apply List.ext_getElem
  · simp; omega
  · intro i h1 h2
    have hi : i < n := by simp at h1; omega
    rw [List.getElem_take, List.getElem_take, List.getElem_drop, List.getElem_drop]
    have := h i hi
    rw [show a + i - d = a - d + i by omega] at this
    simp only [at_, List.getD_eq_getElem?_getD, List.getElem?_eq_getElem (show a + i < s.length by omega), List.getElem?_eq_getElem (show a - d + i < s.length by omega), Option.getD_some] at this
    exact this.symm

set_option maxRecDepth 100000 in
set_option maxHeartbeats 16000000 in
theorem longest_law {a : Option Addr} {len cap : Nat} {b : List UInt8} (n z : Int) (w : World) (hb : Bytes w a len cap b) :
    Calls Try.prog 6 #[.slice a len cap, .int .i64 n, .int .i64 z] w fun e w' => e = .returned (.bool true) ∧ Below w.heap.size w w' := by
  have HB := Lib.hid hb
  have HL := Lib.hid hb.len_eq
  have hlc := hb.le_cap
  have hcm := hb.cap_le
  clear hb
  by_cases hbig : 200 < len
  · go_enter Try.func6, Try.ntmps6
    go_wp2_with fail
    refine (told_any _).mono ?_
    rintro e w2 ⟨rfl, hbe⟩
    have HBE := Lib.hid hbe
    clear hbe
    go_wp2_with fail
    go_ret
    exact ⟨rfl, HBE.out⟩
  by_cases hnil : len = 0
  · have g0 : ((len : Int) == 0) = true := by simp; omega
    have g1 : decide ((200 : Int) < (len : Int)) = false := by simp; omega
    clear hnil
    go_enter Try.func6, Try.ntmps6
    go_wp2_with fail
    refine (told_any _).mono ?_
    rintro e w2 ⟨rfl, hbe⟩
    have HBE := Lib.hid hbe
    clear hbe
    go_wp2_with fail
    go_ret
    exact ⟨rfl, HBE.out⟩
  have g0 : ((len : Int) == 0) = false := by simp; omega
  have g1 : decide ((200 : Int) < (len : Int)) = false := by simp; omega
  go_enter Try.func6, Try.ntmps6
  go_wp2_with fail
  refine (long_any n w HB.out (by omega)).mono ?_
  intro e w1 h1
  obtain ⟨a1, c1, rfl, hb1, hl1⟩ := own_ret h1
  have HB1 := Lib.hid hb1
  have HE1 := Lib.hid hl1
  have hrl : (rep b (times n)).length ≤ 1600 := rep_le b n 200 (by rw [HL.out]; omega)
  have hpos : 0 < (rep b (times n)).length := by
    rw [rep_len, HL.out]
    exact Nat.mul_pos (by have := (times_le n).1; omega) (by omega)
  clear h1 hb1 hl1 g0 g1 HB
  generalize rep b (times n) = s at *
  have hnw := new_any false 5000 false 100000 false w1 HB1.out (by omega)
  unfold pv at hnw
  have HNW := Lib.hid hnw
  clear hnw
  go_wp2_with fail
  refine HNW.out.mono ?_
  rintro e w2 ⟨g, rfl, hf, hb2, hgg⟩
  have HF := Lib.hid hf
  have HB2 := Lib.hid (HB1.out.below (Nat.le_refl _) hb2)
  have HE2 := Lib.hid (HE1.out.trans (hb2.mono HE1.out.size))
  clear hf hb2 hgg HNW HB1 HE1
  obtain ⟨k, hk, hrem⟩ := un_rem z s.length hpos (by omega)
  have hh := find_all g ⟨false, 5000, false, 100000, false⟩ s k w2 HF.out (by decide)
  obtain ⟨N, D, hnd⟩ : ∃ N D, find s 5000 100000 false k = (N, D) := ⟨_, _, rfl⟩
  have HC := Lib.hid (hh N D hnd)
  have HND := Lib.hid hnd
  clear hh hnd
  go_wp2_with fail
  refine HC.out.mono ?_
  rintro e w3 ⟨rfl, hd3⟩
  have HB3 := Lib.hid (hd3.bytes HB2.out)
  have HE3 := Lib.hid (HE2.out.trans (hd3.below.mono HE2.out.size))
  clear hd3 HC HB2 HE2 HF hrem
  obtain ⟨b1, o1, rfl⟩ := HB3.out.some_ hpos
  have hcl := HB3.out.le_cap
  have hcm1 := HB3.out.cap_le
  have HMX := Lib.hid (fun p hp h3 => find_max s k hrl N D HND.out p hp h3)
  have hnn : N = 0 ∨ 3 ≤ N ∧ k + N ≤ s.length ∧ 1 ≤ D ∧ D ≤ k ∧ (s.drop (k - D)).take N = (s.drop k).take N := by
    obtain ⟨n', d', h1, h2⟩ := find_nums s 5000 100000 false k
    rw [HND.out] at h1
    injection h1 with h3 h4
    subst h3 h4
    rcases h2 with h2 | ⟨h2, h3, h4, h5, h6, h7, h8⟩
    · exact .inl h2.1
    · exact .inr ⟨h2, h4, h5, h7, same_piece h7 h4 h8⟩
  obtain ⟨L, hL⟩ : ∃ L, L = s.length := ⟨_, rfl⟩
  rw [← hL] at HB3 hk hcl hrl hpos hnn ⊢
  have HLS := Lib.hid hL
  clear hL
  go_upto_region 9 with (fail)
  go_cut [75] (fun v wc => v = .bool false ∧ Hid (Drew w3 wc))
  case first =>
    rcases hnn with hn0 | ⟨hn3, hnL, hd1, hdk, hpc⟩
    · have g0 : decide ((N : Int) > 0) = false := by simp; omega
      have g0' : decide (0 < N) = false := by simp; omega
      go_quiet (fail)
      clear g0 g0'
      go_wp2_with fail
      go_meet
      case rel => exact ⟨rfl, Lib.hid ((Drew.refl _).more nq)⟩
    · have g0 : decide ((N : Int) > 0) = true := by simp; omega
      have g0' : decide (0 < N) = true := by simp; omega
      have g1 : decide ((N : Int) < 3) = false := by simp; omega
      have g1' : decide (N < 3) = false := by simp; omega
      have g2 : decide ((D : Int) < 1) = false := by simp; omega
      have g2' : decide (D < 1) = false := by simp; omega
      have g3 : decide (k < D) = false := by simp; omega
      obtain ⟨A, hA⟩ : ∃ A, A = k + N := ⟨_, rfl⟩
      obtain ⟨E, hE⟩ : ∃ E, E = k - D := ⟨_, rfl⟩
      have eA : (k : Int) + (N : Int) = (A : Int) := by omega
      have eE : (k : Int) - (D : Int) = (E : Int) := by omega
      have eA2 : IntKind.i64.wrap (A : Int) = (A : Int) := IntWalk.i64_in _ (by omega)
      have eE2 : IntKind.i64.wrap (E : Int) = (E : Int) := IntWalk.i64_in _ (by omega)
      have eA3 : A - k = N := by omega
      have f1 : (A : Int) ≤ (c1 : Int) := by omega
      have f2 : (k : Int) ≤ (A : Int) := by omega
      have f3 : ¬ c1 = k := by omega
      have HQ : Hid (∀ q, Calls Try.prog 17 #[.slice (some ⟨b1, o1, none⟩) L c1, .int .i64 (E : Int), .int .i64 (N : Int)] (w3.drewN q) fun e w' => e = .returned (.slice (some ⟨b1, o1 + E, none⟩) N (c1 - E)) ∧ w' = w3.drewN q) := Lib.hid fun q => again_any E N (w3.drewN q) (by omega) (by omega) (by omega) hcm1
      obtain ⟨T, hT⟩ : ∃ T, T = (s.drop k).take N := ⟨_, rfl⟩
      rw [← hE, ← hT] at hpc
      have k1 : ∀ j, (convert 22 9 (.slice (some ⟨b1, o1 + k, none⟩) N (c1 - k))).run Try.prog (w3.drewN j) = .ok (.string ⟨T.toArray⟩) (w3.drewN j) := fun j => by
        rw [hT]
        exact conv_own (((HB3.out.drop k (by omega)).take N (by omega)).below (Nat.le_refl _) (quiet_below _ j))
      have k2 : ∀ j, (convert 22 9 (.slice (some ⟨b1, o1 + E, none⟩) N (c1 - E))).run Try.prog (w3.drewN j) = .ok (.string ⟨T.toArray⟩) (w3.drewN j) := fun j => by
        rw [← hpc]
        exact conv_own (((HB3.out.drop E (by omega)).take N (by omega)).below (Nat.le_refl _) (quiet_below _ j))
      clear hpc hT hA hE
      go_quiet ((go_at_call 17; refine Calls.quiet_of_same (HQ.out _)))
      clear g0 g0' g1 g1' g2 g2' g3 k1 k2 eA eE eA2 eE2 eA3 f1 f2 f3 HQ
      go_wp2_with fail
      go_meet
      case rel => exact ⟨rfl, Lib.hid ((Drew.refl _).more nq)⟩
  obtain ⟨rfl, HD0⟩ := hcut
  clear hnn
  go_wp2_with fail
  go_loopw [12] (fun v wr => ∃ q : Nat, q ≤ k ∧ v = .int .i64 (q : Int) ∧ Hid (Drew w3 wr)) (fun v _ => k - (intOf v).toNat)
  case atStart => exact ⟨0, Nat.zero_le _, rfl, HD0⟩
  case round =>
    clear HD0
    obtain ⟨q, hq, rfl, HD⟩ := hrel
    by_cases hqk : q < k
    · have g1 : decide (q < k) = true := by simp; omega
      obtain ⟨m, hm⟩ : ∃ m, m = min 258 (L - k) := ⟨_, rfl⟩
      have hmL : k + m ≤ L := by omega
      have hm258 : m ≤ 258 := by omega
      have hmx : m = 258 ∨ k + m = L := by omega
      have HM : Hid (m = min 258 (s.length - k)) := Lib.hid (by rw [← HLS.out]; exact hm)
      clear hm
      go_wp2_with fail
      obtain ⟨wo, rfl⟩ : ∃ wo : World, wo = wr := ⟨_, rfl⟩
      go_loopw [13] (fun v wr => ∃ j : Nat, v = .int .i64 (j : Int) ∧ j ≤ m ∧ Hid (∀ i, i < j → at_ s (q + i) = at_ s (k + i)) ∧ Hid (Drew w3 wr)) (fun v _ => m - (intOf v).toNat)
      case atStart => exact ⟨0, rfl, by omega, Lib.hid (fun i hi => by omega), HD⟩
      case round =>
        clear HD
        obtain ⟨j, rfl, hjm, HE, HD⟩ := hrel
        go_upto_region 15 with (fail)
        go_cut [105] (fun v wc => ∃ K : Bool, v = .bool K ∧ Hid (Drew w3 wc) ∧ Hid (K = true → j < m ∧ at_ s (q + j) = at_ s (k + j)) ∧ Hid (K = false → ml s q k m = j))
        case first =>
          obtain ⟨P, hP⟩ : ∃ P, P = q + j := ⟨_, rfl⟩
          obtain ⟨Q, hQ⟩ : ∃ Q, Q = k + j := ⟨_, rfl⟩
          have eP : (q : Int) + (j : Int) = (P : Int) := by omega
          have eQ : (k : Int) + (j : Int) = (Q : Int) := by omega
          have eP2 : IntKind.i64.wrap (P : Int) = (P : Int) := IntWalk.i64_in _ (by omega)
          have eQ2 : IntKind.i64.wrap (Q : Int) = (Q : Int) := IntWalk.i64_in _ (by omega)
          by_cases hlt : j < m
          · have g1 : decide (Q < L) = true := by simp; omega
            have g2 : decide ((j : Int) < 258) = true := by simp; omega
            have g2' : decide (j < 258) = true := by simp; omega
            have hPL : P < s.length := by rw [← HLS.out]; omega
            have hQL : Q < s.length := by rw [← HLS.out]; omega
            have HBr := HD.out.bytes HB3.out
            rw [HLS.out] at HBr
            have z1 := at_cell HBr P hPL
            have z2 := at_cell HBr Q hQL
            have hPL2 : P < L := by omega
            have hQL2 : Q < L := by omega
            clear HBr hPL hQL
            by_cases hxy : at_ s P = at_ s Q
            · have HF : Hid (at_ s (q + j) = at_ s (k + j)) := Lib.hid (by rw [← hP, ← hQ]; exact hxy)
              rw [hxy] at z1
              have g4 : (((at_ s Q).toNat : Int) == ((at_ s Q).toNat : Int)) = true := by simp
              generalize (at_ s Q).toNat = y1 at *
              clear hP hQ hxy
              go_quiet (fail)
              clear z1 z2 g1 g2 g2' g4 eP eQ eP2 eQ2
              go_wp2_with fail
              go_meet
              case rel => exact ⟨true, rfl, Lib.hid (HD.out.more nq), Lib.hid (fun _ => ⟨hlt, HF.out⟩), Lib.hid (fun e => by cases e)⟩
            · have HF : Hid (ml s q k m = j) := Lib.hid (ml_eq hjm HE.out (.inr (by rw [← hP, ← hQ]; exact hxy)))
              have g4 : (((at_ s P).toNat : Int) == ((at_ s Q).toNat : Int)) = false := by
                simp only [beq_eq_false_iff_ne, ne_eq]
                exact fun h => hxy (UInt8.toNat_inj.1 (by omega))
              generalize (at_ s P).toNat = y1 at *
              generalize (at_ s Q).toNat = y2 at *
              clear hP hQ hxy
              go_quiet (fail)
              clear z1 z2 g1 g2 g2' g4 eP eQ eP2 eQ2
              go_wp2_with fail
              go_meet
              case rel => exact ⟨false, rfl, Lib.hid (HD.out.more nq), Lib.hid (fun e => by cases e), Lib.hid (fun _ => HF.out)⟩
          · have HF : Hid (ml s q k m = j) := Lib.hid (ml_eq hjm HE.out (.inl (by omega)))
            by_cases hj2 : j < 258
            · have g2 : decide ((j : Int) < 258) = true := by simp; omega
              have g2' : decide (j < 258) = true := by simp; omega
              have g1 : decide (Q < L) = false := by simp; omega
              clear hP hQ
              go_quiet (fail)
              clear g1 g2 g2' eP eQ eP2 eQ2
              go_wp2_with fail
              go_meet
              case rel => exact ⟨false, rfl, Lib.hid (HD.out.more nq), Lib.hid (fun e => by cases e), Lib.hid (fun _ => HF.out)⟩
            · have g2 : decide ((j : Int) < 258) = false := by simp; omega
              have g2' : decide (j < 258) = false := by simp; omega
              clear hP hQ
              go_quiet (fail)
              clear g2 g2' eP eQ eP2 eQ2
              go_wp2_with fail
              go_meet
              case rel => exact ⟨false, rfl, Lib.hid (HD.out.more nq), Lib.hid (fun e => by cases e), Lib.hid (fun _ => HF.out)⟩
        obtain ⟨K, rfl, HD2, HK1, HK0⟩ := hcut
        cases K
        · have hj := HK0.out rfl
          have hmax : 3 ≤ j → j ≤ N ∧ (j = N → D + q ≤ k) := fun h3 => by
            rw [← hj, HM.out] at h3
            have := HMX.out q hqk h3
            rw [← HM.out, hj] at this
            exact this
          clear hj HK0 HK1 HE HD
          generalize wc = w5 at *
          by_cases h3 : 3 ≤ j
          · obtain ⟨h4, h5⟩ := hmax h3
            have g3 : decide ((j : Int) ≥ 3) = true := by simp; omega
            have g3' : decide (3 ≤ j) = true := by simp; omega
            have g4 : decide (N < j) = false := by simp; omega
            by_cases h6 : j = N
            · have h7 := h5 h6
              have g5 : ((j : Int) == (N : Int)) = true := by simp; omega
              obtain ⟨X, hX⟩ : ∃ X, X = k - q := ⟨_, rfl⟩
              have eX : (k : Int) - (q : Int) = (X : Int) := by omega
              have g6 : decide (X < D) = false := by simp; omega
              clear h6 hX hmax h5
              go_wp2_with fail
              go_roundw
              case rel => exact ⟨q + 1, by omega, by go_num, HD2⟩
              case measure => simp [intOf]; omega
            · have g5 : ((j : Int) == (N : Int)) = false := by simp; omega
              clear h6 hmax h5
              go_wp2_with fail
              go_roundw
              case rel => exact ⟨q + 1, by omega, by go_num, HD2⟩
              case measure => simp [intOf]; omega
          · have g3 : decide ((j : Int) ≥ 3) = false := by simp; omega
            have g3' : decide (3 ≤ j) = false := by simp; omega
            clear hmax
            go_wp2_with fail
            go_roundw
            case rel => exact ⟨q + 1, by omega, by go_num, HD2⟩
            case measure => simp [intOf]; omega
        · obtain ⟨h1, h2⟩ := HK1.out rfl
          have HE2 : Hid (∀ i, i < j + 1 → at_ s (q + i) = at_ s (k + i)) := Lib.hid (fun i hi => by
            by_cases hin : i < j
            · exact HE.out i hin
            · obtain rfl : i = j := by omega
              exact h2)
          clear HE h2 HK0 HK1 HD
          go_wp2_with fail
          go_roundw
          case rel => exact ⟨j + 1, by go_num, h1, HE2, HD2⟩
          case measure => simp [intOf]; omega
    · have g1 : decide (q < k) = false := by simp; omega
      have HEr := Lib.hid (HE3.out.trans (HD.out.below.mono HE3.out.size))
      go_wp2_with fail
      refine (told_any _).mono ?_
      rintro e w7 ⟨rfl, hb7⟩
      have HE7 := Lib.hid (HEr.out.trans (hb7.mono HEr.out.size))
      clear hb7 HD HEr
      go_wp2_with fail
      go_ret
      exact ⟨rfl, HE7.out⟩
end Go.Proofs.Ytfdfggomgaegoaa.MatC
