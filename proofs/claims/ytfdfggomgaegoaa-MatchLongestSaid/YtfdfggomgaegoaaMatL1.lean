/-
  MatchFinds' law.
-/
import Derived.Test.YtfdfggomgaegoaaMatL2
import Derived.Test.YtfdfggomgaegoaaInts
namespace Go.Proofs.Ytfdfggomgaegoaa.MatC
open Go.RowKit Go.My MatMath LzC

/-- Find at any index of all. -/
theorem find_int (g : Nat) (p : Pl) (s : List UInt8) (at' : Int) (w : World) (h : Fnd w g p.store p.chain p.lazy p.good p.wide s) (hch : (Lit.int .i64 p.chain).wf = true) (n d : Nat) (hf : findI s p.chain p.good p.wide at' = (n, d)) :
    Calls Try.prog 11 #[.pointer (some ⟨g, 0, none⟩), .int .i64 at'] w fun e w' => e = .returned (.tuple #[.int .i64 (n : Int), .int .i64 (d : Int)]) ∧ Drew w w' := by
  have e : nd (findI s p.chain p.good p.wide at') = .tuple #[.int .i64 (n : Int), .int .i64 (d : Int)] := by rw [hf]; rfl
  rw [← e]
  by_cases ha : 0 ≤ at' ∧ at' + 3 ≤ (s.length : Int)
  · obtain ⟨k, rfl⟩ := Int.eq_ofNat_of_zero_le ha.1
    have e2 : findI s p.chain p.good p.wide (k : Int) = find s p.chain p.good p.wide k := by unfold findI; rw [if_pos (by omega)]; simp
    rw [e2]
    exact find_yes g p.store p.chain p.lazy p.good p.wide s k w h (by omega) hch
  · exact find_no g p.store p.chain p.lazy p.good p.wide s at' w h (by omega)
theorem rfind_int {ad : Option Addr} {c : Nat} (p : Pl) (s : List UInt8) (at' : Int) (w : World) (hb : Bytes w ad s.length c s) (hl : s.length ≤ 1000000000) (hch : (Lit.int .i64 p.chain).wf = true) (n d : Nat) (hf : findI s p.chain p.good p.wide at' = (n, d)) :
    Calls Try.prog 12 #[.slice ad s.length c, pv p.store p.chain p.lazy p.good, .bool p.wide, .int .i64 at'] w fun e w' => e = .returned (.tuple #[.int .i64 (n : Int), .int .i64 (d : Int)]) ∧ Below w.heap.size w w' := by
  have e : nd (findI s p.chain p.good p.wide at') = .tuple #[.int .i64 (n : Int), .int .i64 (d : Int)] := by rw [hf]; rfl
  rw [← e]
  by_cases ha : 0 ≤ at' ∧ at' + 3 ≤ (s.length : Int)
  · obtain ⟨k, rfl⟩ := Int.eq_ofNat_of_zero_le ha.1
    have e2 : findI s p.chain p.good p.wide (k : Int) = find s p.chain p.good p.wide k := by unfold findI; rw [if_pos (by omega)]; simp
    rw [e2]
    exact rfind_yes p.store p.chain p.lazy p.good p.wide s k w hb hl (by omega) hch
  · exact rfind_no p.store p.chain p.lazy p.good p.wide s at' w hl (by omega)

set_option maxRecDepth 100000 in
set_option maxHeartbeats 16000000 in
theorem finds_law {a a4 : Option Addr} {len cap len4 cap4 : Nat} {b : List UInt8} (n : Int) (p : Pl) (w : World) (hb : Bytes w a len cap b) (hi : Ints w a4 len4 cap4) (hch : (Lit.int .i64 p.chain).wf = true) :
    Calls Try.prog 3 #[.slice a len cap, .int .i64 n, pv p.store p.chain p.lazy p.good, .bool p.wide, .slice a4 len4 cap4] w fun e w' => e = .returned (.bool true) ∧ Below w.heap.size w w' := by
  have HB := Lib.hid hb
  have HI := Lib.hid hi
  have HL := Lib.hid hb.len_eq
  have hlc := hb.le_cap
  have hcm := hb.cap_le
  have hic := hi.1
  have him := hi.2.1
  clear hb hi
  unfold pv
  by_cases hbig : 200 < len
  · go_enter Try.func3, Try.ntmps3
    go_wp2_with fail
    refine (told_any _).mono ?_
    rintro e w2 ⟨rfl, hbe⟩
    have HBE := Lib.hid (((Below.refl _ w).alloc (Nat.le_refl _) (.cells #[.bool p.store, .int .i64 p.chain, .bool p.lazy, .int .i64 p.good] 24)).trans (hbe.mono (by simp)))
    clear hbe
    go_wp2_with fail
    go_ret
    exact ⟨rfl, HBE.out⟩
  · obtain ⟨W, hW⟩ : ∃ W, W = w.alloc (.cells #[.bool p.store, .int .i64 p.chain, .bool p.lazy, .int .i64 p.good] 24) := ⟨_, rfl⟩
    have hbl : Below w.heap.size w W := by rw [hW]; exact (Below.refl _ w).alloc (Nat.le_refl _) _
    have HP : Hid (PlAt W w.heap.size p) := Lib.hid (by rw [hW]; exact PlAt.new w p)
    have HBW := Lib.hid (HB.out.below (Nat.le_refl _) hbl)
    have HBE := Lib.hid hbl
    have HW := Lib.hid hW
    clear hbl hW
    obtain ⟨G, hG⟩ : ∃ G, G = w.heap.size := ⟨_, rfl⟩
    rw [← hG] at HP
    have HG := Lib.hid hG
    clear hG
    go_enter Try.func3, Try.ntmps3
    go_wp2_with fail
    rw [← HW.out, ← HG.out]
    refine (long_any n W HBW.out (by omega)).mono ?_
    intro e w1 h1
    obtain ⟨a1, c1, rfl, hb1, hl1⟩ := own_ret h1
    have HB1 := Lib.hid hb1
    have HP1 := Lib.hid (HP.out.below hl1)
    have HE1 := Lib.hid (HBE.out.trans (hl1.mono HBE.out.size))
    have hrl : (rep b (times n)).length ≤ 1600 := rep_le b n 200 (by rw [HL.out]; omega)
    clear h1 hb1 hl1 HP HBE HBW HW
    generalize rep b (times n) = s at *
    have HO : Hid (Own 5 w1.heap.size (w1.alloc (.cells #[] 5)) (.slice (some ⟨w1.heap.size, 0, none⟩) 0 0) []) := Lib.hid (Own.empty _ w1 (Nat.le_refl _))
    have HB2 : Hid (Bytes (w1.alloc (.cells #[] 5)) a1 s.length c1 s) := Lib.hid (HB1.out.below (Nat.le_refl _) ((Below.refl _ w1).alloc (Nat.le_refl _) _))
    go_wp2_with (at_builtin; refine wpList_append_lie (by rfl) (.tmp 27) (.tmp 28) 22 rfl w1.heap.size 5 Try.underlying22 RefC.info5 (.slice (some ⟨w1.heap.size, 0, none⟩) 0 0) [] rfl HO.out a1 s.length c1 s rfl HB2.out (by simp; omega) (by simp) ?_)
    intro a2 c2 w2 hown hg _
    obtain ⟨a2', c2', he2, hb2⟩ := hown.bytes
    simp only [Value.slice.injEq, true_and] at he2
    obtain ⟨rfl, rfl⟩ := he2
    have HIN := Lib.hid hb2
    have hbel2 := grown_below HO.out ((Below.refl _ w1).alloc (Nat.le_refl _) _) hg (by simp)
    have HS2 := Lib.hid (HB1.out.below (Nat.le_refl _) hbel2)
    have HP2 := Lib.hid (HP1.out.below hbel2)
    have HE2 := Lib.hid (HE1.out.trans (hbel2.mono HE1.out.size))
    clear hown hg hb2 hbel2 HO HB2 HB1 HP1 HE1
    have p0 := HP2.out.1
    have p1 := HP2.out.2.1
    have p2 := HP2.out.2.2.1
    have p3 := HP2.out.2.2.2.1
    have hnw := new_any p.store p.chain p.lazy p.good p.wide w2 HIN.out (by omega)
    unfold pv at hnw
    have HNW := Lib.hid hnw
    clear hnw
    go_wp2_with fail
    refine HNW.out.mono ?_
    rintro e w3 ⟨g, rfl, hf, hb3, hgg⟩
    have HF := Lib.hid hf
    have HP3 := Lib.hid (HP2.out.below hb3)
    have HS3 := Lib.hid (HS2.out.below (Nat.le_refl _) hb3)
    have HIN3 := Lib.hid (HIN.out.below (Nat.le_refl _) hb3)
    have HE3 := Lib.hid (HE2.out.trans (hb3.mono HE2.out.size))
    clear hf hb3 hgg HNW HP2 HS2 HIN HE2 p0 p1 p2 p3
    go_wp2_with fail
    obtain ⟨L, hL2⟩ : ∃ L, L = s.length := ⟨_, rfl⟩
    rw [← hL2] at HS3 HIN3 hrl ⊢
    have HLS := Lib.hid hL2
    clear hL2
    go_loopw [14] (fun v wr => ∃ k : Nat, k ≤ len4 ∧ k ≤ 60 ∧ v = .int .i64 (k : Int) ∧ Hid (Below w3.heap.size w3 wr)) (fun v _ => len4 - (intOf v).toNat)
    case atStart => exact ⟨0, Nat.zero_le _, Nat.zero_le _, rfl, Lib.hid (Below.refl _ _)⟩
    case round =>
      obtain ⟨k, hk, hk60, rfl, HW⟩ := hrel
      have HEr := Lib.hid (HE3.out.trans (HW.out.mono HE3.out.size))
      go_upto_region 9 with (fail)
      go_cut [43] (fun v wc => v = .bool (decide (k < len4 ∧ k < 60)) ∧ wc = wr)
      case first =>
        by_cases h1 : k < len4
        · have g1 : decide (k < len4) = true := by simp; omega
          by_cases h2 : k < 60
          · have g2 : decide ((k : Int) < 60) = true := by simp; omega
            have HD : Hid (decide (k < len4 ∧ k < 60) = true) := Lib.hid (by simp; omega)
            go_wp2_with fail
            go_meet
            case rel => exact ⟨by rw [HD.out], rfl⟩
          · have g2 : decide ((k : Int) < 60) = false := by simp; omega
            have HD : Hid (decide (k < len4 ∧ k < 60) = false) := Lib.hid (by simp; omega)
            go_wp2_with fail
            go_meet
            case rel => exact ⟨by rw [HD.out], rfl⟩
        · have g1 : decide (k < len4) = false := by simp; omega
          have HD : Hid (decide (k < len4 ∧ k < 60) = false) := Lib.hid (by simp; omega)
          go_wp2_with fail
          go_meet
          case rel => exact ⟨by rw [HD.out], rfl⟩
      obtain ⟨rfl, rfl⟩ := hcut
      by_cases hlt : k < len4 ∧ k < 60
      · rw [show decide (k < len4 ∧ k < 60) = true by simpa using hlt]
        obtain ⟨hk4, hk6⟩ := hlt
        obtain ⟨bb, oo, rfl, z, hz1, hz2, x0⟩ := HI.out.get HEr.out k hk4
        have hand := i64_and_mask (k : Int) 2 (by omega) 3 4 (by decide) (by decide)
        obtain ⟨m4, hm4⟩ : ∃ m4, m4 = k % 4 := ⟨_, rfl⟩
        have hand2 : (k : Int) % 4 = (m4 : Int) := by omega
        rw [hand2] at hand
        obtain ⟨Kb, hKb⟩ : ∃ Kb, Kb = (decide (0 < m4) && decide (0 < L)) := ⟨_, rfl⟩
        have HKB := Lib.hid hKb
        clear hKb hand2 hm4
        go_upto_region 12 with (fail)
        go_cut [57] (fun v wx => v = .bool Kb ∧ wx = wc)
        case first =>
          by_cases h1 : 0 < m4
          · have g1 : decide ((m4 : Int) > 0) = true := by simp; omega
            have g1' : decide (0 < m4) = true := by simp; omega
            by_cases h2 : 0 < L
            · have g2 : decide ((L : Int) > 0) = true := by simp; omega
              have g2' : decide (0 < L) = true := by simp; omega
              have HE : Hid (Kb = true) := Lib.hid (by rw [HKB.out, g1', g2']; rfl)
              go_wp2_with fail
              go_meet
              case rel => exact ⟨by rw [HE.out], rfl⟩
            · have g2 : decide ((L : Int) > 0) = false := by simp; omega
              have g2' : decide (0 < L) = false := by simp; omega
              have HE : Hid (Kb = false) := Lib.hid (by rw [HKB.out, g1', g2']; rfl)
              go_wp2_with fail
              go_meet
              case rel => exact ⟨by rw [HE.out], rfl⟩
          · have g1 : decide ((m4 : Int) > 0) = false := by simp; omega
            have g1' : decide (0 < m4) = false := by simp; omega
            have HE : Hid (Kb = false) := Lib.hid (by rw [HKB.out, g1']; rfl)
            go_wp2_with fail
            go_meet
            case rel => exact ⟨by rw [HE.out], rfl⟩
        obtain ⟨rfl, rfl⟩ := hcut
        clear hand x0
        generalize wc = w4 at *
        go_upto_if 57 with (fail)
        go_cut [15] (fun v wx => ∃ y : Int, v = .int .i64 y ∧ wx = w4)
        case first =>
          cases Kb with
          | false =>
            go_wp2_with fail
            go_meet
            case rel => exact ⟨z, rfl, rfl⟩
          | true =>
            have hL0 : 0 < L := by
              have h1 := HKB.out
              by_cases h : 0 < L
              · exact h
              · rw [show decide (0 < L) = false by simpa using h, Bool.and_false] at h1
                cases h1
            go_wp2_with fail
            go_meet
            case rel => exact ⟨_, rfl, rfl⟩
        obtain ⟨y, rfl, rfl⟩ := hcut
        generalize wc = w5 at *
        obtain ⟨N, D, hnd⟩ : ∃ N D, findI s p.chain p.good p.wide y = (N, D) := ⟨_, _, rfl⟩
        have HC1 := Lib.hid (find_int g p s y w5 (HF.out.below HW.out) hch N D hnd)
        have HC2 := Lib.hid (fun (wx : World) (hx : Bytes wx a1 s.length c1 s) => rfind_int p s y wx hx (by rw [← HLS.out]; omega) hch N D hnd)
        unfold pv at HC2
        rw [← HLS.out] at HC2
        clear hnd HKB
        go_wp2_with fail
        refine HC1.out.mono ?_
        rintro e w6 ⟨rfl, hd6⟩
        have HW6 := Lib.hid (HW.out.trans (hd6.below.mono HW.out.size))
        have HP6 := Lib.hid (HP3.out.below HW6.out)
        have p0 := HP6.out.1
        have p1 := HP6.out.2.1
        have p2 := HP6.out.2.2.1
        have p3 := HP6.out.2.2.2.1
        clear hd6 HC1 HW
        go_wp2_with fail
        refine (HC2.out w6 (HS3.out.below (Nat.le_refl _) HW6.out)).mono ?_
        rintro e w7 ⟨rfl, hb7⟩
        have HW7 := Lib.hid (HW6.out.trans (hb7.mono HW6.out.size))
        have g1 : ((N : Int) != (N : Int)) = false := by simp
        have g2 : ((D : Int) != (D : Int)) = false := by simp
        clear hb7 HC2 HW6 HP6 p0 p1 p2 p3
        go_wp2_with fail
        go_roundw
        case rel => exact ⟨k + 1, by omega, by omega, by go_num, HW7⟩
        case measure => simp [intOf]; omega
      · rw [show decide (k < len4 ∧ k < 60) = false by simpa using hlt]
        go_wp2_with fail
        refine (told_any _).mono ?_
        rintro e w7 ⟨rfl, hb7⟩
        have HW7 := Lib.hid (HW.out.trans (hb7.mono HW.out.size))
        have HE7 := Lib.hid (HE3.out.trans (HW7.out.mono HE3.out.size))
        have hz1 := HS3.out.below (Nat.le_refl _) HW7.out
        have hz2 := HIN3.out.below (Nat.le_refl _) HW7.out
        have k1 := conv_own hz1
        have k2 := conv_own hz2
        clear hz1 hz2 hb7 HW
        go_wp2_with fail
        go_ret
        exact ⟨rfl, HE7.out⟩
end Go.Proofs.Ytfdfggomgaegoaa.MatC
