import Derived.Test.YtnkfnbkjmobbnaaGreatDoorMgBf
import Derived.Test.YtnkfnbkjmobbnaaGreatDoorMgBa

section
/-
  The document's Fixed of any tokens.
-/
namespace Go.Proofs.YtnkfnbkjmobbnaaGreatDoor.BlkC
open Go.RowKit Go.My BitMath CanMath TabMath
open LzMath (Tok May)
open LzC (TokIn tc may_any rmay_any)
open PackMath (sm)
open InfMath (Pc lp dp symL litc dstc xtr lite cst fixL fixD)

/-- One more token, by its symbol. -/
theorem rfx_lit {wide : Bool} {f : Nat → Tok} {k A N : Nat} (h0 : (f k).len = 0) (hA : (f k).byte.toNat = A) (hN : rfx wide f k = N) : rfx wide f (k + 1) = N + if A < 144 then 8 else 9 := by
  rw [rfx, hN]
  unfold rtk symL fxl
  rw [if_pos h0, if_pos h0, hA]
  have := (f k).byte.toNat_lt
  rw [hA] at this
  by_cases h : A < 144
  · rw [if_pos (.inl h), if_pos h]
  · rw [if_neg (by omega), if_neg h, if_pos (by omega)]
theorem rfx_mat {wide : Bool} {f : Nat → Tok} {k A X V B Y U N : Nat} (h0 : (f k).len ≠ 0) (hA : lp (f k).len.toNat wide = ⟨A, X, V⟩) (hB : dp (f k).dist.toNat = ⟨B, Y, U⟩) (h257 : 257 ≤ A) (hN : rfx wide f k = N) : rfx wide f (k + 1) = N + X + 5 + Y + if A < 280 then 7 else 8 := by
  rw [rfx, hN]
  unfold rtk symL fxl
  rw [if_neg h0, if_neg h0, hA, hB]
  simp only
  by_cases h : A < 280
  · rw [if_pos h, if_neg (by omega), if_neg (by omega)]; omega
  · rw [if_neg h, if_pos (by omega)]; omega
set_option maxRecDepth 100000 in
set_option maxHeartbeats 8000000 in
theorem rfixed_of (wide : Bool) (a : Option Addr) (len c : Nat) (f : Nat → Tok) (w : World) (h : TokIn w a len c f) (hn : len ≤ 100000) {K : Nat} (hK : K ≤ len) (hM : ∀ i, i < K → May wide (f i)) (hB : K < len → ¬ May wide (f K)) :
    Calls Tryz.prog 13 #[.slice a len c, .bool wide] w fun e w' => e = .returned (.int .i64 (fixZ wide f len K)) ∧ Below w.heap.size w w' := by
  have H := Lib.hid h
  have HM := Lib.hid hM
  have HNB := Lib.hid hB
  have hlc := h.le_cap
  have hcm := h.cap_le
  clear h hM hB
  go_enter Tryz.func13, Tryz.ntmps13
  go_wp2_with fail
  go_loopw [5, 6] (fun nv iv wr => ∃ k : Nat, k ≤ K ∧ iv = .int .i64 (k : Int) ∧ nv = .int .i64 (rfx wide f k : Int) ∧ Hid (Below w.heap.size w wr)) (fun _ iv _ => len - (intOf iv).toNat)
  case atStart => exact ⟨0, Nat.zero_le _, rfl, rfl, Lib.hid (Below.refl _ _)⟩
  case round =>
    obtain ⟨k, hk, rfl, rfl, HB⟩ := hrel
    have hle := rfx_le (n := k) fun i hi => HM.out i (by omega)
    obtain ⟨N, hN⟩ : ∃ N, N = rfx wide f k := ⟨_, rfl⟩
    rw [← hN] at hle ⊢
    have HN := Lib.hid hN
    clear hN
    by_cases hlt : k < len
    · obtain ⟨b, off, rfl, ho⟩ := (H.out.below (Nat.le_refl _) HB.out).get hlt
      obtain ⟨c0, c1, c2, hbl, wf⟩ := ho
      obtain ⟨t, ht⟩ : ∃ t, t = f k := ⟨_, rfl⟩
      rw [← ht] at c0 c1 c2
      obtain ⟨X, hX⟩ : ∃ X, X = wr.alloc (.cells (tc t) 54) := ⟨_, rfl⟩
      have HBL : Hid (Blk X wr.heap.size 54 (tc t)) := Lib.hid (by rw [hX]; exact Blk.new wr _ _)
      have HBX : Hid (Below w.heap.size w X) := Lib.hid (by rw [hX]; exact HB.out.alloc HB.out.size _)
      have HT := Lib.hid ht
      unfold tc at hX
      clear wf ht
      go_upto_region 6 with (fail)
      rw [← hX]
      clear hX c0 c1 c2 hbl
      generalize wr.heap.size = g at *
      have x0 : X.cell? ⟨g, 0, none⟩ = some (.int .i64 t.len) := HBL.out.cell 0
      have x1 : X.cell? ⟨g, 1, none⟩ = some (.int .i64 t.dist) := HBL.out.cell 1
      have x2 : X.cell? ⟨g, 2, none⟩ = some (.int .u8 (t.byte.toNat : Int)) := HBL.out.cell 2
      go_wp2_with fail
      refine (rmay_any wide t X).mono ?_
      rintro e w1 ⟨rfl, hb⟩
      have HB1 : Hid (Below w.heap.size w w1) := Lib.hid (HBX.out.trans (hb.mono HBX.out.size))
      have HL1 : Hid (Blk w1 g 54 (tc t)) := Lib.hid (HBL.out.same (hb.block g HBL.out.lt))
      clear hb x0 x1 x2 HBL HBX
      by_cases hkK : k < K
      · have hmay := HM.out k hkK
        have hm : decide (May wide t) = true := by rw [HT.out]; exact decide_eq_true hmay
        rw [hm]
        clear hm
        have x0 : w1.cell? ⟨g, 0, none⟩ = some (.int .i64 t.len) := HL1.out.cell 0
        have x1 : w1.cell? ⟨g, 1, none⟩ = some (.int .i64 t.dist) := HL1.out.cell 1
        have x2 : w1.cell? ⟨g, 2, none⟩ = some (.int .u8 (t.byte.toNat : Int)) := HL1.out.cell 2
        by_cases h0 : t.len = 0
        · have hbt := t.byte.toNat_lt
          obtain ⟨A, hA⟩ : ∃ A : Nat, A = t.byte.toNat := ⟨_, rfl⟩
          rw [← hA] at x2 hbt
          have HS : Hid (rfx wide f (k + 1) = N + if A < 144 then 8 else 9) := Lib.hid (rfx_lit (by rw [← HT.out]; exact h0) (by rw [← HT.out]; exact hA.symm) HN.out.symm)
          rw [h0] at x0
          clear hA hmay
          by_cases h1 : A < 144
          · rw [if_pos h1] at HS
            go_wp2_with fail
            go_roundw
            case rel => exact ⟨k + 1, by omega, by go_num, by rw [HS.out]; go_num, HB1⟩
            case measure => simp [intOf]; omega
          · rw [if_neg h1] at HS
            have h2 : ¬ (280 : Int) ≤ (A : Int) := by omega
            have h3 : (A : Int) < 256 := by omega
            go_wp2_with fail
            go_roundw
            case rel => exact ⟨k + 1, by omega, by go_num, by rw [HS.out]; go_num, HB1⟩
            case measure => simp [intOf]; omega
        · obtain ⟨q1, q2, q3, q4, e1, e2⟩ := InfMath.mat_of (by rw [HT.out]; exact hmay) h0
          obtain ⟨L, hL⟩ : ∃ L, L = t.len.toNat := ⟨_, rfl⟩
          obtain ⟨D, hD⟩ : ∃ D, D = t.dist.toNat := ⟨_, rfl⟩
          rw [← hL] at q1 q2 e1
          rw [← hD] at q3 q4 e2
          rw [← e1] at x0
          rw [← e2] at x1
          obtain ⟨A, LX, LV, hA⟩ : ∃ A LX LV, lp L wide = ⟨A, LX, LV⟩ := ⟨_, _, _, rfl⟩
          obtain ⟨B, DX, DV, hB⟩ : ∃ B DX DV, dp D = ⟨B, DX, DV⟩ := ⟨_, _, _, rfl⟩
          obtain ⟨lb, -, -, -, la5, la4, la6⟩ := InfMath.lp_base L wide q1 q2
          obtain ⟨db, -, -, -, db4, db5⟩ := InfMath.dp_far D wide q3 q4
          rw [hA] at la5 la4 la6
          rw [hB] at db4 db5
          simp only at la5 la4 la6 db4 db5
          have HS : Hid (rfx wide f (k + 1) = N + LX + 5 + DX + if A < 280 then 7 else 8) := Lib.hid (rfx_mat (by rw [← HT.out]; exact h0) (by rw [← HT.out, ← hL]; exact hA) (by rw [← HT.out, ← hD]; exact hB) la5 HN.out.symm)
          have HSY := Lib.hid (rsym_yes L wide w1 q1 q2)
          have HRE := Lib.hid (rrea_any (D : Int) wide w1 (by cases wide <;> simp at q4 <;> omega))
          have HRV : Hid (reachV (D : Int) wide = ans3 ⟨B, DX, DV⟩) := Lib.hid (by
            unfold reachV
            rw [if_pos ⟨by omega, by rw [md_nat]; omega⟩, Int.toNat_natCast, hB])
          rw [hA] at HSY
          rw [HRV.out] at HRE
          have hl0 : (0 : Int) < (L : Int) := by omega
          have hL6 : L ≤ 65538 := by cases wide <;> simp at q2 <;> omega
          have hD6 : D ≤ 65536 := by cases wide <;> simp at q4 <;> omega
          clear hA hB hL hD h0 e1 e2 q1 q2 q3 q4 hmay db4 HRV
          unfold ans3 at HSY HRE
          simp only at HSY HRE
          go_wp2_with fail
          refine HSY.out.mono ?_
          rintro e w2 ⟨rfl, rfl⟩
          go_wp2_with fail
          refine HRE.out.mono ?_
          rintro e w2 ⟨rfl, rfl⟩
          have h1 : ¬ (A : Int) < 144 := by omega
          by_cases h2 : A < 280
          · rw [if_pos h2] at HS
            have h3 : ¬ (280 : Int) ≤ (A : Int) := by omega
            have h4 : ¬ (A : Int) < 256 := by omega
            go_wp2_with fail
            go_roundw
            case rel => exact ⟨k + 1, by omega, by go_num, by rw [HS.out]; go_num, HB1⟩
            case measure => simp [intOf]; omega
          · rw [if_neg h2] at HS
            have h3 : (280 : Int) ≤ (A : Int) := by omega
            go_wp2_with fail
            go_roundw
            case rel => exact ⟨k + 1, by omega, by go_num, by rw [HS.out]; go_num, HB1⟩
            case measure => simp [intOf]; omega
      · obtain rfl : k = K := by omega
        have hm : decide (May wide t) = false := by rw [HT.out]; exact decide_eq_false (HNB.out hlt)
        rw [hm]
        clear hm
        have HZ : Hid (fixZ wide f len k = -1) := Lib.hid (by unfold fixZ; rw [if_pos hlt])
        go_wp2_with fail
        go_ret
        exact ⟨by rw [HZ.out]; rfl, HB1.out⟩
    · obtain rfl : k = len := by omega
      obtain rfl : K = k := by omega
      have HZ : Hid (fixZ wide f K K = (N : Int)) := Lib.hid (by unfold fixZ; rw [if_neg (by omega), HN.out])
      go_wp2_with fail
      go_ret
      exact ⟨by rw [HZ.out]; rfl, HB.out⟩
end Go.Proofs.YtnkfnbkjmobbnaaGreatDoor.BlkC
end

section
/-
  The document's Stored of any number.
-/
namespace Go.Proofs.YtnkfnbkjmobbnaaGreatDoor.BlkC
open Go.RowKit Go.My BitMath

theorem rsto_nums {n : Nat} (h1 : 1 ≤ n) (hn : n ≤ 1073741824) : ∃ M : Nat, Hid (sto n = n + 5 * (M + 1)) ∧ ((n : Int) - 1) / 65535 = (M : Int) ∧ M ≤ 20000 := by
  obtain ⟨M, hM⟩ : ∃ M : Nat, M = (n - 1) / 65535 := ⟨_, rfl⟩
  exact ⟨M, Lib.hid (by unfold sto; omega), by omega, by omega⟩
set_option maxRecDepth 100000 in
set_option maxHeartbeats 1000000 in
theorem rstored_num (z : Int) (w : World) (hz : -9223372036854775808 ≤ z ∧ z ≤ 9223372036854775807) : Calls Tryz.prog 14 #[.int .i64 z] w fun e w' => e = .returned (.int .i64 (stoZ z : Int)) ∧ w = w' := by
  by_cases h : z < 0
  · have HS : Hid (stoZ z = 0) := Lib.hid (by unfold stoZ; rw [if_pos h])
    go_enter Tryz.func14, Tryz.ntmps14
    go_wp2_with fail
    go_ret
    exact ⟨by rw [HS.out]; rfl, rfl⟩
  · by_cases h0 : z = 0
    · subst h0
      have HS : Hid (stoZ 0 = 5) := Lib.hid (by decide)
      clear h hz
      go_enter Tryz.func14, Tryz.ntmps14
      go_wp2_with fail
      go_ret
      exact ⟨by rw [HS.out]; rfl, rfl⟩
    · have HS : Hid (stoZ z = sto (min z.toNat 1073741824)) := Lib.hid (by unfold stoZ; rw [if_neg h])
      obtain ⟨n, hn⟩ : ∃ n : Nat, n = min z.toNat 1073741824 := ⟨_, rfl⟩
      have hn2 : n ≤ 1073741824 := by omega
      have hn1 : 1 ≤ n := by omega
      have hmin : (if (1073741824 : Int) < z then (1073741824 : Int) else z) = (n : Int) := by split <;> omega
      rw [← hn] at HS
      obtain ⟨M, HK, hdiv, hm2⟩ := rsto_nums hn1 hn2
      have HD := Lib.hid hdiv
      have hz0 : decide (z < 0) = false := decide_eq_false h
      have hz1 : (z == 0) = false := by simp [h0]
      clear h h0 hn hz hdiv
      go_enter Tryz.func14, Tryz.ntmps14
      go_upto_region 6 with (fail)
      clear hmin hz0 hz1
      have hdiv := HD.out
      go_wp2_with fail
      go_ret
      refine ⟨?_, rfl⟩
      rw [HS.out, HK.out]
      exact ret_int (by push_cast; rfl)
end Go.Proofs.YtnkfnbkjmobbnaaGreatDoor.BlkC
end
