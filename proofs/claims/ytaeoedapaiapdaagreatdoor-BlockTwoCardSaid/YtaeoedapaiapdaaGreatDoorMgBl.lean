import Derived.Test.YtaeoedapaiapdaaGreatDoorMgJ
import Derived.Test.YtaeoedapaiapdaaGreatDoorMgBw
import Derived.Test.YtaeoedapaiapdaaGreatDoorMgBa
import Derived.Test.YtaeoedapaiapdaaGreatDoorMgX

section
/-
  BlockTwo's law.
-/
namespace Go.Proofs.YtaeoedapaiapdaaGreatDoor.BlkC
open Go.RowKit Go.My BitMath BitC RefC
open LzMath (Tok tot sz GoodT Ok ex)
open LzC (TokIn EndsT Expanded size_all expand_all tokens_any cap)
open InfMath (Rd)

/-- What Tokens hands back. -/
def ToksR (w : World) (e : Ending) (w' : World) : Prop :=
  ∃ (f : Nat → Tok) (n : Nat) (a : Option Addr) (c : Nat), e = .returned (.slice a n c) ∧ n ≤ 61 ∧ tot f n ≤ 258 * n ∧ GoodT false f n ∧ Hid (TokIn w' a n c f) ∧ Hid (Below w.heap.size w w')
set_option maxRecDepth 100000 in
theorem toks_all (a : Option Addr) (len c : Nat) (g : Nat → Tok) (w : World) (h : TokIn w a len c g) :
    Calls Tryz.prog 7 #[.slice a len c] w (ToksR w) := by
  have HT := Lib.hid (tokens_any a len c g w h)
  go_enter Tryz.func7, Tryz.ntmps7
  go_wp2_with fail
  refine HT.out.mono ?_
  rintro e w1 ⟨f, n, a', c', rfl, h⟩
  go_wp2_with fail
  go_ret
  exact ⟨f, n, a', c', rfl, h⟩
/-- The bytes of a row of right tokens end where the row does. -/
theorem ends_good {wide : Bool} {f : Nat → Tok} {n : Nat} (h : GoodT false f n) : EndsT wide f n n := by
  have h2 : GoodT wide f n := by
    cases wide
    · exact h
    · exact LzMath.good_wide h
  exact ⟨Nat.le_refl _, h2, fun h => absurd h (Nat.lt_irrefl _)⟩
set_option maxRecDepth 100000 in
set_option maxHeartbeats 8000000 in
theorem two_law (a1 : Option Addr) (len1 cap1 : Nat) (g1 : Nat → Tok) (a2 : Option Addr) (len2 cap2 : Nat) (g2 : Nat → Tok) (wide : Bool) (w : World) (h1 : TokIn w a1 len1 cap1 g1) (h2 : TokIn w a2 len2 cap2 g2) (hT : Tbls w.heap.size w) :
    Calls Tryz.prog 4 #[.slice a1 len1 cap1, .slice a2 len2 cap2, .bool wide] w fun e w' => e = .returned (.bool true) ∧ Below w.heap.size w w' := by
  have H1 := Lib.hid h1
  have H2 := Lib.hid h2
  have HT0 := Lib.hid hT
  have hl1 := h1.le_cap
  have hm1 := h1.cap_le
  have hl2 := h2.le_cap
  have hm2 := h2.cap_le
  clear h1 h2 hT
  go_enter Tryz.func4, Tryz.ntmps4
  by_cases hlt : 50 < len1
  · have HT := Lib.hid (told_any w)
    go_wp2_with fail
    refine HT.out.mono ?_
    rintro e w1 ⟨rfl, hb⟩
    go_wp2_with fail
    go_ret
    exact ⟨rfl, hb⟩
  · by_cases hlt2 : 50 < len2
    · have HT := Lib.hid (told_any w)
      go_wp2_with fail
      refine HT.out.mono ?_
      rintro e w1 ⟨rfl, hb⟩
      go_wp2_with fail
      go_ret
      exact ⟨rfl, hb⟩
    · have HK1 := Lib.hid (toks_all a1 len1 cap1 g1 w H1.out)
      have HK2 := Lib.hid (fun w' (hb : Below w.heap.size w w') => toks_all a2 len2 cap2 g2 w' (H2.out.below (Nat.le_refl _) hb))
      go_wp2_with fail
      refine HK1.out.mono ?_
      rintro e w1 ⟨f1, n1, b1, c1, rfl, hn1, ht1, hg1, hi1, hb1⟩
      clear HK1
      have HB1 := Lib.hid hb1.out
      have HI1 := Lib.hid hi1.out
      have HG1 := Lib.hid hg1
      have HK3 := Lib.hid (HK2.out w1 hb1.out)
      have hn1' := hi1.out.le_cap
      have hn1'' := hi1.out.cap_le
      clear hi1 hb1 hg1 HK2 H1 H2
      go_wp2_with fail
      refine HK3.out.mono ?_
      rintro e w2 ⟨f2, n2, b2, c2, rfl, hn2, ht2, hg2, hi2, hb2⟩
      clear HK3
      have HI3 := Lib.hid (HI1.out.below (Nat.le_refl _) hb2.out)
      have HS1 : Hid (∀ b off, 0 < n1 → b1 = some ⟨b, off, none⟩ → b < w2.heap.size) := Lib.hid (fun b off h0 e => by
        obtain ⟨b', off', e', -, -, -, hlt', -⟩ := HI3.out.get h0
        rw [e] at e'
        injection e' with e'
        injection e' with e' _
        omega)
      have HS2 : Hid (∀ b off, 0 < n2 → b2 = some ⟨b, off, none⟩ → b < w2.heap.size) := Lib.hid (fun b off h0 e => by
        obtain ⟨b', off', e', -, -, -, hlt', -⟩ := hi2.out.get h0
        rw [e] at e'
        injection e' with e'
        injection e' with e' _
        omega)
      have HB2 := Lib.hid (HB1.out.trans (hb2.out.mono HB1.out.size))
      have HI2 := Lib.hid hi2.out
      have HG2 := Lib.hid hg2
      have hn2' := hi2.out.le_cap
      have hn2'' := hi2.out.cap_le
      clear hi2 hb2 hg2 HI1 HB1
      go_wp2_with fail
      refine (new_writer w2).mono ?_
      rintro e w3 ⟨rfl, h3⟩
      have HW3 : Hid (Wr w2.heap.size w3 w2.heap.size none []) := Lib.hid (by rw [← h3]; exact wr_new w2)
      have hb23 : Below w2.heap.size w2 w3 := by rw [← h3]; exact (Below.refl _ w2).alloc (Nat.le_refl _) _
      have HT3 := Lib.hid ((HT0.out.below HB2.out (Nat.le_refl _)).more HB2.out.size)
      have HWR := Lib.hid (write_any w2.heap.size w2.heap.size none [] wide false b1 n1 c1 f1 n1 w3 (HI3.out.below (Nat.le_refl _) hb23) (fun h0 b off e hk => by
        have := HS1.out b off h0 e
        have := HW3.out.fp b hk
        omega) (ends_good HG1.out) (by omega) (by omega) HW3.out (by simp) (HT3.out.below hb23 (Nat.le_refl _)))
      have HB23 := Lib.hid hb23
      have HP3 := Lib.hid HW3.out.fp
      clear h3 hb23 HW3
      go_wp2_with fail
      refine HWR.out.mono ?_
      rintro e w4 (⟨hk, -⟩ | ⟨-, rfl, X1, r1, hw4, ho4, -, hr1, -, hx1⟩)
      · omega
      have hb24 : Below w2.heap.size w2 w4 := HB23.out.trans (ho4.below HB23.out.size HP3.out)
      have HR1 := Lib.hid hr1
      have HX1 : Hid (X1.length ≤ 200000) := Lib.hid (by simp [InfMath.gap] at hx1; unfold sto at hx1; omega)
      clear HWR hr1 hx1 ho4 HP3 HB23
      have HWR2 := Lib.hid (write_any w2.heap.size w2.heap.size r1 ([] ++ X1) wide true b2 n2 c2 f2 n2 w4 (HI2.out.below (Nat.le_refl _) hb24) (fun h0 b off e hk => by
        have := HS2.out b off h0 e
        have := hw4.fp b hk
        omega) (ends_good HG2.out) (by omega) (by omega) hw4 (by have := HX1.out; simp; omega) (HT3.out.below hb24 (Nat.le_refl _)))
      have HB24 := Lib.hid hb24
      have HP4 := Lib.hid hw4.fp
      clear hb24 hw4
      go_wp2_with fail
      refine HWR2.out.mono ?_
      rintro e w5 (⟨hk, -⟩ | ⟨-, rfl, X2, r2, hw5, ho5, -, hr2, -, hx2⟩)
      · omega
      have hb25 : Below w2.heap.size w2 w5 := HB24.out.trans (ho5.below HB24.out.size HP4.out)
      have HB25 := Lib.hid hb25
      have HRD : Hid (Rd wide 0 (X1 ++ X2) (ex f1 n1 ++ ex f2 n2) true) := Lib.hid (Rd.app (p := 0) HR1.out (by rw [Nat.zero_add]; exact hr2))
      have HX2 : Hid ((X1 ++ X2).length ≤ 400000) := Lib.hid (by have := HX1.out; simp [InfMath.gap] at hx2; unfold sto at hx2; rw [List.length_append]; omega)
      have HW5 : Hid (Wr w2.heap.size w5 w2.heap.size r2 (X1 ++ X2)) := Lib.hid hw5
      clear HWR2 hr2 hx2 ho5 HP4 HB24 hb25 hw5 HR1 HX1
      generalize X1 ++ X2 = Y at *
      have HBB := Lib.hid (bytes_any w2.heap.size w2.heap.size r2 Y w5 HW5.out (by have := HX2.out; omega))
      have HB5 := Lib.hid (HB2.out.trans (HB25.out.mono HB2.out.size))
      clear HT3 HT0 HS1 HS2
      obtain ⟨z, hz⟩ : ∃ z, bitsOf (pack Y) = Y ++ z := ⟨_, bitsOf_pack _⟩
      have HZ := Lib.hid hz
      have HPL : Hid ((pack Y).length ≤ 100000) := Lib.hid (by rw [pack_len]; have := HX2.out; omega)
      clear hz HX2
      go_wp2_with fail
      refine HBB.out.mono ?_
      rintro e w6 ⟨v6, rfl, ho6, hb6⟩
      clear HBB HW5
      obtain ⟨a6, c6, rfl, hby6⟩ := ho6.bytes
      have HB6 := Lib.hid (HB5.out.trans (hb6.mono HB5.out.size))
      have HB26 := Lib.hid (HB25.out.trans (hb6.mono HB25.out.size))
      have HOF := Lib.hid (refof_any a6 (pack Y).length c6 (pack Y) w6 hby6 (by have := HPL.out; omega))
      clear ho6 hb6 hby6 HB5 HB25
      go_wp2_with fail
      refine HOF.out.mono ?_
      rintro e w7 ⟨rfl, hb7⟩
      have HB7 := Lib.hid (HB6.out.trans (hb7.mono HB6.out.size))
      have HB27 := Lib.hid (HB26.out.trans (hb7.mono HB26.out.size))
      have HFR := Lib.hid (from_zero wide (pack Y) Y z (ex f1 n1 ++ ex f2 n2) w7 HPL.out HZ.out HRD.out (by rw [List.length_append, LzMath.ex_len, LzMath.ex_len]; omega))
      clear hb7 HOF HB6 HB26
      generalize txt (bitsOf (pack Y)) = sY at *
      clear HRD HZ HPL
      go_wp2_with fail
      refine HFR.out.mono ?_
      rintro e w8 ⟨ov, rfl, ho8, hb8⟩
      have HB8 := Lib.hid (HB7.out.trans (hb8.mono HB7.out.size))
      have hb28 := HB27.out.trans (hb8.mono HB27.out.size)
      have HO8 := Lib.hid ho8
      have HE1 := Lib.hid (expand_all wide b1 n1 c1 f1 n1 w8 (HI3.out.below (Nat.le_refl _) hb28) (ends_good HG1.out) (by omega))
      have HB28 := Lib.hid hb28
      clear ho8 hb8 hb28 HFR HB7 HB27
      go_wp2_with fail
      refine HE1.out.mono ?_
      rintro e w9 ⟨hb9, ⟨-, ⟨ap, cp, rfl, hop⟩⟩ | ⟨hk, -⟩⟩
      rotate_left
      · omega
      have HB9 := Lib.hid (HB8.out.trans (hb9.mono HB8.out.size))
      have hb29 := HB28.out.trans (hb9.mono HB28.out.size)
      have HO9 := Lib.hid ((Only.of_below hb9 (fun _ => False)).own HO8.out (fun _ _ h => h))
      have HOP := Lib.hid hop
      have HE2 := Lib.hid (expand_all wide b2 n2 c2 f2 n2 w9 (HI2.out.below (Nat.le_refl _) hb29) (ends_good HG2.out) (by omega))
      have HB29 := Lib.hid hb29
      clear hb9 hb29 hop HE1 HO8 HB8 HB28
      go_wp2_with fail
      refine HE2.out.mono ?_
      rintro e w10 ⟨hb10, ⟨-, ⟨aq, cq, rfl, hoq⟩⟩ | ⟨hk, -⟩⟩
      rotate_left
      · omega
      have HB10 := Lib.hid (HB9.out.trans (hb10.mono HB9.out.size))
      have hb210 := HB29.out.trans (hb10.mono HB29.out.size)
      have HO10 := Lib.hid ((Only.of_below hb10 (fun _ => False)).own HO9.out (fun _ _ h => h))
      have HOP10 := Lib.hid ((Only.of_below hb10 (fun _ => False)).own HOP.out (fun _ _ h => h))
      have HOQ := Lib.hid hoq
      have HT := Lib.hid (told_any w10)
      have HB210 := Lib.hid hb210
      clear hb10 hb210 hoq HE2 HO9 HOP HB9 HB29
      go_wp2_with fail
      refine HT.out.mono ?_
      rintro e w11 ⟨rfl, hb11⟩
      have HB11 := Lib.hid (HB10.out.trans (hb11.mono HB10.out.size))
      have hb211 := HB210.out.trans (hb11.mono HB210.out.size)
      obtain ⟨ax, cx, rfl, hbx⟩ := ((Only.of_below hb11 (fun _ => False)).own HO10.out (fun _ _ h => h)).bytes
      have hcvx := conv_own hbx
      have hbp := ((Only.of_below hb11 (fun _ => False)).own HOP10.out (fun _ _ h => h)).bytes
      have hbq := ((Only.of_below hb11 (fun _ => False)).own HOQ.out (fun _ _ h => h)).bytes
      obtain ⟨ap', cp', ep, hbp⟩ := hbp
      obtain ⟨aq', cq', eq, hbq⟩ := hbq
      simp only [Value.slice.injEq] at ep eq
      obtain ⟨rfl, ep, rfl⟩ := ep
      obtain ⟨rfl, eq, rfl⟩ := eq
      have hcvp := conv_own hbp
      have hcvq := conv_own hbq
      rw [← ep] at hcvp
      rw [← eq] at hcvq
      have HSZ := Lib.hid (size_all b1 n1 c1 f1 w11 (HI3.out.below (Nat.le_refl _) hb211))
      rw [show cap f1 n1 = tot f1 n1 from by unfold LzC.cap; omega] at HSZ
      obtain ⟨q1, hq1⟩ : ∃ q1 : ByteArray, q1 = ⟨(ex f1 n1).toArray⟩ := ⟨_, rfl⟩
      obtain ⟨q2, hq2⟩ : ∃ q2 : ByteArray, q2 = ⟨(ex f2 n2).toArray⟩ := ⟨_, rfl⟩
      have hq3 : (⟨(ex f1 n1 ++ ex f2 n2).toArray⟩ : ByteArray) = q1 ++ q2 := by
        rw [hq1, hq2]; exact ByteArray.ext (by simp)
      rw [← hq1] at hcvp
      rw [← hq2] at hcvq
      rw [hq3] at hcvx
      have y0 : ¬ 9223372036854775807 < q1.size + q2.size := by
        have k1 : q1.size = (ex f1 n1).length := by rw [hq1]; rfl
        have k2 : q2.size = (ex f2 n2).length := by rw [hq2]; rfl
        rw [k1, k2, LzMath.ex_len, LzMath.ex_len]; omega
      obtain ⟨N1, hN1⟩ : ∃ N1, N1 = tot f1 n1 := ⟨_, rfl⟩
      obtain ⟨N2, hN2⟩ : ∃ N2, N2 = tot f2 n2 := ⟨_, rfl⟩
      obtain ⟨N3, hN3⟩ : ∃ N3, N3 = (ex f1 n1 ++ ex f2 n2).length := ⟨_, rfl⟩
      rw [← hN1] at hcvp HSZ ht1 ⊢
      rw [← hN2] at hcvq ht2 ⊢
      rw [← hN3] at hcvx ⊢
      clear hb11 hb211 hbx hbp hbq ep eq hq1 hq2 hq3 hN1 hN2 hN3 HT HO10 HOP10 HOQ HB10 HB210 HI2 HI3 HG1 HG2 HB2
      go_wp2_with fail
      refine HSZ.out.mono ?_
      rintro e w12 ⟨rfl, hb12⟩
      have HB12 := Lib.hid (HB11.out.trans (hb12.mono HB11.out.size))
      clear hb12 HSZ HB11
      go_wp2_with fail
      go_ret
      exact ⟨rfl, HB12.out⟩
end Go.Proofs.YtaeoedapaiapdaaGreatDoor.BlkC
end
