/-
  LzJoins' law.
-/
import Derived.Test.YtfjngfkehccigaaLzL1
import Derived.Test.YtfjngfkehccigaaLzR
namespace Go.Proofs.Ytfjngfkehccigaa.LzC
open Go.RowKit Go.My LzMath WinMath WinC

theorem bytes_app (L1 L2 : List UInt8) : (⟨(L1 ++ L2).toArray⟩ : ByteArray) = ⟨L1.toArray⟩ ++ ⟨L2.toArray⟩ := by
  apply ByteArray.ext
  simp [ByteArray.data_append]
/-- The ways to told. -/
theorem joins_few (a : Option Addr) (n c : Nat) (f : Nat → Tok) (a2 : Option Addr) (m c2 : Nat) (g : Nat → Tok) (wide : Bool) (w : World) (h : TokIn w a n c f) (h2 : TokIn w a2 m c2 g)
    (hq : few f n = false ∨ few f n = true ∧ (few g m = false ∨ few g m = true ∧ (50 < n ∨ n ≤ 50 ∧ 50 < m))) :
    Calls Try.prog 4 #[.slice a n c, .slice a2 m c2, .bool wide] w fun e w' => e = .returned (.bool true) ∧ Below w.heap.size w w' := by
  have H := Lib.hid h
  have H2 := Lib.hid h2
  have hlc := h.le_cap
  have hcm := h.cap_le
  have hlc2 := h2.le_cap
  have hcm2 := h2.cap_le
  clear h h2
  rcases hq with q1 | ⟨q1, q2 | ⟨q2, q3 | ⟨q3, q4⟩⟩⟩
  · have Q1 := Lib.hid q1
    clear q1
    go_enter Try.func4, Try.ntmps4
    go_wp2_with fail
    refine (few_any a n c f w H.out).mono ?_
    rw [Q1.out]
    rintro e w' ⟨rfl, rfl⟩
    go_wp2_with fail
    refine (told_any w).mono ?_
    rintro e w2 ⟨rfl, hb⟩
    go_wp2_with fail
    go_ret
    exact ⟨rfl, hb⟩
  · have Q1 := Lib.hid q1
    have Q2 := Lib.hid q2
    clear q1 q2
    go_enter Try.func4, Try.ntmps4
    go_wp2_with fail
    refine (few_any a n c f w H.out).mono ?_
    rw [Q1.out]
    rintro e w' ⟨rfl, rfl⟩
    go_wp2_with fail
    refine (few_any a2 m c2 g w H2.out).mono ?_
    rw [Q2.out]
    rintro e w' ⟨rfl, rfl⟩
    go_wp2_with fail
    refine (told_any w).mono ?_
    rintro e w2 ⟨rfl, hb⟩
    go_wp2_with fail
    go_ret
    exact ⟨rfl, hb⟩
  all_goals
    have Q1 := Lib.hid q1
    have Q2 := Lib.hid q2
    clear q1 q2
    go_enter Try.func4, Try.ntmps4
    go_wp2_with fail
    refine (few_any a n c f w H.out).mono ?_
    rw [Q1.out]
    rintro e w' ⟨rfl, rfl⟩
    go_wp2_with fail
    refine (few_any a2 m c2 g w H2.out).mono ?_
    rw [Q2.out]
    rintro e w' ⟨rfl, rfl⟩
    go_wp2_with fail
    refine (told_any w).mono ?_
    rintro e w2 ⟨rfl, hb⟩
    go_wp2_with fail
    go_ret
    exact ⟨rfl, hb⟩

set_option maxRecDepth 100000 in
set_option maxHeartbeats 8000000 in
theorem joins_all (a : Option Addr) (n c : Nat) (f : Nat → Tok) (a2 : Option Addr) (m c2 : Nat) (g : Nat → Tok) (wide : Bool) (w : World) (h : TokIn w a n c f) (h2 : TokIn w a2 m c2 g) :
    Calls Try.prog 4 #[.slice a n c, .slice a2 m c2, .bool wide] w fun e w' => e = .returned (.bool true) ∧ Below w.heap.size w w' := by
  by_cases hq : few f n = false ∨ few f n = true ∧ (few g m = false ∨ few g m = true ∧ (50 < n ∨ n ≤ 50 ∧ 50 < m))
  · exact joins_few a n c f a2 m c2 g wide w h h2 hq
  obtain ⟨q1, q2, hn, hm⟩ : few f n = true ∧ few g m = true ∧ n ≤ 50 ∧ m ≤ 50 := by
    cases e1 : few f n
    · exact absurd (.inl e1) hq
    · cases e2 : few g m
      · exact absurd (.inr ⟨e1, .inl e2⟩) hq
      · refine ⟨rfl, rfl, ?_, ?_⟩
        · by_cases h50 : n ≤ 50
          · exact h50
          · exact absurd (.inr ⟨e1, .inr ⟨e2, .inl (by omega)⟩⟩) hq
        · by_cases h50 : n ≤ 50
          · by_cases h51 : m ≤ 50
            · exact h51
            · exact absurd (.inr ⟨e1, .inr ⟨e2, .inr ⟨h50, by omega⟩⟩⟩) hq
          · exact absurd (.inr ⟨e1, .inr ⟨e2, .inl (by omega)⟩⟩) hq
  clear hq
  have H := Lib.hid h
  have H2 := Lib.hid h2
  have hlc := h.le_cap
  have hcm := h.cap_le
  have hlc2 := h2.le_cap
  have hcm2 := h2.cap_le
  clear h h2
  have hF := few_tot q1
  have hG := few_tot q2
  have Q1 := Lib.hid q1
  have Q2 := Lib.hid q2
  clear q1 q2
  obtain ⟨K, hE⟩ := ends_any wide f n
  obtain ⟨K2, hE2⟩ := ends_any wide g m
  have HE := Lib.hid hE
  have HE2 := Lib.hid hE2
  clear hE hE2
  by_cases hK : K < n
  · go_enter Try.func4, Try.ntmps4
    go_wp2_with fail
    refine (few_any a n c f w H.out).mono ?_
    rw [Q1.out]
    rintro e w' ⟨rfl, rfl⟩
    go_wp2_with fail
    refine (few_any a2 m c2 g w H2.out).mono ?_
    rw [Q2.out]
    rintro e w' ⟨rfl, rfl⟩
    go_wp2_with fail
    refine (expand_no wide a n c f K w H.out HE.out hK (by omega)).mono ?_
    rintro e w2 ⟨rfl, HB2⟩
    have H22 := Lib.hid (H2.out.below (Nat.le_refl _) HB2.out)
    go_wp2_with fail
    refine (expand_r wide a2 m c2 g K2 w2 H22.out HE2.out (by omega)).mono ?_
    generalize outAt m K2 = A at *
    generalize outE m K2 = E at *
    rintro e w3 ⟨a1, n1, c1, rfl, -, hb⟩
    have HB3 := Lib.hid (HB2.out.trans (hb.out.mono HB2.out.size))
    clear hb HB2 H2 HE HE2
    go_wp2_with fail
    refine (told_any w3).mono ?_
    rintro e w4 ⟨rfl, hb⟩
    go_wp2_with fail
    go_ret
    exact ⟨rfl, HB3.out.trans (hb.mono HB3.out.size)⟩
  · obtain rfl : K = n := by have := HE.out.le; omega
    obtain ⟨T1, hT1⟩ : ∃ T1, T1 = tot f K := ⟨_, rfl⟩
    have HT1 := Lib.hid hT1
    rw [← hT1] at hF
    clear hT1
    by_cases hK2 : K2 < m
    · go_enter Try.func4, Try.ntmps4
      go_wp2_with fail
      refine (few_any a K c f w H.out).mono ?_
      rw [Q1.out]
      rintro e w' ⟨rfl, rfl⟩
      go_wp2_with fail
      refine (few_any a2 m c2 g w H2.out).mono ?_
      rw [Q2.out]
      rintro e w' ⟨rfl, rfl⟩
      go_wp2_with fail
      refine (expand_ok wide a K c f w H.out HE.out (by rw [← HT1.out]; omega)).mono ?_
      rw [← HT1.out]
      rintro e w2 ⟨a1, c1, rfl, -, HB2⟩
      have H22 := Lib.hid (H2.out.below (Nat.le_refl _) HB2.out)
      go_wp2_with fail
      refine (expand_no wide a2 m c2 g K2 w2 H22.out HE2.out hK2 (by omega)).mono ?_
      rintro e w3 ⟨rfl, hb⟩
      have HB3 := Lib.hid (HB2.out.trans (hb.out.mono HB2.out.size))
      clear hb HB2 H2 HE HE2
      go_wp2_with fail
      refine (told_any w3).mono ?_
      rintro e w4 ⟨rfl, hb⟩
      go_wp2_with fail
      go_ret
      exact ⟨rfl, HB3.out.trans (hb.mono HB3.out.size)⟩
    · obtain rfl : K2 = m := by have := HE2.out.le; omega
      obtain ⟨T2, hT2⟩ : ∃ T2, T2 = tot g K2 := ⟨_, rfl⟩
      have HT2 := Lib.hid hT2
      rw [← hT2] at hG
      clear hT2
      have HEJ : Hid (EndsT wide (LzMath.join f K g) (K + K2) (K + K2)) := Lib.hid ⟨Nat.le_refl _, good_join HE.out.good HE2.out.good, fun h => by omega⟩
      have HTJ : Hid (tot (LzMath.join f K g) (K + K2) = T1 + T2) := Lib.hid (by rw [tot_join, HT1.out, HT2.out])
      have HXJ : Hid (ex (LzMath.join f K g) (K + K2) = ex f K ++ ex g K2) := Lib.hid (ex_join HE2.out.good K2 (Nat.le_refl _))
      go_enter Try.func4, Try.ntmps4
      go_wp2_with fail
      refine (few_any a K c f w H.out).mono ?_
      rw [Q1.out]
      rintro e w' ⟨rfl, rfl⟩
      go_wp2_with fail
      refine (few_any a2 K2 c2 g w H2.out).mono ?_
      rw [Q2.out]
      rintro e w' ⟨rfl, rfl⟩
      go_wp2_with fail
      refine (expand_ok wide a K c f w H.out HE.out (by rw [← HT1.out]; omega)).mono ?_
      rw [← HT1.out]
      rintro e w2 ⟨a1, c1, rfl, HO1, HB2⟩
      have H22 := Lib.hid (H2.out.below (Nat.le_refl _) HB2.out)
      go_wp2_with fail
      refine (expand_ok wide a2 K2 c2 g w2 H22.out HE2.out (by rw [← HT2.out]; omega)).mono ?_
      rw [← HT2.out]
      rintro e w3 ⟨a3, c3, rfl, HO2, hb⟩
      have HB3 := Lib.hid (HB2.out.trans (hb.out.mono HB2.out.size))
      have HO1' := Lib.hid (HO1.out.below (Nat.le_refl _) hb.out)
      have HF3 := Lib.hid (H.out.below (Nat.le_refl _) HB3.out)
      have HG3 := Lib.hid (H22.out.below (Nat.le_refl _) hb.out)
      clear hb HB2 H2 H22 H HO1
      have hwf : ∀ i, i < K + K2 → Wf (LzMath.join f K g i) := fun i hi => by
        by_cases h : i < K
        · rw [join_left h]
          obtain ⟨_, _, _, ht⟩ := HF3.out.get h
          exact ht.wf
        · obtain ⟨j, rfl⟩ : ∃ j, i = K + j := ⟨i - K, by omega⟩
          rw [join_right]
          obtain ⟨_, _, _, ht⟩ := HG3.out.get (show j < K2 by omega)
          exact ht.wf
      have HWF := Lib.hid hwf
      clear hwf
      have hown0 : OwnT w3.heap.size (w3.alloc (.cells #[] 26)) (.slice (some ⟨w3.heap.size, 0, none⟩) 0 0) 0 f := OwnT.empty w3 f (Nat.le_refl _)
      have HO0 := Lib.hid hown0
      have HF4 := Lib.hid (HF3.out.below (Nat.le_refl _) ((Below.refl w3.heap.size w3).alloc (Nat.le_refl _) (.cells #[] 26)))
      clear hown0
      go_wp2_with (at_builtin; refine wpList_append_toks (by rfl) (.tmp 57) (.tmp 58) (by rfl) w3.heap.size (.slice (some ⟨w3.heap.size, 0, none⟩) 0 0) 0 f (by rfl) HO0.out a K c f (by rfl) HF4.out (by omega) (by simp) ?_)
      intro v4 w4 hown hgrow
      have hb4 : Below w3.heap.size w3 w4 := HO0.out.grown ((Below.refl w3.heap.size w3).alloc (Nat.le_refl _) _) hgrow (by simp)
      have hown4 : OwnT w3.heap.size w4 v4 K f := by
        unfold OwnT at hown ⊢
        rw [toks_congr f (LzMath.join f 0 f) K (fun i _ => by have := @join_right f f 0 i; rw [Nat.zero_add] at this; exact this.symm)]
        exact hown
      obtain ⟨a4, c4, rfl, -⟩ := hown4.toks (fun i hi => by have := HWF.out i (by omega); rw [join_left hi] at this; exact this)
      have HO4 := Lib.hid hown4
      have HB4 := Lib.hid hb4
      have hs4 := hb4.size
      have HG4 := Lib.hid (HG3.out.below (Nat.le_refl _) hb4)
      clear hown hgrow hb4 hown4 HO0 HF4
      go_wp2_with (at_builtin; refine wpList_append_toks (by rfl) (.tmp 59) (.tmp 60) (by rfl) w3.heap.size (.slice a4 K c4) K f (by rfl) HO4.out a2 K2 c2 g (by rfl) HG4.out (by omega) hs4 ?_)
      intro v5 w5 hown5 hgrow
      have hb5 : Below w3.heap.size w3 w5 := HO4.out.grown HB4.out hgrow hs4
      obtain ⟨a5, c5, rfl, ht5⟩ := hown5.toks HWF.out
      have HT5 := Lib.hid ht5
      have HB5 := Lib.hid hb5
      clear hown5 hgrow hb5 HO4 HB4 hs4 HG4 ht5 HWF
      go_wp2_with fail
      refine (expand_ok wide a5 (K + K2) c5 (LzMath.join f K g) w5 HT5.out HEJ.out (by rw [HTJ.out]; omega)).mono ?_
      rw [HTJ.out, HXJ.out]
      rintro e w6 ⟨a6, c6, rfl, HO6, hb⟩
      have HB6 := Lib.hid (HB5.out.trans (hb.out.mono HB5.out.size))
      clear hb HB5 HT5
      go_wp2_with fail
      refine (told_any w6).mono ?_
      rintro e w7 ⟨rfl, hb⟩
      have HB7 := Lib.hid (HB6.out.trans (hb.mono HB6.out.size))
      have cv6 := conv_any (HO6.out.below (Nat.le_refl _) hb)
      have cv1 := conv_any (HO1'.out.below (Nat.le_refl _) HB7.out)
      have cv2 := conv_any (HO2.out.below (Nat.le_refl _) HB7.out)
      rw [bytes_app] at cv6
      have hlen : ¬ 9223372036854775807 < (ex f K).length + (ex g K2).length := by rw [ex_len, ex_len, ← HT1.out, ← HT2.out]; omega
      generalize ex f K = L1 at *
      generalize ex g K2 = L2 at *
      have HF7 := Lib.hid (HF3.out.below (Nat.le_refl _) HB7.out)
      have HBW := Lib.hid (HB3.out.trans (HB7.out.mono HB3.out.size))
      clear hb HB6 HB7 HO6 HO1' HO2 HF3 HG3 HB3
      go_wp2_with fail
      have HC : Hid (cap f K = T1) := Lib.hid (by unfold cap; rw [← HT1.out]; omega)
      refine (size_all a K c f w7 HF7.out).mono ?_
      rw [HC.out]
      rintro e w8 ⟨rfl, hb⟩
      have HBX := Lib.hid (HBW.out.trans (hb.mono HBW.out.size))
      clear cv1 cv2 cv6 hb HF7 HBW
      go_wp2_with fail
      go_ret
      exact ⟨rfl, HBX.out⟩
end Go.Proofs.Ytfjngfkehccigaa.LzC
