import Derived.Test.YtegkcoedhopegaaC
namespace Go.Proofs.Ytegkcoedhopegaa
open Go.RowKit Go.My AdlerMath

set_option maxRecDepth 100000 in
set_option maxHeartbeats 4000000 in
theorem combines_law (a1 : Option Addr) (len1 cap1 : Nat) (l1 : List UInt8) (a2 : Option Addr) (len2 cap2 : Nat) (l2 : List UInt8) (n : Int) (w : World) (hb1 : Bytes w a1 len1 cap1 l1) (hb2 : Bytes w a2 len2 cap2 l2) :
    Calls Try.prog 5 #[.slice a1 len1 cap1, .slice a2 len2 cap2, .int .i64 n] w fun e w' => e = .returned (.bool true) ∧ Below w.heap.size w w' := by
  have H1 := Lib.hid hb1
  have H2 := Lib.hid hb2
  have hm1 := hb1.cap_le
  have hl1 := hb1.le_cap
  have hm2 := hb2.cap_le
  have hl2 := hb2.le_cap
  clear hb1 hb2
  by_cases h : 300 < len1 ∨ 300 < len2
  · rcases h with h | h
    · go_enter Try.func5, Try.ntmps5
      go_wp2_with fail
      refine (told_any w).mono ?_
      rintro e w' ⟨rfl, hw⟩
      go_wp2_with fail
      go_ret
      exact ⟨rfl, hw⟩
    · go_enter Try.func5, Try.ntmps5
      go_wp2_with (go_at_call 7; refine (told_any w).mono ?_; rintro e w' ⟨rfl, hw⟩)
      all_goals go_ret
      all_goals exact ⟨rfl, hw⟩
  · have h1 : len1 ≤ 300 := by omega
    have h2 : len2 ≤ 300 := by omega
    clear h
    obtain ⟨m, hm31, hmm⟩ : ∃ m : Nat, m ≤ 31 ∧ bits .and .i64 n 31 = (m : Int) :=
      ⟨(n % 32).toNat, by omega, by rw [i64_and_mask n 5 (by omega) 31 32 rfl rfl]; omega⟩
    obtain rfl : len1 = l1.length := H1.out.len_eq.symm
    obtain rfl : len2 = l2.length := H2.out.len_eq.symm
    go_enter Try.func5, Try.ntmps5
    go_wp2_with fail
    go_loopw [7, 8] (fun v i wr => ∃ k : Nat, k ≤ m + 1 ∧ i = .int .i64 (k : Int) ∧ Hid (Own 5 w.heap.size wr v (reps k l2)) ∧ Hid (Below w.heap.size w wr)) (fun _ i _ => m + 1 - (intOf i).toNat)
    case atStart => exact ⟨0, by omega, rfl, Lib.hid (Own.nil _ _ _), Lib.hid (Below.refl _ _)⟩
    case round =>
      obtain ⟨k, hk, rfl, HO, HB⟩ := hrel
      by_cases hlt : k < m + 1
      · go_wp2_with (at_builtin; refine wpList_append_bytes rfl (.tmp 26) (.tmp 27) 23 rfl w.heap.size 5 Try.underlying23 info5 _ (reps k l2) rfl HO.out a2 l2.length cap2 l2 rfl (H2.out.below (Nat.le_refl _) HB.out) (by have := reps_bound k 32 l2 (by omega) 300 (by omega); omega) HB.out.size ?_)
        intro v' w1 hown hg
        have HO1 : Hid (Own 5 w.heap.size w1 v' (reps (k + 1) l2)) := Lib.hid (by rw [reps_succ]; exact hown)
        have HB1 := Lib.hid (grown_below HO.out HB.out hg HB.out.size)
        clear hown hg
        go_wp2_with fail
        go_roundw
        case rel => exact ⟨k + 1, by omega, by go_num, HO1, HB1⟩
        case measure => simp [intOf]; omega
      · obtain rfl : k = m + 1 := by omega
        obtain ⟨a3, c3, hv, hb3⟩ := HO.out.bytes
        subst hv
        have hlen := reps_bound (m + 1) 32 l2 (by omega) 300 (by omega)
        generalize reps (m + 1) l2 = L at *
        have HL := Lib.hid hb3
        have hc1 := hb3.le_cap
        have hc2 := hb3.cap_le
        have HB0 := Lib.hid HB.out
        have HA := Lib.hid (H1.out.below (Nat.le_refl _) HB.out)
        have HCOMB := Lib.hid (comb_adler l1 L)
        have HNIL := Lib.hid (comb_nil l1)
        have lt1 := adler_lt 1 l1
        have lt2 := adler_lt 1 L
        clear hb3
        go_wp2_with fail
        refine (sum_any _ _ _ l1 wr HA.out).mono ?_
        rintro e w' ⟨rfl, rfl⟩
        go_wp2_with fail
        refine (told_any wr).mono ?_
        rintro e w1 ⟨rfl, hw1⟩
        have b1 := HB0.out.trans (hw1.mono HB0.out.size)
        have HA1 := Lib.hid (HA.out.below (Nat.le_refl _) hw1)
        have HL1 := Lib.hid (HL.out.below (Nat.le_refl _) hw1)
        go_wp2_with fail
        refine (sum_any _ _ _ L w1 HL1.out).mono ?_
        rintro e w' ⟨rfl, rfl⟩
        go_wp2_with fail
        refine (combine_any _ _ L.length w1 lt1 lt2 (by omega)).mono ?_
        rintro e w' ⟨rfl, rfl⟩
        rw [HCOMB.out]
        go_wp2_with (at_builtin; refine wpList_append_bytes rfl (.tmp 39) (.tmp 40) 23 rfl w1.heap.size 5 Try.underlying23 info5 _ [] rfl (Own.empty 5 w1 (Nat.le_refl _)) a1 l1.length cap1 l1 rfl (HA1.out.below (Nat.le_refl _) ((Below.refl _ _).alloc (Nat.le_refl _) _)) (by simp; omega) (by simp) ?_)
        intro v1 w2 hown1 hg1
        have hw2 := copied_below hown1 hg1
        have hsz2 := hw2.size
        have HL2 := Lib.hid (HL1.out.below (Nat.le_refl _) hw2)
        go_wp2_with (at_builtin; refine wpList_append_bytes rfl (.tmp 41) (.tmp 42) 23 rfl w1.heap.size 5 Try.underlying23 info5 v1 l1 rfl hown1 a3 L.length c3 L rfl HL2.out (by omega) hsz2 ?_)
        intro v2 w3 hown2 hg2
        obtain ⟨a', c', rfl, hb', hw3⟩ := copied2 hown1 hg1 hown2 hg2
        have b3 := b1.trans (hw3.mono b1.size)
        have HL3 := Lib.hid (HL1.out.below (Nat.le_refl _) hw3)
        clear hown1 hg1 hown2 hg2 hw2 hsz2
        have Hb3 := Lib.hid hb'
        clear hb'
        go_wp2_with fail
        refine (sum_any _ _ _ (l1 ++ L) w3 Hb3.out).mono ?_
        rintro e w' ⟨rfl, rfl⟩
        go_wp2_with fail
        refine (combine_any _ 1 0 w3 lt1 (by omega) (by omega)).mono ?_
        rintro e w' ⟨rfl, rfl⟩
        rw [HNIL.out]
        go_wp2_with fail
        refine (sum_any _ _ _ L w3 HL3.out).mono ?_
        rintro e w' ⟨rfl, rfl⟩
        go_wp2_with fail
        refine (combine_neg _ _ w3).mono ?_
        rintro e w' ⟨rfl, rfl⟩
        go_wp2_with fail
        go_ret
        exact ⟨rfl, b3⟩
end Go.Proofs.Ytegkcoedhopegaa
