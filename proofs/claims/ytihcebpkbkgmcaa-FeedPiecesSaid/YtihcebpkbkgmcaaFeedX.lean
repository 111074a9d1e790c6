import Derived.Test.YtihcebpkbkgmcaaFeedW
namespace Go.Proofs.Ytihcebpkbkgmcaa.FeedC
open Go.RowKit Go.My BitMath RefC

set_option maxRecDepth 100000 in
set_option maxHeartbeats 40000000 in
theorem pieces_law (ab : Option Addr) (lenb capb : Nat) (lb : List UInt8) (ac : Option Addr) (lenc capc : Nat) (az : Option Addr) (lens caps : Nat) (w : World) (hb : Bytes w ab lenb capb lb) (hc : Ints w ac lenc capc) (hs : Ints w az lens caps) :
    Calls Try.prog 4 #[.slice ab lenb capb, .slice ac lenc capc, .slice az lens caps] w fun e w' => e = .returned (.bool true) ∧ Below w.heap.size w w' := by
  have HC := Lib.hid hc
  have HS := Lib.hid hs
  have HB := Lib.hid hb
  have hlcb := hb.le_cap
  have hcmb := hb.cap_le
  have hlcc := hc.1
  have hcmc := hc.2.1
  have hlcs := hs.1
  have hcms := hs.2.1
  have hln := hb.len_eq
  clear hb hc hs
  by_cases h60 : lenb ≤ 60
  · obtain rfl := hln
    have h60i : ¬ (lb.length : Int) > 60 := by omega
    go_enter Try.func4, Try.ntmps4
    go_wp2_with fail
    refine (new_k w).mono ?_
    rintro e w1 ⟨rfl, F1, hk1⟩
    have HK1 := Lib.hid hk1
    clear hk1
    go_wp2_with fail
    refine (new_any w1).mono ?_
    rintro e w2 ⟨F2, rfl, hf2, hb2⟩
    have HT : Hid (Two w w2 w1.heap.size (w1.heap.size + 1) F1 F2 [] 0 [] 0) := Lib.hid ⟨HK1.out.feed.below hb2, hf2, fun k h1 h2 => by
      have := (HK1.out.feed.lt k h1).2
      have := (hf2.lt k h2).1
      omega, HK1.out.below.trans (hb2.mono HK1.out.below.size), HK1.out.below.size⟩
    clear hf2 hb2 HK1
    generalize w1.heap.size = B2 at *
    obtain ⟨f2, hf2⟩ : ∃ f2, f2 = B2 + 1 := ⟨_, rfl⟩
    rw [← hf2] at HT ⊢
    clear hf2
    go_wp2_with fail
    refine (push_in _ _ 0 F1 [] w w2 HT.out.one (Nat.le_refl _) HT.out.below ab lb.length capb lb HB.out (by simp) (by omega) (by omega)).mono ?_
    rintro e w3 ⟨rfl, hd⟩
    obtain ⟨G, h3⟩ := HT.out.one_done hd
    have hlead : lead lb lb.length 0 = [] ++ bitsOf lb := by unfold lead; simp
    have hlead2 : lead lb 0 0 = [] := by unfold lead; simp [bitsOf]
    have HP : Hid (Pair w w3 B2 f2 lb 0 0) := Lib.hid ⟨G, F2, by rw [hlead, hlead2]; simpa using h3⟩
    clear hd h3 HT hlead hlead2
    go_wp2_with fail
    go_loopw [9, 10, 11] (fun av kv iv wr => ∃ (at_ kk i c : Nat), at_ ≤ lb.length ∧ kk ≤ lenc ∧ i ≤ lens ∧ i ≤ 60 ∧ c ≤ 8 * at_ ∧ av = .int .i64 (at_ : Int) ∧ kv = .int .i64 (kk : Int) ∧ iv = .int .i64 (i : Int) ∧ Hid (Pair w wr B2 f2 lb at_ c)) (fun _ _ iv _ => 60 - (intOf iv).toNat)
    case atStart => exact ⟨0, 0, 0, 0, by omega, by omega, by omega, by omega, by omega, rfl, rfl, rfl, HP⟩
    case round =>
      clear HP
      obtain ⟨at0, kk0, i, c, ha0, hk0, hi, hi60, hc0, rfl, rfl, rfl, HP⟩ := hrel
      by_cases hlt : i < lens
      · by_cases hlt60 : i < 60
        · obtain ⟨bs, offs, rfl, z, hz1, hz2, hcell⟩ := HS.out.get HP.out.below i hlt
          obtain ⟨q, hq, hq2⟩ : ∃ q : Nat, bits .and .i64 z 31 = (q : Int) ∧ q < 32 := ⟨(z % 32).toNat, by rw [i64_and_mask z 5 (by omega) 31 32 rfl rfl]; omega, by omega⟩
          have hiI : (i : Int) < 60 := by omega
          obtain ⟨n, hn, hni⟩ : ∃ n : Nat, n = 1 + q ∧ (1 : Int) + (q : Int) = (n : Int) := ⟨1 + q, rfl, by omega⟩
          have hn1 : 1 ≤ n ∧ n ≤ 32 := by omega
          clear hn
          obtain ⟨w5, rfl⟩ : ∃ w5, w5 = wr := ⟨_, rfl⟩
          go_wp2_with fail
          clear hq hni hcell
          go_loopw [9, 10] (fun av kv wx => ∃ (at_ kk : Nat), at_ ≤ lb.length ∧ kk ≤ lenc ∧ c ≤ 8 * at_ ∧ av = .int .i64 (at_ : Int) ∧ kv = .int .i64 (kk : Int) ∧ Hid (Pair w wx B2 f2 lb at_ c)) (fun av _ _ => lb.length - (intOf av).toNat)
          case atStart => exact ⟨at0, kk0, ha0, hk0, hc0, rfl, rfl, HP⟩
          case round =>
            clear HP
            obtain ⟨at_, kk, ha, hk, hc, rfl, rfl, HP⟩ := hrel
            go_wp2_with fail
            refine (many_bits HP h60 ha).mono ?_
            rintro e w6 ⟨rfl, HP6⟩
            clear HP
            obtain ⟨V, hV⟩ : ∃ V, V = 8 * at_ - c := ⟨_, rfl⟩
            rw [← hV]
            have HV := Lib.hid hV
            by_cases hVn : V < n
            · by_cases hat : at_ < lb.length
              · clear hV
                as_aux_lemma =>
                  obtain ⟨b0, off0, rfl⟩ := HB.out.some_ (by omega)
                  by_cases hkk : kk < lenc
                  · obtain ⟨bc0, offc, rfl, z', hz1', hz2', hcell'⟩ := HC.out.get HP6.out.below kk hkk
                    obtain ⟨q', hq', hq2'⟩ : ∃ q' : Nat, bits .and .i64 z' 15 = (q' : Int) ∧ q' < 16 := ⟨(z' % 16).toNat, by rw [i64_and_mask z' 4 (by omega) 15 16 rfl rfl]; omega, by omega⟩
                    obtain ⟨M, hM1, hM2, hmin⟩ : ∃ M : Nat, 1 ≤ M ∧ at_ + M ≤ lb.length ∧ (if (lb.length : Int) - (at_ : Int) < 1 + (q' : Int) then (lb.length : Int) - (at_ : Int) else 1 + (q' : Int)) = (M : Int) := by
                      by_cases hx : (lb.length : Int) - (at_ : Int) < 1 + (q' : Int)
                      · exact ⟨lb.length - at_, by omega, by omega, by rw [if_pos hx]; omega⟩
                      · exact ⟨1 + q', by omega, by omega, by rw [if_neg hx]; omega⟩
                    have hMI : (at_ : Int) + (M : Int) ≤ (lb.length : Int) := by omega
                    have hMI2 : (at_ : Int) ≤ (at_ : Int) + (M : Int) := by omega
                    have hMI3 : (at_ : Int) + (M : Int) ≤ (capb : Int) := by omega
                    have hne : ¬ capb = at_ := by omega
                    have hBy : Bytes w (some ⟨b0, off0 + at_, none⟩) M (capb - at_) ((lb.drop at_).take M) := (HB.out.drop at_ (by omega)).take M (by omega)
                    have HPU := Lib.hid (many_push HP6 h60 ha hc M _ _ hBy hM2)
                    clear hBy
                    go_wp2_with fail
                    refine HPU.out.mono ?_
                    rintro e w7 ⟨rfl, HP7⟩
                    clear HPU HP6 hmin hMI hMI2 hMI3 hne
                    go_wp2_with fail
                    go_roundw
                    case rel => exact ⟨at_ + M, kk + 1, by omega, by omega, by omega, by go_num, by go_num, HP7⟩
                    case measure => simp [intOf]; omega
                  · have hne : ¬ capb = at_ := by omega
                    have hMI : (at_ : Int) + 1 ≤ (lb.length : Int) := by omega
                    have hMI2 : (at_ : Int) ≤ (at_ : Int) + 1 := by omega
                    have hMI3 : (at_ : Int) + 1 ≤ (capb : Int) := by omega
                    have hBy : Bytes w (some ⟨b0, off0 + at_, none⟩) 1 (capb - at_) ((lb.drop at_).take 1) := (HB.out.drop at_ (by omega)).take 1 (by omega)
                    have HPU := Lib.hid (many_push HP6 h60 ha hc 1 _ _ hBy (by omega))
                    clear hBy
                    go_wp2_with fail
                    refine HPU.out.mono ?_
                    rintro e w7 ⟨rfl, HP7⟩
                    clear HPU HP6 hMI hMI2 hMI3 hne
                    go_wp2_with fail
                    go_roundw
                    case rel => exact ⟨at_ + 1, kk, by omega, hk, by omega, by go_num, rfl, HP7⟩
                    case measure => simp [intOf]; omega
              · have hat2 : at_ = lb.length := by omega
                clear hat
                as_aux_lemma =>
                  go_wp2_with fail
                  by_cases hlo : 8 * lb.length - c < n
                  · refine (one_bits HP6 h60).mono ?_
                    rintro e w7 ⟨rfl, HP7⟩
                    clear HP6
                    have hU : ((8 * at_ - c : Nat) : Int) < (n : Int) := by omega
                    obtain ⟨U, hUU⟩ : ∃ U : Nat, U = 8 * at_ - c := ⟨_, rfl⟩
                    have hUL : 8 * lb.length - c = U := by omega
                    rw [hUL]
                    rw [← hUU] at hU
                    have HUU := Lib.hid hUU
                    have HUL := Lib.hid hUL
                    clear hUU hUL hV
                    go_wp2_with fail
                    refine (told_any w7).mono ?_
                    rintro e w8 ⟨rfl, hb8⟩
                    have HP8 := Lib.hid (HP7.out.later hb8)
                    clear hb8 HP7
                    go_wp2_with fail
                    refine (many_bits HP8 h60 ha).mono ?_
                    rw [← HUU.out]
                    rintro e w9 ⟨rfl, HP9⟩
                    clear HP8
                    go_wp2_with fail
                    refine (one_bits HP9 h60).mono ?_
                    rw [HUL.out]
                    rintro e w10 ⟨rfl, HPA⟩
                    clear HP9
                    go_wp2_with fail
                    refine (one_peek HPA n).mono ?_
                    rintro e w11 ⟨rfl, HPB⟩
                    clear HPA
                    go_wp2_with fail
                    refine (many_peek HPB n ha (.inr (by omega))).mono ?_
                    rintro e w12 ⟨rfl, HPC⟩
                    clear HPB
                    generalize peekV (lead lb lb.length c) n = x at *
                    go_wp2_with fail
                    go_ret
                    exact ⟨rfl, HPC.out.below⟩
                  · omega
            · clear hV
              as_aux_lemma =>
                go_wp2_with fail
                refine (one_bits HP6 h60).mono ?_
                rintro e w7 ⟨rfl, HP7⟩
                clear HP6
                have hU : ¬ ((8 * lb.length - c : Nat) : Int) < (n : Int) := by have := HV.out; omega
                obtain ⟨U, hUU⟩ : ∃ U : Nat, U = 8 * lb.length - c := ⟨_, rfl⟩
                rw [← hUU] at hU ⊢
                have HUU := Lib.hid hUU
                have hca : c + n ≤ 8 * at_ := by have := HV.out; omega
                have hcb : c + n ≤ 8 * lb.length := by omega
                clear hUU
                go_wp2_with fail
                refine (one_peek HP7 n).mono ?_
                rintro e w8 ⟨rfl, HP8⟩
                clear HP7
                have hpl := peekV_lt (lead lb lb.length c) n
                go_wp2_with fail
                refine (many_peek HP8 n ha (.inl (by omega))).mono ?_
                rintro e w9 ⟨rfl, HP9⟩
                clear HP8
                generalize peekV (lead lb lb.length c) n = x at *
                go_wp2_with fail
                refine (one_skip HP9 h60 n (by omega)).mono ?_
                rintro e w10 ⟨rfl, HPA⟩
                clear HP9
                go_wp2_with fail
                refine (many_skip n HPA h60 ha (by omega)).mono ?_
                rintro e w11 ⟨rfl, HPB⟩
                clear HPA
                go_wp2_with fail
                refine (one_used HPB h60 (by omega)).mono ?_
                rintro e w12 ⟨rfl, HPC⟩
                clear HPB
                obtain ⟨Y, hY⟩ : ∃ Y : Nat, Y = (c + n + 7) / 8 := ⟨_, rfl⟩
                have HY := Lib.hid hY
                rw [← hY]
                clear hY
                go_wp2_with fail
                refine (many_used HPC h60 ha (by omega)).mono ?_
                rintro e w13 ⟨rfl, HPD⟩
                clear HPC
                rw [← HY.out]
                go_wp2_with fail
                go_roundw
                case rel => exact ⟨at_, kk, i + 1, c + n, ha, hk, by omega, by omega, by omega, rfl, rfl, by go_num, HPD⟩
                case measure => simp [intOf]; omega
        · obtain rfl : i = 60 := by omega
          clear HC HS HB
          go_wp2_with fail
          refine (told_any _).mono ?_
          rintro e w4 ⟨rfl, hb4⟩
          have HB4 : Hid (Below w.heap.size w w4) := Lib.hid (HP.out.below.trans (hb4.mono HP.out.below.size))
          clear hb4
          go_wp2_with fail
          go_ret
          exact ⟨rfl, HB4.out⟩
      · obtain rfl : i = lens := by omega
        clear HC HS HB
        go_wp2_with fail
        refine (told_any _).mono ?_
        rintro e w4 ⟨rfl, hb4⟩
        have HB4 : Hid (Below w.heap.size w w4) := Lib.hid (HP.out.below.trans (hb4.mono HP.out.below.size))
        clear hb4
        go_wp2_with fail
        go_ret
        exact ⟨rfl, HB4.out⟩
  · have h60i : (60 : Int) < (lenb : Int) := by omega
    go_enter Try.func4, Try.ntmps4
    go_wp2_with fail
    refine (told_any w).mono ?_
    rintro e w2 ⟨rfl, hb2⟩
    have HB2 := Lib.hid hb2
    clear hb2
    go_wp2_with fail
    go_ret
    exact ⟨rfl, HB2.out⟩
end Go.Proofs.Ytihcebpkbkgmcaa.FeedC
