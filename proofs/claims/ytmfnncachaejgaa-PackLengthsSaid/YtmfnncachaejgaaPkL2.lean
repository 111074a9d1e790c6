/-
  stevedorelaw9.PackLengths.
-/
import Derived.Test.YtmfnncachaejgaaPkCts
import Derived.Test.YtmfnncachaejgaaPkLst
import Derived.Test.YtmfnncachaejgaaPkL4
namespace Go.Proofs.Ytmfnncachaejgaa.PkC
open Go.Shelf Go.RowKit Go.My PackMath

/-- What is handed back makes a whole code. -/
theorem lens_kraft {cs : List Nat} {L : Nat} {ord lens : List Nat} (h : Lens cs L ord lens) (hL : L ≤ 14) (h2 : 2 ≤ ord.length) (hn : ord.length ≤ 2 ^ (L + 1)) : CanMath.kr lens = 32768 := by
  have hs := h.srt
  have hlen : (ord.map (cs.getD · 0)).length = ord.length := List.length_map _
  have hh := h.has
  unfold CanMath.kr
  rw [← sm_map, h.size]
  have e := ord_sum h.perm (fun i => CanMath.share (lens.getD i 0))
  rw [show sm cs.length (fun j => CanMath.share (lens.getD j 0)) = sm cs.length (fun i => if 0 < cs.getD i 0 then CanMath.share (lens.getD i 0) else 0) from sm_congr fun i hi => by
    by_cases hc : 0 < cs.getD i 0
    · rw [if_pos hc]
    · rw [if_neg hc, h.none i hi (by omega)]; rfl, ← e]
  generalize ord.map (cs.getD · 0) = A at *
  rw [← hlen]
  rw [← len_kraft hs hL (by omega) (by omega : A.length ≤ 2 ^ (L + 1))]
  refine sm_congr fun j hj => ?_
  rw [hh j (by omega)]
  have := len_pos hs hL (by omega) (by omega : A.length ≤ 2 ^ (L + 1)) j hj
  have e : lfin A L j = PackMath.len A L j := by unfold lfin; rw [if_neg (by omega)]
  rw [e]
  unfold CanMath.share
  rw [if_neg (by omega)]
theorem lens_least {cs : List Nat} {L : Nat} {ord lens : List Nat} (h : Lens cs L ord lens) (h2 : 2 ≤ ord.length) (hn : ord.length ≤ 2 ^ (L + 1)) :
    prd cs lens cs.length = ((ws (lvl (ord.map (cs.getD · 0)) L)).take (2 * (ord.map (cs.getD · 0)).length - 2)).sum := by
  rw [cost_lens h, ← len_cost (by rw [List.length_map]; exact hn)]
  exact sm_congr fun j _ => by unfold lfin; rw [if_neg (by rw [List.length_map]; omega)]
theorem lens_zero {cs : List Nat} {L : Nat} {ord lens : List Nat} (h : Lens cs L ord lens) (hL : L ≤ 14) (hn : ord.length ≤ 2 ^ (L + 1)) (i : Nat) (hi : i < cs.length) (h0 : 0 < cs.getD i 0) : 0 < lens.getD i 0 ∧ (ord.length = 1 → lens.getD i 0 ≤ 1) := by
  obtain ⟨j, hj, e1, e2, e3⟩ := lens_sym h i hi h0
  have hs := h.srt
  have hlen : (ord.map (cs.getD · 0)).length = ord.length := List.length_map _
  rw [e3]
  generalize ord.map (cs.getD · 0) = A at *
  unfold lfin
  split
  · omega
  · exact ⟨len_pos hs hL (by omega) (by omega) j (by omega), fun h => by omega⟩
theorem ivs_one (zs : List Int) : ∀ u ∈ zs.map (fun z => Value.int .i64 z), u.oneCell' = true := by
  intro u hu
  obtain ⟨z, _, rfl⟩ := List.mem_map.1 hu
  rfl
set_option maxRecDepth 100000 in
set_option maxHeartbeats 8000000 in
theorem lengths_law (zs : List Int) (a : Option Addr) (la ca : Nat) (most : Int) (w : World) (hA : RowIn w a la ca (zs.map fun z => Value.int .i64 z)) :
    Calls Try.prog 3 #[.slice a la ca, .int .i64 most] w fun e w' => e = .returned (.bool true) ∧ Below w.heap.size w w' := by
  have hla : zs.length = la := by rw [← hA.len_eq]; simp
  by_cases h1 : la ≤ 320
  · have g1 : ¬ (320 : Int) < (la : Int) := by omega
    have HA := Lib.hid hA
    have HLA := Lib.hid hla
    have HE : Hid (OwnV 3 w.heap.size (w.alloc (.cells #[] 3)) (.slice (some ⟨w.heap.size, 0, none⟩) 0 0) []) := Lib.hid (OwnV.lit 3 w #[] (Nat.le_refl _) (by simp))
    have HRE : Hid (RowIn (w.alloc (.cells #[] 3)) a la ca (zs.map fun z => Value.int .i64 z)) := Lib.hid (hA.below (Nat.le_refl _) ((Below.refl _ w).alloc (Nat.le_refl _) _))
    have HBE : Hid (Below w.heap.size w (w.alloc (.cells #[] 3))) := Lib.hid ((Below.refl _ w).alloc (Nat.le_refl _) _)
    clear hA hla
    go_enter Try.func3, Try.ntmps3
    go_wp2_with (at_builtin; refine wpList_append_row (by rfl) (.tmp 15) (.tmp 16) 22 rfl w.heap.size 3 (.int .i64 0) 8 Try.underlying22 info_int' rfl (.slice (some ⟨w.heap.size, 0, none⟩) 0 0) [] rfl HE.out a la ca (zs.map fun z => Value.int .i64 z) rfl HRE.out (ivs_one _) (by simp; omega) (by simp; omega) HBE.out.size ?_)
    intro a1 c1 w1 hown hgrow _
    have HB1 := Lib.hid (HE.out.grown HBE.out hgrow HBE.out.size)
    have HI1 : Hid (RowIn w1 a1 la c1 (zs.map fun z => Value.int .i64 z)) := Lib.hid (hown.rowIn (by rw [List.length_map, HLA.out]))
    have HC1 : Hid (RowIn w1 a la ca (zs.map fun z => Value.int .i64 z)) := Lib.hid (HA.out.below (Nat.le_refl _) HB1.out)
    clear hown hgrow HE HRE HBE HA
    go_wp2_with fail
    refine (lengths_all zs a1 la c1 most w1 HI1.out).mono ?_
    rintro e w2 ⟨hret, hb⟩
    have HI2 := Lib.hid (HI1.out.below (Nat.le_refl _) hb)
    have HC2 := Lib.hid (HC1.out.below (Nat.le_refl _) hb)
    have HB2 := Lib.hid (HB1.out.trans (hb.mono HB1.out.size))
    clear hb HI1 HC1 HB1
    by_cases hF : Fine zs most
    · obtain ⟨v, ord, lens, rfl, hL, hO⟩ := hret.2 hF
      obtain ⟨b, c, rfl, hRL⟩ := hO.row
      have hll : (lv lens).length = la := by rw [lv_len, hL.size, List.length_map, HLA.out]
      rw [hll] at hRL ⊢
      obtain ⟨cs, hcs⟩ : ∃ cs, cs = zs.map Int.toNat := ⟨_, rfl⟩
      have HZC : Hid (zs.map (fun z => Value.int .i64 z) = lv cs) := Lib.hid (by rw [hcs]; exact ini_lv zs (fun z hz => (hF.2.2.2.1 z hz).1))
      have HSM : Hid (∀ j, cs.getD j 0 ≤ 1073741824) := Lib.hid (fun j => by rw [hcs]; exact small_nat zs hF.2.2.2.1 j)
      have HCL : Hid (cs.length = la) := Lib.hid (by rw [hcs, List.length_map, HLA.out])
      have HCT : Hid (∀ e, CtsRet zs most e → e = .returned (.tuple #[.int .i64 ((ord.length : Nat) : Int), .bool true])) := Lib.hid (fun e h => by
        have := h.1 hF
        rw [this]
        have h2 := hL.perm.length_eq
        rw [List.length_map] at h2
        rw [h2])
      rw [← hcs] at hL
      obtain ⟨M, hM⟩ : ∃ M : Nat, most = (M : Int) := ⟨most.toNat, by have := hF.2.1; omega⟩
      have hM1 : 1 ≤ M := by have := hF.2.1; omega
      have hM15 : M ≤ 15 := by have := hF.2.2.1; omega
      have HON : Hid (ord.length ≤ 2 ^ M) := Lib.hid (by
        have h := hF.2.2.2.2
        have h2 := hL.perm.length_eq
        rw [← hcs] at h
        rw [hM, Int.toNat_natCast] at h
        rw [h2, HCL.out, ← HLA.out]; exact h)
      rw [hM, Int.toNat_natCast] at hL
      have HL := Lib.hid hL
      have HRL := Lib.hid hRL
      have HLL : Hid (lens.length = la) := Lib.hid (by rw [← hll, lv_len])
      clear hret hL hO hRL hll hcs hF
      subst hM
      go_wp2_with fail
      refine (counts_any zs a la ca (M : Int) w2 HC2.out).mono ?_
      rintro e w3 ⟨hct, q, rfl⟩
      have he := HCT.out e hct
      subst he
      rw [HZC.out] at HI2 HC2
      have HI3 := Lib.hid (HI2.out.below (Nat.le_refl _) (L3.quiet_any w2 q))
      have HC3 := Lib.hid (HC2.out.below (Nat.le_refl _) (L3.quiet_any w2 q))
      have HR3 := Lib.hid (HRL.out.below (Nat.le_refl _) (L3.quiet_any w2 q))
      have HB3 := Lib.hid (HB2.out.trans (L3.quiet_any w2 q))
      clear hct HCT HI2 HC2 HRL HB2 HZC HLA
      generalize w2.drewN q = w3 at *
      obtain ⟨N, hN⟩ : ∃ N, N = ord.length := ⟨_, rfl⟩
      rw [← hN]
      have HNN := Lib.hid hN
      clear hN
      go_wp2_with fail
      go_loopw [10] (fun s wr => ∃ (i q : Nat), s = .int .i64 (i : Int) ∧ i ≤ la ∧ Hid (wr = w3.drewN q)) (fun s _ => la - (intOf s).toNat)
      case atStart => exact ⟨0, 0, rfl, Nat.zero_le _, Lib.hid rfl⟩
      case round =>
        obtain ⟨i, q, rfl, hi, HQ⟩ := hrel
        by_cases hlt : i < la
        · as_aux_lemma =>
          have hlti : (i : Int) < (la : Int) := by omega
          obtain ⟨ib, io, rfl⟩ := HI3.out.some_ (by omega)
          obtain ⟨jb, jo, rfl⟩ := HC3.out.some_ (by omega)
          obtain ⟨kb, ko, rfl⟩ := HR3.out.some_ (by omega)
          obtain ⟨z, hz⟩ : ∃ v, v = cs.getD i 0 := ⟨_, rfl⟩
          obtain ⟨li, hli⟩ : ∃ v, v = lens.getD i 0 := ⟨_, rfl⟩
          have c1 : wr.cell? ⟨ib, io + i, none⟩ = some (.int .i64 (z : Int)) := by
            rw [HQ.out, drewN_cell, hz]; exact lv_cell HI3.out i (by rw [HCL.out]; exact hlt)
          have c2 : wr.cell? ⟨jb, jo + i, none⟩ = some (.int .i64 (z : Int)) := by
            rw [HQ.out, drewN_cell, hz]; exact lv_cell HC3.out i (by rw [HCL.out]; exact hlt)
          have c3 : wr.cell? ⟨kb, ko + i, none⟩ = some (.int .i64 (li : Int)) := by
            rw [HQ.out, drewN_cell, hli]; exact lv_cell HR3.out i (by rw [HLL.out]; exact hlt)
          have hlM : li ≤ M := by rw [hli]; have := L3.lens_le HL.out i; omega
          have hz0 : z = 0 → li = 0 := fun h => by rw [hli]; exact HL.out.none i (by rw [HCL.out]; exact hlt) (by rw [← hz]; exact h)
          have hz1 : 0 < z → 0 < li ∧ (N = 1 → li ≤ 1) := fun h => by
            have := lens_zero HL.out (by omega) (by rw [show M - 1 + 1 = M by omega]; exact HON.out) i (by rw [HCL.out]; exact hlt) (by rw [← hz]; exact h)
            rw [← hli, ← HNN.out] at this
            exact this
          have d0 : decide ((li : Int) < 0) = false := by simp
          have d1 : decide ((M : Int) < (li : Int)) = false := by simp; omega
          have d1n : decide (M < li) = false := by simp; omega
          clear hz hli
          by_cases q1 : N = 1
          · have d4 : ((N : Int) == 1) = true := by simp; omega
            have d4n : (N == 1) = true := by simp; omega
            have hli1 : li ≤ 1 := by
              by_cases h : 0 < z
              · exact (hz1 h).2 q1
              · have := hz0 (by omega); omega
            have d5 : decide ((1 : Int) < (li : Int)) = false := by simp; omega
            have d5n : decide (1 < li) = false := by simp; omega
            by_cases q2 : z = 0
            · obtain rfl : li = 0 := hz0 q2
              subst q2
              clear hz0 hz1 q1 hli1
              go_wp2_with fail
              go_quiet (fail)
              have HW2 : Hid (wr.drewN nq = w3.drewN (q + nq)) := Lib.hid (by rw [HQ.out, World.drewN_drewN])
              clear HQ c1 c2 c3 d0 d1 d1n d4 d4n d5 d5n
              generalize wr.drewN nq = w7 at *
              go_wp2_with fail
              go_roundw
              case measure => simp [intOf]; omega
              case rel => exact ⟨i + 1, _, by simp, by omega, HW2⟩
            · have := (hz1 (by omega)).1
              have e1 : ((li : Int) == 0) = false := by simp; omega
              have e2 : ((z : Int) == 0) = false := by simp; omega
              have e1n : (li == 0) = false := by simp; omega
              have e2n : (z == 0) = false := by simp; omega
              subst q1
              clear hz0 hz1 q2 this
              go_wp2_with fail
              go_quiet (fail)
              have HW2 : Hid (wr.drewN nq = w3.drewN (q + nq)) := Lib.hid (by rw [HQ.out, World.drewN_drewN])
              clear HQ c1 c2 c3 d0 d1 d1n d4 d4n d5 d5n e1 e2 e1n e2n
              generalize wr.drewN nq = w7 at *
              go_wp2_with fail
              go_roundw
              case measure => simp [intOf]; omega
              case rel => exact ⟨i + 1, _, by simp, by omega, HW2⟩
          · have d4 : ((N : Int) == 1) = false := by simp; omega
            have d4n : (N == 1) = false := by simp; omega
            by_cases q2 : z = 0
            · obtain rfl : li = 0 := hz0 q2
              subst q2
              clear hz0 hz1
              go_wp2_with fail
              go_quiet (fail)
              have HW2 : Hid (wr.drewN nq = w3.drewN (q + nq)) := Lib.hid (by rw [HQ.out, World.drewN_drewN])
              clear HQ c1 c2 c3 d0 d1 d1n d4 d4n
              generalize wr.drewN nq = w7 at *
              go_wp2_with fail
              go_roundw
              case measure => simp [intOf]; omega
              case rel => exact ⟨i + 1, _, by simp, by omega, HW2⟩
            · have := (hz1 (by omega)).1
              have e1 : ((li : Int) == 0) = false := by simp; omega
              have e2 : ((z : Int) == 0) = false := by simp; omega
              have e1n : (li == 0) = false := by simp; omega
              have e2n : (z == 0) = false := by simp; omega
              clear hz0 hz1 q2 this
              go_wp2_with fail
              go_quiet (fail)
              have HW2 : Hid (wr.drewN nq = w3.drewN (q + nq)) := Lib.hid (by rw [HQ.out, World.drewN_drewN])
              clear HQ c1 c2 c3 d0 d1 d1n d4 d4n e1 e2 e1n e2n
              generalize wr.drewN nq = w7 at *
              go_wp2_with fail
              go_roundw
              case measure => simp [intOf]; omega
              case rel => exact ⟨i + 1, _, by simp, by omega, HW2⟩
        · have hlti : ¬ (i : Int) < (la : Int) := by omega
          have hwr := HQ.out
          subst hwr
          have HB4 := Lib.hid (HB3.out.trans (L3.quiet_any w3 q))
          have HC4 := Lib.hid (HC3.out.below (Nat.le_refl _) (L3.quiet_any w3 q))
          have HR4 := Lib.hid (HR3.out.below (Nat.le_refl _) (L3.quiet_any w3 q))
          clear HQ HB3 HC3 HR3 HI3 hlt
          generalize w3.drewN q = w4 at *
          by_cases hN2 : N < 2
          · have hN2i : (N : Int) < 2 := by omega
            go_wp2_with (go_at_call 8; refine (told_any w4).mono ?_; rintro e w6 ⟨rfl, hb⟩)
            go_ret
            exact ⟨rfl, HB4.out.trans (hb.mono HB4.out.size)⟩
          · have hN2i : ¬ (N : Int) < 2 := by omega
            have HMO : Hid (Modest cs lens) := Lib.hid ⟨by rw [HCL.out]; omega, by rw [HLL.out]; omega, HSM.out, fun j => Nat.le_trans (L3.lens_le HL.out j) (by omega)⟩
            have HKN : Hid (CanC.kindN lens = 1) := Lib.hid (by
              have := lens_kraft HL.out (by omega) (by rw [← HNN.out]; omega) (by rw [show M - 1 + 1 = M by omega]; exact HON.out)
              unfold CanC.kindN
              rw [if_neg (by omega), if_neg (by omega), if_pos this])
            have HGO : Hid (CanC.Good (lens.map fun (x : Nat) => (x : Int))) := Lib.hid (by
              refine ⟨by rw [List.length_map, HLL.out]; omega, fun z hz => ?_⟩
              obtain ⟨x, hx, rfl⟩ := List.mem_map.1 hz
              obtain ⟨j, hj, rfl⟩ := List.getElem_of_mem hx
              have := L3.lens_le HL.out j
              rw [getD_at _ _ hj] at this
              omega)
            obtain ⟨p, hp⟩ : ∃ p, p = prd cs lens la := ⟨_, rfl⟩
            have HLE : Hid (p = ((ws (lvl (ord.map (cs.getD · 0)) (M - 1))).take (2 * (ord.map (cs.getD · 0)).length - 2)).sum) := Lib.hid (by
              have := lens_least HL.out (by rw [← HNN.out]; omega) (by rw [show M - 1 + 1 = M by omega]; exact HON.out)
              rw [HCL.out] at this
              rw [hp, this])
            have HLST : Hid (∀ w, RowIn w a la ca (lv cs) → Calls Try.prog 13 #[.slice a la ca, .int .i64 (M : Int)] w fun e w' => e = .returned (.int .i64 ((p : Nat) : Int)) ∧ Below w.heap.size w w') := Lib.hid (fun w hw => by
              rw [HLE.out]
              exact least_any cs a la ca M w hw (by rw [HCL.out]; omega) hM1 hM15 HSM.out _ HL.out.srt (ord_vals HL.out.perm) (by rw [List.length_map, ← HNN.out]; omega) (by rw [List.length_map]; exact HON.out))
            have HP := Lib.hid hp
            clear hp HLE HL HSM HON HNN hN2
            go_wp2_with fail
            refine (told_any w4).mono ?_
            rintro e w5 ⟨rfl, hb⟩
            have HC5 := Lib.hid (HC4.out.below (Nat.le_refl _) hb)
            have HR5 := Lib.hid (HR4.out.below (Nat.le_refl _) hb)
            have HB5 := Lib.hid (HB4.out.trans (hb.mono HB4.out.size))
            clear hb HC4 HR4 HB4
            go_wp2_with fail
            refine (CanC.kind_good (zs := lens.map fun (x : Nat) => (x : Int)) (by have := HR5.out; rw [L3.lv_ints] at this; exact this) HGO.out).mono ?_
            rw [show CanC.nat (lens.map fun (x : Nat) => (x : Int)) = lens from L3.nat_back lens, HKN.out]
            rintro e w6 ⟨rfl, hb⟩
            have HC6 := Lib.hid (HC5.out.below (Nat.le_refl _) hb)
            have HR6 := Lib.hid (HR5.out.below (Nat.le_refl _) hb)
            have HB6 := Lib.hid (HB5.out.trans (hb.mono HB5.out.size))
            clear hb HC5 HR5 HB5 HGO HKN
            have HRC := Lib.hid (refcost_any HC6.out HR6.out HMO.out)
            rw [Nat.min_self, ← HP.out] at HRC
            go_wp2_with fail
            refine HRC.out.mono ?_
            rintro e w7 ⟨rfl, q7, rfl⟩
            have HC7 := Lib.hid (HC6.out.below (Nat.le_refl _) (L3.quiet_any w6 q7))
            have HB7 := Lib.hid (HB6.out.trans (L3.quiet_any w6 q7))
            clear HRC HC6 HR6 HB6 HMO HP
            generalize w6.drewN q7 = w7 at *
            go_wp2_with fail
            refine (HLST.out w7 HC7.out).mono ?_
            rintro e w8 ⟨rfl, hb⟩
            have HB8 := Lib.hid (HB7.out.trans (hb.mono HB7.out.size))
            clear hb HLST HC7 HB7
            go_wp2_with fail
            go_ret
            exact ⟨by simp, HB8.out⟩
    · have he := hret.1 hF
      subst he
      have HCT : Hid (∀ e, CtsRet zs most e → ∃ k, e = .returned (.tuple #[.int .i64 k, .bool false])) := Lib.hid (fun e h => h.2 hF)
      clear hret hF
      go_wp2_with fail
      refine (counts_any zs a la ca most w2 HC2.out).mono ?_
      rintro e w3 ⟨hct, q, rfl⟩
      obtain ⟨k, he⟩ := HCT.out e hct
      subst he
      have HB3 := Lib.hid (HB2.out.trans (L3.quiet_any w2 q))
      clear hct HCT HI2 HC2 HB2
      generalize w2.drewN q = w3 at *
      go_wp2_with (go_at_call 8; refine (told_any w3).mono ?_; rintro e w4 ⟨rfl, hb⟩)
      go_ret
      exact ⟨by simp, HB3.out.trans (hb.mono HB3.out.size)⟩
  · have g1 : (320 : Int) < (la : Int) := by omega
    clear hA hla
    go_enter Try.func3, Try.ntmps3
    go_wp2_with (go_at_call 8; refine (told_any w).mono ?_; rintro e w4 ⟨rfl, hb⟩)
    go_ret
    exact ⟨rfl, hb⟩
end Go.Proofs.Ytmfnncachaejgaa.PkC
