/-
  stevedorelaw9.PackOrder.
-/
import Derived.Test.YtmfnncachaejgaaPkOrd
namespace Go.Proofs.Ytmfnncachaejgaa.PkC
open Go.Shelf Go.RowKit Go.My PackMath

namespace L3
theorem quiet_any {B : Nat} (w : World) (q : Nat) : Below B w (w.drewN q) := ⟨rfl, rfl, rfl, Nat.le_refl _, fun _ _ => rfl⟩
theorem nat_back (l : List Nat) : (l.map fun (x : Nat) => (x : Int)).map Int.toNat = l := by
  rw [List.map_map]
  conv => rhs; rw [← List.map_id l]
  refine List.map_congr_left fun x _ => ?_
  simp
theorem lv_ints (l : List Nat) : lv l = (l.map fun (x : Nat) => (x : Int)).map fun z => Value.int .i64 z := by
  unfold lv; rw [List.map_map]; rfl
theorem un_nat (n : Int) : ∃ u : Nat, IntKind.u64.wrap n = (u : Int) := by
  have : 0 ≤ IntKind.u64.wrap n := by
    simp only [IntKind.wrap, IntKind.bits, IntKind.signed]
    simp
    omega
  exact ⟨(IntKind.u64.wrap n).toNat, by omega⟩
theorem un_mod (n : Int) (m : Nat) (h0 : 0 < m) : ∃ r : Nat, r < m ∧ (IntKind.u64.wrap n).tmod (m : Int) = (r : Int) := by
  obtain ⟨u, hu⟩ := un_nat n
  rw [hu]
  exact ⟨u % m, Nat.mod_lt _ h0, rfl⟩
theorem lens_le {cs : List Nat} {L : Nat} {ord lens : List Nat} (h : Lens cs L ord lens) (i : Nat) : lens.getD i 0 ≤ L + 1 := by
  by_cases hi : i < cs.length
  · by_cases h0 : 0 < cs.getD i 0
    · obtain ⟨j, hj, e1, e2, e3⟩ := lens_sym h i hi h0
      rw [e3]
      unfold lfin
      split
      · omega
      · exact len_le _
    · rw [h.none i hi (by omega)]; omega
  · rw [List.getD_eq_getElem?_getD, List.getElem?_eq_none (by rw [h.size]; omega)]; exact Nat.zero_le _
theorem modest_lens {cs : List Nat} {L : Nat} {ord lens : List Nat} (h : Lens cs L ord lens) (hL : L ≤ 14) (hc : ∀ j, cs.getD j 0 ≤ 1048576) (hn : cs.length ≤ 400) : Modest cs lens :=
  ⟨by omega, by rw [h.size]; omega, fun j => Nat.le_trans (hc j) (by omega), fun j => Nat.le_trans (lens_le h j) (by omega)⟩
/-- Lengths, of counts that are numbers and may be packed. -/
theorem lengths_nat (cs : List Nat) (a : Option Addr) (len cap n : Nat) (w : World) (hR : RowIn w a len cap (lv cs)) (hl : cs.length ≤ 400) (hn : 1 ≤ n) (hn2 : n ≤ 15) (hc : ∀ j, cs.getD j 0 ≤ 1048576) (hk : cs.length ≤ 2 ^ n) :
    Calls Try.prog 9 #[.slice a len cap, .int .i64 (n : Int)] w fun e w' => (∃ b c ord lens, e = .returned (.tuple #[.slice b len c, .int .i64 0]) ∧ Lens cs (n - 1) ord lens ∧ RowIn w' b len c (lv lens)) ∧ Below w.heap.size w w' := by
  have hlen := lv_size hR
  have hF : Fine (cs.map fun (x : Nat) => (x : Int)) (n : Int) := by
    refine ⟨by simpa using hl, by omega, by omega, fun z hz => ?_, ?_⟩
    · obtain ⟨x, hx, rfl⟩ := List.mem_map.1 hz
      obtain ⟨i, hi, rfl⟩ := List.getElem_of_mem hx
      have := hc i
      rw [List.getD_eq_getElem?_getD, List.getElem?_eq_getElem hi] at this
      have h2 : cs[i] ≤ 1048576 := this
      omega
    · rw [nat_back, List.length_map]
      exact Nat.le_trans (pos_len _ _) (by simpa using hk)
  refine (lengths_all _ a len cap (n : Int) w (by rw [← lv_ints]; exact hR)).mono ?_
  rintro e w' ⟨hr, hb⟩
  refine ⟨?_, hb⟩
  obtain ⟨v, ord, lens, rfl, hL, hO⟩ := hr.2 hF
  rw [nat_back, Int.toNat_natCast] at hL
  obtain ⟨b, c, rfl, hB⟩ := hO.row
  have : (lv lens).length = len := by rw [lv_len, hL.size, hlen]
  rw [this] at hB ⊢
  exact ⟨b, c, ord, lens, rfl, hL, hB⟩
end L3
theorem take_rev (cs : List Nat) (j i : Nat) (h : i + 1 + j = cs.length) : cs.reverse.take (j + 1) = cs.reverse.take j ++ [cs.getD i 0] := by
  have hj : j < cs.reverse.length := by rw [List.length_reverse]; omega
  rw [List.take_succ_eq_append_getElem hj, List.getElem_reverse, List.getD_eq_getElem?_getD, List.getElem?_eq_getElem (by omega)]
  congr 2
  simp only [show cs.length - 1 - j = i by omega]
  rfl
set_option maxRecDepth 100000 in
set_option maxHeartbeats 8000000 in
theorem order_law (ya : List Int) (a : Option Addr) (la ca : Nat) (most : Int) (w : World) (hA : RowIn w a la ca (ya.map fun z => Value.int .i64 z)) :
    Calls Try.prog 5 #[.slice a la ca, .int .i64 most] w fun e w' => e = .returned (.bool true) ∧ Below w.heap.size w w' := by
  have hla : ya.length = la := by rw [← hA.len_eq]; simp
  by_cases h1 : la ≤ 40
  · have g1 : ¬ (40 : Int) < (la : Int) := by omega
    obtain ⟨r, hr, e0⟩ := L3.un_mod most 9 (by omega)
    have e0 : (IntKind.u64.wrap most).tmod 9 = (r : Int) := e0
    have E0 := Lib.hid e0
    have HA := Lib.hid hA
    have HLA := Lib.hid hla
    clear hA hla e0
    go_enter Try.func5, Try.ntmps5
    go_wp2_with fail
    have HST : Hid (OwnV 3 w.heap.size w (.slice none 0 0) (lv ((ya.take 0).map msk))) := Lib.hid (OwnV.nil _ _ _)
    go_loopw [7, 5] (fun s t wr => ∃ (i : Nat) (ad : Option Addr) (c : Nat), s = .int .i64 (i : Int) ∧ t = .slice ad i c ∧ i ≤ la ∧ Hid (OwnV 3 w.heap.size wr (.slice ad i c) (lv ((ya.take i).map msk))) ∧ Hid (Below w.heap.size w wr)) (fun s _ _ => la - (intOf s).toNat)
    case atStart => exact ⟨0, none, 0, rfl, rfl, Nat.zero_le _, HST, Lib.hid (Below.refl _ _)⟩
    case round =>
      clear HST
      obtain ⟨i, ad, c, rfl, rfl, hi, HO, HB⟩ := hrel
      by_cases hlt : i < la
      · as_aux_lemma =>
        have hlti : (i : Int) < (la : Int) := by omega
        have hR := HA.out.below (Nat.le_refl _) HB.out
        obtain ⟨ib, io, rfl⟩ := hR.some_ (by omega)
        have hiy : i < ya.length := by rw [HLA.out]; exact hlt
        obtain ⟨y, hy⟩ : ∃ y, y = ya[i]'hiy := ⟨_, rfl⟩
        have c1 : wr.cell? ⟨ib, io + i, none⟩ = some (.int .i64 y) := by
          rw [hR.get i (by simpa using hiy), hy]; simp
        have HTK : Hid (lv ((ya.take (i + 1)).map msk) = lv ((ya.take i).map msk) ++ lv [msk y]) := Lib.hid (by rw [hy, take_one _ _ _ hiy, lv_append])
        have HLT : Hid ((lv ((ya.take i).map msk)).length = i) := Lib.hid (by rw [lv_len, List.length_map, List.length_take]; omega)
        generalize lv ((ya.take i).map msk) = D at *
        obtain ⟨v, hv⟩ : ∃ v, v = msk y := ⟨_, rfl⟩
        rw [← hv] at HTK
        have e1 : bits .and .i64 y 1048575 = (v : Int) := by rw [hv]; exact msk_and y
        have HR2 : Hid (RowIn (wr.alloc (.cells #[.int .i64 (v : Int)] 3)) (some ⟨wr.heap.size, 0, none⟩) 1 1 (lv [v])) := Lib.hid (lit_row wr v)
        have HO2 : Hid (OwnV 3 w.heap.size (wr.alloc (.cells #[.int .i64 (v : Int)] 3)) (.slice ad i c) D) := Lib.hid (HO.out.below (Nat.le_refl _) ((Below.refl _ wr).alloc (Nat.le_refl _) _))
        have HB2 : Hid (Below w.heap.size w (wr.alloc (.cells #[.int .i64 (v : Int)] 3))) := Lib.hid (HB.out.alloc HB.out.size _)
        clear hR hiy hy hv HO HB
        go_wp2_with (at_builtin; refine wpList_append_row (by rfl) (.tmp 28) (.tmp 34) 22 rfl w.heap.size 3 (.int .i64 0) 8 Try.underlying22 info_int' rfl (.slice ad i c) D rfl HO2.out (some ⟨wr.heap.size, 0, none⟩) 1 1 (lv [v]) rfl HR2.out (lv_one _) (by rw [HLT.out]; omega) (by rw [HLT.out]; omega) HB2.out.size ?_)
        intro a7 c7 w7 hown hgrow _
        rw [HLT.out] at hown ⊢
        rw [← HTK.out] at hown
        have HO7 := Lib.hid hown
        have HB7 := Lib.hid (HO2.out.grown HB2.out hgrow HB2.out.size)
        clear hown hgrow HO2 HB2 HR2 c1
        go_wp2_with fail
        go_roundw
        case measure => simp [intOf]; omega
        case rel => exact ⟨i + 1, a7, c7, by simp, by simp, by omega, HO7, HB7⟩

      · have hlti : ¬ (i : Int) < (la : Int) := by omega
        obtain rfl : i = la := by omega
        obtain ⟨w2, hw2⟩ : ∃ w2, w2 = wr := ⟨_, rfl⟩
        rw [← hw2] at HO HB ⊢
        clear hw2 hlt
        obtain ⟨cs, hcs⟩ : ∃ cs, cs = ya.map msk := ⟨_, rfl⟩
        have HRA : Hid (RowIn w2 ad i c (lv cs)) := Lib.hid (by
          have := HO.out.rowIn (by rw [lv_len, List.length_map, List.length_take]; have := HLA.out; omega)
          rwa [List.take_of_length_le (by have := HLA.out; omega), ← hcs] at this)
        have HCL : Hid (cs.length = i) := Lib.hid (by rw [hcs, List.length_map, HLA.out])
        have HCM : Hid (∀ j, cs.getD j 0 ≤ 1048576) := Lib.hid (fun j => by
          rw [hcs, List.getD_eq_getElem?_getD, List.getElem?_map]
          cases ya[j]? with
          | none => exact Nat.zero_le _
          | some y => exact Nat.le_of_lt (msk_lt y))
        have HBW := HB
        clear HO HB HA HLA hcs hi
        generalize i = la at *
        rename_i ca0
        have e1 : IntKind.i64.wrap ((la : Int) - 1) = (la : Int) - 1 := by rw [IntKind.wrap_i64]; omega
        go_wp2_with fail
        clear e1
        have HST : Hid (OwnV 3 w2.heap.size w2 (.slice none 0 0) (lv (cs.reverse.take 0))) := Lib.hid (OwnV.nil _ _ _)
        go_loopw [8, 6] (fun s t wr => ∃ (x : Int) (j : Nat) (ad : Option Addr) (c : Nat), s = .int .i64 x ∧ x + 1 + (j : Int) = (la : Int) ∧ t = .slice ad j c ∧ j ≤ la ∧ Hid (OwnV 3 w2.heap.size wr (.slice ad j c) (lv (cs.reverse.take j))) ∧ Hid (Below w2.heap.size w2 wr)) (fun s _ _ => (intOf s + 1).toNat)
        case atStart => exact ⟨(la : Int) - 1, 0, none, 0, rfl, by omega, rfl, Nat.zero_le _, HST, Lib.hid (Below.refl _ _)⟩
        case round =>
          clear HST
          obtain ⟨x, j, ad2, c2, rfl, hxj, rfl, hj, HO, HB⟩ := hrel
          by_cases hlt : j < la
          · as_aux_lemma =>
            obtain ⟨i, rfl⟩ : ∃ i : Nat, x = (i : Int) := ⟨x.toNat, by omega⟩
            have hilt : i < la := by omega
            have hR := HRA.out.below (Nat.le_refl _) HB.out
            obtain ⟨ib, io, rfl⟩ := hR.some_ (by omega)
            obtain ⟨v, hv⟩ : ∃ v, v = cs.getD i 0 := ⟨_, rfl⟩
            have c1 : wr.cell? ⟨ib, io + i, none⟩ = some (.int .i64 (v : Int)) := by
              rw [hv]; exact lv_cell hR i (by rw [HCL.out]; exact hilt)
            have HTK : Hid (lv (cs.reverse.take (j + 1)) = lv (cs.reverse.take j) ++ lv [v]) := Lib.hid (by rw [hv, take_rev cs j i (by rw [HCL.out]; omega), lv_append])
            have HLT : Hid ((lv (cs.reverse.take j)).length = j) := Lib.hid (by rw [lv_len, List.length_take, List.length_reverse, HCL.out]; omega)
            generalize lv (cs.reverse.take j) = D at *
            have HR2 : Hid (RowIn (wr.alloc (.cells #[.int .i64 (v : Int)] 3)) (some ⟨wr.heap.size, 0, none⟩) 1 1 (lv [v])) := Lib.hid (lit_row wr v)
            have HO2 : Hid (OwnV 3 w2.heap.size (wr.alloc (.cells #[.int .i64 (v : Int)] 3)) (.slice ad2 j c2) D) := Lib.hid (HO.out.below (Nat.le_refl _) ((Below.refl _ wr).alloc (Nat.le_refl _) _))
            have HB2 : Hid (Below w2.heap.size w2 (wr.alloc (.cells #[.int .i64 (v : Int)] 3))) := Lib.hid (HB.out.alloc HB.out.size _)
            have e1 : IntKind.i64.wrap ((i : Int) - 1) = (i : Int) - 1 := by rw [IntKind.wrap_i64]; omega
            clear hR hv HO HB
            go_wp2_with (at_builtin; refine wpList_append_row (by rfl) (.tmp 43) (.tmp 48) 22 rfl w2.heap.size 3 (.int .i64 0) 8 Try.underlying22 info_int' rfl (.slice ad2 j c2) D rfl HO2.out (some ⟨wr.heap.size, 0, none⟩) 1 1 (lv [v]) rfl HR2.out (lv_one _) (by rw [HLT.out]; omega) (by rw [HLT.out]; omega) HB2.out.size ?_)
            intro a7 c7 w7 hown hgrow _
            rw [HLT.out] at hown ⊢
            rw [← HTK.out] at hown
            have HO7 := Lib.hid hown
            have HB7 := Lib.hid (HO2.out.grown HB2.out hgrow HB2.out.size)
            clear hown hgrow HO2 HB2 HR2 c1
            go_wp2_with fail
            go_roundw
            case measure => simp [intOf]
            case rel => exact ⟨(i : Int) - 1, j + 1, a7, c7, by simp, by omega, by simp, by omega, HO7, HB7⟩
          · obtain rfl : j = la := by omega
            obtain rfl : x = -1 := by omega
            have HRB : Hid (RowIn wr ad2 j c2 (lv cs.reverse)) := Lib.hid (by
              have := HO.out.rowIn (by rw [lv_len, List.length_take, List.length_reverse, HCL.out]; omega)
              rwa [List.take_of_length_le (by rw [List.length_reverse, HCL.out]; omega)] at this)
            have HRA2 := Lib.hid (HRA.out.below (Nat.le_refl _) HB.out)
            have HW := Lib.hid (HBW.out.trans (HB.out.mono HBW.out.size))
            clear HO HB HRA HBW hlt hxj hj
            generalize j = la at *
            obtain ⟨n, hn⟩ : ∃ n, n = 6 + r := ⟨_, rfl⟩
            have e3 : 6 + (r : Int) = (n : Int) := by omega
            have hn6 : 6 ≤ n := by omega
            have hn14 : n ≤ 14 := by omega
            have e5 : (n : Int) + 1 = ((n + 1 : Nat) : Int) := by omega
            have hp6 : la ≤ 2 ^ n := Nat.le_trans (show la ≤ 2 ^ 6 by omega) (Nat.pow_le_pow_right (by omega) hn6)
            have HP6 := Lib.hid hp6
            have E5 := Lib.hid e5
            clear hn hp6 e5
            have e0 := E0.out
            have er : (r : Int) ≤ 8 := by omega
            generalize wr = w3 at *
            go_wp2_with fail
            clear e0 e3 er
            refine (L3.lengths_nat cs ad la c n w3 HRA2.out (by rw [HCL.out]; omega) (by omega) (by omega) HCM.out (by rw [HCL.out]; exact HP6.out)).mono ?_
            rintro e w4 ⟨⟨l1, lc1, ord1, lens1, rfl, hL1, hR1⟩, hb⟩
            have HL1 := Lib.hid hL1
            have HR1 := Lib.hid hR1
            have HRA4 := Lib.hid (HRA2.out.below (Nat.le_refl _) hb)
            have HRB4 := Lib.hid (HRB.out.below (Nat.le_refl _) hb)
            have HW4 := Lib.hid (HW.out.trans (hb.mono HW.out.size))
            clear hL1 hR1 hb HRA2 HRB HW
            go_wp2_with fail
            refine (L3.lengths_nat cs.reverse ad2 la c2 n w4 HRB4.out (by rw [List.length_reverse, HCL.out]; omega) (by omega) (by omega) (fun q => ?_) (by rw [List.length_reverse, HCL.out]; exact HP6.out)).mono ?_
            · by_cases hq : q < cs.length
              · rw [List.getD_eq_getElem?_getD, List.getElem?_reverse hq, ← List.getD_eq_getElem?_getD]; exact HCM.out _
              · rw [List.getD_eq_getElem?_getD, List.getElem?_eq_none (by rw [List.length_reverse]; omega)]; exact Nat.zero_le _
            rintro e w5 ⟨⟨l2, lc2, ord2, lens2, rfl, hL2, hR2⟩, hb⟩
            have HL2 := Lib.hid hL2
            have HR2 := Lib.hid hR2
            have HRA5 := Lib.hid (HRA4.out.below (Nat.le_refl _) hb)
            have HRB5 := Lib.hid (HRB4.out.below (Nat.le_refl _) hb)
            have HR15 := Lib.hid (HR1.out.below (Nat.le_refl _) hb)
            have HW5 := Lib.hid (HW4.out.trans (hb.mono HW4.out.size))
            clear hL2 hR2 hb HRA4 HRB4 HW4 HR1
            have e5 := E5.out
            obtain ⟨n1, hn1⟩ : ∃ n1, n1 = n + 1 := ⟨_, rfl⟩
            rw [← hn1] at e5
            have hn15 : n1 ≤ 15 := by omega
            have HN1 := Lib.hid hn1
            have e6 : IntKind.i64.wrap ((n : Int) + 1) = (n1 : Int) := by rw [IntKind.wrap_i64]; omega
            have e7 : wrap64 ((n : Int) + 1) = (n1 : Int) := by unfold wrap64; omega
            have hnn : n1 = n + 1 := hn1
            clear hn1 hnn
            go_wp2_with fail
            clear e5 e6 e7
            have hn1 := HN1.out
            refine (L3.lengths_nat cs ad la c n1 w5 HRA5.out (by rw [HCL.out]; omega) (by omega) (by omega) HCM.out (by rw [HCL.out, hn1, Nat.pow_succ]; have := HP6.out; omega)).mono ?_
            rintro e w6 ⟨⟨l3, lc3, ord3, lens3, rfl, hL3, hR3⟩, hb⟩
            rw [show n1 - 1 = n - 1 + 1 by omega] at hL3
            have HL3 := Lib.hid hL3
            have HR3 := Lib.hid hR3
            have HRA6 := Lib.hid (HRA5.out.below (Nat.le_refl _) hb)
            have HRB6 := Lib.hid (HRB5.out.below (Nat.le_refl _) hb)
            have HR16 := Lib.hid (HR15.out.below (Nat.le_refl _) hb)
            have HR26 := Lib.hid (HR2.out.below (Nat.le_refl _) hb)
            have HW6 := Lib.hid (HW5.out.trans (hb.mono HW5.out.size))
            have HLN : Hid (lens1.length = la) := Lib.hid (by rw [HL1.out.size, HCL.out])
            clear hL3 hR3 hb HRA5 HRB5 HR15 HR2 HW5 hn1
            go_wp2_with fail
            go_loopw [16, 17] (fun s _ wr => ∃ (i q : Nat), s = .int .i64 (i : Int) ∧ i ≤ la ∧ Hid (wr = w6.drewN q)) (fun s _ _ => la - (intOf s).toNat)
            case atStart => exact ⟨0, 0, rfl, Nat.zero_le _, Lib.hid rfl⟩
            case round =>
              obtain ⟨i, q, rfl, hi, HQ⟩ := hrel
              by_cases hlt : i < la
              · have hlti : (i : Int) < (la : Int) := by omega
                have hwr := HQ.out
                subst hwr
                clear HQ
                go_wp2_with fail
                go_loopw [17] (fun s wr => ∃ (k q : Nat), s = .int .i64 (k : Int) ∧ k ≤ la ∧ Hid (wr = w6.drewN q)) (fun s _ => la - (intOf s).toNat)
                case atStart => exact ⟨0, q, rfl, Nat.zero_le _, Lib.hid rfl⟩
                case round =>
                  obtain ⟨k, q2, rfl, hk, HQ⟩ := hrel
                  by_cases hlt2 : k < la
                  · as_aux_lemma =>
                    have hlti2 : (k : Int) < (la : Int) := by omega
                    obtain ⟨ib, io, rfl⟩ := HRA6.out.some_ (by omega)
                    obtain ⟨jb, jo, rfl⟩ := HR16.out.some_ (by omega)
                    obtain ⟨ci, hci⟩ : ∃ v, v = cs.getD i 0 := ⟨_, rfl⟩
                    obtain ⟨ck, hck⟩ : ∃ v, v = cs.getD k 0 := ⟨_, rfl⟩
                    obtain ⟨li, hli⟩ : ∃ v, v = lens1.getD i 0 := ⟨_, rfl⟩
                    obtain ⟨lk, hlk⟩ : ∃ v, v = lens1.getD k 0 := ⟨_, rfl⟩
                    have c1 : wr.cell? ⟨ib, io + i, none⟩ = some (.int .i64 (ci : Int)) := by
                      rw [HQ.out, drewN_cell, hci]; exact lv_cell HRA6.out i (by rw [HCL.out]; exact hlt)
                    have c2 : wr.cell? ⟨ib, io + k, none⟩ = some (.int .i64 (ck : Int)) := by
                      rw [HQ.out, drewN_cell, hck]; exact lv_cell HRA6.out k (by rw [HCL.out]; exact hlt2)
                    have c3 : wr.cell? ⟨jb, jo + i, none⟩ = some (.int .i64 (li : Int)) := by
                      rw [HQ.out, drewN_cell, hli]; exact lv_cell HR16.out i (by rw [HLN.out]; exact hlt)
                    have c4 : wr.cell? ⟨jb, jo + k, none⟩ = some (.int .i64 (lk : Int)) := by
                      rw [HQ.out, drewN_cell, hlk]; exact lv_cell HR16.out k (by rw [HLN.out]; exact hlt2)
                    have key : ck < ci → 0 < ck → li ≤ lk := fun h1 h2 => by
                      rw [hli, hlk]
                      rw [hci, hck] at h1
                      rw [hck] at h2
                      exact len_order HL1.out i k (by rw [HCL.out]; exact hlt) (by rw [HCL.out]; exact hlt2) h1 h2
                    clear hci hck hli hlk
                    by_cases q1 : ck < ci
                    · have d1 : decide ((ck : Int) < (ci : Int)) = true := by simp; omega
                      have d1n : decide (ck < ci) = true := by simp; omega
                      by_cases q2' : 0 < ck
                      · have d2 : decide ((0 : Int) < (ck : Int)) = true := by simp; omega
                        have d2n : decide (0 < ck) = true := by simp; omega
                        have d3 : decide ((lk : Int) < (li : Int)) = false := by have := key q1 q2'; simp; omega
                        have d3n : decide (lk < li) = false := by have := key q1 q2'; simp; omega
                        clear key q1 q2'
                        go_wp2_with fail
                        go_quiet (fail)
                        have HW2 : Hid (wr.drewN nq = w6.drewN (q2 + nq)) := Lib.hid (by rw [HQ.out, World.drewN_drewN])
                        clear HQ c1 c2 c3 c4 d1 d1n d2 d2n d3 d3n
                        generalize wr.drewN nq = w7 at *
                        go_wp2_with fail
                        go_roundw
                        case measure => simp [intOf]; omega
                        case rel => exact ⟨k + 1, _, by simp, by omega, HW2⟩
                      · have d2 : decide ((0 : Int) < (ck : Int)) = false := by simp; omega
                        have d2n : decide (0 < ck) = false := by simp; omega
                        clear key q1 q2'
                        go_wp2_with fail
                        go_quiet (fail)
                        have HW2 : Hid (wr.drewN nq = w6.drewN (q2 + nq)) := Lib.hid (by rw [HQ.out, World.drewN_drewN])
                        clear HQ c1 c2 c3 c4 d1 d1n d2 d2n
                        generalize wr.drewN nq = w7 at *
                        go_wp2_with fail
                        go_roundw
                        case measure => simp [intOf]; omega
                        case rel => exact ⟨k + 1, _, by simp, by omega, HW2⟩
                    · have d1 : decide ((ck : Int) < (ci : Int)) = false := by simp; omega
                      have d1n : decide (ck < ci) = false := by simp; omega
                      clear key q1
                      go_wp2_with fail
                      go_quiet (fail)
                      have HW2 : Hid (wr.drewN nq = w6.drewN (q2 + nq)) := Lib.hid (by rw [HQ.out, World.drewN_drewN])
                      clear HQ c1 c2 c3 c4 d1 d1n
                      generalize wr.drewN nq = w7 at *
                      go_wp2_with fail
                      go_roundw
                      case measure => simp [intOf]; omega
                      case rel => exact ⟨k + 1, _, by simp, by omega, HW2⟩
                  · have hlti2 : ¬ (k : Int) < (la : Int) := by omega
                    go_wp2_with fail
                    go_roundw
                    case measure => simp [intOf]; omega
                    case rel => exact ⟨i + 1, q2, by simp, by omega, HQ⟩
              · have hlti : ¬ (i : Int) < (la : Int) := by omega
                have hwr := HQ.out
                subst hwr
                clear HQ hlt
                have HW7 := Lib.hid (HW6.out.trans (L3.quiet_any w6 q))
                have HA7 := Lib.hid (HRA6.out.below (Nat.le_refl _) (L3.quiet_any w6 q))
                have HB7 := Lib.hid (HRB6.out.below (Nat.le_refl _) (L3.quiet_any w6 q))
                have H17 := Lib.hid (HR16.out.below (Nat.le_refl _) (L3.quiet_any w6 q))
                have H27 := Lib.hid (HR26.out.below (Nat.le_refl _) (L3.quiet_any w6 q))
                have H37 := Lib.hid (HR3.out.below (Nat.le_refl _) (L3.quiet_any w6 q))
                clear HW6 HRA6 HRB6 HR16 HR26 HR3 HLN
                generalize w6.drewN q = w7 at *
                have hm1 : Hid (Modest cs lens1) := Lib.hid (L3.modest_lens HL1.out (by omega) HCM.out (by rw [HCL.out]; omega))
                have hm3 : Hid (Modest cs lens3) := Lib.hid (L3.modest_lens HL3.out (by omega) HCM.out (by rw [HCL.out]; omega))
                have hm2 : Hid (Modest cs.reverse lens2) := Lib.hid (L3.modest_lens HL2.out (by omega) (fun q => by
                  by_cases hq : q < cs.length
                  · rw [List.getD_eq_getElem?_getD, List.getElem?_reverse hq, ← List.getD_eq_getElem?_getD]; exact HCM.out _
                  · rw [List.getD_eq_getElem?_getD, List.getElem?_eq_none (by rw [List.length_reverse]; omega)]; exact Nat.zero_le _) (by rw [List.length_reverse, HCL.out]; omega))
                obtain ⟨p1, hp1⟩ : ∃ p, p = prd cs lens1 la := ⟨_, rfl⟩
                obtain ⟨p3, hp3⟩ : ∃ p, p = prd cs lens3 la := ⟨_, rfl⟩
                have hp2 : prd cs.reverse lens2 la = p1 := by
                  have := cost_turned (List.reverse_perm cs) HL1.out HL2.out
                  rw [List.length_reverse, HCL.out] at this
                  rw [this, hp1]
                have hle : p3 ≤ p1 := by
                  have := cost_more (L := n - 1) (by omega) (by rw [HCL.out, show n - 1 + 1 = n by omega]; exact HP6.out) HL1.out HL3.out
                  rw [HCL.out] at this
                  rw [hp1, hp3]; exact this
                have hlei : (p3 : Int) ≤ (p1 : Int) := by omega
                have HP1 := Lib.hid hp1
                have HP2 := Lib.hid hp2
                have HP3 := Lib.hid hp3
                clear hp1 hp2 hp3 HL1 HL2 HL3 HCM E0 E5 HP6
                go_wp2_with fail
                refine (told_any w7).mono ?_
                rintro e w8 ⟨rfl, hb⟩
                have HA8 := HA7.out.below (Nat.le_refl _) hb
                have HB8 := HB7.out.below (Nat.le_refl _) hb
                have H18 := H17.out.below (Nat.le_refl _) hb
                have H28 := H27.out.below (Nat.le_refl _) hb
                have H38 := H37.out.below (Nat.le_refl _) hb
                have HW8 := Lib.hid (HW7.out.trans (hb.mono HW7.out.size))
                have HC1 := Lib.hid (fun q => cost_any (HA8.below (Nat.le_refl _) (L3.quiet_any w8 q)) (H18.below (Nat.le_refl _) (L3.quiet_any w8 q)) hm1.out)
                have HC2 := Lib.hid (fun q => cost_any (HB8.below (Nat.le_refl _) (L3.quiet_any w8 q)) (H28.below (Nat.le_refl _) (L3.quiet_any w8 q)) hm2.out)
                have HC3 := Lib.hid (fun q => cost_any (HA8.below (Nat.le_refl _) (L3.quiet_any w8 q)) (H38.below (Nat.le_refl _) (L3.quiet_any w8 q)) hm3.out)
                rw [Nat.min_self, HP2.out] at HC2
                rw [Nat.min_self, ← HP1.out] at HC1
                rw [Nat.min_self, ← HP3.out] at HC3
                clear HA8 HB8 H18 H28 H38 hb HA7 HB7 H17 H27 H37 HW7 HP1 HP2 HP3 hm1 hm2 hm3
                have HC10 : Hid (Calls Try.prog 14 #[.slice ad la c, .slice l1 la lc1] w8 fun e w' => e = .returned (.int .i64 (p1 : Int)) ∧ ∃ q, w' = w8.drewN q) := Lib.hid (HC1.out 0)
                go_wp2_with fail
                refine HC10.out.mono ?_
                rintro e w9 ⟨rfl, qa, rfl⟩
                go_wp2_with fail
                refine (HC2.out qa).mono ?_
                rintro e w9 ⟨rfl, qb, rfl⟩
                rw [World.drewN_drewN]
                go_wp2_with fail
                refine (HC3.out _).mono ?_
                rintro e w9 ⟨rfl, qc, rfl⟩
                rw [World.drewN_drewN]
                go_wp2_with fail
                refine (HC1.out _).mono ?_
                rintro e w9 ⟨rfl, qd, rfl⟩
                rw [World.drewN_drewN]
                go_wp2_with fail
                go_ret
                exact ⟨by simp, HW8.out.trans (L3.quiet_any w8 _)⟩
  · have g1 : (40 : Int) < (la : Int) := by omega
    clear hA hla
    go_enter Try.func5, Try.ntmps5
    go_wp2_with (go_at_call 8; refine (told_any w).mono ?_; rintro e w4 ⟨rfl, hb⟩)
    go_ret
    exact ⟨rfl, hb⟩
end Go.Proofs.Ytmfnncachaejgaa.PkC
