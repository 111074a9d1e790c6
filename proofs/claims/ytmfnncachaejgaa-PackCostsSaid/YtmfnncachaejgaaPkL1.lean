/-
  stevedorelaw9.PackCosts.
-/
import Derived.Test.YtmfnncachaejgaaPkTold
import Derived.Test.YtmfnncachaejgaaPkRc
namespace Go.Proofs.Ytmfnncachaejgaa.PkC
open Go.Shelf Go.RowKit Go.My PackMath

theorem quiet_any {B : Nat} (w : World) (q : Nat) : Below B w (w.drewN q) := ⟨rfl, rfl, rfl, Nat.le_refl _, fun _ _ => rfl⟩
theorem modest_msk (ya yb : List Int) (h1 : ya.length ≤ 100) (h2 : yb.length ≤ 100) : Modest (ya.map msk) (yb.map msk) := by
  have g : ∀ (ys : List Int) j, (ys.map msk).getD j 0 ≤ 1048576 := fun ys j => by
    rw [List.getD_eq_getElem?_getD, List.getElem?_map]
    cases ys[j]? with
    | none => exact Nat.zero_le _
    | some y => exact Nat.le_of_lt (msk_lt y)
  exact ⟨by simp; omega, by simp; omega, fun j => Nat.le_trans (g _ j) (by omega), g _⟩
set_option maxRecDepth 100000 in
set_option maxHeartbeats 8000000 in
theorem costs_law (ya yb : List Int) (a b : Option Addr) (la ca lb cb : Nat) (w : World) (hA : RowIn w a la ca (ya.map fun z => Value.int .i64 z)) (hB : RowIn w b lb cb (yb.map fun z => Value.int .i64 z)) :
    Calls Try.prog 4 #[.slice a la ca, .slice b lb cb] w fun e w' => e = .returned (.bool true) ∧ Below w.heap.size w w' := by
  have hla : ya.length = la := by rw [← hA.len_eq]; simp
  have hlb : yb.length = lb := by rw [← hB.len_eq]; simp
  by_cases h1 : la ≤ 100
  · by_cases h2 : lb ≤ 100
    · have g1 : ¬ (100 : Int) < (la : Int) := by omega
      have g2 : ¬ (100 : Int) < (lb : Int) := by omega
      have HA := Lib.hid hA
      have HBB := Lib.hid hB
      have HLA := Lib.hid hla
      have HLB := Lib.hid hlb
      clear hA hB hla hlb
      go_enter Try.func4, Try.ntmps4
      go_wp2_with fail
      have HST : Hid (OwnV 3 w.heap.size w (.slice none 0 0) (lv ((ya.take 0).map msk))) := Lib.hid (OwnV.nil _ _ _)
      go_loopw [7, 5] (fun s t wr => ∃ (i : Nat) (ad : Option Addr) (c : Nat), s = .int .i64 (i : Int) ∧ t = .slice ad i c ∧ i ≤ la ∧ Hid (OwnV 3 w.heap.size wr (.slice ad i c) (lv ((ya.take i).map msk))) ∧ Hid (Below w.heap.size w wr)) (fun s _ _ => la - (intOf s).toNat)
      case atStart => exact ⟨0, none, 0, rfl, rfl, Nat.zero_le _, HST, Lib.hid (Below.refl _ _)⟩
      case round =>
        clear HST
        obtain ⟨i, ad, c, rfl, rfl, hi, HO, HB⟩ := hrel
        by_cases hlt : i < la
        · as_aux_lemma =>
          have hlti : (i : Int) < (la : Int) := by omega
          have hR := HA.out.below (Nat.le_refl _) HB.out
          obtain ⟨ib, io, rfl⟩ := hR.some_ (by omega)
          have hiy : i < ya.length := by rw [HLA.out]; exact hlt
          obtain ⟨y, hy⟩ : ∃ y, y = ya[i]'hiy := ⟨_, rfl⟩
          have c1 : wr.cell? ⟨ib, io + i, none⟩ = some (.int .i64 y) := by
            rw [hR.get i (by simpa using hiy), hy]; simp
          have HTK : Hid (lv ((ya.take (i + 1)).map msk) = lv ((ya.take i).map msk) ++ lv [msk y]) := Lib.hid (by rw [hy, take_one _ _ _ hiy, lv_append])
          have HLT : Hid ((lv ((ya.take i).map msk)).length = i) := Lib.hid (by rw [lv_len, List.length_map, List.length_take]; omega)
          generalize lv ((ya.take i).map msk) = D at *
          obtain ⟨v, hv⟩ : ∃ v, v = msk y := ⟨_, rfl⟩
          rw [← hv] at HTK
          have e1 : bits .and .i64 y 1048575 = (v : Int) := by rw [hv]; exact msk_and y
          have HR2 : Hid (RowIn (wr.alloc (.cells #[.int .i64 (v : Int)] 3)) (some ⟨wr.heap.size, 0, none⟩) 1 1 (lv [v])) := Lib.hid (lit_row wr v)
          have HO2 : Hid (OwnV 3 w.heap.size (wr.alloc (.cells #[.int .i64 (v : Int)] 3)) (.slice ad i c) D) := Lib.hid (HO.out.below (Nat.le_refl _) ((Below.refl _ wr).alloc (Nat.le_refl _) _))
          have HB2 : Hid (Below w.heap.size w (wr.alloc (.cells #[.int .i64 (v : Int)] 3))) := Lib.hid (HB.out.alloc HB.out.size _)
          clear hR hiy hy hv HO HB
          go_wp2_with (at_builtin; refine wpList_append_row (by rfl) (.tmp 24) (.tmp 30) 22 rfl w.heap.size 3 (.int .i64 0) 8 Try.underlying22 info_int' rfl (.slice ad i c) D rfl HO2.out (some ⟨wr.heap.size, 0, none⟩) 1 1 (lv [v]) rfl HR2.out (lv_one _) (by rw [HLT.out]; omega) (by rw [HLT.out]; omega) HB2.out.size ?_)
          intro a7 c7 w7 hown hgrow _
          rw [HLT.out] at hown ⊢
          rw [← HTK.out] at hown
          have HO7 := Lib.hid hown
          have HB7 := Lib.hid (HO2.out.grown HB2.out hgrow HB2.out.size)
          clear hown hgrow HO2 HB2 HR2 c1
          go_wp2_with fail
          go_roundw
          case measure => simp [intOf]; omega
          case rel => exact ⟨i + 1, a7, c7, by simp, by simp, by omega, HO7, HB7⟩

        · have hlti : ¬ (i : Int) < (la : Int) := by omega
          obtain rfl : i = la := by omega
          obtain ⟨w2, hw2⟩ : ∃ w2, w2 = wr := ⟨_, rfl⟩
          rw [← hw2] at HO HB ⊢
          clear hw2 hlt
          have HRA : Hid (RowIn w2 ad i c (lv (ya.map msk))) := Lib.hid (by
            have := HO.out.rowIn (by rw [lv_len, List.length_map, List.length_take]; have := HLA.out; omega)
            rwa [List.take_of_length_le (by have := HLA.out; omega)] at this)
          have HBW := HB
          clear HO HB
          go_wp2_with fail
          have HST : Hid (OwnV 3 w2.heap.size w2 (.slice none 0 0) (lv ((yb.take 0).map msk))) := Lib.hid (OwnV.nil _ _ _)
          go_loopw [8, 6] (fun s t wr => ∃ (i : Nat) (ad : Option Addr) (c : Nat), s = .int .i64 (i : Int) ∧ t = .slice ad i c ∧ i ≤ lb ∧ Hid (OwnV 3 w2.heap.size wr (.slice ad i c) (lv ((yb.take i).map msk))) ∧ Hid (Below w2.heap.size w2 wr)) (fun s _ _ => lb - (intOf s).toNat)
          case atStart => exact ⟨0, none, 0, rfl, rfl, Nat.zero_le _, HST, Lib.hid (Below.refl _ _)⟩
          case round =>
            clear HST
            obtain ⟨i, ad, c, rfl, rfl, hi, HO, HB⟩ := hrel
            by_cases hlt : i < lb
            · as_aux_lemma =>
              have hlti : (i : Int) < (lb : Int) := by omega
              have hR := (HBB.out.below (Nat.le_refl _) HBW.out).below (Nat.le_refl _) HB.out
              obtain ⟨ib, io, rfl⟩ := hR.some_ (by omega)
              have hiy : i < yb.length := by rw [HLB.out]; exact hlt
              obtain ⟨y, hy⟩ : ∃ y, y = yb[i]'hiy := ⟨_, rfl⟩
              have c1 : wr.cell? ⟨ib, io + i, none⟩ = some (.int .i64 y) := by
                rw [hR.get i (by simpa using hiy), hy]; simp
              have HTK : Hid (lv ((yb.take (i + 1)).map msk) = lv ((yb.take i).map msk) ++ lv [msk y]) := Lib.hid (by rw [hy, take_one _ _ _ hiy, lv_append])
              have HLT : Hid ((lv ((yb.take i).map msk)).length = i) := Lib.hid (by rw [lv_len, List.length_map, List.length_take]; omega)
              generalize lv ((yb.take i).map msk) = D at *
              obtain ⟨v, hv⟩ : ∃ v, v = msk y := ⟨_, rfl⟩
              rw [← hv] at HTK
              have e1 : bits .and .i64 y 1048575 = (v : Int) := by rw [hv]; exact msk_and y
              have HR2 : Hid (RowIn (wr.alloc (.cells #[.int .i64 (v : Int)] 3)) (some ⟨wr.heap.size, 0, none⟩) 1 1 (lv [v])) := Lib.hid (lit_row wr v)
              have HO2 : Hid (OwnV 3 w2.heap.size (wr.alloc (.cells #[.int .i64 (v : Int)] 3)) (.slice ad i c) D) := Lib.hid (HO.out.below (Nat.le_refl _) ((Below.refl _ wr).alloc (Nat.le_refl _) _))
              have HB2 : Hid (Below w2.heap.size w2 (wr.alloc (.cells #[.int .i64 (v : Int)] 3))) := Lib.hid (HB.out.alloc HB.out.size _)
              clear hR hiy hy hv HO HB
              go_wp2_with (at_builtin; refine wpList_append_row (by rfl) (.tmp 38) (.tmp 44) 22 rfl w2.heap.size 3 (.int .i64 0) 8 Try.underlying22 info_int' rfl (.slice ad i c) D rfl HO2.out (some ⟨wr.heap.size, 0, none⟩) 1 1 (lv [v]) rfl HR2.out (lv_one _) (by rw [HLT.out]; omega) (by rw [HLT.out]; omega) HB2.out.size ?_)
              intro a7 c7 w7 hown hgrow _
              rw [HLT.out] at hown ⊢
              rw [← HTK.out] at hown
              have HO7 := Lib.hid hown
              have HB7 := Lib.hid (HO2.out.grown HB2.out hgrow HB2.out.size)
              clear hown hgrow HO2 HB2 HR2 c1
              go_wp2_with fail
              go_roundw
              case measure => simp [intOf]; omega
              case rel => exact ⟨i + 1, a7, c7, by simp, by simp, by omega, HO7, HB7⟩

            · have hlti : ¬ (i : Int) < (lb : Int) := by omega
              obtain rfl : i = lb := by omega
              clear hlt
              have HRB : Hid (RowIn wr ad i c (lv (yb.map msk))) := Lib.hid (by
                have := HO.out.rowIn (by rw [lv_len, List.length_map, List.length_take]; have := HLB.out; omega)
                rwa [List.take_of_length_le (by have := HLB.out; omega)] at this)
              have HRA2 := Lib.hid (HRA.out.below (Nat.le_refl _) HB.out)
              have HW := Lib.hid (HBW.out.trans (HB.out.mono HBW.out.size))
              have HMO : Hid (Modest (ya.map msk) (yb.map msk)) := Lib.hid (modest_msk ya yb (by have := HLA.out; omega) (by have := HLB.out; omega))
              clear HO HB HRA
              go_wp2_with fail
              refine (told_any wr).mono ?_
              rintro e w4 ⟨rfl, hb⟩
              have hra := HRA2.out.below (Nat.le_refl _) hb
              have hrb := HRB.out.below (Nat.le_refl _) hb
              have HC1 := Lib.hid (cost_any hra hrb HMO.out)
              have HC2 := Lib.hid (fun q => refcost_any (hra.below (Nat.le_refl _) (quiet_any w4 q)) (hrb.below (Nat.le_refl _) (quiet_any w4 q)) HMO.out)
              have HW4 := Lib.hid (HW.out.trans (hb.mono HW.out.size))
              clear hra hrb hb HRA2 HRB HW
              generalize prd (ya.map msk) (yb.map msk) _ = p at *
              go_wp2_with (first
                | (go_at_call 14; refine HC1.out.mono ?_; rintro e w5 ⟨rfl, q, rfl⟩)
                | (go_at_call 12; refine (HC2.out _).mono ?_; rintro e w6 ⟨rfl, q2, rfl⟩))
              go_ret
              exact ⟨by simp, HW4.out.trans (quiet_any w4 _)⟩
    · have g1 : ¬ (100 : Int) < (la : Int) := by omega
      have g2 : (100 : Int) < (lb : Int) := by omega
      clear hA hB hla hlb
      go_enter Try.func4, Try.ntmps4
      go_wp2_with (go_at_call 8; refine (told_any w).mono ?_; rintro e w4 ⟨rfl, hb⟩)
      go_ret
      exact ⟨rfl, hb⟩
  · have g1 : (100 : Int) < (la : Int) := by omega
    clear hA hB hla hlb
    go_enter Try.func4, Try.ntmps4
    go_wp2_with (go_at_call 8; refine (told_any w).mono ?_; rintro e w4 ⟨rfl, hb⟩)
    go_ret
    exact ⟨rfl, hb⟩
end Go.Proofs.Ytmfnncachaejgaa.PkC
