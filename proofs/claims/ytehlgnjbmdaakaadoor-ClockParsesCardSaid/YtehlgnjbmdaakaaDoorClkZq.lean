import Derived.Test.YtehlgnjbmdaakaaDoorClkZp
namespace Go.Proofs.YtehlgnjbmdaakaaDoor.ClkC
open Go.RowKit Go.My Flt NumMath Txt

theorem un_nat (n : Int) : ∃ u : Nat, IntKind.u64.wrap n = (u : Int) := by
  have : 0 ≤ IntKind.u64.wrap n := by
    simp only [IntKind.wrap, IntKind.bits, IntKind.signed]
    simp
    omega
  exact ⟨(IntKind.u64.wrap n).toNat, by omega⟩
theorem un_big (n : Int) : ∃ k : Nat, k ≤ 1000000000 ∧ wrap64 ((IntKind.u64.wrap n).tmod 1000000001) = (k : Int) := by
  obtain ⟨u, hu⟩ := un_nat n
  rw [hu]
  refine ⟨u % 1000000001, by omega, ?_⟩
  rw [show (u : Int).tmod 1000000001 = ((u % 1000000001 : Nat) : Int) from rfl]
  unfold wrap64; omega
theorem un_ten (n : Int) : ∃ k : Nat, k < 10 ∧ wrap64 ((IntKind.u64.wrap n).tmod 10) = (k : Int) := by
  obtain ⟨u, hu⟩ := un_nat n
  rw [hu]
  refine ⟨u % 10, by omega, ?_⟩
  rw [show (u : Int).tmod 10 = ((u % 10 : Nat) : Int) from rfl]
  unfold wrap64; omega

set_option maxRecDepth 100000 in
set_option maxHeartbeats 8000000 in
theorem parses_law (n : Int) (a : Option Addr) (len cap : Nat) (zs : List Int) (w : World) (hn : (Lit.int .i64 n).wf = true)
    (hr : (a = none ∧ len = 0 ∧ cap = 0 ∧ zs = []) ∨
      ∃ x, a = some x ∧ len ≤ cap ∧ cap ≤ maxLen ∧ zs.length = cap ∧ (∀ i, i < zs.length → w.cell? (x.add i) = some (.int .i64 (zs.getD i 0))) ∧ ∀ n ∈ zs, (Lit.int .i64 n).wf = true) (hP : Pow w) :
    Calls Tryd.prog 9 #[.int .i64 n, .slice a len cap] w fun e w' => e = .returned (.bool true) ∧ Below w.heap.size w w' := by
  have HPW := Lib.hid hP
  obtain ⟨hlc, hcm, hrow⟩ := row_ints hr
  have HROW := Lib.hid hrow
  obtain ⟨hn1, hn2⟩ := wf_int hn
  clear hr hn hP hrow
  obtain ⟨k, hk, HK⟩ := un_big n
  have HD := Lib.hid (fun w => digits_any k w (by omega))
  have HW := Lib.hid (fun w => parse_whole k hk w)
  have HZL := Lib.hid (dec_facts k (by omega)).2.2.2
  obtain ⟨D, hD⟩ : ∃ r : ByteArray, r = ⟨(Lib.decDigits k).toArray⟩ := ⟨_, rfl⟩
  have hDs : D.size ≤ 20 := by rw [hD, Lib.size_eq]; exact HZL.out
  have HDL : Hid (D.data.toList = Lib.decDigits k) := Lib.hid (by rw [hD])
  rw [← hD] at HD HW
  clear hD
  have hxk : FloatKind.f64.nearest (k : Int) = fl (512 * (k : Int)) := floatOfInt_fl k (by omega)
  have hx2 : floatOfInt .f64 (k : Int) = fl (512 * (k : Int)) := hxk
  have hself := self_num (isNaN_fl (512 * (k : Int)) (by omega))
  obtain ⟨x, hx⟩ : ∃ x, x = 512 * (k : Int) := ⟨_, rfl⟩
  rw [← hx] at HW hxk hx2 hself
  have HX := Lib.hid hx
  clear hx
  go_enter Tryd.func9, Tryd.ntmps9
  go_wp2_with fail
  rw [HK]
  refine (HD.out w).mono ?_
  rintro _ w' ⟨rfl, rfl⟩
  go_wp2_with fail
  refine (HW.out w).mono ?_
  rintro _ w1 ⟨rfl, b1⟩
  go_wp2_with fail
  have HSZ : Hid ((D ++ (⟨#[46]⟩ : ByteArray)).size ≤ 21) := Lib.hid (by
    rw [ByteArray.size_append]
    have : (⟨#[46]⟩ : ByteArray).size = 1 := rfl
    omega)
  have HST : Hid ((D ++ (⟨#[46]⟩ : ByteArray)).data.toList = Lib.decDigits k ++ 46 :: []) := Lib.hid (by
    rw [ByteArray.data_append, Array.toList_append, HDL.out])
  have HB1 := Lib.hid b1
  clear b1 hxk hx2 hself
  have hx0 : fl x = fl (x + (0 : Nat)) := by rw [show x + ((0 : Nat) : Int) = x by omega]
  go_loopw [6, 9, 10] (fun sv lv iv wr => ∃ (i g : Nat) (F : List UInt8) (s : ByteArray), i ≤ len ∧ i ≤ 12 ∧ sv = .string s ∧ lv = .float .f64 (fl (x + (g : Int))) ∧ iv = .int .i64 (i : Int) ∧ s.size ≤ 21 + i ∧ Hid (g = frac9 F / 1953125) ∧ Hid (s.data.toList = Lib.decDigits k ++ 46 :: F) ∧ Hid (allIn decs F = true) ∧ Hid (Below w.heap.size w wr)) (fun _ _ iv _ => 12 - (intOf iv).toNat)
  case atStart => exact ⟨0, 0, [], _, by omega, by omega, rfl, by rw [hx0], rfl, HSZ.out, Lib.hid (by decide), HST, Lib.hid rfl, HB1⟩
  case round =>
    obtain ⟨i, g, F, s, hi1, hi2, rfl, rfl, rfl, hsz, HG, HS, HF, HB⟩ := hrel
    clear hx0
    by_cases hlt : i < len
    · by_cases h12 : i < 12
      · rcases HROW.out with h0 | ⟨b, off, rfl, hbs, hc⟩
        · omega
        obtain ⟨z, hz1, hz2, hcz⟩ := hc i hlt
        rw [← HB.out.cell (p := ⟨b, off + i, none⟩) hbs] at hcz
        clear hc
        obtain ⟨d, hd, HDd⟩ := un_ten z
        have HDG := Lib.hid (fun w => digits_any d w (by omega))
        rw [show Lib.decDigits d = [chr d] by rw [dec_dg 1 d (by omega) (by omega)]; unfold dg; rw [if_pos hd]] at HDG
        have hcd := (chr_digit d hd).1
        obtain ⟨c, hc⟩ : ∃ c, c = chr d := ⟨_, rfl⟩
        rw [← hc] at HDG hcd
        clear hc
        have hs1 : (s ++ (⟨[c].toArray⟩ : ByteArray)).size = s.size + 1 := by rw [ByteArray.size_append]; rfl
        have hs2 : (s ++ (⟨[c].toArray⟩ : ByteArray)).data.toList = Lib.decDigits k ++ 46 :: (F ++ [c]) := by
          rw [ByteArray.data_append, Array.toList_append, HS.out]; simp
        obtain ⟨g2, q, hg2, hgg, hg512, hq, P1, P2, P3⟩ := round_facts k hk F c (s ++ ⟨[c].toArray⟩) HF.out hcd (by omega) hs2
        rw [← HG.out] at hgg
        rw [← HX.out] at hq P1 P2
        obtain ⟨f1, f2, f3, f4, f5, f6, f7⟩ := round_floats x g2 g q (by have := HX.out; omega) (by have := HX.out; omega) (by omega) (by omega) (by omega) (by omega) hq
        have f8 : ∀ w, (Op.unary .neg (.float .f64 (fl (x + (g2 : Int))))).run Tryd.prog w = .ok (.float .f64 (Op.negFloat .f64 (fl (x + (g2 : Int))))) w := fun w => rfl
        have HAN : Hid (allIn decs (F ++ [c]) = true) := Lib.hid (allIn_snoc _ _ _ HF.out hcd)
        have HG2 := Lib.hid hg2
        have HS2 := Lib.hid hs2
        have HP1 := Lib.hid P1
        have HP2 := Lib.hid P2
        have HP3 := Lib.hid P3
        have HQ := Lib.hid hq
        have HDD := Lib.hid HDd
        have HBR := Lib.hid hbs
        clear hg2 hs2 P1 P2 P3 hq hgg hg512 hcd HG HS HF HDd hbs
        go_wp2_with fail
        rw [HDD.out]
        refine (HDG.out wr).mono ?_
        rintro _ w' ⟨rfl, rfl⟩
        clear hcz
        go_wp2_with fail
        refine (HP1.out wr).mono ?_
        rintro _ w2 ⟨rfl, b2⟩
        have B2 := HB.out.trans (b2.mono HB.out.size)
        clear b2
        go_wp2_with fail
        refine (HP2.out w2).mono ?_
        rintro _ w3 ⟨rfl, b3⟩
        have B3 := B2.trans (b3.mono B2.size)
        clear B2 b3
        go_wp2_with fail
        refine (HP3.out w3).mono ?_
        rintro _ w4 ⟨rfl, b4⟩
        have B4 := Lib.hid (B3.trans (b4.mono B3.size))
        clear B3 b4
        go_wp2_with fail
        go_roundw
        case rel => exact ⟨i + 1, g2, F ++ [c], _, by omega, by omega, rfl, rfl, by go_num, by omega, HG2, HS2, HAN, B4⟩
        case measure => simp [intOf]; omega
      · clear hsz
        go_wp2_with fail
        refine (told_any wr (HPW.out.below HB.out)).mono ?_
        rintro _ w2 ⟨rfl, b2⟩
        go_wp2_with fail
        go_ret
        exact ⟨rfl, HB.out.trans (b2.mono HB.out.size)⟩
    · clear hsz
      go_wp2_with fail
      refine (told_any wr (HPW.out.below HB.out)).mono ?_
      rintro _ w2 ⟨rfl, b2⟩
      go_wp2_with fail
      go_ret
      exact ⟨rfl, HB.out.trans (b2.mono HB.out.size)⟩
end Go.Proofs.YtehlgnjbmdaakaaDoor.ClkC
