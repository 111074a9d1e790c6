import Derived.Test.YtbjjkhlebdaoaaaDoorMgDb
import Derived.Test.YtbjjkhlebdaoaaaDoorMgE
import Derived.Test.YtbjjkhlebdaoaaaDoorMgSt
import Derived.Deep.RegionWith

section
/-
  DeflateStores' law.
-/
namespace Go.Proofs.YtbjjkhlebdaoaaaDoor.DfC
open Go.RowKit Go.My BitMath BlkC
open InfMath (stos)
open EfC (lv Pls)

set_option maxRecDepth 100000 in
set_option maxHeartbeats 8000000 in
theorem stores_law {a : Option Addr} {len cap : Nat} {b : List UInt8} (n : Int) (x : Nat) (k : Int) (w : World) (hb : Bytes w a len cap b) (hk : -9223372036854775808 ≤ k ∧ k ≤ 9223372036854775807) (hT : Tbls w.heap.size w) (hP : Pls w) :
    Calls Tryd.prog 3 #[.slice a len cap, .int .i64 n, .float .f64 x, .int .i64 k] w fun e w' => e = .returned (.bool true) ∧ Below w.heap.size w w' := by
  have HB := Lib.hid hb
  have HL := Lib.hid hb.len_eq
  have HT := Lib.hid hT
  have HP := Lib.hid hP
  have hlc := hb.le_cap
  have hcm := hb.cap_le
  have HM := Lib.hid (fun w => most_any k w hk)
  have HR := Lib.hid (fun w => rmost_any k w hk)
  generalize mostZ k = mk at *
  clear hb hT hP hk
  by_cases hbig : 300 < len
  · have HTO := Lib.hid (told_at HT.out HP.out (Below.refl _ _))
    go_enter Tryd.func3, Tryd.ntmps3
    go_wp2_with fail
    refine HTO.out.mono ?_
    rintro e w2 ⟨rfl, hbe⟩
    go_wp2_with fail
    go_ret
    exact ⟨rfl, hbe⟩
  · have HLG := Lib.hid (long_any n w HB.out (by omega))
    have hrl : (rep b (times n)).length ≤ 4800 := rep_le b n 300 (by rw [HL.out]; omega)
    have HLV := Lib.hid (fun y w => EfC.rlevel_any y w)
    have hng : ∀ w, (Op.unary .neg (.float .f64 x)).run Tryd.prog w = .ok (.float .f64 (Op.negFloat .f64 x)) w := fun w => rfl
    go_enter Tryd.func3, Tryd.ntmps3
    go_wp2_with fail
    refine HLG.out.mono ?_
    intro e w1 h1
    obtain ⟨a1, c1, rfl, hb1, hl1⟩ := own_ret h1
    have HC := Lib.hid (Ctx.mk hl1 hb1)
    clear h1 hb1 hl1 HLG
    generalize rep b (times n) = s at *
    go_wp2_with fail
    refine (HLV.out x _).mono ?_
    rintro e w2 ⟨rfl, rfl⟩
    go_upto_if 19 with (fail)
    go_cut [2] (fun v wc => ∃ y, v = .float .f64 y ∧ wc = w1)
    case first =>
      by_cases h0 : ((lv x : Nat) : Int) = 0
      · have e0 : (((lv x : Nat) : Int) != 0) = false := by simp [h0]
        clear h0
        go_wp2_with fail
        go_meet
        case rel => exact ⟨_, rfl, rfl⟩
      · have e0 : (((lv x : Nat) : Int) != 0) = true := by simp only [bne_iff_ne, ne_eq]; exact h0
        clear h0
        go_wp2_with fail
        go_meet
        case rel => exact ⟨_, rfl, rfl⟩
    obtain ⟨y, rfl, rfl⟩ := hcut
    clear hng
    go_wp2_with fail
    refine (HLV.out y _).mono ?_
    rintro e w2 ⟨rfl, rfl⟩
    go_upto_if 24 with (fail)
    go_cut [2] (fun v wd => ∃ y, v = .float .f64 y ∧ Hid (lv y = 0) ∧ wd = wc)
    case first =>
      by_cases h0 : lv y = 0
      · have e0 : (((lv y : Nat) : Int) != 0) = false := by simp [h0]
        have HZ := Lib.hid h0
        clear h0
        go_wp2_with fail
        go_meet
        case rel => exact ⟨y, rfl, HZ, rfl⟩
      · have e0 : (((lv y : Nat) : Int) != 0) = true := by simp [h0]
        clear h0
        go_wp2_with fail
        go_meet
        case rel => exact ⟨0, rfl, Lib.hid lv_0, rfl⟩
    clear HLV
    obtain ⟨y, rfl, HY, rfl⟩ := hcut
    have hmk := i64_and_mask n 1 (by omega) 1 2 (by decide) (by decide)
    obtain ⟨m, hmm⟩ : ∃ m, m = n % 2 := ⟨_, rfl⟩
    rw [← hmm] at hmk
    clear hmm
    obtain ⟨Q, hQ⟩ : ∃ Q, Q = stos s true := ⟨_, rfl⟩
    have HAL : Hid (∀ w' v, Ctx w w' a1 c1 s → Calls Tryd.prog 8 #[.slice a1 s.length c1, .float .f64 y, .bool v] w' (My.OwnRet 5 w' Q)) := Lib.hid fun w' v hc => by
      refine (all_at y v (by omega) HT.out HP.out hc).mono ?_
      rintro e w2 ⟨P, hd, ho⟩
      rw [HY.out] at hd
      rcases hd with ⟨-, rfl⟩ | ⟨h, -⟩
      · rw [hQ]; exact ho
      · exact absurd h (by decide)
    have HST : Hid (∀ w', Ctx w w' a1 c1 s → Calls Tryd.prog 9 #[.slice a1 s.length c1, .bool true] w' (My.OwnRet 5 w' Q)) := Lib.hid fun w' hc => by
      refine (rstore_any true a1 s.length c1 s w' hc.by_ (by omega)).mono ?_
      rintro e w2 ⟨a', n', c', rfl, ho, hb⟩
      rw [hQ]
      exact ⟨_, rfl, ho.out, hb.out⟩
    clear hQ
    go_upto_region 8 with (fail)
    go_region_with (first
      | (go_at_call 5; refine (told_at HT.out HP.out (by first | exact HC.out.bel | exact HC.out.bel.drew)).mono ?_; rintro e w3 ⟨rfl, hb3⟩; have HC3 := Lib.hid (HC.out.next (by first | exact hb3 | exact (Below.refl _ _).drew.trans hb3)); clear hb3)
      | (go_at_call 8; refine (HAL.out _ _ HC3.out).mono ?_; intro e w4 h4; obtain ⟨a4, c4, rfl, hb4, hl4⟩ := own_ret h4; have HC4 := Lib.hid (HC3.out.next hl4); have hv4 := conv_own hb4; have HB4 := Lib.hid hb4; clear h4 hb4 hl4)
      | (go_at_call 9; refine (HST.out _ HC4.out).mono ?_; intro e w5 h5; obtain ⟨a5, c5, rfl, hb5, hl5⟩ := own_ret h5; have HC5 := Lib.hid (HC4.out.next hl5); have hv5 := conv_own hb5; have hv6 := conv_own (HB4.out.below (Nat.le_refl _) hl5); clear h5 hb5 hl5)
      | (go_at_call 10; refine (HM.out _).mono ?_; rintro e w6 ⟨rfl, rfl⟩)
      | (go_at_call 11; refine (HR.out _).mono ?_; rintro e w6 ⟨rfl, rfl⟩))
    all_goals
      go_wp2_with fail
      go_ret
      exact ⟨rfl, HC5.out.bel⟩
end Go.Proofs.YtbjjkhlebdaoaaaDoor.DfC
end
