import Derived.Test.YtbjjkhlebdaoaaaGreatDoorMgDb
import Derived.Test.YtbjjkhlebdaoaaaGreatDoorMgV
import Derived.Test.YtbjjkhlebdaoaaaGreatDoorMgZ

section
/-
  DeflateEfforts' law.
-/
namespace Go.Proofs.YtbjjkhlebdaoaaaGreatDoor.DfC
open Go.RowKit Go.My BitMath BlkC
open InfMath (Rd)
open EfC (lv Pls)

set_option maxRecDepth 100000 in
set_option maxHeartbeats 8000000 in
theorem efforts_law {a : Option Addr} {len cap : Nat} {b : List UInt8} (n : Int) (x y : Nat) (w : World) (hb : Bytes w a len cap b) (hT : Tbls w.heap.size w) (hP : Pls w) :
    Calls Tryz.prog 4 #[.slice a len cap, .int .i64 n, .float .f64 x, .float .f64 y] w fun e w' => e = .returned (.bool true) ∧ Below w.heap.size w w' := by
  have HB := Lib.hid hb
  have HL := Lib.hid hb.len_eq
  have HT := Lib.hid hT
  have HP := Lib.hid hP
  have hlc := hb.le_cap
  have hcm := hb.cap_le
  clear hb hT hP
  by_cases hbig : 200 < len
  · have HTO := Lib.hid (told_at HT.out HP.out (Below.refl _ _))
    go_enter Tryz.func4, Tryz.ntmps4
    go_wp2_with fail
    refine HTO.out.mono ?_
    rintro e w2 ⟨rfl, hbe⟩
    go_wp2_with fail
    go_ret
    exact ⟨rfl, hbe⟩
  · have HLG := Lib.hid (long_any n w HB.out (by omega))
    have hrl : (rep b (times n)).length ≤ 3200 := rep_le b n 200 (by rw [HL.out]; omega)
    go_enter Tryz.func4, Tryz.ntmps4
    go_wp2_with fail
    refine HLG.out.mono ?_
    intro e w1 h1
    obtain ⟨a1, c1, rfl, hb1, hl1⟩ := own_ret h1
    have HC := Lib.hid (Ctx.mk hl1 hb1)
    clear h1 hb1 hl1 HLG
    generalize rep b (times n) = s at *
    obtain ⟨N, hN⟩ : ∃ N, N = s.length := ⟨_, rfl⟩
    have HN := Lib.hid hN
    rw [← hN] at hrl ⊢
    clear hN
    have HAL : Hid (∀ x w', Ctx w w' a1 c1 s → Calls Tryz.prog 7 #[.slice a1 N c1, .float .f64 x, .bool false] w' fun e w2 => ∃ P, Dfl (lv x) false s P ∧ My.OwnRet 5 w' P e w2) := Lib.hid fun x w' hc => by
      have := all_at x false (by have := HN.out; omega) HT.out HP.out hc
      rw [← HN.out] at this
      exact this
    have HPL : Hid (∀ P m, Dfl m false s P → P.length ≤ 10000) := Lib.hid fun P m hd => by
      have h1 := hd.len
      have h2 : sto s.length ≤ 5000 := by unfold sto; have := HN.out; omega
      omega
    go_wp2_with fail
    refine (HAL.out x w1 HC.out).mono ?_
    rintro e w2 ⟨P, hd, h2⟩
    obtain ⟨a2, c2, rfl, hb2, hl2⟩ := own_ret h2
    have HC2 := Lib.hid (HC.out.next hl2)
    obtain ⟨X, z, hX, hR, hU⟩ := hd.shown
    have HIN := Lib.hid (RfC.all_used (S := 32768) false N w2 hb2 (by have := HPL.out P _ hd; omega) (by omega) (by omega) (by decide) (by omega) hX hR (by have := HN.out; omega))
    rw [hU, show ((32768 : Nat) : Int) = 32768 from rfl] at HIN
    obtain ⟨M, hM⟩ : ∃ M, M = P.length := ⟨_, rfl⟩
    rw [← hM] at HIN ⊢
    clear h2 hd hb2 hl2 hX hR hU hM HC
    go_wp2_with fail
    refine HIN.out.mono ?_
    rintro e w3 ⟨ov, rfl, ho3, hb3⟩
    obtain ⟨a3, c3, rfl, hy3⟩ := ho3.bytes
    rw [← HN.out] at hy3 ⊢
    have HC3 := Lib.hid (HC2.out.next hb3)
    have HY3 := Lib.hid hy3
    clear ho3 hb3 hy3 HIN HC2
    go_wp2_with fail
    refine (HAL.out y w3 HC3.out).mono ?_
    rintro e w4 ⟨Q, hd, h4⟩
    obtain ⟨a4, c4, rfl, hb4, hl4⟩ := own_ret h4
    have HC4 := Lib.hid (HC3.out.next hl4)
    have HY4 := Lib.hid (HY3.out.below (Nat.le_refl _) hl4)
    have hql := HPL.out Q _ hd
    by_cases hs : N ≤ 258
    · obtain ⟨X, z, hX, hR⟩ := hd.wide (by have := HN.out; omega)
      have HIN := Lib.hid (RfC.all_used (S := 65536) true N w4 hb4 (by omega) (by omega) (by omega) (by decide) (by omega) hX hR (by have := HN.out; omega))
      rw [show ((65536 : Nat) : Int) = 65536 from rfl] at HIN
      obtain ⟨U, hU⟩ : ∃ U, U = (X.length + 7) / 8 := ⟨_, rfl⟩
      rw [← hU] at HIN
      obtain ⟨M2, hM⟩ : ∃ M2, M2 = Q.length := ⟨_, rfl⟩
      rw [← hM] at HIN ⊢
      have hge : decide ((259 : Int) ≤ (N : Int)) = false := decide_eq_false (by omega)
      clear h4 hd hb4 hl4 hX hR hU hM HC3 HY3
      go_wp2_with fail
      refine HIN.out.mono ?_
      rintro e w5 ⟨ov, rfl, ho5, hb5⟩
      obtain ⟨a5, c5, rfl, hy5⟩ := ho5.bytes
      rw [← HN.out] at hy5 ⊢
      have HC5 := Lib.hid (HC4.out.next hb5)
      have HY5 := Lib.hid (HY4.out.below (Nat.le_refl _) hb5)
      have HZ5 := Lib.hid hy5
      have HTO := Lib.hid (told_at HT.out HP.out HC5.out.bel)
      clear ho5 hb5 hy5 HIN HC4 HY4 hs
      go_wp2_with fail
      refine HTO.out.mono ?_
      rintro e w6 ⟨rfl, hb6⟩
      have HC6 := Lib.hid (HC5.out.next hb6)
      have v1 := conv_own HC6.out.by_
      have v2 := conv_own (HY5.out.below (Nat.le_refl _) hb6)
      have v3 := conv_own (HZ5.out.below (Nat.le_refl _) hb6)
      rw [← HN.out] at v1
      clear hb6 HTO HC5 HY5 HZ5
      go_wp2_with fail
      go_ret
      exact ⟨rfl, HC6.out.bel⟩
    · have HIN := Lib.hid (RfC.all_some true 65536 N w4 hb4 (by omega) (by omega) (by omega) (Nat.le_refl _))
      rw [show ((65536 : Nat) : Int) = 65536 from rfl] at HIN
      obtain ⟨M2, hM⟩ : ∃ M2, M2 = Q.length := ⟨_, rfl⟩
      rw [← hM] at HIN ⊢
      have hge : decide ((259 : Int) ≤ (N : Int)) = true := decide_eq_true (by omega)
      clear h4 hd hb4 hl4 hM HC3 HY3 hs
      go_wp2_with fail
      refine HIN.out.mono ?_
      rintro e w5 ⟨hb5, hr5⟩
      obtain ⟨u1, u2, u3, rfl⟩ := hr5
      have HC5 := Lib.hid (HC4.out.next hb5)
      have HY5 := Lib.hid (HY4.out.below (Nat.le_refl _) hb5)
      have HTO := Lib.hid (told_at HT.out HP.out HC5.out.bel)
      clear hb5 HIN HC4 HY4
      go_wp2_with fail
      refine HTO.out.mono ?_
      rintro e w6 ⟨rfl, hb6⟩
      have HC6 := Lib.hid (HC5.out.next hb6)
      have v1 := conv_own HC6.out.by_
      have v2 := conv_own (HY5.out.below (Nat.le_refl _) hb6)
      rw [← HN.out] at v1
      clear hb6 HTO HC5 HY5
      go_wp2_with fail
      go_ret
      exact ⟨rfl, HC6.out.bel⟩
end Go.Proofs.YtbjjkhlebdaoaaaGreatDoor.DfC
end
