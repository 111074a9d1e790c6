import Derived.Test.YtdbcendnibgcaaaGreatDoorMgAd
import Derived.Test.YtdbcendnibgcaaaGreatDoorMgAf
import Derived.Test.YtdbcendnibgcaaaGreatDoorMgAi
import Derived.Test.YtdbcendnibgcaaaGreatDoorMgBj
import Derived.Deep.DeepCutAuto
import Derived.Deep.CutBlock
import Derived.Deep.RegionWith

section
/-
  zlib.All of any bytes with a right head; of a wrong head.
-/
namespace Go.Proofs.YtdbcendnibgcaaaGreatDoor.ZlC
open Go.RowKit Go.My ZlMath InfC
open Go.My.NumMath (bytesOf)
open Go.My.AdlerMath (adler adler_lt)

/-- How many bytes were used. -/
def usd (t : InfMath.M) : Nat := t.pushed - t.bits.length / 8
/-- What is told where the machine ends at t so. -/
noncomputable def res (r : List UInt8) (ratio c : Nat) (t : InfMath.M) : Nat :=
  if c ≠ 0 then (if c = 5 then 2 else c) else if ovr t.out.length (usd t) ratio = true then 3 else if r.drop (usd t) = bytesOf true 4 (adler 1 t.out) then 0 else 2
theorem own_four {B : Nat} {w : World} {v : Value} {n : Nat} (h : Own 5 B w v ([] ++ bytesOf true 4 n)) : ∃ a c, v = .slice a 4 c ∧ Bytes w a 4 c (bytesOf true 4 n) := by
  rw [List.nil_append] at h
  have := h.bytes
  rwa [Go.My.NumMath.bytesOf_len] at this
theorem tail_any (sum : Nat) (w : World) (h1 : sum < 4294967296) :
    Calls Tryz.prog 23 #[.int .u32 (sum : Int)] w fun e w' => OwnRet 5 w ([] ++ bytesOf true 4 sum) e w' := by
  have w1 : IntKind.u64.wrap (sum : Int) = (sum : Int) := IntWalk.u64_in _ (by omega)
  go_enter Tryz.func23, Tryz.ntmps23
  go_wp2_with fail
  refine (NumC.putbig_any none 0 0 [] sum 4 w (nil_bytes w) (by simp) (by omega) (by omega)).mono ?_
  rintro e w1 ⟨v1, rfl, ho, hb⟩
  have HO := Lib.hid ho
  have HB := Lib.hid hb
  clear ho hb
  go_wp2_with fail
  go_ret
  exact ⟨_, rfl, HO.out, HB.out⟩
set_option maxRecDepth 100000 in
set_option maxHeartbeats 4000000 in
theorem zall_head (a : Option Addr) (len cap : Nat) (l : List UInt8) (most ratio : Nat) (w : World) (hb : Bytes w a len cap l) (h3 : most ≤ 1073741824) (hc : rdC l ≠ 0) :
    Calls Tryz.prog 12 #[.slice a len cap, .int .i64 (most : Int), .float .f64 ratio] w fun e w' => e = .returned (.tuple #[.slice none 0 0, .int .i64 0, .int .i64 2]) ∧ Below w.heap.size w w' := by
  have g1 : decide ((most : Int) < 0) = false := by simp
  have g2 : decide ((1073741824 : Int) < (most : Int)) = false := by simp; omega
  have g3 : ((rdC l : Int) != 0) = true := by simp; omega
  have HR := Lib.hid (read_any a len cap l w hb)
  generalize rdC l = C at *
  generalize rdN l = N at *
  clear hb hc
  go_enter Tryz.func12, Tryz.ntmps12
  go_wp2_with fail
  refine HR.out.mono ?_
  rintro e w1 ⟨rfl, hb⟩
  have HB := Lib.hid hb
  clear hb
  go_wp2_with fail
  go_ret3
  exact ⟨rfl, HB.out⟩
set_option maxRecDepth 100000 in
set_option maxHeartbeats 8000000 in
theorem zall_any (a : Option Addr) (len cap : Nat) (x y : UInt8) (r : List UInt8) (most ratio c : Nat) (t : InfMath.M) (w : World) (hb : Bytes w a len cap (x :: y :: r)) (hl : len ≤ 100000) (hz : zbad x.toNat y.toNat = false) (h3 : most ≤ 1073741824) (hO : Ordr w.heap.size w)
    (hE : InfMath.Ends (began false (2 ^ (x.toNat / 16 + 8)) most r) t c) (hu : c = 0 → usd t ≤ r.length) :
    Calls Tryz.prog 12 #[.slice a len cap, .int .i64 (most : Int), .float .f64 ratio] w fun e w' =>
      ((res r ratio c t = 0 ∧ ∃ oa oc, e = .returned (.tuple #[.slice oa t.out.length oc, .int .i64 (usd t : Int), .int .i64 0]) ∧ Hid (Own 5 w.heap.size w' (.slice oa t.out.length oc) t.out)) ∨ (res r ratio c t ≠ 0 ∧ e = .returned (.tuple #[.slice none 0 0, .int .i64 0, .int .i64 (res r ratio c t : Int)]))) ∧ Hid (Below w.heap.size w w') := by
  have g1 : decide ((most : Int) < 0) = false := by simp
  have g2 : decide ((1073741824 : Int) < (most : Int)) = false := by simp; omega
  have hlr := hb.len_eq
  simp only [List.length_cons] at hlr
  obtain ⟨S, hS⟩ : ∃ S, S = 2 ^ (x.toNat / 16 + 8) := ⟨_, rfl⟩
  have hSS := win_le hz
  rw [← hS] at hE hSS
  have hR := read_any a len cap (x :: y :: r) w hb
  simp only [rdN, rdC, hz, Bool.false_eq_true, if_false] at hR
  rw [← hS] at hR
  have HR := Lib.hid hR
  obtain ⟨a2, ha2, hs2, hby2, -⟩ := cut_from hb 2 (by omega)
  rw [show (x :: y :: r).drop 2 = r from rfl] at hby2
  have HA := Lib.hid (fun (W : World) (hW : Below w.heap.size w W) (h0 : c = 0) => all_ok (wide := false) (S := S) (most := most) (hby2.below (Nat.le_refl _) hW) (by omega) hSS.1 (by omega) h3 (hO.up hW) (by rw [← h0]; exact hE))
  have HA2 := Lib.hid (fun (W : World) (hW : Below w.heap.size w W) (h0 : c ≠ 0) => all_err (wide := false) (S := S) (most := most) (hby2.below (Nat.le_refl _) hW) (by omega) hSS.1 (by omega) h3 (hO.up hW) hE h0)
  have HI := Lib.hid (And.intro hby2 (And.intro hlr (And.intro hu trivial)))
  have HX : Hid (res r ratio c t = if c ≠ 0 then (if c = 5 then 2 else c) else if ovr t.out.length (usd t) ratio = true then 3 else if r.drop (usd t) = bytesOf true 4 (adler 1 t.out) then 0 else 2) := Lib.hid rfl
  have hs2' : ∀ (W : World), (Instr.slice 22 (.slice a len cap) (some (.int .i64 2)) none none).run Tryz.prog W = .ok (.slice a2 (len - 2) (cap - 2)) W := fun W => hs2 W
  generalize res r ratio c t = R at *
  clear hb hS hz hR hE hSS hby2 hs2 ha2 hO
  go_enter Tryz.func12, Tryz.ntmps12
  go_wp2_with fail
  refine HR.out.mono ?_
  rintro e w1 ⟨rfl, hb0⟩
  have HB0 := Lib.hid hb0
  clear HR hb0
  by_cases hc0 : c = 0
  · have HA := Lib.hid (HA.out w1 HB0.out hc0)
    have HC := Lib.hid hc0
    clear HA2 hc0
    go_wp2_with fail
    refine HA.out.mono ?_
    rintro e w2 ⟨oa, oc, rfl, HOw, HB1⟩
    have hus : ((t.pushed - t.bits.length / 8 : Nat) : Int) = (usd t : Int) := rfl
    rw [hus]
    have HB2 := Lib.hid (HB0.out.trans (HB1.out.mono HB0.out.size))
    have HO2 := Lib.hid (own_low HOw.out HB0.out.size)
    obtain ⟨U, hU⟩ : ∃ U, U = usd t := ⟨_, rfl⟩
    obtain ⟨L, hL⟩ : ∃ L, L = t.out.length := ⟨_, rfl⟩
    obtain ⟨DT, hDT⟩ : ∃ DT, DT = t.out := ⟨_, rfl⟩
    have hx := HX.out
    rw [if_neg (fun h => h HC.out), ← hDT, ← hU] at hx
    rw [← hDT] at hL HO2
    rw [← hDT, ← hL, ← hU]
    rw [← hL] at HO2
    have HUD := Lib.hid (And.intro hU (And.intro hL hDT))
    have hUl : U ≤ len - 2 := by have := HI.out.2.1; have := HI.out.2.2.1 HC.out; omega
    obtain ⟨a3, ha3, hs3, hby3, -⟩ := cut_from HI.out.1 U hUl
    have HOV := Lib.hid (fun W => over_any L U ratio W)
    have HB3 := Lib.hid hby3
    have HXL := Lib.hid (And.intro hx hL)
    clear HA hus HB0 HB1 HOw hU hDT ha3 hby3 hx hL
    go_wp2_with fail
    obtain ⟨hx, hL⟩ := HXL.out
    refine (HOV.out _).mono ?_
    rintro e w3 ⟨rfl, hb3⟩
    have HBo := Lib.hid (HB2.out.trans (hb3.mono HB2.out.size))
    have HOo := Lib.hid (HO2.out.below (Nat.le_refl _) hb3)
    clear HOV hb3 HO2 HB2
    by_cases hov : ovr L U ratio = true
    · rw [hov]
      have hR : R = 3 := by rw [hx, ← hL, if_pos hov]
      have HR := Lib.hid hR
      clear hx hov hR hL HXL
      go_wp2_with fail
      go_ret3
      exact ⟨.inr ⟨by rw [HR.out]; decide, by rw [HR.out]; rfl⟩, HBo⟩
    · rw [Bool.eq_false_iff.2 hov]
      rw [← hL, if_neg hov] at hx
      obtain ⟨K, hK⟩ : ∃ K, K = decide (r.drop U = bytesOf true 4 (adler 1 DT)) := ⟨_, rfl⟩
      have hKe : (r.drop U == bytesOf true 4 (adler 1 DT)) = K := by
        rw [hK]
        by_cases hh : r.drop U = bytesOf true 4 (adler 1 DT)
        · rw [decide_eq_true hh, hh]; simp
        · rw [decide_eq_false hh]; simp [hh]
      have hRK : R = if K = true then 0 else 2 := by rw [hx, hK]; simp
      have HRK := Lib.hid hRK
      obtain ⟨CR, hCR⟩ : ∃ CR, CR = adler 1 DT := ⟨_, rfl⟩
      rw [← hCR] at hKe
      have hcr : CR < 4294967296 := by rw [hCR]; exact adler_lt 1 DT
      have HSM := Lib.hid (fun (W : World) (hW : Bytes W oa L oc DT) => AdlerC.sum_any oa L oc DT W hW)
      rw [← hCR] at HSM
      have HTL := Lib.hid (fun W => tail_any CR W hcr)
      have HEQ := Lib.hid (fun (W : World) (a6 : Option Addr) (c6 : Nat) (h1 : Bytes W a3 (len - 2 - U) (cap - 2 - U) (r.drop U)) (h2 : Bytes W a6 4 c6 (bytesOf true 4 CR)) => MatC.equal_any W h1 h2 K hKe)
      have HOB : Hid (∃ a' c', Value.slice oa L oc = .slice a' DT.length c' ∧ Bytes w3 a' DT.length c' DT) := Lib.hid HOo.out.bytes
      have hDB : Bytes w3 oa L oc DT := by
        obtain ⟨a', c', h1, h2⟩ := HOB.out
        simp only [Value.slice.injEq] at h1
        obtain ⟨rfl, h3, rfl⟩ := h1
        rw [h3]; exact h2
      have HDB := Lib.hid hDB
      clear hx hov hK hKe hRK hCR hcr HOB hDB hL HXL
      go_upto_region 12 with (fail)
      go_cut [51] (fun v wd => v = .bool (!K) ∧ Hid (Below w3.heap.size w3 wd))
      case first =>
        have HB3d : Hid (Bytes w3.drew a3 (len - 2 - U) (cap - 2 - U) (r.drop U)) := Lib.hid ((HB3.out.below (Nat.le_refl _) HBo.out).below (Nat.le_refl _) (Below.refl _ _).drew)
        have HDBd : Hid (Bytes w3.drew oa L oc DT) := Lib.hid (HDB.out.below (Nat.le_refl _) (Below.refl _ _).drew)
        go_region_with (first
          | (go_at_call 27; refine (HSM.out _ HDBd.out).mono ?_; rintro e w5 ⟨rfl, rfl⟩)
          | (go_at_call 23; refine (HTL.out _).mono ?_; rintro e w6 ⟨v6, rfl, ho6, hb6⟩; obtain ⟨a6, c6, rfl, hby6⟩ := own_four ho6; have HB6 := Lib.hid hb6; have HY6 := Lib.hid hby6; clear ho6 hb6 hby6)
          | (go_at_call 26; refine (HEQ.out _ a6 c6 (HB3d.out.below (Nat.le_refl _) HB6.out) HY6.out).mono ?_; rintro e w8 ⟨rfl, rfl⟩))
        all_goals (go_wp2_with fail; go_meet)
        all_goals exact ⟨rfl, Lib.hid ((Below.refl w3.heap.size w3).drew.trans HB6.out)⟩
      obtain ⟨rfl, HBd⟩ := hcut
      have HBz := Lib.hid (HBo.out.trans (HBd.out.mono HBo.out.size))
      have HOz := Lib.hid (HOo.out.below (Nat.le_refl _) HBd.out)
      clear HSM HTL HEQ HB3 HDB hs3 HBd HBo HOo
      cases hKb : K with
      | true =>
        rw [hKb] at HRK
        have HRR := HRK
        go_wp2_with fail
        go_ret3
        exact ⟨.inl ⟨by rw [HRK.out]; rfl, oa, oc, by rw [HUD.out.1, ← HUD.out.2.2, ← HUD.out.2.1]; rfl, by rw [← HUD.out.2.2, ← HUD.out.2.1]; exact HOz⟩, HBz⟩
      | false =>
        rw [hKb] at HRK
        go_wp2_with fail
        go_ret3
        exact ⟨.inr ⟨by rw [HRK.out]; decide, by rw [HRK.out]; rfl⟩, HBz⟩
  · have HA := Lib.hid (HA2.out w1 HB0.out hc0)
    have HC := Lib.hid hc0
    have g5 : (((if c = 5 then 2 else c : Nat) : Int) != 0) = true := by split <;> simp <;> omega
    have hR : R = if c = 5 then 2 else c := HX.out.trans (if_pos hc0)
    have HRR := Lib.hid hR
    rw [← hR] at HA g5
    clear HA2 hc0 hR
    go_wp2_with fail
    refine HA.out.mono ?_
    rintro e w2 ⟨rfl, HB1⟩
    have HB2 := Lib.hid (HB0.out.trans (HB1.out.mono HB0.out.size))
    clear HA HB1 HB0
    go_wp2_with fail
    go_ret3
    exact ⟨.inr ⟨by rw [HRR.out]; split <;> first | decide | exact HC.out, rfl⟩, HB2⟩
end Go.Proofs.YtdbcendnibgcaaaGreatDoor.ZlC
end

section
/-
  told of law 18.
-/
namespace Go.Proofs.YtdbcendnibgcaaaGreatDoor.ZlC
open Go.RowKit Go.My ZlMath InfC Flt
open Go.My.NumMath (bytesOf)
open Go.My.AdlerMath (adler)

theorem told_z : ∃ t, InfMath.Ends (began false 32768 0 [3, 0, 0, 0, 0, 1]) t 0 ∧ t.out = [] ∧ usd t = 2 := ⟨_, ends_run (n := 20) (by decide +kernel), by decide +kernel, by decide +kernel⟩
theorem told_res {t : InfMath.M} {ratio : Nat} (h : isNaN ratio = true) (ho : t.out = []) (hu : usd t = 2) : res [3, 0, 0, 0, 0, 1] ratio 0 t = 0 := by
  unfold res
  rw [if_neg (by decide), ovr_nan _ _ h, if_neg (by decide), ho, hu, if_pos (by decide)]
set_option maxRecDepth 100000 in
set_option maxHeartbeats 8000000 in
theorem told_any (w : World) (hO : Ordr w.heap.size w) : Calls Tryz.prog 7 #[] w fun e w' => e = .returned (.bool true) ∧ Below w.heap.size w w' := by
  have HO := Lib.hid hO
  clear hO
  go_enter Tryz.func7, Tryz.ntmps7
  go_wp2_with fail
  have H1 : Hid (Bytes (w.alloc (.cells #[.int .u8 120, .int .u8 156, .int .u8 3, .int .u8 0, .int .u8 0, .int .u8 0, .int .u8 0, .int .u8 1] 5)) (some ⟨w.heap.size, 0, none⟩) 8 8 [120, 156, 3, 0, 0, 0, 0, 1]) := Lib.hid (row_bytes 5 w [120, 156, 3, 0, 0, 0, 0, 1] (by decide))
  have HB0 : Hid (Below w.heap.size w (w.alloc (.cells #[.int .u8 120, .int .u8 156, .int .u8 3, .int .u8 0, .int .u8 0, .int .u8 0, .int .u8 0, .int .u8 1] 5))) := Lib.hid ((Below.refl _ _).alloc (Nat.le_refl _) _)
  generalize w.alloc (.cells #[.int .u8 120, .int .u8 156, .int .u8 3, .int .u8 0, .int .u8 0, .int .u8 0, .int .u8 0, .int .u8 1] 5) = w0 at *
  refine (ClkC.none_any _).mono ?_
  rintro e w1 ⟨⟨q, rfl, hq⟩, hb1⟩
  have H2 := Lib.hid (H1.out.below (Nat.le_refl _) hb1)
  have HB1 := Lib.hid (HB0.out.trans (hb1.mono HB0.out.size))
  obtain ⟨t, e1, o1, u1⟩ := told_z
  have hA := zall_any (some ⟨w.heap.size, 0, none⟩) 8 8 120 156 [3, 0, 0, 0, 0, 1] 0 q 0 t w1 H2.out (by omega) (by decide) (by omega) (HO.out.up HB1.out) e1 (fun _ => by rw [u1]; decide)
  rw [told_res hq o1 u1, o1, u1] at hA
  have HA := Lib.hid hA
  clear hA e1 o1 u1 H1 HB0 hb1 hq H2
  go_wp2_with fail
  refine HA.out.mono ?_
  rintro e w2 ⟨⟨-, oa, oc, rfl, -⟩ | ⟨h, -⟩, hb2⟩
  case inr => exact absurd rfl h
  have HB2 := Lib.hid (HB1.out.trans (hb2.out.mono HB1.out.size))
  clear HA hb2 HB1
  go_wp2_with fail
  have hr3 := read_any _ 1 1 [120] _ (row_bytes 5 w2 [120] (by decide))
  have HB3 : Hid (Below w.heap.size w (w2.alloc (.cells #[.int .u8 120] 5))) := Lib.hid (HB2.out.alloc HB2.out.size _)
  rw [show rdN [120] = 0 from rfl, show rdC [120] = 5 from rfl] at hr3
  refine hr3.mono ?_
  rintro e w3 ⟨rfl, hb3⟩
  have HB3' := Lib.hid (HB3.out.trans (hb3.mono HB3.out.size))
  clear hr3 hb3 HB3 HB2
  go_wp2_with fail
  have hr4 := read_any _ 2 2 [120, 156] _ (row_bytes 5 w3 [120, 156] (by decide))
  have HB4 : Hid (Below w.heap.size w (w3.alloc (.cells #[.int .u8 120, .int .u8 156] 5))) := Lib.hid (HB3'.out.alloc HB3'.out.size _)
  rw [show rdN [120, 156] = 32768 from by decide, show rdC [120, 156] = 0 from by decide] at hr4
  refine hr4.mono ?_
  rintro e w4 ⟨rfl, hb4⟩
  have HB5 := Lib.hid (HB4.out.trans (hb4.mono HB4.out.size))
  clear hr4 hb4 HB4 HB3'
  go_wp2_with fail
  go_ret
  exact ⟨rfl, HB5.out⟩
end Go.Proofs.YtdbcendnibgcaaaGreatDoor.ZlC
end
