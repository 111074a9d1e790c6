/-
  CanonApart's law.
-/
import Derived.Test.YtnabimibionkfaaCanL
namespace Go.Proofs.Ytnabimibionkfaa.CanC
open Go.RowKit Go.My BitMath CanMath RefC

theorem int_shr (c d : Nat) : (c : Int) / 2 ^ d = ((c / 2 ^ d : Nat) : Int) := by push_cast; rfl
theorem row_mask (r : Nat) (h : r < 4294967296) : bits .and .u32 (r : Int) 32767 = ((r % 32768 : Nat) : Int) := by
  rw [show (32767 : Int) = ((32767 : Nat) : Int) from rfl, u32_and_nat _ _ h (by omega)]
  congr 1
  exact Nat.and_two_pow_sub_one_eq_mod r 15

section
variable {a : Option Addr} {len cap : Nat} {zs : List Int} {w : World}
set_option maxRecDepth 100000 in
set_option maxHeartbeats 2000000 in
theorem apart_law_big (r : Nat) (hlen : 60 < len) (hl : len ≤ 9223372036854775807) :
    Calls Try.prog 4 #[.slice a len cap, .int .u32 (r : Int)] w fun e w' => e = .returned (.bool true) ∧ Below w.heap.size w w' := by
  go_enter Try.func4, Try.ntmps4
  go_wp2_with fail
  refine (told_any w).mono ?_
  rintro e w' ⟨rfl, hb⟩
  have HB := Lib.hid hb
  clear hb
  go_wp2_with fail
  go_ret
  exact ⟨rfl, HB.out⟩
set_option maxRecDepth 100000 in
set_option maxHeartbeats 2000000 in
theorem apart_law_err (q K X : Int) (r : Nat) (h : RowIn w a len cap (zs.map iv)) (hE : Errs zs q K X) (hlen : len ≤ 60) :
    Calls Try.prog 4 #[.slice a len cap, .int .u32 (r : Int)] w fun e w' => e = .returned (.bool true) ∧ Below w.heap.size w w' := by
  have HR := Lib.hid h
  have HE := Lib.hid hE
  have hq := hE.ne
  have hq2 : (q != 0) = true := by simp at hq ⊢; exact hq
  clear h hE
  go_enter Try.func4, Try.ntmps4
  go_wp2_with fail
  refine (HE.out.codes _ _ _ _ HR.out).mono ?_
  rintro e w3 ⟨rfl, hb3⟩
  have HB3 := Lib.hid hb3
  clear hb3
  go_wp2_with fail
  refine (told_any w3).mono ?_
  rintro e w' ⟨rfl, hb⟩
  have HB := Lib.hid (HB3.out.trans (hb.mono HB3.out.size))
  clear hb
  go_wp2_with fail
  go_ret
  exact ⟨rfl, HB.out⟩

set_option maxRecDepth 100000 in
set_option maxHeartbeats 16000000 in
theorem apart_law_ok (r : Nat) (hr : r < 4294967296) (h : RowIn w a len cap (zs.map iv)) (hg : Good zs) (hk : kr (nat zs) ≤ 32768) (hlen : len ≤ 60) :
    Calls Try.prog 4 #[.slice a len cap, .int .u32 (r : Int)] w fun e w' => e = .returned (.bool true) ∧ Below w.heap.size w w' := by
  have hzl : zs.length = len := by have := h.len_eq; simpa using this
  have hlc := h.le_cap
  have hcl := h.cap_le
  have HZ := Lib.hid hzl
  have HR := Lib.hid h
  have HG := Lib.hid hg
  have HKR := Lib.hid hk
  have HLS : Hid ((nat zs).length = len) := Lib.hid (by rw [nat_len]; exact hzl)
  have hmask := row_mask r hr
  obtain ⟨R, hR⟩ : ∃ R, R = r % 32768 := ⟨_, rfl⟩
  rw [← hR] at hmask
  have hR2 : R < 32768 := by omega
  clear h hzl hg hk hR
  go_enter Try.func4, Try.ntmps4
  go_wp2_with fail
  refine (codes_ok _ _ _ zs _ HR.out HG.out HKR.out).mono ?_
  rintro e w3 ⟨gc, rfl, _, hown3, hb3⟩
  rw [HZ.out] at hown3 ⊢
  have HC3 : Hid (RowIn w3 (some ⟨gc, 0, none⟩) len len (allWords (nat zs))) := Lib.hid (hown3.rowIn (by rw [allWords_len, HLS.out]))
  have HB3 := Lib.hid hb3
  have HR3 := Lib.hid (HR.out.below (Nat.le_refl _) HB3.out)
  clear hb3 hown3
  go_wp2_with fail
  go_loopw [7, 8, 9] (fun f i _ wr => ∃ k : Nat, k ≤ len ∧ i = .int .i64 (k : Int) ∧ f = .int .i64 ((fitsAt (nat zs) R k : Nat) : Int) ∧ Hid (Below w3.heap.size w3 wr)) (fun _ i _ _ => len - (intOf i).toNat)
  case atStart => exact ⟨0, Nat.zero_le _, rfl, rfl, Lib.hid (Below.refl _ _)⟩
  case round =>
    obtain ⟨k, hk, rfl, rfl, HW⟩ := hrel
    have hfl : fitsAt (nat zs) R k ≤ 1 := fitsAt_le _ HG.out.all R k
    by_cases hlt : k < len
    · obtain ⟨b, off, rfl⟩ := HR.out.some_ (by omega)
      have hkz : k < zs.length := by rw [HZ.out]; exact hlt
      have hkn : k < (nat zs).length := by rw [HLS.out]; exact hlt
      have hc1 : wr.cell? ⟨b, off + k, none⟩ = some (.int .i64 zs[k]) := by
        rw [(HR3.out.below (Nat.le_refl _) HW.out).get k (by simpa using hkz)]
        simp [iv]
      obtain ⟨n, hn⟩ : ∃ n : Nat, zs[k] = (n : Int) := ⟨zs[k].toNat, by have := HG.out.2 _ (List.getElem_mem hkz); omega⟩
      have hn2 : (nat zs)[k] = n := by rw [nat_get zs k hkz, hn]; rfl
      have hn15 : n ≤ 15 := by rw [← hn2]; exact HG.out.all _ (List.getElem_mem hkn)
      rw [hn] at hc1
      have hc3 : wr.cell? ⟨gc, k, none⟩ = some (uv (codeW (nat zs) k)) := by
        have := (HC3.out.below (Nat.le_refl _) HW.out).get k (by rw [allWords_len]; exact hkn)
        rw [Nat.zero_add, allWords_get _ k hkn] at this
        exact this
      have HN2 := Lib.hid hn2
      by_cases h0 : 0 < n
      · rw [codeW_eq (nat zs) k hkn, hn2, if_neg (by omega)] at hc3
        unfold uv at hc3
        have hcl2 : codeN (nat zs) n k < 2 ^ n := by rw [← hn2]; exact codeN_lt _ HG.out.all HKR.out k hkn (by omega)
        have hcl3 : codeN (nat zs) n k ≤ 98304 := codeN_le _ HG.out.all HKR.out (by rw [HLS.out]; omega) k n h0 hn15
        have HFS := Lib.hid (fitsAt_succ (nat zs) R k hkn)
        have HCE : Hid (codeN (nat zs) n k = codeN (nat zs) n k) := Lib.hid rfl
        have hsh0 : ((codeN (nat zs) n k : Nat) : Int) / 2 ^ n = 0 := by rw [int_shr, Nat.div_eq_of_lt hcl2]; rfl
        have hshr := int_shr R (15 - n)
        obtain ⟨Q, hQ⟩ : ∃ Q, Q = R / 2 ^ (15 - n) := ⟨_, rfl⟩
        rw [← hQ] at hshr
        have HFS2 : Hid (fitsAt (nat zs) R (k + 1) = fitsAt (nat zs) R k + (if Q = codeN (nat zs) n k then 1 else 0)) := Lib.hid (by
          rw [HFS.out, hn2, ← hQ]
          congr 1
          by_cases hq : Q = codeN (nat zs) n k
          · rw [if_pos hq, if_pos ⟨h0, hq⟩]
          · rw [if_neg hq, if_neg (fun e => hq e.2)])
        obtain ⟨x, hx⟩ : ∃ x, x = codeN (nat zs) n k := ⟨_, rfl⟩
        rw [← hx] at hc3 hcl3 hsh0 HFS2
        have HX := Lib.hid hx
        have k1 : IntKind.u64.wrap (n : Int) = (n : Int) := IntWalk.u64_in _ (by omega)
        have k2 : IntKind.i64.wrap (15 - (n : Int)) = ((15 - n : Nat) : Int) := by rw [IntWalk.i64_in _ (by omega)]; omega
        have k3 : IntKind.u64.wrap ((15 - n : Nat) : Int) = ((15 - n : Nat) : Int) := IntWalk.u64_in _ (by omega)
        have hn0 : ((n : Int) == 0) = false := by simp; omega
        have HZK := Lib.hid hn
        have HCK : Hid (codeW (nat zs) k = x) := Lib.hid (by rw [codeW_eq _ k hkn, hn2, if_neg (by omega)]; exact hx.symm)
        clear hcl2 hQ hx hn hn2 HFS HCE
        go_upto_region 13 with (fail)
        go_quiet (fail)
        have HW4 : Hid (Below w3.heap.size w3 (wr.drewN nq)) := Lib.hid (HW.out.trans ((quiet_below wr nq).mono HW.out.size))
        have hc1' : (wr.drewN nq).cell? ⟨b, off + k, none⟩ = some (.int .i64 (n : Int)) := hc1
        have hc3' : (wr.drewN nq).cell? ⟨gc, k, none⟩ = some (.int .u32 (x : Int)) := hc3
        clear hc1 hc3 HW hsh0 k1 hn0
        generalize wr.drewN nq = w4 at *
        go_upto_region 15 with (fail)
        go_quiet (fail)
        have HW5 : Hid (Below w3.heap.size w3 (w4.drewN nq)) := Lib.hid (HW4.out.trans ((quiet_below w4 nq).mono HW4.out.size))
        have hc1 : (w4.drewN nq).cell? ⟨b, off + k, none⟩ = some (.int .i64 (n : Int)) := hc1'
        have hc3 : (w4.drewN nq).cell? ⟨gc, k, none⟩ = some (.int .u32 (x : Int)) := hc3'
        clear hc1' hc3' HW4 hshr k2 k3
        generalize w4.drewN nq = w5 at *
        go_upto_if 67 with (fail)
        go_cut [7] (fun f wc => f = .int .i64 ((fitsAt (nat zs) R (k + 1) : Nat) : Int) ∧ wc = w5)
        case first =>
          by_cases hq : Q = x
          · have HF3 : Hid (fitsAt (nat zs) R (k + 1) = fitsAt (nat zs) R k + 1) := Lib.hid (by rw [HFS2.out, if_pos hq])
            subst hq
            clear HFS2
            generalize fitsAt (nat zs) R k = y at *
            go_wp2_with fail
            go_meet
            case rel => exact ⟨by rw [HF3.out]; go_num, rfl⟩
          · have HF3 : Hid (fitsAt (nat zs) R (k + 1) = fitsAt (nat zs) R k) := Lib.hid (by rw [HFS2.out, if_neg hq]; rfl)
            have hqx : ((Q : Int) == (x : Int)) = false := by simp; omega
            clear HFS2 hq
            go_wp2_with fail
            go_meet
            case rel => exact ⟨by rw [HF3.out], rfl⟩
        obtain ⟨rfl, rfl⟩ := hcut
        clear HFS2 hc1 hc3
        obtain ⟨y, hy⟩ : ∃ y, y = fitsAt (nat zs) R (k + 1) := ⟨_, rfl⟩
        rw [← hy]
        have HY := Lib.hid hy
        clear hy
        go_wp2_with fail
        go_loopw [9] (fun i wr => ∃ j : Nat, j ≤ len ∧ i = .int .i64 (j : Int) ∧ Hid (Below w3.heap.size w3 wr)) (fun i _ => len - (intOf i).toNat)
        case atStart => exact ⟨0, Nat.zero_le _, rfl, HW5⟩
        case round =>
          clear HW5
          obtain ⟨j, hj, rfl, HW⟩ := hrel
          by_cases hjl : j < len
          · have hjz : j < zs.length := by rw [HZ.out]; exact hjl
            have hjn : j < (nat zs).length := by rw [HLS.out]; exact hjl
            have hc1 : wr.cell? ⟨b, off + k, none⟩ = some (.int .i64 (n : Int)) := by
              rw [(HR3.out.below (Nat.le_refl _) HW.out).get k (by simpa using hkz), List.getElem_map, HZK.out]; rfl
            have hc2 : wr.cell? ⟨b, off + j, none⟩ = some (.int .i64 zs[j]) := by
              rw [(HR3.out.below (Nat.le_refl _) HW.out).get j (by simpa using hjz), List.getElem_map]; rfl
            have hc3 : wr.cell? ⟨gc, k, none⟩ = some (.int .u32 (x : Int)) := by
              have := (HC3.out.below (Nat.le_refl _) HW.out).get k (by rw [allWords_len]; exact hkn)
              rw [Nat.zero_add, allWords_get _ k hkn, HCK.out] at this
              exact this
            have hc4 : wr.cell? ⟨gc, j, none⟩ = some (.int .u32 ((codeW (nat zs) j : Nat) : Int)) := by
              have := (HC3.out.below (Nat.le_refl _) HW.out).get j (by rw [allWords_len]; exact hjn)
              rw [Nat.zero_add, allWords_get _ j hjn] at this
              exact this
            obtain ⟨m, hm⟩ : ∃ m : Nat, zs[j] = (m : Int) := ⟨zs[j].toNat, by have := HG.out.2 _ (List.getElem_mem hjz); omega⟩
            have hm2 : (nat zs)[j] = m := by rw [nat_get zs j hjz, hm]; rfl
            have hm15 : m ≤ 15 := by rw [← hm2]; exact HG.out.all _ (List.getElem_mem hjn)
            rw [hm] at hc2
            have HM2 := Lib.hid hm2
            clear hm hm2
            by_cases hjk : j = k
            · subst hjk
              clear hc1
              obtain rfl : m = n := by rw [← HM2.out, ← HN2.out]
              go_wp2_with fail
              go_quiet (fail)
              have HWa : Hid (Below w3.heap.size w3 (wr.drewN nq)) := Lib.hid (HW.out.trans ((quiet_below wr nq).mono HW.out.size))
              have hd2 : (wr.drewN nq).cell? ⟨b, off + j, none⟩ = some (.int .i64 (m : Int)) := hc2
              have hd3 : (wr.drewN nq).cell? ⟨gc, j, none⟩ = some (.int .u32 (x : Int)) := hc3
              clear HW hc2 hc3 hc4
              generalize wr.drewN nq = w6 at *
              go_wp2_with fail
              go_quiet (fail)
              have HWb : Hid (Below w3.heap.size w3 (w6.drewN nq)) := Lib.hid (HWa.out.trans ((quiet_below w6 nq).mono HWa.out.size))
              clear HWa hd2 hd3
              generalize w6.drewN nq = w7 at *
              go_wp2_with fail
              go_roundw
              case rel => exact ⟨j + 1, by omega, by go_num, HWb⟩
              case measure => simp [intOf]; omega
            · have e1 : ((j : Int) != (k : Int)) = true := by simp; omega
              have e2 : ((j : Int) == (k : Int)) = false := by simp; omega
              have hm0 : n ≤ m → 0 < m := fun h => by omega
              have hzl : n ≤ m → codeW (nat zs) j = codeN (nat zs) m j := fun h => by rw [codeW_eq _ j hjn, HM2.out, if_neg (by omega)]
              have hnp : n ≤ m → codeW (nat zs) j / 2 ^ (m - n) ≠ x := fun h => by
                have := no_prefix (nat zs) HG.out.all k j hkn hjn (by rw [HN2.out]; exact h0) (by rw [HN2.out, HM2.out]; exact h) hjk
                rwa [HN2.out, HM2.out, ← HX.out, ← hzl h] at this
              have hzb : n ≤ m → codeW (nat zs) j ≤ 98304 := fun h => by rw [hzl h]; exact codeN_le _ HG.out.all HKR.out (by rw [HLS.out]; omega) j m (hm0 h) hm15
              have hlong : n < m → x ≤ codeW (nat zs) j / 2 ^ (m - n) := fun h => by
                have := longer (nat zs) HG.out.all k j hkn hjn (by rw [HN2.out]; exact h0) (by rw [HN2.out, HM2.out]; exact h)
                rwa [HN2.out, HM2.out, ← HX.out, ← hzl (by omega)] at this
              have hrise : n = m → k < j → x < codeW (nat zs) j := fun h h2 => by
                have := rises (nat zs) k j hkn h2
                rw [HN2.out, ← HX.out] at this
                rw [hzl (by omega), ← h]; exact this
              have HNP := Lib.hid hnp
              have HZBD := Lib.hid hzb
              have HLO := Lib.hid hlong
              have HRI := Lib.hid hrise
              clear hm0 hzl hnp hzb hlong hrise
              generalize codeW (nat zs) j = z at *
              by_cases hjk2 : k < j
              · have e8 : decide (k < j) = true := by simp; omega
                clear hjk hjk2
                by_cases hmn : m < n
                · have e3 : ((m : Int) == (n : Int)) = false := by simp; omega
                  have e6 : decide (n ≤ m) = false := by simp; omega
                  have e7 : decide (n < m) = false := by simp; omega
                  clear HNP HZBD HLO HRI
                  go_wp2_with fail
                  go_quiet (fail)
                  have HWa : Hid (Below w3.heap.size w3 (wr.drewN nq)) := Lib.hid (HW.out.trans ((quiet_below wr nq).mono HW.out.size))
                  have hd1 : (wr.drewN nq).cell? ⟨b, off + k, none⟩ = some (.int .i64 (n : Int)) := hc1
                  have hd2 : (wr.drewN nq).cell? ⟨b, off + j, none⟩ = some (.int .i64 (m : Int)) := hc2
                  clear HW hc1 hc2 hc3 hc4
                  generalize wr.drewN nq = w6 at *
                  go_wp2_with fail
                  go_quiet (fail)
                  have HWb : Hid (Below w3.heap.size w3 (w6.drewN nq)) := Lib.hid (HWa.out.trans ((quiet_below w6 nq).mono HWa.out.size))
                  clear HWa hd1 hd2
                  generalize w6.drewN nq = w7 at *
                  go_wp2_with fail
                  go_roundw
                  case rel => exact ⟨j + 1, by omega, by go_num, HWb⟩
                  case measure => simp [intOf]; omega
                · by_cases hgt : n < m
                  · have hzb := HZBD.out (by omega)
                    have hsh := int_shr z (m - n)
                    have hnp := HNP.out (by omega)
                    have hlo := HLO.out hgt
                    have hql := Nat.div_le_self z (2 ^ (m - n))
                    generalize z / 2 ^ (m - n) = q at *
                    have e4 : ((q : Int) == (x : Int)) = false := by simp; omega
                    have e5 : decide (q < x) = false := by simp; omega
                    have e3 : ((m : Int) == (n : Int)) = false := by simp; omega
                    have e6 : decide (n ≤ m) = true := by simp; omega
                    have e7 : decide (n < m) = true := by simp; omega
                    have k1 : IntKind.i64.wrap ((m : Int) - (n : Int)) = ((m - n : Nat) : Int) := by rw [IntWalk.i64_in _ (by omega)]; omega
                    have k2 : IntKind.u64.wrap ((m - n : Nat) : Int) = ((m - n : Nat) : Int) := IntWalk.u64_in _ (by omega)
                    clear HNP HZBD HLO HRI hnp hlo hmn
                    go_wp2_with fail
                    go_quiet (fail)
                    have HWa : Hid (Below w3.heap.size w3 (wr.drewN nq)) := Lib.hid (HW.out.trans ((quiet_below wr nq).mono HW.out.size))
                    have hd1 : (wr.drewN nq).cell? ⟨b, off + k, none⟩ = some (.int .i64 (n : Int)) := hc1
                    have hd2 : (wr.drewN nq).cell? ⟨b, off + j, none⟩ = some (.int .i64 (m : Int)) := hc2
                    have hd3 : (wr.drewN nq).cell? ⟨gc, k, none⟩ = some (.int .u32 (x : Int)) := hc3
                    have hd4 : (wr.drewN nq).cell? ⟨gc, j, none⟩ = some (.int .u32 (z : Int)) := hc4
                    clear HW hc1 hc2 hc3 hc4
                    generalize wr.drewN nq = w6 at *
                    go_wp2_with fail
                    go_quiet (fail)
                    have HWb : Hid (Below w3.heap.size w3 (w6.drewN nq)) := Lib.hid (HWa.out.trans ((quiet_below w6 nq).mono HWa.out.size))
                    clear HWa hd1 hd2 hd3 hd4
                    generalize w6.drewN nq = w7 at *
                    go_wp2_with fail
                    go_roundw
                    case rel => exact ⟨j + 1, by omega, by go_num, HWb⟩
                    case measure => simp [intOf]; omega
                  · obtain rfl : n = m := by omega
                    have hzb := HZBD.out (Nat.le_refl _)
                    have hnp := HNP.out (Nat.le_refl _)
                    rw [Nat.sub_self, Nat.pow_zero, Nat.div_one] at hnp
                    have e4 : ((z : Int) == (x : Int)) = false := by simp; omega
                    have hri := HRI.out rfl (by simpa using e8)
                    have e5 : decide (z ≤ x) = false := by simp; omega
                    clear hri
                    have k3 : IntKind.i64.wrap 0 = 0 := rfl
                    have k4 : IntKind.u64.wrap 0 = 0 := rfl
                    clear HNP HZBD HLO HRI hnp hmn hgt
                    go_wp2_with fail
                    go_quiet (fail)
                    have HWa : Hid (Below w3.heap.size w3 (wr.drewN nq)) := Lib.hid (HW.out.trans ((quiet_below wr nq).mono HW.out.size))
                    have hd1 : (wr.drewN nq).cell? ⟨b, off + k, none⟩ = some (.int .i64 (n : Int)) := hc1
                    have hd2 : (wr.drewN nq).cell? ⟨b, off + j, none⟩ = some (.int .i64 (n : Int)) := hc2
                    have hd3 : (wr.drewN nq).cell? ⟨gc, k, none⟩ = some (.int .u32 (x : Int)) := hc3
                    have hd4 : (wr.drewN nq).cell? ⟨gc, j, none⟩ = some (.int .u32 (z : Int)) := hc4
                    clear HW hc1 hc2 hc3 hc4
                    generalize wr.drewN nq = w6 at *
                    go_wp2_with fail
                    go_quiet (fail)
                    have HWb : Hid (Below w3.heap.size w3 (w6.drewN nq)) := Lib.hid (HWa.out.trans ((quiet_below w6 nq).mono HWa.out.size))
                    clear HWa hd1 hd2 hd3 hd4
                    generalize w6.drewN nq = w7 at *
                    go_wp2_with fail
                    go_roundw
                    case rel => exact ⟨j + 1, by omega, by go_num, HWb⟩
                    case measure => simp [intOf]; omega
              · have e8 : decide (k < j) = false := by simp; omega
                clear hjk hjk2
                by_cases hmn : m < n
                · have e3 : ((m : Int) == (n : Int)) = false := by simp; omega
                  have e6 : decide (n ≤ m) = false := by simp; omega
                  have e7 : decide (n < m) = false := by simp; omega
                  clear HNP HZBD HLO HRI
                  go_wp2_with fail
                  go_quiet (fail)
                  have HWa : Hid (Below w3.heap.size w3 (wr.drewN nq)) := Lib.hid (HW.out.trans ((quiet_below wr nq).mono HW.out.size))
                  have hd1 : (wr.drewN nq).cell? ⟨b, off + k, none⟩ = some (.int .i64 (n : Int)) := hc1
                  have hd2 : (wr.drewN nq).cell? ⟨b, off + j, none⟩ = some (.int .i64 (m : Int)) := hc2
                  clear HW hc1 hc2 hc3 hc4
                  generalize wr.drewN nq = w6 at *
                  go_wp2_with fail
                  go_quiet (fail)
                  have HWb : Hid (Below w3.heap.size w3 (w6.drewN nq)) := Lib.hid (HWa.out.trans ((quiet_below w6 nq).mono HWa.out.size))
                  clear HWa hd1 hd2
                  generalize w6.drewN nq = w7 at *
                  go_wp2_with fail
                  go_roundw
                  case rel => exact ⟨j + 1, by omega, by go_num, HWb⟩
                  case measure => simp [intOf]; omega
                · by_cases hgt : n < m
                  · have hzb := HZBD.out (by omega)
                    have hsh := int_shr z (m - n)
                    have hnp := HNP.out (by omega)
                    have hlo := HLO.out hgt
                    have hql := Nat.div_le_self z (2 ^ (m - n))
                    generalize z / 2 ^ (m - n) = q at *
                    have e4 : ((q : Int) == (x : Int)) = false := by simp; omega
                    have e5 : decide (q < x) = false := by simp; omega
                    have e3 : ((m : Int) == (n : Int)) = false := by simp; omega
                    have e6 : decide (n ≤ m) = true := by simp; omega
                    have e7 : decide (n < m) = true := by simp; omega
                    have k1 : IntKind.i64.wrap ((m : Int) - (n : Int)) = ((m - n : Nat) : Int) := by rw [IntWalk.i64_in _ (by omega)]; omega
                    have k2 : IntKind.u64.wrap ((m - n : Nat) : Int) = ((m - n : Nat) : Int) := IntWalk.u64_in _ (by omega)
                    clear HNP HZBD HLO HRI hnp hlo hmn
                    go_wp2_with fail
                    go_quiet (fail)
                    have HWa : Hid (Below w3.heap.size w3 (wr.drewN nq)) := Lib.hid (HW.out.trans ((quiet_below wr nq).mono HW.out.size))
                    have hd1 : (wr.drewN nq).cell? ⟨b, off + k, none⟩ = some (.int .i64 (n : Int)) := hc1
                    have hd2 : (wr.drewN nq).cell? ⟨b, off + j, none⟩ = some (.int .i64 (m : Int)) := hc2
                    have hd3 : (wr.drewN nq).cell? ⟨gc, k, none⟩ = some (.int .u32 (x : Int)) := hc3
                    have hd4 : (wr.drewN nq).cell? ⟨gc, j, none⟩ = some (.int .u32 (z : Int)) := hc4
                    clear HW hc1 hc2 hc3 hc4
                    generalize wr.drewN nq = w6 at *
                    go_wp2_with fail
                    go_quiet (fail)
                    have HWb : Hid (Below w3.heap.size w3 (w6.drewN nq)) := Lib.hid (HWa.out.trans ((quiet_below w6 nq).mono HWa.out.size))
                    clear HWa hd1 hd2 hd3 hd4
                    generalize w6.drewN nq = w7 at *
                    go_wp2_with fail
                    go_roundw
                    case rel => exact ⟨j + 1, by omega, by go_num, HWb⟩
                    case measure => simp [intOf]; omega
                  · obtain rfl : n = m := by omega
                    have hzb := HZBD.out (Nat.le_refl _)
                    have hnp := HNP.out (Nat.le_refl _)
                    rw [Nat.sub_self, Nat.pow_zero, Nat.div_one] at hnp
                    have e4 : ((z : Int) == (x : Int)) = false := by simp; omega
                    have k3 : IntKind.i64.wrap 0 = 0 := rfl
                    have k4 : IntKind.u64.wrap 0 = 0 := rfl
                    clear HNP HZBD HLO HRI hnp hmn hgt
                    go_wp2_with fail
                    go_quiet (fail)
                    have HWa : Hid (Below w3.heap.size w3 (wr.drewN nq)) := Lib.hid (HW.out.trans ((quiet_below wr nq).mono HW.out.size))
                    have hd1 : (wr.drewN nq).cell? ⟨b, off + k, none⟩ = some (.int .i64 (n : Int)) := hc1
                    have hd2 : (wr.drewN nq).cell? ⟨b, off + j, none⟩ = some (.int .i64 (n : Int)) := hc2
                    have hd3 : (wr.drewN nq).cell? ⟨gc, k, none⟩ = some (.int .u32 (x : Int)) := hc3
                    have hd4 : (wr.drewN nq).cell? ⟨gc, j, none⟩ = some (.int .u32 (z : Int)) := hc4
                    clear HW hc1 hc2 hc3 hc4
                    generalize wr.drewN nq = w6 at *
                    go_wp2_with fail
                    go_quiet (fail)
                    have HWb : Hid (Below w3.heap.size w3 (w6.drewN nq)) := Lib.hid (HWa.out.trans ((quiet_below w6 nq).mono HWa.out.size))
                    clear HWa hd1 hd2 hd3 hd4
                    generalize w6.drewN nq = w7 at *
                    go_wp2_with fail
                    go_roundw
                    case rel => exact ⟨j + 1, by omega, by go_num, HWb⟩
                    case measure => simp [intOf]; omega
          · obtain rfl : j = len := by omega
            go_wp2_with fail
            go_roundw
            case rel => exact ⟨k + 1, by omega, by go_num, by rw [HY.out], HW⟩
            case measure => simp [intOf]; omega
      · obtain rfl : n = 0 := by omega
        have HF3 : Hid (fitsAt (nat zs) R (k + 1) = fitsAt (nat zs) R k) := Lib.hid (fitsAt_miss _ _ _ hkn (fun e => by rw [HN2.out] at e; omega))
        clear hc3 hn hn2
        generalize fitsAt (nat zs) R k = y at *
        go_wp2_with fail
        go_roundw
        case rel => exact ⟨k + 1, by omega, by go_num, by rw [HF3.out], HW⟩
        case measure => simp [intOf]; omega
    · obtain rfl : k = len := by omega
      have HWH : Hid (kindN (nat zs) = 1 → fitsAt (nat zs) R k = 1) := Lib.hid (fun h => by
        have hk : kr (nat zs) = 32768 := by
          unfold kindN at h
          by_cases h1 : 32768 < kr (nat zs)
          · rw [if_pos h1] at h; omega
          · rw [if_neg h1] at h
            by_cases h2 : kr (nat zs) = 0
            · rw [if_pos h2] at h; omega
            · rw [if_neg h2] at h
              by_cases h3 : kr (nat zs) = 32768
              · exact h3
              · rw [if_neg h3] at h
                split at h <;> omega
        have := fitsAt_whole (nat zs) HG.out.all R (by omega)
        rwa [HLS.out] at this)
      have HKG := Lib.hid (fun (a : Option Addr) (len cap : Nat) (w : World) (h : RowIn w a len cap (zs.map iv)) => kind_good h HG.out)
      generalize fitsAt (nat zs) R k = y at *
      generalize kindN (nat zs) = X at *
      go_wp2_with fail
      refine (told_any wr).mono ?_
      rintro e w7 ⟨rfl, hb⟩
      have HB7 := Lib.hid ((HB3.out.trans (HW.out.mono HB3.out.size)).trans (hb.mono (Nat.le_trans HB3.out.size HW.out.size)))
      have HR7 := Lib.hid (HR.out.below (Nat.le_refl _) HB7.out)
      clear hb
      go_wp2_with fail
      refine (HKG.out _ _ _ _ HR7.out).mono ?_
      rintro e w8 ⟨rfl, hb8⟩
      have HB8 := Lib.hid (HB7.out.trans (hb8.mono HB7.out.size))
      clear hb8 HKG
      by_cases hx : X = 1
      · subst hx
        have hy : y = 1 := HWH.out rfl
        subst hy
        go_wp2_with fail
        go_ret
        exact ⟨by first | (simp; done) | (simp; omega), HB8.out⟩
      · have e1 : (X != 1) = true := by simpa using hx
        clear HWH hx
        go_wp2_with fail
        go_ret
        exact ⟨by first | (simp; done) | (simp; omega), HB8.out⟩

theorem apart_law (r : Nat) (hr : r < 4294967296) (h : RowIn w a len cap (zs.map iv)) :
    Calls Try.prog 4 #[.slice a len cap, .int .u32 (r : Int)] w fun e w' => e = .returned (.bool true) ∧ Below w.heap.size w w' := by
  by_cases hb : 60 < len
  · exact apart_law_big r hb (Nat.le_trans h.le_cap h.cap_le)
  · by_cases hg : Good zs
    · by_cases hk : kr (nat zs) ≤ 32768
      · exact apart_law_ok r hr h hg hk (by omega)
      · exact apart_law_err _ _ _ r h (errs_over hg (by omega)) (by omega)
    · exact apart_law_err _ _ _ r h (errs_bad hg) (by omega)
end
end Go.Proofs.Ytnabimibionkfaa.CanC
