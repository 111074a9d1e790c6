/-
  WindowRepeats' law.
-/
import Derived.Test.YtdegclfgmjcdfaaWinT
namespace Go.Proofs.Ytdegclfgmjcdfaa.WinC
open Go.RowKit Go.My WinMath

theorem mod_of (a : Int) (n : Nat) (hn : 0 < n) : ∃ f : Nat, f < n ∧ (IntKind.u64.wrap a).tmod (n : Int) = (f : Int) := by
  have h0 : 0 ≤ IntKind.u64.wrap a := by rw [IntKind.wrap_u64]; omega
  refine ⟨((IntKind.u64.wrap a) % (n : Int)).toNat, ?_, ?_⟩
  · have := Int.emod_lt_of_pos (IntKind.u64.wrap a) (show (0 : Int) < n by omega)
    have := Int.emod_nonneg (IntKind.u64.wrap a) (show (n : Int) ≠ 0 by omega)
    omega
  · rw [Int.tmod_eq_emod_of_nonneg h0, Int.toNat_of_nonneg (Int.emod_nonneg _ (by omega))]
theorem size_of (a : Int) (n : Nat) (hn : 0 < n) : ∃ D : Nat, 1 ≤ D ∧ D ≤ n ∧ (IntKind.u64.wrap a).tmod (n : Int) = ((D - 1 : Nat) : Int) ∧ 1 + ((D - 1 : Nat) : Int) = (D : Int) := by
  obtain ⟨f, h1, h2⟩ := mod_of a n hn
  exact ⟨f + 1, by omega, by omega, by rw [h2]; rfl, by omega⟩
theorem take_more (l : List UInt8) (k : Nat) (h : k < l.length) : l.take k ++ [l[k]] = l.take (k + 1) := (List.take_succ_eq_append_getElem h).symm

section
variable {a : Option Addr} {len cap : Nat} {l : List UInt8} {w : World}
set_option maxRecDepth 100000 in
set_option maxHeartbeats 2000000 in
theorem repeats_other (x y : Int) (h : len = 0 ∨ 100 < len) (hl : len ≤ 9223372036854775807) :
    Calls Try.prog 4 #[.slice a len cap, .int .i64 x, .int .i64 y] w fun e w' => e = .returned (.bool true) ∧ Below w.heap.size w w' := by
  by_cases h0 : len = 0
  · subst h0
    go_enter Try.func4, Try.ntmps4
    go_wp2_with fail
    refine (told_any w).mono ?_
    rintro e w' ⟨rfl, hb⟩
    have HB := Lib.hid hb
    clear hb
    go_wp2_with fail
    go_ret
    exact ⟨rfl, HB.out⟩
  · have h1 : 100 < len := by omega
    go_enter Try.func4, Try.ntmps4
    go_wp2_with fail
    refine (told_any w).mono ?_
    rintro e w' ⟨rfl, hb⟩
    have HB := Lib.hid hb
    clear hb
    go_wp2_with fail
    go_ret
    exact ⟨rfl, HB.out⟩

set_option maxRecDepth 100000 in
set_option maxHeartbeats 8000000 in
theorem repeats_law (x y : Int) (hb : Bytes w a len cap l) :
    Calls Try.prog 4 #[.slice a len cap, .int .i64 x, .int .i64 y] w fun e w' => e = .returned (.bool true) ∧ Below w.heap.size w w' := by
  have hcl : len ≤ 9223372036854775807 := Nat.le_trans hb.le_cap hb.cap_le
  by_cases h : len = 0 ∨ 100 < len
  · exact repeats_other x y h hcl
  obtain rfl := hb.len_eq
  have h0 : 0 < l.length := by omega
  have h100 : ¬ (100 : Int) < (l.length : Int) := by omega
  have hz : ((l.length : Int) == 0) = false := beq_eq_false_iff_ne.2 (by omega)
  obtain ⟨b, off, rfl⟩ := hb.some_ h0
  have HBY := Lib.hid hb
  obtain ⟨D, hD1, hD2, hf1, hf2⟩ := size_of x l.length h0
  obtain ⟨m, hm, hm1⟩ := mod_of y 301 (by omega)
  have hm1 : (IntKind.u64.wrap y).tmod 301 = (m : Int) := hm1
  clear hb h
  go_enter Try.func4, Try.ntmps4
  go_wp2_with fail
  refine (new_k 65536 w (by omega) (by omega)).mono ?_
  rintro e w1 ⟨rfl, H1⟩
  go_wp2_with fail
  generalize hg : w.heap.size = g at *
  have HG := Lib.hid hg
  clear hg
  go_loopw [9] (fun i wr => ∃ (k : Nat) (r : Option Nat), k ≤ l.length ∧ i = .int .i64 (k : Int) ∧ Hid (Kept w wr g 65536 r (l.take k))) (fun i _ => l.length - (intOf i).toNat)
  case atStart => exact ⟨0, none, Nat.zero_le _, rfl, H1⟩
  case round =>
    clear H1
    obtain ⟨k, r, hk, rfl, HK⟩ := hrel
    by_cases hlt : k < l.length
    · have hby := HBY.out.below (Nat.le_refl _) HK.out.below
      have hcb : wr.cell? ⟨b, off + k, none⟩ = some (.int .u8 (l[k].toNat : Int)) := by
        rcases hby.at_ with e | ⟨b', off', e, _, hc⟩
        · omega
        · simp only [Option.some.injEq, Addr.mk.injEq, and_true] at e
          obtain ⟨rfl, rfl⟩ := e
          exact hc k hlt
      have hmore := take_more l k hlt
      generalize l[k] = c at hcb hmore
      have HM := Lib.hid hmore
      clear hby hmore
      go_wp2_with fail
      refine (put_k c w wr g 65536 r _ HK (by rw [List.length_take]; omega)).mono ?_
      rw [HM.out]
      rintro e w2 ⟨rfl, r2, HK2, -⟩
      clear HK hcb
      go_wp2_with fail
      go_roundw
      case rel => exact ⟨k + 1, r2, hlt, by go_num, HK2⟩
      case measure => simp [intOf]; omega
    · obtain rfl : k = l.length := by omega
      rw [List.take_length] at HK
      have hpos : ((l.length : Int) == 0) = false := hz
      go_wp2_with fail
      refine (copy_k D m w wr g 65536 r l HK (by omega) hD1 (by omega) (by omega)).mono ?_
      rintro e wc ⟨cb, r2, rfl, HO, HK2, -⟩
      have hcm : ((m : Int) != (m : Int)) = false := by simp
      go_wp2_with fail
      go_loopw [14] (fun i wr => ∃ k : Nat, k ≤ m ∧ i = .int .i64 (k : Int) ∧ Hid (Below wc.heap.size wc wr)) (fun i _ => m - (intOf i).toNat)
      case atStart => exact ⟨0, Nat.zero_le _, rfl, Lib.hid (Below.refl _ _)⟩
      case round =>
        clear HK
        rename_i wr0 _ _ _ _ _ _
        obtain ⟨k, hk, rfl, HW⟩ := hrel
        by_cases hlt2 : k < m
        · have hcl : k < (copy l D m).length := by rw [copy_len]; exact hlt2
          have hcc := own_cell (HO.out.below (Nat.le_refl _) HW.out) (copy_len l D m) k hcl
          have hge := copy_get l D m hD1 hD2 k hlt2
          have hbi : l.length - D + k % D < l.length := by have := Nat.mod_lt k (show 0 < D by omega); omega
          rw [List.getElem?_eq_getElem hcl, List.getElem?_eq_getElem hbi] at hge
          injection hge with hge
          rw [hge] at hcc
          have hby := HBY.out.below (Nat.le_refl _) (HK2.out.later HW.out).below
          have hcb : wr.cell? ⟨b, off + (l.length - D + k % D), none⟩ = some (.int .u8 (l[l.length - D + k % D].toNat : Int)) := by
            rcases hby.at_ with e | ⟨b', off', e, _, hc⟩
            · omega
            · simp only [Option.some.injEq, Addr.mk.injEq, and_true] at e
              obtain ⟨rfl, rfl⟩ := e
              exact hc _ hbi
          generalize l[l.length - D + k % D] = c at hcb hcc
          unfold bv at hcc
          clear hge hby hcl
          go_upto_region 18 with (fail)
          go_quiet (fail)
          have HW2 := Lib.hid (HW.out.trans (show Below wc.heap.size wr (wr.drewN nq) from ⟨rfl, rfl, rfl, Nat.le_refl _, fun _ _ => rfl⟩))
          clear HW hcb hcc
          generalize wr.drewN nq = wd at *
          go_wp2_with fail
          go_roundw
          case rel => exact ⟨k + 1, by omega, by go_num, HW2⟩
          case measure => simp [intOf]; omega
        · obtain rfl : k = m := by omega
          have HK3 := Lib.hid (HK2.out.later HW.out)
          go_wp2_with fail
          refine (told_any wr).mono ?_
          rintro e w4 ⟨rfl, hb⟩
          have HK4 := Lib.hid (HK3.out.later hb)
          clear hb
          go_wp2_with fail
          refine (total_any _ g 65536 r2 _ w4 HK4.out.wn).mono ?_
          rintro e w' ⟨rfl, rfl⟩
          have hgl : ((grow l D k).length : Int) = (l.length : Int) + (k : Int) := by rw [grow_len]; omega
          go_wp2_with fail
          go_ret
          refine ⟨?_, HK4.out.below⟩
          simp
end
end Go.Proofs.Ytdegclfgmjcdfaa.WinC
