/-
  WindowForgets' law.
-/
import Derived.Test.YtdegclfgmjcdfaaWinR
import Derived.Test.YtdegclfgmjcdfaaLater
namespace Go.Proofs.Ytdegclfgmjcdfaa.WinC
open Go.RowKit Go.My WinMath

section
variable {a : Option Addr} {len cap : Nat} {l : List UInt8} {w : World}
set_option maxRecDepth 100000 in
set_option maxHeartbeats 2000000 in
theorem forgets_big (x : Int) (h : 300 < len) (hl : len ≤ 9223372036854775807) :
    Calls Try.prog 5 #[.int .i64 x, .slice a len cap] w fun e w' => e = .returned (.bool true) ∧ Below w.heap.size w w' := by
  go_enter Try.func5, Try.ntmps5
  go_wp2_with fail
  refine (told_any w).mono ?_
  rintro e w' ⟨rfl, hb⟩
  have HB := Lib.hid hb
  clear hb
  go_wp2_with fail
  go_ret
  exact ⟨rfl, HB.out⟩

theorem byte_at {w : World} {b off len cap : Nat} {l : List UInt8} (hb : Bytes w (some ⟨b, off, none⟩) len cap l) (k : Nat) (hk : k < l.length) : w.cell? ⟨b, off + k, none⟩ = some (.int .u8 (l[k].toNat : Int)) := by
  rcases hb.at_ with e | ⟨b', off', e, _, hc⟩
  · have := hb.len_eq; omega
  · simp only [Option.some.injEq, Addr.mk.injEq, and_true] at e
    obtain ⟨rfl, rfl⟩ := e
    exact hc k hk

set_option maxRecDepth 100000 in
set_option maxHeartbeats 8000000 in
theorem forgets_law (x : Int) (hb : Bytes w a len cap l) :
    Calls Try.prog 5 #[.int .i64 x, .slice a len cap] w fun e w' => e = .returned (.bool true) ∧ Below w.heap.size w w' := by
  have hcl : len ≤ 9223372036854775807 := Nat.le_trans hb.le_cap hb.cap_le
  by_cases h : 300 < len
  · exact forgets_big x h hcl
  obtain rfl := hb.len_eq
  have h300 : ¬ (300 : Int) < (l.length : Int) := by omega
  have HBY := Lib.hid hb
  obtain ⟨N, hN1, hN2, hx, hx2⟩ := size_of x 64 (by omega)
  have hx : (IntKind.u64.wrap x).tmod 64 = ((N - 1 : Nat) : Int) := hx
  clear hb h
  go_enter Try.func5, Try.ntmps5
  go_wp2_with fail
  refine (new_k N w (by omega) (by omega)).mono ?_
  rintro e w1 ⟨rfl, H1⟩
  go_wp2_with fail
  generalize hg : w.heap.size = g at *
  have HG := Lib.hid hg
  clear hg
  go_loopw [8] (fun i wr => ∃ (k : Nat) (r : Option Nat), k ≤ l.length ∧ i = .int .i64 (k : Int) ∧ Hid (Kept w wr g N r (l.take k))) (fun i _ => l.length - (intOf i).toNat)
  case atStart => exact ⟨0, none, Nat.zero_le _, rfl, H1⟩
  case round =>
    clear H1
    obtain ⟨k, r, hk, rfl, HK⟩ := hrel
    by_cases hlt : k < l.length
    · obtain ⟨b, off, rfl⟩ := HBY.out.some_ (by omega)
      have hcb := byte_at (HBY.out.below (Nat.le_refl _) HK.out.below) k hlt
      have HM := Lib.hid (take_more l k hlt)
      generalize l[k] = c at hcb HM
      obtain ⟨M, hM⟩ : ∃ M, M = min (k + 1) N := ⟨_, rfl⟩
      have hmin : (if (N : Int) < (k : Int) + 1 then (N : Int) else (k : Int) + 1) = (M : Int) := by split <;> omega
      have HMM : Hid (M = min (l.take (k + 1)).length N) := Lib.hid (by rw [List.length_take, hM]; omega)
      have hM1 : 1 ≤ M := by omega
      have hM2 : M ≤ 64 := by omega
      clear hM
      have HMIN := Lib.hid hmin
      clear hmin
      go_wp2_with fail
      refine (put_k c w wr g N r _ HK (by rw [List.length_take]; omega)).mono ?_
      rw [HM.out]
      rintro e w2 ⟨rfl, r2, HK2, -⟩
      clear HK hcb
      have hmin := HMIN.out
      clear HMIN
      go_upto_region 12 with (fail)
      clear hmin
      go_wp2_with fail
      refine (copy_form ((M : Int) + 1) 0 _ g N r2 _ w2 HK2.out.wn (by omega) (by omega) (by right; rw [← HMM.out]; omega)).mono ?_
      rintro e w' ⟨rfl, rfl⟩
      go_wp2_with fail
      refine (copy_k M 0 w _ g N r2 _ HK2 (by omega) hM1 (by rw [← HMM.out]; omega) (by rw [List.length_take]; omega)).mono ?_
      rintro e w3 ⟨cb, r3, rfl, HO, HK3, -⟩
      rw [grow_zero] at HK3
      go_wp2_with fail
      go_roundw
      case rel => exact ⟨k + 1, r3, hlt, by go_num, HK3⟩
      case measure => simp [intOf]; omega
    · obtain rfl : k = l.length := by omega
      rw [List.take_length] at HK
      by_cases h0 : l.length = 0
      · have hz : ((l.length : Int) == 0) = true := by rw [h0]; rfl
        go_wp2_with fail
        refine (told_any wr).mono ?_
        rintro e w4 ⟨rfl, hb⟩
        have HK4 := Lib.hid (HK.out.later hb)
        clear hb
        go_wp2_with fail
        go_ret
        exact ⟨rfl, HK4.out.below⟩
      · have hz : ((l.length : Int) == 0) = false := beq_eq_false_iff_ne.2 (by omega)
        obtain ⟨M, hM⟩ : ∃ M, M = min l.length N := ⟨_, rfl⟩
        have hmin : (if N < l.length then (N : Int) else (l.length : Int)) = (M : Int) := by split <;> omega
        have HMM := Lib.hid hM
        have hM1 : 1 ≤ M := by omega
        have hM2 : M ≤ l.length := by omega
        clear hM
        go_upto_region 19 with (fail)
        clear hmin
        go_wp2_with fail
        refine (copy_k M 1 w _ g N r _ HK (by omega) hM1 (by rw [← HMM.out]; exact Nat.le_refl _) (by omega)).mono ?_
        rintro e w3 ⟨cb, r3, rfl, HO, HK3, -⟩
        obtain ⟨b, off, rfl⟩ := HBY.out.some_ (by omega)
        have hge := copy_get l M 1 hM1 hM2 0 (by omega)
        rw [Nat.zero_mod, Nat.add_zero] at hge
        have hbi : l.length - M < l.length := by omega
        have hcl : 0 < (copy l M 1).length := by rw [copy_len]; omega
        rw [List.getElem?_eq_getElem hcl, List.getElem?_eq_getElem hbi] at hge
        injection hge with hge
        have hc1 : ∀ p : Later w3, p.at'.cell? ⟨cb, 0, none⟩ = some (.int .u8 (l[l.length - M].toNat : Int)) := fun p => by
          have := own_cell (HO.out.below (Nat.le_refl _) p.kept) (copy_len l M 1) 0 hcl
          rw [hge] at this
          exact this
        have hc2 : ∀ p : Later w3, p.at'.cell? ⟨b, off + (l.length - M), none⟩ = some (.int .u8 (l[l.length - M].toNat : Int)) := fun p =>
          byte_at (HBY.out.below (Nat.le_refl _) (HK3.out.later p.kept).below) _ hbi
        generalize l[l.length - M] = c at hc1 hc2
        clear hge hcl
        go_upto_region 20 with (fail)
        refine wp_region_later (by kernel_rfl) (by kernel_rfl) ?_
        repeat (go_big_quiet_step (first | (go_at_call 8; refine later_of (v := .bool true) (told_any _))))
        refine wpQuiet_nil ?_
        rintro _ ⟨p, rfl⟩
        have HK4 := Lib.hid (HK3.out.later p.kept)
        generalize p.at' = w4 at *
        go_wp2_with fail
        go_ret
        exact ⟨rfl, HK4.out.below⟩
end
end Go.Proofs.Ytdegclfgmjcdfaa.WinC
