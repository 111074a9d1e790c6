import Derived.Test.YtbjjkhlebdaoaaaDoorMgBv
import Derived.Test.YtbjjkhlebdaoaaaDoorMgA

section
/-
  Package deflate: started, Most; the document's Most.
-/
namespace Go.Proofs.YtbjjkhlebdaoaaaDoor.DfC
open Go.RowKit Go.My BlkC

/-- How many groups of so many begin. -/
def grp (z s : Int) : Int := if z < 0 then 0 else (z + s - 1) / s
set_option maxRecDepth 100000 in
set_option maxHeartbeats 1000000 in
theorem started_any (z s : Int) (w : World) (h1 : 1 ≤ s) (hs : s ≤ 1000000) (hz : -9223372036854775808 ≤ z) (hz2 : z ≤ 9000000000000000000) :
    Calls Tryd.prog 18 #[.int .i64 z, .int .i64 s] w fun e w' => e = .returned (.int .i64 (grp z s)) ∧ w = w' := by
  by_cases h : z < 0
  · have hd : decide (z < 0) = true := decide_eq_true h
    have HG : Hid (grp z s = 0) := Lib.hid (by unfold grp; rw [if_pos h])
    clear hz hz2 h
    go_enter Tryd.func18, Tryd.ntmps18
    go_wp2_with fail
    go_ret
    exact ⟨by rw [HG.out]; rfl, rfl⟩
  · have hd : decide (z < 0) = false := decide_eq_false h
    obtain ⟨q, hq⟩ : ∃ q, q = (z + s - 1) / s := ⟨_, rfl⟩
    have HG : Hid (grp z s = q) := Lib.hid (by unfold grp; rw [if_neg h, hq])
    obtain ⟨y, hy⟩ : ∃ y, y = z + s - 1 := ⟨_, rfl⟩
    have e1 : IntKind.i64.wrap (z + s) = z + s := IntWalk.i64_in _ (by omega)
    have e2 : IntKind.i64.wrap (z + s - 1) = y := by rw [hy]; exact IntWalk.i64_in _ (by omega)
    have e3 : y.tdiv s = q := by rw [hq, ← hy]; exact Int.tdiv_eq_ediv_of_nonneg (by omega)
    have hqb : 0 ≤ q ∧ q ≤ 9000000000000999999 := by
      have h2 : y / s ≤ y := Int.ediv_le_self _ (by omega)
      have h3 : 0 ≤ y / s := Int.ediv_nonneg (by omega) (by omega)
      rw [hq, ← hy]; omega
    have hs0 : (s == 0) = false := by simp; omega
    have hsm : (s == -1) = false := by simp; omega
    clear hq hy h hz hz2
    go_enter Tryd.func18, Tryd.ntmps18
    go_wp2_with fail
    go_ret
    exact ⟨by rw [HG.out]; rfl, rfl⟩
theorem grp_le (z : Int) (h : z ≤ 1073741824) : 0 ≤ grp z 16384 ∧ grp z 16384 ≤ 65536 := by unfold grp; split <;> omega
theorem sto_le (z : Int) : stoZ z ≤ 1073741824 + 5 * 20000 := by unfold stoZ sto; split <;> omega
/-- No more than MaxBytes. -/
def cut (z : Int) : Int := if 1073741824 < z then 1073741824 else z
theorem cut_le (z : Int) : cut z ≤ 1073741824 ∧ (z ≤ 1073741824 → cut z = z) := by unfold cut; split <;> omega
/-- How many bytes at most. -/
def mostZ (z : Int) : Int := (stoZ (cut z) : Int) + 8 * grp (cut z) 16384
set_option maxRecDepth 100000 in
set_option maxHeartbeats 1000000 in
theorem most_any (z : Int) (w : World) (hz : -9223372036854775808 ≤ z ∧ z ≤ 9223372036854775807) :
    Calls Tryd.prog 10 #[.int .i64 z] w fun e w' => e = .returned (.int .i64 (mostZ z)) ∧ w = w' := by
  obtain ⟨c, hc⟩ : ∃ c, c = cut z := ⟨_, rfl⟩
  have hcut : (if (1073741824 : Int) < z then (1073741824 : Int) else z) = c := by rw [hc]; rfl
  have hcb : -9223372036854775808 ≤ c ∧ c ≤ 1073741824 := by rw [← hcut]; split <;> omega
  have HS := Lib.hid (stored_any c w ⟨hcb.1, by omega⟩)
  have HG := Lib.hid (started_any c 16384 w (by omega) (by omega) hcb.1 (by omega))
  have hgb := grp_le c hcb.2
  have hsb := sto_le c
  have HZ : Hid (mostZ z = (stoZ c : Int) + 8 * grp c 16384) := Lib.hid (by unfold mostZ; rw [← hc])
  generalize stoZ c = A at *
  generalize grp c 16384 = G at *
  have e1 : wrap64 (8 * G) = 8 * G := IntWalk.wrap64_in _ (by omega)
  have e2 : wrap64 ((A : Int) + 8 * G) = (A : Int) + 8 * G := IntWalk.wrap64_in _ (by omega)
  clear hc hcb hgb hsb hz
  go_enter Tryd.func10, Tryd.ntmps10
  go_upto_region 2 with (fail)
  try simp only [hcut]
  clear hcut
  go_wp2_with fail
  refine HS.out.mono ?_
  rintro e w1 ⟨rfl, rfl⟩
  go_wp2_with fail
  refine HG.out.mono ?_
  rintro e w1 ⟨rfl, rfl⟩
  go_wp2_with fail
  go_ret
  exact ⟨by rw [HZ.out]; exact ret_int (by first | rfl | rw [e2]), rfl⟩
set_option maxRecDepth 100000 in
set_option maxHeartbeats 1000000 in
theorem rmost_any (z : Int) (w : World) (hz : -9223372036854775808 ≤ z ∧ z ≤ 9223372036854775807) :
    Calls Tryd.prog 11 #[.int .i64 z] w fun e w' => e = .returned (.int .i64 (mostZ z)) ∧ w = w' := by
  by_cases h : z < 0
  · have hd : decide (z < 0) = true := decide_eq_true h
    have HZ : Hid (mostZ z = 0) := Lib.hid (by
      have e : cut z = z := (cut_le z).2 (by omega)
      unfold mostZ grp stoZ
      rw [e, if_pos h, if_pos h]; rfl)
    clear h hz
    go_enter Tryd.func11, Tryd.ntmps11
    go_wp2_with fail
    go_ret
    exact ⟨by rw [HZ.out]; rfl, rfl⟩
  · have hd : decide (z < 0) = false := decide_eq_false h
    obtain ⟨c, hc⟩ : ∃ c, c = cut z := ⟨_, rfl⟩
    have hcut : (if (1073741824 : Int) < z then (1073741824 : Int) else z) = c := by rw [hc]; rfl
    have hcb : 0 ≤ c ∧ c ≤ 1073741824 := by rw [← hcut]; split <;> omega
    have HS := Lib.hid (rstored_num c w ⟨by omega, by omega⟩)
    have hsb := sto_le c
    obtain ⟨G, hG⟩ : ∃ G, G = (c + 16383) / 16384 := ⟨_, rfl⟩
    have hgb : 0 ≤ G ∧ G ≤ 65536 := by omega
    have HZ : Hid (mostZ z = (stoZ c : Int) + 8 * G) := Lib.hid (by
      unfold mostZ grp
      rw [← hc, if_neg (by omega), hG, show c + 16384 - 1 = c + 16383 by omega])
    generalize stoZ c = A at *
    have e0 : (c + 16383) / 16384 = G := hG.symm
    have e1 : wrap64 (8 * G) = 8 * G := IntWalk.wrap64_in _ (by omega)
    have e2 : wrap64 ((A : Int) + 8 * G) = (A : Int) + 8 * G := IntWalk.wrap64_in _ (by omega)
    have HE := Lib.hid (And.intro e0 (And.intro e1 e2))
    clear hc hgb hsb hz h hG e0 e1 e2
    go_enter Tryd.func11, Tryd.ntmps11
    go_upto_region 4 with (fail)
    try simp only [hcut]
    clear hcut
    have e0 := HE.out.1
    have e1 := HE.out.2.1
    have e2 := HE.out.2.2
    go_wp2_with fail
    refine HS.out.mono ?_
    rintro e w1 ⟨rfl, rfl⟩
    go_wp2_with fail
    go_ret
    exact ⟨by rw [HZ.out]; exact ret_int (by first | rfl | simp only [e2]), rfl⟩
end Go.Proofs.YtbjjkhlebdaoaaaDoor.DfC
end
