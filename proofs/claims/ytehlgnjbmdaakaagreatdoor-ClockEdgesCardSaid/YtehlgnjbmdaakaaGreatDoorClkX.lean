import Derived.Test.YtehlgnjbmdaakaaGreatDoorClkG
import Derived.Test.YtehlgnjbmdaakaaGreatDoorClkS
namespace Go.Proofs.YtehlgnjbmdaakaaGreatDoor.ClkC
open Go.RowKit Go.My Flt Clk

def fy (v : Int) : Int := 1980 + v / 33554432
def fm (v : Int) : Int := v / 2097152 % 16
def fd (v : Int) : Int := v / 65536 % 32
def fh (v : Int) : Int := v / 2048 % 32
def fi (v : Int) : Int := v / 32 % 64
def fs (v : Int) : Int := v % 32 * 2
def okD (v : Int) : Bool := secB (fy v) (fm v) (fd v) (fh v) (fi v) (fs v)
def secD (v : Int) : Int := secV (fy v) (fm v) (fd v) (fh v) (fi v) (fs v)
def fromD (v : Int) : Nat := if v < 0 ∨ 4294967295 < v then nanW else if okD v then fl (512 * secD v) else nanW
theorem secD_small {v : Int} (h : okD v = true) : -80000000000 ≤ secD v ∧ secD v ≤ 300000000000 := by
  have hv : ValidT (fy v) (fm v) (fd v) (fh v) (fi v) (fs v) := of_decide_eq_true h
  unfold secD
  rw [show secV (fy v) (fm v) (fd v) (fh v) (fi v) (fs v) = _ from if_pos hv]
  obtain ⟨a1, a2, a3, a4, a5, a6, a7, a8, a9⟩ := hv
  have := days_small a1 a2 a3
  omega

set_option maxRecDepth 100000 in
theorem fromdos_any (v : Int) (w : World) :
    Calls Tryz.prog 14 #[.int .i64 v] w fun e w' => e = .returned (.float .f64 (fromD v)) ∧ Below w.heap.size w w' := by
  unfold fromD
  by_cases h1 : v < 0
  · rw [if_pos (.inl h1)]
    go_enter Tryz.func14, Tryz.ntmps14
    go_wp2_with fail
    refine (nan_any w).mono ?_
    rintro e w' ⟨rfl, rfl⟩
    go_wp2_with fail
    go_ret
    exact ⟨rfl, Below.refl _ _⟩
  by_cases h2 : 4294967295 < v
  · rw [if_pos (.inr h2)]
    go_enter Tryz.func14, Tryz.ntmps14
    go_wp2_with fail
    refine (nan_any w).mono ?_
    rintro e w' ⟨rfl, rfl⟩
    go_wp2_with fail
    go_ret
    exact ⟨rfl, Below.refl _ _⟩
  rw [if_neg (by omega)]
  have hS := fun w => seconds_any (fy v) (fm v) (fd v) (fh v) (fi v) (fs v) w
  have hsm := @secD_small v
  have hB : secB (fy v) (fm v) (fd v) (fh v) (fi v) (fs v) = okD v := rfl
  have hV : secV (fy v) (fm v) (fd v) (fh v) (fi v) (fs v) = secD v := rfl
  rw [hB, hV] at hS
  clear hB hV
  generalize secD v = V at *
  generalize okD v = B at *
  unfold dateV fy fm fd fh fi fs at hS
  have a1 := i64_and_mask (v / 2097152) 4 (by omega) 15 16 rfl rfl
  have a2 := i64_and_mask (v / 65536) 5 (by omega) 31 32 rfl rfl
  have a3 := i64_and_mask (v / 2048) 5 (by omega) 31 32 rfl rfl
  have a4 := i64_and_mask (v / 32) 6 (by omega) 63 64 rfl rfl
  have a5 := i64_and_mask v 5 (by omega) 31 32 rfl rfl
  have HS := Lib.hid hS
  clear hS
  cases B
  · clear hsm
    go_enter Tryz.func14, Tryz.ntmps14
    go_wp2_with fail
    refine (HS.out w).mono ?_
    rintro e w1 ⟨rfl, b1⟩
    go_wp2_with fail
    refine (nan_any w1).mono ?_
    rintro e w' ⟨rfl, rfl⟩
    go_wp2_with fail
    go_ret
    exact ⟨rfl, b1⟩
  · have HF : Hid (floatOfInt .f64 V = fl (512 * V)) := Lib.hid (floatOfInt_fl V (by have := hsm rfl; omega))
    clear hsm
    go_enter Tryz.func14, Tryz.ntmps14
    go_wp2_with fail
    refine (HS.out w).mono ?_
    rintro e w1 ⟨rfl, b1⟩
    go_wp2_with fail
    go_ret
    exact ⟨ret_float HF.out, b1⟩

/-! ### there and back -/
/-- The MS-DOS form of a time within its range, and its fields. -/
theorem dos_fields {n : Int} (h1 : 315532800 ≤ n) (h2 : n ≤ 4354819199) : 0 ≤ dosZ n ∧ dosZ n ≤ 4294967295 ∧ okD (dosZ n) = true ∧ secD (dosZ n) = n - n % 2 := by
  obtain ⟨k, r, Y, M, D, q1, q2, q3, q4, hn2, hs, hr3, hr4, hn3, hn4, hY1, hY2, hv, hd1, hd2, hd3⟩ := date_facts n (by omega) (by omega)
  have hYY : 1980 ≤ Y ∧ Y ≤ 2107 := by
    have a1 := d2_mono (y := Y + 1) (z := 1980)
    have a2 := d2_mono (y := 2108) (z := Y)
    have b1 : d2 1980 = 3652 := by decide
    have b2 : d2 2108 = 50403 := by decide
    omega
  have hm := (mlen_pos Y M).2
  have hdays : days Y M D = k := by unfold days; omega
  have hZ : dosZ n = ((Y - 1980) * 512 + M * 32 + D) * 65536 + (r / 3600 * 2048 + r / 60 % 60 * 32 + r % 60 / 2) := by unfold dosZ; rw [q1, q2, q3, q4]
  have hrn : r = 3600 * (r / 3600) + 60 * (r / 60 % 60) + r % 60 := by omega
  have hh : 0 ≤ r / 3600 ∧ r / 3600 ≤ 23 := by omega
  have hi : 0 ≤ r / 60 % 60 ∧ r / 60 % 60 ≤ 59 := by omega
  have hss : 0 ≤ r % 60 ∧ r % 60 ≤ 59 := by omega
  obtain ⟨v1, v2, v3, v4⟩ := hv
  generalize r / 3600 = H at *
  generalize r / 60 % 60 = I at *
  generalize r % 60 = S at *
  have g1 : dosZ n / 65536 = (Y - 1980) * 512 + M * 32 + D := by rw [hZ]; omega
  have g2 : dosZ n / 2097152 = (Y - 1980) * 16 + M := by rw [show dosZ n / 2097152 = dosZ n / 65536 / 32 by omega, g1]; omega
  have f1 : fy (dosZ n) = Y := by unfold fy; rw [show dosZ n / 33554432 = dosZ n / 2097152 / 16 by omega, g2]; omega
  have f2 : fm (dosZ n) = M := by unfold fm; rw [g2]; omega
  have f3 : fd (dosZ n) = D := by unfold fd; rw [g1]; omega
  clear g1 g2
  have f4 : fh (dosZ n) = H := by rw [hZ]; unfold fh; omega
  have f5 : fi (dosZ n) = I := by rw [hZ]; unfold fi; omega
  have f6 : fs (dosZ n) = S / 2 * 2 := by rw [hZ]; unfold fs; omega
  have hvt : ValidT Y M D H I (S / 2 * 2) := ⟨by omega, by omega, ⟨v1, v2, v3, v4⟩, by omega, by omega, by omega, by omega, by omega, by omega⟩
  refine ⟨by rw [hZ]; omega, by rw [hZ]; omega, ?_, ?_⟩
  · unfold okD
    rw [f1, f2, f3, f4, f5, f6]
    exact decide_eq_true hvt
  · unfold secD
    rw [f1, f2, f3, f4, f5, f6, show secV Y M D H I (S / 2 * 2) = _ from if_pos hvt, hdays]
    omega
theorem fromD_dos {n : Int} (h1 : 315532800 ≤ n) (h2 : n ≤ 4354819199) : fromD (dosZ n) = fl (512 * (n - n % 2)) := by
  obtain ⟨a, b, c, d⟩ := dos_fields h1 h2
  unfold fromD
  rw [if_neg (by omega), c, d]; rfl
theorem fromD_zero : fromD 0 = nanW := by decide +kernel
/-- What is a date and time of MS-DOS comes back. -/
theorem dos_back {v : Int} (h0 : 0 ≤ v) (h1 : v ≤ 4294967295) (h : okD v = true) : dosZ (secD v) = v ∧ 315532800 ≤ secD v ∧ secD v ≤ 4354819198 := by
  have hv : ValidT (fy v) (fm v) (fd v) (fh v) (fi v) (fs v) := of_decide_eq_true h
  have hV : secD v = days (fy v) (fm v) (fd v) * 86400 + fh v * 3600 + fi v * 60 + fs v := if_pos hv
  have hF := valid_date hv
  rw [← hV] at hF
  have hy : 1980 ≤ fy v ∧ fy v ≤ 2107 := by unfold fy; omega
  have hyr := year_of hv.2.2.1
  have a1 := d2_mono (show (1980 : Int) ≤ fy v by omega)
  have a2 := d2_mono (show fy v + 1 ≤ 2108 by omega)
  have b1 : d2 1980 = 3652 := by decide
  have b2 : d2 2108 = 50403 := by decide
  have hs2 : fs v % 2 = 0 := by unfold fs; omega
  obtain ⟨w1, w2, w3, w4, w5, w6, w7, w8, w9⟩ := hv
  have hr1 : 315532800 ≤ secD v := by omega
  have hr2 : secD v ≤ 4354819198 := by omega
  refine ⟨?_, hr1, hr2⟩
  unfold dateF at hF
  rw [if_neg (by omega)] at hF
  unfold dateOf at hF
  obtain ⟨e1, e2, e3, e4, e5, e6⟩ := dateV_inj hF
  unfold dosZ
  rw [e1, e2, e3, e4, e5, e6]
  unfold fy fm fd fh fi fs
  omega
end Go.Proofs.YtehlgnjbmdaakaaGreatDoor.ClkC
