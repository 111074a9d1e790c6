import Derived.Test.YthjlemglfgamnaaDoorNumG
import Derived.Test.YthjlemglfgamnaaDoorNumM
namespace Go.Proofs.YthjlemglfgamnaaDoor.NumC
open Go.RowKit Go.My NumMath

def fieldS (v n : Nat) : ByteArray := if v < 8 ^ (n - 1) then ⟨(fix ch 8 (n - 1) v ++ [0]).toArray⟩ else markS v n
def fieldE (v n : Nat) : Nat := if v < 8 ^ (n - 1) then 0 else markE v n

set_option maxRecDepth 100000 in
theorem putoctal_arg (v n : Int) (w : World) (h : n < 2 ∨ 32 < n) :
    Calls Tryd.prog 16 #[.int .i64 v, .int .i64 n] w fun e w' => e = .returned (.tuple #[.string ⟨#[]⟩, .int .i64 1]) ∧ w = w' := by
  by_cases h1 : n < 2
  · go_enter Tryd.func16, Tryd.ntmps16
    go_wp2_with fail
    go_ret2
    exact ⟨rfl, rfl⟩
  · have h8 : decide (n > 32) = true := by simp; omega
    go_enter Tryd.func16, Tryd.ntmps16
    go_wp2_with fail
    go_ret2
    exact ⟨rfl, rfl⟩
set_option maxRecDepth 100000 in
theorem putoctal_range (v n : Int) (w : World) (h1 : 2 ≤ n) (h2 : n ≤ 32) (h : v < 0 ∨ 4611686018427387904 < v) :
    Calls Tryd.prog 16 #[.int .i64 v, .int .i64 n] w fun e w' => e = .returned (.tuple #[.string ⟨#[]⟩, .int .i64 7]) ∧ w = w' := by
  have d1 : decide (n < 2) = false := by simp; omega
  have d8 : decide (n > 32) = false := by simp; omega
  by_cases h3 : v < 0
  · go_enter Tryd.func16, Tryd.ntmps16
    go_wp2_with fail
    go_ret2
    exact ⟨rfl, rfl⟩
  · have e1 : decide (v < 0) = false := by simp; omega
    have e2 : decide (v > 4611686018427387904) = true := by simp; omega
    go_enter Tryd.func16, Tryd.ntmps16
    go_wp2_with fail
    go_ret2
    exact ⟨rfl, rfl⟩
set_option maxRecDepth 100000 in
theorem putoctal_any (v n : Nat) (w : World) (hT : Tab w) (h1 : 2 ≤ n) (h2 : n ≤ 32) (hv : v ≤ 4611686018427387904) :
    Calls Tryd.prog 16 #[.int .i64 (v : Int), .int .i64 (n : Int)] w fun e w' => e = .returned (.tuple #[.string (fieldS v n), .int .i64 ((fieldE v n : Nat) : Int)]) ∧ Below w.heap.size w w' := by
  have HT := Lib.hid hT
  clear hT
  have d1 : decide ((n : Int) < 2) = false := by simp; omega
  have d8 : decide ((n : Int) > 32) = false := by simp; omega
  have e1 : decide ((v : Int) < 0) = false := by simp
  have e2 : decide ((v : Int) > 4611686018427387904) = false := by simp; omega
  have ec : ((n - 1 : Nat) : Int) = (n : Int) - 1 := by omega
  by_cases hf : v < 8 ^ (n - 1)
  · have c := padded_fits 8 v (n - 1) w (.inl rfl) (by omega) HT.out (by omega) (by omega) hf
    rw [ec] at c
    have HS : Hid (fieldS v n = ⟨(fix ch 8 (n - 1) v ++ [0]).toArray⟩) := Lib.hid (if_pos hf)
    have HE : Hid (fieldE v n = 0) := Lib.hid (if_pos hf)
    have hA : (⟨(fix ch 8 (n - 1) v).toArray⟩ : ByteArray) ++ ⟨#[0]⟩ = ⟨(fix ch 8 (n - 1) v ++ [0]).toArray⟩ := ba_append _ [0]
    have HA := Lib.hid hA
    have hsz : (⟨(fix ch 8 (n - 1) v).toArray⟩ : ByteArray).size = n - 1 := by rw [Lib.size_eq]; exact fix_len _ _ _ _
    clear hf hA ec
    generalize (⟨(fix ch 8 (n - 1) v).toArray⟩ : ByteArray) = r at *
    have hlt : (r.size : Int) < (n : Int) := by omega
    have hrs : r.size ≤ 1000 := by omega
    clear hsz
    go_enter Tryd.func16, Tryd.ntmps16
    go_wp2_with fail
    refine c.mono ?_
    rintro e w1 ⟨rfl, hb⟩
    clear c
    go_wp2_with fail
    go_ret2
    exact ⟨ret_se (by rw [HS.out]; exact HA.out) (by rw [HE.out]; rfl), hb⟩
  · have c := padded_long 8 v (n - 1) w (.inl rfl) (by omega) HT.out (by omega) (by omega) (by omega)
    rw [ec] at c
    have HS : Hid (fieldS v n = markS v n) := Lib.hid (if_neg hf)
    have HE : Hid (fieldE v n = markE v n) := Lib.hid (if_neg hf)
    clear hf ec
    go_enter Tryd.func16, Tryd.ntmps16
    go_wp2_with fail
    refine c.mono ?_
    rintro e w1 ⟨⟨r, hr1, hr2, rfl⟩, hb⟩
    clear c
    have hge : ¬ (r.size : Int) < (n : Int) := by omega
    go_wp2_with fail
    refine (marked_any v n w1 (by omega) h1 h2).mono ?_
    rintro e w2 ⟨rfl, hb2⟩
    generalize markS v n = ms at *
    generalize markE v n = me at *
    go_wp2_with fail
    go_ret2
    exact ⟨ret_se HS.out.symm (by rw [HE.out]), hb.trans (hb2.mono hb.size)⟩

set_option maxRecDepth 100000 in
theorem puthex_range (v : Int) (w : World) (h : v < 0 ∨ 4294967295 < v) :
    Calls Tryd.prog 20 #[.int .i64 v] w fun e w' => e = .returned (.tuple #[.string ⟨#[]⟩, .int .i64 7]) ∧ w = w' := by
  by_cases h3 : v < 0
  · go_enter Tryd.func20, Tryd.ntmps20
    go_wp2_with fail
    go_ret2
    exact ⟨rfl, rfl⟩
  · have e1 : decide (v < 0) = false := by simp; omega
    have e2 : decide (v > 4294967295) = true := by simp; omega
    go_enter Tryd.func20, Tryd.ntmps20
    go_wp2_with fail
    go_ret2
    exact ⟨rfl, rfl⟩
set_option maxRecDepth 100000 in
theorem puthex_any (v : Nat) (w : World) (hT : Tab w) (hv : v ≤ 4294967295) :
    Calls Tryd.prog 20 #[.int .i64 (v : Int)] w fun e w' => e = .returned (.tuple #[.string ⟨(fix ch 16 8 v).toArray⟩, .int .i64 0]) ∧ Below w.heap.size w w' := by
  have c := padded_fits 16 v 8 w (.inr rfl) (by omega) hT (by omega) (by omega) (by omega)
  have HT := Lib.hid hT
  clear hT
  have e1 : decide ((v : Int) < 0) = false := by simp
  have e2 : decide ((v : Int) > 4294967295) = false := by simp; omega
  generalize (⟨(fix ch 16 8 v).toArray⟩ : ByteArray) = r at *
  go_enter Tryd.func20, Tryd.ntmps20
  go_wp2_with fail
  refine c.mono ?_
  rintro e w1 ⟨rfl, hb⟩
  clear c
  go_wp2_with fail
  go_ret2
  exact ⟨rfl, hb⟩
end Go.Proofs.YthjlemglfgamnaaDoor.NumC
