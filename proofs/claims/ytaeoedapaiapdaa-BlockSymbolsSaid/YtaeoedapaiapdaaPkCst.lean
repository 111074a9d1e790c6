/-
  pack.Cost, the document's Cost.
-/
import Derived.Test.YtaeoedapaiapdaaRows
import Derived.Test.YtaeoedapaiapdaaRow
import Derived.Test.YtaeoedapaiapdaaPkMath
import Derived.Test.YtaeoedapaiapdaaPkL0
import Derived.Laws.Pointers
import Derived.Deep.QuietTactic
import Derived.BigQuiet
import Derived.Deep.DeepCutAuto
namespace Go.Proofs.Ytaeoedapaiapdaa.PkC
open Go.RowKit Go.My PackMath

/-- The cost of the first k. -/
def prd (A B : List Nat) (k : Nat) : Nat := sm k fun j => A.getD j 0 * B.getD j 0
theorem prd_succ (A B : List Nat) (k : Nat) : prd A B (k + 1) = prd A B k + A.getD k 0 * B.getD k 0 := rfl
def Modest (A B : List Nat) : Prop := A.length ≤ 1000 ∧ B.length ≤ 1000 ∧ (∀ j, A.getD j 0 ≤ 1073741824) ∧ ∀ j, B.getD j 0 ≤ 1048576
theorem prd_le {A B : List Nat} (h : Modest A B) (k : Nat) : prd A B k ≤ k * 1125899906842624 := by
  induction k with
  | zero => simp [prd, sm]
  | succ k ih =>
    rw [prd_succ, Nat.succ_mul]
    have := Nat.mul_le_mul (h.2.2.1 k) (h.2.2.2 k)
    omega
theorem lv_cell {w : World} {b off len cap : Nat} {A : List Nat} (h : RowIn w (some ⟨b, off, none⟩) len cap (lv A)) (i : Nat) (hi : i < A.length) : w.cell? ⟨b, off + i, none⟩ = some (.int .i64 ((A.getD i 0 : Nat) : Int)) := by
  rw [h.get i (by simpa [lv] using hi)]
  simp [lv, List.getD_eq_getElem?_getD, hi]
theorem lv_size {w : World} {a : Option Addr} {len cap : Nat} {A : List Nat} (h : RowIn w a len cap (lv A)) : A.length = len := by rw [← h.len_eq]; simp [lv]
theorem drewN_cell (w : World) (q : Nat) (p : Addr) : (w.drewN q).cell? p = w.cell? p := rfl

section
variable {A B : List Nat} {a b : Option Addr} {la ca lb cb : Nat} {w : World}
set_option maxRecDepth 100000 in
set_option maxHeartbeats 4000000 in
theorem cost_any (hA : RowIn w a la ca (lv A)) (hB : RowIn w b lb cb (lv B)) (hM : Modest A B) :
    Calls Try.prog 37 #[.slice a la ca, .slice b lb cb] w fun e w' => e = .returned (.int .i64 ((prd A B (min la lb) : Nat) : Int)) ∧ ∃ q, w' = w.drewN q := by
  have h1 := lv_size hA
  have h2 := lv_size hB
  obtain ⟨m, hm⟩ : ∃ m, m = min la lb := ⟨_, rfl⟩
  have hml : m ≤ la ∧ m ≤ lb ∧ m ≤ 1000 := by have := hM.1; omega
  have HA := Lib.hid hA
  have HB := Lib.hid hB
  have HMM := Lib.hid hM
  have H1 := Lib.hid h1
  have H2 := Lib.hid h2
  have HML := Lib.hid hml
  have HMI := Lib.hid hm
  have hm1000 : m ≤ 1000 := hml.2.2
  rw [← hm]
  clear hA hB hM h1 h2 hml hm
  go_enter Try.func37, Try.ntmps37
  go_upto_region 2 with (fail)
  go_cut [11, 12] (fun s t wc => s = .int .i64 (m : Int) ∧ t = .int .i64 0 ∧ w = wc)
  case first =>
    by_cases h : la < lb
    · have hi : (la : Int) < (lb : Int) := by omega
      obtain rfl : m = la := by have := HMI.out; omega
      go_wp2_with fail
      all_goals (first | (exfalso; omega) | (go_meet; case rel => exact ⟨rfl, rfl, rfl⟩))
    · have hi : ¬ (la : Int) < (lb : Int) := by omega
      obtain rfl : m = lb := by have := HMI.out; omega
      go_wp2_with fail
      all_goals (first | (exfalso; omega) | (go_meet; case rel => exact ⟨by (congr 1; omega), rfl, rfl⟩) | (go_meet; case rel => exact ⟨rfl, rfl, rfl⟩))
  obtain ⟨rfl, rfl, rfl⟩ := hcut
  go_wp2_with fail
  go_loopw [12, 5, 6] (fun s s5 _ wr => ∃ i q : Nat, s = .int .i64 (i : Int) ∧ s5 = .int .i64 ((prd A B i : Nat) : Int) ∧ i ≤ m ∧ Hid (wr = w.drewN q)) (fun s _ _ _ => m - (intOf s).toNat)
  case atStart => exact ⟨0, 0, rfl, rfl, Nat.zero_le _, Lib.hid rfl⟩
  case round =>
    obtain ⟨i, q, rfl, rfl, hi, HW⟩ := hrel
    by_cases hlt : i < m
    · have hlti : (i : Int) < (m : Int) := by omega
      have hm := HML.out
      obtain ⟨ab, ao, rfl⟩ := HA.out.some_ (by omega)
      obtain ⟨bb, bo, rfl⟩ := HB.out.some_ (by omega)
      have c1 : wr.cell? ⟨ab, ao + i, none⟩ = some (.int .i64 ((A.getD i 0 : Nat) : Int)) := by rw [HW.out, drewN_cell]; exact lv_cell HA.out i (by rw [H1.out]; omega)
      have c2 : wr.cell? ⟨bb, bo + i, none⟩ = some (.int .i64 ((B.getD i 0 : Nat) : Int)) := by rw [HW.out, drewN_cell]; exact lv_cell HB.out i (by rw [H2.out]; omega)
      have b1 : (i : Int) < (la : Int) := by omega
      have b2 : (i : Int) < (lb : Int) := by omega
      have HP : Hid (prd A B (i + 1) = prd A B i + A.getD i 0 * B.getD i 0) := Lib.hid (prd_succ A B i)
      have q1 := prd_le HMM.out (i + 1)
      have q2 : (i + 1) * 1125899906842624 ≤ 1000 * 1125899906842624 := Nat.mul_le_mul_right _ (by omega)
      rw [prd_succ] at q1
      obtain ⟨z, hz⟩ : ∃ z, z = A.getD i 0 * B.getD i 0 := ⟨_, rfl⟩
      obtain ⟨p, hp⟩ : ∃ p, p = prd A B i := ⟨_, rfl⟩
      rw [← hz, ← hp] at q1 HP
      have e3 : IntKind.i64.wrap (((A.getD i 0 : Nat) : Int) * ((B.getD i 0 : Nat) : Int)) = (z : Int) := by
        have : ((A.getD i 0 : Nat) : Int) * ((B.getD i 0 : Nat) : Int) = (z : Int) := by rw [hz]; push_cast; rfl
        rw [this, IntKind.wrap_i64]; omega
      have e4 : IntKind.i64.wrap ((p : Int) + (z : Int)) = ((p + z : Nat) : Int) := by rw [IntKind.wrap_i64]; omega
      rw [← hp]
      generalize A.getD i 0 = x at *
      generalize B.getD i 0 = y at *
      clear hz hp hm q1 q2
      obtain ⟨pz, hpz⟩ : ∃ pz, pz = p + z := ⟨_, rfl⟩
      rw [← hpz] at e4 HP
      clear hpz
      go_wp2_with fail
      go_quiet (fail)
      have HW2 : Hid (wr.drewN nq = w.drewN (q + nq)) := Lib.hid (by rw [HW.out, World.drewN_drewN])
      clear HW c1 c2
      generalize wr.drewN nq = w2 at *
      go_wp2_with fail
      go_roundw
      case measure => simp [intOf]; omega
      case rel => exact ⟨i + 1, q + nq, by simp, by rw [HP.out], by omega, HW2⟩
    · obtain rfl : i = m := by omega
      go_wp2_with fail
      go_ret
      exact ⟨rfl, q, HW.out⟩
end
end Go.Proofs.Ytaeoedapaiapdaa.PkC
