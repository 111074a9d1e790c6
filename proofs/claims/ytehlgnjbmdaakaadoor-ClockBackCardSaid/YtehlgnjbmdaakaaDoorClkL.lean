import Derived.Test.YtehlgnjbmdaakaaDoorClkK1
import Derived.Test.YtehlgnjbmdaakaaDoorClkK2
namespace Go.Proofs.YtehlgnjbmdaakaaDoor.ClkC
open Go.RowKit Go.My Flt NumMath Txt Clk

theorem back_law (y m d h mi se s : Int) (w : World) (hP : Pow w) :
    Calls Tryd.prog 4 #[dateV y m d h mi se, .int .i64 s] w fun e w' => e = .returned (.bool true) ∧ Below w.heap.size w w' := by
  have HPW := Lib.hid hP
  have hS := seconds_any y m d h mi se
  have HV : Hid (secB y m d h mi se = true → dateF (secV y m d h mi se) = dateV y m d h mi se) := Lib.hid (fun hb => by
    have hv : ValidT y m d h mi se := of_decide_eq_true hb
    rw [show secV y m d h mi se = _ from if_pos hv]
    exact valid_date hv)
  generalize secV y m d h mi se = V at *
  generalize secB y m d h mi se = B at *
  have HS := Lib.hid hS
  by_cases hs : s < -1099511627776 ∨ 1099511627776 ≤ s
  · exact back_out B y m d h mi se V s w HPW HS HV hs
  have h1 : -1099511627776 ≤ s := by omega
  have h2 : s < 1099511627776 := by omega
  obtain ⟨Y, M, D, H, I, S, Y', M', D', H', I', S', N, N', hF, hF', hN, hN', n1, n2, g1, g2, g3, g4, g5, g6, hsum, hne, hc, m1, m2, d1, d2⟩ := back_facts s h1 h2
  have HF := Lib.hid hF
  have HF' := Lib.hid hF'
  have HN := Lib.hid hN
  have HN' := Lib.hid hN'
  rcases hc with ⟨rfl, rfl, rfl, rfl⟩ | ⟨hc, rfl⟩
  · have hq : (N * 86400 + 82800 + 3540 + 59 != s) = false := by simp; omega
    cases B
    · exact back_in3f y m d h mi se V s w HPW HS h1 h2 Y M D Y' M' D' H' I' S' N HF HF' HN HN' n1 n2 hq (decide_eq_false hne) m1 m2 d1 d2
    · exact back_in3t y m d h mi se V s w HPW HS (Lib.hid (HV.out rfl)) h1 h2 Y M D Y' M' D' H' I' S' N HF HF' HN HN' n1 n2 hq (decide_eq_false hne) m1 m2 d1 d2
  by_cases hH : H = 23
  · subst hH
    by_cases hI : I = 59
    · subst hI
      have hS9 : (S == 59) = false := by simp; omega
      have hq : (N' * 86400 + 82800 + 3540 + S != s) = false := by simp; omega
      cases B
      · exact back_in2f y m d h mi se V s w HPW HS h1 h2 Y M D S Y' M' D' H' I' S' N' HF HF' HN HN' n1 n2 g5 g6 hq (decide_eq_false hne) hS9 m1 m2 d1 d2
      · exact back_in2t y m d h mi se V s w HPW HS (Lib.hid (HV.out rfl)) h1 h2 Y M D S Y' M' D' H' I' S' N' HF HF' HN HN' n1 n2 g5 g6 hq (decide_eq_false hne) hS9 m1 m2 d1 d2
    · have hI9 : (I == 59) = false := by simp; omega
      have hq : (N' * 86400 + 82800 + I * 60 + S != s) = false := by simp; omega
      cases B
      · exact back_in1f y m d h mi se V s w HPW HS h1 h2 Y M D I S Y' M' D' H' I' S' N' HF HF' HN HN' n1 n2 g3 g4 g5 g6 hq (decide_eq_false hne) hI9 m1 m2 d1 d2
      · exact back_in1t y m d h mi se V s w HPW HS (Lib.hid (HV.out rfl)) h1 h2 Y M D I S Y' M' D' H' I' S' N' HF HF' HN HN' n1 n2 g3 g4 g5 g6 hq (decide_eq_false hne) hI9 m1 m2 d1 d2
  · have hH9 : (H == 23) = false := by simp; omega
    have hq : (N' * 86400 + H * 3600 + I * 60 + S != s) = false := by simp; omega
    cases B
    · exact back_in0f y m d h mi se V s w HPW HS h1 h2 Y M D H I S Y' M' D' H' I' S' N' HF HF' HN HN' n1 n2 g1 g2 g3 g4 g5 g6 hq (decide_eq_false hne) hH9 m1 m2 d1 d2
    · exact back_in0t y m d h mi se V s w HPW HS (Lib.hid (HV.out rfl)) h1 h2 Y M D H I S Y' M' D' H' I' S' N' HF HF' HN HN' n1 n2 g1 g2 g3 g4 g5 g6 hq (decide_eq_false hne) hH9 m1 m2 d1 d2
end Go.Proofs.YtehlgnjbmdaakaaDoor.ClkC
