/-
  Symbol, Reach; Stored.
-/
import Derived.Test.YtaeoedapaiapdaaBkA
namespace Go.Proofs.Ytaeoedapaiapdaa.BlkC
open Go.RowKit Go.My BitMath
open LzMath (Tok May Mat Lone ml md)
open LzC (may_any)
open InfMath (Pc gx grp lp dp)

/-- What Symbol, Reach answer. -/
def ans3 (p : Pc) : Value := .tuple #[.int .i64 (p.s : Int), .int .i64 (p.x : Int), .int .i64 (p.v : Int)]
def no3 : Value := .tuple #[.int .i64 (-1), .int .i64 0, .int .i64 0]
def symV (z : Int) (wide : Bool) : Value := if 3 ≤ z ∧ z ≤ ml wide then ans3 (lp z.toNat wide) else no3
def reachV (z : Int) (wide : Bool) : Value := if 1 ≤ z ∧ z ≤ md wide then ans3 (dp z.toNat) else no3
theorem may_len (z : Int) (wide : Bool) : decide (May wide ⟨z, 1, 0⟩) = decide (3 ≤ z ∧ z ≤ ml wide) := by
  apply decide_eq_decide.2
  have h1 : (1 : Int) ≤ md wide := by unfold md; split <;> omega
  constructor
  · rintro (⟨-, h⟩ | ⟨-, h2, h3, -⟩)
    · simp at h
    · exact ⟨h2, h3⟩
  · rintro ⟨h2, h3⟩
    exact .inr ⟨rfl, h2, h3, by simp, by simpa using h1⟩
theorem may_dist (z : Int) (wide : Bool) : decide (May wide ⟨3, z, 0⟩) = decide (1 ≤ z ∧ z ≤ md wide) := by
  apply decide_eq_decide.2
  have h1 : (3 : Int) ≤ ml wide := by unfold ml; split <;> omega
  constructor
  · rintro (⟨h, -⟩ | ⟨-, -, -, h2, h3⟩)
    · simp at h
    · exact ⟨h2, h3⟩
  · rintro ⟨h2, h3⟩
    exact .inr ⟨rfl, by simp, h1, h2, h3⟩
set_option maxRecDepth 100000 in
set_option maxHeartbeats 4000000 in
theorem symbol_any (z : Int) (wide : Bool) (w : World) :
    Calls Try.prog 7 #[.int .i64 z, .bool wide] w fun e w' => e = .returned (symV z wide) ∧ Below w.heap.size w w' := by
  have hm := may_any wide ⟨z, 1, 0⟩ w
  rw [may_len] at hm
  unfold LzC.tc at hm
  by_cases h : 3 ≤ z ∧ z ≤ ml wide
  · rw [decide_eq_true h] at hm
    have HS : Hid (symV z wide = ans3 (lp z.toNat wide)) := Lib.hid (by unfold symV; rw [if_pos h])
    have h2 : z ≤ 65538 := by have := h.2; unfold ml at this; cases wide <;> simp at this <;> omega
    obtain ⟨n, rfl⟩ : ∃ n : Nat, z = n := ⟨z.toNat, by omega⟩
    rw [Int.toNat_natCast] at HS
    have h3 : 3 ≤ n := by omega
    have h4 : n ≤ 65538 := by omega
    have HM := Lib.hid hm
    clear hm h h2
    go_enter Try.func7, Try.ntmps7
    go_wp2_with fail
    refine HM.out.mono ?_
    rintro e w1 ⟨rfl, hb⟩
    have HB1 := Lib.hid hb
    have HL := Lib.hid (length_any n wide w1 h3 h4)
    unfold pc at HL
    clear hb HM
    go_wp2_with fail
    refine HL.out.mono ?_
    rintro e w2 ⟨rfl, hb⟩
    obtain ⟨q, hq⟩ : ∃ q, q = lp n wide := ⟨_, rfl⟩
    rw [← hq] at HS ⊢
    obtain ⟨Y, hY⟩ : ∃ Y, Y = w2.alloc (.cells #[.int .i64 (q.s : Int), .int .i64 (q.x : Int), .int .i64 (q.v : Int)] 46) := ⟨_, rfl⟩
    have HCY : Hid (Blk Y w2.heap.size 46 #[.int .i64 (q.s : Int), .int .i64 (q.x : Int), .int .i64 (q.v : Int)]) := Lib.hid (by rw [hY]; exact Blk.new w2 _ _)
    have HYX : Hid (Below w.heap.size w Y) := Lib.hid (by
      have h1 := HB1.out.trans (hb.mono HB1.out.size)
      rw [hY]; exact h1.alloc h1.size _)
    clear hb HL hq
    go_upto_region 4 with (fail)
    rw [← hY]
    clear hY
    generalize w2.heap.size = g at *
    have d0 : Y.cell? ⟨g, 0, none⟩ = some (.int .i64 (q.s : Int)) := HCY.out.cell 0
    have d1 : Y.cell? ⟨g, 1, none⟩ = some (.int .i64 (q.x : Int)) := HCY.out.cell 1
    have d2 : Y.cell? ⟨g, 2, none⟩ = some (.int .i64 (q.v : Int)) := HCY.out.cell 2
    go_quiet (fail)
    go_wp2_with fail
    go_ret3
    exact ⟨by rw [HS.out]; rfl, ⟨HYX.out.os, HYX.out.tape, HYX.out.output, HYX.out.size, HYX.out.block⟩⟩
  · rw [decide_eq_false h] at hm
    have HS : Hid (symV z wide = no3) := Lib.hid (by unfold symV; rw [if_neg h])
    have HM := Lib.hid hm
    clear hm h
    go_enter Try.func7, Try.ntmps7
    go_wp2_with fail
    refine HM.out.mono ?_
    rintro e w1 ⟨rfl, hb⟩
    go_wp2_with fail
    go_ret3
    exact ⟨by rw [HS.out]; rfl, hb⟩
set_option maxRecDepth 100000 in
set_option maxHeartbeats 4000000 in
theorem reach_any (z : Int) (wide : Bool) (w : World) :
    Calls Try.prog 9 #[.int .i64 z, .bool wide] w fun e w' => e = .returned (reachV z wide) ∧ Below w.heap.size w w' := by
  have hm := may_any wide ⟨3, z, 0⟩ w
  rw [may_dist] at hm
  unfold LzC.tc at hm
  by_cases h : 1 ≤ z ∧ z ≤ md wide
  · rw [decide_eq_true h] at hm
    have HS : Hid (reachV z wide = ans3 (dp z.toNat)) := Lib.hid (by unfold reachV; rw [if_pos h])
    have h2 : z ≤ 65536 := by have := h.2; unfold md at this; cases wide <;> simp at this <;> omega
    obtain ⟨n, rfl⟩ : ∃ n : Nat, z = n := ⟨z.toNat, by omega⟩
    rw [Int.toNat_natCast] at HS
    have h3 : 1 ≤ n := by omega
    have h4 : n ≤ 65536 := by omega
    have HM := Lib.hid hm
    clear hm h h2
    go_enter Try.func9, Try.ntmps9
    go_wp2_with fail
    refine HM.out.mono ?_
    rintro e w1 ⟨rfl, hb⟩
    have HB1 := Lib.hid hb
    have HL := Lib.hid (distance_any n w1 h3 h4)
    unfold pc at HL
    clear hb HM
    go_wp2_with fail
    refine HL.out.mono ?_
    rintro e w2 ⟨rfl, hb⟩
    obtain ⟨q, hq⟩ : ∃ q, q = dp n := ⟨_, rfl⟩
    rw [← hq] at HS ⊢
    obtain ⟨Y, hY⟩ : ∃ Y, Y = w2.alloc (.cells #[.int .i64 (q.s : Int), .int .i64 (q.x : Int), .int .i64 (q.v : Int)] 46) := ⟨_, rfl⟩
    have HCY : Hid (Blk Y w2.heap.size 46 #[.int .i64 (q.s : Int), .int .i64 (q.x : Int), .int .i64 (q.v : Int)]) := Lib.hid (by rw [hY]; exact Blk.new w2 _ _)
    have HYX : Hid (Below w.heap.size w Y) := Lib.hid (by
      have h1 := HB1.out.trans (hb.mono HB1.out.size)
      rw [hY]; exact h1.alloc h1.size _)
    clear hb HL hq
    go_upto_region 4 with (fail)
    rw [← hY]
    clear hY
    generalize w2.heap.size = g at *
    have d0 : Y.cell? ⟨g, 0, none⟩ = some (.int .i64 (q.s : Int)) := HCY.out.cell 0
    have d1 : Y.cell? ⟨g, 1, none⟩ = some (.int .i64 (q.x : Int)) := HCY.out.cell 1
    have d2 : Y.cell? ⟨g, 2, none⟩ = some (.int .i64 (q.v : Int)) := HCY.out.cell 2
    go_quiet (fail)
    go_wp2_with fail
    go_ret3
    exact ⟨by rw [HS.out]; rfl, ⟨HYX.out.os, HYX.out.tape, HYX.out.output, HYX.out.size, HYX.out.block⟩⟩
  · rw [decide_eq_false h] at hm
    have HS : Hid (reachV z wide = no3) := Lib.hid (by unfold reachV; rw [if_neg h])
    have HM := Lib.hid hm
    clear hm h
    go_enter Try.func9, Try.ntmps9
    go_wp2_with fail
    refine HM.out.mono ?_
    rintro e w1 ⟨rfl, hb⟩
    go_wp2_with fail
    go_ret3
    exact ⟨by rw [HS.out]; rfl, hb⟩

/-! ### Stored -/
def sto (n : Nat) : Nat := n + 5 * max 1 ((n + 65534) / 65535)
def stoZ (z : Int) : Nat := if z < 0 then 0 else sto (min z.toNat 1073741824)
theorem sto_nums {n : Nat} (hn : n ≤ 1073741824) : ∃ M : Nat, Hid (sto n = n + 5 * M) ∧ (if 1 < ((n : Int) + 65535 - 1) / 65535 then ((n : Int) + 65535 - 1) / 65535 else 1) = (M : Int) ∧ wrap64 (5 * (M : Int)) = 5 * (M : Int) ∧ wrap64 ((n : Int) + 5 * (M : Int)) = (n : Int) + 5 * (M : Int) := by
  obtain ⟨k, hk⟩ : ∃ k : Nat, k = (n + 65534) / 65535 := ⟨_, rfl⟩
  obtain ⟨M, hM⟩ : ∃ M : Nat, M = max 1 k := ⟨_, rfl⟩
  have hk2 : k ≤ 20000 := by omega
  have hM2 : M ≤ 20000 := by omega
  have e0 : ((n : Int) + 65535 - 1) / 65535 = (k : Int) := by omega
  refine ⟨M, Lib.hid (by unfold sto; rw [hM, hk]), ?_, IntWalk.wrap64_in _ (by clear e0; omega), IntWalk.wrap64_in _ (by clear e0; omega)⟩
  rw [e0]
  clear e0 hk
  split <;> omega
set_option maxRecDepth 100000 in
set_option maxHeartbeats 1000000 in
theorem stored_any (z : Int) (w : World) (hz : -9223372036854775808 ≤ z ∧ z ≤ 9223372036854775807) : Calls Try.prog 13 #[.int .i64 z] w fun e w' => e = .returned (.int .i64 (stoZ z : Int)) ∧ w = w' := by
  by_cases h : z < 0
  · have HS : Hid (stoZ z = 0) := Lib.hid (by unfold stoZ; rw [if_pos h])
    go_enter Try.func13, Try.ntmps13
    go_wp2_with fail
    go_ret
    exact ⟨by rw [HS.out]; rfl, rfl⟩
  · have HS : Hid (stoZ z = sto (min z.toNat 1073741824)) := Lib.hid (by unfold stoZ; rw [if_neg h])
    obtain ⟨n, hn⟩ : ∃ n : Nat, n = min z.toNat 1073741824 := ⟨_, rfl⟩
    have hn2 : n ≤ 1073741824 := by omega
    have hmin : (if (1073741824 : Int) < z then (1073741824 : Int) else z) = (n : Int) := by split <;> omega
    rw [← hn] at HS
    obtain ⟨M, HK, hmm, h5, h6⟩ := sto_nums hn2
    have HM := Lib.hid (And.intro hmm (And.intro h5 h6))
    have hz0 : decide (z < 0) = false := decide_eq_false h
    clear h hmm h5 h6 hn hz
    go_enter Try.func13, Try.ntmps13
    go_upto_region 4 with (fail)
    clear hmin hz0
    go_upto_region 5 with (fail)
    simp only [HM.out.1]
    have e5 := HM.out.2.1
    have e6 := HM.out.2.2
    go_wp2_with fail
    go_ret
    refine ⟨?_, rfl⟩
    rw [HS.out, HK.out]
    exact ret_int (by rw [HM.out.2.2]; push_cast; rfl)
end Go.Proofs.Ytaeoedapaiapdaa.BlkC
