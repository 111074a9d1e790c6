/-
  Tokens in memory; bounds, size, May.
-/
import Derived.Test.YtfjngfkehccigaaRows
import Derived.Test.YtfjngfkehccigaaOwnB
import Derived.Test.YtfjngfkehccigaaLzMath
import Derived.Laws.Pointers
import Derived.StillTailTactics
import Derived.Deep.RegionLaw
import Derived.Deep.DeepCutAuto
import Derived.Deep.CutBlock
namespace Go.Proofs.Ytfjngfkehccigaa.LzC
open Go.RowKit Go.My LzMath

/-- A token's three cells, and its value. -/
def tc (t : Tok) : Array Value := #[.int .i64 t.len, .int .i64 t.dist, .int .u8 (t.byte.toNat : Int)]
def Wf (t : Tok) : Prop := (-9223372036854775808 ≤ t.len ∧ t.len ≤ 9223372036854775807) ∧ -9223372036854775808 ≤ t.dist ∧ t.dist ≤ 9223372036854775807

theorem bounds_any (wide : Bool) (w : World) : Calls Try.prog 14 #[.bool wide] w fun e w' => e = .returned (.tuple #[.int .i64 (ml wide), .int .i64 (md wide : Int)]) ∧ w = w' := by
  cases wide
  · go_enter Try.func14, Try.ntmps14
    go_wp2_with fail
    go_ret2
    exact ⟨rfl, rfl⟩
  · go_enter Try.func14, Try.ntmps14
    go_wp2_with fail
    go_ret2
    exact ⟨rfl, rfl⟩

theorem size_any (t : Tok) (w : World) : Calls Try.prog 15 #[.agg (tc t)] w fun e w' => e = .returned (.int .i64 (sz t : Int)) ∧ Below w.heap.size w w' := by
  obtain ⟨l, d, b⟩ := t
  unfold tc
  dsimp only
  by_cases h0 : l = 0
  · subst h0
    go_enter Try.func15, Try.ntmps15
    go_wp2_with fail
    go_ret
    exact ⟨rfl, (Below.refl _ _).alloc (Nat.le_refl _) _⟩
  · have HS : Hid ((sz ⟨l, d, b⟩ : Nat) = l.toNat) := Lib.hid (by unfold sz; rw [if_neg h0])
    by_cases h1 : l < 0
    · go_enter Try.func15, Try.ntmps15
      go_wp2_with fail
      go_ret
      exact ⟨by rw [HS.out]; exact ret_int (by omega), (Below.refl _ _).alloc (Nat.le_refl _) _⟩
    · go_enter Try.func15, Try.ntmps15
      go_wp2_with fail
      go_ret
      exact ⟨by rw [HS.out]; exact ret_int (by omega), (Below.refl _ _).alloc (Nat.le_refl _) _⟩

theorem byte_cases (b : UInt8) : (b = 0 ∧ (b.toNat : Int) = 0) ∨ (b ≠ 0 ∧ ¬ (b.toNat : Int) = 0) := by
  by_cases h : b = 0
  · subst h; exact .inl ⟨rfl, rfl⟩
  · exact .inr ⟨h, fun e => h (by apply UInt8.toNat_inj.1; simp; omega)⟩
/-- The ways that a token goes that is no literal. -/
theorem may_ways {wide : Bool} {l d L D : Int} {b : UInt8} (hL : ml wide = L) (hD : (md wide : Int) = D) (hl : ¬ Lone ⟨l, d, b⟩) :
    (∃ k : Bool, (l == 0) = k ∧ (k = true → (d == 0) = false)) ∧ (((b.toNat : Int) == 0) = false ∧ decide (May wide ⟨l, d, b⟩) = false ∨ ((b.toNat : Int) == 0) = true ∧ (¬ 3 ≤ l ∧ decide (May wide ⟨l, d, b⟩) = false ∨ 3 ≤ l ∧ (¬ l ≤ L ∧ decide (May wide ⟨l, d, b⟩) = false ∨ l ≤ L ∧ (¬ 1 ≤ d ∧ decide (May wide ⟨l, d, b⟩) = false ∨ 1 ≤ d ∧ (¬ d ≤ D ∧ decide (May wide ⟨l, d, b⟩) = false ∨ d ≤ D ∧ decide (May wide ⟨l, d, b⟩) = true))))) := by
  have e : May wide ⟨l, d, b⟩ ↔ b = 0 ∧ 3 ≤ l ∧ l ≤ L ∧ 1 ≤ d ∧ d ≤ D := by
    rw [← hL, ← hD]; unfold May; simp only [hl, false_or]; rfl
  have hnl : ¬ (l = 0 ∧ d = 0) := hl
  refine ⟨⟨l == 0, rfl, fun h => ?_⟩, ?_⟩
  · simp only [beq_iff_eq] at h
    simp only [beq_eq_false_iff_ne]
    exact fun h2 => hnl ⟨h, h2⟩
  · simp only [decide_eq_false_iff_not, decide_eq_true_eq, e, beq_iff_eq, beq_eq_false_iff_ne]
    rcases byte_cases b with ⟨h1, h2⟩ | ⟨h1, h2⟩
    · refine .inr ⟨h2, ?_⟩
      by_cases h3 : 3 ≤ l
      · refine .inr ⟨h3, ?_⟩
        by_cases h4 : l ≤ L
        · refine .inr ⟨h4, ?_⟩
          by_cases h5 : 1 ≤ d
          · refine .inr ⟨h5, ?_⟩
            by_cases h6 : d ≤ D
            · exact .inr ⟨h6, h1, h3, h4, h5, h6⟩
            · exact .inl ⟨h6, fun h => h6 h.2.2.2.2⟩
          · exact .inl ⟨h5, fun h => h5 h.2.2.2.1⟩
        · exact .inl ⟨h4, fun h => h4 h.2.2.1⟩
      · exact .inl ⟨h3, fun h => h3 h.2.1⟩
    · exact .inl ⟨h2, fun h => h1 h.1⟩

set_option maxRecDepth 100000 in
set_option maxHeartbeats 4000000 in
theorem may_any (wide : Bool) (t : Tok) (w : World) : Calls Try.prog 7 #[.agg (tc t), .bool wide] w fun e w' => e = .returned (.bool (decide (May wide t))) ∧ Below w.heap.size w w' := by
  by_cases hl : Lone t
  · have HM : Hid (decide (May wide t) = true) := Lib.hid (by simp [May, hl])
    obtain ⟨l, d, b⟩ := t
    obtain ⟨rfl, rfl⟩ : l = 0 ∧ d = 0 := hl
    unfold tc
    dsimp only
    go_enter Try.func7, Try.ntmps7
    go_wp2_with fail
    go_ret
    exact ⟨by rw [HM.out]; rfl, (Below.refl _ _).alloc (Nat.le_refl _) _⟩
  · obtain ⟨l, d, b⟩ := t
    unfold tc
    dsimp only
    cases wide
    · obtain ⟨⟨k, hk, hkd⟩, hw⟩ := may_ways (L := 258) (D := 32768) (wide := false) rfl rfl hl
      clear hl
      rcases hw with ⟨q1, hm⟩ | ⟨q1, ⟨q2, hm⟩ | ⟨q2, ⟨q3, hm⟩ | ⟨q3, ⟨q4, hm⟩ | ⟨q4, ⟨q5, hm⟩ | ⟨q5, hm⟩⟩⟩⟩⟩ <;> cases k
      all_goals (try simp only [forall_const] at hkd)
      all_goals
        have HM := Lib.hid hm
        clear hm
        go_enter Try.func7, Try.ntmps7
        go_wp2_with fail
        refine (bounds_any false _).mono ?_
        rw [show ml false = 258 from rfl, show (md false : Int) = 32768 from rfl]
        rintro e w' ⟨rfl, rfl⟩
        go_wp2_with fail
        go_ret
        exact ⟨by rw [HM.out]; first | rfl | simp_all, (Below.refl _ _).alloc (Nat.le_refl _) _⟩
    · obtain ⟨⟨k, hk, hkd⟩, hw⟩ := may_ways (L := 65538) (D := 65536) (wide := true) rfl rfl hl
      clear hl
      rcases hw with ⟨q1, hm⟩ | ⟨q1, ⟨q2, hm⟩ | ⟨q2, ⟨q3, hm⟩ | ⟨q3, ⟨q4, hm⟩ | ⟨q4, ⟨q5, hm⟩ | ⟨q5, hm⟩⟩⟩⟩⟩ <;> cases k
      all_goals (try simp only [forall_const] at hkd)
      all_goals
        have HM := Lib.hid hm
        clear hm
        go_enter Try.func7, Try.ntmps7
        go_wp2_with fail
        refine (bounds_any true _).mono ?_
        rw [show ml true = 65538 from rfl, show (md true : Int) = 65536 from rfl]
        rintro e w' ⟨rfl, rfl⟩
        go_wp2_with fail
        go_ret
        exact ⟨by rw [HM.out]; first | rfl | simp_all, (Below.refl _ _).alloc (Nat.le_refl _) _⟩

set_option maxRecDepth 100000 in
set_option maxHeartbeats 4000000 in
theorem rmay_any (wide : Bool) (t : Tok) (w : World) : Calls Try.prog 8 #[.agg (tc t), .bool wide] w fun e w' => e = .returned (.bool (decide (May wide t))) ∧ Below w.heap.size w w' := by
  by_cases hl : Lone t
  · have HM : Hid (decide (May wide t) = true) := Lib.hid (by simp [May, hl])
    obtain ⟨l, d, b⟩ := t
    obtain ⟨rfl, rfl⟩ : l = 0 ∧ d = 0 := hl
    unfold tc
    dsimp only
    go_enter Try.func8, Try.ntmps8
    go_wp2_with fail
    go_ret
    exact ⟨by rw [HM.out]; rfl, (Below.refl _ _).alloc (Nat.le_refl _) _⟩
  · obtain ⟨l, d, b⟩ := t
    unfold tc
    dsimp only
    cases wide
    · obtain ⟨⟨k, hk, hkd⟩, hw⟩ := may_ways (L := 258) (D := 32768) (wide := false) rfl rfl hl
      clear hl
      rcases hw with ⟨q1, hm⟩ | ⟨q1, ⟨q2, hm⟩ | ⟨q2, ⟨q3, hm⟩ | ⟨q3, ⟨q4, hm⟩ | ⟨q4, ⟨q5, hm⟩ | ⟨q5, hm⟩⟩⟩⟩⟩ <;> cases k
      all_goals (try simp only [forall_const] at hkd)
      all_goals
        have HM := Lib.hid hm
        clear hm
        go_enter Try.func8, Try.ntmps8
        go_wp2_with fail
        go_ret
        exact ⟨by rw [HM.out]; first | rfl | simp_all, (Below.refl _ _).alloc (Nat.le_refl _) _⟩
    · obtain ⟨⟨k, hk, hkd⟩, hw⟩ := may_ways (L := 65538) (D := 65536) (wide := true) rfl rfl hl
      clear hl
      rcases hw with ⟨q1, hm⟩ | ⟨q1, ⟨q2, hm⟩ | ⟨q2, ⟨q3, hm⟩ | ⟨q3, ⟨q4, hm⟩ | ⟨q4, ⟨q5, hm⟩ | ⟨q5, hm⟩⟩⟩⟩⟩ <;> cases k
      all_goals (try simp only [forall_const] at hkd)
      all_goals
        have HM := Lib.hid hm
        clear hm
        go_enter Try.func8, Try.ntmps8
        go_wp2_with fail
        go_ret
        exact ⟨by rw [HM.out]; first | rfl | simp_all, (Below.refl _ _).alloc (Nat.le_refl _) _⟩
end Go.Proofs.Ytfjngfkehccigaa.LzC
