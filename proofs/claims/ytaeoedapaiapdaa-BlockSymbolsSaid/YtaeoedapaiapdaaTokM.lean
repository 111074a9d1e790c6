/-
  bounds, May.
-/
import Derived.Test.YtaeoedapaiapdaaTok0
namespace Go.Proofs.Ytaeoedapaiapdaa.LzC
open Go.RowKit Go.My LzMath

theorem bounds_any (wide : Bool) (w : World) : Calls Try.prog 31 #[.bool wide] w fun e w' => e = .returned (.tuple #[.int .i64 (ml wide), .int .i64 (md wide : Int)]) ∧ w = w' := by
  cases wide
  · go_enter Try.func31, Try.ntmps31
    go_wp2_with fail
    go_ret2
    exact ⟨rfl, rfl⟩
  · go_enter Try.func31, Try.ntmps31
    go_wp2_with fail
    go_ret2
    exact ⟨rfl, rfl⟩

set_option maxRecDepth 100000 in
set_option maxHeartbeats 4000000 in
theorem may_any (wide : Bool) (t : Tok) (w : World) : Calls Try.prog 22 #[.agg (tc t), .bool wide] w fun e w' => e = .returned (.bool (decide (May wide t))) ∧ Below w.heap.size w w' := by
  by_cases hl : Lone t
  · have HM : Hid (decide (May wide t) = true) := Lib.hid (by simp [May, hl])
    obtain ⟨l, d, b⟩ := t
    obtain ⟨rfl, rfl⟩ : l = 0 ∧ d = 0 := hl
    unfold tc
    dsimp only
    go_enter Try.func22, Try.ntmps22
    go_wp2_with fail
    go_ret
    exact ⟨by rw [HM.out]; rfl, (Below.refl _ _).alloc (Nat.le_refl _) _⟩
  · obtain ⟨l, d, b⟩ := t
    unfold tc
    dsimp only
    cases wide
    · obtain ⟨⟨k, hk, hkd⟩, hw⟩ := may_ways (L := 258) (D := 32768) (wide := false) rfl rfl hl
      clear hl
      rcases hw with ⟨q1, hm⟩ | ⟨q1, ⟨q2, hm⟩ | ⟨q2, ⟨q3, hm⟩ | ⟨q3, ⟨q4, hm⟩ | ⟨q4, ⟨q5, hm⟩ | ⟨q5, hm⟩⟩⟩⟩⟩ <;> cases k
      all_goals (try simp only [forall_const] at hkd)
      all_goals
        have HM := Lib.hid hm
        clear hm
        go_enter Try.func22, Try.ntmps22
        go_wp2_with fail
        refine (bounds_any false _).mono ?_
        rw [show ml false = 258 from rfl, show (md false : Int) = 32768 from rfl]
        rintro e w' ⟨rfl, rfl⟩
        go_wp2_with fail
        go_ret
        exact ⟨by rw [HM.out]; first | rfl | simp_all, (Below.refl _ _).alloc (Nat.le_refl _) _⟩
    · obtain ⟨⟨k, hk, hkd⟩, hw⟩ := may_ways (L := 65538) (D := 65536) (wide := true) rfl rfl hl
      clear hl
      rcases hw with ⟨q1, hm⟩ | ⟨q1, ⟨q2, hm⟩ | ⟨q2, ⟨q3, hm⟩ | ⟨q3, ⟨q4, hm⟩ | ⟨q4, ⟨q5, hm⟩ | ⟨q5, hm⟩⟩⟩⟩⟩ <;> cases k
      all_goals (try simp only [forall_const] at hkd)
      all_goals
        have HM := Lib.hid hm
        clear hm
        go_enter Try.func22, Try.ntmps22
        go_wp2_with fail
        refine (bounds_any true _).mono ?_
        rw [show ml true = 65538 from rfl, show (md true : Int) = 65536 from rfl]
        rintro e w' ⟨rfl, rfl⟩
        go_wp2_with fail
        go_ret
        exact ⟨by rw [HM.out]; first | rfl | simp_all, (Below.refl _ _).alloc (Nat.le_refl _) _⟩

end Go.Proofs.Ytaeoedapaiapdaa.LzC
