/-
  The document's May.
-/
import Derived.Test.YtaeoedapaiapdaaTok0
namespace Go.Proofs.Ytaeoedapaiapdaa.LzC
open Go.RowKit Go.My LzMath WinMath

set_option maxRecDepth 100000 in
set_option maxHeartbeats 4000000 in
theorem rmay_any (wide : Bool) (t : Tok) (w : World) : Calls Try.prog 28 #[.agg (tc t), .bool wide] w fun e w' => e = .returned (.bool (decide (May wide t))) ∧ Below w.heap.size w w' := by
  by_cases hl : Lone t
  · have HM : Hid (decide (May wide t) = true) := Lib.hid (by simp [May, hl])
    obtain ⟨l, d, b⟩ := t
    obtain ⟨rfl, rfl⟩ : l = 0 ∧ d = 0 := hl
    unfold tc
    dsimp only
    go_enter Try.func28, Try.ntmps28
    go_wp2_with fail
    go_ret
    exact ⟨by rw [HM.out]; rfl, (Below.refl _ _).alloc (Nat.le_refl _) _⟩
  · obtain ⟨l, d, b⟩ := t
    unfold tc
    dsimp only
    cases wide
    · obtain ⟨⟨k, hk, hkd⟩, hw⟩ := may_ways (L := 258) (D := 32768) (wide := false) rfl rfl hl
      clear hl
      rcases hw with ⟨q1, hm⟩ | ⟨q1, ⟨q2, hm⟩ | ⟨q2, ⟨q3, hm⟩ | ⟨q3, ⟨q4, hm⟩ | ⟨q4, ⟨q5, hm⟩ | ⟨q5, hm⟩⟩⟩⟩⟩ <;> cases k
      all_goals (try simp only [forall_const] at hkd)
      all_goals
        have HM := Lib.hid hm
        clear hm
        go_enter Try.func28, Try.ntmps28
        go_wp2_with fail
        go_ret
        exact ⟨by rw [HM.out]; first | rfl | simp_all, (Below.refl _ _).alloc (Nat.le_refl _) _⟩
    · obtain ⟨⟨k, hk, hkd⟩, hw⟩ := may_ways (L := 65538) (D := 65536) (wide := true) rfl rfl hl
      clear hl
      rcases hw with ⟨q1, hm⟩ | ⟨q1, ⟨q2, hm⟩ | ⟨q2, ⟨q3, hm⟩ | ⟨q3, ⟨q4, hm⟩ | ⟨q4, ⟨q5, hm⟩ | ⟨q5, hm⟩⟩⟩⟩⟩ <;> cases k
      all_goals (try simp only [forall_const] at hkd)
      all_goals
        have HM := Lib.hid hm
        clear hm
        go_enter Try.func28, Try.ntmps28
        go_wp2_with fail
        go_ret
        exact ⟨by rw [HM.out]; first | rfl | simp_all, (Below.refl _ _).alloc (Nat.le_refl _) _⟩

section
variable {w wr w' : World} {aa a2 : Option Addr} {n ca c2 g : Nat} {L : List UInt8}
end

end Go.Proofs.Ytaeoedapaiapdaa.LzC
