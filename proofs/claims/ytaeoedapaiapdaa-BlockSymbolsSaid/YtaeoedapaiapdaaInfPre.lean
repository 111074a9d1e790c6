/-
  inflate's machine: with more room, with more bits behind. No program, no dump.
-/
import Derived.Test.YtaeoedapaiapdaaInfOk
namespace InfMath
open BitMath CanMath TabMath WinMath

/-! ### an end without an error -/
theorem lack_ne (s : M) : lack s ≠ 0 := by unfold lack; split <;> decide
theorem bad_ne (s : M) (c : Nat) (h : c ≠ 0) : bad s c ≠ 0 := by unfold bad; split; exact lack_ne s; exact h
theorem halt_zero {s : M} (h1 : 1 ≤ s.next) (h2 : s.next ≤ 11) (h : step s = .halt 0) : s.next = 11 := by
  unfold step at h
  split at h
  · unfold opening at h; repeat' split at h
    all_goals first | (injection h with h; exact absurd h (lack_ne s)) | (injection h with h; cases h) | cases h
  · unfold readSize at h; repeat' split at h
    all_goals first | (injection h with h; exact absurd h (lack_ne s)) | (injection h with h; cases h) | cases h
  · unfold readBytes at h; repeat' split at h
    all_goals first | (injection h with h; exact absurd h (lack_ne s)) | (injection h with h; cases h) | cases h
  · unfold readHlit at h; repeat' split at h
    all_goals first | (injection h with h; exact absurd h (lack_ne s)) | (injection h with h; cases h) | cases h
  · unfold readHdist at h; repeat' split at h
    all_goals first | (injection h with h; exact absurd h (lack_ne s)) | (injection h with h; cases h) | cases h
  · unfold readHclen at h; repeat' split at h
    all_goals first | (injection h with h; exact absurd h (lack_ne s)) | (injection h with h; cases h) | cases h
  · unfold readCodeLengths at h; repeat' split at h
    all_goals first | (injection h with h; exact absurd h (lack_ne s)) | (injection h with h; cases h) | cases h
  · unfold readLengths at h
    split at h
    · unfold readLength at h
      split at h
      · next hc => injection h with h; exact absurd h (bad_ne s _ hc)
      · unfold readLen at h; repeat' split at h
        all_goals first | (injection h with h; exact absurd h (lack_ne s)) | (injection h with h; cases h) | cases h
    · split at h
      all_goals first | (injection h with h; cases h) | cases h
  · unfold readLiteral at h
    split at h
    · next hc => injection h with h; exact absurd h (bad_ne s _ hc)
    · unfold readLit at h; repeat' split at h
      all_goals first | (injection h with h; exact absurd h (lack_ne s)) | (injection h with h; cases h) | cases h
  · unfold readDistance at h
    split at h
    · injection h with h; cases h
    · split at h
      · next hc => injection h with h; exact absurd h (bad_ne s _ hc)
      · unfold readDist at h
        split at h
        · injection h with h; cases h
        · split at h
          · injection h with h; exact absurd h (lack_ne s)
          · unfold copied at h; split at h
            all_goals first | (injection h with h; cases h) | cases h
  · by_cases hx : s.next = 11
    · exact hx
    · exfalso
      rcases (by omega : s.next = 1 ∨ s.next = 2 ∨ s.next = 3 ∨ s.next = 4 ∨ s.next = 5 ∨ s.next = 6 ∨ s.next = 7 ∨ s.next = 8 ∨ s.next = 9 ∨ s.next = 10) with hq | hq | hq | hq | hq | hq | hq | hq | hq | hq <;> first | exact absurd hq (by assumption) | (rename_i z1 z2 z3 z4 z5 z6 z7 z8 z9 z10; first | exact z1 hq | exact z2 hq | exact z3 hq | exact z4 hq | exact z5 hq | exact z6 hq | exact z7 hq | exact z8 hq | exact z9 hq | exact z10 hq)
theorem over_halts {s : M} (h : s.next = 11) : step s = .halt 0 := by unfold step; rw [h]; rfl

/-! ### more room -/
abbrev up (q : Nat) (s : M) : M := { s with most := q }
theorem up_step {s t : M} {q : Nat} (hq : s.most ≤ q) (h : step s = .more t) : step (up q s) = .more (up q t) ∧ t.most = s.most := by
  unfold step at h ⊢
  have e : (up q s).next = s.next := rfl
  rw [e]
  split at h
  · unfold opening at h ⊢
    simp only [up] at h ⊢
    repeat' split at h
    all_goals first | (cases h; done) | skip
    all_goals (cases h; repeat' split)
    all_goals first | exact ⟨rfl, rfl⟩ | contradiction | (exfalso; omega)
  · unfold readSize at h ⊢
    simp only [up] at h ⊢
    repeat' split at h
    all_goals first | (cases h; done) | skip
    all_goals (cases h; repeat' split)
    all_goals first | exact ⟨rfl, rfl⟩ | contradiction | (exfalso; omega)
  · unfold readBytes at h ⊢
    simp only [up, close, put] at h ⊢
    repeat' split at h
    all_goals first | (cases h; done) | skip
    all_goals (cases h; repeat' split)
    all_goals first | exact ⟨rfl, rfl⟩ | contradiction | (exfalso; omega)
  · unfold readHlit at h ⊢
    simp only [up] at h ⊢
    repeat' split at h
    all_goals first | (cases h; done) | skip
    all_goals (cases h; repeat' split)
    all_goals first | exact ⟨rfl, rfl⟩ | contradiction | (exfalso; omega)
  · unfold readHdist at h ⊢
    simp only [up] at h ⊢
    repeat' split at h
    all_goals first | (cases h; done) | skip
    all_goals (cases h; repeat' split)
    all_goals first | exact ⟨rfl, rfl⟩ | contradiction | (exfalso; omega)
  · unfold readHclen at h ⊢
    simp only [up] at h ⊢
    repeat' split at h
    all_goals first | (cases h; done) | skip
    all_goals (cases h; repeat' split)
    all_goals first | exact ⟨rfl, rfl⟩ | contradiction | (exfalso; omega)
  · unfold readCodeLengths at h ⊢
    simp only [up] at h ⊢
    repeat' split at h
    all_goals first | (cases h; done) | skip
    all_goals (cases h; repeat' split)
    all_goals first | exact ⟨rfl, rfl⟩ | contradiction | (exfalso; omega)
  · unfold readLengths at h ⊢
    simp only [up] at h ⊢
    by_cases h1 : s.lens.length < s.hl + s.hd
    · rw [if_pos h1] at h ⊢
      unfold readLength at h ⊢
      simp only at h ⊢
      by_cases h2 : (sym (s.hcode.getD []) s.bits).2.2 ≠ 0
      · rw [if_pos h2] at h; cases h
      · rw [if_neg h2] at h ⊢
        unfold readLen at h ⊢
        simp only at h ⊢
        generalize (sym (s.hcode.getD []) s.bits).1 = v at *
        generalize (sym (s.hcode.getD []) s.bits).2.1 = n at *
        repeat' split at h
        all_goals first | (cases h; done) | skip
        all_goals (cases h; repeat' split)
        all_goals first | exact ⟨rfl, rfl⟩ | contradiction | (exfalso; omega)
    · rw [if_neg h1] at h ⊢
      repeat' split at h
      all_goals first | (cases h; done) | skip
      all_goals (cases h; repeat' split)
      all_goals first | exact ⟨rfl, rfl⟩ | contradiction | (exfalso; omega)
  · unfold readLiteral at h ⊢
    simp only [up] at h ⊢
    by_cases h2 : (sym (s.lit.getD []) s.bits).2.2 ≠ 0
    · rw [if_pos h2] at h; cases h
    · rw [if_neg h2] at h ⊢
      unfold readLit at h ⊢
      simp only [close, put] at h ⊢
      generalize (sym (s.lit.getD []) s.bits).1 = v at *
      generalize (sym (s.lit.getD []) s.bits).2.1 = n at *
      by_cases h1 : v < 256
      · rw [if_pos h1] at h ⊢
        by_cases h3 : s.most ≤ s.total
        · rw [if_pos h3] at h; cases h
        · rw [if_neg h3] at h; rw [if_neg (by omega)]; cases h; exact ⟨rfl, rfl⟩
      · rw [if_neg h1] at h ⊢
        by_cases h3 : v = 256
        · rw [if_pos h3] at h ⊢; cases h; exact ⟨rfl, rfl⟩
        · rw [if_neg h3] at h ⊢
          split at h
          · cases h
          · next l x hb =>
            by_cases h4 : s.bits.length < n + x
            · rw [if_pos h4] at h; cases h
            · rw [if_neg h4] at h ⊢; cases h; exact ⟨rfl, rfl⟩
  · unfold readDistance at h ⊢
    simp only [up] at h ⊢
    by_cases h1 : s.most < s.total + s.matching
    · rw [if_pos h1] at h; cases h
    · rw [if_neg h1] at h; rw [if_neg (by omega)]
      by_cases h2 : (sym (s.dist.getD []) s.bits).2.2 ≠ 0
      · rw [if_pos h2] at h; cases h
      · rw [if_neg h2] at h ⊢
        unfold readDist at h ⊢
        simp only at h ⊢
        generalize (sym (s.dist.getD []) s.bits).1 = v at *
        generalize (sym (s.dist.getD []) s.bits).2.1 = n at *
        split at h
        · cases h
        · next l x hb =>
          by_cases h4 : s.bits.length < n + x
          · rw [if_pos h4] at h; cases h
          · rw [if_neg h4] at h ⊢
            unfold copied at h ⊢
            simp only at h ⊢
            by_cases h5 : min s.hist.length s.size < l + num ((s.bits.drop n).take x)
            · rw [if_pos h5] at h; cases h
            · rw [if_neg h5] at h ⊢; cases h; exact ⟨rfl, rfl⟩
  · cases h
theorem up_steps {s t : M} {q : Nat} (hq : s.most ≤ q) (h : Steps s t) : Steps (up q s) (up q t) := by
  induction h with
  | refl => exact .refl _
  | cons h _ ih => exact .cons (up_step hq h).1 (ih (by rw [(up_step hq h).2]; exact hq))
theorem up_ends {s t : M} {q : Nat} (hs : Ok s) (hq : s.most ≤ q) (h : Ends s t 0) : Ends (up q s) (up q t) 0 := by
  have ho := hs.steps h.1
  have h11 := halt_zero ho.next1 ho.next2 h.2
  exact ⟨up_steps hq h.1, over_halts h11⟩
end InfMath
