import Derived.Test.YtdbcendnibgcaaaDoorMgBg

section
/-
  inflate's machine where it ends: with more bits behind, with no more to come; where bits lack. No program, no dump.
-/
namespace InfMath
open BitMath CanMath TabMath WinMath

/-- Where more is wanted, and no more comes: it is refused. -/
abbrev shut (s : M) : M := { s with ended := true }
theorem bad_shut (s : M) (c : Nat) : bad (shut s) c = if c = 5 then 2 else c := rfl
theorem shut_step {s : M} (h : step s = .halt 5) : step (shut s) = .halt 2 := by
  unfold step at h ⊢
  have e : (shut s).next = s.next := rfl
  have hl : lack (shut s) = 2 := rfl
  rw [e]
  split at h
  · unfold opening at h ⊢
    rw [hl]
    simp only at h ⊢
    repeat' split at h
    all_goals first | cases h | skip
    all_goals simp_all
  · unfold readSize at h ⊢
    rw [hl]
    simp only at h ⊢
    repeat' split at h
    all_goals first | cases h | skip
    all_goals simp_all
  · unfold readBytes at h ⊢
    rw [hl]
    simp only at h ⊢
    repeat' split at h
    all_goals first | cases h | skip
    all_goals simp_all
  · unfold readHlit at h ⊢
    rw [hl]
    simp only at h ⊢
    repeat' split at h
    all_goals first | cases h | skip
    all_goals simp_all
  · unfold readHdist at h ⊢
    rw [hl]
    simp only at h ⊢
    repeat' split at h
    all_goals first | cases h | skip
    all_goals simp_all
  · unfold readHclen at h ⊢
    rw [hl]
    simp only at h ⊢
    repeat' split at h
    all_goals first | cases h | skip
    all_goals simp_all
  · unfold readCodeLengths at h ⊢
    rw [hl]
    simp only at h ⊢
    repeat' split at h
    all_goals first | cases h | skip
    all_goals simp_all
  · unfold readLengths at h ⊢
    have e1 : (shut s).lens = s.lens := rfl
    have e2 : (shut s).hl = s.hl := rfl
    have e3 : (shut s).hd = s.hd := rfl
    have e4 : (shut s).hcode = s.hcode := rfl
    have e5 : (shut s).bits = s.bits := rfl
    rw [e1, e2, e3]
    by_cases h0 : s.lens.length < s.hl + s.hd
    · rw [if_pos h0] at h ⊢
      unfold readLength at h ⊢
      rw [e4, e5]
      rcases sym_code (s.hcode.getD []) s.bits with q | q | q
      · rw [q, if_neg (by decide)] at h ⊢
        unfold readLen at h ⊢
        rw [hl, e1, e2, e3, e5]
        generalize (sym (s.hcode.getD []) s.bits).1 = v at *
        generalize (sym (s.hcode.getD []) s.bits).2.1 = n at *
        by_cases h3 : v = 16 ∧ s.lens = []
        · rw [if_pos h3] at h; cases h
        · rw [if_neg h3] at h ⊢
          by_cases h5 : s.bits.length < n + extra v
          · rw [if_pos h5]
          · rw [if_neg h5] at h
            split at h
            all_goals cases h
      · rw [q, if_pos (by decide)] at h
        unfold bad at h
        rw [if_neg (by decide)] at h
        cases h
      · rw [q, if_pos (by decide), bad_shut, if_pos rfl]
    · rw [if_neg h0] at h
      split at h
      all_goals cases h
  · unfold readLiteral at h ⊢
    have e4 : (shut s).lit = s.lit := rfl
    have e5 : (shut s).bits = s.bits := rfl
    have e6 : (shut s).most = s.most := rfl
    have e7 : (shut s).total = s.total := rfl
    have e8 : (shut s).wide = s.wide := rfl
    rw [e4, e5]
    rcases sym_code (s.lit.getD []) s.bits with q | q | q
    · rw [q, if_neg (by decide)] at h ⊢
      unfold readLit at h ⊢
      rw [hl, e5, e6, e7, e8]
      generalize (sym (s.lit.getD []) s.bits).1 = v at *
      generalize (sym (s.lit.getD []) s.bits).2.1 = n at *
      by_cases h1 : v < 256
      · rw [if_pos h1] at h
        split at h
        all_goals cases h
      · rw [if_neg h1] at h ⊢
        by_cases h3 : v = 256
        · rw [if_pos h3] at h; cases h
        · rw [if_neg h3] at h ⊢
          split at h
          · cases h
          · next l x hb =>
            by_cases h5 : s.bits.length < n + x
            · rw [if_pos h5]
            · rw [if_neg h5] at h; cases h
    · rw [q, if_pos (by decide)] at h
      unfold bad at h
      rw [if_neg (by decide)] at h
      cases h
    · rw [q, if_pos (by decide), bad_shut, if_pos rfl]
  · unfold readDistance at h ⊢
    have e4 : (shut s).dist = s.dist := rfl
    have e5 : (shut s).bits = s.bits := rfl
    have e6 : (shut s).most = s.most := rfl
    have e7 : (shut s).total = s.total := rfl
    have e8 : (shut s).wide = s.wide := rfl
    have e9 : (shut s).matching = s.matching := rfl
    rw [e4, e5, e6, e7, e9]
    by_cases h0 : s.most < s.total + s.matching
    · rw [if_pos h0] at h; cases h
    · rw [if_neg h0] at h ⊢
      rcases sym_code (s.dist.getD []) s.bits with q | q | q
      · rw [q, if_neg (by decide)] at h ⊢
        unfold readDist at h ⊢
        rw [hl, e5, e8]
        generalize (sym (s.dist.getD []) s.bits).1 = v at *
        generalize (sym (s.dist.getD []) s.bits).2.1 = n at *
        split at h
        · cases h
        · next l x hb =>
          by_cases h5 : s.bits.length < n + x
          · rw [if_pos h5]
          · rw [if_neg h5] at h
            unfold copied at h
            split at h
            all_goals cases h
      · rw [q, if_pos (by decide)] at h
        unfold bad at h
        rw [if_neg (by decide)] at h
        cases h
      · rw [q, if_pos (by decide), bad_shut, if_pos rfl]
  · cases h
theorem halt_codes {s : M} {c : Nat} (h : step s = .halt c) : c = 0 ∨ c = 2 ∨ c = 3 ∨ c = 5 := by
  have hl : lack s = 2 ∨ lack s = 5 := by unfold lack; split; exact .inl rfl; exact .inr rfl
  have hb : ∀ (ls : List Nat) (bs : List Bool), bad s (sym ls bs).2.2 = 0 ∨ bad s (sym ls bs).2.2 = 2 ∨ bad s (sym ls bs).2.2 = 5 := fun ls bs => by
    unfold bad
    split
    · rcases hl with q | q <;> rw [q] <;> decide
    · rcases sym_code ls bs with q | q | q <;> rw [q] <;> decide
  unfold step opening readSize readBytes readHlit readHdist readHclen readCodeLengths readLengths readLength readLen readLiteral readLit readDistance readDist copied at h
  repeat' split at h
  all_goals first
    | (cases h; done)
    | (injection h with h; rw [← h]; rcases hl with q | q <;> rw [q] <;> decide)
    | (injection h with h; rw [← h]; rcases hb _ _ with q | q | q <;> rw [q] <;> decide)
    | (injection h with h; rw [← h]; decide)
end InfMath
end
