import Derived.Test.YtilfmmjjiiabgaaGreatDoorMgBk

section
/-
  inflate's machine where it ends: with more bits behind, with no more to come; where bits lack. No program, no dump.
-/
namespace InfMath
open BitMath CanMath TabMath WinMath

theorem lack5 {s : M} (he : s.ended = false) : lack s = 5 := by unfold lack; rw [he]; rfl
theorem bad5 {s : M} (he : s.ended = false) (c : Nat) : bad s c = c := by
  by_cases h : c = 5
  · unfold bad; rw [if_pos h, lack5 he, h]
  · unfold bad; rw [if_neg h]

/-- An end for another reason than that bits lack stays that end. -/
theorem halt_ext {s : M} {c : Nat} (z : List Bool) (hz : z.length % 8 = 0) (ho : Ok s) (g : Gd s) (he : s.ended = false) (hc : c ≠ 5) (h : step s = .halt c) : step (ext s z) = .halt c := by
  have hl := lack5 he
  unfold step at h ⊢
  have e : (ext s z).next = s.next := rfl
  rw [e]
  split at h
  · unfold opening at h ⊢
    simp only [ext, List.length_append] at h ⊢
    by_cases h1 : s.bits.length < 3
    · rw [if_pos h1, hl] at h; cases h; exact absurd rfl hc
    · rw [if_neg h1] at h; rw [if_neg (by omega), take_ext (by omega)]
      repeat' split at h
      all_goals first | cases h | skip
      all_goals simp_all
  · unfold readSize at h ⊢
    simp only [ext, List.length_append] at h ⊢
    have e8 : (s.bits.length + z.length) % 8 = s.bits.length % 8 := by omega
    rw [e8]
    by_cases h1 : s.bits.length % 8 ≠ 0
    · rw [if_pos h1] at h; cases h
    · rw [if_neg h1] at h ⊢
      by_cases h2 : s.bits.length < 32
      · rw [if_pos h2, hl] at h; cases h; exact absurd rfl hc
      · rw [if_neg h2] at h; rw [if_neg (by omega), take_ext (by omega), drop_take_ext (by omega)]
        split at h
        · next h3 => rw [if_pos h3]; exact h
        · cases h
  · unfold readBytes at h ⊢
    simp only [ext, List.length_append] at h ⊢
    by_cases h1 : s.left = 0
    · rw [if_pos h1] at h; cases h
    · rw [if_neg h1] at h ⊢
      by_cases h2 : s.bits.length < 8
      · rw [if_pos h2, hl] at h; cases h; exact absurd rfl hc
      · rw [if_neg h2] at h; rw [if_neg (by omega)]
        by_cases h3 : s.most ≤ s.total
        · rw [if_pos h3] at h ⊢; exact h
        · rw [if_neg h3] at h; cases h
  · unfold readHlit at h ⊢
    simp only [ext, List.length_append] at h ⊢
    by_cases h1 : s.bits.length < 5
    · rw [if_pos h1, hl] at h; cases h; exact absurd rfl hc
    · rw [if_neg h1] at h; rw [if_neg (by omega), take_ext (by omega)]
      split at h
      · next h3 => rw [if_pos h3]; exact h
      · cases h
  · unfold readHdist at h ⊢
    simp only [ext, List.length_append] at h ⊢
    by_cases h1 : s.bits.length < 5
    · rw [if_pos h1, hl] at h; cases h; exact absurd rfl hc
    · rw [if_neg h1] at h; rw [if_neg (by omega), take_ext (by omega)]
      split at h
      · next h3 => rw [if_pos h3]; exact h
      · cases h
  · unfold readHclen at h ⊢
    simp only [ext, List.length_append] at h ⊢
    by_cases h1 : s.bits.length < 4
    · rw [if_pos h1, hl] at h; cases h; exact absurd rfl hc
    · rw [if_neg h1] at h; cases h
  · unfold readCodeLengths at h ⊢
    simp only [ext, List.length_append] at h ⊢
    by_cases h0 : s.lens.length < s.hc
    · rw [if_pos h0] at h
      by_cases h1 : s.bits.length < 3
      · rw [if_pos h1, hl] at h; cases h; exact absurd rfl hc
      · rw [if_neg h1] at h; cases h
    · rw [if_neg h0] at h ⊢
      split at h
      · next h3 => rw [if_pos h3]; exact h
      · cases h
  · next hn =>
    unfold readLengths at h ⊢
    simp only [ext] at h ⊢
    by_cases h1 : s.lens.length < s.hl + s.hd
    · rw [if_pos h1] at h ⊢
      unfold readLength at h ⊢
      simp only at h ⊢
      obtain ⟨_, _, hs, hhs, hok, _⟩ := ho.l8 hn
      obtain ⟨hs2, hhs2, htl⟩ := g.hc hn
      obtain rfl : hs = hs2 := by rw [hhs] at hhs2; injection hhs2
      simp only [hhs, Option.getD_some] at h ⊢
      by_cases h2 : (sym hs s.bits).2.2 ≠ 0
      · rw [if_pos h2, bad5 he] at h
        injection h with h
        rcases sym_code hs s.bits with q | q | q
        · exact absurd q h2
        · have q2 := sym_none z hok htl q
          rw [if_pos (by rw [q2]; decide), q2, ← h, q]
          unfold bad; rw [if_neg (by decide)]
        · rw [q] at h; exact absurd h.symm hc
      · rw [if_neg h2] at h
        have h20 : (sym hs s.bits).2.2 = 0 := by omega
        rw [sym_ext z hok h20, if_neg h2]
        generalize (sym hs s.bits).1 = v at *
        generalize (sym hs s.bits).2.1 = n at *
        unfold readLen at h ⊢
        simp only [List.length_append] at h ⊢
        by_cases h3 : v = 16 ∧ s.lens = []
        · rw [if_pos h3] at h ⊢; exact h
        · rw [if_neg h3] at h ⊢
          by_cases h4 : s.bits.length < n + extra v
          · rw [if_pos h4, hl] at h; cases h; exact absurd rfl hc
          · rw [if_neg h4] at h; rw [if_neg (by omega), drop_take_ext (by omega)]
            split at h
            · next h5 => rw [if_pos h5]; exact h
            · cases h
    · rw [if_neg h1] at h ⊢
      split at h
      · next h5 => rw [if_pos h5]; exact h
      · cases h
  · next hn =>
    unfold readLiteral at h ⊢
    simp only [ext] at h ⊢
    obtain ⟨l, d, hl1, hd1, hokl, hokd⟩ := ho.lit (.inl hn)
    obtain ⟨l2, d2, hl2, hd2, htl, htd⟩ := g.ld (.inl hn)
    obtain rfl : l = l2 := by rw [hl1] at hl2; injection hl2
    simp only [hl1, Option.getD_some] at h ⊢
    by_cases h2 : (sym l s.bits).2.2 ≠ 0
    · rw [if_pos h2, bad5 he] at h
      injection h with h
      rcases sym_code l s.bits with q | q | q
      · exact absurd q h2
      · have q2 := sym_none z hokl htl q
        rw [if_pos (by rw [q2]; decide), q2, ← h, q]
        unfold bad; rw [if_neg (by decide)]
      · rw [q] at h; exact absurd h.symm hc
    · rw [if_neg h2] at h
      have h20 : (sym l s.bits).2.2 = 0 := by omega
      rw [sym_ext z hokl h20, if_neg h2]
      obtain ⟨_, _, _, hb, _, _⟩ := sym_ok h20
      generalize (sym l s.bits).1 = v at *
      generalize (sym l s.bits).2.1 = n at *
      unfold readLit at h ⊢
      simp only [List.length_append] at h ⊢
      by_cases h1 : v < 256
      · rw [if_pos h1] at h ⊢
        by_cases h3 : s.most ≤ s.total
        · rw [if_pos h3] at h ⊢; exact h
        · rw [if_neg h3] at h; cases h
      · rw [if_neg h1] at h ⊢
        by_cases h3 : v = 256
        · rw [if_pos h3] at h; cases h
        · rw [if_neg h3] at h ⊢
          split at h
          · exact h
          · next l x hb =>
            by_cases h4 : s.bits.length < n + x
            · rw [if_pos h4, hl] at h; cases h; exact absurd rfl hc
            · rw [if_neg h4] at h; cases h
  · next hn =>
    unfold readDistance at h ⊢
    simp only [ext] at h ⊢
    obtain ⟨l, d, hl1, hd1, hokl, hokd⟩ := ho.lit (.inr hn)
    obtain ⟨l2, d2, hl2, hd2, htl, htd⟩ := g.ld (.inr hn)
    obtain rfl : d = d2 := by rw [hd1] at hd2; injection hd2
    simp only [hd1, Option.getD_some] at h ⊢
    by_cases h1 : s.most < s.total + s.matching
    · rw [if_pos h1] at h ⊢; exact h
    · rw [if_neg h1] at h ⊢
      by_cases h2 : (sym d s.bits).2.2 ≠ 0
      · rw [if_pos h2, bad5 he] at h
        injection h with h
        rcases sym_code d s.bits with q | q | q
        · exact absurd q h2
        · have q2 := sym_none z hokd htd q
          rw [if_pos (by rw [q2]; decide), q2, ← h, q]
          unfold bad; rw [if_neg (by decide)]
        · rw [q] at h; exact absurd h.symm hc
      · rw [if_neg h2] at h
        have h20 : (sym d s.bits).2.2 = 0 := by omega
        rw [sym_ext z hokd h20, if_neg h2]
        generalize (sym d s.bits).1 = v at *
        generalize (sym d s.bits).2.1 = n at *
        unfold readDist at h ⊢
        simp only [List.length_append] at h ⊢
        split at h
        · exact h
        · next l x hb =>
          by_cases h4 : s.bits.length < n + x
          · rw [if_pos h4, hl] at h; cases h; exact absurd rfl hc
          · rw [if_neg h4] at h; rw [if_neg (by omega), drop_take_ext (by omega)]
            unfold copied at h ⊢
            simp only at h ⊢
            split at h
            · next h5 => rw [if_pos h5]; exact h
            · cases h
  · exact h

/-- Where more is wanted, and no more comes: it is refused. -/
abbrev shut (s : M) : M := { s with ended := true }
theorem halt_codes {s : M} {c : Nat} (h : step s = .halt c) : c = 0 ∨ c = 2 ∨ c = 3 ∨ c = 5 := by
  have hl : lack s = 2 ∨ lack s = 5 := by unfold lack; split; exact .inl rfl; exact .inr rfl
  have hb : ∀ (ls : List Nat) (bs : List Bool), bad s (sym ls bs).2.2 = 0 ∨ bad s (sym ls bs).2.2 = 2 ∨ bad s (sym ls bs).2.2 = 5 := fun ls bs => by
    unfold bad
    split
    · rcases hl with q | q <;> rw [q] <;> decide
    · rcases sym_code ls bs with q | q | q <;> rw [q] <;> decide
  unfold step opening readSize readBytes readHlit readHdist readHclen readCodeLengths readLengths readLength readLen readLiteral readLit readDistance readDist copied at h
  repeat' split at h
  all_goals first
    | (cases h; done)
    | (injection h with h; rw [← h]; rcases hl with q | q <;> rw [q] <;> decide)
    | (injection h with h; rw [← h]; rcases hb _ _ with q | q | q <;> rw [q] <;> decide)
    | (injection h with h; rw [← h]; decide)
end InfMath
end
