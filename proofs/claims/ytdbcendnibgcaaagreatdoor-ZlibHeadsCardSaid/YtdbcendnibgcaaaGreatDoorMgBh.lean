import Derived.Test.YtdbcendnibgcaaaGreatDoorMgBg

section
/-
  inflate's machine where it ends: with more bits behind, with no more to come; where bits lack. No program, no dump.
-/
namespace InfMath
open BitMath CanMath TabMath WinMath

theorem bits_step {s t : M} (h : step s = .more t) : t.bits.length ≤ s.bits.length := by
  have h1 := mu_step h
  have h2 := rank_le s.next
  unfold mu at h1
  omega
theorem bits_steps {s t : M} (h : Steps s t) : t.bits.length ≤ s.bits.length := by
  induction h with
  | refl => exact Nat.le_refl _
  | cons h _ ih => have := bits_step h; omega
theorem lack5 {s : M} (he : s.ended = false) : lack s = 5 := by unfold lack; rw [he]; rfl
theorem bad5 {s : M} (he : s.ended = false) (c : Nat) : bad s c = c := by
  by_cases h : c = 5
  · unfold bad; rw [if_pos h, lack5 he, h]
  · unfold bad; rw [if_neg h]

/-- Every set of steps comes to an end. -/
theorem ends_some (s : M) : ∃ t c, Ends s t c := by
  obtain ⟨n, hn⟩ : ∃ n, n = mu s := ⟨_, rfl⟩
  induction n using Nat.strongRecOn generalizing s with
  | ind n ih =>
    cases h : step s with
    | halt c => exact ⟨s, c, .refl _, h⟩
    | more t =>
      obtain ⟨u, c, hu⟩ := ih (mu t) (by have := mu_step h; omega) t rfl
      exact ⟨u, c, .one h hu⟩

/-- An end for another reason than that bits lack stays that end. -/
theorem halt_ext {s : M} {c : Nat} (z : List Bool) (hz : z.length % 8 = 0) (ho : Ok s) (g : Gd s) (he : s.ended = false) (hc : c ≠ 5) (h : step s = .halt c) : step (ext s z) = .halt c := by
  have hl := lack5 he
  unfold step at h ⊢
  have e : (ext s z).next = s.next := rfl
  rw [e]
  split at h
  · unfold opening at h ⊢
    simp only [ext, List.length_append] at h ⊢
    by_cases h1 : s.bits.length < 3
    · rw [if_pos h1, hl] at h; cases h; exact absurd rfl hc
    · rw [if_neg h1] at h; rw [if_neg (by omega), take_ext (by omega)]
      repeat' split at h
      all_goals first | cases h | skip
      all_goals simp_all
  · unfold readSize at h ⊢
    simp only [ext, List.length_append] at h ⊢
    have e8 : (s.bits.length + z.length) % 8 = s.bits.length % 8 := by omega
    rw [e8]
    by_cases h1 : s.bits.length % 8 ≠ 0
    · rw [if_pos h1] at h; cases h
    · rw [if_neg h1] at h ⊢
      by_cases h2 : s.bits.length < 32
      · rw [if_pos h2, hl] at h; cases h; exact absurd rfl hc
      · rw [if_neg h2] at h; rw [if_neg (by omega), take_ext (by omega), drop_take_ext (by omega)]
        split at h
        · next h3 => rw [if_pos h3]; exact h
        · cases h
  · unfold readBytes at h ⊢
    simp only [ext, List.length_append] at h ⊢
    by_cases h1 : s.left = 0
    · rw [if_pos h1] at h; cases h
    · rw [if_neg h1] at h ⊢
      by_cases h2 : s.bits.length < 8
      · rw [if_pos h2, hl] at h; cases h; exact absurd rfl hc
      · rw [if_neg h2] at h; rw [if_neg (by omega)]
        by_cases h3 : s.most ≤ s.total
        · rw [if_pos h3] at h ⊢; exact h
        · rw [if_neg h3] at h; cases h
  · unfold readHlit at h ⊢
    simp only [ext, List.length_append] at h ⊢
    by_cases h1 : s.bits.length < 5
    · rw [if_pos h1, hl] at h; cases h; exact absurd rfl hc
    · rw [if_neg h1] at h; rw [if_neg (by omega), take_ext (by omega)]
      split at h
      · next h3 => rw [if_pos h3]; exact h
      · cases h
  · unfold readHdist at h ⊢
    simp only [ext, List.length_append] at h ⊢
    by_cases h1 : s.bits.length < 5
    · rw [if_pos h1, hl] at h; cases h; exact absurd rfl hc
    · rw [if_neg h1] at h; rw [if_neg (by omega), take_ext (by omega)]
      split at h
      · next h3 => rw [if_pos h3]; exact h
      · cases h
  · unfold readHclen at h ⊢
    simp only [ext, List.length_append] at h ⊢
    by_cases h1 : s.bits.length < 4
    · rw [if_pos h1, hl] at h; cases h; exact absurd rfl hc
    · rw [if_neg h1] at h; cases h
  · unfold readCodeLengths at h ⊢
    simp only [ext, List.length_append] at h ⊢
    by_cases h0 : s.lens.length < s.hc
    · rw [if_pos h0] at h
      by_cases h1 : s.bits.length < 3
      · rw [if_pos h1, hl] at h; cases h; exact absurd rfl hc
      · rw [if_neg h1] at h; cases h
    · rw [if_neg h0] at h ⊢
      split at h
      · next h3 => rw [if_pos h3]; exact h
      · cases h
  · next hn =>
    unfold readLengths at h ⊢
    simp only [ext] at h ⊢
    by_cases h1 : s.lens.length < s.hl + s.hd
    · rw [if_pos h1] at h ⊢
      unfold readLength at h ⊢
      simp only at h ⊢
      obtain ⟨_, _, hs, hhs, hok, _⟩ := ho.l8 hn
      obtain ⟨hs2, hhs2, htl⟩ := g.hc hn
      obtain rfl : hs = hs2 := by rw [hhs] at hhs2; injection hhs2
      simp only [hhs, Option.getD_some] at h ⊢
      by_cases h2 : (sym hs s.bits).2.2 ≠ 0
      · rw [if_pos h2, bad5 he] at h
        injection h with h
        rcases sym_code hs s.bits with q | q | q
        · exact absurd q h2
        · have q2 := sym_none z hok htl q
          rw [if_pos (by rw [q2]; decide), q2, ← h, q]
          unfold bad; rw [if_neg (by decide)]
        · rw [q] at h; exact absurd h.symm hc
      · rw [if_neg h2] at h
        have h20 : (sym hs s.bits).2.2 = 0 := by omega
        rw [sym_ext z hok h20, if_neg h2]
        generalize (sym hs s.bits).1 = v at *
        generalize (sym hs s.bits).2.1 = n at *
        unfold readLen at h ⊢
        simp only [List.length_append] at h ⊢
        by_cases h3 : v = 16 ∧ s.lens = []
        · rw [if_pos h3] at h ⊢; exact h
        · rw [if_neg h3] at h ⊢
          by_cases h4 : s.bits.length < n + extra v
          · rw [if_pos h4, hl] at h; cases h; exact absurd rfl hc
          · rw [if_neg h4] at h; rw [if_neg (by omega), drop_take_ext (by omega)]
            split at h
            · next h5 => rw [if_pos h5]; exact h
            · cases h
    · rw [if_neg h1] at h ⊢
      split at h
      · next h5 => rw [if_pos h5]; exact h
      · cases h
  · next hn =>
    unfold readLiteral at h ⊢
    simp only [ext] at h ⊢
    obtain ⟨l, d, hl1, hd1, hokl, hokd⟩ := ho.lit (.inl hn)
    obtain ⟨l2, d2, hl2, hd2, htl, htd⟩ := g.ld (.inl hn)
    obtain rfl : l = l2 := by rw [hl1] at hl2; injection hl2
    simp only [hl1, Option.getD_some] at h ⊢
    by_cases h2 : (sym l s.bits).2.2 ≠ 0
    · rw [if_pos h2, bad5 he] at h
      injection h with h
      rcases sym_code l s.bits with q | q | q
      · exact absurd q h2
      · have q2 := sym_none z hokl htl q
        rw [if_pos (by rw [q2]; decide), q2, ← h, q]
        unfold bad; rw [if_neg (by decide)]
      · rw [q] at h; exact absurd h.symm hc
    · rw [if_neg h2] at h
      have h20 : (sym l s.bits).2.2 = 0 := by omega
      rw [sym_ext z hokl h20, if_neg h2]
      obtain ⟨_, _, _, hb, _, _⟩ := sym_ok h20
      generalize (sym l s.bits).1 = v at *
      generalize (sym l s.bits).2.1 = n at *
      unfold readLit at h ⊢
      simp only [List.length_append] at h ⊢
      by_cases h1 : v < 256
      · rw [if_pos h1] at h ⊢
        by_cases h3 : s.most ≤ s.total
        · rw [if_pos h3] at h ⊢; exact h
        · rw [if_neg h3] at h; cases h
      · rw [if_neg h1] at h ⊢
        by_cases h3 : v = 256
        · rw [if_pos h3] at h; cases h
        · rw [if_neg h3] at h ⊢
          split at h
          · exact h
          · next l x hb =>
            by_cases h4 : s.bits.length < n + x
            · rw [if_pos h4, hl] at h; cases h; exact absurd rfl hc
            · rw [if_neg h4] at h; cases h
  · next hn =>
    unfold readDistance at h ⊢
    simp only [ext] at h ⊢
    obtain ⟨l, d, hl1, hd1, hokl, hokd⟩ := ho.lit (.inr hn)
    obtain ⟨l2, d2, hl2, hd2, htl, htd⟩ := g.ld (.inr hn)
    obtain rfl : d = d2 := by rw [hd1] at hd2; injection hd2
    simp only [hd1, Option.getD_some] at h ⊢
    by_cases h1 : s.most < s.total + s.matching
    · rw [if_pos h1] at h ⊢; exact h
    · rw [if_neg h1] at h ⊢
      by_cases h2 : (sym d s.bits).2.2 ≠ 0
      · rw [if_pos h2, bad5 he] at h
        injection h with h
        rcases sym_code d s.bits with q | q | q
        · exact absurd q h2
        · have q2 := sym_none z hokd htd q
          rw [if_pos (by rw [q2]; decide), q2, ← h, q]
          unfold bad; rw [if_neg (by decide)]
        · rw [q] at h; exact absurd h.symm hc
      · rw [if_neg h2] at h
        have h20 : (sym d s.bits).2.2 = 0 := by omega
        rw [sym_ext z hokd h20, if_neg h2]
        generalize (sym d s.bits).1 = v at *
        generalize (sym d s.bits).2.1 = n at *
        unfold readDist at h ⊢
        simp only [List.length_append] at h ⊢
        split at h
        · exact h
        · next l x hb =>
          by_cases h4 : s.bits.length < n + x
          · rw [if_pos h4, hl] at h; cases h; exact absurd rfl hc
          · rw [if_neg h4] at h; rw [if_neg (by omega), drop_take_ext (by omega)]
            unfold copied at h ⊢
            simp only at h ⊢
            split at h
            · next h5 => rw [if_pos h5]; exact h
            · cases h
  · exact h

/-- A symbol whose bits lack takes more bits than there are. -/
theorem sym_short {ls : List Nat} {bs : List Bool} (z : List Bool) (hc : CodeOk ls) (h : (sym ls bs).2.2 = 5) (h2 : (sym ls (bs ++ z)).2.2 = 0) : bs.length < (sym ls (bs ++ z)).2.1 := by
  obtain ⟨k1, k2, k3, k4, k5, k6⟩ := sym_ok h2
  by_cases hx : bs.length < (sym ls (bs ++ z)).2.1
  · exact hx
  · exfalso
    generalize (sym ls (bs ++ z)).1 = i at *
    rw [k2] at hx k3 k5
    have hx2 : Has ls (num (bs.take 15)) i := by
      refine ⟨k1.1, ?_⟩
      rw [← k1.2, num_mod_take, num_mod_take, List.take_take, List.take_take, Nat.min_eq_left (by omega), take_ext (by omega)]
    unfold sym at h
    rw [who_some hc.all hc.kr hx2] at h
    simp only at h
    rw [if_neg (by omega), if_neg (by omega)] at h
    cases h
/-- Where bits lack, the step with bits behind takes some of these. -/
theorem short_step {s m : M} (z : List Bool) (hz : z.length % 8 = 0) (ho : Ok s) (h : step s = .halt 5) (h2 : step (ext s z) = .more m) : m.bits.length < z.length := by
  unfold step at h h2
  have e : (ext s z).next = s.next := rfl
  rw [e] at h2
  split at h
  · next hn =>
    rw [hn] at h2
    simp only at h2
    unfold opening at h h2
    simp only [ext, List.length_append] at h2
    by_cases h1 : s.bits.length < 3
    · repeat' split at h2
      all_goals first | cases h2 | skip
      all_goals simp; omega
    · rw [if_neg h1] at h
      repeat' split at h
      all_goals cases h
  · next hn =>
    rw [hn] at h2
    simp only at h2
    unfold readSize at h h2
    simp only [ext, List.length_append] at h2
    have e8 : (s.bits.length + z.length) % 8 = s.bits.length % 8 := by omega
    rw [e8] at h2
    by_cases h1 : s.bits.length % 8 ≠ 0
    · rw [if_pos h1] at h; cases h
    · rw [if_neg h1] at h h2
      by_cases h3 : s.bits.length < 32
      · repeat' split at h2
        all_goals first | cases h2 | skip
        all_goals simp; omega
      · rw [if_neg h3] at h
        split at h
        all_goals cases h
  · next hn =>
    rw [hn] at h2
    simp only at h2
    unfold readBytes at h h2
    simp only [ext, List.length_append, put] at h2
    by_cases h1 : s.left = 0
    · rw [if_pos h1] at h; cases h
    · rw [if_neg h1] at h h2
      by_cases h3 : s.bits.length < 8
      · repeat' split at h2
        all_goals first | cases h2 | skip
        all_goals simp; omega
      · rw [if_neg h3] at h
        split at h
        all_goals cases h
  · next hn =>
    rw [hn] at h2
    simp only at h2
    unfold readHlit at h h2
    simp only [ext, List.length_append] at h2
    by_cases h3 : s.bits.length < 5
    · repeat' split at h2
      all_goals first | cases h2 | skip
      all_goals simp; omega
    · rw [if_neg h3] at h
      split at h
      all_goals cases h
  · next hn =>
    rw [hn] at h2
    simp only at h2
    unfold readHdist at h h2
    simp only [ext, List.length_append] at h2
    by_cases h3 : s.bits.length < 5
    · repeat' split at h2
      all_goals first | cases h2 | skip
      all_goals simp; omega
    · rw [if_neg h3] at h
      split at h
      all_goals cases h
  · next hn =>
    rw [hn] at h2
    simp only at h2
    unfold readHclen at h h2
    simp only [ext, List.length_append] at h2
    by_cases h3 : s.bits.length < 4
    · repeat' split at h2
      all_goals first | cases h2 | skip
      all_goals simp; omega
    · rw [if_neg h3] at h
      cases h
  · next hn =>
    rw [hn] at h2
    simp only at h2
    unfold readCodeLengths at h h2
    simp only [ext, List.length_append] at h2
    by_cases h0 : s.lens.length < s.hc
    · rw [if_pos h0] at h h2
      by_cases h3 : s.bits.length < 3
      · repeat' split at h2
        all_goals first | cases h2 | skip
        all_goals simp; omega
      · rw [if_neg h3] at h
        cases h
    · rw [if_neg h0] at h
      split at h
      all_goals cases h
  · next hn =>
    rw [hn] at h2
    simp only at h2
    unfold readLengths at h h2
    simp only [ext] at h2
    by_cases h0 : s.lens.length < s.hl + s.hd
    · rw [if_pos h0] at h h2
      unfold readLength at h h2
      simp only at h2
      obtain ⟨_, _, hs, hhs, hok, _⟩ := ho.l8 hn
      simp only [hhs, Option.getD_some] at h h2
      by_cases h4 : (sym hs (s.bits ++ z)).2.2 ≠ 0
      · rw [if_pos h4] at h2; cases h2
      · rw [if_neg h4] at h2
        have h40 : (sym hs (s.bits ++ z)).2.2 = 0 := by omega
        rcases sym_code hs s.bits with q | q | q
        · have q1 := sym_ext z hok q
          rw [q1] at h2
          rw [q, if_neg (by decide)] at h
          generalize (sym hs s.bits).1 = v at *
          generalize (sym hs s.bits).2.1 = n at *
          unfold readLen at h h2
          simp only [List.length_append] at h2
          by_cases h3 : v = 16 ∧ s.lens = []
          · rw [if_pos h3] at h; cases h
          · rw [if_neg h3] at h h2
            by_cases h5 : s.bits.length < n + extra v
            · repeat' split at h2
              all_goals first | cases h2 | skip
              all_goals simp; omega
            · rw [if_neg h5] at h
              split at h
              all_goals cases h
        · rw [q, if_pos (by decide)] at h
          unfold bad at h
          rw [if_neg (by decide)] at h
          cases h
        · have q1 := sym_short z hok q h40
          generalize (sym hs (s.bits ++ z)).1 = v at *
          generalize (sym hs (s.bits ++ z)).2.1 = n at *
          unfold readLen at h2
          simp only [List.length_append] at h2
          repeat' split at h2
          all_goals first | cases h2 | skip
          all_goals simp; omega
    · rw [if_neg h0] at h
      split at h
      all_goals cases h
  · next hn =>
    rw [hn] at h2
    simp only at h2
    unfold readLiteral at h h2
    simp only [ext] at h2
    obtain ⟨l, d, hl1, hd1, hokl, hokd⟩ := ho.lit (.inl hn)
    simp only [hl1, Option.getD_some] at h h2
    by_cases h4 : (sym l (s.bits ++ z)).2.2 ≠ 0
    · rw [if_pos h4] at h2; cases h2
    · rw [if_neg h4] at h2
      have h40 : (sym l (s.bits ++ z)).2.2 = 0 := by omega
      rcases sym_code l s.bits with q | q | q
      · have q1 := sym_ext z hokl q
        rw [q1] at h2
        rw [q, if_neg (by decide)] at h
        generalize (sym l s.bits).1 = v at *
        generalize (sym l s.bits).2.1 = n at *
        unfold readLit at h h2
        simp only [List.length_append] at h2
        by_cases h1 : v < 256
        · rw [if_pos h1] at h
          split at h
          all_goals cases h
        · rw [if_neg h1] at h h2
          by_cases h3 : v = 256
          · rw [if_pos h3] at h; cases h
          · rw [if_neg h3] at h h2
            split at h
            · cases h
            · next l x hb =>
              simp only [hb] at h2
              by_cases h5 : s.bits.length < n + x
              · repeat' split at h2
                all_goals first | cases h2 | skip
                all_goals simp; omega
              · rw [if_neg h5] at h; cases h
      · rw [q, if_pos (by decide)] at h
        unfold bad at h
        rw [if_neg (by decide)] at h
        cases h
      · have q1 := sym_short z hokl q h40
        obtain ⟨_, _, _, hb2, _, _⟩ := sym_ok h40
        rw [List.length_append] at hb2
        generalize (sym l (s.bits ++ z)).1 = v at *
        generalize (sym l (s.bits ++ z)).2.1 = n at *
        unfold readLit close put at h2
        simp only [List.length_append] at h2
        repeat' split at h2
        all_goals first | cases h2 | skip
        all_goals simp; omega
  · next hn =>
    rw [hn] at h2
    simp only at h2
    unfold readDistance at h h2
    simp only [ext] at h2
    obtain ⟨l, d, hl1, hd1, hokl, hokd⟩ := ho.lit (.inr hn)
    simp only [hd1, Option.getD_some] at h h2
    by_cases h0 : s.most < s.total + s.matching
    · rw [if_pos h0] at h; cases h
    · rw [if_neg h0] at h h2
      by_cases h4 : (sym d (s.bits ++ z)).2.2 ≠ 0
      · rw [if_pos h4] at h2; cases h2
      · rw [if_neg h4] at h2
        have h40 : (sym d (s.bits ++ z)).2.2 = 0 := by omega
        rcases sym_code d s.bits with q | q | q
        · have q1 := sym_ext z hokd q
          rw [q1] at h2
          rw [q, if_neg (by decide)] at h
          generalize (sym d s.bits).1 = v at *
          generalize (sym d s.bits).2.1 = n at *
          unfold readDist at h h2
          simp only [List.length_append] at h2
          split at h
          · cases h
          · next l x hb =>
            simp only [hb] at h2
            by_cases h5 : s.bits.length < n + x
            · unfold copied at h2
              repeat' split at h2
              all_goals first | cases h2 | skip
              all_goals simp; omega
            · rw [if_neg h5] at h
              unfold copied at h
              split at h
              all_goals cases h
        · rw [q, if_pos (by decide)] at h
          unfold bad at h
          rw [if_neg (by decide)] at h
          cases h
        · have q1 := sym_short z hokd q h40
          generalize (sym d (s.bits ++ z)).1 = v at *
          generalize (sym d (s.bits ++ z)).2.1 = n at *
          unfold readDist copied at h2
          simp only [List.length_append] at h2
          repeat' split at h2
          all_goals first | cases h2 | skip
          all_goals simp; omega
  · cases h

/-- Where more is wanted, and no more comes: it is refused. -/
abbrev shut (s : M) : M := { s with ended := true }
theorem bad_shut (s : M) (c : Nat) : bad (shut s) c = if c = 5 then 2 else c := rfl
theorem shut_step {s : M} (h : step s = .halt 5) : step (shut s) = .halt 2 := by
  unfold step at h ⊢
  have e : (shut s).next = s.next := rfl
  have hl : lack (shut s) = 2 := rfl
  rw [e]
  split at h
  · unfold opening at h ⊢
    rw [hl]
    simp only at h ⊢
    repeat' split at h
    all_goals first | cases h | skip
    all_goals simp_all
  · unfold readSize at h ⊢
    rw [hl]
    simp only at h ⊢
    repeat' split at h
    all_goals first | cases h | skip
    all_goals simp_all
  · unfold readBytes at h ⊢
    rw [hl]
    simp only at h ⊢
    repeat' split at h
    all_goals first | cases h | skip
    all_goals simp_all
  · unfold readHlit at h ⊢
    rw [hl]
    simp only at h ⊢
    repeat' split at h
    all_goals first | cases h | skip
    all_goals simp_all
  · unfold readHdist at h ⊢
    rw [hl]
    simp only at h ⊢
    repeat' split at h
    all_goals first | cases h | skip
    all_goals simp_all
  · unfold readHclen at h ⊢
    rw [hl]
    simp only at h ⊢
    repeat' split at h
    all_goals first | cases h | skip
    all_goals simp_all
  · unfold readCodeLengths at h ⊢
    rw [hl]
    simp only at h ⊢
    repeat' split at h
    all_goals first | cases h | skip
    all_goals simp_all
  · unfold readLengths at h ⊢
    have e1 : (shut s).lens = s.lens := rfl
    have e2 : (shut s).hl = s.hl := rfl
    have e3 : (shut s).hd = s.hd := rfl
    have e4 : (shut s).hcode = s.hcode := rfl
    have e5 : (shut s).bits = s.bits := rfl
    rw [e1, e2, e3]
    by_cases h0 : s.lens.length < s.hl + s.hd
    · rw [if_pos h0] at h ⊢
      unfold readLength at h ⊢
      rw [e4, e5]
      rcases sym_code (s.hcode.getD []) s.bits with q | q | q
      · rw [q, if_neg (by decide)] at h ⊢
        unfold readLen at h ⊢
        rw [hl, e1, e2, e3, e5]
        generalize (sym (s.hcode.getD []) s.bits).1 = v at *
        generalize (sym (s.hcode.getD []) s.bits).2.1 = n at *
        by_cases h3 : v = 16 ∧ s.lens = []
        · rw [if_pos h3] at h; cases h
        · rw [if_neg h3] at h ⊢
          by_cases h5 : s.bits.length < n + extra v
          · rw [if_pos h5]
          · rw [if_neg h5] at h
            split at h
            all_goals cases h
      · rw [q, if_pos (by decide)] at h
        unfold bad at h
        rw [if_neg (by decide)] at h
        cases h
      · rw [q, if_pos (by decide), bad_shut, if_pos rfl]
    · rw [if_neg h0] at h
      split at h
      all_goals cases h
  · unfold readLiteral at h ⊢
    have e4 : (shut s).lit = s.lit := rfl
    have e5 : (shut s).bits = s.bits := rfl
    have e6 : (shut s).most = s.most := rfl
    have e7 : (shut s).total = s.total := rfl
    have e8 : (shut s).wide = s.wide := rfl
    rw [e4, e5]
    rcases sym_code (s.lit.getD []) s.bits with q | q | q
    · rw [q, if_neg (by decide)] at h ⊢
      unfold readLit at h ⊢
      rw [hl, e5, e6, e7, e8]
      generalize (sym (s.lit.getD []) s.bits).1 = v at *
      generalize (sym (s.lit.getD []) s.bits).2.1 = n at *
      by_cases h1 : v < 256
      · rw [if_pos h1] at h
        split at h
        all_goals cases h
      · rw [if_neg h1] at h ⊢
        by_cases h3 : v = 256
        · rw [if_pos h3] at h; cases h
        · rw [if_neg h3] at h ⊢
          split at h
          · cases h
          · next l x hb =>
            by_cases h5 : s.bits.length < n + x
            · rw [if_pos h5]
            · rw [if_neg h5] at h; cases h
    · rw [q, if_pos (by decide)] at h
      unfold bad at h
      rw [if_neg (by decide)] at h
      cases h
    · rw [q, if_pos (by decide), bad_shut, if_pos rfl]
  · unfold readDistance at h ⊢
    have e4 : (shut s).dist = s.dist := rfl
    have e5 : (shut s).bits = s.bits := rfl
    have e6 : (shut s).most = s.most := rfl
    have e7 : (shut s).total = s.total := rfl
    have e8 : (shut s).wide = s.wide := rfl
    have e9 : (shut s).matching = s.matching := rfl
    rw [e4, e5, e6, e7, e9]
    by_cases h0 : s.most < s.total + s.matching
    · rw [if_pos h0] at h; cases h
    · rw [if_neg h0] at h ⊢
      rcases sym_code (s.dist.getD []) s.bits with q | q | q
      · rw [q, if_neg (by decide)] at h ⊢
        unfold readDist at h ⊢
        rw [hl, e5, e8]
        generalize (sym (s.dist.getD []) s.bits).1 = v at *
        generalize (sym (s.dist.getD []) s.bits).2.1 = n at *
        split at h
        · cases h
        · next l x hb =>
          by_cases h5 : s.bits.length < n + x
          · rw [if_pos h5]
          · rw [if_neg h5] at h
            unfold copied at h
            split at h
            all_goals cases h
      · rw [q, if_pos (by decide)] at h
        unfold bad at h
        rw [if_neg (by decide)] at h
        cases h
      · rw [q, if_pos (by decide), bad_shut, if_pos rfl]
  · cases h
theorem halt_codes {s : M} {c : Nat} (h : step s = .halt c) : c = 0 ∨ c = 2 ∨ c = 3 ∨ c = 5 := by
  have hl : lack s = 2 ∨ lack s = 5 := by unfold lack; split; exact .inl rfl; exact .inr rfl
  have hb : ∀ (ls : List Nat) (bs : List Bool), bad s (sym ls bs).2.2 = 0 ∨ bad s (sym ls bs).2.2 = 2 ∨ bad s (sym ls bs).2.2 = 5 := fun ls bs => by
    unfold bad
    split
    · rcases hl with q | q <;> rw [q] <;> decide
    · rcases sym_code ls bs with q | q | q <;> rw [q] <;> decide
  unfold step opening readSize readBytes readHlit readHdist readHclen readCodeLengths readLengths readLength readLen readLiteral readLit readDistance readDist copied at h
  repeat' split at h
  all_goals first
    | (cases h; done)
    | (injection h with h; rw [← h]; rcases hl with q | q <;> rw [q] <;> decide)
    | (injection h with h; rw [← h]; rcases hb _ _ with q | q | q <;> rw [q] <;> decide)
    | (injection h with h; rw [← h]; decide)
end InfMath
end
