import Derived.Test.YtdbcendnibgcaaaGreatDoorMgBd

section
/-
  inflate's machine with more bits behind. No program, no dump.
-/
namespace InfMath
open BitMath CanMath TabMath WinMath

abbrev ext (s : M) (z : List Bool) : M := { s with bits := s.bits ++ z }

theorem take_ext {bs z : List Bool} {n : Nat} (h : n ≤ bs.length) : (bs ++ z).take n = bs.take n := List.take_append_of_le_length h
theorem drop_ext {bs z : List Bool} {n : Nat} (h : n ≤ bs.length) : (bs ++ z).drop n = bs.drop n ++ z := List.drop_append_of_le_length h
theorem drop_take_ext {bs z : List Bool} {n x : Nat} (h : n + x ≤ bs.length) : ((bs ++ z).drop n).take x = (bs.drop n).take x := by
  rw [drop_ext (by omega), take_ext (by rw [List.length_drop]; omega)]

theorem num_mod_take (bs : List Bool) (a : Nat) : num bs % 2 ^ a = num (bs.take a) := by
  by_cases h : a ≤ bs.length
  · have e : num bs = num (bs.take a ++ bs.drop a) := by rw [List.take_append_drop]
    have hl : (bs.take a).length = a := by simp; omega
    rw [e, num_append, hl, Nat.add_mul_mod_self_left, Nat.mod_eq_of_lt]
    have := num_lt (bs.take a); rw [hl] at this; exact this
  · rw [List.take_of_length_le (by omega), Nat.mod_eq_of_lt]
    exact Nat.lt_of_lt_of_le (num_lt _) (Nat.pow_le_pow_right (by omega) (by omega))

/-- Bits behind change nothing of a symbol that stands there. -/
theorem sym_ext {ls : List Nat} {bs : List Bool} (z : List Bool) (hc : CodeOk ls) (h : (sym ls bs).2.2 = 0) : sym ls (bs ++ z) = sym ls bs := by
  obtain ⟨h1, h2, h3, h4, h5, h6⟩ := sym_ok h
  obtain ⟨i, hi⟩ : ∃ i, i = (sym ls bs).1 := ⟨_, rfl⟩
  rw [← hi] at h1 h2 h6
  have hn : ln ls i = (sym ls bs).2.1 := h2.symm
  have hs : sym ls bs = (i, ln ls i, 0) := by rw [← h2, hi, ← h]
  have hx : Has ls (num ((bs ++ z).take 15)) i := by
    refine ⟨h1.1, ?_⟩
    rw [← h1.2, num_mod_take, num_mod_take, List.take_take, List.take_take, Nat.min_eq_left (by omega), take_ext (by omega)]
  rw [hs]
  unfold sym
  rw [who_some hc.all hc.kr hx]
  have e1 : ¬ ln ls i = 0 := by have := h1.1; omega
  simp only
  rw [if_neg e1, if_neg (by simp; omega)]
/-- Codes that tell the end of what is no code. -/
def Tells (ls : List Nat) : Prop := kd ls ≤ 2
theorem sym_none {ls : List Nat} {bs : List Bool} (z : List Bool) (hc : CodeOk ls) (ht : Tells ls) (h : (sym ls bs).2.2 = 2) : (sym ls (bs ++ z)).2.2 = 2 := by
  have hw : (who ls (num (bs.take 15))).l = 0 := by
    unfold sym at h
    by_cases h1 : (who ls (num (bs.take 15))).l = 0
    · exact h1
    · rw [if_neg h1] at h
      split at h <;> simp at h
  have hno : ∀ i, ¬ Has ls (num (bs.take 15)) i := fun i hi => by
    rw [who_some hc.all hc.kr hi] at hw
    have := hi.1
    simp only at hw
    omega
  suffices hs : ∀ i, ¬ Has ls (num ((bs ++ z).take 15)) i by
    unfold sym
    rw [who_none hs]
    rfl
  unfold Tells kd at ht
  by_cases h4 : 32768 < CanMath.kr ls
  · rw [if_pos h4] at ht; omega
  · rw [if_neg h4] at ht
    by_cases h0 : CanMath.kr ls = 0
    · intro i hi
      have h1 := hi.1
      have hl := ln_lt h1
      have h2 := start_room ls hc.all i hl (by rw [← ln_eq ls i hl]; exact h1)
      have h3 := share_pos (n := ls[i]) (by rw [← ln_eq ls i hl]; exact h1)
      omega
    · rw [if_neg h0] at ht
      by_cases h1 : CanMath.kr ls = 32768
      · exfalso
        obtain ⟨i, hi⟩ := fits_some ls hc.all (rc 15 (num (bs.take 15))) (by rw [h1]; exact rc_lt 15 _)
        exact hno i ((has_fits hc.all hc.kr _ _).2 hi)
      · rw [if_neg h1] at ht
        by_cases h2 : CanMath.kr ls = 16384 ∧ ls.count 1 = 1
        · obtain ⟨k, hk, hk1, _⟩ := count_at ls 1 0 (by omega)
          have hlk : ln ls k = 1 := by rw [ln_eq ls k hk]; exact hk1
          have hs := start_room ls hc.all k hk (by omega)
          have hwd : wd ls k = 0 := by
            have hcl := (has_fits hc.all hc.kr (wd ls k) k).1 ⟨by omega, Nat.mod_eq_of_lt (wd_lt ls k)⟩
            obtain ⟨_, _, hf⟩ := hcl
            have hlt := wd_lt ls k
            rw [hlk] at hlt
            rcases (by omega : wd ls k = 0 ∨ wd ls k = 1) with h | h
            · exact h
            · rw [h] at hf
              rw [hk1] at hf hs
              have : rc 15 1 / 2 ^ (15 - 1) = 1 := by decide +kernel
              rw [this] at hf
              unfold CanMath.start at hs
              rw [← hf] at hs
              have : share 1 = 16384 := by decide
              omega
          have honly : ∀ i, 1 ≤ ln ls i → i = k := by
            intro i hi
            have hl := ln_lt hi
            by_cases he : i = k
            · exact he
            · exfalso
              have hi2 : 1 ≤ ls[i] := by rw [← ln_eq ls i hl]; exact hi
              have h3 := start_room ls hc.all i hl hi2
              have h5 := share_pos (n := ls[i]) hi2
              have h6 := sides ls hc.all i k hl hk hi2 (by omega) he
              rw [hk1] at h6 hs
              have : share 1 = 16384 := by decide
              omega
          intro i hi
          have he := honly i hi.1
          subst he
          refine hno i ⟨hi.1, ?_⟩
          have hx := hi.2
          rw [hlk, hwd, num_mod_take, List.take_take] at hx
          rw [hlk, hwd, num_mod_take, List.take_take]
          rcases bs with _ | ⟨b, bs⟩
          · rfl
          · simpa using hx
        · rw [if_neg h2] at ht; omega

/-- The codes in use are good ones. -/
structure Gd (s : M) : Prop where
  hc : s.next = 8 → ∃ hs, s.hcode = some hs ∧ Tells hs
  ld : s.next = 9 ∨ s.next = 10 → ∃ l d, s.lit = some l ∧ s.dist = some d ∧ Tells l ∧ Tells d
theorem gd_other {t : M} (h : t.next ≠ 8 ∧ t.next ≠ 9 ∧ t.next ≠ 10) : Gd t := ⟨fun e => absurd e h.1, fun e => by rcases e with e | e; exact absurd e h.2.1; exact absurd e h.2.2⟩
theorem fix_tells : Tells fixL ∧ Tells fixD := ⟨by unfold Tells; decide +kernel, by unfold Tells; decide +kernel⟩
theorem gd_step {s t : M} (g : Gd s) (h : step s = .more t) : Gd t := by
  unfold step at h
  split at h
  · unfold opening at h
    have hf : ∃ l d, some fixL = some l ∧ some fixD = some d ∧ Tells l ∧ Tells d := ⟨_, _, rfl, rfl, fix_tells⟩
    generalize fixL = fl at *
    generalize fixD = fd at *
    repeat' split at h
    all_goals cases h
    · exact gd_other (by simp)
    · exact ⟨by simp, fun _ => hf⟩
    · exact gd_other (by simp)
  · next hn =>
    unfold readSize at h
    repeat' split at h
    all_goals cases h
    · exact gd_other (by simp [hn])
    · exact gd_other (by simp)
  · next hn =>
    unfold readBytes close put at h
    repeat' split at h
    all_goals cases h
    all_goals exact gd_other (by simp <;> omega)
  · unfold readHlit at h
    repeat' split at h
    all_goals cases h
    exact gd_other (by simp)
  · unfold readHdist at h
    repeat' split at h
    all_goals cases h
    exact gd_other (by simp)
  · unfold readHclen at h
    repeat' split at h
    all_goals cases h
    exact gd_other (by simp)
  · next hn =>
    unfold readCodeLengths at h
    split at h
    · repeat' split at h
      all_goals cases h
      exact gd_other (by simp [hn])
    · split at h
      · cases h
      · next hk => cases h; exact ⟨fun _ => ⟨_, rfl, by unfold Tells; omega⟩, by simp⟩
  · next hn =>
    unfold readLengths at h
    split at h
    · unfold readLength at h
      split at h
      · cases h
      · unfold readLen at h
        repeat' split at h
        all_goals cases h
        exact ⟨fun _ => g.hc hn, by simp [hn]⟩
    · split at h
      · cases h
      · next hg =>
        cases h
        simp only [goodCodes, usable, Bool.not_eq_false, Bool.and_eq_true, Bool.or_eq_true, beq_iff_eq] at hg
        exact ⟨by simp, fun _ => ⟨_, _, rfl, rfl, by unfold Tells; omega, by unfold Tells; omega⟩⟩
  · next hn =>
    unfold readLiteral at h
    split at h
    · cases h
    · unfold readLit close put at h
      split at h
      · split at h
        · cases h
        · cases h; exact ⟨by simp [hn], fun _ => g.ld (.inl hn)⟩
      · split at h
        · cases h
          refine gd_other ?_
          simp only
          cases s.final <;> simp
        · split at h
          · cases h
          · split at h
            · cases h
            · cases h; exact ⟨by simp, fun _ => g.ld (.inl hn)⟩
  · next hn =>
    unfold readDistance at h
    split at h
    · cases h
    · split at h
      · cases h
      · unfold readDist at h
        split at h
        · cases h
        · split at h
          · cases h
          · unfold copied at h
            split at h
            · cases h
            · cases h; exact ⟨by simp, fun _ => g.ld (.inr hn)⟩
  · cases h
theorem gd_steps {s t : M} (g : Gd s) (h : Steps s t) : Gd t := by
  induction h with
  | refl => exact g
  | cons h _ ih => exact ih (gd_step g h)

theorem bits_ext (s : M) (z : List Bool) : (ext s z).bits = s.bits ++ z := rfl
/-- A step goes the same way with bits behind. -/
theorem ext_step {s t : M} (z : List Bool) (hz : z.length % 8 = 0) (ho : Ok s) (h : step s = .more t) : step (ext s z) = .more (ext t z) := by
  have ho2 := ho.step h
  unfold step at h ⊢
  have e : (ext s z).next = s.next := rfl
  rw [e]
  split at h
  · unfold opening at h ⊢
    simp only [ext, List.length_append] at h ⊢
    by_cases h1 : s.bits.length < 3
    · rw [if_pos h1] at h; cases h
    · rw [if_neg h1] at h; rw [if_neg (by omega), take_ext (by omega), drop_ext (by omega)]
      repeat' split at h
      all_goals first | cases h | skip
      all_goals simp_all
  · unfold readSize at h ⊢
    simp only [ext, List.length_append] at h ⊢
    have e8 : (s.bits.length + z.length) % 8 = s.bits.length % 8 := by omega
    rw [e8]
    by_cases h1 : s.bits.length % 8 ≠ 0
    · rw [if_pos h1] at h ⊢; cases h; simp only; rw [drop_ext (Nat.mod_le _ _)]
    · rw [if_neg h1] at h ⊢
      by_cases h2 : s.bits.length < 32
      · rw [if_pos h2] at h; cases h
      · rw [if_neg h2] at h; rw [if_neg (by omega), take_ext (by omega), drop_take_ext (by omega), drop_ext (by omega)]
        split at h
        · cases h
        · next h3 => rw [if_neg h3]; cases h; rfl
  · unfold readBytes at h ⊢
    simp only [ext, List.length_append, close, put] at h ⊢
    by_cases h1 : s.left = 0
    · rw [if_pos h1] at h ⊢; cases h; rfl
    · rw [if_neg h1] at h ⊢
      by_cases h2 : s.bits.length < 8
      · rw [if_pos h2] at h; cases h
      · rw [if_neg h2] at h; rw [if_neg (by omega), take_ext (by omega), drop_ext (by omega)]
        by_cases h3 : s.most ≤ s.total
        · rw [if_pos h3] at h; cases h
        · rw [if_neg h3] at h ⊢; cases h; rfl
  · unfold readHlit at h ⊢
    simp only [ext, List.length_append] at h ⊢
    by_cases h1 : s.bits.length < 5
    · rw [if_pos h1] at h; cases h
    · rw [if_neg h1] at h; rw [if_neg (by omega), take_ext (by omega), drop_ext (by omega)]
      split at h
      · cases h
      · next h3 => rw [if_neg h3]; cases h; rfl
  · unfold readHdist at h ⊢
    simp only [ext, List.length_append] at h ⊢
    by_cases h1 : s.bits.length < 5
    · rw [if_pos h1] at h; cases h
    · rw [if_neg h1] at h; rw [if_neg (by omega), take_ext (by omega), drop_ext (by omega)]
      split at h
      · cases h
      · next h3 => rw [if_neg h3]; cases h; rfl
  · unfold readHclen at h ⊢
    simp only [ext, List.length_append] at h ⊢
    by_cases h1 : s.bits.length < 4
    · rw [if_pos h1] at h; cases h
    · rw [if_neg h1] at h; rw [if_neg (by omega), take_ext (by omega), drop_ext (by omega)]; cases h; rfl
  · unfold readCodeLengths at h ⊢
    simp only [ext, List.length_append] at h ⊢
    by_cases h0 : s.lens.length < s.hc
    · rw [if_pos h0] at h ⊢
      by_cases h1 : s.bits.length < 3
      · rw [if_pos h1] at h; cases h
      · rw [if_neg h1] at h; rw [if_neg (by omega), take_ext (by omega), drop_ext (by omega)]; cases h; rfl
    · rw [if_neg h0] at h ⊢
      split at h
      · cases h
      · next h3 => rw [if_neg h3]; cases h; rfl
  · next hn =>
    unfold readLengths at h ⊢
    simp only [ext] at h ⊢
    by_cases h1 : s.lens.length < s.hl + s.hd
    · rw [if_pos h1] at h ⊢
      unfold readLength at h ⊢
      simp only at h ⊢
      obtain ⟨_, _, hs, hhs, hok, _⟩ := ho.l8 hn
      simp only [hhs, Option.getD_some] at h ⊢
      by_cases h2 : (sym hs s.bits).2.2 ≠ 0
      · rw [if_pos h2] at h; cases h
      · rw [if_neg h2] at h
        have h20 : (sym hs s.bits).2.2 = 0 := by omega
        rw [sym_ext z hok h20, if_neg h2]
        obtain ⟨_, _, _, hb, _, _⟩ := sym_ok h20
        generalize (sym hs s.bits).1 = v at *
        generalize (sym hs s.bits).2.1 = n at *
        unfold readLen at h ⊢
        simp only [List.length_append] at h ⊢
        by_cases h3 : v = 16 ∧ s.lens = []
        · rw [if_pos h3] at h; cases h
        · rw [if_neg h3] at h ⊢
          by_cases h4 : s.bits.length < n + extra v
          · rw [if_pos h4] at h; cases h
          · rw [if_neg h4] at h; rw [if_neg (by omega), drop_take_ext (by omega), drop_ext (by omega)]
            split at h
            · cases h
            · next h5 => rw [if_neg h5]; cases h; first | rfl | rw [← hhs]
    · rw [if_neg h1] at h ⊢
      split at h
      · cases h
      · next h5 => rw [if_neg h5]; cases h; first | rfl | rw [← hhs]
  · next hn =>
    unfold readLiteral at h ⊢
    simp only [ext] at h ⊢
    obtain ⟨l, d, hl, hd, hokl, hokd⟩ := ho.lit (.inl hn)
    simp only [hl, Option.getD_some] at h ⊢
    by_cases h2 : (sym l s.bits).2.2 ≠ 0
    · rw [if_pos h2] at h; cases h
    · rw [if_neg h2] at h
      have h20 : (sym l s.bits).2.2 = 0 := by omega
      rw [sym_ext z hokl h20, if_neg h2]
      obtain ⟨_, _, _, hb, _, _⟩ := sym_ok h20
      generalize (sym l s.bits).1 = v at *
      generalize (sym l s.bits).2.1 = n at *
      unfold readLit at h ⊢
      simp only [close, put, List.length_append] at h ⊢
      by_cases h1 : v < 256
      · rw [if_pos h1] at h ⊢
        by_cases h3 : s.most ≤ s.total
        · rw [if_pos h3] at h; cases h
        · rw [if_neg h3] at h ⊢; rw [drop_ext hb]; cases h; first | rfl | rw [← hl]
      · rw [if_neg h1] at h ⊢
        by_cases h3 : v = 256
        · rw [if_pos h3] at h ⊢; rw [drop_ext hb]; cases h; first | rfl | rw [← hl]
        · rw [if_neg h3] at h ⊢
          split at h
          · cases h
          · next l x hb =>
            by_cases h4 : s.bits.length < n + x
            · rw [if_pos h4] at h; cases h
            · rw [if_neg h4] at h; rw [if_neg (by omega), drop_take_ext (by omega), drop_ext (by omega)]; cases h; first | rfl | rw [← hl]
  · next hn =>
    unfold readDistance at h ⊢
    simp only [ext] at h ⊢
    obtain ⟨l, d, hl, hd, hokl, hokd⟩ := ho.lit (.inr hn)
    simp only [hd, Option.getD_some] at h ⊢
    by_cases h1 : s.most < s.total + s.matching
    · rw [if_pos h1] at h; cases h
    · rw [if_neg h1] at h ⊢
      by_cases h2 : (sym d s.bits).2.2 ≠ 0
      · rw [if_pos h2] at h; cases h
      · rw [if_neg h2] at h
        have h20 : (sym d s.bits).2.2 = 0 := by omega
        rw [sym_ext z hokd h20, if_neg h2]
        generalize (sym d s.bits).1 = v at *
        generalize (sym d s.bits).2.1 = n at *
        unfold readDist at h ⊢
        simp only [List.length_append] at h ⊢
        split at h
        · cases h
        · next l x hb =>
          by_cases h4 : s.bits.length < n + x
          · rw [if_pos h4] at h; cases h
          · rw [if_neg h4] at h; rw [if_neg (by omega), drop_take_ext (by omega)]
            unfold copied at h ⊢
            simp only at h ⊢
            rw [drop_ext (by omega)]
            split at h
            · cases h
            · next h5 => rw [if_neg h5]; cases h; first | rfl | rw [← hd]
  · cases h
theorem ext_steps {s t : M} (z : List Bool) (hz : z.length % 8 = 0) (ho : Ok s) (h : Steps s t) : Steps (ext s z) (ext t z) := by
  induction h with
  | refl => exact .refl _
  | cons h _ ih => exact .cons (ext_step z hz ho h) (ih (ho.step h))
end InfMath
end
