import Derived.Test.YtdbcendnibgcaaaGreatDoorMgAv

section
/-
  inflate's machine: what holds of it all the time, and that it ends. No program, no dump.
-/
namespace InfMath
open BitMath CanMath TabMath WinMath

structure CodeOk (ls : List Nat) : Prop where
  len : ls.length ≤ 288
  all : ∀ x ∈ ls, x ≤ 15
  kr : kr ls ≤ 32768
theorem usable_kr {ls : List Nat} (h : usable ls = true) : CanMath.kr ls ≤ 32768 := by
  unfold usable kd at h
  by_cases h1 : 32768 < CanMath.kr ls
  · simp [h1] at h
  · omega
theorem kd_kr {ls : List Nat} {k : Nat} (h : kd ls = k) (hk : k ≠ 4) : CanMath.kr ls ≤ 32768 := by
  unfold kd at h
  by_cases h1 : 32768 < CanMath.kr ls
  · simp [h1] at h; omega
  · omega

theorem who_l (ls : List Nat) (v : Nat) : (who ls v).l = 0 ∧ (who ls v).v = 0 ∨ ∃ i, Has ls v i ∧ (who ls v).v = i ∧ (who ls v).l = ln ls i := by
  unfold who
  split
  · next i hi =>
    have h1 := List.find?_some hi
    exact .inr ⟨i, of_decide_eq_true h1, rfl, rfl⟩
  · exact .inl ⟨rfl, rfl⟩
theorem sym_ok {ls : List Nat} {bs : List Bool} (h : (sym ls bs).2.2 = 0) :
    Has ls (num (bs.take 15)) (sym ls bs).1 ∧ (sym ls bs).2.1 = ln ls (sym ls bs).1 ∧ 1 ≤ (sym ls bs).2.1 ∧ (sym ls bs).2.1 ≤ bs.length ∧ (sym ls bs).2.1 ≤ 15 ∧ (sym ls bs).1 < ls.length := by
  unfold sym at h ⊢
  by_cases h1 : (who ls (num (bs.take 15))).l = 0
  · rw [if_pos h1] at h; simp at h
  · rw [if_neg h1] at h ⊢
    by_cases h2 : min bs.length 15 < (who ls (num (bs.take 15))).l
    · rw [if_pos h2] at h; simp at h
    · rw [if_neg h2]
      rcases who_l ls (num (bs.take 15)) with hw | ⟨i, hi, h3, h4⟩
      · exact absurd hw.1 h1
      · have h5 := hi.1
        have h6 := ln_lt hi.1
        exact ⟨by rw [h3]; exact hi, by rw [h3, h4], by simp only; omega, by simp only; omega, by simp only; omega, by rw [h3]; exact h6⟩
theorem sym_code (ls : List Nat) (bs : List Bool) : (sym ls bs).2.2 = 0 ∨ (sym ls bs).2.2 = 2 ∨ (sym ls bs).2.2 = 5 := by
  unfold sym; split
  · exact .inr (.inl rfl)
  · split
    · exact .inr (.inr rfl)
    · exact .inl rfl

structure Ok (s : M) : Prop where
  tot : s.total = s.hist.length
  size1 : 1 ≤ s.size
  size2 : s.size ≤ 65536
  most : s.most ≤ 1073741824
  room : s.total ≤ s.most
  outl : s.out.length ≤ s.total
  psh : s.pushed ≤ 100000000
  bnd : s.bits.length ≤ 8 * s.pushed
  next1 : 1 ≤ s.next
  next2 : s.next ≤ 11
  left : s.left ≤ 65535
  al : s.next = 3 → s.bits.length % 8 = 0
  hl : 5 ≤ s.next → s.next ≤ 8 → 257 ≤ s.hl ∧ s.hl ≤ 286
  hd : 6 ≤ s.next → s.next ≤ 8 → 1 ≤ s.hd ∧ s.hd ≤ 32
  hc : s.next = 7 → 4 ≤ s.hc ∧ s.hc ≤ 19
  l0 : 5 ≤ s.next → s.next ≤ 6 → s.lens = []
  l7 : s.next = 7 → s.lens.length ≤ s.hc ∧ ∀ x ∈ s.lens, x ≤ 7
  l8 : s.next = 8 → s.lens.length ≤ s.hl + s.hd ∧ (∀ x ∈ s.lens, x ≤ 15) ∧ ∃ hs, s.hcode = some hs ∧ CodeOk hs ∧ hs.length = 19
  lit : s.next = 9 ∨ s.next = 10 → ∃ l d, s.lit = some l ∧ s.dist = some d ∧ CodeOk l ∧ CodeOk d
  mat : s.next = 10 → 3 ≤ s.matching ∧ s.matching ≤ 65538

theorem fixL_ok : CodeOk fixL := ⟨by decide +kernel, by decide +kernel, by decide +kernel⟩
theorem fixD_ok : CodeOk fixD := ⟨by decide +kernel, by decide +kernel, by decide +kernel⟩
theorem num_take_lt (bs : List Bool) (n : Nat) : num (bs.take n) < 2 ^ n :=
  Nat.lt_of_lt_of_le (num_lt _) (Nat.pow_le_pow_right (by omega) (by simp; omega))
theorem scat_len (lens : List Nat) (i : Nat) : (scat lens i).length = 19 := by
  induction i with
  | zero => simp [scat]
  | succ i ih => simp [scat, ih]
theorem scat_all (lens : List Nat) (b : Nat) (h : ∀ x ∈ lens, x ≤ b) (i : Nat) : ∀ x ∈ scat lens i, x ≤ b := by
  induction i with
  | zero => intro x hx; simp [scat] at hx; omega
  | succ i ih =>
    intro x hx
    rcases List.mem_or_eq_of_mem_set hx with h1 | rfl
    · exact ih x h1
    · by_cases hi : i < lens.length
      · rw [List.getD_eq_getElem?_getD, List.getElem?_eq_getElem hi]; exact h _ (List.getElem_mem hi)
      · rw [List.getD_eq_getElem?_getD, List.getElem?_eq_none (by omega)]; simp
theorem base_le {v : Nat} {wide : Bool} {l x : Nat} (h : base v wide = some (l, x)) : 3 ≤ l ∧ l + 2 ^ x ≤ 65539 ∧ x ≤ 16 := by
  unfold base at h
  by_cases h1 : v < 257 ∨ 285 < v
  · rw [if_pos h1] at h; cases h
  · rw [if_neg h1] at h
    by_cases h2 : v < 265
    · rw [if_pos h2] at h
      simp only [Option.some.injEq, Prod.mk.injEq] at h
      obtain ⟨h3, rfl⟩ := h
      omega
    · rw [if_neg h2] at h
      by_cases h3 : v < 285
      · rw [if_pos h3] at h
        obtain ⟨q, hq⟩ : ∃ q, q = (v - 265) / 4 := ⟨_, rfl⟩
        rw [← hq] at h
        have hq4 : q ≤ 4 := by omega
        have hm : (v - 265) % 4 < 4 := Nat.mod_lt _ (by omega)
        generalize (v - 265) % 4 = m at *
        clear h1 h2 h3 hq
        simp only [Option.some.injEq, Prod.mk.injEq] at h
        obtain ⟨h1, rfl⟩ := h
        rcases (by omega : q = 0 ∨ q = 1 ∨ q = 2 ∨ q = 3 ∨ q = 4) with rfl | rfl | rfl | rfl | rfl <;> simp at h1 ⊢ <;> omega
      · rw [if_neg h3] at h
        cases wide
        · simp at h
          obtain ⟨rfl, rfl⟩ := h
          simp
        · simp at h
          obtain ⟨rfl, rfl⟩ := h
          simp
theorem far_le {v : Nat} {wide : Bool} {l x : Nat} (h : far v wide = some (l, x)) : 1 ≤ l ∧ l + 2 ^ x ≤ 65537 ∧ x ≤ 14 := by
  unfold far at h
  have hl : lastD wide ≤ 31 := by unfold lastD; split <;> omega
  split at h
  · cases h
  · split at h
    · cases h; omega
    · injection h with h
      injection h with h1 h2
      have hq4 : v / 2 - 1 ≤ 14 := by omega
      have hm : v % 2 < 2 := Nat.mod_lt _ (by omega)
      generalize v % 2 = m at *
      generalize v / 2 - 1 = q at *
      subst h2
      rcases (by omega : q = 0 ∨ q = 1 ∨ q = 2 ∨ q = 3 ∨ q = 4 ∨ q = 5 ∨ q = 6 ∨ q = 7 ∨ q = 8 ∨ q = 9 ∨ q = 10 ∨ q = 11 ∨ q = 12 ∨ q = 13 ∨ q = 14) with rfl | rfl | rfl | rfl | rfl | rfl | rfl | rfl | rfl | rfl | rfl | rfl | rfl | rfl | rfl <;> simp at h1 ⊢ <;> omega

section
variable {s t : M}
theorem ok_opening (h : Ok s) (_hn : s.next = 1) (e : opening s = .more t) : Ok t := by
  unfold opening at e
  obtain ⟨a1, a2, a3, a4, a5, a6, a7, a8, a9, a10, a11, a12, a13, a14, a15, a16, a17, a18, a19, a20⟩ := h
  by_cases h1 : s.bits.length < 3
  · rw [if_pos h1] at e; cases e
  · rw [if_neg h1] at e
    by_cases h2 : num (s.bits.take 3) / 2 = 0
    · rw [if_pos h2] at e; cases e
      constructor <;> simp <;> omega
    · rw [if_neg h2] at e
      by_cases h3 : num (s.bits.take 3) / 2 = 1
      · rw [if_pos h3] at e
        have hc : ∃ l d, some fixL = some l ∧ some fixD = some d ∧ CodeOk l ∧ CodeOk d := ⟨_, _, rfl, rfl, fixL_ok, fixD_ok⟩
        generalize fixL = fl at *
        generalize fixD = fd at *
        cases e
        exact ⟨a1, a2, a3, a4, a5, a6, a7, by simp; omega, by simp, by simp, a11, by simp, by simp, by simp, by simp, by simp, by simp, by simp, fun _ => hc, by simp⟩
      · rw [if_neg h3] at e
        by_cases h4 : num (s.bits.take 3) / 2 = 2
        · rw [if_pos h4] at e; cases e
          constructor <;> simp <;> omega
        · rw [if_neg h4] at e; cases e
theorem ok_readSize (h : Ok s) (hn : s.next = 2) (e : readSize s = .more t) : Ok t := by
  unfold readSize at e
  obtain ⟨a1, a2, a3, a4, a5, a6, a7, a8, a9, a10, a11, a12, a13, a14, a15, a16, a17, a18, a19, a20⟩ := h
  split at e
  · cases e
    constructor <;> simp [hn] <;> omega
  · split at e
    · cases e
    · split at e
      · cases e
      · cases e
        have := num_take_lt s.bits 16
        constructor <;> simp <;> omega
theorem ok_close (h : Ok s) (_hn : s.next = 3 ∨ s.next = 9) : Ok (close s) := by
  obtain ⟨a1, a2, a3, a4, a5, a6, a7, a8, a9, a10, a11, a12, a13, a14, a15, a16, a17, a18, a19, a20⟩ := h
  unfold close
  cases s.final
  · constructor <;> simp <;> omega
  · constructor <;> simp <;> omega
theorem ok_readBytes (h : Ok s) (hn : s.next = 3) (e : readBytes s = .more t) : Ok t := by
  unfold readBytes at e
  split at e
  · cases e; exact ok_close h (.inl hn)
  · split at e
    · cases e
    · split at e
      · cases e
      · cases e
        obtain ⟨a1, a2, a3, a4, a5, a6, a7, a8, a9, a10, a11, a12, a13, a14, a15, a16, a17, a18, a19, a20⟩ := h
        clear a13 a14 a15 a16 a17 a18 a19 a20
        constructor <;> simp [put, hn] <;> omega
theorem ok_readHlit (h : Ok s) (_hn : s.next = 4) (e : readHlit s = .more t) : Ok t := by
  unfold readHlit at e
  split at e
  · cases e
  · split at e
    · cases e
    · cases e
      obtain ⟨a1, a2, a3, a4, a5, a6, a7, a8, a9, a10, a11, a12, a13, a14, a15, a16, a17, a18, a19, a20⟩ := h
      constructor <;> simp <;> omega
theorem ok_readHdist (h : Ok s) (hn : s.next = 5) (e : readHdist s = .more t) : Ok t := by
  unfold readHdist at e
  split at e
  · cases e
  · split at e
    · cases e
    · cases e
      have hl : lastD s.wide ≤ 31 := by unfold lastD; split <;> omega
      obtain ⟨a1, a2, a3, a4, a5, a6, a7, a8, a9, a10, a11, a12, a13, a14, a15, a16, a17, a18, a19, a20⟩ := h
      have := a13 (by omega) (by omega)
      have := a16 (by omega) (by omega)
      constructor <;> simp [*] <;> omega
theorem ok_readHclen (h : Ok s) (hn : s.next = 6) (e : readHclen s = .more t) : Ok t := by
  unfold readHclen at e
  split at e
  · cases e
  · cases e
    have h4 := num_take_lt s.bits 4
    obtain ⟨a1, a2, a3, a4, a5, a6, a7, a8, a9, a10, a11, a12, a13, a14, a15, a16, a17, a18, a19, a20⟩ := h
    have := a13 (by omega) (by omega)
    have := a14 (by omega) (by omega)
    have := a16 (by omega) (by omega)
    constructor <;> simp [*] <;> omega
theorem ok_readCodeLengths (h : Ok s) (hn : s.next = 7) (e : readCodeLengths s = .more t) : Ok t := by
  unfold readCodeLengths at e
  split at e
  · split at e
    · cases e
    · cases e
      have h4 := num_take_lt s.bits 3
      obtain ⟨a1, a2, a3, a4, a5, a6, a7, a8, a9, a10, a11, a12, a13, a14, a15, a16, a17, a18, a19, a20⟩ := h
      have b1 := a13 (by omega) (by omega)
      have b2 := a14 (by omega) (by omega)
      have b3 := a17 hn
      have b4 := a15 hn
      refine ⟨a1, a2, a3, a4, a5, a6, a7, by simp; omega, a9, a10, a11, by simp [hn], fun _ _ => b1, fun _ _ => b2, fun _ => b4, by simp [hn], fun _ => ⟨by simp; omega, fun x hx => ?_⟩, by simp [hn], by simp [hn], by simp [hn]⟩
      simp only [List.mem_append, List.mem_singleton] at hx
      rcases hx with hx | rfl
      · exact b3.2 x hx
      · omega
  · split at e
    · cases e
    · next hk =>
      cases e
      obtain ⟨a1, a2, a3, a4, a5, a6, a7, a8, a9, a10, a11, a12, a13, a14, a15, a16, a17, a18, a19, a20⟩ := h
      have b1 := a13 (by omega) (by omega)
      have b2 := a14 (by omega) (by omega)
      have b3 := a17 hn
      refine ⟨a1, a2, a3, a4, a5, a6, a7, a8, by simp, by simp, a11, by simp, fun _ _ => b1, fun _ _ => b2, by simp, by simp, by simp, fun _ => ⟨by simp, by simp, _, rfl, ⟨by rw [scat_len]; omega, fun x hx => ?_, ?_⟩, scat_len _ _⟩, by simp, by simp⟩
      · have := scat_all s.lens 7 b3.2 _ x hx; omega
      · have hk1 : kd (scat s.lens s.lens.length) = 1 := by omega
        exact kd_kr hk1 (by omega)
theorem ok_readLen (h : Ok s) (hn : s.next = 8) (v n : Nat) (hv : v < 19) (e : readLen s v n = .more t) : Ok t := by
  unfold readLen at e
  split at e
  · cases e
  · split at e
    · cases e
    · split at e
      · cases e
      · cases e
        obtain ⟨a1, a2, a3, a4, a5, a6, a7, a8, a9, a10, a11, a12, a13, a14, a15, a16, a17, a18, a19, a20⟩ := h
        have b1 := a13 (by omega) (by omega)
        have b2 := a14 (by omega) (by omega)
        obtain ⟨b3, b4, b5⟩ := a18 hn
        refine ⟨a1, a2, a3, a4, a5, a6, a7, by simp; omega, a9, a10, a11, by simp [hn], fun _ _ => b1, fun _ _ => b2, by simp [hn], by simp [hn], by simp [hn], fun _ => ⟨by simp; omega, fun x hx => ?_, b5⟩, by simp [hn], by simp [hn]⟩
        simp only [List.mem_append, List.mem_replicate] at hx
        rcases hx with hx | ⟨_, rfl⟩
        · exact b4 x hx
        · unfold length_
          split
          · by_cases hl : s.lens = []
            · simp [hl]
            · rw [List.getLastD_eq_getLast?, List.getLast?_eq_some_getLast hl]; exact b4 _ (List.getLast_mem hl)
          · repeat' split
            all_goals omega
theorem ok_readLengths (h : Ok s) (hn : s.next = 8) (e : readLengths s = .more t) : Ok t := by
  unfold readLengths at e
  split at e
  · unfold readLength at e
    split at e
    · cases e
    · next hc =>
      obtain ⟨_, _, hs, hhs, _, hl⟩ := h.l8 hn
      have := (sym_ok (ls := s.hcode.getD []) (bs := s.bits) (by omega)).2.2.2.2.2
      rw [hhs] at this
      simp only [Option.getD_some] at this
      exact ok_readLen h hn _ _ (by rw [hhs]; simp only [Option.getD_some]; omega) e
  · split at e
    · cases e
    · next hg =>
      cases e
      obtain ⟨a1, a2, a3, a4, a5, a6, a7, a8, a9, a10, a11, a12, a13, a14, a15, a16, a17, a18, a19, a20⟩ := h
      obtain ⟨b3, b4, b5⟩ := a18 hn
      have b1 := a13 (by omega) (by omega)
      have b2 := a14 (by omega) (by omega)
      simp only [goodCodes, Bool.not_eq_false, Bool.and_eq_true, Bool.or_eq_true, beq_iff_eq] at hg
      refine ⟨a1, a2, a3, a4, a5, a6, a7, a8, by simp, by simp, a11, by simp, by simp, by simp, by simp, by simp, by simp, by simp, fun _ => ⟨_, _, rfl, rfl, ⟨by simp; omega, fun x hx => b4 x (List.mem_of_mem_take hx), usable_kr hg.1.2⟩, by simp; omega, fun x hx => b4 x (List.mem_of_mem_drop hx), ?_⟩, by simp⟩
      rcases hg.2 with hg | hg
      · exact kd_kr hg (by omega)
      · exact usable_kr hg
theorem ok_readLiteral (h : Ok s) (hn : s.next = 9) (e : readLiteral s = .more t) : Ok t := by
  unfold readLiteral at e
  split at e
  · cases e
  · unfold readLit at e
    generalize (sym (s.lit.getD []) s.bits).1 = v at *
    generalize (sym (s.lit.getD []) s.bits).2.1 = n at *
    split at e
    · split at e
      · cases e
      · cases e
        obtain ⟨a1, a2, a3, a4, a5, a6, a7, a8, a9, a10, a11, a12, a13, a14, a15, a16, a17, a18, a19, a20⟩ := h
        refine ⟨by simp [put]; omega, a2, a3, a4, by simp [put]; omega, by simp [put]; omega, a7, by simp [put]; omega, a9, a10, a11, by simp [put, hn], by simp [put, hn], by simp [put, hn], by simp [put, hn], by simp [put, hn], by simp [put, hn], by simp [put, hn], a19, by simp [put, hn]⟩
    · split at e
      · cases e
        refine ok_close ?_ (.inr hn)
        obtain ⟨a1, a2, a3, a4, a5, a6, a7, a8, a9, a10, a11, a12, a13, a14, a15, a16, a17, a18, a19, a20⟩ := h
        exact ⟨a1, a2, a3, a4, a5, a6, a7, by simp; omega, a9, a10, a11, by simp [hn], by simp [hn], by simp [hn], by simp [hn], by simp [hn], by simp [hn], by simp [hn], a19, by simp [hn]⟩
      · split at e
        · cases e
        · next l x hb =>
          split at e
          · cases e
          · cases e
            obtain ⟨a1, a2, a3, a4, a5, a6, a7, a8, a9, a10, a11, a12, a13, a14, a15, a16, a17, a18, a19, a20⟩ := h
            obtain ⟨c1, c2, c3⟩ := base_le hb
            have c4 := num_take_lt (s.bits.drop n) x
            exact ⟨a1, a2, a3, a4, a5, a6, a7, by simp; omega, by simp, by simp, a11, by simp, by simp, by simp, by simp, by simp, by simp, by simp, fun _ => a19 (.inl hn), fun _ => ⟨by simp; omega, by simp; omega⟩⟩
theorem ok_readDistance (h : Ok s) (hn : s.next = 10) (e : readDistance s = .more t) : Ok t := by
  unfold readDistance at e
  split at e
  · cases e
  · split at e
    · cases e
    · unfold readDist at e
      split at e
      · cases e
      · split at e
        · cases e
        · unfold copied at e
          split at e
          · cases e
          · cases e
            obtain ⟨a1, a2, a3, a4, a5, a6, a7, a8, a9, a10, a11, a12, a13, a14, a15, a16, a17, a18, a19, a20⟩ := h
            exact ⟨by simp [grow_len]; omega, a2, a3, a4, by simp; omega, by simp [copy_len]; omega, a7, by simp; omega, by simp, by simp, a11, by simp, by simp, by simp, by simp, by simp, by simp, by simp, fun _ => a19 (.inr hn), by simp⟩
theorem Ok.step (h : Ok s) (e : step s = .more t) : Ok t := by
  unfold InfMath.step at e
  split at e
  · next hn => exact ok_opening h hn e
  · next hn => exact ok_readSize h hn e
  · next hn => exact ok_readBytes h hn e
  · next hn => exact ok_readHlit h hn e
  · next hn => exact ok_readHdist h hn e
  · next hn => exact ok_readHclen h hn e
  · next hn => exact ok_readCodeLengths h hn e
  · next hn => exact ok_readLengths h hn e
  · next hn => exact ok_readLiteral h hn e
  · next hn => exact ok_readDistance h hn e
  · cases e
theorem Ok.steps (h : Ok s) (k : Steps s t) : Ok t := by
  induction k with
  | refl => exact h
  | cons e _ ih => exact ih (h.step e)
end

/-- How far it is to the end. -/
def rank (n : Nat) : Nat := if n = 3 then 1 else if n = 7 then 2 else if n = 8 then 1 else 0
def mu (s : M) : Nat := 8 * s.bits.length + rank s.next
theorem rank_le (n : Nat) : rank n ≤ 2 := by unfold rank; repeat' split
                                             all_goals omega
theorem mu_less {s t : M} (k : Nat) (h : t.bits.length + k ≤ s.bits.length) (hk : 1 ≤ k) : mu t < mu s := by
  have := rank_le t.next
  unfold mu; omega
theorem mu_step {s t : M} (e : step s = .more t) : mu t < mu s := by
  unfold InfMath.step at e
  split at e
  · unfold opening at e
    repeat' split at e
    all_goals cases e
    all_goals exact mu_less 1 (by simp; omega) (by omega)
  · unfold readSize at e
    repeat' split at e
    all_goals cases e
    all_goals exact mu_less 1 (by simp; omega) (by omega)
  · next hn =>
    unfold readBytes at e
    split at e
    · cases e
      unfold mu close
      rw [hn]
      simp only
      have : rank 3 = 1 := rfl
      have : rank (if s.final = true then 11 else 1) = 0 := by cases s.final <;> rfl
      omega
    · repeat' split at e
      all_goals cases e
      all_goals exact mu_less 1 (by simp; omega) (by omega)
  · unfold readHlit at e
    repeat' split at e
    all_goals cases e
    all_goals exact mu_less 1 (by simp; omega) (by omega)
  · unfold readHdist at e
    repeat' split at e
    all_goals cases e
    all_goals exact mu_less 1 (by simp; omega) (by omega)
  · unfold readHclen at e
    repeat' split at e
    all_goals cases e
    all_goals exact mu_less 1 (by simp; omega) (by omega)
  · next hn =>
    unfold readCodeLengths at e
    split at e
    · repeat' split at e
      all_goals cases e
      all_goals exact mu_less 1 (by simp; omega) (by omega)
    · split at e
      · cases e
      · cases e
        unfold mu
        rw [hn]
        have : rank 7 = 2 := rfl
        have : rank 8 = 1 := rfl
        simp only
        omega
  · next hn =>
    unfold readLengths at e
    split at e
    · unfold readLength at e
      split at e
      · cases e
      · next hc =>
        have hs := sym_ok (ls := s.hcode.getD []) (bs := s.bits) (by omega)
        unfold readLen at e
        repeat' split at e
        all_goals cases e
        all_goals exact mu_less 1 (by simp; omega) (by omega)
    · split at e
      · cases e
      · cases e
        unfold mu
        rw [hn]
        have : rank 9 = 0 := rfl
        have : rank 8 = 1 := rfl
        simp only
        omega
  · unfold readLiteral at e
    split at e
    · cases e
    · next hc =>
      have hs := sym_ok (ls := s.lit.getD []) (bs := s.bits) (by omega)
      unfold readLit at e
      repeat' split at e
      all_goals cases e
      all_goals exact mu_less 1 (by simp [close]; omega) (by omega)
  · unfold readDistance at e
    split at e
    · cases e
    · split at e
      · cases e
      · next hc =>
        have hs := sym_ok (ls := s.dist.getD []) (bs := s.bits) (by omega)
        unfold readDist at e
        split at e
        · cases e
        · split at e
          · cases e
          · unfold copied at e
            split at e
            · cases e
            · cases e
              exact mu_less 1 (by simp; omega) (by omega)
  · cases e
theorem mu_steps {s t : M} (k : Steps s t) : mu t ≤ mu s := by
  induction k with
  | refl => exact Nat.le_refl _
  | cons e _ ih => have := mu_step e; omega
end InfMath
end
