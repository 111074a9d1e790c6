import Derived.Test.YtdbcendnibgcaaaGreatDoorMgAn

section
/-
  Decoding tables: what a table of symbols holds behind each symbol that is placed, and what is found in it. Plain numbers: no program, no dump.
-/
namespace TabMath
open BitMath CanMath

/-- A code as it is read: its first bit the lowest. -/
def rc (n c : Nat) : Nat := num (lows n c).reverse
theorem rc_lt (n c : Nat) : rc n c < 2 ^ n := by
  have := num_lt (lows n c).reverse
  rwa [List.length_reverse, lows_len] at this
theorem lows_rc (n c : Nat) : lows n (rc n c) = (lows n c).reverse := lows_turn n c
theorem rc_rc (n c : Nat) : rc n (rc n c) = c % 2 ^ n := by
  unfold rc; rw [lows_turn, List.reverse_reverse, num_lows]
theorem rc_mod (n c : Nat) : rc n (c % 2 ^ n) = rc n c := by unfold rc; rw [lows_mod]
theorem rc_of_mod {n a b : Nat} (h : a % 2 ^ n = b % 2 ^ n) : rc n a = rc n b := by rw [← rc_mod n a, h, rc_mod]
theorem rc_add (a b v : Nat) : rc (a + b) v = rc b (v / 2 ^ a) + 2 ^ b * rc a v := by
  unfold rc
  rw [lows_add, List.reverse_append, num_append, List.length_reverse, lows_len]
theorem rc_div (a b v : Nat) : rc (a + b) v / 2 ^ b = rc a v := by
  rw [rc_add, Nat.add_mul_div_left _ _ (Nat.two_pow_pos b), Nat.div_eq_of_lt (rc_lt b _), Nat.zero_add]
theorem mod_mod_pow {a b : Nat} (v : Nat) (h : a ≤ b) : v % 2 ^ b % 2 ^ a = v % 2 ^ a :=
  Nat.mod_mod_of_dvd v (Nat.pow_dvd_pow 2 h)

/-- The length of a symbol's code, 0 if it has none. -/
def ln (ls : List Nat) (i : Nat) : Nat := ls.getD i 0
theorem ln_eq (ls : List Nat) (i : Nat) (h : i < ls.length) : ln ls i = ls[i] := by
  unfold ln; rw [List.getD_eq_getElem?_getD, List.getElem?_eq_getElem h]; rfl
theorem ln_out (ls : List Nat) (i : Nat) (h : ls.length ≤ i) : ln ls i = 0 := by
  unfold ln; rw [List.getD_eq_getElem?_getD, List.getElem?_eq_none h]; rfl
theorem ln_lt {ls : List Nat} {i : Nat} (h : 1 ≤ ln ls i) : i < ls.length := by
  by_cases hi : i < ls.length
  · exact hi
  · rw [ln_out ls i (by omega)] at h; omega
theorem ln_le {ls : List Nat} (hall : ∀ x ∈ ls, x ≤ 15) (i : Nat) : ln ls i ≤ 15 := by
  by_cases hi : i < ls.length
  · rw [ln_eq ls i hi]; exact hall _ (List.getElem_mem hi)
  · rw [ln_out ls i (by omega)]; omega
/-- A symbol's code as it is read. -/
def wd (ls : List Nat) (i : Nat) : Nat := rc (ln ls i) (codeN ls (ln ls i) i)
theorem wd_lt (ls : List Nat) (i : Nat) : wd ls i < 2 ^ ln ls i := rc_lt _ _
theorem bitsAt_wd (ls : List Nat) (i : Nat) (h : i < ls.length) : bitsAt ls i = lows (ln ls i) (wd ls i) := by
  unfold wd; rw [bitsAt_eq ls i h, lows_rc, ln_eq ls i h]

/-- What is read begins with the symbol's code. -/
def Has (ls : List Nat) (v i : Nat) : Prop := 1 ≤ ln ls i ∧ v % 2 ^ ln ls i = wd ls i
instance (ls : List Nat) (v i : Nat) : Decidable (Has ls v i) := inferInstanceAs (Decidable (_ ∧ _))

section
variable {ls : List Nat} (hall : ∀ x ∈ ls, x ≤ 15) (hk : kr ls ≤ 32768)
include hall hk
theorem code_small (i : Nat) (h1 : 1 ≤ ln ls i) : codeN ls (ln ls i) i < 2 ^ ln ls i := by
  have hi := ln_lt h1
  rw [ln_eq ls i hi] at h1 ⊢
  exact codeN_lt ls hall hk i hi h1
theorem rc_wd (i : Nat) (h1 : 1 ≤ ln ls i) : rc (ln ls i) (wd ls i) = codeN ls (ln ls i) i := by
  unfold wd; rw [rc_rc, Nat.mod_eq_of_lt (code_small hall hk i h1)]
theorem has_fits (v i : Nat) : Has ls v i ↔ Fits ls (rc 15 v) i := by
  constructor
  · rintro ⟨h1, h2⟩
    have hi := ln_lt h1
    have h15 := ln_le hall i
    refine ⟨hi, by rw [← ln_eq ls i hi]; exact h1, ?_⟩
    rw [← ln_eq ls i hi]
    have e := rc_div (ln ls i) (15 - ln ls i) v
    rw [show ln ls i + (15 - ln ls i) = 15 from by omega] at e
    rw [e, ← rc_mod, h2, rc_wd hall hk i h1]
  · rintro ⟨hi, h1, h2⟩
    rw [← ln_eq ls i hi] at h1 h2
    have h15 := ln_le hall i
    refine ⟨h1, ?_⟩
    have e := rc_div (ln ls i) (15 - ln ls i) v
    rw [show ln ls i + (15 - ln ls i) = 15 from by omega] at e
    rw [e] at h2
    unfold wd
    rw [← h2, rc_rc]
theorem has_one {v i k : Nat} (h : Has ls v i) (h' : Has ls v k) : i = k :=
  fits_one ls hall (rc 15 v) i k ((has_fits hall hk v i).1 h) ((has_fits hall hk v k).1 h')
/-- Bits with which a longer code begins, noughts behind them, begin with a code. -/
theorem has_fill {v n i : Nat} (hn : n < ln ls i) (h : wd ls i % 2 ^ n = v % 2 ^ n) : ∃ k, Has ls (v % 2 ^ n) k := by
  have h1 : 1 ≤ ln ls i := by omega
  have hi := ln_lt h1
  have h15 := ln_le hall i
  have hroom := start_room ls hall i hi (by rw [← ln_eq ls i hi]; exact h1)
  have hsp := share_pos (n := ls[i]) (by rw [← ln_eq ls i hi]; exact h1)
  rw [← ln_eq ls i hi] at hroom hsp
  have hlt : start ls (ln ls i) i < kr ls := by omega
  have key : rc 15 (v % 2 ^ n) ≤ start ls (ln ls i) i := by
    have e1 := rc_add n (15 - n) (v % 2 ^ n)
    rw [show n + (15 - n) = 15 from by omega, Nat.div_eq_of_lt (Nat.mod_lt _ (Nat.two_pow_pos n))] at e1
    have e2 : rc (15 - n) 0 = 0 := by unfold rc; rw [lows_zero, List.reverse_replicate, num_zero]
    rw [e2, Nat.zero_add] at e1
    have e3 := rc_add n (ln ls i - n) (wd ls i)
    rw [show n + (ln ls i - n) = ln ls i from by omega, rc_wd hall hk i h1] at e3
    have e4 : rc n (wd ls i) = rc n (v % 2 ^ n) := rc_of_mod (by rw [h, Nat.mod_mod])
    rw [e4] at e3
    unfold start
    rw [e1, e3, Nat.add_mul]
    have e5 : 2 ^ (15 - n) = 2 ^ (ln ls i - n) * 2 ^ (15 - ln ls i) := by rw [← Nat.pow_add, show ln ls i - n + (15 - ln ls i) = 15 - n from by omega]
    rw [e5, Nat.mul_assoc, Nat.mul_comm (2 ^ (15 - ln ls i)), ← Nat.mul_assoc]
    exact Nat.le_add_left _ _
  obtain ⟨k, hf⟩ := fits_some ls hall (rc 15 (v % 2 ^ n)) (by omega)
  exact ⟨k, (has_fits hall hk _ k).2 hf⟩
end

/-- An element: a value, a length, how many bits more. -/
structure El where
  v : Nat
  l : Nat
  m : Nat
deriving DecidableEq
def El.z : El := ⟨0, 0, 0⟩

/-- How many bits more the longest code needs that begins with these first bits. -/
def mo (ls : List Nat) (f : Nat) : Nat → Nat → Nat
  | 0, _ => 0
  | k + 1, p => if f < ln ls k ∧ wd ls k % 2 ^ f = p then max (mo ls f k p) (ln ls k - f) else mo ls f k p
def M (ls : List Nat) (f p : Nat) : Nat := mo ls f ls.length p
/-- Where the secondary table of p begins. -/
def S (ls : List Nat) (f : Nat) : Nat → Nat
  | 0 => 2 ^ f
  | p + 1 => S ls f p + (if 0 < M ls f p then 2 ^ M ls f p else 0)

theorem mo_le (ls : List Nat) (f : Nat) (hall : ∀ x ∈ ls, x ≤ 15) (k p : Nat) : mo ls f k p ≤ 15 - f := by
  induction k with
  | zero => simp [mo]
  | succ k ih =>
    rw [mo]; split
    · have := ln_le hall k; omega
    · exact ih
theorem mo_mono (ls : List Nat) (f k p : Nat) : mo ls f k p ≤ mo ls f (k + 1) p := by
  rw [mo]; split <;> omega
theorem mo_mono2 (ls : List Nat) (f p : Nat) {a b : Nat} (h : a ≤ b) : mo ls f a p ≤ mo ls f b p := by
  induction h with
  | refl => exact Nat.le_refl _
  | step _ ih => exact Nat.le_trans ih (mo_mono _ _ _ _)
theorem M_le (ls : List Nat) (f : Nat) (hall : ∀ x ∈ ls, x ≤ 15) (p : Nat) : M ls f p ≤ 15 - f := mo_le ls f hall _ p
theorem M_ge (ls : List Nat) (f k : Nat) (h : f < ln ls k) : ln ls k - f ≤ M ls f (wd ls k % 2 ^ f) := by
  have hk : k < ls.length := ln_lt (by omega)
  have h1 : ln ls k - f ≤ mo ls f (k + 1) (wd ls k % 2 ^ f) := by
    rw [mo, if_pos ⟨h, rfl⟩]; exact Nat.le_max_right _ _
  exact Nat.le_trans h1 (mo_mono2 _ _ _ (by omega))
theorem mo_some (ls : List Nat) (f k p : Nat) (h : 0 < mo ls f k p) : ∃ i, f < ln ls i ∧ wd ls i % 2 ^ f = p := by
  induction k with
  | zero => simp [mo] at h
  | succ k ih =>
    rw [mo] at h
    split at h
    · next hc => exact ⟨k, hc⟩
    · exact ih h
theorem M_some (ls : List Nat) (f p : Nat) (h : 0 < M ls f p) : ∃ i, f < ln ls i ∧ wd ls i % 2 ^ f = p := mo_some _ _ _ _ h
theorem S_mono (ls : List Nat) (f : Nat) {a b : Nat} (h : a ≤ b) : S ls f a ≤ S ls f b := by
  induction h with
  | refl => exact Nat.le_refl _
  | step _ ih => rw [Nat.succ_eq_add_one, S]; omega
theorem S_ge (ls : List Nat) (f p : Nat) : 2 ^ f ≤ S ls f p := S_mono ls f (Nat.zero_le p)
theorem S_next (ls : List Nat) (f p : Nat) (h : 0 < M ls f p) : S ls f p + 2 ^ M ls f p = S ls f (p + 1) := by rw [S, if_pos h]
theorem S_le (ls : List Nat) (f : Nat) (hall : ∀ x ∈ ls, x ≤ 15) (p : Nat) : S ls f p ≤ 2 ^ f + p * 2 ^ (15 - f) := by
  induction p with
  | zero => simp [S]
  | succ p ih =>
    rw [S, Nat.add_mul, Nat.one_mul]
    split
    · have := Nat.pow_le_pow_right (show 0 < 2 by omega) (M_le ls f hall p); omega
    · exact Nat.le_trans ih (Nat.add_le_add_left (Nat.le_add_right _ _) _)
theorem S_top (ls : List Nat) (f : Nat) (hf : f ≤ 15) (hall : ∀ x ∈ ls, x ≤ 15) : S ls f (2 ^ f) ≤ 2 ^ f + 32768 := by
  have := S_le ls f hall (2 ^ f)
  rw [← Nat.pow_add, show f + (15 - f) = 15 from by omega] at this
  exact this
theorem pow_le15 {f : Nat} (hf : f ≤ 15) : 2 ^ f ≤ 32768 := by
  rw [show 32768 = 2 ^ 15 from rfl]; exact Nat.pow_le_pow_right (by omega) hf
/-- A secondary table lies within what there is. -/
theorem S_in (ls : List Nat) (f p : Nat) (hp : p < 2 ^ f) (h : 0 < M ls f p) : S ls f p + 2 ^ M ls f p ≤ S ls f (2 ^ f) := by
  rw [S_next ls f p h]; exact S_mono ls f (by omega)
theorem S_small (ls : List Nat) (f p : Nat) (hf : f ≤ 15) (hall : ∀ x ∈ ls, x ≤ 15) (hp : p < 2 ^ f) (h : 0 < M ls f p) : S ls f p < 65536 := by
  have h1 := S_in ls f p hp h
  have h2 := S_top ls f hf hall
  have h3 := Nat.two_pow_pos (M ls f p)
  have := pow_le15 hf
  omega

/-- What stands behind link. -/
def T0 (ls : List Nat) (f j : Nat) : El := if j < 2 ^ f then ⟨if 0 < M ls f j then S ls f j else 0, 0, M ls f j⟩ else El.z
/-- A symbol is placed. -/
def put (ls : List Nat) (f : Nat) (T : Nat → El) (i : Nat) : Nat → El :=
  if ln ls i = 0 then T
  else if ln ls i ≤ f then fun j => if j < 2 ^ f ∧ j % 2 ^ ln ls i = wd ls i then ⟨i, ln ls i, 0⟩ else T j
  else fun j => if (T (wd ls i % 2 ^ f)).v ≤ j ∧ j < (T (wd ls i % 2 ^ f)).v + 2 ^ (T (wd ls i % 2 ^ f)).m ∧ (j - (T (wd ls i % 2 ^ f)).v) % 2 ^ (ln ls i - f) = wd ls i / 2 ^ f then ⟨i, ln ls i, 0⟩ else T j
def TT (ls : List Nat) (f : Nat) : Nat → Nat → El
  | 0 => T0 ls f
  | k + 1 => put ls f (TT ls f k) k

section
variable {ls : List Nat} (hall : ∀ x ∈ ls, x ≤ 15) (hk : kr ls ≤ 32768) (f : Nat)
include hall hk
/-- What leads to a secondary table is never written over. -/
theorem tt_keep (k : Nat) : ∀ p, p < 2 ^ f → 0 < M ls f p → TT ls f k p = ⟨S ls f p, 0, M ls f p⟩ := by
  induction k with
  | zero => intro p hp hM; rw [TT, T0, if_pos hp, if_pos hM]
  | succ k ih =>
    intro p hp hM
    rw [TT, put]
    split
    · exact ih p hp hM
    · next h0 =>
      split
      · next hf =>
        dsimp only
        rw [if_neg, ih p hp hM]
        rintro ⟨_, h2⟩
        obtain ⟨i, hi1, hi2⟩ := M_some ls f p hM
        have e1 : Has ls (wd ls i) k := ⟨by omega, by rw [← mod_mod_pow _ hf, hi2, h2]⟩
        have e2 : Has ls (wd ls i) i := ⟨by omega, Nat.mod_eq_of_lt (wd_lt ls i)⟩
        have := has_one hall hk e1 e2
        subst this
        omega
      · next hf =>
        have hg := M_ge ls f k (by omega)
        have hp2 : wd ls k % 2 ^ f < 2 ^ f := Nat.mod_lt _ (Nat.two_pow_pos f)
        have hto := ih _ hp2 (by omega)
        dsimp only
        rw [hto, if_neg, ih p hp hM]
        rintro ⟨h1, _⟩
        have := S_ge ls f (wd ls k % 2 ^ f)
        dsimp only at h1
        omega
/-- Where a longer code leads. -/
theorem tt_to (k i : Nat) (h : f < ln ls i) : TT ls f k (wd ls i % 2 ^ f) = ⟨S ls f (wd ls i % 2 ^ f), 0, M ls f (wd ls i % 2 ^ f)⟩ := by
  have hg := M_ge ls f i h
  exact tt_keep hall hk f k _ (Nat.mod_lt _ (Nat.two_pow_pos f)) (by omega)
/-- Bits that lead to no secondary table. -/
theorem tt_first (v : Nat) (hM : M ls f (v % 2 ^ f) = 0) (k : Nat) : (∀ i, i < k → Has ls v i → TT ls f k (v % 2 ^ f) = ⟨i, ln ls i, 0⟩) ∧ ((∀ i, i < k → ¬ Has ls v i) → TT ls f k (v % 2 ^ f) = El.z) := by
  have hp : v % 2 ^ f < 2 ^ f := Nat.mod_lt _ (Nat.two_pow_pos f)
  have hshort : ∀ i, Has ls v i → ln ls i ≤ f := by
    rintro i ⟨h1, h2⟩
    by_cases hi : ln ls i ≤ f
    · exact hi
    · have hg := M_ge ls f i (by omega)
      rw [← h2, mod_mod_pow v (by omega), hM] at hg
      omega
  induction k with
  | zero =>
    refine ⟨fun i hi => by omega, fun _ => ?_⟩
    rw [TT, T0, if_pos hp, hM]; rfl
  | succ k ih =>
    rw [TT, put]
    split
    · next h0 =>
      refine ⟨fun i hi hh => ?_, fun hn => ih.2 fun i hi => hn i (by omega)⟩
      by_cases he : i = k
      · subst he; have := hh.1; omega
      · exact ih.1 i (by omega) hh
    · next h0 =>
      split
      · next hf =>
        dsimp only
        by_cases hh : Has ls v k
        · have hc : v % 2 ^ f < 2 ^ f ∧ v % 2 ^ f % 2 ^ ln ls k = wd ls k := ⟨hp, by rw [mod_mod_pow v hf]; exact hh.2⟩
          rw [if_pos hc]
          refine ⟨fun i _ hi => ?_, fun hn => absurd hh (hn k (by omega))⟩
          rw [has_one hall hk hi hh]
        · have hc : ¬ (v % 2 ^ f < 2 ^ f ∧ v % 2 ^ f % 2 ^ ln ls k = wd ls k) := fun hc => hh ⟨by omega, by rw [← hc.2, mod_mod_pow v hf]⟩
          rw [if_neg hc]
          refine ⟨fun i hi hi2 => ?_, fun hn => ih.2 fun i hi => hn i (by omega)⟩
          by_cases he : i = k
          · subst he; exact absurd hi2 hh
          · exact ih.1 i (by omega) hi2
      · next hf =>
        dsimp only
        rw [tt_to hall hk f k k (by omega), if_neg]
        · refine ⟨fun i hi hh => ?_, fun hn => ih.2 fun i hi => hn i (by omega)⟩
          by_cases he : i = k
          · subst he; have := hshort i hh; omega
          · exact ih.1 i (by omega) hh
        · rintro ⟨h1, _⟩
          have := S_ge ls f (wd ls k % 2 ^ f)
          dsimp only at h1
          omega
/-- Bits that lead to a secondary table. -/
theorem tt_second (v : Nat) (hM : 0 < M ls f (v % 2 ^ f)) (k : Nat) :
    (∀ i, i < k → Has ls v i → TT ls f k (S ls f (v % 2 ^ f) + v / 2 ^ f % 2 ^ M ls f (v % 2 ^ f)) = ⟨i, ln ls i, 0⟩) ∧ ((∀ i, i < k → ¬ Has ls v i) → TT ls f k (S ls f (v % 2 ^ f) + v / 2 ^ f % 2 ^ M ls f (v % 2 ^ f)) = El.z) := by
  have hp : v % 2 ^ f < 2 ^ f := Nat.mod_lt _ (Nat.two_pow_pos f)
  have hj := S_ge ls f (v % 2 ^ f)
  have hq : v / 2 ^ f % 2 ^ M ls f (v % 2 ^ f) < 2 ^ M ls f (v % 2 ^ f) := Nat.mod_lt _ (Nat.two_pow_pos _)
  have hlong : ∀ i, Has ls v i → f < ln ls i := by
    rintro i ⟨h1, h2⟩
    by_cases hi : f < ln ls i
    · exact hi
    · exfalso
      obtain ⟨k', hk1, hk2⟩ := M_some ls f _ hM
      have e1 : Has ls (wd ls k') i := ⟨h1, by rw [← mod_mod_pow _ (show ln ls i ≤ f by omega), hk2, mod_mod_pow v (by omega), h2]⟩
      have e2 : Has ls (wd ls k') k' := ⟨by omega, Nat.mod_eq_of_lt (wd_lt ls k')⟩
      have := has_one hall hk e1 e2
      subst this
      omega
  induction k with
  | zero =>
    refine ⟨fun i hi => by omega, fun _ => ?_⟩
    rw [TT, T0, if_neg (by omega)]
  | succ k ih =>
    rw [TT, put]
    split
    · next h0 =>
      refine ⟨fun i hi hh => ?_, fun hn => ih.2 fun i hi => hn i (by omega)⟩
      by_cases he : i = k
      · subst he; have := hh.1; omega
      · exact ih.1 i (by omega) hh
    · next h0 =>
      split
      · next hf =>
        dsimp only
        rw [if_neg (fun hc => by omega)]
        refine ⟨fun i hi hh => ?_, fun hn => ih.2 fun i hi => hn i (by omega)⟩
        by_cases he : i = k
        · subst he; have := hlong i hh; omega
        · exact ih.1 i (by omega) hh
      · next hf =>
        dsimp only
        rw [tt_to hall hk f k k (by omega)]
        dsimp only
        by_cases he : wd ls k % 2 ^ f = v % 2 ^ f
        · rw [he]
          have hg := M_ge ls f k (by omega)
          rw [he] at hg
          have hiff : (S ls f (v % 2 ^ f) ≤ S ls f (v % 2 ^ f) + v / 2 ^ f % 2 ^ M ls f (v % 2 ^ f) ∧ S ls f (v % 2 ^ f) + v / 2 ^ f % 2 ^ M ls f (v % 2 ^ f) < S ls f (v % 2 ^ f) + 2 ^ M ls f (v % 2 ^ f) ∧ (S ls f (v % 2 ^ f) + v / 2 ^ f % 2 ^ M ls f (v % 2 ^ f) - S ls f (v % 2 ^ f)) % 2 ^ (ln ls k - f) = wd ls k / 2 ^ f) ↔ Has ls v k := by
            rw [Nat.add_sub_cancel_left, mod_mod_pow _ hg]
            have hd : v % 2 ^ ln ls k = v % 2 ^ f + 2 ^ f * (v / 2 ^ f % 2 ^ (ln ls k - f)) := by
              conv => lhs; rw [show ln ls k = f + (ln ls k - f) from by omega, Nat.pow_add, Nat.mod_mul]
            have hw : wd ls k = v % 2 ^ f + 2 ^ f * (wd ls k / 2 ^ f) := by
              conv => lhs; rw [← Nat.mod_add_div (wd ls k) (2 ^ f), he]
            constructor
            · rintro ⟨_, _, h3⟩
              exact ⟨by omega, by rw [hd, h3, ← hw]⟩
            · rintro ⟨h1, h2⟩
              refine ⟨by omega, by omega, ?_⟩
              have h3 : 2 ^ f * (v / 2 ^ f % 2 ^ (ln ls k - f)) = 2 ^ f * (wd ls k / 2 ^ f) := by
                rw [hd] at h2; omega
              exact Nat.eq_of_mul_eq_mul_left (Nat.two_pow_pos f) h3
          by_cases hh : Has ls v k
          · rw [if_pos (hiff.2 hh)]
            refine ⟨fun i _ hi => ?_, fun hn => absurd hh (hn k (by omega))⟩
            rw [has_one hall hk hi hh]
          · rw [if_neg (fun hc => hh (hiff.1 hc))]
            refine ⟨fun i hi hi2 => ?_, fun hn => ih.2 fun i hi => hn i (by omega)⟩
            by_cases he : i = k
            · subst he; exact absurd hi2 hh
            · exact ih.1 i (by omega) hi2
        · have hg := M_ge ls f k (by omega)
          have hS1 := S_next ls f (wd ls k % 2 ^ f) (by omega)
          have hS2 := S_next ls f (v % 2 ^ f) hM
          rw [if_neg]
          · refine ⟨fun i hi hh => ?_, fun hn => ih.2 fun i hi => hn i (by omega)⟩
            by_cases hik : i = k
            · subst hik
              exfalso
              apply he
              rw [← hh.2, mod_mod_pow v (by omega)]
            · exact ih.1 i (by omega) hh
          · rintro ⟨h1, h2, _⟩
            rcases Nat.lt_or_gt_of_ne he with hlt | hgt
            · have := S_mono ls f (show wd ls k % 2 ^ f + 1 ≤ v % 2 ^ f by omega)
              omega
            · have := S_mono ls f (show v % 2 ^ f + 1 ≤ wd ls k % 2 ^ f by omega)
              omega
end

/-- What look finds. -/
def look (ls : List Nat) (f v : Nat) : El :=
  if 0 < (TT ls f ls.length (v % 2 ^ f)).m then TT ls f ls.length ((TT ls f ls.length (v % 2 ^ f)).v + v / 2 ^ f % 2 ^ (TT ls f ls.length (v % 2 ^ f)).m) else TT ls f ls.length (v % 2 ^ f)
/-- The symbol whose code stands in front. -/
def who (ls : List Nat) (v : Nat) : El := match (List.range ls.length).find? (fun i => decide (Has ls v i)) with | some i => ⟨i, ln ls i, 0⟩ | none => El.z

section
variable {ls : List Nat} (hall : ∀ x ∈ ls, x ≤ 15) (hk : kr ls ≤ 32768) (f : Nat)
include hall hk
theorem who_some {v i : Nat} (h : Has ls v i) : who ls v = ⟨i, ln ls i, 0⟩ := by
  unfold who
  split
  · next j hj =>
    have h1 := List.find?_some hj
    rw [has_one hall hk (of_decide_eq_true h1) h]
  · next hn =>
    have := List.find?_eq_none.1 hn i (List.mem_range.2 (ln_lt h.1))
    simp [h] at this
omit hall hk in
theorem who_none {v : Nat} (h : ∀ i, ¬ Has ls v i) : who ls v = El.z := by
  unfold who
  split
  · next j hj =>
    have h1 := List.find?_some hj
    exact absurd (of_decide_eq_true h1) (h j)
  · rfl
theorem look_who (v : Nat) : look ls f v = who ls v := by
  have hp : v % 2 ^ f < 2 ^ f := Nat.mod_lt _ (Nat.two_pow_pos f)
  unfold look
  by_cases hM : 0 < M ls f (v % 2 ^ f)
  · rw [tt_keep hall hk f ls.length _ hp hM]
    dsimp only
    rw [if_pos hM]
    have h := tt_second hall hk f v hM ls.length
    by_cases hh : ∃ i, Has ls v i
    · obtain ⟨i, hi⟩ := hh
      rw [h.1 i (ln_lt hi.1) hi, who_some hall hk hi]
    · have hn : ∀ i, ¬ Has ls v i := fun i hi => hh ⟨i, hi⟩
      rw [h.2 (fun i _ => hn i), who_none hn]
  · have h := tt_first hall hk f v (by omega) ls.length
    by_cases hh : ∃ i, Has ls v i
    · obtain ⟨i, hi⟩ := hh
      rw [h.1 i (ln_lt hi.1) hi, who_some hall hk hi]
      rw [if_neg (by simp)]
    · have hn : ∀ i, ¬ Has ls v i := fun i hi => hh ⟨i, hi⟩
      rw [h.2 (fun i _ => hn i), who_none hn]
      rfl
theorem who_cases (v : Nat) : (∃ i, Has ls v i ∧ who ls v = ⟨i, ln ls i, 0⟩) ∨ ((∀ i, ¬ Has ls v i) ∧ who ls v = El.z) := by
  by_cases hh : ∃ i, Has ls v i
  · obtain ⟨i, hi⟩ := hh
    exact .inl ⟨i, hi, who_some hall hk hi⟩
  · have hn : ∀ i, ¬ Has ls v i := fun i hi => hh ⟨i, hi⟩
    exact .inr ⟨hn, who_none hn⟩
end
end TabMath
end

section
/-
  Bits swapped in pairs, fours, bytes: a word turned round. Plain numbers: no program, no dump.
-/
namespace TabMath
open BitMath

theorem num_and (l m : List Bool) (h : l.length = m.length) : num l &&& num m = num (List.zipWith (fun a b => b && a) l m) := by
  induction l generalizing m with
  | nil => simp [num]
  | cons a l ih =>
    cases m with
    | nil => simp at h
    | cons b m =>
      rw [List.zipWith_cons_cons, num, num, num, ← ih m (by simpa using h)]
      apply Nat.eq_of_testBit_eq
      intro i
      rw [Nat.testBit_and]
      cases i with
      | zero => cases a <;> cases b <;> simp [Nat.testBit_zero] <;> omega
      | succ i =>
        rw [Nat.testBit_succ, Nat.testBit_succ, Nat.testBit_succ]
        have e : ∀ (c : Bool) (x : Nat), (c.toNat + 2 * x) / 2 = x := fun c x => by cases c <;> simp <;> omega
        rw [e, e, e, Nat.testBit_and]
theorem num_or (l m : List Bool) (h : l.length = m.length) : num l ||| num m = num (List.zipWith (fun a b => a || b) l m) := by
  induction l generalizing m with
  | nil =>
    cases m with
    | nil => simp [num]
    | cons b m => simp at h
  | cons a l ih =>
    cases m with
    | nil => simp at h
    | cons b m =>
      rw [List.zipWith_cons_cons, num, num, num, ← ih m (by simpa using h)]
      apply Nat.eq_of_testBit_eq
      intro i
      rw [Nat.testBit_or]
      cases i with
      | zero => cases a <;> cases b <;> simp [Nat.testBit_zero] <;> omega
      | succ i =>
        rw [Nat.testBit_succ, Nat.testBit_succ, Nat.testBit_succ]
        have e : ∀ (c : Bool) (x : Nat), (c.toNat + 2 * x) / 2 = x := fun c x => by cases c <;> simp <;> omega
        rw [e, e, e, Nat.testBit_or]
theorem num_drop (l : List Bool) (k : Nat) : num l / 2 ^ k = num (l.drop k) := by
  induction k generalizing l with
  | zero => simp
  | succ k ih =>
    cases l with
    | nil => simp [num]
    | cons a l =>
      rw [List.drop_succ_cons, ← ih, num, Nat.pow_succ, Nat.mul_comm (2 ^ k), ← Nat.div_div_eq_div_mul]
      congr 1
      cases a <;> simp <;> omega
theorem num_take (l : List Bool) (k : Nat) : num l % 2 ^ k = num (l.take k) := by
  rw [← num_lows]
  by_cases h : k ≤ l.length
  · congr 1
    have e := lows_num l
    rw [show l.length = k + (l.length - k) from by omega, lows_add] at e
    have e2 := congrArg (List.take k) e
    rw [List.take_append_of_le_length (by rw [lows_len]; omega), List.take_of_length_le (by rw [lows_len]; omega)] at e2
    exact e2
  · rw [List.take_of_length_le (by omega), num_lows, Nat.mod_eq_of_lt]
    exact Nat.lt_of_lt_of_le (num_lt l) (Nat.pow_le_pow_right (by omega) (by omega))
theorem num_up (l : List Bool) (k : Nat) : num l * 2 ^ k = num (List.replicate k false ++ l) := by
  rw [num_append, num_zero, List.length_replicate, Nat.zero_add, Nat.mul_comm]
theorem num_end (l : List Bool) (k : Nat) : num (l ++ List.replicate k false) = num l := by
  rw [num_append, num_zero]; rfl

/-- Bits k apart change places. -/
def swp (k m x : Nat) : Nat := ((x / 2 ^ k) &&& m) ||| ((x &&& m) * 2 ^ k % 2 ^ 32)
theorem swp_num (k m : Nat) (l ms : List Bool) (hk : k ≤ 32) (hl : l.length = 32) (hm : m = num ms) (hml : ms.length = 32) :
    swp k m (num l) = num (List.zipWith (fun a b => a || b) (List.zipWith (fun a b => b && a) (l.drop k ++ List.replicate k false) ms) ((List.replicate k false ++ List.zipWith (fun a b => b && a) l ms).take 32)) := by
  unfold swp
  subst hm
  rw [num_drop, ← num_end (l.drop k) k, num_and _ _ (by simp; omega), num_and _ _ (by omega), num_up, num_take, num_or _ _ (by simp; omega)]

set_option maxRecDepth 10000 in
theorem swp_1 (b0 b1 b2 b3 b4 b5 b6 b7 b8 b9 b10 b11 b12 b13 b14 b15 b16 b17 b18 b19 b20 b21 b22 b23 b24 b25 b26 b27 b28 b29 b30 b31 : Bool) : swp 1 1431655765 (num [b0, b1, b2, b3, b4, b5, b6, b7, b8, b9, b10, b11, b12, b13, b14, b15, b16, b17, b18, b19, b20, b21, b22, b23, b24, b25, b26, b27, b28, b29, b30, b31]) = num [b1, b0, b3, b2, b5, b4, b7, b6, b9, b8, b11, b10, b13, b12, b15, b14, b17, b16, b19, b18, b21, b20, b23, b22, b25, b24, b27, b26, b29, b28, b31, b30] := by
  rw [swp_num 1 1431655765 _ [true, false, true, false, true, false, true, false, true, false, true, false, true, false, true, false, true, false, true, false, true, false, true, false, true, false, true, false, true, false, true, false] (by decide) rfl (by decide) rfl]
  congr 1
  simp only [List.drop_succ_cons, List.drop_zero, List.replicate, List.cons_append, List.nil_append, List.zipWith_cons_cons, List.zipWith_nil_left, List.take_succ_cons, List.take_zero, Bool.true_and, Bool.false_and, Bool.or_false, Bool.false_or]

set_option maxRecDepth 10000 in
theorem swp_2 (b0 b1 b2 b3 b4 b5 b6 b7 b8 b9 b10 b11 b12 b13 b14 b15 b16 b17 b18 b19 b20 b21 b22 b23 b24 b25 b26 b27 b28 b29 b30 b31 : Bool) : swp 2 858993459 (num [b0, b1, b2, b3, b4, b5, b6, b7, b8, b9, b10, b11, b12, b13, b14, b15, b16, b17, b18, b19, b20, b21, b22, b23, b24, b25, b26, b27, b28, b29, b30, b31]) = num [b2, b3, b0, b1, b6, b7, b4, b5, b10, b11, b8, b9, b14, b15, b12, b13, b18, b19, b16, b17, b22, b23, b20, b21, b26, b27, b24, b25, b30, b31, b28, b29] := by
  rw [swp_num 2 858993459 _ [true, true, false, false, true, true, false, false, true, true, false, false, true, true, false, false, true, true, false, false, true, true, false, false, true, true, false, false, true, true, false, false] (by decide) rfl (by decide) rfl]
  congr 1
  simp only [List.drop_succ_cons, List.drop_zero, List.replicate, List.cons_append, List.nil_append, List.zipWith_cons_cons, List.zipWith_nil_left, List.take_succ_cons, List.take_zero, Bool.true_and, Bool.false_and, Bool.or_false, Bool.false_or]

set_option maxRecDepth 10000 in
theorem swp_4 (b0 b1 b2 b3 b4 b5 b6 b7 b8 b9 b10 b11 b12 b13 b14 b15 b16 b17 b18 b19 b20 b21 b22 b23 b24 b25 b26 b27 b28 b29 b30 b31 : Bool) : swp 4 252645135 (num [b0, b1, b2, b3, b4, b5, b6, b7, b8, b9, b10, b11, b12, b13, b14, b15, b16, b17, b18, b19, b20, b21, b22, b23, b24, b25, b26, b27, b28, b29, b30, b31]) = num [b4, b5, b6, b7, b0, b1, b2, b3, b12, b13, b14, b15, b8, b9, b10, b11, b20, b21, b22, b23, b16, b17, b18, b19, b28, b29, b30, b31, b24, b25, b26, b27] := by
  rw [swp_num 4 252645135 _ [true, true, true, true, false, false, false, false, true, true, true, true, false, false, false, false, true, true, true, true, false, false, false, false, true, true, true, true, false, false, false, false] (by decide) rfl (by decide) rfl]
  congr 1
  simp only [List.drop_succ_cons, List.drop_zero, List.replicate, List.cons_append, List.nil_append, List.zipWith_cons_cons, List.zipWith_nil_left, List.take_succ_cons, List.take_zero, Bool.true_and, Bool.false_and, Bool.or_false, Bool.false_or]

set_option maxRecDepth 10000 in
theorem swp_8 (b0 b1 b2 b3 b4 b5 b6 b7 b8 b9 b10 b11 b12 b13 b14 b15 b16 b17 b18 b19 b20 b21 b22 b23 b24 b25 b26 b27 b28 b29 b30 b31 : Bool) : swp 8 16711935 (num [b0, b1, b2, b3, b4, b5, b6, b7, b8, b9, b10, b11, b12, b13, b14, b15, b16, b17, b18, b19, b20, b21, b22, b23, b24, b25, b26, b27, b28, b29, b30, b31]) = num [b8, b9, b10, b11, b12, b13, b14, b15, b0, b1, b2, b3, b4, b5, b6, b7, b24, b25, b26, b27, b28, b29, b30, b31, b16, b17, b18, b19, b20, b21, b22, b23] := by
  rw [swp_num 8 16711935 _ [true, true, true, true, true, true, true, true, false, false, false, false, false, false, false, false, true, true, true, true, true, true, true, true, false, false, false, false, false, false, false, false] (by decide) rfl (by decide) rfl]
  congr 1
  simp only [List.drop_succ_cons, List.drop_zero, List.replicate, List.cons_append, List.nil_append, List.zipWith_cons_cons, List.zipWith_nil_left, List.take_succ_cons, List.take_zero, Bool.true_and, Bool.false_and, Bool.or_false, Bool.false_or]

set_option maxRecDepth 10000 in
theorem swp_16 (b0 b1 b2 b3 b4 b5 b6 b7 b8 b9 b10 b11 b12 b13 b14 b15 b16 b17 b18 b19 b20 b21 b22 b23 b24 b25 b26 b27 b28 b29 b30 b31 : Bool) : swp 16 65535 (num [b0, b1, b2, b3, b4, b5, b6, b7, b8, b9, b10, b11, b12, b13, b14, b15, b16, b17, b18, b19, b20, b21, b22, b23, b24, b25, b26, b27, b28, b29, b30, b31]) = num [b16, b17, b18, b19, b20, b21, b22, b23, b24, b25, b26, b27, b28, b29, b30, b31, b0, b1, b2, b3, b4, b5, b6, b7, b8, b9, b10, b11, b12, b13, b14, b15] := by
  rw [swp_num 16 65535 _ [true, true, true, true, true, true, true, true, true, true, true, true, true, true, true, true, false, false, false, false, false, false, false, false, false, false, false, false, false, false, false, false] (by decide) rfl (by decide) rfl]
  congr 1
  simp only [List.drop_succ_cons, List.drop_zero, List.replicate, List.cons_append, List.nil_append, List.zipWith_cons_cons, List.zipWith_nil_left, List.take_succ_cons, List.take_zero, Bool.true_and, Bool.false_and, Bool.or_false, Bool.false_or]

theorem list32 (l : List Bool) (h : l.length = 32) : ∃ b0 b1 b2 b3 b4 b5 b6 b7 b8 b9 b10 b11 b12 b13 b14 b15 b16 b17 b18 b19 b20 b21 b22 b23 b24 b25 b26 b27 b28 b29 b30 b31, l = [b0, b1, b2, b3, b4, b5, b6, b7, b8, b9, b10, b11, b12, b13, b14, b15, b16, b17, b18, b19, b20, b21, b22, b23, b24, b25, b26, b27, b28, b29, b30, b31] := by
  match l, h with
  | [b0, b1, b2, b3, b4, b5, b6, b7, b8, b9, b10, b11, b12, b13, b14, b15, b16, b17, b18, b19, b20, b21, b22, b23, b24, b25, b26, b27, b28, b29, b30, b31], _ => exact ⟨b0, b1, b2, b3, b4, b5, b6, b7, b8, b9, b10, b11, b12, b13, b14, b15, b16, b17, b18, b19, b20, b21, b22, b23, b24, b25, b26, b27, b28, b29, b30, b31, rfl⟩
/-- A word turned round. -/
theorem swp_all (x : Nat) (h : x < 2 ^ 32) : swp 16 65535 (swp 8 16711935 (swp 4 252645135 (swp 2 858993459 (swp 1 1431655765 x)))) = rc 32 x := by
  obtain ⟨b0, b1, b2, b3, b4, b5, b6, b7, b8, b9, b10, b11, b12, b13, b14, b15, b16, b17, b18, b19, b20, b21, b22, b23, b24, b25, b26, b27, b28, b29, b30, b31, hl⟩ := list32 (lows 32 x) (lows_len 32 x)
  have hx : x = num (lows 32 x) := by rw [num_lows, Nat.mod_eq_of_lt h]
  unfold rc
  rw [hl] at hx ⊢
  rw [hx, swp_1, swp_2, swp_4, swp_8, swp_16]
  rfl
theorem swp_last (x : Nat) (h : x < 2 ^ 32) : x / 65536 ||| (x * 65536 % 4294967296) = swp 16 65535 x := by
  unfold swp
  have h1 : x / 2 ^ 16 &&& 65535 = x / 65536 := by
    rw [show 65535 = 2 ^ 16 - 1 from rfl, Nat.and_two_pow_sub_one_eq_mod]
    omega
  have h2 : (x &&& 65535) * 2 ^ 16 % 2 ^ 32 = x * 65536 % 4294967296 := by
    rw [show 65535 = 2 ^ 16 - 1 from rfl, Nat.and_two_pow_sub_one_eq_mod]
    omega
  rw [h1, h2]
theorem swp_lt (k m x : Nat) (hm : m < 2 ^ 32) : swp k m x < 2 ^ 32 :=
  Nat.or_lt_two_pow (Nat.lt_of_le_of_lt Nat.and_le_right hm) (Nat.mod_lt _ (by decide))
/-- The code of n bits as it is read: the word turned round, its end. -/
theorem rc_of_word (n c : Nat) (hn : n ≤ 32) : rc 32 c / 2 ^ (32 - n) = rc n c := by
  have := rc_div n (32 - n) c
  rwa [show n + (32 - n) = 32 from by omega] at this
end TabMath
end
