/-
  The document's own reading of a decimal number, step by step: no program, no dump.
-/
import Derived.Test.YtehlgnjbmdaakaaDoorClkTxt
namespace Go.My.Txt
open NumMath

theorem trim_split (f : List UInt8) (c : UInt8) : ∃ z, f = Lib.trimRightB f c ++ List.replicate z c := by
  refine ⟨(f.reverse.takeWhile (· == c)).length, ?_⟩
  unfold Lib.trimRightB
  have h1 : f.reverse.takeWhile (· == c) = List.replicate (f.reverse.takeWhile (· == c)).length c := by
    apply List.eq_replicate_iff.2
    refine ⟨rfl, fun x hx => ?_⟩
    have := takeWhile_mem hx
    simpa using this
  have h2 := List.takeWhile_append_dropWhile (p := (· == c)) (l := f.reverse)
  have h3 := congrArg List.reverse h2
  rw [List.reverse_append, List.reverse_reverse] at h3
  conv => lhs; rw [← h3]
  congr 1
  conv => lhs; rw [h1]
  rw [List.reverse_replicate]
theorem drop_head (p : UInt8 → Bool) : ∀ (l : List UInt8) (x : UInt8) (t : List UInt8), l.dropWhile p = x :: t → p x = false
  | [], x, t, h => by cases h
  | c :: l, x, t, h => by
    rw [List.dropWhile_cons] at h
    by_cases hc : p c = true
    · rw [if_pos hc] at h; exact drop_head p l x t h
    · rw [if_neg hc] at h; injection h with a b; subst a; simpa using hc
theorem trim_last (f : List UInt8) (c : UInt8) (h : Lib.trimRightB f c ≠ []) : ∃ a x, Lib.trimRightB f c = a ++ [x] ∧ (x == c) = false := by
  unfold Lib.trimRightB at *
  cases hd : f.reverse.dropWhile (· == c) with
  | nil => rw [hd] at h; exact absurd rfl h
  | cons x t => exact ⟨t.reverse, x, by simp, drop_head (fun y => y == c) _ _ _ hd⟩
/-- Whether a digit that is no nought stands behind the ninth one. -/
def more (f : List UInt8) : Bool := (f.drop 9).any (· != 48)
theorem more_eq (f : List UInt8) : more f = !decide ((Lib.trimRightB f 48).length ≤ 9) := by
  obtain ⟨z, hz⟩ := trim_split f 48
  unfold more
  by_cases h : (Lib.trimRightB f 48).length ≤ 9
  · rw [decide_eq_true h]
    have : f.drop 9 = (List.replicate z 48).drop (9 - (Lib.trimRightB f 48).length) := by
      conv => lhs; rw [hz]
      rw [List.drop_append, List.drop_eq_nil_of_le h, List.nil_append]
    rw [this]
    show _ = false
    rw [List.any_eq_false]
    intro x hx
    have := List.eq_of_mem_replicate (List.mem_of_mem_drop hx)
    simp [this]
  · rw [decide_eq_false h]
    obtain ⟨a, x, ha, hx⟩ := trim_last f 48 (fun e => h (by rw [e]; simp))
    have hl : 9 ≤ a.length := by rw [ha, List.length_append] at h; simp at h; omega
    have : x ∈ f.drop 9 := by
      rw [hz, ha, List.append_assoc, List.drop_append_of_le_length hl]
      simp
    show _ = true
    rw [List.any_eq_true]
    exact ⟨x, this, by simpa using hx⟩
/-- The first nine digits, filled up. -/
theorem nine_eq (f : List UInt8) : (Lib.trimRightB f 48).take 9 ++ List.replicate (9 - ((Lib.trimRightB f 48).take 9).length) 48 = f.take 9 ++ List.replicate (9 - (f.take 9).length) 48 := by
  obtain ⟨z, hz⟩ := trim_split f 48
  generalize Lib.trimRightB f 48 = g at *
  subst hz
  rw [List.take_append, List.take_replicate, List.append_assoc]
  congr 1
  rw [List.replicate_append_replicate]
  congr 1
  simp only [List.length_append, List.length_take, List.length_replicate]
  omega
/-- All that the fraction's digits tell. -/
def frac9 (f : List UInt8) : Nat := V (dig 10) 10 (f.take 9) * 10 ^ (9 - (f.take 9).length)
theorem V_zeros (l : List UInt8) (n : Nat) : V (dig 10) 10 (l ++ List.replicate n 48) = V (dig 10) 10 l * 10 ^ n := by
  induction n with
  | zero => simp
  | succ n ih =>
    rw [List.replicate_succ', ← List.append_assoc, V_snoc, ih, Nat.pow_succ]
    have : dig 10 48 = 0 := by decide
    rw [this, Nat.add_zero, Nat.mul_assoc]
theorem fracV_eq (f : List UInt8) : fracV (Lib.trimRightB f 48) = frac9 f := by
  unfold fracV dval frac9
  rw [nine_eq, V_zeros]
theorem fracS_eq (f : List UInt8) : fracS f = frac9 f / 1953125 := by unfold fracS; rw [fracV_eq]
theorem fracX_eq (f : List UInt8) : fracX f = (!more f && decide (frac9 f % 1953125 = 0)) := by
  unfold fracX; rw [fracV_eq, more_eq, Bool.not_not]
theorem some_left (f : List UInt8) : (0 < fracS f ∨ fracX f = false) ↔ (0 < frac9 f ∨ more f = true) := by
  rw [fracS_eq, fracX_eq]
  generalize frac9 f = n
  cases more f
  · simp
    constructor
    · intro h; rcases h with h | h <;> omega
    · intro h
      by_cases h2 : n % 1953125 = 0
      · left; omega
      · right; exact h2
  · simp

/-- A piece that is cut where it is no digit any more. -/
def digs (m : List UInt8) : List UInt8 := m.takeWhile (decs.contains ·)
theorem whole_digits {m : List UInt8} (k : Nat) (ha : allIn decs (m.take k) = true) (hs : k = m.length ∨ ∃ h : k < m.length, m[k] = 46) : m.takeWhile (· != 46) = m.take k ∧ m.dropWhile (· != 46) = m.drop k := by
  have h46 : ∀ c ∈ m.take k, (c != 46) = true := fun c hc => by
    have := (decs_iff c).1 (allIn_ok ha c hc)
    have : c ≠ 46 := fun e => by rw [e] at this; simp at this
    simpa using this
  have hT : m.drop k = [] ∨ ∃ t, m.drop k = 46 :: t := by
    rcases hs with h | ⟨h, hc⟩
    · left; rw [h]; simp
    · right; rw [List.drop_eq_getElem_cons h, hc]; exact ⟨_, rfl⟩
  have := span_of (· != 46) (m.take k) (m.drop k) (List.all_eq_true.2 h46) (fun c t h => by
    rcases hT with h2 | ⟨t2, h2⟩
    · rw [h2] at h; cases h
    · rw [h2] at h; injection h with a b; subst a; rfl)
  rw [List.take_append_drop] at this
  exact this
/-- Something that is no digit stands ahead of the point. -/
theorem whole_bad {m : List UInt8} (k : Nat) (hk : k < m.length) (ha : allIn decs (m.take k) = true) (h46 : m[k] ≠ 46) (hd : decs.contains m[k] = false) : decE (m.takeWhile (· != 46)) = 2 := by
  have hall : ∀ c ∈ m.take k, (c != 46) = true := fun c hc => by
    have := (decs_iff c).1 (allIn_ok ha c hc)
    have : c ≠ 46 := fun e => by rw [e] at this; simp at this
    simpa using this
  have hm : m = m.take k ++ m[k] :: m.drop (k + 1) := by
    rw [← List.drop_eq_getElem_cons hk, List.take_append_drop]
  have hin : m[k] ∈ m.takeWhile (· != 46) := by
    generalize m[k] = c at *
    rw [hm, List.takeWhile_append_of_pos hall, List.takeWhile_cons]
    have : (c != 46) = true := by simpa using h46
    rw [this]
    simp
  unfold decE decR
  rw [if_neg]
  rintro ⟨_, h⟩
  have := allIn_ok h m[k] hin
  rw [hd] at this; cases this

theorem dec_of {l : List UInt8} (hne : l ≠ []) (ha : allIn decs l = true) : decE l ≠ 2 ∧ (V (dig 10) 10 l ≤ 4611686018427387904 → decE l = 0 ∧ decV l = V (dig 10) 10 l) ∧ (4611686018427387904 < V (dig 10) 10 l → decE l = 7) := by
  have hr : decR l = (rngV (V (dig 10) 10 l), rngE (V (dig 10) 10 l)) := if_pos ⟨hne, ha⟩
  unfold decE decV
  rw [hr]
  unfold rngV rngE
  refine ⟨?_, ?_, ?_⟩
  · show (if _ then 0 else 7) ≠ 2
    split <;> decide
  · intro h; rw [if_pos h, if_pos h]; exact ⟨rfl, rfl⟩
  · intro h; exact if_neg (by omega)
theorem final_E {l : List UInt8} (w1 : wholeL l ≠ []) (w2 : allIn decs (wholeL l) = true) (f1 : fracL l ≠ []) (f2 : allIn decs (fracL l) = true) :
    ((8589934592 < V (dig 10) 10 (wholeL l) ∨ (V (dig 10) 10 (wholeL l) = 8589934592 ∧ (0 < frac9 (fracL l) ∨ more (fracL l) = true))) → parseE l = 7) ∧
    (¬ (8589934592 < V (dig 10) 10 (wholeL l) ∨ (V (dig 10) 10 (wholeL l) = 8589934592 ∧ (0 < frac9 (fracL l) ∨ more (fracL l) = true))) → parseE l = 0 ∧
      parseP l = if neg l then -((frac9 (fracL l) / 1953125 + V (dig 10) 10 (wholeL l) * 512 : Nat) : Int) - (if (!more (fracL l) && decide (frac9 (fracL l) % 1953125 = 0)) then 0 else 1) else ((frac9 (fracL l) / 1953125 + V (dig 10) 10 (wholeL l) * 512 : Nat) : Int)) := by
  obtain ⟨a1, a2, a3⟩ := dec_of w1 w2
  obtain ⟨b1, _, _⟩ := dec_of f1 f2
  constructor
  · intro h
    unfold parseE
    rw [if_neg (by omega), if_pos]
    rw [some_left]
    by_cases hv : V (dig 10) 10 (wholeL l) ≤ 4611686018427387904
    · rw [(a2 hv).2]
      exact .inr h
    · left; rw [a3 (by omega)]; decide
  · intro h
    have hv : V (dig 10) 10 (wholeL l) ≤ 4611686018427387904 := by omega
    have hE : parseE l = 0 := by
      unfold parseE
      rw [if_neg (by omega), if_neg]
      rw [some_left, (a2 hv).2, (a2 hv).1]
      rintro (h2 | h2)
      · exact h2 rfl
      · exact h h2
    refine ⟨hE, ?_⟩
    unfold parseP
    rw [if_pos hE, (a2 hv).2, fracS_eq, fracX_eq]
end Go.My.Txt
