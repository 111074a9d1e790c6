/-
  What was told as a text is read back: no program, no dump.
-/
import Derived.Test.YtehlgnjbmdaakaaDoorClkTxt
namespace Go.My.Txt
open NumMath

theorem chr_digit (d : Nat) (h : d < 10) : decs.contains (chr d) = true ∧ dig 10 (chr d) = d ∧ (chr d != 46) = true ∧ (chr d == 45) = false := by
  have : d = 0 ∨ d = 1 ∨ d = 2 ∨ d = 3 ∨ d = 4 ∨ d = 5 ∨ d = 6 ∨ d = 7 ∨ d = 8 ∨ d = 9 := by omega
  rcases this with rfl | rfl | rfl | rfl | rfl | rfl | rfl | rfl | rfl | rfl <;> decide
theorem dg_all (n : Nat) : ∀ u, ∀ c ∈ dg n u, ∃ d, d < 10 ∧ c = chr d := by
  induction n with
  | zero => intro u c h; simp [dg] at h
  | succ n ih =>
    intro u c h
    unfold dg at h
    by_cases hu : u < 10
    · rw [if_pos hu] at h
      exact ⟨u, hu, List.mem_singleton.1 h⟩
    · rw [if_neg hu, List.mem_append] at h
      rcases h with h | h
      · exact ih _ c h
      · exact ⟨u % 10, Nat.mod_lt _ (by omega), List.mem_singleton.1 h⟩
theorem dg_val (n : Nat) : ∀ u, u < 10 ^ n → 0 < n → V (dig 10) 10 (dg n u) = u := by
  induction n with
  | zero => intro u _ h; omega
  | succ n ih =>
    intro u hu _
    unfold dg
    by_cases h : u < 10
    · rw [if_pos h]
      have := (chr_digit u h).2.1
      unfold V
      simp [this]
    · rw [if_neg h, V_snoc]
      have hn : 0 < n := by
        cases n with
        | zero => simp at hu; omega
        | succ n => omega
      rw [ih (u / 10) (by rw [Nat.pow_succ] at hu; omega) hn, (chr_digit (u % 10) (Nat.mod_lt _ (by omega))).2.1]
      omega
theorem dg_ne (n u : Nat) (h : 0 < n) : dg n u ≠ [] := by
  cases n with
  | zero => omega
  | succ n => unfold dg; split <;> simp
theorem take_digits (W T : List UInt8) (hW : ∀ c ∈ W, (c != 46) = true) (hT : T = [] ∨ ∃ t, T = 46 :: t) : (W ++ T).takeWhile (· != 46) = W ∧ (W ++ T).dropWhile (· != 46) = T :=
  span_of (· != 46) W T (List.all_eq_true.2 hW) (fun c t h => by
    rcases hT with h2 | ⟨t2, h2⟩
    · rw [h2] at h; cases h
    · rw [h2] at h; injection h with a b; subst a; rfl)
theorem zero_back : fracS [48] = 0 ∧ fracX [48] = true ∧ decE [48] = 0 := by decide +kernel

theorem parse_text (p : Int) (h1 : -4398046511104 ≤ p) (h2 : p ≤ 4398046511104) : parseE (textF p) = 0 ∧ parseP (textF p) = p := by
  obtain ⟨W, hW⟩ : ∃ W, W = Lib.decDigits (p.natAbs / 512) := ⟨_, rfl⟩
  have hlt : p.natAbs / 512 < 10 ^ 20 := by omega
  have hWd : W = dg 20 (p.natAbs / 512) := by rw [hW, dec_dg 20 _ hlt (by omega)]
  have hall : ∀ c ∈ W, ∃ d, d < 10 ∧ c = chr d := fun c hc => dg_all 20 _ c (by rw [← hWd]; exact hc)
  have hv : V (dig 10) 10 W = p.natAbs / 512 := by rw [hWd]; exact dg_val 20 _ hlt (by omega)
  have hne : W ≠ [] := by rw [hWd]; exact dg_ne 20 _ (by omega)
  have hin : allIn decs W = true := List.all_eq_true.2 fun c hc => by obtain ⟨d, hd, rfl⟩ := hall c hc; exact (chr_digit d hd).1
  have h46 : ∀ c ∈ W, (c != 46) = true := fun c hc => by obtain ⟨d, hd, rfl⟩ := hall c hc; exact (chr_digit d hd).2.2.1
  have hr : p.natAbs % 512 < 512 := Nat.mod_lt _ (by omega)
  have hT : fracT (p.natAbs % 512) = [] ∨ ∃ t, fracT (p.natAbs % 512) = 46 :: t := by
    unfold fracT; split
    · exact .inl rfl
    · exact .inr ⟨_, rfl⟩
  obtain ⟨s1, s2⟩ := take_digits W _ h46 hT
  have hbody : (W ++ fracT (p.natAbs % 512)).head? ≠ some 45 := by
    cases hw : W with
    | nil => exact absurd hw hne
    | cons c t =>
      obtain ⟨d, hd, rfl⟩ := hall c (by rw [hw]; exact List.mem_cons_self)
      have := (chr_digit d hd).2.2.2
      simp at this
      simpa using this
  have htx : textF p = (if p < 0 then [45] else []) ++ (W ++ fracT (p.natAbs % 512)) := by unfold textF; rw [← hW]
  have hneg : neg (textF p) = decide (p < 0) := by
    rw [htx]
    by_cases hp : p < 0
    · rw [if_pos hp, decide_eq_true hp]; rfl
    · rw [if_neg hp, decide_eq_false hp, List.nil_append]
      unfold neg
      simpa using hbody
  have hnum : num (textF p) = W ++ fracT (p.natAbs % 512) := by
    unfold num
    rw [hneg, htx]
    by_cases hp : p < 0
    · rw [if_pos hp, decide_eq_true hp]; rfl
    · rw [if_neg hp, decide_eq_false hp]; rfl
  have hwl : wholeL (textF p) = W := by unfold wholeL; rw [hnum]; exact s1
  have hrs : rest (textF p) = fracT (p.natAbs % 512) := by unfold rest; rw [hnum]; exact s2
  have hdr : decR W = (p.natAbs / 512, 0) := by
    unfold decR
    rw [if_pos ⟨hne, hin⟩, hv]
    unfold rngV rngE
    rw [if_pos (by omega), if_pos (by omega)]
  have hdv : decV W = p.natAbs / 512 := by unfold decV; rw [hdr]
  have hde : decE W = 0 := by unfold decE; rw [hdr]
  have hfr : fracS (fracL (textF p)) = p.natAbs % 512 ∧ fracX (fracL (textF p)) = true ∧ decE (fracL (textF p)) = 0 := by
    unfold fracL
    rw [hrs]
    by_cases h0 : p.natAbs % 512 = 0
    · unfold fracT
      rw [if_pos h0, if_pos rfl, h0]
      exact zero_back
    · unfold fracT
      rw [if_neg h0, if_neg (by simp)]
      exact frac_back ⟨p.natAbs % 512, hr⟩ h0
  have hE : parseE (textF p) = 0 := by
    unfold parseE
    rw [hwl, hdv, hde, hfr.1, hfr.2.1, hfr.2.2, if_neg (by omega), if_neg]
    intro h
    rcases h with h | h | h
    · exact h rfl
    · omega
    · obtain ⟨h3, h4 | h4⟩ := h
      · omega
      · cases h4
  refine ⟨hE, ?_⟩
  unfold parseP
  rw [if_pos hE, hwl, hdv, hfr.1, hfr.2.1, hneg]
  by_cases hp : p < 0
  · rw [decide_eq_true hp]; simp; omega
  · rw [decide_eq_false hp]; simp; omega
end Go.My.Txt
