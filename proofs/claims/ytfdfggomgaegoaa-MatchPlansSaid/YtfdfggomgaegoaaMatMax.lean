/-
  What is found is the longest there is. Plain mathematics.
-/
import Derived.Test.YtfdfggomgaegoaaMatMath
namespace MatMath
section
variable {s : List UInt8} {far m : Nat} {chain good : Int} {a : Nat}
theorem scan_max (ha : a ≤ far) (hg : (m : Int) < gd good) : ∀ q seen b d : Nat, q ≤ a → (seen : Int) + q ≤ chain → d + q ≤ a →
    b ≤ (scan s far m chain good a q seen b d).1 ∧ ((scan s far m chain good a q seen b d).1 = b → (scan s far m chain good a q seen b d).2 = d) ∧
    ∀ p, p < q → tri s p a = true → ml s p a m ≤ (scan s far m chain good a q seen b d).1 ∧ (ml s p a m = (scan s far m chain good a q seen b d).1 → (scan s far m chain good a q seen b d).2 + p ≤ a) := by
  intro q
  induction q with
  | zero => intro seen b d _ _ _; exact ⟨Nat.le_refl _, fun _ => rfl, fun p hp => by omega⟩
  | succ q ih =>
    intro seen b d hq hs hd
    have hok : a - q ≤ far ∧ (seen : Int) < chain := by omega
    by_cases ht : tri s q a = true
    · have hl := ml_le s m q a
      have hng : ¬ gd good ≤ (ml s q a m : Int) := by omega
      by_cases hb : b < ml s q a m
      · rw [scan_more hok ht hng hb]
        obtain ⟨h1, h2, h3⟩ := ih (seen + 1) (ml s q a m) (a - q) (by omega) (by omega) (by omega)
        refine ⟨by omega, fun e => by omega, fun p hp htp => ?_⟩
        by_cases e : p = q
        · subst e
          exact ⟨h1, fun e => by have := h2 e.symm; omega⟩
        · exact h3 p (by omega) htp
      · rw [scan_less hok ht hng hb]
        obtain ⟨h1, h2, h3⟩ := ih (seen + 1) b d (by omega) (by omega) (by omega)
        refine ⟨h1, h2, fun p hp htp => ?_⟩
        by_cases e : p = q
        · subst e
          exact ⟨by omega, fun e => by have := h2 (by omega); omega⟩
        · exact h3 p (by omega) htp
    · have ht' : tri s q a = false := by simpa using ht
      rw [scan_pass ht']
      obtain ⟨h1, h2, h3⟩ := ih seen b d (by omega) (by omega) (by omega)
      refine ⟨h1, h2, fun p hp htp => ?_⟩
      by_cases e : p = q
      · subst e; rw [ht'] at htp; cases htp
      · exact h3 p (by omega) htp
end
/-- Nothing longer is anywhere, nor as long and nearer. -/
theorem find_max (s : List UInt8) (a : Nat) (hs : s.length ≤ 1600) (n d : Nat) (h : find s 5000 100000 false a = (n, d)) (p : Nat) (hp : p < a) (h3 : 3 ≤ ml s p a (min 258 (s.length - a))) :
    ml s p a (min 258 (s.length - a)) ≤ n ∧ (ml s p a (min 258 (s.length - a)) = n → d + p ≤ a) := by
  have hl := ml_le s (min 258 (s.length - a)) p a
  have ht := tri_of_ml h3
  unfold find at h
  rw [if_pos (by omega)] at h
  have hm : ((min (long_ false) (s.length - a) : Nat) : Int) < gd 100000 := by
    unfold gd
    rw [if_neg (by omega)]
    simp [long_]; omega
  obtain ⟨_, _, h2⟩ := scan_max (s := s) (far := far_ false) (m := min (long_ false) (s.length - a)) (chain := 5000) (good := 100000) (a := a) (by simp [far_]; omega) hm a 0 0 0 (Nat.le_refl _) (by omega) (by omega)
  have h4 := h2 p hp ht
  rw [h] at h4
  exact h4
/-- More bytes that may be alike. -/
theorem ml_mono (s : List UInt8) (q a m m' : Nat) (h : m ≤ m') : ml s q a m ≤ ml s q a m' :=
  ml_ge (by have := ml_le s m q a; omega) (fun i hi => ml_same s m q a i hi)
theorem scan_ge {s : List UInt8} {far m : Nat} {chain good : Int} {a : Nat} (hg : (m : Int) < gd good) : ∀ q seen b d : Nat, b ≤ (scan s far m chain good a q seen b d).1 := by
  intro q
  induction q with
  | zero => intro seen b d; exact Nat.le_refl _
  | succ q ih =>
    intro seen b d
    have hl := ml_le s m q a
    rw [scan]
    split
    · split
      · rw [if_neg (by omega)]
        split
        · have := ih (seen + 1) (ml s q a m) (a - q); omega
        · exact ih _ _ _
      · exact ih _ _ _
    · exact Nat.le_refl _
/-- A longer chain, more bytes, a wider finder: nothing shorter. -/
theorem scan_le {s : List UInt8} {far far' m m' : Nat} {chain chain' good : Int} {a : Nat} (hf : a ≤ far) (hf' : a ≤ far') (hm : m ≤ m') (hc : chain ≤ chain') (hg : (m' : Int) < gd good) :
    ∀ q seen b b' d d' : Nat, b ≤ b' → (scan s far m chain good a q seen b d).1 ≤ (scan s far' m' chain' good a q seen b' d').1 := by
  intro q
  induction q with
  | zero => intro seen b b' d d' h; exact h
  | succ q ih =>
    intro seen b b' d d' h
    by_cases hs : (seen : Int) < chain
    · have ok1 : a - q ≤ far ∧ (seen : Int) < chain := by omega
      have ok2 : a - q ≤ far' ∧ (seen : Int) < chain' := by omega
      have l1 := ml_le s m q a
      have l2 := ml_le s m' q a
      have l3 := ml_mono s q a m m' hm
      by_cases ht : tri s q a = true
      · by_cases h1 : b < ml s q a m
        · rw [scan_more ok1 ht (by omega) h1]
          by_cases h2 : b' < ml s q a m'
          · rw [scan_more ok2 ht (by omega) h2]; exact ih _ _ _ _ _ l3
          · rw [scan_less ok2 ht (by omega) h2]; exact ih _ _ _ _ _ (by omega)
        · rw [scan_less ok1 ht (by omega) h1]
          by_cases h2 : b' < ml s q a m'
          · rw [scan_more ok2 ht (by omega) h2]; exact ih _ _ _ _ _ (by omega)
          · rw [scan_less ok2 ht (by omega) h2]; exact ih _ _ _ _ _ h
      · have ht' : tri s q a = false := by simpa using ht
        rw [scan_pass ht', scan_pass ht']
        exact ih _ _ _ _ _ h
    · rw [scan_stop (by omega)]
      exact Nat.le_trans h (scan_ge hg _ _ _ _)
theorem find_le (s : List UInt8) (a : Nat) (x y : Int) (hxy : x ≤ y) (hs : s.length ≤ 1600) (w1 w2 : Bool) (hw : w1 = false ∨ w2 = true) : (find s x 100000 w1 a).1 ≤ (find s y 100000 w2 a).1 := by
  unfold find
  split
  · refine scan_le ?_ ?_ ?_ hxy ?_ _ _ _ _ _ _ (Nat.le_refl _)
    · have := far_ge w1; omega
    · have := far_ge w2; omega
    · rcases hw with rfl | rfl <;> simp [long_] <;> first | (split <;> omega) | omega
    · unfold gd; rw [if_neg (by omega)]; omega
  · exact Nat.le_refl _
theorem find_zero (s : List UInt8) (a : Nat) (good : Int) (wide : Bool) : find s 0 good wide a = (0, 0) := by
  unfold find
  split
  · exact scan_out (by omega)
  · rfl
end MatMath
