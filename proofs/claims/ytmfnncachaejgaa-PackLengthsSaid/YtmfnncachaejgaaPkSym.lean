/-
  What slices.symMergeCmpFunc does to a row: plain facts. (A row of symbols, told apart by key.)
-/
import Derived.Test.YtmfnncachaejgaaPkRot
namespace Go.Proofs.Ytmfnncachaejgaa.PkC
open Go.Shelf Go.RowKit Go.Lib Go.Sort Go.My

section
variable {n : Nat} [NeZero n] {key : Fin n → Int}
/-- [a, b) rises. -/
def Rise (key : Fin n → Int) (a b : Nat) (d : Array (Fin n)) : Prop := ∀ i j, a ≤ i → i < j → j < b → key d[i]! ≤ key d[j]!
theorem rise_iff (a b : Nat) (d : Array (Fin n)) : SortedIn (ltOf (cf key)) a b d ↔ Rise key a b d := by
  constructor
  · intro h i j h1 h2 h3
    have := h i j h1 h2 h3
    rw [lt_key] at this
    have := of_decide_eq_false this
    omega
  · intro h i j h1 h2 h3
    have := h i j h1 h2 h3
    rw [lt_key]
    exact decide_eq_false (by omega)
theorem Rise.le {a b : Nat} {d : Array (Fin n)} (h : Rise key a b d) {i j : Nat} (h1 : a ≤ i) (h2 : i ≤ j) (h3 : j < b) : key d[i]! ≤ key d[j]! := by
  by_cases e : i = j
  · subst e; omega
  · exact h i j h1 (by omega) h3
theorem Rise.sub {a b a' b' : Nat} {d : Array (Fin n)} (h : Rise key a b d) (h1 : a ≤ a') (h2 : b' ≤ b) : Rise key a' b' d := fun i j h3 h4 h5 => h i j (by omega) h4 (by omega)
theorem rise_one (a b : Nat) (d : Array (Fin n)) (h : b ≤ a + 1) : Rise key a b d := fun i j h1 h2 h3 => by omega

/-- The first one goes up, c places. -/
def shl (d : Array (Fin n)) (a : Nat) : Nat → Array (Fin n)
  | 0 => d
  | c + 1 => swp (shl d a c) (a + c) (a + c + 1)
theorem shl_size (d : Array (Fin n)) (a c : Nat) : (shl d a c).size = d.size := by
  induction c with
  | zero => rfl
  | succ c ih => rw [shl, size_swp, ih]
theorem shl_get (d : Array (Fin n)) (a c : Nat) (h : a + c < d.size) (x : Nat) : (shl d a c)[x]! = if a ≤ x ∧ x < a + c then d[x + 1]! else if x = a + c then d[a]! else d[x]! := by
  induction c generalizing x with
  | zero =>
    rw [shl, if_neg (by omega)]
    by_cases e : x = a + 0
    · rw [if_pos e, e, Nat.add_zero]
    · rw [if_neg e]
  | succ c ih =>
    have g := fun x => ih (by omega) x
    have hs := shl_size d a c
    rw [shl]
    by_cases e1 : x = a + c
    · rw [e1, swp_left _ _ _ (by omega) (by omega), g, if_neg (show ¬ (a ≤ a + c + 1 ∧ a + c + 1 < a + c) by omega), if_neg (show ¬ (a + c + 1 = a + c) by omega), if_pos (show a ≤ a + c ∧ a + c < a + (c + 1) by omega)]
    · by_cases e2 : x = a + c + 1
      · rw [e2, swp_right _ _ _ (by omega), g, if_neg (show ¬ (a ≤ a + c ∧ a + c < a + c) by omega), if_pos rfl, if_neg (show ¬ (a ≤ a + c + 1 ∧ a + c + 1 < a + (c + 1)) by omega), if_pos (show a + c + 1 = a + (c + 1) by omega)]
      · rw [swp_other _ _ _ _ e1 e2, g]
        by_cases c1 : a ≤ x ∧ x < a + c
        · rw [if_pos c1, if_pos (show a ≤ x ∧ x < a + (c + 1) by omega)]
        · rw [if_neg c1, if_neg e1, if_neg (show ¬ (a ≤ x ∧ x < a + (c + 1)) by omega), if_neg (show ¬ x = a + (c + 1) by omega)]
theorem shl_perm (d : Array (Fin n)) (a c b : Nat) (h : a + c < b) (hb : b ≤ d.size) : PermIn a b d (shl d a c) := by
  induction c with
  | zero => exact permIn_refl _ _ _
  | succ c ih =>
    rw [shl]
    exact permIn_trans _ _ _ _ _ (ih (by omega)) (swp_permIn _ _ _ _ _ (by omega) (by omega) (by omega) (by omega) (by rw [shl_size]; exact hb))
theorem first_up (d : Array (Fin n)) (a b i : Nat) (hb : b ≤ d.size) (hS : Rise key (a + 1) b d) (h1 : a + 1 ≤ i) (h2 : i ≤ b) (hl : i = a + 1 ∨ key d[i - 1]! < key d[a]!) (hr : i = b ∨ key d[a]! ≤ key d[i]!) :
    PermIn a b d (shl d a (i - 1 - a)) ∧ Rise key a b (shl d a (i - 1 - a)) := by
  refine ⟨shl_perm _ _ _ _ (by omega) hb, fun x y hx hxy hy => ?_⟩
  have g := shl_get d a (i - 1 - a) (by omega)
  rw [show a + (i - 1 - a) = i - 1 by omega] at g
  rw [g, g]
  by_cases c1 : x < i - 1
  · rw [if_pos (show a ≤ x ∧ x < i - 1 by omega)]
    by_cases c2 : y < i - 1
    · rw [if_pos (show a ≤ y ∧ y < i - 1 by omega)]
      exact hS.le (by omega) (by omega) (by omega)
    · rw [if_neg (show ¬ (a ≤ y ∧ y < i - 1) by omega)]
      by_cases c3 : y = i - 1
      · rw [if_pos c3]
        have := hS.le (i := x + 1) (j := i - 1) (by omega) (by omega) (by omega)
        rcases hl with h | h <;> omega
      · rw [if_neg c3]
        exact hS.le (by omega) (by omega) (by omega)
  · rw [if_neg (show ¬ (a ≤ x ∧ x < i - 1) by omega), if_neg (show ¬ (a ≤ y ∧ y < i - 1) by omega), if_neg (show ¬ y = i - 1 by omega)]
    by_cases c3 : x = i - 1
    · rw [if_pos c3]
      have := hS.le (i := i) (j := y) (by omega) (by omega) (by omega)
      rcases hr with h | h <;> omega
    · rw [if_neg c3]
      exact hS.le (by omega) (by omega) (by omega)

/-- The last one goes down, c places. -/
def shd (d : Array (Fin n)) (m : Nat) : Nat → Array (Fin n)
  | 0 => d
  | c + 1 => swp (shd d m c) (m - c) (m - c - 1)
theorem shd_size (d : Array (Fin n)) (a c : Nat) : (shd d a c).size = d.size := by
  induction c with
  | zero => rfl
  | succ c ih => rw [shd, size_swp, ih]
theorem shd_get (d : Array (Fin n)) (m c : Nat) (hc : c ≤ m) (h : m < d.size) (x : Nat) : (shd d m c)[x]! = if m - c < x ∧ x ≤ m then d[x - 1]! else if x = m - c then d[m]! else d[x]! := by
  induction c generalizing x with
  | zero =>
    rw [shd, if_neg (by omega)]
    by_cases e : x = m - 0
    · rw [if_pos e, e, Nat.sub_zero]
    · rw [if_neg e]
  | succ c ih =>
    have g := fun x => ih (by omega) x
    have hs := shd_size d m c
    rw [shd]
    by_cases e1 : x = m - c
    · rw [e1, swp_left _ _ _ (by omega) (by omega), g, if_neg (show ¬ (m - c < m - c - 1 ∧ m - c - 1 ≤ m) by omega), if_neg (show ¬ (m - c - 1 = m - c) by omega), if_pos (show m - (c + 1) < m - c ∧ m - c ≤ m by omega)]
    · by_cases e2 : x = m - c - 1
      · rw [e2, swp_right _ _ _ (by omega), g, if_neg (show ¬ (m - c < m - c ∧ m - c ≤ m) by omega), if_pos rfl, if_neg (show ¬ (m - (c + 1) < m - c - 1 ∧ m - c - 1 ≤ m) by omega), if_pos (show m - c - 1 = m - (c + 1) by omega)]
      · rw [swp_other _ _ _ _ e1 e2, g]
        by_cases c1 : m - c < x ∧ x ≤ m
        · rw [if_pos c1, if_pos (show m - (c + 1) < x ∧ x ≤ m by omega)]
        · rw [if_neg c1, if_neg e1, if_neg (show ¬ (m - (c + 1) < x ∧ x ≤ m) by omega), if_neg (show ¬ x = m - (c + 1) by omega)]
theorem shd_perm (d : Array (Fin n)) (a m c : Nat) (h : a + c ≤ m) (hb : m + 1 ≤ d.size) : PermIn a (m + 1) d (shd d m c) := by
  induction c with
  | zero => exact permIn_refl _ _ _
  | succ c ih =>
    rw [shd]
    exact permIn_trans _ _ _ _ _ (ih (by omega)) (swp_permIn _ _ _ _ _ (by omega) (by omega) (by omega) (by omega) (by rw [shd_size]; exact hb))
theorem last_down (d : Array (Fin n)) (a m i : Nat) (hb : m + 1 ≤ d.size) (hS : Rise key a m d) (h1 : a ≤ i) (h2 : i ≤ m) (hl : i = a ∨ key d[i - 1]! ≤ key d[m]!) (hr : i = m ∨ key d[m]! < key d[i]!) :
    PermIn a (m + 1) d (shd d m (m - i)) ∧ Rise key a (m + 1) (shd d m (m - i)) := by
  refine ⟨shd_perm _ _ _ _ (by omega) hb, fun x y hx hxy hy => ?_⟩
  have g := shd_get d m (m - i) (by omega) (by omega)
  rw [show m - (m - i) = i by omega] at g
  rw [g, g]
  by_cases c1 : x < i
  · rw [if_neg (show ¬ (i < x ∧ x ≤ m) by omega), if_neg (show ¬ x = i by omega)]
    by_cases c2 : y < i
    · rw [if_neg (show ¬ (i < y ∧ y ≤ m) by omega), if_neg (show ¬ y = i by omega)]
      exact hS.le (by omega) (by omega) (by omega)
    · by_cases c3 : y = i
      · rw [if_neg (show ¬ (i < y ∧ y ≤ m) by omega), if_pos c3]
        have := hS.le (i := x) (j := i - 1) (by omega) (by omega) (by omega)
        rcases hl with h | h <;> omega
      · rw [if_pos (show i < y ∧ y ≤ m by omega)]
        exact hS.le (by omega) (by omega) (by omega)
  · rw [if_pos (show i < y ∧ y ≤ m by omega)]
    by_cases c3 : x = i
    · rw [if_neg (show ¬ (i < x ∧ x ≤ m) by omega), if_pos c3]
      have := hS.le (i := i) (j := y - 1) (by omega) (by omega) (by omega)
      rcases hr with h | h <;> omega
    · rw [if_pos (show i < x ∧ x ≤ m by omega)]
      exact hS.le (by omega) (by omega) (by omega)

/-- Behind the rotation: both halves, and that nothing of the left one is above the right one. -/
theorem halves (d d1 : Array (Fin n)) (a m b s e mid : Nat) (hb : b ≤ d.size) (hA : Rise key a m d) (hB : Rise key m b d) (h1 : a ≤ s) (h2 : s ≤ m) (h3 : m ≤ e) (h4 : e ≤ b) (hm : s + e = mid + m)
    (hl : s = a ∨ e = b ∨ key d[s - 1]! ≤ key d[e]!) (hr : s = m ∨ e = m ∨ key d[e - 1]! < key d[s]!) (hR : Rot d d1 s m e) :
    PermIn a b d d1 ∧ Rise key a s d1 ∧ Rise key s mid d1 ∧ Rise key mid e d1 ∧ Rise key e b d1 ∧ ∀ i j, a ≤ i → i < mid → mid ≤ j → j < b → key d1[i]! ≤ key d1[j]! := by
  obtain ⟨hp, hL, hQ⟩ := hR
  have g1 : ∀ i, i < s ∨ e ≤ i → d1[i]! = d[i]! := hp.2.1
  have g2 : ∀ i, s ≤ i → i < mid → d1[i]! = d[m + (i - s)]! := fun i q1 q2 => by
    have := hL (i - s) (by omega)
    rwa [show s + (i - s) = i by omega] at this
  have g3 : ∀ i, mid ≤ i → i < e → d1[i]! = d[s + (i - mid)]! := fun i q1 q2 => by
    have := hQ (i - mid) (by omega)
    rwa [show s + (e - m) + (i - mid) = i by omega] at this
  refine ⟨perm_wide hp h1 h4 hb, fun i j q1 q2 q3 => ?_, fun i j q1 q2 q3 => ?_, fun i j q1 q2 q3 => ?_, fun i j q1 q2 q3 => ?_, fun i j q1 q2 q3 q4 => ?_⟩
  · rw [g1 i (.inl (by omega)), g1 j (.inl q3)]
    exact hA.le q1 (by omega) (by omega)
  · rw [g2 i q1 (by omega), g2 j (by omega) q3]
    exact hB.le (by omega) (by omega) (by omega)
  · rw [g3 i q1 (by omega), g3 j (by omega) q3]
    exact hA.le (by omega) (by omega) (by omega)
  · rw [g1 i (.inr q1), g1 j (.inr (by omega))]
    exact hB.le (by omega) (by omega) q3
  · by_cases c1 : i < s
    · rw [g1 i (.inl c1)]
      by_cases c2 : j < e
      · rw [g3 j q3 c2]
        exact hA.le q1 (by omega) (by omega)
      · rw [g1 j (.inr (by omega))]
        have u1 := hA.le (i := i) (j := s - 1) q1 (by omega) (by omega)
        have u2 := hB.le (i := e) (j := j) h3 (by omega) q4
        rcases hl with h | h | h <;> omega
    · rw [g2 i (by omega) q2]
      by_cases c2 : j < e
      · rw [g3 j q3 c2]
        have u1 := hB.le (i := m + (i - s)) (j := e - 1) (by omega) (by omega) (by omega)
        have u2 := hA.le (i := s) (j := s + (j - mid)) h1 (by omega) (by omega)
        rcases hr with h | h | h <;> omega
      · rw [g1 j (.inr (by omega))]
        exact hB.le (by omega) (by omega) q4
theorem both_sides (d1 d2 d3 : Array (Fin n)) (a mid b : Nat) (hb : b ≤ d1.size) (h1 : a ≤ mid) (h2 : mid ≤ b) (hx : ∀ i j, a ≤ i → i < mid → mid ≤ j → j < b → key d1[i]! ≤ key d1[j]!)
    (p2 : PermIn a mid d1 d2) (s2 : Rise key a mid d2) (p3 : PermIn mid b d2 d3) (s3 : Rise key mid b d3) : PermIn a b d1 d3 ∧ Rise key a b d3 := by
  have z2 : d2.size = d1.size := p2.1
  refine ⟨permIn_trans _ _ _ _ _ (perm_wide p2 (Nat.le_refl _) h2 hb) (perm_wide p3 h1 (Nat.le_refl _) (by omega)), ?_⟩
  have x2 : ∀ i, a ≤ i → i < mid → ∀ j, mid ≤ j → j < b → key d2[i]! ≤ key d1[j]! := fun i q1 q2 =>
    permIn_all d1 d2 a mid (fun z => ∀ j, mid ≤ j → j < b → key z ≤ key d1[j]!) (by omega) p2 (fun i q1 q2 j q3 q4 => hx i j q1 q2 q3 q4) i q1 q2
  have x3 : ∀ j, mid ≤ j → j < b → ∀ i, a ≤ i → i < mid → key d3[i]! ≤ key d3[j]! := fun j q1 q2 =>
    permIn_all d2 d3 mid b (fun z => ∀ i, a ≤ i → i < mid → key d3[i]! ≤ key z) (by omega) p3 (fun j q3 q4 i q5 q6 => by
      rw [p3.2.1 i (.inl q6), p2.2.1 j (.inr q3)]
      exact x2 i q5 q6 j q3 q4) j q1 q2
  intro i j q1 q2 q3
  by_cases c1 : j < mid
  · rw [p3.2.1 i (.inl (by omega)), p3.2.1 j (.inl c1)]
    exact s2 i j q1 q2 c1
  · by_cases c2 : i < mid
    · exact x3 j (by omega) q3 i q1 c2
    · exact s3 i j (by omega) q2 q3
end
end Go.Proofs.Ytmfnncachaejgaa.PkC
