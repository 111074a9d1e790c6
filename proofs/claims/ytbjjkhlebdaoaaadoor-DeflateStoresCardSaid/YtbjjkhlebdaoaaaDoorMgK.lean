import Derived.Test.YtbjjkhlebdaoaaaDoorRows
import Derived.Test.YtbjjkhlebdaoaaaDoorMgA
import Derived.Laws.Pointers
import Derived.Deep.QuietTactic
import Derived.BigQuiet
import Derived.Deep.DeepCutAuto

section
/-
  Package-merge: plain mathematics (levels, what is taken of them, Kraft, cost; none is cheaper; leaves alike). No program, no dump.
-/
namespace PackMath

/-- The sum of f 0, .., f (n - 1). -/
def sm : Nat → (Nat → Nat) → Nat
  | 0, _ => 0
  | n + 1, f => sm n f + f n
theorem sm_succ (n : Nat) (f : Nat → Nat) : sm (n + 1) f = sm n f + f n := rfl
theorem sm_congr {n : Nat} {f g : Nat → Nat} (h : ∀ j, j < n → f j = g j) : sm n f = sm n g := by
  induction n with
  | zero => rfl
  | succ n ih => rw [sm_succ, sm_succ, ih fun j hj => h j (by omega), h n (by omega)]
theorem sm_add (n : Nat) (f g : Nat → Nat) : sm n (fun j => f j + g j) = sm n f + sm n g := by
  induction n with
  | zero => rfl
  | succ n ih => simp only [sm_succ, ih]; omega
theorem sm_const (n c : Nat) : sm n (fun _ => c) = n * c := by
  induction n with
  | zero => simp [sm]
  | succ n ih => rw [sm_succ, ih, Nat.succ_mul]
theorem sm_const0 (n : Nat) : sm n (fun _ => 0) = 0 := by rw [sm_const]; omega
theorem sm_mul (n c : Nat) (f : Nat → Nat) : sm n (fun j => f j * c) = sm n f * c := by
  induction n with
  | zero => simp [sm]
  | succ n ih => rw [sm_succ, sm_succ, ih, Nat.add_mul]
theorem sm_head (n : Nat) (f : Nat → Nat) : sm (n + 1) f = f 0 + sm n (fun j => f (j + 1)) := by
  induction n with
  | zero => simp [sm]
  | succ n ih => rw [sm_succ, ih, sm_succ]; omega
/-- Where j < a counts. -/
theorem sm_ite (n a : Nat) (ha : a ≤ n) (f : Nat → Nat) : sm n (fun j => if j < a then f j else 0) = sm a f := by
  induction n with
  | zero => obtain rfl : a = 0 := by omega
            rfl
  | succ n ih =>
    rw [sm_succ]
    by_cases h : a ≤ n
    · rw [ih h, if_neg (by omega)]; rfl
    · obtain rfl : a = n + 1 := by omega
      rw [if_pos (by omega), sm_succ]
      congr 1
      exact sm_congr fun j hj => by rw [if_pos (by omega)]
theorem sm_list (A : List Nat) (a : Nat) : sm a (fun j => A.getD j 0) = (A.take a).sum := by
  induction A generalizing a with
  | nil => simp [sm_const0]
  | cons x A ih =>
    cases a with
    | zero => simp [sm]
    | succ a => rw [sm_head]; simp only [List.getD_cons_zero, List.getD_cons_succ, List.take_succ_cons, List.sum_cons, ih]
abbrev Srt (l : List Nat) : Prop := l.Pairwise (· ≤ ·)
theorem Srt.get {l : List Nat} (h : Srt l) {i j : Nat} (hij : i ≤ j) (hj : j < l.length) : l.getD i 0 ≤ l.getD j 0 := by
  rw [List.getD_eq_getElem?_getD, List.getD_eq_getElem?_getD, List.getElem?_eq_getElem (by omega), List.getElem?_eq_getElem hj]
  simp only [Option.getD_some]
  by_cases e : i = j
  · subst e; exact Nat.le_refl _
  · exact List.pairwise_iff_getElem.1 h i j (by omega) hj (by omega)
theorem srt_of_get {l : List Nat} (h : ∀ i, i + 1 < l.length → l.getD i 0 ≤ l.getD (i + 1) 0) : Srt l := by
  rw [Srt, List.pairwise_iff_getElem]
  intro i j hi hj hij
  have key : ∀ d, i + d < l.length → l.getD i 0 ≤ l.getD (i + d) 0 := by
    intro d
    induction d with
    | zero => intro _; exact Nat.le_refl _
    | succ d ih => intro hd; exact Nat.le_trans (ih (by omega)) (h (i + d) (by omega))
  have := key (j - i) (by omega)
  rw [show i + (j - i) = j by omega] at this
  simpa [List.getD_eq_getElem?_getD, List.getElem?_eq_getElem, hi, hj] using this

/-- Leaves (true) and packages (false) merged: the lightest first, leaves ahead of packages that weigh the same. -/
def mrg : List Nat → List Nat → List (Nat × Bool)
  | [], [] => []
  | x :: ls, [] => (x, true) :: mrg ls []
  | [], y :: ps => (y, false) :: mrg [] ps
  | x :: ls, y :: ps => if x ≤ y then (x, true) :: mrg ls (y :: ps) else (y, false) :: mrg (x :: ls) ps
termination_by ls ps => ls.length + ps.length
theorem mrg_nn : mrg [] [] = [] := by rw [mrg]
theorem mrg_cn (x : Nat) (ls : List Nat) : mrg (x :: ls) [] = (x, true) :: mrg ls [] := by rw [mrg]
theorem mrg_nc (y : Nat) (ps : List Nat) : mrg [] (y :: ps) = (y, false) :: mrg [] ps := by rw [mrg]
theorem mrg_le {x y : Nat} (ls ps : List Nat) (h : x ≤ y) : mrg (x :: ls) (y :: ps) = (x, true) :: mrg ls (y :: ps) := by rw [mrg, if_pos h]
theorem mrg_gt {x y : Nat} (ls ps : List Nat) (h : ¬ x ≤ y) : mrg (x :: ls) (y :: ps) = (y, false) :: mrg (x :: ls) ps := by rw [mrg, if_neg h]
/-- Induction as mrg goes. -/
theorem mrg_ind {M : List Nat → List Nat → Prop} (h1 : M [] []) (h2 : ∀ x ls, M ls [] → M (x :: ls) []) (h3 : ∀ y ps, M [] ps → M [] (y :: ps))
    (h4 : ∀ x ls y ps, x ≤ y → M ls (y :: ps) → M (x :: ls) (y :: ps)) (h5 : ∀ x ls y ps, ¬ x ≤ y → M (x :: ls) ps → M (x :: ls) (y :: ps)) : ∀ A B, M A B
  | [], [] => h1
  | x :: ls, [] => h2 x ls (mrg_ind h1 h2 h3 h4 h5 ls [])
  | [], y :: ps => h3 y ps (mrg_ind h1 h2 h3 h4 h5 [] ps)
  | x :: ls, y :: ps => by
    by_cases h : x ≤ y
    · exact h4 x ls y ps h (mrg_ind h1 h2 h3 h4 h5 ls (y :: ps))
    · exact h5 x ls y ps h (mrg_ind h1 h2 h3 h4 h5 (x :: ls) ps)
termination_by A B => A.length + B.length

/-- Weights. -/
def ws (l : List (Nat × Bool)) : List Nat := l.map (·.1)
theorem ws_cons (p : Nat × Bool) (l : List (Nat × Bool)) : ws (p :: l) = p.1 :: ws l := rfl
theorem ws_len (l : List (Nat × Bool)) : (ws l).length = l.length := by simp [ws]
/-- Leaves among the first t. -/
def lf : List (Nat × Bool) → Nat → Nat
  | _, 0 => 0
  | [], _ + 1 => 0
  | p :: r, t + 1 => (if p.2 then 1 else 0) + lf r t
theorem lf_zero (l : List (Nat × Bool)) : lf l 0 = 0 := by cases l <;> rfl
theorem lf_cons (p : Nat × Bool) (r : List (Nat × Bool)) (t : Nat) : lf (p :: r) (t + 1) = (if p.2 then 1 else 0) + lf r t := rfl
theorem lf_succ (l : List (Nat × Bool)) (t : Nat) (h : t < l.length) : lf l (t + 1) = lf l t + (if l[t].2 then 1 else 0) := by
  induction l generalizing t with
  | nil => simp at h
  | cons p r ih =>
    cases t with
    | zero => rw [lf_cons, lf_zero, lf_zero]; simp
    | succ t => rw [lf_cons, lf_cons, ih t (by simpa using h)]; simp [Nat.add_assoc]
theorem mrg_len (A B : List Nat) : (mrg A B).length = A.length + B.length := by
  induction A, B using mrg_ind with
  | h1 => rw [mrg_nn]; rfl
  | h2 x ls ih => rw [mrg_cn]; simp at ih ⊢; omega
  | h3 y ps ih => rw [mrg_nc]; simp at ih ⊢; omega
  | h4 x ls y ps h ih => rw [mrg_le _ _ h]; simp at ih ⊢; omega
  | h5 x ls y ps h ih => rw [mrg_gt _ _ h]; simp at ih ⊢; omega
theorem lf_le (A B : List Nat) : ∀ t, t ≤ A.length + B.length → lf (mrg A B) t ≤ A.length ∧ t - lf (mrg A B) t ≤ B.length ∧ lf (mrg A B) t ≤ t := by
  induction A, B using mrg_ind with
  | h1 => intro t ht; obtain rfl : t = 0 := by simpa using ht
          rw [lf_zero]; simp
  | h2 x ls ih =>
    intro t ht
    cases t with
    | zero => rw [lf_zero]; simp
    | succ t => rw [mrg_cn, lf_cons]; have := ih t (by simp at ht ⊢; omega); simp at this ⊢; omega
  | h3 y ps ih =>
    intro t ht
    cases t with
    | zero => rw [lf_zero]; simp
    | succ t => rw [mrg_nc, lf_cons]; have := ih t (by simp at ht ⊢; omega); simp at this ⊢; omega
  | h4 x ls y ps h ih =>
    intro t ht
    cases t with
    | zero => rw [lf_zero]; simp
    | succ t => rw [mrg_le _ _ h, lf_cons]; have := ih t (by simp at ht ⊢; omega); simp at this ⊢; omega
  | h5 x ls y ps h ih =>
    intro t ht
    cases t with
    | zero => rw [lf_zero]; simp
    | succ t => rw [mrg_gt _ _ h, lf_cons]; have := ih t (by simp at ht ⊢; omega); simp at this ⊢; omega
theorem mem_ws (A B : List Nat) (z : Nat) : z ∈ ws (mrg A B) → z ∈ A ∨ z ∈ B := by
  induction A, B using mrg_ind with
  | h1 => rw [mrg_nn]; intro h; simp [ws] at h
  | h2 x ls ih => rw [mrg_cn, ws_cons]; intro h; rcases List.mem_cons.1 h with rfl | h
                  · simp
                  · rcases ih h with h | h <;> simp [h]
  | h3 y ps ih => rw [mrg_nc, ws_cons]; intro h; rcases List.mem_cons.1 h with rfl | h
                  · simp
                  · rcases ih h with h | h <;> simp [h]
  | h4 x ls y ps h ih => rw [mrg_le _ _ h, ws_cons]; intro h; rcases List.mem_cons.1 h with rfl | h
                         · simp
                         · rcases ih h with h | h <;> simp [h]
  | h5 x ls y ps h ih => rw [mrg_gt _ _ h, ws_cons]; intro h; rcases List.mem_cons.1 h with rfl | h
                         · simp
                         · rcases ih h with h | h
                           · exact .inl h
                           · simp [h]
theorem mrg_srt (A B : List Nat) : Srt A → Srt B → Srt (ws (mrg A B)) := by
  induction A, B using mrg_ind with
  | h1 => intro _ _; rw [mrg_nn]; exact List.Pairwise.nil
  | h2 x ls ih =>
    intro hA hB
    rw [mrg_cn, ws_cons]
    obtain ⟨h1, h2⟩ := List.pairwise_cons.1 hA
    refine List.pairwise_cons.2 ⟨fun z hz => ?_, ih h2 hB⟩
    rcases mem_ws _ _ _ hz with h | h
    · exact h1 z h
    · simp at h
  | h3 y ps ih =>
    intro hA hB
    rw [mrg_nc, ws_cons]
    obtain ⟨h1, h2⟩ := List.pairwise_cons.1 hB
    refine List.pairwise_cons.2 ⟨fun z hz => ?_, ih hA h2⟩
    rcases mem_ws _ _ _ hz with h | h
    · simp at h
    · exact h1 z h
  | h4 x ls y ps h ih =>
    intro hA hB
    rw [mrg_le _ _ h, ws_cons]
    obtain ⟨h1, h2⟩ := List.pairwise_cons.1 hA
    obtain ⟨h3, h4⟩ := List.pairwise_cons.1 hB
    refine List.pairwise_cons.2 ⟨fun z hz => ?_, ih h2 hB⟩
    rcases mem_ws _ _ _ hz with h5 | h5
    · exact h1 z h5
    · rcases List.mem_cons.1 h5 with rfl | h5
      · exact h
      · exact Nat.le_trans h (h3 z h5)
  | h5 x ls y ps h ih =>
    intro hA hB
    rw [mrg_gt _ _ h, ws_cons]
    obtain ⟨h1, h2⟩ := List.pairwise_cons.1 hA
    obtain ⟨h3, h4⟩ := List.pairwise_cons.1 hB
    refine List.pairwise_cons.2 ⟨fun z hz => ?_, ih hA h4⟩
    rcases mem_ws _ _ _ hz with h5 | h5
    · rcases List.mem_cons.1 h5 with rfl | h5
      · show y ≤ z; omega
      · have := h1 z h5; show y ≤ z; omega
    · exact h3 z h5
/-- A leaf no heavier than the last package that is taken is taken. -/
theorem mrg_before (A B : List Nat) : ∀ t j, Srt A → t ≤ A.length + B.length → 1 ≤ t - lf (mrg A B) t → j < A.length → A.getD j 0 ≤ B.getD (t - lf (mrg A B) t - 1) 0 → j < lf (mrg A B) t := by
  induction A, B using mrg_ind with
  | h1 => intro t j _ ht h1 hj _; simp at hj
  | h2 x ls ih => intro t j _ ht h1 hj _; have := (lf_le (x :: ls) [] t ht).2.1; simp at this; omega
  | h3 y ps ih => intro t j _ ht h1 hj _; simp at hj
  | h4 x ls y ps h ih =>
    intro t j hA ht h1 hj hle
    cases t with
    | zero => simp at h1
    | succ t =>
      rw [mrg_le _ _ h, lf_cons] at *
      simp only [if_true] at *
      rw [show t + 1 - (1 + lf (mrg ls (y :: ps)) t) = t - lf (mrg ls (y :: ps)) t by omega] at *
      cases j with
      | zero => omega
      | succ j =>
        have := ih t j (List.pairwise_cons.1 hA).2 (by simp at ht ⊢; omega) h1 (by simpa using hj) (by simpa using hle)
        omega
  | h5 x ls y ps h ih =>
    intro t j hA ht h1 hj hle
    cases t with
    | zero => simp at h1
    | succ t =>
      have hl := lf_le (x :: ls) ps t (by simp at ht ⊢; omega)
      rw [mrg_gt _ _ h, lf_cons] at *
      simp only [Bool.false_eq_true, if_false, Nat.zero_add] at *
      by_cases h2 : t - lf (mrg (x :: ls) ps) t = 0
      · rw [show t + 1 - lf (mrg (x :: ls) ps) t - 1 = 0 by omega] at hle
        have := hA.get (Nat.zero_le j) hj
        simp only [List.getD_cons_zero] at hle this
        omega
      · rw [show t + 1 - lf (mrg (x :: ls) ps) t - 1 = (t - lf (mrg (x :: ls) ps) t - 1) + 1 by omega, List.getD_cons_succ] at hle
        exact ih t j hA (by simp at ht ⊢; omega) (by omega) hj hle
/-- A leaf that is taken is no heavier than the last that is taken. -/
theorem mrg_last (A B : List Nat) : ∀ t j, Srt A → Srt B → t < A.length + B.length → j < lf (mrg A B) (t + 1) → A.getD j 0 ≤ (ws (mrg A B)).getD t 0 := by
  induction A, B using mrg_ind with
  | h1 => intro t j _ _ ht _; simp at ht
  | h2 x ls ih =>
    intro t j hA hB ht hj
    have hS := mrg_srt _ _ hA hB
    have hL : t < (ws (mrg (x :: ls) [])).length := by rw [ws_len, mrg_len]; exact ht
    have h0 := hS.get (Nat.zero_le t) hL
    rw [mrg_cn, ws_cons] at h0 ⊢
    rw [mrg_cn, lf_cons] at hj
    simp only [if_true] at hj
    cases j with
    | zero => simpa using h0
    | succ j =>
      cases t with
      | zero => rw [lf_zero] at hj; omega
      | succ t => simpa using ih t j (List.pairwise_cons.1 hA).2 hB (by simp at ht ⊢; omega) (by omega)
  | h3 y ps ih => intro t j hA hB ht hj; have := (lf_le [] (y :: ps) (t + 1) (by omega)).1; simp at this; omega
  | h4 x ls y ps h ih =>
    intro t j hA hB ht hj
    have hS := mrg_srt _ _ hA hB
    have hL : t < (ws (mrg (x :: ls) (y :: ps))).length := by rw [ws_len, mrg_len]; exact ht
    have h0 := hS.get (Nat.zero_le t) hL
    rw [mrg_le _ _ h, ws_cons] at h0 ⊢
    rw [mrg_le _ _ h, lf_cons] at hj
    simp only [if_true] at hj
    cases j with
    | zero => simpa using h0
    | succ j =>
      cases t with
      | zero => rw [lf_zero] at hj; omega
      | succ t => simpa using ih t j (List.pairwise_cons.1 hA).2 hB (by simp at ht ⊢; omega) (by omega)
  | h5 x ls y ps h ih =>
    intro t j hA hB ht hj
    rw [mrg_gt _ _ h, ws_cons]
    rw [mrg_gt _ _ h, lf_cons] at hj
    simp only [Bool.false_eq_true, if_false, Nat.zero_add] at hj
    cases t with
    | zero => rw [lf_zero] at hj; omega
    | succ t => simpa using ih t j hA (List.pairwise_cons.1 hB).2 (by simp at ht ⊢; omega) hj
/-! ### pairs, levels -/
/-- Every two, put together. -/
def prs : List Nat → List Nat
  | x :: y :: r => (x + y) :: prs r
  | _ => []
theorem prs_cons (x y : Nat) (r : List Nat) : prs (x :: y :: r) = (x + y) :: prs r := rfl
theorem two_ind {M : List Nat → Prop} (h0 : M []) (h1 : ∀ x, M [x]) (h2 : ∀ x y r, M r → M (x :: y :: r)) : ∀ l, M l
  | [] => h0
  | [x] => h1 x
  | x :: y :: r => h2 x y r (two_ind h0 h1 h2 r)
theorem prs_len (X : List Nat) : (prs X).length = X.length / 2 := by
  induction X using two_ind with
  | h0 => rfl
  | h1 x => simp [prs]
  | h2 x y r ih => rw [prs_cons]; simp only [List.length_cons, ih]; omega
theorem prs_get (X : List Nat) : ∀ p, 2 * p + 1 < X.length → (prs X).getD p 0 = X.getD (2 * p) 0 + X.getD (2 * p + 1) 0 := by
  induction X using two_ind with
  | h0 => intro p hp; simp at hp
  | h1 x => intro p hp; simp at hp
  | h2 x y r ih =>
    intro p hp
    cases p with
    | zero => rfl
    | succ p =>
      rw [prs_cons, show 2 * (p + 1) = 2 * p + 1 + 1 by omega]
      simp only [List.getD_cons_succ]
      exact ih p (by simp at hp; omega)
theorem prs_srt {X : List Nat} (h : Srt X) : Srt (prs X) := by
  refine srt_of_get fun i hi => ?_
  rw [prs_len] at hi
  rw [prs_get X i (by omega), prs_get X (i + 1) (by omega)]
  have h1 := h.get (i := 2 * i) (j := 2 * (i + 1)) (by omega) (by omega)
  have h2 := h.get (i := 2 * i + 1) (j := 2 * (i + 1) + 1) (by omega) (by omega)
  omega

/-- What may be taken on a level; 0: the deepest one. -/
def lvl (A : List Nat) : Nat → List (Nat × Bool)
  | 0 => mrg A []
  | k + 1 => mrg A (prs (ws (lvl A k)))
/-- What the level's packages are made of. -/
def low (A : List Nat) : Nat → List Nat
  | 0 => []
  | k + 1 => prs (ws (lvl A k))
theorem lvl_eq (A : List Nat) (k : Nat) : lvl A k = mrg A (low A k) := by cases k <;> rfl
theorem low_len (A : List Nat) (k : Nat) : (low A (k + 1)).length = (lvl A k).length / 2 := by show (prs _).length = _; rw [prs_len, ws_len]
theorem lvl_len (A : List Nat) (k : Nat) : (lvl A k).length = A.length + (low A k).length := by rw [lvl_eq, mrg_len]
theorem lvl_len_succ (A : List Nat) (k : Nat) : (lvl A (k + 1)).length = A.length + (lvl A k).length / 2 := by rw [lvl_len, low_len]
theorem lvl_srt {A : List Nat} (h : Srt A) (k : Nat) : Srt (ws (lvl A k)) := by
  induction k with
  | zero => exact mrg_srt _ _ h List.Pairwise.nil
  | succ k ih => exact mrg_srt _ _ h (prs_srt ih)
theorem low_srt {A : List Nat} (h : Srt A) (k : Nat) : Srt (low A k) := by
  cases k with
  | zero => exact List.Pairwise.nil
  | succ k => exact prs_srt (lvl_srt h k)
/-- A level is long enough. -/
theorem lvl_long (A : List Nat) (k : Nat) : 2 * A.length * 2 ^ k ≤ (lvl A k).length * 2 ^ k + A.length + (2 ^ k - 1) := by
  induction k with
  | zero => rw [lvl_len]; show 2 * A.length * 1 ≤ (A.length + 0) * 1 + A.length + 0; omega
  | succ k ih =>
    rw [lvl_len_succ, Nat.pow_succ]
    have hp := Nat.two_pow_pos k
    have h2 : (lvl A k).length * 2 ^ k ≤ (2 * ((lvl A k).length / 2) + 1) * 2 ^ k := Nat.mul_le_mul_right _ (by omega)
    generalize (lvl A k).length / 2 = q at *
    generalize (lvl A k).length * 2 ^ k = z at *
    generalize 2 ^ k = P at *
    rw [Nat.add_mul, Nat.mul_assoc] at h2
    have e1 : 2 * A.length * (P * 2) = 2 * (2 * A.length * P) := by rw [← Nat.mul_assoc, Nat.mul_comm]
    have e2 : (A.length + q) * (P * 2) = 2 * (A.length * P) + 2 * (q * P) := by rw [← Nat.mul_assoc, Nat.mul_comm, Nat.add_mul]; omega
    have e3 : 2 * A.length * P = 2 * (A.length * P) := Nat.mul_assoc _ _ _
    rw [e1, e2, e3]
    rw [e3] at ih
    generalize A.length * P = u at *
    generalize q * P = v at *
    omega
theorem lvl_enough (A : List Nat) (k : Nat) (h : A.length ≤ 2 ^ (k + 1)) : 2 * A.length - 2 ≤ (lvl A k).length := by
  have h1 := lvl_long A k
  have hp := Nat.two_pow_pos k
  rw [Nat.pow_succ] at h
  generalize 2 ^ k = P at *
  by_cases h2 : 2 * A.length - 2 ≤ (lvl A k).length
  · exact h2
  · exfalso
    have h3 : ((lvl A k).length + 3) * P ≤ 2 * A.length * P := Nat.mul_le_mul_right _ (by omega)
    rw [Nat.add_mul] at h3
    generalize (lvl A k).length * P = u at *
    omega

/-! ### what is taken -/
/-- The leaves of the first t of a level. -/
abbrev at_ (A : List Nat) (k t : Nat) : Nat := lf (lvl A k) t
/-- How often leaf j is taken, from the first t of level k down. -/
def ln (A : List Nat) : Nat → Nat → Nat → Nat
  | 0, t, j => if j < at_ A 0 t then 1 else 0
  | k + 1, t, j => (if j < at_ A (k + 1) t then 1 else 0) + ln A k (2 * (t - at_ A (k + 1) t)) j
theorem at_le (A : List Nat) (k t : Nat) (h : t ≤ (lvl A k).length) : at_ A k t ≤ A.length ∧ t - at_ A k t ≤ (low A k).length ∧ at_ A k t ≤ t := by
  rw [lvl_len] at h
  unfold at_
  rw [lvl_eq]
  exact lf_le _ _ t h
/-- The next level has all that is asked of it. -/
theorem next_le (A : List Nat) (k t : Nat) (h : t ≤ (lvl A (k + 1)).length) : 2 * (t - at_ A (k + 1) t) ≤ (lvl A k).length := by
  have := (at_le A (k + 1) t h).2.1
  rw [low_len] at this
  omega
theorem at_zero (A : List Nat) (t : Nat) (h : t ≤ (lvl A 0).length) : at_ A 0 t = t := by
  have := at_le A 0 t h
  have e : (low A 0).length = 0 := rfl
  omega
theorem ln_le (A : List Nat) (k t j : Nat) : ln A k t j ≤ k + 1 := by
  induction k generalizing t with
  | zero => unfold ln; split <;> omega
  | succ k ih => unfold ln; have := ih (2 * (t - at_ A (k + 1) t)); split <;> omega
/-- Fewer leaves are taken of each deeper level. -/
theorem at_down (A : List Nat) (hA : Srt A) (k t : Nat) (h : t ≤ (lvl A (k + 1)).length) : at_ A k (2 * (t - at_ A (k + 1) t)) ≤ at_ A (k + 1) t := by
  have h1 := at_le A (k + 1) t h
  have h3 := next_le A k t h
  have h4 := at_le A k _ h3
  have hl : (low A (k + 1)).length = (lvl A k).length / 2 := low_len A k
  by_cases h0 : t - at_ A (k + 1) t = 0
  · rw [h0] at h4 ⊢; omega
  · generalize hpp : t - at_ A (k + 1) t = p at *
    by_cases ha : at_ A k (2 * p) = 0
    · omega
    · have hj : at_ A k (2 * p) - 1 < at_ A k (2 * p) := by omega
      generalize hjj : at_ A k (2 * p) - 1 = j at *
      have h5 : A.getD j 0 ≤ (ws (lvl A k)).getD (2 * p - 1) 0 := by
        have := mrg_last A (low A k) (2 * p - 1) j hA (low_srt hA k) (by rw [← lvl_len]; omega) (by rw [← lvl_eq, show 2 * p - 1 + 1 = 2 * p by omega]; exact hj)
        rw [← lvl_eq] at this
        exact this
      have h6 := prs_get (ws (lvl A k)) (p - 1) (by rw [ws_len]; omega)
      rw [show 2 * (p - 1) + 1 = 2 * p - 1 by omega] at h6
      have h7 := mrg_before A (low A (k + 1)) t j hA (by rw [← lvl_len]; exact h) (by rw [← lvl_eq]; show 1 ≤ t - at_ A (k + 1) t; omega) (by omega)
        (by rw [← lvl_eq]; show _ ≤ (prs (ws (lvl A k))).getD (t - at_ A (k + 1) t - 1) 0; rw [hpp, h6]; omega)
      rw [← lvl_eq] at h7
      show at_ A k (2 * p) ≤ lf (lvl A (k + 1)) t
      omega
/-- What is taken anywhere is taken of the first level. -/
theorem ln_first (A : List Nat) (hA : Srt A) (k t j : Nat) (h : t ≤ (lvl A k).length) (hj : 0 < ln A k t j) : j < at_ A k t := by
  induction k generalizing t with
  | zero => unfold ln at hj; split at hj <;> omega
  | succ k ih =>
    unfold ln at hj
    by_cases h1 : j < at_ A (k + 1) t
    · exact h1
    · rw [if_neg h1] at hj
      have h2 := ih _ (next_le A k t h) (by omega)
      have h3 := at_down A hA k t h
      omega
/-- Kraft's sum, told by what is left of all. -/
theorem ln_kraft (A : List Nat) (hA : Srt A) (k t : Nat) (h : t ≤ (lvl A k).length) :
    sm A.length (fun j => 2 ^ (k + 1) - 2 ^ (k + 1 - ln A k t j)) = t * 2 ^ k := by
  induction k generalizing t with
  | zero =>
    have h1 := at_le A 0 t h
    have e : ∀ j, 2 ^ (0 + 1) - 2 ^ (0 + 1 - ln A 0 t j) = if j < at_ A 0 t then 1 else 0 := by
      intro j; unfold ln; split <;> rfl
    simp only [e]
    rw [sm_ite _ _ h1.1, sm_const, at_zero A t h]
  | succ k ih =>
    have h1 := at_le A (k + 1) t h
    have h3 := next_le A k t h
    have h4 := ih _ h3
    have e : ∀ j, 2 ^ (k + 1 + 1) - 2 ^ (k + 1 + 1 - ln A (k + 1) t j) = (if j < at_ A (k + 1) t then 2 ^ (k + 1) else 0) + (2 ^ (k + 1) - 2 ^ (k + 1 - ln A k (2 * (t - at_ A (k + 1) t)) j)) := by
      intro j
      have hl := ln_le A k (2 * (t - at_ A (k + 1) t)) j
      have hq : 2 ^ (k + 1 - ln A k (2 * (t - at_ A (k + 1) t)) j) ≤ 2 ^ (k + 1) := Nat.pow_le_pow_right (by omega) (by omega)
      by_cases hj : j < at_ A (k + 1) t
      · have e1 : ln A (k + 1) t j = 1 + ln A k (2 * (t - at_ A (k + 1) t)) j := by rw [ln, if_pos hj]
        rw [e1, if_pos hj, show k + 1 + 1 - (1 + ln A k (2 * (t - at_ A (k + 1) t)) j) = k + 1 - ln A k (2 * (t - at_ A (k + 1) t)) j by omega, Nat.pow_succ 2 (k + 1)]
        omega
      · have h5 : ln A k (2 * (t - at_ A (k + 1) t)) j = 0 := by
          by_cases h6 : ln A k (2 * (t - at_ A (k + 1) t)) j = 0
          · exact h6
          · have h7 := ln_first A hA k _ j h3 (by omega)
            have h8 := at_down A hA k t h
            omega
        have e1 : ln A (k + 1) t j = 0 := by rw [ln, if_neg hj, h5]
        rw [e1, if_neg hj, h5]
        simp
    simp only [e]
    rw [sm_add, h4, sm_ite _ _ h1.1, sm_const]
    generalize at_ A (k + 1) t = a at *
    rw [Nat.pow_succ, ← Nat.mul_assoc, ← Nat.mul_assoc]
    generalize 2 ^ k = P
    have e2 : t * P = a * P + (t - a) * P := by rw [← Nat.add_mul]; congr 1; omega
    rw [e2, Nat.mul_assoc 2]
    omega
/-- Where enough is taken each leaf is taken. -/
theorem at_all (A : List Nat) (hA : Srt A) (k t : Nat) (h : t ≤ (lvl A k).length) (h2 : 2 ≤ A.length) (ht : 2 * A.length - 2 ≤ t) : at_ A k t = A.length := by
  have h1 := at_le A k t h
  by_cases hn : at_ A k t = A.length
  · exact hn
  · exfalso
    induction k generalizing t with
    | zero => have := at_zero A t h; omega
    | succ k ih =>
      have h3 := next_le A k t h
      have h4 := at_down A hA k t h
      exact ih _ h3 (by omega) (at_le A k _ h3) (by omega)

/-! ### none is cheaper -/
/-! ### the lengths that are handed back -/
/-- The length of leaf j; most = L + 1. -/
def len (A : List Nat) (L j : Nat) : Nat := ln A L (2 * A.length - 2) j
theorem pow_split {L x : Nat} (hL : L ≤ 14) (hx : x ≤ L + 1) : 2 ^ (15 - x) = 2 ^ (L + 1 - x) * 2 ^ (14 - L) := by
  rw [← Nat.pow_add]; congr 1; omega
theorem kraft_other (n L : Nat) (l : Nat → Nat) (hL : L ≤ 14) (hl : ∀ j, j < n → l j ≤ L + 1) :
    (sm n (fun j => 2 ^ (L + 1) - 2 ^ (L + 1 - l j)) + sm n (fun j => 2 ^ (L + 1 - l j)) = n * 2 ^ (L + 1)) ∧ sm n (fun j => 2 ^ (15 - l j)) = sm n (fun j => 2 ^ (L + 1 - l j)) * 2 ^ (14 - L) := by
  constructor
  · rw [← sm_add, ← sm_const]
    refine sm_congr fun j _ => ?_
    have : 2 ^ (L + 1 - l j) ≤ 2 ^ (L + 1) := Nat.pow_le_pow_right (by omega) (by omega)
    omega
  · rw [← sm_mul]
    exact sm_congr fun j hj => pow_split hL (hl j hj)
section
variable {A : List Nat} {L : Nat} (hA : Srt A) (hL : L ≤ 14) (h2 : 2 ≤ A.length) (hn : A.length ≤ 2 ^ (L + 1))
include hA hL h2 hn
theorem len_pos (j : Nat) (hj : j < A.length) : 1 ≤ len A L j := by
  have h := at_all A hA L (2 * A.length - 2) (lvl_enough A L hn) h2 (Nat.le_refl _)
  unfold len
  cases L with
  | zero => unfold ln; rw [if_pos (by rw [h]; exact hj)]; exact Nat.le_refl _
  | succ L => unfold ln; rw [if_pos (by rw [h]; exact hj)]; omega
omit hA hL h2 hn in
theorem len_le (j : Nat) : len A L j ≤ L + 1 := ln_le A L _ j
theorem len_kraft : sm A.length (fun j => 2 ^ (15 - len A L j)) = 32768 := by
  have h := ln_kraft A hA L (2 * A.length - 2) (lvl_enough A L hn)
  obtain ⟨h3, h4⟩ := kraft_other A.length L (len A L) hL (fun j _ => len_le j)
  rw [h4]
  have e : sm A.length (fun j => 2 ^ (L + 1 - len A L j)) = 2 ^ (L + 1) := by
    have e1 : sm A.length (fun j => 2 ^ (L + 1) - 2 ^ (L + 1 - len A L j)) = (2 * A.length - 2) * 2 ^ L := h
    rw [e1, Nat.sub_mul, Nat.pow_succ] at h3
    rw [Nat.pow_succ]
    have h5 : 2 * A.length * 2 ^ L = A.length * (2 ^ L * 2) := by rw [Nat.mul_comm 2, Nat.mul_assoc, Nat.mul_comm 2]
    have h6 : 2 * 2 ^ L ≤ 2 * A.length * 2 ^ L := Nat.mul_le_mul_right _ (by omega)
    rw [h5] at h3 h6
    generalize A.length * (2 ^ L * 2) = u at *
    generalize 2 ^ L = v at *
    omega
  rw [e, ← Nat.pow_add, show L + 1 + (14 - L) = 15 by omega]
end
end PackMath
end

section
/-
  Rows of whole numbers in memory, as lists or as functions of the place.
-/
namespace Go.Proofs.YtbjjkhlebdaoaaaDoor.PkC
open Go.RowKit Go.My PackMath

def lv (A : List Nat) : List Value := A.map fun (x : Nat) => Value.int .i64 (x : Int)
/-- A row of lengths. -/
def cel (n : Nat) (acc : Nat → Nat) : List Value := (List.range n).map fun j => Value.int .i64 ((acc j : Nat) : Int)
theorem cel_get (n : Nat) (acc : Nat → Nat) (j : Nat) (h : j < n) : (cel n acc)[j]? = some (.int .i64 ((acc j : Nat) : Int)) := by simp [cel, h]
theorem cel_upd (n : Nat) (f f' : Nat → Nat) (q v : Nat) (h : ∀ j, j < n → f' j = if j = q then v else f j) : (cel n f).toArray.setIfInBounds q (.int .i64 ((v : Nat) : Int)) = (cel n f').toArray := by
  apply Array.ext
  · simp [cel]
  · intro j h1 h2
    have hj : j < n := by simpa [cel] using h2
    rw [Array.getElem_setIfInBounds]
    simp only [cel, List.getElem_toArray, List.getElem_map, List.getElem_range, h j hj]
    · by_cases e : q = j
      · subst e; rw [if_pos rfl, if_pos rfl]
      · rw [if_neg e, if_neg (fun h => e h.symm)]
    · simpa [cel] using hj
theorem cel_zero (n : Nat) : List.replicate n (Value.int .i64 0) = cel n (fun _ => 0) := by
  apply List.ext_getElem
  · simp [cel]
  · intro j h1 h2; simp [cel]
theorem cel_lv (n : Nat) (f : Nat → Nat) : cel n f = lv ((List.range n).map f) := by simp [cel, lv]
theorem Blk.set_cel {w : World} {g n : Nat} {f : Nat → Nat} (h : Blk w g 3 (cel n f).toArray) (q v : Nat) : Blk (w.setCell ⟨g, q, none⟩ (.int .i64 ((v : Nat) : Int))) g 3 (cel n (fun j => if j = q then v else f j)).toArray := by
  have := h.set_ q (.int .i64 ((v : Nat) : Int))
  rwa [cel_upd n f (fun j => if j = q then v else f j) q v (fun j _ => rfl)] at this
theorem Blk.set_far {w : World} {g g' : Nat} {t : TypeId} {cs : Array Value} (h : Blk w g t cs) (hne : g ≠ g') (i : Nat) (u : Value) : Blk (w.setCell ⟨g', i, none⟩ u) g t cs := h.same (Below.heap_setCell w ⟨g', i, none⟩ u g hne)
theorem cel_cell {w : World} {g n : Nat} {f : Nat → Nat} (h : Blk w g 3 (cel n f).toArray) (q : Nat) (hq : q < n) : w.cell? ⟨g, q, none⟩ = some (.int .i64 ((f q : Nat) : Int)) := by
  rw [h.cell, List.getElem?_toArray, cel_get _ _ _ hq]
theorem lv_get (l : List Nat) (i : Nat) (h : i < (lv l).length) : (lv l)[i] = .int .i64 ((l.getD i 0 : Nat) : Int) := by
  have h' : i < l.length := by simpa [lv] using h
  simp [lv, List.getD_eq_getElem?_getD, h']
end Go.Proofs.YtbjjkhlebdaoaaaDoor.PkC
end

section
/-
  pack.Cost, the document's Cost.
-/
namespace Go.Proofs.YtbjjkhlebdaoaaaDoor.PkC
open Go.RowKit Go.My PackMath

/-- The cost of the first k. -/
def prd (A B : List Nat) (k : Nat) : Nat := sm k fun j => A.getD j 0 * B.getD j 0
theorem prd_succ (A B : List Nat) (k : Nat) : prd A B (k + 1) = prd A B k + A.getD k 0 * B.getD k 0 := rfl
def Modest (A B : List Nat) : Prop := A.length ≤ 1000 ∧ B.length ≤ 1000 ∧ (∀ j, A.getD j 0 ≤ 1073741824) ∧ ∀ j, B.getD j 0 ≤ 1048576
theorem prd_le {A B : List Nat} (h : Modest A B) (k : Nat) : prd A B k ≤ k * 1125899906842624 := by
  induction k with
  | zero => simp [prd, sm]
  | succ k ih =>
    rw [prd_succ, Nat.succ_mul]
    have := Nat.mul_le_mul (h.2.2.1 k) (h.2.2.2 k)
    omega
theorem lv_cell {w : World} {b off len cap : Nat} {A : List Nat} (h : RowIn w (some ⟨b, off, none⟩) len cap (lv A)) (i : Nat) (hi : i < A.length) : w.cell? ⟨b, off + i, none⟩ = some (.int .i64 ((A.getD i 0 : Nat) : Int)) := by
  rw [h.get i (by simpa [lv] using hi)]
  simp [lv, List.getD_eq_getElem?_getD, hi]
theorem lv_size {w : World} {a : Option Addr} {len cap : Nat} {A : List Nat} (h : RowIn w a len cap (lv A)) : A.length = len := by rw [← h.len_eq]; simp [lv]
theorem drewN_cell (w : World) (q : Nat) (p : Addr) : (w.drewN q).cell? p = w.cell? p := rfl

section
variable {A B : List Nat} {a b : Option Addr} {la ca lb cb : Nat} {w : World}
set_option maxRecDepth 100000 in
set_option maxHeartbeats 4000000 in
theorem cost_any (hA : RowIn w a la ca (lv A)) (hB : RowIn w b lb cb (lv B)) (hM : Modest A B) :
    Calls Tryd.prog 57 #[.slice a la ca, .slice b lb cb] w fun e w' => e = .returned (.int .i64 ((prd A B (min la lb) : Nat) : Int)) ∧ ∃ q, w' = w.drewN q := by
  have h1 := lv_size hA
  have h2 := lv_size hB
  obtain ⟨m, hm⟩ : ∃ m, m = min la lb := ⟨_, rfl⟩
  have hml : m ≤ la ∧ m ≤ lb ∧ m ≤ 1000 := by have := hM.1; omega
  have HA := Lib.hid hA
  have HB := Lib.hid hB
  have HMM := Lib.hid hM
  have H1 := Lib.hid h1
  have H2 := Lib.hid h2
  have HML := Lib.hid hml
  have HMI := Lib.hid hm
  have hm1000 : m ≤ 1000 := hml.2.2
  rw [← hm]
  clear hA hB hM h1 h2 hml hm
  go_enter Tryd.func57, Tryd.ntmps57
  go_upto_region 2 with (fail)
  go_cut [11, 12] (fun s t wc => s = .int .i64 (m : Int) ∧ t = .int .i64 0 ∧ w = wc)
  case first =>
    by_cases h : la < lb
    · have hi : (la : Int) < (lb : Int) := by omega
      obtain rfl : m = la := by have := HMI.out; omega
      go_wp2_with fail
      all_goals (first | (exfalso; omega) | (go_meet; case rel => exact ⟨rfl, rfl, rfl⟩))
    · have hi : ¬ (la : Int) < (lb : Int) := by omega
      obtain rfl : m = lb := by have := HMI.out; omega
      go_wp2_with fail
      all_goals (first | (exfalso; omega) | (go_meet; case rel => exact ⟨by (congr 1; omega), rfl, rfl⟩) | (go_meet; case rel => exact ⟨rfl, rfl, rfl⟩))
  obtain ⟨rfl, rfl, rfl⟩ := hcut
  go_wp2_with fail
  go_loopw [12, 5, 6] (fun s s5 _ wr => ∃ i q : Nat, s = .int .i64 (i : Int) ∧ s5 = .int .i64 ((prd A B i : Nat) : Int) ∧ i ≤ m ∧ Hid (wr = w.drewN q)) (fun s _ _ _ => m - (intOf s).toNat)
  case atStart => exact ⟨0, 0, rfl, rfl, Nat.zero_le _, Lib.hid rfl⟩
  case round =>
    obtain ⟨i, q, rfl, rfl, hi, HW⟩ := hrel
    by_cases hlt : i < m
    · have hlti : (i : Int) < (m : Int) := by omega
      have hm := HML.out
      obtain ⟨ab, ao, rfl⟩ := HA.out.some_ (by omega)
      obtain ⟨bb, bo, rfl⟩ := HB.out.some_ (by omega)
      have c1 : wr.cell? ⟨ab, ao + i, none⟩ = some (.int .i64 ((A.getD i 0 : Nat) : Int)) := by rw [HW.out, drewN_cell]; exact lv_cell HA.out i (by rw [H1.out]; omega)
      have c2 : wr.cell? ⟨bb, bo + i, none⟩ = some (.int .i64 ((B.getD i 0 : Nat) : Int)) := by rw [HW.out, drewN_cell]; exact lv_cell HB.out i (by rw [H2.out]; omega)
      have b1 : (i : Int) < (la : Int) := by omega
      have b2 : (i : Int) < (lb : Int) := by omega
      have HP : Hid (prd A B (i + 1) = prd A B i + A.getD i 0 * B.getD i 0) := Lib.hid (prd_succ A B i)
      have q1 := prd_le HMM.out (i + 1)
      have q2 : (i + 1) * 1125899906842624 ≤ 1000 * 1125899906842624 := Nat.mul_le_mul_right _ (by omega)
      rw [prd_succ] at q1
      obtain ⟨z, hz⟩ : ∃ z, z = A.getD i 0 * B.getD i 0 := ⟨_, rfl⟩
      obtain ⟨p, hp⟩ : ∃ p, p = prd A B i := ⟨_, rfl⟩
      rw [← hz, ← hp] at q1 HP
      have e3 : IntKind.i64.wrap (((A.getD i 0 : Nat) : Int) * ((B.getD i 0 : Nat) : Int)) = (z : Int) := by
        have : ((A.getD i 0 : Nat) : Int) * ((B.getD i 0 : Nat) : Int) = (z : Int) := by rw [hz]; push_cast; rfl
        rw [this, IntKind.wrap_i64]; omega
      have e4 : IntKind.i64.wrap ((p : Int) + (z : Int)) = ((p + z : Nat) : Int) := by rw [IntKind.wrap_i64]; omega
      rw [← hp]
      generalize A.getD i 0 = x at *
      generalize B.getD i 0 = y at *
      clear hz hp hm q1 q2
      obtain ⟨pz, hpz⟩ : ∃ pz, pz = p + z := ⟨_, rfl⟩
      rw [← hpz] at e4 HP
      clear hpz
      go_wp2_with fail
      go_quiet (fail)
      have HW2 : Hid (wr.drewN nq = w.drewN (q + nq)) := Lib.hid (by rw [HW.out, World.drewN_drewN])
      clear HW c1 c2
      generalize wr.drewN nq = w2 at *
      go_wp2_with fail
      go_roundw
      case measure => simp [intOf]; omega
      case rel => exact ⟨i + 1, q + nq, by simp, by rw [HP.out], by omega, HW2⟩
    · obtain rfl : i = m := by omega
      go_wp2_with fail
      go_ret
      exact ⟨rfl, q, HW.out⟩
end
end Go.Proofs.YtbjjkhlebdaoaaaDoor.PkC
end
