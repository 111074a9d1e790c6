/-
  The tokens of some bytes. Plain mathematics.
-/
import Derived.Test.YtfdfggomgaegoaaMatMath
import Derived.Test.YtfdfggomgaegoaaLzMath
namespace MatMath
open LzMath (Tok)

/-- What is asked for. -/
structure Pl where
  store : Bool
  chain : Int
  lazy : Bool
  good : Int
  wide : Bool
def Pl.find (p : Pl) (s : List UInt8) (a : Nat) : Nat × Nat := MatMath.find s p.chain p.good p.wide a
/-- Is the byte there a literal? -/
def lit (p : Pl) (s : List UInt8) (a : Nat) : Bool :=
  p.store || (p.find s a).1 == 0 || p.lazy && (decide (((p.find s a).1 : Int) < p.good) && decide ((p.find s a).1 < (p.find s (a + 1)).1))
def tkAt (p : Pl) (s : List UInt8) (a : Nat) : Tok := if lit p s a then ⟨0, 0, at_ s a⟩ else ⟨((p.find s a).1 : Int), ((p.find s a).2 : Int), 0⟩
def stp (p : Pl) (s : List UInt8) (a : Nat) : Nat := if lit p s a then 1 else (p.find s a).1
def pos (p : Pl) (s : List UInt8) : Nat → Nat
  | 0 => 0
  | k + 1 => pos p s k + stp p s (pos p s k)
def tk (p : Pl) (s : List UInt8) (k : Nat) : Tok := tkAt p s (pos p s k)
/-- So many tokens. -/
def Many (p : Pl) (s : List UInt8) (K : Nat) : Prop := (∀ j, j < K → pos p s j < s.length) ∧ s.length ≤ pos p s K
section
variable {p : Pl} {s : List UInt8}
theorem lit_store (h : p.store = true) (a : Nat) : lit p s a = true := by simp [lit, h]
theorem not_lit {a : Nat} (h : lit p s a = false) : ∃ n d : Nat, p.find s a = (n, d) ∧ 3 ≤ n ∧ n ≤ long_ p.wide ∧ a + n ≤ s.length ∧ 1 ≤ d ∧ d ≤ far_ p.wide ∧ d ≤ a ∧ ∀ i, i < n → at_ s (a + i) = at_ s (a + i - d) := by
  obtain ⟨n, d, h1, h2⟩ := find_nums s p.chain p.good p.wide a
  have h1' : p.find s a = (n, d) := h1
  rcases h2 with ⟨rfl, _⟩ | h2
  · simp [lit, h1'] at h
  · exact ⟨n, d, h1', h2⟩
theorem stp_pos (a : Nat) : 1 ≤ stp p s a := by
  unfold stp
  split
  · exact Nat.le_refl _
  · next h =>
    obtain ⟨n, d, h1, h2, _⟩ := not_lit (p := p) (s := s) (a := a) (by simpa using h)
    rw [h1]; simp only; omega
theorem stp_le {a : Nat} (ha : a < s.length) : a + stp p s a ≤ s.length := by
  unfold stp
  split
  · omega
  · next h =>
    obtain ⟨n, d, h1, _, _, h4, _⟩ := not_lit (p := p) (s := s) (a := a) (by simpa using h)
    rw [h1]; exact h4
theorem pos_lt (k : Nat) : pos p s k < pos p s (k + 1) := by
  have := stp_pos (p := p) (s := s) (pos p s k)
  show _ < pos p s k + _
  omega
theorem pos_ge (k : Nat) : k ≤ pos p s k := by
  induction k with
  | zero => exact Nat.zero_le _
  | succ k ih => have := pos_lt (p := p) (s := s) k; omega
theorem pos_mono {i j : Nat} (h : i ≤ j) : pos p s i ≤ pos p s j := by
  induction j with
  | zero => obtain rfl : i = 0 := by omega
            exact Nat.le_refl _
  | succ j ih =>
    by_cases e : i ≤ j
    · have := ih e; have := pos_lt (p := p) (s := s) j; omega
    · obtain rfl : i = j + 1 := by omega
      exact Nat.le_refl _
theorem many_one {K J : Nat} (h : Many p s K) (g : Many p s J) : K = J := by
  rcases Nat.lt_trichotomy K J with e | e | e
  · have := g.1 K e; have := h.2; omega
  · exact e
  · have := h.1 J e; have := g.2; omega
theorem many_end {K : Nat} (h : Many p s K) : pos p s K = s.length := by
  have h2 := h.2
  cases K with
  | zero => show 0 = _; have : pos p s 0 = 0 := rfl; omega
  | succ k =>
    have := stp_le (p := p) (s := s) (h.1 k (by omega))
    have e : pos p s (k + 1) = pos p s k + stp p s (pos p s k) := rfl
    omega
theorem many_le {K : Nat} (h : Many p s K) : K ≤ s.length := by rw [← many_end h]; exact pos_ge K
theorem pos_store (h : p.store = true) (k : Nat) : pos p s k = k := by
  induction k with
  | zero => rfl
  | succ k ih => show pos p s k + stp p s _ = _; unfold stp; rw [if_pos (lit_store h _), ih]
theorem many_store (h : p.store = true) : Many p s s.length := ⟨fun j hj => by rw [pos_store h]; exact hj, by rw [pos_store h]; exact Nat.le_refl _⟩

/-! ### they expand to the bytes -/
theorem at_take (k i : Nat) (h : i < k) : (s.take k).getD i 0 = at_ s i := by
  simp [at_, List.getD_eq_getElem?_getD, h]
theorem take_next (k : Nat) (h : k < s.length) : s.take (k + 1) = s.take k ++ [at_ s k] := by
  rw [List.take_succ_eq_append_getElem h]
  simp [at_, List.getD_eq_getElem?_getD, List.getElem?_eq_getElem h]
theorem grow_take (a d n : Nat) (hd : 1 ≤ d) (hda : d ≤ a) (h : a + n ≤ s.length) (hs : ∀ i, i < n → at_ s (a + i) = at_ s (a + i - d)) : WinMath.grow (s.take a) d n = s.take (a + n) := by
  induction n with
  | zero => rfl
  | succ n ih =>
    rw [WinMath.grow_succ, ih (by omega) (fun i hi => hs i (by omega)), show a + (n + 1) = a + n + 1 by omega, take_next (a + n) (by omega)]
    congr 2
    rw [hs n (by omega), List.length_take, Nat.min_eq_left (by omega), at_take _ _ (by omega)]
theorem tk_ok {K : Nat} (h : Many p s K) : ∀ k, k ≤ K → LzMath.tot (tk p s) k = pos p s k ∧ LzMath.ex (tk p s) k = s.take (pos p s k) := by
  intro k
  induction k with
  | zero => intro _; exact ⟨rfl, rfl⟩
  | succ k ih =>
    intro hk
    obtain ⟨h1, h2⟩ := ih (by omega)
    have hlt := h.1 k (by omega)
    show LzMath.tot (tk p s) k + LzMath.sz (tk p s k) = pos p s k + stp p s (pos p s k) ∧ LzMath.step (LzMath.ex (tk p s) k) (tk p s k) = s.take (pos p s k + stp p s (pos p s k))
    rw [h1, h2]
    unfold tk tkAt stp LzMath.sz LzMath.step
    cases hl : lit p s (pos p s k) with
    | true =>
      simp only [if_true]
      exact ⟨trivial, (take_next _ hlt).symm⟩
    | false =>
      obtain ⟨n, d, g1, g2, g3, g4, g5, g6, g7, g8⟩ := not_lit hl
      rw [g1]
      simp only [Bool.false_eq_true, if_false]
      rw [if_neg (by omega), if_neg (by omega)]
      exact ⟨by simp, by simpa using grow_take _ _ _ g5 g7 g4 g8⟩
theorem tk_good {K : Nat} (h : Many p s K) : LzMath.GoodT p.wide (tk p s) K := by
  intro k hk
  obtain ⟨h1, h2⟩ := tk_ok h k (by omega)
  unfold LzMath.Ok
  rw [h1]
  unfold tk tkAt
  cases hl : lit p s (pos p s k) with
  | true => simp only [if_true]; exact ⟨.inl ⟨rfl, rfl⟩, by omega⟩
  | false =>
    obtain ⟨n, d, g1, g2, g3, g4, g5, g6, g7, g8⟩ := not_lit hl
    rw [g1]
    simp only [Bool.false_eq_true, if_false]
    refine ⟨.inr ⟨rfl, by simp only; omega, ?_, by simp only; omega, ?_⟩, by omega⟩
    · show (n : Int) ≤ LzMath.ml p.wide
      unfold LzMath.ml
      unfold long_ at g3
      split <;> simp_all <;> omega
    · show (d : Int) ≤ (LzMath.md p.wide : Int)
      unfold LzMath.md
      unfold far_ at g6
      split <;> simp_all <;> omega
theorem tk_all {K : Nat} (h : Many p s K) : LzMath.tot (tk p s) K = s.length ∧ LzMath.ex (tk p s) K = s := by
  obtain ⟨h1, h2⟩ := tk_ok h K (Nat.le_refl _)
  rw [many_end h] at h1 h2
  exact ⟨h1, by rw [h2, List.take_length]⟩
theorem tk_wf (hs : s.length ≤ 1000000000) (k : Nat) : (-9223372036854775808 ≤ (tk p s k).len ∧ (tk p s k).len ≤ 9223372036854775807) ∧ -9223372036854775808 ≤ (tk p s k).dist ∧ (tk p s k).dist ≤ 9223372036854775807 := by
  unfold tk tkAt
  cases hl : lit p s (pos p s k) with
  | true => simp
  | false =>
    obtain ⟨n, d, g1, g2, g3, g4, g5, g6, g7, g8⟩ := not_lit hl
    rw [g1]
    simp only [Bool.false_eq_true, if_false]
    have := far_ge p.wide
    omega
end
end MatMath
