/-
  Texts as lists of bytes. No program.
-/
import Derived.Test.YtkimmabndmceoaaDoorPaMea
import Derived.WalkKit
import Derived.Laws.Strings
import Derived.Lib.Strings
import Derived.Lib.Walk
import Derived.Lib.Bytealg
import Derived.Lib.SplitLaws
import Derived.Lib.IndexBytes
namespace Go.My
open Go.RowKit PaMath

/-- A text of these bytes. -/
def tx (l : List UInt8) : ByteArray := ⟨l.toArray⟩
/-- A text's bytes. -/
def lst (s : ByteArray) : List UInt8 := s.data.toList
theorem lst_tx (l : List UInt8) : lst (tx l) = l := rfl
theorem tx_lst (s : ByteArray) : tx (lst s) = s := by cases s; rfl
theorem lst_inj {a b : ByteArray} (h : lst a = lst b) : a = b := by rw [← tx_lst a, ← tx_lst b, h]
theorem toList_lst (s : ByteArray) : s.toList = lst s := Go.ByteArray.toList_eq s
theorem lst_size (s : ByteArray) : s.size = (lst s).length := Lib.size_eq s
theorem tx_size (l : List UInt8) : (tx l).size = l.length := by rw [lst_size, lst_tx]
theorem pstr_no {a b : ByteArray} (h : lst a ≠ lst b) : (a.toList == b.toList) = false := by
  simp only [beq_eq_false_iff_ne, ne_eq, toList_lst]
  exact h
theorem pstr_yes {a b : ByteArray} (h : lst a = lst b) : (a.toList == b.toList) = true := by rw [toList_lst, toList_lst, h]; simp
theorem lst_extract (s : ByteArray) (a b : Nat) : lst (s.extract a b) = ((lst s).drop a).take (b - a) := by
  have h := Lib.extract_toList s a b
  unfold lst
  rw [← Lib.toList_data, h]
theorem lst_append (a b : ByteArray) : lst (a ++ b) = lst a ++ lst b := by
  unfold lst
  simp
theorem lst_take (s : ByteArray) (n : Nat) : lst (s.extract 0 n) = (lst s).take n := by rw [lst_extract]; simp
theorem lst_drop (s : ByteArray) (n : Nat) : lst (s.extract n s.size) = (lst s).drop n := by
  rw [lst_extract, lst_size]
  exact List.take_of_length_le (by simp)
theorem lst_empty : lst ⟨#[]⟩ = [] := rfl

/-- The first slash parts a text. -/
theorem index_parts (l : List UInt8) : (Lib.indexByte l 47 = -1 ∧ parts l = [l]) ∨ ∃ i : Nat, Lib.indexByte l 47 = i ∧ i < l.length ∧ parts l = l.take i :: parts (l.drop (i + 1)) := by
  induction l with
  | nil => exact .inl ⟨rfl, rfl⟩
  | cons c t ih =>
    unfold Lib.indexByte
    by_cases hc : c = 47
    · subst hc
      refine .inr ⟨0, by simp, by simp, ?_⟩
      rw [parts_slash]; rfl
    · have hb : (c == 47) = false := by simpa using hc
      rw [hb]
      rcases ih with ⟨h1, h2⟩ | ⟨i, h1, h2, h3⟩
      · rw [h1]
        exact .inl ⟨by simp, parts_cons hc h2⟩
      · rw [h1]
        have hn : ((i : Int) == -1) = false := by simp
        rw [hn]
        refine .inr ⟨i + 1, rfl, Nat.succ_lt_succ h2, ?_⟩
        rw [parts_cons hc h3]
        rfl
theorem index_nul (l : List UInt8) (c : UInt8) : decide (0 ≤ Lib.indexByte l c) = decide (c ∈ l) := by
  induction l with
  | nil => simp [Lib.indexByte]
  | cons b t ih =>
    unfold Lib.indexByte
    by_cases hb : b = c
    · subst hb; simp
    · have hb' : (b == c) = false := by simpa using hb
      rw [hb']
      have hg := Lib.indexByte_ge t c
      have e : decide (c ∈ b :: t) = decide (c ∈ t) := by simp [Ne.symm hb]
      rw [e, ← ih]
      by_cases h1 : Lib.indexByte t c = -1
      · rw [h1]; simp
      · have h2 : (Lib.indexByte t c == -1) = false := by simpa using h1
        rw [h2]
        simp only [Bool.false_eq_true, if_false, decide_eq_decide]
        omega
/-- What comes ahead byte by byte. -/
theorem less_lt (a b : List UInt8) : Op.bytesLess a b = lt a b := by
  induction a generalizing b with
  | nil => cases b <;> rfl
  | cons x a ih =>
    cases b with
    | nil => rfl
    | cons y b =>
      unfold Op.bytesLess lt
      rw [ih]
      by_cases h : x = y
      · subst h
        rw [if_pos rfl]
        have : decide (x < x) = false := by simp
        simp
      · rw [if_neg h]
        have hb : (x == y) = false := by simpa using h
        rw [hb]
        simp [UInt8.lt_iff_toNat_lt]
theorem parts_count (l : List UInt8) : (parts l).length = l.count 47 + 1 := by
  induction l with
  | nil => rfl
  | cons c t ih =>
    by_cases hc : c = 47
    · subst hc
      rw [parts_slash, List.length_cons, ih]; simp
    · cases h : parts t with
      | nil => exact absurd h (parts_ne t)
      | cons p ps =>
        rw [parts_cons hc h, List.length_cons]
        rw [h, List.length_cons] at ih
        rw [ih, List.count_cons_of_ne (by simpa using hc)]
/-- Split at slashes. -/
theorem split_parts : ∀ (n : Nat) (s : ByteArray), (lst s).count 47 = n → (Lib.splitB ⟨#[47]⟩ 0 n s).map lst = parts (lst s) := by
  intro n
  induction n with
  | zero =>
    intro s h
    have h47 : 47 ∉ lst s := List.count_eq_zero.1 h
    rw [Lib.splitB_zero, parts_one h47]; rfl
  | succ n ih =>
    intro s h
    rcases index_parts (lst s) with ⟨h1, h2⟩ | ⟨i, h1, h2, h3⟩
    · have h47 : 47 ∈ lst s := List.count_pos_iff.1 (by omega)
      have := index_nul (lst s) 47
      rw [h1] at this
      simp [h47] at this
    · have hx : Lib.indexB s ⟨#[47]⟩ = i := by
        show Lib.index s.data.toList [47] = i
        rw [Lib.index_one]
        exact h1
      rw [Lib.splitB_hit _ _ _ _ i hx, List.map_cons, h3]
      have e1 : lst (s.extract 0 (i + 0)) = (lst s).take i := lst_take s i
      have e2 : (⟨#[47]⟩ : ByteArray).size = 1 := rfl
      have hc := parts_count (lst s)
      rw [h3, List.length_cons, parts_count] at hc
      rw [e1, e2, ih _ (by rw [lst_drop]; omega), lst_drop]
end Go.My
