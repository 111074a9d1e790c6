/-
  Paths: what is known of a cleaned one, byte by byte (chapter 19, promise 19.2). Plain lists: no program, no dump.
-/
import Derived.Test.YtkimmabndmceoaaDoorPaLt
namespace PaMath
theorem Cl.last {s o : List UInt8} (h : Cl s o) : o.getLast? ≠ some 47 := by
  intro e
  obtain ⟨t, rfl⟩ : ∃ t, o = t ++ [47] := by
    rcases List.eq_nil_or_concat o with rfl | ⟨t, c, rfl⟩
    · simp at e
    · simp at e
      subst e
      exact ⟨t, by simp⟩
  have hm : ([] : List UInt8) ∈ parts (t ++ [47]) := by rw [parts_app]; simp [parts]
  have := (h.kept_all [] hm).1
  revert this
  decide
theorem sum_take (l : List (List UInt8)) (k : Nat) : sum (l.take k) ≤ sum l := by
  have h : l = l.take k ++ l.drop k := (List.take_append_drop k l).symm
  have := sum_app (l.take k) (l.drop k)
  rw [← h] at this
  omega
theorem join_take_len (l : List (List UInt8)) (k : Nat) : (join (l.take k)).length ≤ (join l).length := by
  by_cases h0 : l.take k = []
  · rw [h0]; simp [join]
  have hl : l ≠ [] := fun e => h0 (by rw [e]; simp)
  have h1 := join_len h0
  have h2 := join_len hl
  have := sum_take l k
  omega
theorem join_take_next {l : List (List UInt8)} {k : Nat} (h : k < l.length) : join (l.take (k + 1)) = if k = 0 then l[k] else join (l.take k) ++ 47 :: l[k] := by
  rw [take_snoc h]
  by_cases hk : k = 0
  · subst hk; rw [if_pos rfl]; rfl
  · rw [if_neg hk, join_app (by intro e; have := congrArg List.length e; rw [List.length_take] at this; simp only [List.length_nil] at this; omega) (by simp)]; rfl
theorem Cl.bytes {s o : List UInt8} (h : Cl s o) {p : List UInt8} (hp : p ∈ parts o) : p ≠ [] ∧ p ≠ [46] ∧ p ≠ [46, 46] ∧ ∀ c ∈ p, c ≠ 47 ∧ c ≠ 0 := by
  obtain ⟨h1, h2, h3, h4⟩ := h.kept_all p hp
  exact ⟨(kept_spec.1 h1).1, (kept_spec.1 h1).2, h4, fun c hc => ⟨fun e => h2 (by rw [← e]; exact hc), fun e => h3 (by rw [← e]; exact hc)⟩⟩
end PaMath
