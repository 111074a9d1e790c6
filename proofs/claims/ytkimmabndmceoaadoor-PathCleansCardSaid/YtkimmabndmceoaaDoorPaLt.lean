/-
  Paths: the order of parts, place by place. Plain lists: no program, no dump.
-/
import Derived.Test.YtkimmabndmceoaaDoorPaMea
namespace PaMath
theorem lts_drop {a b : List (List UInt8)} {k : Nat} (ha : k ≤ a.length) (hb : k ≤ b.length) (h : a.take k = b.take k) : lts a b = lts (a.drop k) (b.drop k) := by
  induction k generalizing a b with
  | zero => rfl
  | succ k ih =>
    cases a with
    | nil => simp at ha
    | cons p a =>
      cases b with
      | nil => simp at hb
      | cons q b =>
        simp only [List.take_succ_cons, List.cons.injEq] at h
        rw [lts, if_pos h.1, List.drop_succ_cons, List.drop_succ_cons]
        exact ih (by simpa using ha) (by simpa using hb) h.2
theorem take_more {a b : List (List UInt8)} {k : Nat} (ha : k < a.length) (hb : k < b.length) (h : a.take k = b.take k) (e : a[k] = b[k]) : a.take (k + 1) = b.take (k + 1) := by
  rw [take_snoc ha, take_snoc hb, h, e]
/-- -1, 0 or 1, as slices.Compare tells. -/
def cmp3 (a b : List (List UInt8)) : Int := if lts a b then -1 else if a = b then 0 else 1
theorem cmp3_neg (a b : List (List UInt8)) : decide (cmp3 a b < 0) = lts a b := by
  unfold cmp3
  cases h : lts a b
  · rw [if_neg (by decide)]
    split <;> rfl
  · rfl
theorem cmp3_at {a b : List (List UInt8)} {k : Nat} (ha : k < a.length) (hb : k < b.length) (h : a.take k = b.take k) (e : a[k] ≠ b[k]) : cmp3 a b = if lt a[k] b[k] then -1 else 1 := by
  unfold cmp3
  rw [lts_drop (by omega) (by omega) h, List.drop_eq_getElem_cons ha, List.drop_eq_getElem_cons hb, lts, if_neg e]
  split
  · rfl
  · rw [if_neg]
    intro e2
    subst e2
    exact e rfl
theorem cmp3_short {a b : List (List UInt8)} {k : Nat} (ha : k < a.length) (hb : b.length = k) (h : a.take k = b.take k) : cmp3 a b = 1 := by
  unfold cmp3
  rw [lts_drop (by omega) (by omega) h, List.drop_eq_getElem_cons ha, List.drop_eq_nil_of_le (as := b) (by omega), lts, if_neg (by decide), if_neg]
  intro e
  subst e
  omega
theorem cmp3_long {a b : List (List UInt8)} (hb : a.length < b.length) (h : a.take a.length = b.take a.length) : cmp3 a b = -1 := by
  unfold cmp3
  rw [lts_drop (by omega) (by omega) h, List.drop_eq_nil_of_le (as := a) (by omega), List.drop_eq_getElem_cons hb, lts, if_pos rfl]
theorem cmp3_same {a b : List (List UInt8)} (hb : a.length = b.length) (h : a.take a.length = b.take a.length) : cmp3 a b = 0 := by
  have e : a = b := by
    rw [List.take_length, hb, List.take_length] at h
    exact h
  subst e
  unfold cmp3
  rw [lts_irr, if_neg (by decide), if_pos rfl]
theorem lt_asym {a b : List UInt8} (h : lt a b = true) : lt b a = false := by
  cases k : lt b a with
  | false => rfl
  | true =>
    have := lt_trans h k
    rw [lt_irr] at this
    cases this
end PaMath
