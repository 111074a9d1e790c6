/-
  Paths: how many bytes of a path remain, and what a loop over its parts knows of it (chapter 19). Plain lists: no program, no dump.
-/
import Derived.Test.YtkimmabndmceoaaDoorPaMath
namespace PaMath

/-- How many bytes of s remain, 0 if it can't be cleaned. -/
def mea (s : List UInt8) : Nat := match clean s with
  | some o => o.length
  | none => 0
theorem join_parts (s : List UInt8) : join (parts s) = s := by
  induction s with
  | nil => rfl
  | cons c t ih =>
    by_cases hc : c = 47
    · subst hc
      rw [parts_slash, join_cons (parts_ne t), ih]; rfl
    · obtain ⟨p, ps, h⟩ : ∃ p ps, parts t = p :: ps := by
        cases h : parts t with
        | nil => exact absurd h (parts_ne t)
        | cons p ps => exact ⟨p, ps, rfl⟩
      rw [parts_cons hc h]
      rw [h] at ih
      by_cases hr : ps = []
      · subst hr
        simp only [join] at ih ⊢
        rw [ih]
      · rw [join_cons hr] at ih ⊢
        rw [List.cons_append, ih]
theorem sum_parts (s : List UInt8) : sum (parts s) = s.length + 1 := by
  have := join_len (parts_ne s)
  rw [join_parts] at this
  omega
theorem sum_filter_le (f : List UInt8 → Bool) (l : List (List UInt8)) : sum (l.filter f) ≤ sum l := by
  induction l with
  | nil => simp [sum]
  | cons p r ih =>
    rw [List.filter_cons]
    split
    · rw [sum, sum]; omega
    · rw [sum]; omega
theorem sum_filter_eq {f : List UInt8 → Bool} {l : List (List UInt8)} (h : sum (l.filter f) = sum l) : l.filter f = l := by
  induction l with
  | nil => rfl
  | cons p r ih =>
    rw [List.filter_cons] at h ⊢
    have := sum_filter_le f r
    split at h
    · next hp =>
      rw [if_pos hp, ih (by rw [sum, sum] at h; omega)]
    · rw [sum] at h; omega
theorem sum_take_le (f : List UInt8 → Bool) (l : List (List UInt8)) (k : Nat) : sum ((l.take k).filter f) ≤ sum (l.filter f) := by
  have h : l.filter f = (l.take k).filter f ++ (l.drop k).filter f := by rw [← List.filter_append, List.take_append_drop]
  rw [h, sum_app]
  omega
theorem sum_zero {l : List (List UInt8)} (h : sum l = 0) : l = [] := by
  cases l with
  | nil => rfl
  | cons p r => rw [sum] at h; omega
theorem mea_some {s o : List UInt8} (h : clean s = some o) : mea s = o.length := by unfold mea; rw [h]
theorem mea_none {s : List UInt8} (h : clean s = none) : mea s = 0 := by unfold mea; rw [h]
theorem kept_join {l : List (List UInt8)} (h : ∀ p ∈ l, kept p = true) (hl : l ≠ []) : join l ≠ [] := by
  cases l with
  | nil => exact absurd rfl hl
  | cons p r =>
    have hp := (kept_spec.1 (h p (by simp))).1
    by_cases hr : r = []
    · subst hr; exact hp
    · rw [join_cons hr]; simp
theorem some_pos {s o : List UInt8} (h : clean s = some o) : 0 < o.length := by
  have hc := clean_some h
  have := kept_join (l := (parts s).filter kept) (fun p hp => (List.mem_filter.1 hp).2) hc.some_
  rw [← hc.o_eq] at this
  exact List.length_pos_iff.2 this
theorem mea_le (s : List UInt8) : mea s ≤ 4096 := by
  unfold mea
  split
  · next o h => exact (clean_some h).len
  · omega
theorem mea_pos {s : List UInt8} (h : mea s ≠ 0) : ∃ o, clean s = some o ∧ o.length = mea s := by
  cases e : clean s with
  | some o => exact ⟨o, rfl, (mea_some e).symm⟩
  | none => exact absurd (mea_none e) h
theorem mea_abs {t : List UInt8} (h : t.head? = some 47) : mea t = 0 := mea_none (by unfold clean; rw [if_pos (.inr (.inl h))])
/-- A part that spoils all. -/
def spoils (p : List UInt8) : Bool := p == [46, 46] || decide ((0 : UInt8) ∈ p)
theorem zero_mem {s : List UInt8} : (0 : UInt8) ∈ s ↔ ∃ p ∈ parts s, (0 : UInt8) ∈ p := by
  constructor
  · intro h
    rw [← join_parts s] at h
    rcases join_mem h with h | h
    · cases h
    · exact h
  · rintro ⟨p, hp, h⟩
    exact (parts_mem hp).2 0 h
theorem mea_bad {s p : List UInt8} (hp : p ∈ parts s) (h : spoils p = true) : mea s = 0 := by
  refine mea_none ?_
  unfold clean
  rw [if_pos]
  unfold spoils at h
  simp only [Bool.or_eq_true, beq_iff_eq, decide_eq_true_eq] at h
  rcases h with rfl | h
  · exact .inr (.inr (.inr hp))
  · exact .inr (.inr (.inl ((parts_mem hp).2 0 h)))
theorem mea_long {s : List UInt8} {k : Nat} (h : 4097 < sum (((parts s).take k).filter kept)) : mea s = 0 := by
  refine mea_none ?_
  have h1 := sum_take_le kept (parts s) k
  have hne : (parts s).filter kept ≠ [] := fun e => by rw [e] at h1; simp [sum] at h1; omega
  have h2 := join_len hne
  unfold clean
  by_cases h3 : s = [] ∨ s.head? = some 47 ∨ 0 ∈ s ∨ [46, 46] ∈ parts s
  · rw [if_pos h3]
  · rw [if_neg h3, if_pos (.inr (by omega))]
/-- What has been measured when k parts are over. -/
def acc (s : List UInt8) (k : Nat) : Int := (sum (((parts s).take k).filter kept) : Int) - 1
theorem acc_zero (s : List UInt8) : acc s 0 = -1 := by simp [acc, sum]
theorem acc_ge (s : List UInt8) (k : Nat) : -1 ≤ acc s k := by unfold acc; omega
theorem acc_le (s : List UInt8) (k : Nat) : acc s k ≤ s.length := by
  unfold acc
  have h1 := sum_take_le kept (parts s) k
  have h2 := sum_filter_le kept (parts s)
  have h3 := sum_parts s
  omega
theorem take_snoc {l : List (List UInt8)} {k : Nat} (h : k < l.length) : l.take (k + 1) = l.take k ++ [l[k]] := List.take_succ_eq_append_getElem h
theorem acc_skip {s : List UInt8} {k : Nat} (h : k < (parts s).length) (hk : kept (parts s)[k] = false) : acc s (k + 1) = acc s k := by
  unfold acc
  rw [take_snoc h, List.filter_append, sum_app]
  simp [hk, sum]
theorem acc_more {s : List UInt8} {k : Nat} (h : k < (parts s).length) (hk : kept (parts s)[k] = true) : acc s (k + 1) = acc s k + (1 + ((parts s)[k].length : Int)) := by
  unfold acc
  rw [take_snoc h, List.filter_append, sum_app]
  simp [hk, sum]
  omega
/-- The parts ahead of place k spoil nothing, and are few enough. -/
def Fine (s : List UInt8) (k : Nat) : Prop := (∀ p ∈ (parts s).take k, spoils p = false) ∧ acc s k ≤ 4096
theorem Fine.zero (s : List UInt8) : Fine s 0 := ⟨by simp, by rw [acc_zero]; omega⟩
theorem unkept_fine {p : List UInt8} (h : kept p = false) : spoils p = false := by
  have : p = [] ∨ p = [46] := by
    unfold kept at h
    simp at h
    by_cases hp : p = []
    · exact .inl hp
    · exact .inr (h hp)
  rcases this with rfl | rfl <;> decide
theorem Fine.skip {s : List UInt8} {k : Nat} (hf : Fine s k) (h : k < (parts s).length) (hk : kept (parts s)[k] = false) : Fine s (k + 1) := by
  refine ⟨fun p hp => ?_, by rw [acc_skip h hk]; exact hf.2⟩
  rw [take_snoc h] at hp
  rcases List.mem_append.1 hp with hp | hp
  · exact hf.1 p hp
  · simp only [List.mem_singleton] at hp; subst hp; exact unkept_fine hk
theorem Fine.more {s : List UInt8} {k : Nat} (hf : Fine s k) (h : k < (parts s).length) (hk : kept (parts s)[k] = true) (hs : spoils (parts s)[k] = false) (hl : acc s k + (1 + ((parts s)[k].length : Int)) ≤ 4096) : Fine s (k + 1) := by
  refine ⟨fun p hp => ?_, by rw [acc_more h hk]; exact hl⟩
  rw [take_snoc h] at hp
  rcases List.mem_append.1 hp with hp | hp
  · exact hf.1 p hp
  · simp only [List.mem_singleton] at hp; subst hp; exact hs
theorem mea_over {s : List UInt8} {k : Nat} (h : k < (parts s).length) (hk : kept (parts s)[k] = true) (hl : 4096 < acc s k + (1 + ((parts s)[k].length : Int))) : mea s = 0 := by
  refine mea_long (k := k + 1) ?_
  have := acc_more h hk
  rw [← this] at hl
  unfold acc at hl
  omega
theorem mea_end {s : List UInt8} (hh : s.head? ≠ some 47) (hf : Fine s (parts s).length) : (mea s : Int) = if acc s (parts s).length < 0 then 0 else acc s (parts s).length := by
  obtain ⟨h1, h2⟩ := hf
  rw [List.take_length] at h1
  unfold acc at h2 ⊢
  rw [List.take_length] at h2 ⊢
  by_cases he : (parts s).filter kept = []
  · have hc : clean s = none := by
      unfold clean
      split
      · rfl
      · rw [he, if_pos (.inl rfl)]
    rw [mea_none hc, he]
    simp [sum]
  · have hjl := join_len he
    have hz : (0 : UInt8) ∉ s := fun e => by
      obtain ⟨p, hp, h⟩ := zero_mem.1 e
      have := h1 p hp
      unfold spoils at this
      simp [h] at this
    have hd : [46, 46] ∉ parts s := fun e => by
      have := h1 _ e
      revert this
      decide
    have hs : s ≠ [] := fun e => by subst e; exact he (by decide)
    have hj := kept_join (l := (parts s).filter kept) (fun p hp => (List.mem_filter.1 hp).2) he
    have hjp : 0 < (join ((parts s).filter kept)).length := List.length_pos_iff.2 hj
    have hc : clean s = some (join ((parts s).filter kept)) := by
      unfold clean
      rw [if_neg (by simp only [not_or]; exact ⟨hs, hh, hz, hd⟩), if_neg (by simp only [not_or]; exact ⟨hj, by omega⟩)]
    rw [mea_some hc, if_neg (by omega)]
    omega
/-- A path is right just if nothing is taken away from it. -/
theorem right_iff (s : List UInt8) : clean s = some s ↔ s ≠ [] ∧ mea s = s.length := by
  constructor
  · intro h
    exact ⟨(clean_some h).s_ne, mea_some h⟩
  · rintro ⟨h1, h2⟩
    obtain ⟨o, ho, hl⟩ := mea_pos (s := s) (by rw [h2]; exact fun e => h1 (List.length_eq_zero_iff.1 e))
    have hc := clean_some ho
    have e1 := join_len hc.some_
    rw [← hc.o_eq] at e1
    have e2 := sum_parts s
    have e3 := sum_filter_eq (f := kept) (l := parts s) (by omega)
    have : o = s := by rw [hc.o_eq, e3, join_parts]
    rw [ho, this]
/-- What has been joined when k parts are over. -/
def sofar (s : List UInt8) (k : Nat) : List UInt8 := join (((parts s).take k).filter kept)
theorem sofar_zero (s : List UInt8) : sofar s 0 = [] := by simp [sofar, join]
theorem sofar_skip {s : List UInt8} {k : Nat} (h : k < (parts s).length) (hk : kept (parts s)[k] = false) : sofar s (k + 1) = sofar s k := by
  unfold sofar
  rw [take_snoc h, List.filter_append]
  simp [hk]
theorem sofar_more {s : List UInt8} {k : Nat} (h : k < (parts s).length) (hk : kept (parts s)[k] = true) : sofar s (k + 1) = if sofar s k = [] then (parts s)[k] else sofar s k ++ 47 :: (parts s)[k] := by
  unfold sofar
  rw [take_snoc h, List.filter_append]
  have e : List.filter kept [(parts s)[k]] = [(parts s)[k]] := by simp [hk]
  rw [e]
  by_cases hn : ((parts s).take k).filter kept = []
  · rw [hn]; rfl
  · rw [join_app hn (by simp), if_neg (kept_join (fun p hp => (List.mem_filter.1 hp).2) hn)]; rfl
theorem sofar_len (s : List UInt8) (k : Nat) : (sofar s k).length ≤ s.length := by
  unfold sofar
  by_cases hn : ((parts s).take k).filter kept = []
  · rw [hn]; simp [join]
  · have h0 := join_len hn
    have h1 := sum_take_le kept (parts s) k
    have h2 := sum_filter_le kept (parts s)
    have h3 := sum_parts s
    omega
theorem sofar_end (s : List UInt8) : sofar s (parts s).length = join ((parts s).filter kept) := by unfold sofar; rw [List.take_length]
theorem part_len {s : List UInt8} {k : Nat} (h : k < (parts s).length) : (parts s)[k].length ≤ s.length := by
  have h1 : ∀ (l : List (List UInt8)) (k : Nat) (h : k < l.length), l[k].length + 1 ≤ sum l := by
    intro l
    induction l with
    | nil => intro k h; cases h
    | cons p r ih =>
      intro k h
      cases k with
      | zero => rw [sum]; simp
      | succ k =>
        have := ih k (by simpa using h)
        rw [sum]
        simp only [List.getElem_cons_succ]
        omega
  have := h1 _ k h
  have := sum_parts s
  omega
theorem parts_few (s : List UInt8) : (parts s).length ≤ s.length + 1 := by
  have h1 : ∀ l : List (List UInt8), l.length ≤ sum l := by
    intro l
    induction l with
    | nil => simp
    | cons p r ih => rw [sum]; simp; omega
  have := h1 (parts s)
  have := sum_parts s
  omega
/-- The last part. -/
theorem parts_last {s a b : List UInt8} (h : s = a ++ 47 :: b) (hb : 47 ∉ b) : (parts s).getLast? = some b := by
  subst h
  rw [parts_app, parts_one hb]
  simp
end PaMath
