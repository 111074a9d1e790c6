/-
  Paths: parts between slashes, what is cleaned (chapter 19). Plain lists: no program, no dump.
-/
namespace PaMath

/-- What stands between the slashes. -/
def parts : List UInt8 → List (List UInt8)
  | [] => [[]]
  | c :: t => if c = 47 then [] :: parts t else match parts t with
    | p :: ps => (c :: p) :: ps
    | [] => [[c]]
/-- Parts with a slash between. -/
def join : List (List UInt8) → List UInt8
  | [] => []
  | [p] => p
  | p :: q :: r => p ++ 47 :: join (q :: r)
/-- A part that is kept. -/
def kept (p : List UInt8) : Bool := p != [] && p != [46]
/-- What s is cleaned to. -/
def clean (s : List UInt8) : Option (List UInt8) :=
  if s = [] ∨ s.head? = some 47 ∨ 0 ∈ s ∨ [46, 46] ∈ parts s then none
  else if join ((parts s).filter kept) = [] ∨ 4096 < (join ((parts s).filter kept)).length then none
  else some (join ((parts s).filter kept))
theorem parts_ne (s : List UInt8) : parts s ≠ [] := by
  cases s with
  | nil => simp [parts]
  | cons c t =>
    unfold parts
    split
    · simp
    · split <;> simp
theorem parts_slash (t : List UInt8) : parts (47 :: t) = [] :: parts t := by rw [parts]; simp
theorem parts_cons {c : UInt8} {t p : List UInt8} {ps : List (List UInt8)} (hc : c ≠ 47) (h : parts t = p :: ps) : parts (c :: t) = (c :: p) :: ps := by
  rw [parts, if_neg hc, h]
theorem parts_app (a b : List UInt8) : parts (a ++ 47 :: b) = parts a ++ parts b := by
  induction a with
  | nil => rw [List.nil_append, parts_slash]; rfl
  | cons c t ih =>
    rw [List.cons_append]
    by_cases hc : c = 47
    · subst hc
      rw [parts_slash, parts_slash, ih]; rfl
    · obtain ⟨p, ps, h⟩ : ∃ p ps, parts t = p :: ps := by
        cases h : parts t with
        | nil => exact absurd h (parts_ne t)
        | cons p ps => exact ⟨p, ps, rfl⟩
      rw [parts_cons hc h, parts_cons (p := p) (ps := ps ++ parts b) hc (by rw [ih, h]; rfl)]
      rfl
theorem parts_one {p : List UInt8} (h : 47 ∉ p) : parts p = [p] := by
  induction p with
  | nil => rfl
  | cons c t ih => exact parts_cons (fun e => h (by rw [e]; simp)) (ih (fun e => h (List.mem_cons_of_mem _ e)))
theorem parts_mem {s p : List UInt8} (h : p ∈ parts s) : 47 ∉ p ∧ ∀ c ∈ p, c ∈ s := by
  induction s generalizing p with
  | nil => simp [parts] at h; subst h; simp
  | cons c t ih =>
    by_cases hc : c = 47
    · subst hc
      rw [parts_slash] at h
      rcases List.mem_cons.1 h with rfl | h
      · simp
      · exact ⟨(ih h).1, fun x hx => List.mem_cons_of_mem _ ((ih h).2 x hx)⟩
    · obtain ⟨q, qs, hq⟩ : ∃ p ps, parts t = p :: ps := by
        cases h : parts t with
        | nil => exact absurd h (parts_ne t)
        | cons p ps => exact ⟨p, ps, rfl⟩
      rw [parts_cons hc hq] at h
      rcases List.mem_cons.1 h with rfl | h
      · have := ih (p := q) (by rw [hq]; simp)
        refine ⟨fun e => ?_, fun x hx => ?_⟩
        · rcases List.mem_cons.1 e with e | e
          · exact hc e.symm
          · exact this.1 e
        · rcases List.mem_cons.1 hx with rfl | hx
          · simp
          · exact List.mem_cons_of_mem _ (this.2 x hx)
      · have := ih (p := p) (by rw [hq]; exact List.mem_cons_of_mem _ h)
        exact ⟨this.1, fun x hx => List.mem_cons_of_mem _ (this.2 x hx)⟩
theorem join_cons {p : List UInt8} {r : List (List UInt8)} (h : r ≠ []) : join (p :: r) = p ++ 47 :: join r := by
  cases r with
  | nil => exact absurd rfl h
  | cons q r => rfl
theorem join_app {l m : List (List UInt8)} (hl : l ≠ []) (hm : m ≠ []) : join (l ++ m) = join l ++ 47 :: join m := by
  induction l with
  | nil => exact absurd rfl hl
  | cons p r ih =>
    by_cases hr : r = []
    · subst hr
      rw [List.cons_append, List.nil_append, join_cons hm]; rfl
    · rw [List.cons_append, join_cons (by simp [hr]), join_cons hr, ih hr]; simp
theorem parts_join {l : List (List UInt8)} (hl : l ≠ []) (h : ∀ p ∈ l, 47 ∉ p) : parts (join l) = l := by
  induction l with
  | nil => exact absurd rfl hl
  | cons p r ih =>
    by_cases hr : r = []
    · subst hr; exact parts_one (h p (by simp))
    · rw [join_cons hr, parts_app, ih hr (fun q hq => h q (List.mem_cons_of_mem _ hq)), parts_one (h p (by simp))]; rfl
theorem join_mem {l : List (List UInt8)} {c : UInt8} (h : c ∈ join l) : c = 47 ∨ ∃ p ∈ l, c ∈ p := by
  induction l with
  | nil => cases h
  | cons p r ih =>
    by_cases hr : r = []
    · subst hr; exact .inr ⟨p, by simp, h⟩
    · rw [join_cons hr] at h
      rcases List.mem_append.1 h with h | h
      · exact .inr ⟨p, by simp, h⟩
      · rcases List.mem_cons.1 h with h | h
        · exact .inl h
        · rcases ih h with h | ⟨q, hq, h⟩
          · exact .inl h
          · exact .inr ⟨q, List.mem_cons_of_mem _ hq, h⟩
theorem mem_flt {p : List UInt8} {l : List (List UInt8)} (h : p ∈ l.filter kept) : p ∈ l := (List.mem_filter.1 h).1
theorem kept_spec {p : List UInt8} : kept p = true ↔ p ≠ [] ∧ p ≠ [46] := by simp [kept]
/-- What is known of what was cleaned. -/
structure Cl (s o : List UInt8) : Prop where
  o_eq : o = join ((parts s).filter kept)
  some_ : (parts s).filter kept ≠ []
  parts_eq : parts o = (parts s).filter kept
  len : o.length ≤ 4096
  s_ne : s ≠ []
  head : s.head? ≠ some 47
  zero : 0 ∉ s
  dots : [46, 46] ∉ parts s
theorem clean_some {s o : List UInt8} (h : clean s = some o) : Cl s o := by
  unfold clean at h
  split at h
  · cases h
  · next h1 =>
    split at h
    · cases h
    · next h2 =>
      injection h with h
      have hne : (parts s).filter kept ≠ [] := fun e => h2 (.inl (by rw [e]; rfl))
      have hp : parts (join ((parts s).filter kept)) = (parts s).filter kept := parts_join hne (fun p hp => (parts_mem (mem_flt hp)).1)
      simp only [not_or] at h1 h2
      exact ⟨h.symm, hne, by rw [← h]; exact hp, by rw [← h]; omega, h1.1, h1.2.1, h1.2.2.1, h1.2.2.2⟩
theorem Cl.back {s o : List UInt8} (h : Cl s o) : clean s = some o := by
  have hj : join ((parts s).filter kept) ≠ [] := by
    obtain ⟨p, r, he⟩ : ∃ p r, (parts s).filter kept = p :: r := by
      cases hh : (parts s).filter kept with
      | nil => exact absurd hh h.some_
      | cons p r => exact ⟨p, r, rfl⟩
    have hk : kept p = true := (List.mem_filter.1 (show p ∈ (parts s).filter kept by rw [he]; simp)).2
    rw [he]
    by_cases hr : r = []
    · subst hr; exact (kept_spec.1 hk).1
    · rw [join_cons hr]; simp
  unfold clean
  rw [if_neg (by simp only [not_or]; exact ⟨h.s_ne, h.head, h.zero, h.dots⟩), if_neg (by simp only [not_or]; exact ⟨hj, by rw [← h.o_eq]; have := h.len; omega⟩), ← h.o_eq]
/-- What is cleaned is clean. -/
theorem Cl.again {s o : List UInt8} (h : Cl s o) : Cl o o := by
  obtain ⟨p, r, he⟩ : ∃ p r, (parts s).filter kept = p :: r := by
    cases hh : (parts s).filter kept with
    | nil => exact absurd hh h.some_
    | cons p r => exact ⟨p, r, rfl⟩
  have hall : ∀ q ∈ (parts s).filter kept, kept q = true := fun q hq => (List.mem_filter.1 hq).2
  have hf : (parts o).filter kept = parts o := by rw [h.parts_eq]; exact List.filter_eq_self.2 hall
  have hpe : p ≠ [] := (kept_spec.1 (hall p (by rw [he]; simp))).1
  have hps : 47 ∉ p := (parts_mem (mem_flt (show p ∈ (parts s).filter kept by rw [he]; simp))).1
  have hoh : ∃ c t, o = c :: t ∧ c ≠ 47 := by
    cases p with
    | nil => exact absurd rfl hpe
    | cons c p =>
      have hc : c ≠ 47 := fun e => hps (by rw [e]; simp)
      rw [h.o_eq, he]
      by_cases hr : r = []
      · subst hr; exact ⟨c, p, rfl, hc⟩
      · rw [join_cons hr]; exact ⟨c, _, rfl, hc⟩
  obtain ⟨c, t, ho, hc⟩ := hoh
  refine ⟨by rw [hf, h.parts_eq]; exact h.o_eq, by rw [hf, h.parts_eq]; exact h.some_, hf.symm, h.len, by rw [ho]; simp, by rw [ho]; simpa using hc, fun hz => ?_, fun hd => ?_⟩
  · rw [h.o_eq] at hz
    rcases join_mem hz with hz | ⟨q, hq, hz⟩
    · cases hz
    · exact h.zero ((parts_mem (mem_flt hq)).2 0 hz)
  · rw [h.parts_eq] at hd
    exact h.dots (mem_flt hd)
theorem clean_again {s o : List UInt8} (h : clean s = some o) : clean o = some o := (clean_some h).again.back
/-- Cleaned texts, one behind the other, with anything between that is not kept. -/
theorem filter_dots : ∀ l : List (List UInt8), (∀ p ∈ l, p = [] ∨ p = [46]) → l.filter kept = [] := by
  intro l h
  rw [List.filter_eq_nil_iff]
  intro p hp
  rcases h p hp with rfl | rfl <;> decide
theorem clean_join {a b x y : List UInt8} (ha : Cl a x) (hb : Cl b y) (hl : x.length + 1 + y.length ≤ 4096) {s : List UInt8} (hs : s ≠ []) (hh : s.head? ≠ some 47) (hz : 0 ∉ s) (hd : [46, 46] ∉ parts s)
    (hp : (parts s).filter kept = (parts a).filter kept ++ (parts b).filter kept) : Cl s (x ++ 47 :: y) := by
  refine ⟨by rw [hp, join_app ha.some_ hb.some_, ← ha.o_eq, ← hb.o_eq], by rw [hp]; simp [ha.some_], ?_, by simp; omega, hs, hh, hz, hd⟩
  rw [parts_app, ha.parts_eq, hb.parts_eq, hp]

/-! ### the order -/
/-- Bytewise. -/
def lt : List UInt8 → List UInt8 → Bool
  | _, [] => false
  | [], _ :: _ => true
  | a :: s, b :: t => if a = b then lt s t else decide (a.toNat < b.toNat)
/-- Part by part. -/
def lts : List (List UInt8) → List (List UInt8) → Bool
  | _, [] => false
  | [], _ :: _ => true
  | p :: s, q :: t => if p = q then lts s t else lt p q
theorem lt_irr (a : List UInt8) : lt a a = false := by
  induction a with
  | nil => rfl
  | cons c t ih => rw [lt, if_pos rfl]; exact ih
theorem lt_trans {a b c : List UInt8} (h : lt a b = true) (k : lt b c = true) : lt a c = true := by
  induction a generalizing b c with
  | nil =>
    cases c with
    | nil => cases b <;> simp [lt] at k
    | cons z c => rfl
  | cons x a ih =>
    cases b with
    | nil => simp [lt] at h
    | cons y b =>
      cases c with
      | nil => simp [lt] at k
      | cons z c =>
        rw [lt] at h k ⊢
        by_cases e1 : x = y
        · subst e1
          rw [if_pos rfl] at h
          by_cases e2 : x = z
          · subst e2
            rw [if_pos rfl] at k
            rw [if_pos rfl]
            exact ih h k
          · rw [if_neg e2] at k ⊢; exact k
        · rw [if_neg e1] at h
          have h1 := of_decide_eq_true h
          by_cases e2 : y = z
          · subst e2
            rw [if_neg e1]; exact h
          · rw [if_neg e2] at k
            have h2 := of_decide_eq_true k
            have e3 : x ≠ z := fun e => by subst e; omega
            rw [if_neg e3]
            exact decide_eq_true (by omega)
theorem lt_tri {a b : List UInt8} (h : a ≠ b) : lt a b = true ∨ lt b a = true := by
  induction a generalizing b with
  | nil =>
    cases b with
    | nil => exact absurd rfl h
    | cons y b => exact .inl rfl
  | cons x a ih =>
    cases b with
    | nil => exact .inr rfl
    | cons y b =>
      rw [lt, lt]
      by_cases e : x = y
      · subst e
        rw [if_pos rfl, if_pos rfl]
        exact ih (fun e => h (by rw [e]))
      · rw [if_neg e, if_neg (fun e2 => e e2.symm)]
        have : x.toNat ≠ y.toNat := fun e2 => e (UInt8.toNat_inj.1 e2)
        by_cases h1 : x.toNat < y.toNat
        · exact .inl (decide_eq_true h1)
        · exact .inr (decide_eq_true (by omega))
theorem lts_irr (a : List (List UInt8)) : lts a a = false := by
  induction a with
  | nil => rfl
  | cons c t ih => rw [lts, if_pos rfl]; exact ih
theorem lts_trans {a b c : List (List UInt8)} (h : lts a b = true) (k : lts b c = true) : lts a c = true := by
  induction a generalizing b c with
  | nil =>
    cases c with
    | nil => cases b <;> simp [lts] at k
    | cons z c => rfl
  | cons x a ih =>
    cases b with
    | nil => simp [lts] at h
    | cons y b =>
      cases c with
      | nil => simp [lts] at k
      | cons z c =>
        rw [lts] at h k ⊢
        by_cases e1 : x = y
        · subst e1
          rw [if_pos rfl] at h
          by_cases e2 : x = z
          · subst e2
            rw [if_pos rfl] at k
            rw [if_pos rfl]
            exact ih h k
          · rw [if_neg e2] at k ⊢; exact k
        · rw [if_neg e1] at h
          by_cases e2 : y = z
          · subst e2
            rw [if_neg e1]; exact h
          · rw [if_neg e2] at k
            have h2 := lt_trans h k
            have e3 : x ≠ z := fun e => by subst e; rw [lt_irr] at h2; cases h2
            rw [if_neg e3]
            exact h2
theorem lts_asym {a b : List (List UInt8)} (h : lts a b = true) : lts b a = false := by
  cases k : lts b a with
  | false => rfl
  | true =>
    have := lts_trans h k
    rw [lts_irr] at this
    cases this
/-- A proper front is less. -/
theorem lts_front (a : List (List UInt8)) {b : List (List UInt8)} (hb : b ≠ []) : lts a (a ++ b) = true := by
  induction a with
  | nil =>
    cases b with
    | nil => exact absurd rfl hb
    | cons q b => rfl
  | cons p a ih => rw [List.cons_append, lts, if_pos rfl]; exact ih

/-! ### parts, each with a slash behind it -/
def ends : List (List UInt8) → List UInt8
  | [] => []
  | p :: r => p ++ 47 :: ends r
theorem ends_app (l m : List (List UInt8)) : ends (l ++ m) = ends l ++ ends m := by
  induction l with
  | nil => rfl
  | cons p r ih => rw [List.cons_append, ends, ends, ih]; simp
theorem parts_ends {l : List (List UInt8)} (h : ∀ p ∈ l, 47 ∉ p) : parts (ends l) = l ++ [[]] := by
  induction l with
  | nil => rfl
  | cons p r ih => rw [ends, parts_app, parts_one (h p (by simp)), ih (fun q hq => h q (List.mem_cons_of_mem _ hq))]; rfl
theorem ends_mem {l : List (List UInt8)} {c : UInt8} (h : c ∈ ends l) : c = 47 ∨ ∃ p ∈ l, c ∈ p := by
  induction l with
  | nil => cases h
  | cons p r ih =>
    rw [ends] at h
    rcases List.mem_append.1 h with h | h
    · exact .inr ⟨p, by simp, h⟩
    · rcases List.mem_cons.1 h with h | h
      · exact .inl h
      · rcases ih h with h | ⟨q, hq, h⟩
        · exact .inl h
        · exact .inr ⟨q, List.mem_cons_of_mem _ hq, h⟩
/-- How long parts with slashes between are: one more for each part, but the last one. -/
def sum : List (List UInt8) → Nat
  | [] => 0
  | p :: r => p.length + 1 + sum r
theorem sum_app (l m : List (List UInt8)) : sum (l ++ m) = sum l + sum m := by
  induction l with
  | nil => simp [sum]
  | cons p r ih => rw [List.cons_append, sum, sum, ih]; omega
theorem join_len {l : List (List UInt8)} (h : l ≠ []) : (join l).length + 1 = sum l := by
  induction l with
  | nil => exact absurd rfl h
  | cons p r ih =>
    by_cases hr : r = []
    · subst hr; simp [join, sum]
    · rw [join_cons hr, List.length_append, List.length_cons, sum, ← ih hr]; omega
/-- The parts of what is cleaned. -/
theorem Cl.kept_all {s o : List UInt8} (h : Cl s o) : ∀ p ∈ parts o, kept p = true ∧ 47 ∉ p ∧ 0 ∉ p ∧ p ≠ [46, 46] := by
  intro p hp
  refine ⟨?_, (parts_mem hp).1, fun hz => h.again.zero ((parts_mem hp).2 0 hz), fun e => h.again.dots (by rw [← e]; exact hp)⟩
  rw [h.parts_eq] at hp
  exact (List.mem_filter.1 hp).2
/-- A part that stands between the parts of what is cleaned. -/
def put (l : List (List UInt8)) (k : Nat) (m : List UInt8) : List (List UInt8) := l.take k ++ m :: l.drop k
theorem put_mem {l : List (List UInt8)} {k : Nat} {m p : List UInt8} (h : p ∈ put l k m) : p = m ∨ p ∈ l := by
  unfold put at h
  rcases List.mem_append.1 h with h | h
  · exact .inr (List.mem_of_mem_take h)
  · rcases List.mem_cons.1 h with h | h
    · exact .inl h
    · exact .inr (List.mem_of_mem_drop h)
theorem put_has (l : List (List UInt8)) (k : Nat) (m : List UInt8) : m ∈ put l k m := by unfold put; simp
theorem put_cl {s o : List UInt8} (h : Cl s o) {k : Nat} {m : List UInt8} (hm : 47 ∉ m) (hz : 0 ∉ m) (h2 : m ≠ [46, 46]) (h0 : m ≠ []) (hl : (join ((put (parts o) k m).filter kept)).length ≤ 4096) (hk : (put (parts o) k m).filter kept ≠ []) :
    Cl (ends (put (parts o) k m)) (join ((put (parts o) k m).filter kept)) := by
  have h47 : ∀ p ∈ put (parts o) k m, 47 ∉ p := fun p hp => by
    rcases put_mem hp with rfl | hp
    · exact hm
    · exact (parts_mem hp).1
  have hpe := parts_ends h47
  have hfe : (parts (ends (put (parts o) k m))).filter kept = (put (parts o) k m).filter kept := by rw [hpe, List.filter_append]; simp [kept]
  have hne : ∀ p ∈ put (parts o) k m, p ≠ [] := fun p hp => by
    rcases put_mem hp with rfl | hp
    · exact h0
    · exact (kept_spec.1 (h.kept_all p hp).1).1
  have hhead : ∃ c t, ends (put (parts o) k m) = c :: t ∧ c ≠ 47 := by
    obtain ⟨p, r, he⟩ : ∃ p r, put (parts o) k m = p :: r := by
      cases hh : put (parts o) k m with
      | nil => have := put_has (parts o) k m; rw [hh] at this; cases this
      | cons p r => exact ⟨p, r, rfl⟩
    have hp : p ∈ put (parts o) k m := by rw [he]; simp
    rw [he]
    cases p with
    | nil => exact absurd rfl (hne [] hp)
    | cons c p => exact ⟨c, _, rfl, fun e => h47 _ hp (by rw [e]; simp)⟩
  obtain ⟨c, t, hct, hc⟩ := hhead
  refine ⟨by rw [hfe], by rw [hfe]; exact hk, ?_, hl, by rw [hct]; simp, by rw [hct]; simpa using hc, fun e => ?_, fun e => ?_⟩
  · rw [hfe]; exact parts_join hk (fun p hp => h47 p (mem_flt hp))
  · rcases ends_mem e with e2 | ⟨p, hp, e2⟩
    · cases e2
    · rcases put_mem hp with rfl | hp
      · exact hz e2
      · exact (h.kept_all p hp).2.2.1 e2
  · rw [hpe] at e
    rcases List.mem_append.1 e with e | e
    · rcases put_mem e with e | e
      · exact h2 e.symm
      · exact (h.kept_all _ e).2.2.2 rfl
    · simp at e
/-- A part . between turns nothing. -/
theorem put_dot {s o : List UInt8} (h : Cl s o) (k : Nat) : clean (ends (put (parts o) k [46])) = some o := by
  have hf : (put (parts o) k [46]).filter kept = parts o := by
    unfold put
    rw [List.filter_append, List.filter_cons, if_neg (by decide), ← List.filter_append, List.take_append_drop]
    exact List.filter_eq_self.2 (fun p hp => (h.kept_all p hp).1)
  have hj : join (parts o) = o := by rw [h.parts_eq]; exact h.o_eq.symm
  have := put_cl h (k := k) (m := [46]) (by decide) (by decide) (by decide) (by decide) (by rw [hf, hj]; exact h.len) (by rw [hf, h.parts_eq]; exact h.some_)
  rw [hf, hj] at this
  exact this.back
/-- A part .. spoils all. -/
theorem put_dots (o : List UInt8) (k : Nat) : clean (ends (put (parts o) k [46, 46])) = none := by
  have h47 : ∀ p ∈ put (parts o) k [46, 46], 47 ∉ p := fun p hp => by
    rcases put_mem hp with rfl | hp
    · decide
    · exact (parts_mem hp).1
  unfold clean
  rw [if_pos]
  exact .inr (.inr (.inr (by rw [parts_ends h47]; exact List.mem_append_left _ (put_has _ _ _))))
/-- A part of three dots is kept. -/
theorem put_three {s o : List UInt8} (h : Cl s o) (k : Nat) (hl : o.length ≤ 1000) : ∃ z, clean (ends (put (parts o) k [46, 46, 46])) = some z ∧ z.length = o.length + 4 := by
  have hf : (put (parts o) k [46, 46, 46]).filter kept = put (parts o) k [46, 46, 46] := List.filter_eq_self.2 (fun p hp => by
    rcases put_mem hp with rfl | hp
    · decide
    · exact (h.kept_all p hp).1)
  have hne : put (parts o) k [46, 46, 46] ≠ [] := fun e => by have := put_has (parts o) k [46, 46, 46]; rw [e] at this; cases this
  have hj : join (parts o) = o := by rw [h.parts_eq]; exact h.o_eq.symm
  have hlen : (join (put (parts o) k [46, 46, 46])).length = o.length + 4 := by
    have h1 := join_len hne
    have h2 := join_len (parts_ne o)
    have h3 : sum (put (parts o) k [46, 46, 46]) = sum (parts o) + 4 := by
      unfold put
      have h4 := sum_app ((parts o).take k) ((parts o).drop k)
      rw [List.take_append_drop] at h4
      rw [sum_app, sum, h4]
      simp
      omega
    rw [hj] at h2
    omega
  have := put_cl h (k := k) (m := [46, 46, 46]) (by decide) (by decide) (by decide) (by decide) (by rw [hf, hlen]; omega) (by rw [hf]; exact hne)
  rw [hf] at this
  exact ⟨_, this.back, hlen⟩
/-- A slash ahead, a byte 0 behind. -/
theorem clean_abs (o : List UInt8) : clean (47 :: o) = none := by unfold clean; rw [if_pos]; exact .inr (.inl rfl)
theorem clean_nul (o : List UInt8) : clean (o ++ [0]) = none := by unfold clean; rw [if_pos]; exact .inr (.inr (.inl (by simp)))
/-- A path's parts, or none; as it is ordered by. -/
def split (s : List UInt8) : List (List UInt8) := if clean s = some s then parts s else []
def key (s : List UInt8) : List (List UInt8) := if clean s = some s then parts s else [s]
theorem Cl.split_eq {s o : List UInt8} (h : Cl s o) : split o = parts o := by unfold split; rw [if_pos h.again.back]
theorem Cl.key_eq {s o : List UInt8} (h : Cl s o) : key o = parts o := by unfold key; rw [if_pos h.again.back]
theorem Cl.joins {s o : List UInt8} (h : Cl s o) : join (parts o) = o := by rw [h.parts_eq]; exact h.o_eq.symm
end PaMath
