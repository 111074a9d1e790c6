/-
  Texts of digits: no program, no dump.
-/
import Derived.Test.YtehlgnjbmdaakaaDoorNumMath
import Derived.Lib.SlTrimSet
namespace Go.My.NumMath

def allIn (cs l : List UInt8) : Bool := l.all (cs.contains ·)
theorem dropWhile_all (p : UInt8 → Bool) : ∀ l : List UInt8, l.dropWhile p = [] ↔ l.all p = true
  | [] => by simp
  | c :: t => by
    rw [List.dropWhile_cons, List.all_cons]
    cases h : p c
    · simp
    · simpa using dropWhile_all p t
theorem all_dropWhile (p : UInt8 → Bool) : ∀ l : List UInt8, (l.dropWhile p).all p = l.all p
  | [] => rfl
  | c :: t => by
    rw [List.dropWhile_cons, List.all_cons]
    cases h : p c
    · simp [h]
    · simpa using all_dropWhile p t
/-- Nothing is left of a text that is trimmed just if all of it may go. -/
theorem trimS_nil (l cs : List UInt8) : (Lib.trimS l cs = []) ↔ allIn cs l = true := by
  unfold Lib.trimS Lib.trimLeftS Lib.trimRightS allIn
  rw [dropWhile_all, List.all_reverse, all_dropWhile, List.all_reverse]

def dig (b : Nat) (c : UInt8) : Nat := if b = 256 then c.toNat else if c.toNat ≤ 57 then c.toNat - 48 else if c.toNat ≤ 70 then c.toNat - 55 else c.toNat - 87
def okDig (b : Nat) (c : UInt8) : Prop := b = 256 ∨ (48 ≤ c.toNat ∧ (c.toNat ≤ 57 ∨ (65 ≤ c.toNat ∧ c.toNat ≤ 70) ∨ 97 ≤ c.toNat))
theorem dig_le (b : Nat) (c : UInt8) : dig b c ≤ 255 := by
  have := c.toNat_lt
  unfold dig; split; · omega
  split; · omega
  split <;> omega

def blanks : List UInt8 := [32]
def octs : List UInt8 := [48, 49, 50, 51, 52, 53, 54, 55]
def ends : List UInt8 := [32, 0]
def decs : List UInt8 := [48, 49, 50, 51, 52, 53, 54, 55, 56, 57]
def hexs : List UInt8 := [48, 49, 50, 51, 52, 53, 54, 55, 56, 57, 97, 98, 99, 100, 101, 102, 65, 66, 67, 68, 69, 70]

theorem all_bytes {P : UInt8 → Prop} (h : ∀ n : Fin 256, P (UInt8.ofNat n.val)) (c : UInt8) : P c := by
  have := h ⟨c.toNat, c.toNat_lt⟩
  simpa using this
theorem octs_iff (c : UInt8) : octs.contains c = true ↔ 48 ≤ c.toNat ∧ c.toNat ≤ 55 :=
  all_bytes (P := fun c => octs.contains c = true ↔ 48 ≤ c.toNat ∧ c.toNat ≤ 55) (by decide +kernel) c
theorem blanks_iff (c : UInt8) : blanks.contains c = true ↔ c.toNat = 32 :=
  all_bytes (P := fun c => blanks.contains c = true ↔ c.toNat = 32) (by decide +kernel) c
theorem ends_iff (c : UInt8) : ends.contains c = true ↔ c.toNat = 32 ∨ c.toNat = 0 :=
  all_bytes (P := fun c => ends.contains c = true ↔ c.toNat = 32 ∨ c.toNat = 0) (by decide +kernel) c
theorem decs_iff (c : UInt8) : decs.contains c = true ↔ 48 ≤ c.toNat ∧ c.toNat ≤ 57 :=
  all_bytes (P := fun c => decs.contains c = true ↔ 48 ≤ c.toNat ∧ c.toNat ≤ 57) (by decide +kernel) c
theorem hexs_iff (c : UInt8) : hexs.contains c = true ↔ (48 ≤ c.toNat ∧ c.toNat ≤ 57) ∨ (97 ≤ c.toNat ∧ c.toNat ≤ 102) ∨ (65 ≤ c.toNat ∧ c.toNat ≤ 70) :=
  all_bytes (P := fun c => hexs.contains c = true ↔ (48 ≤ c.toNat ∧ c.toNat ≤ 57) ∨ (97 ≤ c.toNat ∧ c.toNat ≤ 102) ∨ (65 ≤ c.toNat ∧ c.toNat ≤ 70)) (by decide +kernel) c

/-- What a text without its blanks ahead is. -/
def body (l : List UInt8) : List UInt8 := l.dropWhile (blanks.contains ·)
def octDigits (l : List UInt8) : List UInt8 := (body l).takeWhile (octs.contains ·)
def octRest (l : List UInt8) : List UInt8 := (body l).dropWhile (octs.contains ·)
/-- tar's number: the number, and the error. -/
def octR (l : List UInt8) : Nat × Nat :=
  match l with
  | [] => (0, 2)
  | c :: t =>
    if c.toNat = 128 then (rngV (V (dig 256) 256 t), rngE (V (dig 256) 256 t))
    else if allIn ends (octRest (c :: t)) then (rngV (V (dig 8) 8 (octDigits (c :: t))), rngE (V (dig 8) 8 (octDigits (c :: t)))) else (0, 2)
def octV (l : List UInt8) : Nat := (octR l).1
def octE (l : List UInt8) : Nat := (octR l).2
def hexR (l : List UInt8) : Nat × Nat := if l.length = 8 ∧ allIn hexs l = true then (V (dig 16) 16 l, 0) else (0, 2)
def hexV (l : List UInt8) : Nat := (hexR l).1
def hexE (l : List UInt8) : Nat := (hexR l).2
def decR (l : List UInt8) : Nat × Nat := if l ≠ [] ∧ allIn decs l = true then (rngV (V (dig 10) 10 l), rngE (V (dig 10) 10 l)) else (0, 2)
def decV (l : List UInt8) : Nat := (decR l).1
def decE (l : List UInt8) : Nat := (decR l).2

theorem take_rest (l : List UInt8) : (body l).take ((body l).length - (octRest l).length) = octDigits l := by
  have h : octDigits l ++ octRest l = body l := List.takeWhile_append_dropWhile
  have hl : (octDigits l).length + (octRest l).length = (body l).length := by rw [← List.length_append, h]
  rw [show (body l).length - (octRest l).length = (octDigits l).length from by omega]
  conv => lhs; rw [← h]
  simp
theorem takeWhile_mem {p : UInt8 → Bool} : ∀ {l : List UInt8} {c : UInt8}, c ∈ l.takeWhile p → p c = true
  | [], _, h => by cases h
  | x :: t, c, h => by
    rw [List.takeWhile_cons] at h
    cases hp : p x
    · simp [hp] at h
    · simp only [hp, if_true] at h
      rcases List.mem_cons.1 h with h | h
      · rw [h]; exact hp
      · exact takeWhile_mem h
theorem octDigits_ok (l : List UInt8) : ∀ c ∈ octDigits l, okDig 8 c := fun c h => by
  have := (octs_iff c).1 (takeWhile_mem h)
  exact .inr (by omega)
theorem allIn_ok {cs l : List UInt8} (h : allIn cs l = true) : ∀ c ∈ l, cs.contains c = true := fun c hc => List.all_eq_true.1 h c hc
theorem decs_ok {l : List UInt8} (h : allIn decs l = true) : ∀ c ∈ l, okDig 10 c := fun c hc => by
  have := (decs_iff c).1 (allIn_ok h c hc)
  exact .inr (by omega)
theorem hexs_ok {l : List UInt8} (h : allIn hexs l = true) : ∀ c ∈ l, okDig 16 c := fun c hc => by
  have := (hexs_iff c).1 (allIn_ok h c hc)
  exact .inr (by omega)
theorem hex_dig_lt {c : UInt8} (h : hexs.contains c = true) : dig 16 c < 16 := by
  have := (hexs_iff c).1 h
  unfold dig
  rw [if_neg (by decide)]
  split; · omega
  split <;> omega
theorem hex_lt {l : List UInt8} (h8 : l.length = 8) (h : allIn hexs l = true) : V (dig 16) 16 l < 4294967296 := by
  have := V_lt (dig 16) 16 l fun c hc => hex_dig_lt (allIn_ok h c hc)
  rw [h8] at this
  omega
theorem octR_none : octR [] = (0, 2) := rfl
theorem octR_256 (c : UInt8) (t : List UInt8) (h : c.toNat = 128) : octR (c :: t) = (rngV (V (dig 256) 256 t), rngE (V (dig 256) 256 t)) := by unfold octR; simp only [h, if_true]
theorem octR_form (c : UInt8) (t : List UInt8) (h : c.toNat ≠ 128) (h2 : allIn ends (octRest (c :: t)) = false) : octR (c :: t) = (0, 2) := by unfold octR; simp [h, h2]
theorem octR_oct (c : UInt8) (t : List UInt8) (h : c.toNat ≠ 128) (h2 : allIn ends (octRest (c :: t)) = true) : octR (c :: t) = (rngV (V (dig 8) 8 (octDigits (c :: t))), rngE (V (dig 8) 8 (octDigits (c :: t)))) := by unfold octR; simp [h, h2]
/-- A byte of 129 or more is neither blank, nor a digit, nor an end. -/
theorem octR_high (c : UInt8) (t : List UInt8) (h : 128 < c.toNat) : octR (c :: t) = (0, 2) := by
  refine octR_form c t (by omega) ?_
  have h1 : blanks.contains c = false := by
    cases e : blanks.contains c
    · rfl
    · have := (blanks_iff c).1 e; omega
  have h2 : octs.contains c = false := by
    cases e : octs.contains c
    · rfl
    · have := (octs_iff c).1 e; omega
  have h3 : ends.contains c = false := by
    cases e : ends.contains c
    · rfl
    · have := (ends_iff c).1 e; omega
  unfold octRest body allIn
  rw [List.dropWhile_cons, h1]
  simp only [Bool.false_eq_true, if_false]
  rw [List.dropWhile_cons, h2]
  simp only [Bool.false_eq_true, if_false, List.all_cons, h3, Bool.false_and]

/-! ### a text read from the left -/
theorem body_skip (l : List UInt8) (k : Nat) (h : k < l.length) (h32 : l[k].toNat = 32) : body (l.drop k) = body (l.drop (k + 1)) := by
  rw [List.drop_eq_getElem_cons h]
  unfold body
  rw [List.dropWhile_cons, (blanks_iff _).2 h32]
  rfl
theorem body_stop (l : List UInt8) (k : Nat) (h : ∀ h : k < l.length, l[k].toNat ≠ 32) : body (l.drop k) = l.drop k := by
  by_cases hk : k < l.length
  · rw [List.drop_eq_getElem_cons hk]
    unfold body
    have hb : blanks.contains l[k] = false := by
      cases e : blanks.contains l[k]
      · rfl
      · exact absurd ((blanks_iff _).1 e) (h hk)
    rw [List.dropWhile_cons, hb]
    rfl
  · rw [List.drop_eq_nil_of_le (by omega)]; rfl
theorem span_of (p : UInt8 → Bool) (P T : List UInt8) (hP : P.all p = true) (hT : ∀ c t, T = c :: t → p c = false) : (P ++ T).takeWhile p = P ∧ (P ++ T).dropWhile p = T := by
  induction P with
  | nil =>
    cases T with
    | nil => exact ⟨rfl, rfl⟩
    | cons c t => simp [hT c t rfl]
  | cons x P ih =>
    rw [List.all_cons, Bool.and_eq_true] at hP
    have := ih hP.2
    simp only [List.cons_append, List.takeWhile_cons, List.dropWhile_cons, hP.1, if_true, this.1, this.2]
    exact ⟨trivial, trivial⟩
theorem oct_split (l P : List UInt8) (k : Nat) (hb : body l = P ++ l.drop k) (hP : allIn octs P = true) (h : ∀ h : k < l.length, ¬ (48 ≤ l[k].toNat ∧ l[k].toNat ≤ 55)) : octDigits l = P ∧ octRest l = l.drop k := by
  unfold octDigits octRest
  rw [hb]
  refine span_of _ P (l.drop k) hP fun c t e => ?_
  by_cases hk : k < l.length
  · rw [List.drop_eq_getElem_cons hk] at e
    cases e
    cases e2 : octs.contains l[k]
    · rfl
    · exact absurd ((octs_iff _).1 e2) (h hk)
  · rw [List.drop_eq_nil_of_le (by omega)] at e
    cases e
theorem allIn_snoc (cs P : List UInt8) (c : UInt8) (hP : allIn cs P = true) (hc : cs.contains c = true) : allIn cs (P ++ [c]) = true := by
  unfold allIn at *
  rw [List.all_append, hP]
  simpa using hc
theorem ends_skip (l : List UInt8) (k : Nat) (h : k < l.length) (he : l[k].toNat = 32 ∨ l[k].toNat = 0) : allIn ends (l.drop k) = allIn ends (l.drop (k + 1)) := by
  rw [List.drop_eq_getElem_cons h]
  unfold allIn
  rw [List.all_cons, (ends_iff _).2 he]
  simp
theorem ends_bad (l : List UInt8) (k : Nat) (h : k < l.length) (he : ¬ (l[k].toNat = 32 ∨ l[k].toNat = 0)) : allIn ends (l.drop k) = false := by
  have hb : ends.contains l[k] = false := by
    cases e : ends.contains l[k]
    · rfl
    · exact absurd ((ends_iff _).1 e) he
  rw [List.drop_eq_getElem_cons h]
  unfold allIn
  rw [List.all_cons, hb]
  rfl
/-- What a loop that watches its limit holds: the number, or that it was passed. -/
def HeldV (b : Nat) (P : List UInt8) (ov : Bool) (n : Nat) : Prop := (ov = false ∧ n = V (dig b) b P ∧ n ≤ 4611686018427387904) ∨ (ov = true ∧ n = 0 ∧ 4611686018427387904 < V (dig b) b P)
theorem dig8 (c : UInt8) (h : c.toNat ≤ 57) : dig 8 c = c.toNat - 48 := by
  unfold dig; rw [if_neg (by decide), if_pos h]
end Go.My.NumMath
