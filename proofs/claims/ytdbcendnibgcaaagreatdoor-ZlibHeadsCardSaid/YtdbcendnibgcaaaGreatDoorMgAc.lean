import Derived.WalkKit
import Derived.Test.YtdbcendnibgcaaaGreatDoorRows
import Derived.Test.YtdbcendnibgcaaaGreatDoorMgAb
import Derived.Deep.DeepCutAuto
import Derived.Deep.CutBlock
import Derived.Below
import Derived.Deep.QuietTactic
import Derived.BigQuiet

section
/-
  Matches: how far two places are alike, the places that are asked, the one that is taken. Plain mathematics.
-/
namespace MatMath

def at_ (s : List UInt8) (i : Nat) : UInt8 := s.getD i 0
/-- The same three bytes stand at q and at a. -/
def tri (s : List UInt8) (q a : Nat) : Bool := at_ s q == at_ s a && at_ s (q + 1) == at_ s (a + 1) && at_ s (q + 2) == at_ s (a + 2)
theorem tri_iff {s : List UInt8} {q a : Nat} : tri s q a = true ↔ at_ s q = at_ s a ∧ at_ s (q + 1) = at_ s (a + 1) ∧ at_ s (q + 2) = at_ s (a + 2) := by
  simp [tri, and_assoc]
theorem tri_refl (s : List UInt8) (a : Nat) : tri s a a = true := by simp [tri]
theorem tri_left {s : List UInt8} {p a : Nat} (h : tri s p a = true) (q : Nat) : tri s q p = tri s q a := by
  obtain ⟨h1, h2, h3⟩ := tri_iff.1 h
  simp [tri, h1, h2, h3]
theorem tri_comm (s : List UInt8) (q a : Nat) : tri s q a = tri s a q := by
  simp only [tri, Bool.beq_comm]

/-- How many bytes are alike from q and from a on, at most m. -/
def ml : List UInt8 → Nat → Nat → Nat → Nat
  | _, _, _, 0 => 0
  | s, q, a, m + 1 => if at_ s q = at_ s a then ml s (q + 1) (a + 1) m + 1 else 0
theorem ml_le (s : List UInt8) (m : Nat) : ∀ q a, ml s q a m ≤ m := by
  induction m with
  | zero => intro q a; simp [ml]
  | succ m ih => intro q a; unfold ml; have := ih (q + 1) (a + 1); split <;> omega
theorem ml_same (s : List UInt8) (m : Nat) : ∀ q a i, i < ml s q a m → at_ s (q + i) = at_ s (a + i) := by
  induction m with
  | zero => intro q a i h; simp [ml] at h
  | succ m ih =>
    intro q a i h
    unfold ml at h
    split at h
    · next e =>
      cases i with
      | zero => exact e
      | succ i => have := ih (q + 1) (a + 1) i (by omega); rw [show q + (i + 1) = q + 1 + i from by omega, show a + (i + 1) = a + 1 + i from by omega]; exact this
    · omega
theorem ml_stop (s : List UInt8) (m : Nat) : ∀ q a, ml s q a m < m → at_ s (q + ml s q a m) ≠ at_ s (a + ml s q a m) := by
  induction m with
  | zero => intro q a h; omega
  | succ m ih =>
    intro q a h
    by_cases e : at_ s q = at_ s a
    · have hu : ml s q a (m + 1) = ml s (q + 1) (a + 1) m + 1 := by rw [ml, if_pos e]
      rw [hu] at h ⊢
      have := ih (q + 1) (a + 1) (by omega)
      rw [show q + (ml s (q + 1) (a + 1) m + 1) = q + 1 + ml s (q + 1) (a + 1) m from by omega, show a + (ml s (q + 1) (a + 1) m + 1) = a + 1 + ml s (q + 1) (a + 1) m from by omega]
      exact this
    · have hu : ml s q a (m + 1) = 0 := by rw [ml, if_neg e]
      rw [hu]; exact e
/-- What it is, is it. -/
theorem ml_eq {s : List UInt8} {q a m n : Nat} (h1 : n ≤ m) (h2 : ∀ i, i < n → at_ s (q + i) = at_ s (a + i)) (h3 : n = m ∨ at_ s (q + n) ≠ at_ s (a + n)) : ml s q a m = n := by
  have l1 := ml_le s m q a
  rcases Nat.lt_trichotomy (ml s q a m) n with h | h | h
  · exact absurd (h2 _ h) (ml_stop s m q a (by omega))
  · exact h
  · rcases h3 with h3 | h3
    · omega
    · exact absurd (ml_same s m q a n h) h3
/-- As many as are alike. -/
theorem ml_ge {s : List UInt8} {q a m n : Nat} (h1 : n ≤ m) (h2 : ∀ i, i < n → at_ s (q + i) = at_ s (a + i)) : n ≤ ml s q a m := by
  by_cases h : ml s q a m < n
  · exact absurd (h2 _ h) (ml_stop s m q a (by omega))
  · omega
theorem ml_tri {s : List UInt8} {q a m : Nat} (h : tri s q a = true) (hm : 3 ≤ m) : 3 ≤ ml s q a m := by
  obtain ⟨h1, h2, h3⟩ := tri_iff.1 h
  refine ml_ge hm fun i hi => ?_
  match i, hi with
  | 0, _ => exact h1
  | 1, _ => exact h2
  | 2, _ => exact h3
theorem tri_of_ml {s : List UInt8} {q a m : Nat} (h : 3 ≤ ml s q a m) : tri s q a = true :=
  tri_iff.2 ⟨ml_same s m q a 0 (by omega), ml_same s m q a 1 (by omega), ml_same s m q a 2 (by omega)⟩

/-- The nearest place below k at which the three bytes of a stand. -/
def prev (s : List UInt8) (a : Nat) : Nat → Option Nat
  | 0 => none
  | q + 1 => if tri s q a then some q else prev s a q
theorem prev_some {s : List UInt8} {a e : Nat} : ∀ k, prev s a k = some e → e < k ∧ tri s e a = true ∧ ∀ q, e < q → q < k → tri s q a = false := by
  intro k
  induction k with
  | zero => intro h; cases h
  | succ k ih =>
    intro h
    unfold prev at h
    split at h
    · next ht => cases h; exact ⟨by omega, ht, fun q h1 h2 => by omega⟩
    · next ht =>
      obtain ⟨h1, h2, h3⟩ := ih h
      refine ⟨by omega, h2, fun q g1 g2 => ?_⟩
      by_cases e : q = k
      · subst e; simpa using ht
      · exact h3 q g1 (by omega)
theorem prev_none {s : List UInt8} {a : Nat} : ∀ k, prev s a k = none → ∀ q, q < k → tri s q a = false := by
  intro k
  induction k with
  | zero => intro _ q h; omega
  | succ k ih =>
    intro h q hq
    unfold prev at h
    split at h
    · cases h
    · next ht =>
      by_cases e : q = k
      · subst e; simpa using ht
      · exact ih h q (by omega)
theorem prev_congr {s : List UInt8} {p a : Nat} (h : tri s p a = true) (k : Nat) : prev s p k = prev s a k := by
  induction k with
  | zero => rfl
  | succ k ih => unfold prev; rw [tri_left h, ih]
/-- How far back the same three bytes stand: 0: nowhere, or too far. -/
def back (s : List UInt8) (far a : Nat) : Nat := match prev s a a with
  | none => 0
  | some e => if a - e ≤ far then a - e else 0
theorem back_le (s : List UInt8) (far a : Nat) : back s far a ≤ far ∧ back s far a ≤ a := by
  unfold back
  split
  · omega
  · split <;> omega

/-! ### the search -/
/-- Good, at least 1. -/
def gd (good : Int) : Int := if good < 1 then 1 else good
/-- From place q down: so many were seen, the best one so far. -/
def scan (s : List UInt8) (far m : Nat) (chain good : Int) (a : Nat) : Nat → Nat → Nat → Nat → Nat × Nat
  | 0, _, b, d => (b, d)
  | q + 1, seen, b, d =>
    if a - q ≤ far ∧ (seen : Int) < chain then
      if tri s q a then
        if gd good ≤ (ml s q a m : Int) then (ml s q a m, a - q)
        else if b < ml s q a m then scan s far m chain good a q (seen + 1) (ml s q a m) (a - q)
        else scan s far m chain good a q (seen + 1) b d
      else scan s far m chain good a q seen b d
    else (b, d)
section
variable {s : List UInt8} {far m : Nat} {chain good : Int} {a : Nat}
theorem scan_stop {q seen b d : Nat} (h : ¬ (a - q ≤ far ∧ (seen : Int) < chain)) : scan s far m chain good a (q + 1) seen b d = (b, d) := by
  rw [scan, if_neg h]
theorem scan_out {q seen b d : Nat} (h : chain ≤ (seen : Int)) : scan s far m chain good a q seen b d = (b, d) := by
  cases q with
  | zero => rfl
  | succ q => exact scan_stop (by omega)
theorem scan_far {q seen b d : Nat} (h : far + q ≤ a) : scan s far m chain good a q seen b d = (b, d) := by
  cases q with
  | zero => rfl
  | succ q => exact scan_stop (by omega)
theorem scan_pass {q seen b d : Nat} (h : tri s q a = false) : scan s far m chain good a (q + 1) seen b d = scan s far m chain good a q seen b d := by
  rw [scan]
  split
  · rw [if_neg (by simp [h])]
  · next hn =>
    by_cases h1 : (seen : Int) < chain
    · rw [scan_far (by omega)]
    · rw [scan_out (by omega)]
theorem scan_skip {e q seen b d : Nat} (he : e ≤ q) (h : ∀ p, e ≤ p → p < q → tri s p a = false) : scan s far m chain good a q seen b d = scan s far m chain good a e seen b d := by
  induction q with
  | zero => obtain rfl : e = 0 := by omega
            rfl
  | succ q ih =>
    by_cases h1 : e ≤ q
    · rw [scan_pass (h q h1 (by omega)), ih h1 (fun p h2 h3 => h p h2 (by omega))]
    · obtain rfl : e = q + 1 := by omega
      rfl
/-- The best there may be stays. -/
theorem scan_top {q seen b d : Nat} (hb : b = m) (hg : (b : Int) < gd good) : scan s far m chain good a q seen b d = (b, d) := by
  induction q generalizing seen with
  | zero => rfl
  | succ q ih =>
    have hl := ml_le s m q a
    rw [scan]
    split
    · split
      · rw [if_neg (by omega), if_neg (by omega)]; exact ih
      · exact ih
    · rfl
theorem scan_good {q seen b d : Nat} (h : a - q ≤ far ∧ (seen : Int) < chain) (ht : tri s q a = true) (hg : gd good ≤ (ml s q a m : Int)) : scan s far m chain good a (q + 1) seen b d = (ml s q a m, a - q) := by
  rw [scan, if_pos h, if_pos ht, if_pos hg]
theorem scan_more {q seen b d : Nat} (h : a - q ≤ far ∧ (seen : Int) < chain) (ht : tri s q a = true) (hg : ¬ gd good ≤ (ml s q a m : Int)) (hb : b < ml s q a m) : scan s far m chain good a (q + 1) seen b d = scan s far m chain good a q (seen + 1) (ml s q a m) (a - q) := by
  rw [scan, if_pos h, if_pos ht, if_neg hg, if_pos hb]
theorem scan_less {q seen b d : Nat} (h : a - q ≤ far ∧ (seen : Int) < chain) (ht : tri s q a = true) (hg : ¬ gd good ≤ (ml s q a m : Int)) (hb : ¬ b < ml s q a m) : scan s far m chain good a (q + 1) seen b d = scan s far m chain good a q (seen + 1) b d := by
  rw [scan, if_pos h, if_pos ht, if_neg hg, if_neg hb]

/-! ### one step along the chain -/
/-- From p (a itself, or a place where the same stands): nothing there. -/
theorem step_none {p seen b d : Nat} (hp : tri s p a = true) (hpa : p ≤ a) (h0 : back s far p = 0) : scan s far m chain good a p seen b d = (b, d) := by
  unfold back at h0
  rw [prev_congr hp] at h0
  split at h0
  · next hn =>
    rw [scan_skip (Nat.zero_le _) (fun q _ hq => prev_none _ hn q hq)]
    rfl
  · next e he =>
    obtain ⟨h1, h2, h3⟩ := prev_some _ he
    split at h0
    · omega
    · rw [scan_skip (show e + 1 ≤ p from h1) (fun q g1 g2 => h3 q (by omega) g2)]
      exact scan_stop (by omega)
theorem step_some {p : Nat} (hp : tri s p a = true) (h0 : 0 < back s far p) :
    ∃ e, e < p ∧ p - back s far p = e ∧ tri s e a = true ∧ ∀ seen b d, scan s far m chain good a p seen b d = scan s far m chain good a (e + 1) seen b d := by
  unfold back at h0 ⊢
  rw [prev_congr hp] at h0 ⊢
  split at h0
  · omega
  · next e he =>
    obtain ⟨h1, h2, h3⟩ := prev_some _ he
    split at h0
    · next hle =>
      refine ⟨e, h1, ?_, h2, fun seen b d => scan_skip (show e + 1 ≤ p from h1) (fun q g1 g2 => h3 q (by omega) g2)⟩
      rw [if_pos hle]; omega
    · omega
end

/-! ### what is found -/
def far_ (wide : Bool) : Nat := if wide then 65536 else 32768
def long_ (wide : Bool) : Nat := if wide then 65538 else 258
/-- The length and the distance of a match. -/
def find (s : List UInt8) (chain good : Int) (wide : Bool) (a : Nat) : Nat × Nat :=
  if a + 3 ≤ s.length then scan s (far_ wide) (min (long_ wide) (s.length - a)) chain good a a 0 0 0 else (0, 0)
/-- .. at any index. -/
def findI (s : List UInt8) (chain good : Int) (wide : Bool) (a : Int) : Nat × Nat := if 0 ≤ a then find s chain good wide a.toNat else (0, 0)

/-- What a search comes to: nothing new, or a place that was seen. -/
theorem scan_is {s : List UInt8} {far m : Nat} {chain good : Int} {a : Nat} : ∀ q seen b d, q ≤ a → scan s far m chain good a q seen b d = (b, d) ∨
    ∃ p, p < q ∧ tri s p a = true ∧ a - p ≤ far ∧ scan s far m chain good a q seen b d = (ml s p a m, a - p) := by
  intro q
  induction q with
  | zero => intro seen b d _; exact .inl rfl
  | succ q ih =>
    intro seen b d hq
    rw [scan]
    split
    · next h =>
      split
      · next ht =>
        split
        · exact .inr ⟨q, by omega, ht, h.1, rfl⟩
        · split
          · rcases ih (seen + 1) (ml s q a m) (a - q) (by omega) with e | ⟨p, h1, h2, h3, h4⟩
            · exact .inr ⟨q, by omega, ht, h.1, e⟩
            · exact .inr ⟨p, by omega, h2, h3, h4⟩
          · rcases ih (seen + 1) b d (by omega) with e | ⟨p, h1, h2, h3, h4⟩
            · exact .inl e
            · exact .inr ⟨p, by omega, h2, h3, h4⟩
      · rcases ih seen b d (by omega) with e | ⟨p, h1, h2, h3, h4⟩
        · exact .inl e
        · exact .inr ⟨p, by omega, h2, h3, h4⟩
    · exact .inl rfl
theorem long_ge (wide : Bool) : 258 ≤ long_ wide ∧ long_ wide ≤ 65538 := by cases wide <;> simp [long_]
theorem far_ge (wide : Bool) : 32768 ≤ far_ wide ∧ far_ wide ≤ 65536 := by cases wide <;> simp [far_]
theorem find_is (s : List UInt8) (chain good : Int) (wide : Bool) (a : Nat) : find s chain good wide a = (0, 0) ∨
    ∃ p, a + 3 ≤ s.length ∧ p < a ∧ tri s p a = true ∧ a - p ≤ far_ wide ∧ find s chain good wide a = (ml s p a (min (long_ wide) (s.length - a)), a - p) ∧ 3 ≤ ml s p a (min (long_ wide) (s.length - a)) := by
  unfold find
  split
  · next h3 =>
    rcases scan_is (s := s) (far := far_ wide) (m := min (long_ wide) (s.length - a)) (chain := chain) (good := good) a 0 0 0 (Nat.le_refl _) with e | ⟨p, h1, h2, h4, h5⟩
    · exact .inl e
    · have := long_ge wide
      exact .inr ⟨p, h3, h1, h2, h4, h5, ml_tri h2 (by omega)⟩
  · exact .inl rfl
/-- The numbers of what is found. -/
theorem find_nums (s : List UInt8) (chain good : Int) (wide : Bool) (a : Nat) : ∃ n d : Nat, find s chain good wide a = (n, d) ∧ (n = 0 ∧ d = 0 ∨ 3 ≤ n ∧ n ≤ long_ wide ∧ a + n ≤ s.length ∧ 1 ≤ d ∧ d ≤ far_ wide ∧ d ≤ a ∧ ∀ i, i < n → at_ s (a + i) = at_ s (a + i - d)) := by
  rcases find_is s chain good wide a with e | ⟨p, h0, h1, h2, h3, h4, h5⟩
  · exact ⟨0, 0, e, .inl ⟨rfl, rfl⟩⟩
  · refine ⟨_, _, h4, .inr ⟨h5, ?_, ?_, by omega, by omega, by omega, fun i hi => ?_⟩⟩
    · have := ml_le s (min (long_ wide) (s.length - a)) p a; omega
    · have := ml_le s (min (long_ wide) (s.length - a)) p a; omega
    · have := ml_same _ _ p a i hi
      rw [← this]
      congr 1
      omega
end MatMath
end

section
/-
  bytes.Equal; how many bytes are alike at the beginning of two slices.
-/
namespace Go.Proofs.YtdbcendnibgcaaaGreatDoor.MatC
open Go.RowKit Go.My MatMath

theorem quiet_below (w : World) (n : Nat) : Below w.heap.size w (w.drewN n) := ⟨rfl, rfl, rfl, Nat.le_refl _, fun _ _ => rfl⟩
theorem blist_inj {a b : ByteArray} (h : a.toList = b.toList) : a = b := by
  rw [Go.ByteArray.toList_eq, Go.ByteArray.toList_eq] at h
  exact ByteArray.ext (Array.toList_inj.1 h)
theorem equal_any {a1 a2 : Option Addr} {n1 n2 c1 c2 : Nat} {l1 l2 : List UInt8} (w : World) (h1 : Bytes w a1 n1 c1 l1) (h2 : Bytes w a2 n2 c2 l2) (K : Bool) (hK : (l1 == l2) = K) :
    Calls Tryz.prog 26 #[.slice a1 n1 c1, .slice a2 n2 c2] w fun e w' => e = .returned (.bool K) ∧ w' = w := by
  have k1 := run_string_bytes (P := Tryz.prog) w 22 9 5 Tryz.underlying22 Tryz.underlying5 Tryz.underlying9 h1
  have k2 := run_string_bytes (P := Tryz.prog) w 22 9 5 Tryz.underlying22 Tryz.underlying5 Tryz.underlying9 h2
  clear h1 h2
  go_enter Tryz.func26, Tryz.ntmps26
  go_wp2_with fail
  go_ret
  exact ⟨rfl, rfl⟩

/-- How many bytes at the beginning of both are the same. -/
def pre : List UInt8 → List UInt8 → Nat
  | [], _ => 0
  | _ :: _, [] => 0
  | x :: xs, y :: ys => if x = y then pre xs ys + 1 else 0
theorem pre_eq : ∀ (l1 l2 : List UInt8) (n : Nat), n ≤ l1.length → n ≤ l2.length → (∀ i, i < n → l1[i]? = l2[i]?) → (n = l1.length ∨ n = l2.length ∨ l1[n]? ≠ l2[n]?) → pre l1 l2 = n := by
  intro l1
  induction l1 with
  | nil => intro l2 n h1 _ _ _; simp at h1; simp [pre, h1]
  | cons x xs ih =>
    intro l2 n h1 h2 h3 h4
    cases l2 with
    | nil => simp at h2; simp [pre, h2]
    | cons y ys =>
      cases n with
      | zero =>
        have : x ≠ y := by simpa using h4
        simp [pre, this]
      | succ n =>
        have e : x = y := by simpa using h3 0 (by omega)
        simp only [pre, if_pos e]
        rw [ih ys n (by simpa using h1) (by simpa using h2) (fun i hi => by simpa using h3 (i + 1) (by omega)) (by simpa using h4)]
/-- .. in one text. -/
theorem pre_ml (s : List UInt8) (q a m : Nat) (hm : a + m ≤ s.length) (hq : q ≤ a) : pre (s.drop q) ((s.drop a).take m) = ml s q a m := by
  have hg : ∀ i, i < s.length → s[i]? = some (at_ s i) := fun i hi => by rw [at_, List.getD_eq_getElem?_getD, List.getElem?_eq_getElem hi]; rfl
  have hl := ml_le s m q a
  refine pre_eq _ _ _ (by simp; omega) (by simp; omega) (fun i hi => ?_) ?_
  · rw [List.getElem?_take, if_pos (by omega), List.getElem?_drop, List.getElem?_drop, hg _ (by omega), hg _ (by omega), ml_same s m q a i hi]
  · by_cases h : ml s q a m < m
    · refine .inr (.inr ?_)
      rw [List.getElem?_take, if_pos h, List.getElem?_drop, List.getElem?_drop, hg _ (by omega), hg _ (by omega)]
      exact fun e => ml_stop s m q a h (Option.some.inj e)
    · exact .inr (.inl (by simp; omega))

/-- A piece of some bytes. -/
theorem bytes_part {w : World} {b off len cap : Nat} {l : List UInt8} (h : Bytes w (some ⟨b, off, none⟩) len cap l) (i j : Nat) (hij : i ≤ j) (hj : j ≤ len) : Bytes w (some ⟨b, off + i, none⟩) (j - i) (cap - i) ((l.drop i).take (j - i)) :=
  (h.drop i (by omega)).take (j - i) (by omega)
theorem byte_at {w : World} {b off len cap : Nat} {l : List UInt8} (h : Bytes w (some ⟨b, off, none⟩) len cap l) (i : Nat) (hi : i < l.length) : w.cell? ⟨b, off + i, none⟩ = some (.int .u8 (l[i].toNat : Int)) := by
  rcases h.at_ with h5 | ⟨b', off', ha, hs, hc⟩
  · have := h.len_eq; omega
  · cases ha; exact hc i hi

/-- Only the draws have gone on. -/
def Drew (w w' : World) : Prop := ∃ m, w' = w.drewN m
theorem Drew.refl (w : World) : Drew w w := ⟨0, rfl⟩
theorem Drew.more {w w' : World} (h : Drew w w') (n : Nat) : Drew w (w'.drewN n) := by
  obtain ⟨m, rfl⟩ := h
  exact ⟨m + n, by rw [World.drewN_drewN]⟩
theorem Drew.below {w w' : World} (h : Drew w w') : Below w.heap.size w w' := by
  obtain ⟨m, rfl⟩ := h
  exact quiet_below w m
theorem Drew.bytes {w w' : World} {a : Option Addr} {len cap : Nat} {l : List UInt8} (h : Drew w w') (hb : Bytes w a len cap l) : Bytes w' a len cap l := hb.below (Nat.le_refl _) h.below

end Go.Proofs.YtdbcendnibgcaaaGreatDoor.MatC
end

section
/-
  Regions that draw their order, whose own operations only read, and whose callees may make memory: one walk in the order of the text, in the class of the worlds that keep all that was there. No program, no dump.
-/
namespace Go.My
open Go.RowKit

/-- A world that has come of w, all that was there kept. -/
structure Later (w : World) where
  at' : World
  kept : Below w.heap.size w at'

instance {w : World} : Inhabited (Later w) := ⟨⟨w, Below.refl _ w⟩⟩

theorem wp_region_later {P : Program} {id : Nat} {Q : Exit → Act → World → Prop} {a : Act} {w : World} {l : List Oper} (hm : P.follows .mixedOrders = true) (hB : Region.lexB .any l.toArray = true)
    (h : wpQuiet P l.toArray (fun w' => ∃ p : Later w, w' = p.at') (fun a' => ∀ w', (∃ p : Later w, w' = p.at') → Q .normal a' w') l a) : (Code.region id l.toArray true).wp P Q a w :=
  wp_region_quiet (C := fun w' => ∃ p : Later w, w' = p.at') hm hB ⟨⟨_, (Below.refl _ w).drew⟩, rfl⟩ (by simpa using h)

theorem later_of {P : Program} {f : FuncId} {args : Array Value} {w : World} {p : Later w} {v : Value}
    (h : Calls P f args p.at' fun e w'' => e = .returned v ∧ Below p.at'.heap.size p.at' w'') : Calls P f args p.at' fun e w'' => e = .returned v ∧ ∃ q : Later w, w'' = q.at' :=
  h.mono fun _ _ ⟨he, hb⟩ => ⟨he, ⟨_, p.kept.trans (hb.mono p.kept.size)⟩, rfl⟩
theorem later_same {P : Program} {f : FuncId} {args : Array Value} {w : World} {p : Later w} {v : Value}
    (h : Calls P f args p.at' fun e w'' => e = .returned v ∧ p.at' = w'') : Calls P f args p.at' fun e w'' => e = .returned v ∧ ∃ q : Later w, w'' = q.at' :=
  h.mono fun _ _ ⟨he, hb⟩ => ⟨he, p, hb.symm⟩
end Go.My
end
