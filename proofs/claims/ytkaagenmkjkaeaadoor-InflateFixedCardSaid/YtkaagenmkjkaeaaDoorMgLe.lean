import Derived.Test.YtkaagenmkjkaeaaDoorMgA
import Derived.Test.YtkaagenmkjkaeaaDoorRows
import Derived.Laws.Pointers
import Derived.StillTailTactics
import Derived.Deep.RegionLaw
import Derived.Deep.DeepCutAuto
import Derived.Deep.CutBlock
import Derived.Deep.QuietTactic
import Derived.BigQuiet
import Derived.Test.YtkaagenmkjkaeaaDoorMgM
import Derived.Test.YtkaagenmkjkaeaaDoorMgLa
import Derived.WideShapes
import Derived.ChangeSame
import Derived.Deep.Slices
import Derived.OpenShut
import Derived.Test.YtkaagenmkjkaeaaDoorMgV
import Derived.Test.YtkaagenmkjkaeaaDoorMgLd

section
/-
  LZ77 tokens: which may be, how many bytes, which bytes. Plain mathematics.
-/
namespace LzMath
open WinMath

/-- A token. -/
structure Tok where
  len : Int
  dist : Int
  byte : UInt8

/-- The longest match, the farthest one. -/
def ml (wide : Bool) : Int := if wide then 65538 else 258
def md (wide : Bool) : Nat := if wide then 65536 else 32768
def Lone (t : Tok) : Prop := t.len = 0 ∧ t.dist = 0
def Mat (wide : Bool) (t : Tok) : Prop := t.byte = 0 ∧ 3 ≤ t.len ∧ t.len ≤ ml wide ∧ 1 ≤ t.dist ∧ t.dist ≤ (md wide : Int)
def May (wide : Bool) (t : Tok) : Prop := Lone t ∨ Mat wide t
instance (t : Tok) : Decidable (Lone t) := inferInstanceAs (Decidable (_ ∧ _))
instance (wide : Bool) (t : Tok) : Decidable (Mat wide t) := inferInstanceAs (Decidable (_ ∧ _))
instance (wide : Bool) (t : Tok) : Decidable (May wide t) := inferInstanceAs (Decidable (_ ∨ _))

/-- How many bytes a token is, and k of them. -/
def sz (t : Tok) : Nat := if t.len = 0 then 1 else t.len.toNat
def tot (f : Nat → Tok) : Nat → Nat
  | 0 => 0
  | k + 1 => tot f k + sz (f k)
/-- Token k may stand there. -/
def Ok (wide : Bool) (f : Nat → Tok) (k : Nat) : Prop := May wide (f k) ∧ (f k).dist ≤ (tot f k : Int)
def GoodT (wide : Bool) (f : Nat → Tok) (n : Nat) : Prop := ∀ i, i < n → Ok wide f i
theorem good_zero (wide : Bool) (f : Nat → Tok) : GoodT wide f 0 := fun i h => by omega
theorem good_succ {wide : Bool} {f : Nat → Tok} {n : Nat} (h : GoodT wide f n) (k : Ok wide f n) : GoodT wide f (n + 1) := fun i hi => by
  by_cases h1 : i < n
  · exact h i h1
  · obtain rfl : i = n := by omega
    exact k
theorem good_or (wide : Bool) (f : Nat → Tok) (n : Nat) : GoodT wide f n ∨ ∃ k, k < n ∧ GoodT wide f k ∧ ¬ Ok wide f k := by
  induction n with
  | zero => exact .inl (good_zero wide f)
  | succ n ih =>
    rcases ih with h | ⟨k, h1, h2, h3⟩
    · by_cases hk : Ok wide f n
      · exact .inl (good_succ h hk)
      · exact .inr ⟨n, by omega, h, hk⟩
    · exact .inr ⟨k, by omega, h2, h3⟩
theorem tot_mono (f : Nat → Tok) (k n : Nat) (h : k ≤ n) : tot f k ≤ tot f n := by
  induction n with
  | zero => obtain rfl : k = 0 := by omega
            exact Nat.le_refl _
  | succ n ih =>
    by_cases h1 : k ≤ n
    · exact Nat.le_trans (ih h1) (Nat.le_add_right _ _)
    · obtain rfl : k = n + 1 := by omega
      exact Nat.le_refl _

/-- All bytes behind one more token. -/
def step (all : List UInt8) (t : Tok) : List UInt8 := if t.len = 0 then all ++ [t.byte] else grow all t.dist.toNat t.len.toNat
def ex (f : Nat → Tok) : Nat → List UInt8
  | 0 => []
  | k + 1 => step (ex f k) (f k)
theorem step_len (all : List UInt8) (t : Tok) : (step all t).length = all.length + sz t := by
  unfold step sz
  split
  · simp
  · exact grow_len _ _ _
theorem ex_len (f : Nat → Tok) (k : Nat) : (ex f k).length = tot f k := by
  induction k with
  | zero => rfl
  | succ k ih => show (step _ _).length = _; rw [step_len, ih]; rfl
theorem step_pre (all : List UInt8) (t : Tok) : ∃ r, step all t = all ++ r := by
  unfold step
  split
  · exact ⟨_, rfl⟩
  · exact grow_pre _ _ _
theorem ex_pre (f : Nat → Tok) (k n : Nat) (h : k ≤ n) : ∃ r, ex f n = ex f k ++ r := by
  induction n with
  | zero => obtain rfl : k = 0 := by omega
            exact ⟨[], by simp⟩
  | succ n ih =>
    by_cases h1 : k ≤ n
    · obtain ⟨r, hr⟩ := ih h1
      obtain ⟨s, hs⟩ := step_pre (ex f n) (f n)
      exact ⟨r ++ s, by show step _ _ = _; rw [hs, hr, List.append_assoc]⟩
    · obtain rfl : k = n + 1 := by omega
      exact ⟨[], by simp⟩

theorem may_wide {t : Tok} (h : May false t) : May true t := by
  rcases h with h | ⟨h1, h2, h3, h4, h5⟩
  · exact .inl h
  · refine .inr ⟨h1, h2, ?_, h4, ?_⟩
    · simp [ml] at *; omega
    · simp [md] at *; omega
theorem good_wide {f : Nat → Tok} {n : Nat} (h : GoodT false f n) : GoodT true f n := fun i hi => ⟨may_wide (h i hi).1, (h i hi).2⟩

/-! ### two lists -/
def join (f : Nat → Tok) (n : Nat) (g : Nat → Tok) : Nat → Tok := fun i => if i < n then f i else g (i - n)
section
variable {f g : Nat → Tok} {n k : Nat}
theorem join_left (h : k < n) : join f n g k = f k := by unfold join; rw [if_pos h]
theorem join_right : join f n g (n + k) = g k := by unfold join; rw [if_neg (by omega), Nat.add_sub_cancel_left]
theorem tot_left (h : k ≤ n) : tot (join f n g) k = tot f k := by
  induction k with
  | zero => rfl
  | succ k ih => show tot _ k + sz _ = tot _ k + sz _; rw [ih (by omega), join_left (by omega)]
theorem ex_left (h : k ≤ n) : ex (join f n g) k = ex f k := by
  induction k with
  | zero => rfl
  | succ k ih => show step _ _ = step _ _; rw [ih (by omega), join_left (by omega)]
theorem tot_join : tot (join f n g) (n + k) = tot f n + tot g k := by
  induction k with
  | zero => exact tot_left (Nat.le_refl _)
  | succ k ih =>
    show tot _ (n + k) + sz (join f n g (n + k)) = tot f n + (tot g k + sz _)
    rw [ih, join_right, Nat.add_assoc]
theorem good_join {wide : Bool} {m : Nat} (h : GoodT wide f n) (h2 : GoodT wide g m) : GoodT wide (join f n g) (n + m) := by
  intro i hi
  by_cases h3 : i < n
  · have := h i h3
    unfold Ok at *
    rw [join_left h3, tot_left (by omega)]
    exact this
  · obtain ⟨j, rfl⟩ : ∃ j, i = n + j := ⟨i - n, by omega⟩
    have := h2 j (by omega)
    unfold Ok at *
    rw [join_right, tot_join]
    exact ⟨this.1, by omega⟩
end
theorem grow_app (A B : List UInt8) (d n : Nat) (_h1 : 1 ≤ d) (h2 : d ≤ B.length) : grow (A ++ B) d n = A ++ grow B d n := by
  induction n with
  | zero => rfl
  | succ n ih =>
    rw [grow_succ, grow_succ, ih, List.append_assoc]
    congr 3
    rw [List.length_append, List.getD_eq_getElem?_getD, List.getD_eq_getElem?_getD, grow_len, List.getElem?_append_right (by omega)]
    congr 2
    omega
theorem ex_join {wide : Bool} {f g : Nat → Tok} {n m : Nat} (h : GoodT wide g m) (k : Nat) (hk : k ≤ m) : ex (join f n g) (n + k) = ex f n ++ ex g k := by
  induction k with
  | zero => rw [show n + 0 = n from rfl, ex_left (Nat.le_refl _)]; simp [ex]
  | succ k ih =>
    show step (ex _ (n + k)) (join f n g (n + k)) = ex f n ++ step (ex g k) (g k)
    rw [ih (by omega), join_right]
    obtain ⟨hm, hd⟩ := h k (by omega)
    unfold step
    split
    · rw [List.append_assoc]
    · next h0 =>
      rcases hm with hm | hm
      · exact absurd hm.1 h0
      · have := hm.2.2.2.1
        exact grow_app _ _ _ _ (by omega) (by rw [ex_len]; omega)

/-! ### what stands where -/
theorem lit_at (f : Nat → Tok) (k n : Nat) (hk : k < n) (h : (f k).len = 0) : tot f k < (ex f n).length ∧ (ex f n)[tot f k]? = some (f k).byte := by
  obtain ⟨r, hr⟩ := ex_pre f (k + 1) n hk
  have e : ex f (k + 1) = ex f k ++ [(f k).byte] := by show step _ _ = _; unfold step; rw [if_pos h]
  have hl := ex_len f k
  have h1 : (ex f n)[tot f k]? = some (f k).byte := by
    rw [hr, e, List.append_assoc, List.getElem?_append_right (by omega), hl, Nat.sub_self]
    rfl
  exact ⟨(List.getElem?_eq_some_iff.1 h1).1, h1⟩
theorem mat_at (f : Nat → Tok) (k n j : Nat) (hk : k < n) (h : (f k).len ≠ 0) (h1 : 1 ≤ (f k).dist) (h2 : (f k).dist ≤ (tot f k : Int)) (hj : (j : Int) < (f k).len) :
    tot f k + j < (ex f n).length ∧ (f k).dist.toNat ≤ tot f k + j ∧ (ex f n)[tot f k + j]? = (ex f n)[tot f k + j - (f k).dist.toNat]? := by
  obtain ⟨r, hr⟩ := ex_pre f (k + 1) n hk
  have e : ex f (k + 1) = grow (ex f k) (f k).dist.toNat (f k).len.toNat := by show step _ _ = _; unfold step; rw [if_neg h]
  rw [grow_copy] at e
  have hl := ex_len f k
  have hn := tot_mono f (k + 1) n hk
  have hs : tot f (k + 1) = tot f k + (f k).len.toNat := by show tot f k + sz _ = _; unfold sz; rw [if_neg h]
  refine ⟨by rw [ex_len]; omega, by omega, ?_⟩
  have hcl := copy_len (ex f k) (f k).dist.toNat (f k).len.toNat
  have c1 := copy_get (ex f k) (f k).dist.toNat (f k).len.toNat (by omega) (by omega) j (by omega)
  have a1 : (ex f n)[tot f k + j]? = (copy (ex f k) (f k).dist.toNat (f k).len.toNat)[j]? := by
    rw [hr, e, List.getElem?_append_left (by rw [List.length_append]; omega), List.getElem?_append_right (by omega)]
    congr 1; omega
  rw [a1, c1, hl]
  by_cases hjd : j < (f k).dist.toNat
  · rw [Nat.mod_eq_of_lt hjd, hr, e, List.append_assoc, List.getElem?_append_left (by omega)]
    congr 1; omega
  · have c2 := copy_get (ex f k) (f k).dist.toNat (f k).len.toNat (by omega) (by omega) (j - (f k).dist.toNat) (by omega)
    rw [hr, e, List.getElem?_append_left (by rw [List.length_append]; omega), List.getElem?_append_right (by omega),
      show tot f k + j - (f k).dist.toNat - (ex f k).length = j - (f k).dist.toNat from by omega, c2, hl, Nat.mod_eq_sub_mod (by omega)]
end LzMath
end

section
/-
  Tokens in memory; the document's May; a row of tokens that the call makes (LzA, LzB, LzR, LzD, LzF without package lz).
-/
namespace Go.Proofs.YtkaagenmkjkaeaaDoor.LzC
open Go.RowKit Go.My LzMath WinMath

/-- A token's three cells, and its value. -/
def tc (t : Tok) : Array Value := #[.int .i64 t.len, .int .i64 t.dist, .int .u8 (t.byte.toNat : Int)]
def Wf (t : Tok) : Prop := (-9223372036854775808 ≤ t.len ∧ t.len ≤ 9223372036854775807) ∧ -9223372036854775808 ≤ t.dist ∧ t.dist ≤ 9223372036854775807

theorem byte_cases (b : UInt8) : (b = 0 ∧ (b.toNat : Int) = 0) ∨ (b ≠ 0 ∧ ¬ (b.toNat : Int) = 0) := by
  by_cases h : b = 0
  · subst h; exact .inl ⟨rfl, rfl⟩
  · exact .inr ⟨h, fun e => h (by apply UInt8.toNat_inj.1; simp; omega)⟩
/-- The ways that a token goes that is no literal. -/
theorem may_ways {wide : Bool} {l d L D : Int} {b : UInt8} (hL : ml wide = L) (hD : (md wide : Int) = D) (hl : ¬ Lone ⟨l, d, b⟩) :
    (∃ k : Bool, (l == 0) = k ∧ (k = true → (d == 0) = false)) ∧ (((b.toNat : Int) == 0) = false ∧ decide (May wide ⟨l, d, b⟩) = false ∨ ((b.toNat : Int) == 0) = true ∧ (¬ 3 ≤ l ∧ decide (May wide ⟨l, d, b⟩) = false ∨ 3 ≤ l ∧ (¬ l ≤ L ∧ decide (May wide ⟨l, d, b⟩) = false ∨ l ≤ L ∧ (¬ 1 ≤ d ∧ decide (May wide ⟨l, d, b⟩) = false ∨ 1 ≤ d ∧ (¬ d ≤ D ∧ decide (May wide ⟨l, d, b⟩) = false ∨ d ≤ D ∧ decide (May wide ⟨l, d, b⟩) = true))))) := by
  have e : May wide ⟨l, d, b⟩ ↔ b = 0 ∧ 3 ≤ l ∧ l ≤ L ∧ 1 ≤ d ∧ d ≤ D := by
    rw [← hL, ← hD]; unfold May; simp only [hl, false_or]; rfl
  have hnl : ¬ (l = 0 ∧ d = 0) := hl
  refine ⟨⟨l == 0, rfl, fun h => ?_⟩, ?_⟩
  · simp only [beq_iff_eq] at h
    simp only [beq_eq_false_iff_ne]
    exact fun h2 => hnl ⟨h, h2⟩
  · simp only [decide_eq_false_iff_not, decide_eq_true_eq, e, beq_iff_eq, beq_eq_false_iff_ne]
    rcases byte_cases b with ⟨h1, h2⟩ | ⟨h1, h2⟩
    · refine .inr ⟨h2, ?_⟩
      by_cases h3 : 3 ≤ l
      · refine .inr ⟨h3, ?_⟩
        by_cases h4 : l ≤ L
        · refine .inr ⟨h4, ?_⟩
          by_cases h5 : 1 ≤ d
          · refine .inr ⟨h5, ?_⟩
            by_cases h6 : d ≤ D
            · exact .inr ⟨h6, h1, h3, h4, h5, h6⟩
            · exact .inl ⟨h6, fun h => h6 h.2.2.2.2⟩
          · exact .inl ⟨h5, fun h => h5 h.2.2.2.1⟩
        · exact .inl ⟨h4, fun h => h4 h.2.2.1⟩
      · exact .inl ⟨h3, fun h => h3 h.2.1⟩
    · exact .inl ⟨h2, fun h => h1 h.1⟩

set_option maxRecDepth 100000 in
set_option maxHeartbeats 4000000 in
theorem rmay_any (wide : Bool) (t : Tok) (w : World) : Calls Tryd.prog 29 #[.agg (tc t), .bool wide] w fun e w' => e = .returned (.bool (decide (May wide t))) ∧ Below w.heap.size w w' := by
  by_cases hl : Lone t
  · have HM : Hid (decide (May wide t) = true) := Lib.hid (by simp [May, hl])
    obtain ⟨l, d, b⟩ := t
    obtain ⟨rfl, rfl⟩ : l = 0 ∧ d = 0 := hl
    unfold tc
    dsimp only
    go_enter Tryd.func29, Tryd.ntmps29
    go_wp2_with fail
    go_ret
    exact ⟨by rw [HM.out]; rfl, (Below.refl _ _).alloc (Nat.le_refl _) _⟩
  · obtain ⟨l, d, b⟩ := t
    unfold tc
    dsimp only
    cases wide
    · obtain ⟨⟨k, hk, hkd⟩, hw⟩ := may_ways (L := 258) (D := 32768) (wide := false) rfl rfl hl
      clear hl
      rcases hw with ⟨q1, hm⟩ | ⟨q1, ⟨q2, hm⟩ | ⟨q2, ⟨q3, hm⟩ | ⟨q3, ⟨q4, hm⟩ | ⟨q4, ⟨q5, hm⟩ | ⟨q5, hm⟩⟩⟩⟩⟩ <;> cases k
      all_goals (try simp only [forall_const] at hkd)
      all_goals
        have HM := Lib.hid hm
        clear hm
        go_enter Tryd.func29, Tryd.ntmps29
        go_wp2_with fail
        go_ret
        exact ⟨by rw [HM.out]; first | rfl | simp_all, (Below.refl _ _).alloc (Nat.le_refl _) _⟩
    · obtain ⟨⟨k, hk, hkd⟩, hw⟩ := may_ways (L := 65538) (D := 65536) (wide := true) rfl rfl hl
      clear hl
      rcases hw with ⟨q1, hm⟩ | ⟨q1, ⟨q2, hm⟩ | ⟨q2, ⟨q3, hm⟩ | ⟨q3, ⟨q4, hm⟩ | ⟨q4, ⟨q5, hm⟩ | ⟨q5, hm⟩⟩⟩⟩⟩ <;> cases k
      all_goals (try simp only [forall_const] at hkd)
      all_goals
        have HM := Lib.hid hm
        clear hm
        go_enter Tryd.func29, Tryd.ntmps29
        go_wp2_with fail
        go_ret
        exact ⟨by rw [HM.out]; first | rfl | simp_all, (Below.refl _ _).alloc (Nat.le_refl _) _⟩

/-- Token number i of the slice that begins at (b, off). -/
structure TokAt (w : World) (b off i : Nat) (t : Tok) : Prop where
  len : w.cell? ⟨b, off + i * 3, none⟩ = some (.int .i64 t.len)
  dist : w.cell? ⟨b, off + i * 3 + 1, none⟩ = some (.int .i64 t.dist)
  byte : w.cell? ⟨b, off + i * 3 + 2, none⟩ = some (.int .u8 (t.byte.toNat : Int))
  lt : b < w.heap.size
  wf : Wf t
/-- A slice of tokens. -/
structure TokIn (w : World) (a : Option Addr) (len cap : Nat) (f : Nat → Tok) : Prop where
  le_cap : len ≤ cap
  cap_le : cap ≤ 9223372036854775807
  nil : a = none → len = 0 ∧ cap = 0
  at_ : len = 0 ∨ ∃ b off, a = some ⟨b, off, none⟩ ∧ ∀ i, i < len → TokAt w b off i (f i)
section
variable {w w' : World} {a : Option Addr} {b off i len cap B : Nat} {t : Tok} {f : Nat → Tok}
theorem TokAt.below (h : TokAt w b off i t) (hB : w.heap.size ≤ B) (hb : Below B w w') : TokAt w' b off i t := by
  have hc : ∀ k, w'.cell? ⟨b, k, none⟩ = w.cell? ⟨b, k, none⟩ := fun k => hb.cell (p := ⟨b, k, none⟩) (Nat.lt_of_lt_of_le h.lt hB)
  exact ⟨by rw [hc]; exact h.len, by rw [hc]; exact h.dist, by rw [hc]; exact h.byte, Nat.lt_of_lt_of_le h.lt hb.size, h.wf⟩
theorem TokIn.below (h : TokIn w a len cap f) (hB : w.heap.size ≤ B) (hb : Below B w w') : TokIn w' a len cap f := by
  refine ⟨h.le_cap, h.cap_le, h.nil, h.at_.imp_right ?_⟩
  rintro ⟨b, off, ha, hc⟩
  exact ⟨b, off, ha, fun i hi => (hc i hi).below hB hb⟩
theorem TokIn.get (h : TokIn w a len cap f) (hi : i < len) : ∃ b off, a = some ⟨b, off, none⟩ ∧ TokAt w b off i (f i) := by
  rcases h.at_ with h0 | ⟨b, off, ha, hc⟩
  · omega
  · exact ⟨b, off, ha, hc i hi⟩
end
theorem infoT : (Tryd.prog.info? 42).map (fun i => (i.zero, i.size, i.bytes)) = some (some (.agg #[.int .i64 0, .int .i64 0, .int .u8 0]), 3, 24) := by kernel_rfl

/-- The cells of n tokens. -/
def toks (f : Nat → Tok) : Nat → List Value
  | 0 => []
  | k + 1 => toks f k ++ [.int .i64 (f k).len, .int .i64 (f k).dist, .int .u8 ((f k).byte.toNat : Int)]
theorem toks_len (f : Nat → Tok) (n : Nat) : (toks f n).length = n * 3 := by
  induction n with
  | zero => rfl
  | succ n ih => show (toks f n ++ _).length = _; rw [List.length_append, ih]; simp; omega
theorem toks_get (f : Nat → Tok) (n i : Nat) (hi : i < n) : (toks f n)[i * 3]? = some (.int .i64 (f i).len) ∧ (toks f n)[i * 3 + 1]? = some (.int .i64 (f i).dist) ∧ (toks f n)[i * 3 + 2]? = some (.int .u8 ((f i).byte.toNat : Int)) := by
  induction n with
  | zero => omega
  | succ n ih =>
    have hl := toks_len f n
    show (toks f n ++ _)[i * 3]? = _ ∧ (toks f n ++ _)[i * 3 + 1]? = _ ∧ (toks f n ++ _)[i * 3 + 2]? = _
    by_cases h : i < n
    · rw [List.getElem?_append_left (by omega), List.getElem?_append_left (by omega), List.getElem?_append_left (by omega)]
      exact ih h
    · obtain rfl : i = n := by omega
      rw [List.getElem?_append_right (by omega), List.getElem?_append_right (by omega), List.getElem?_append_right (by omega), hl]
      rw [show i * 3 - i * 3 = 0 from by omega, show i * 3 + 1 - i * 3 = 1 from by omega, show i * 3 + 2 - i * 3 = 2 from by omega]
      exact ⟨rfl, rfl, rfl⟩
theorem toks_congr (f g : Nat → Tok) (n : Nat) (h : ∀ i, i < n → f i = g i) : toks f n = toks g n := by
  induction n with
  | zero => rfl
  | succ n ih => show toks f n ++ _ = toks g n ++ _; rw [ih (fun i hi => h i (by omega)), h n (by omega)]
theorem toks_join (f g : Nat → Tok) (n m : Nat) : toks (LzMath.join f n g) (n + m) = toks f n ++ toks g m := by
  induction m with
  | zero => show toks _ n = _ ++ []; rw [List.append_nil]; exact toks_congr _ _ _ (fun i hi => join_left hi)
  | succ m ih => show toks _ (n + m) ++ [.int .i64 (LzMath.join f n g (n + m)).len, .int .i64 (LzMath.join f n g (n + m)).dist, .int .u8 ((LzMath.join f n g (n + m)).byte.toNat : Int)] = _ ++ (toks g m ++ _); rw [ih, join_right, List.append_assoc]
theorem toks_one (f : Nat → Tok) (n : Nat) : ∀ u ∈ toks f n, u.oneCell' = true := by
  induction n with
  | zero => intro u hu; cases hu
  | succ n ih =>
    intro u hu
    rcases List.mem_append.1 hu with h | h
    · exact ih u h
    · simp only [List.mem_cons, List.not_mem_nil, or_false] at h
      rcases h with rfl | rfl | rfl <;> rfl

/-- A value that is a slice of n tokens of the call's own. -/
def OwnT (base : Nat) (w : World) (v : Value) (n : Nat) (f : Nat → Tok) : Prop := w.ownsRow base 42 3 v n (toks f n)
theorem OwnT.empty {base : Nat} (w : World) (f : Nat → Tok) (hb : base ≤ w.heap.size) : OwnT base (w.alloc (.cells #[] 42)) (.slice (some ⟨w.heap.size, 0, none⟩) 0 0) 0 f :=
  World.ownsRow_lit w #[] 0 hb (by unfold maxLen; omega) rfl
theorem OwnT.toks {base n : Nat} {w : World} {v : Value} {f : Nat → Tok} (h : OwnT base w v n f) (hw : ∀ i, i < n → Wf (f i)) : ∃ a c, v = .slice a n c ∧ TokIn w a n c f := by
  rcases h.2 with ⟨rfl, rfl⟩ | ⟨g, cap, cur, rfl, hg, hh, hn, hm, hs, ht⟩
  · exact ⟨none, 0, rfl, Nat.le_refl _, by omega, fun _ => ⟨rfl, rfl⟩, .inl rfl⟩
  · unfold maxLen at hm
    refine ⟨_, cap, rfl, hn, hm, (fun h => by cases h), .inr ⟨g, 0, rfl, fun i hi => ?_⟩⟩
    have hlt : g < w.heap.size := by
      by_cases hlt : g < w.heap.size
      · exact hlt
      · rw [Array.getElem?_eq_none (by omega)] at hh; cases hh
    have hc : ∀ j, j < n * 3 → w.cell? ⟨g, j, none⟩ = (LzC.toks f n)[j]? := fun j hj => by
      rw [cell_of_row _ _ _ _ _ _ hh, ← ht, List.getElem?_take, if_pos hj, Array.getElem?_toList]
    obtain ⟨h1, h2, h3⟩ := toks_get f n i hi
    exact ⟨by rw [Nat.zero_add, hc _ (by omega)]; exact h1, by rw [Nat.zero_add, hc _ (by omega)]; exact h2, by rw [Nat.zero_add, hc _ (by omega)]; exact h3, hlt, hw i hi⟩
theorem OwnT.grown {base n : Nat} {w0 w w' : World} {v : Value} {f : Nat → Tok} (hown : OwnT base w v n f) (h : Below base w0 w) (hg : w.grownBy w' v.ownBlock) (hb : base ≤ w.heap.size) : Below base w0 w' :=
  h.grown hg hb fun k hk => (World.ownsRow.lt hown k hk).1

/-- append(v, x...) of tokens. -/
theorem wp_append_toks {w : World} {o : Oper} {a : Act} {K : Act → World → Prop} {Q : Exit → Act → World → Prop} (s x : Operand)
    (ho : o.op = .call { callee := .builtin .append, args := #[s, x], argTypes := #[34, 34] }) (base : Nat)
    (v : Value) (n : Nat) (f : Nat → Tok) (hs : a.eval s = v) (hown : OwnT base w v n f) (ad : Option Addr) (m c : Nat) (g : Nat → Tok) (hx : a.eval x = .slice ad m c) (hb : TokIn w ad m c g)
    (hlen : n + m ≤ 1000000) (hbase : base ≤ w.heap.size)
    (h : ∀ v' w', OwnT base w' v' (n + m) (LzMath.join f n g) → w.grownBy w' v.ownBlock → K (a.put o.dst v') w') : o.wp Tryd.prog a w K Q := by
  obtain ⟨i, hi, hz0, hz1, hz2⟩ := info_parts infoT
  cases ad with
  | none =>
    obtain ⟨rfl, rfl⟩ := hb.nil rfl
    have hrun := run_append_owned_none (P := Tryd.prog) (w := w) base 34 o.type 42 i 3 Tryd.underlying34 hi v n (toks f n) hown
    unfold Oper.wp
    simp [execOp, ho, resolve, invoke, builtin, hs, hx, hrun, Result.andThen]
    refine h v w ?_ ⟨rfl, rfl, rfl, Nat.le_refl _, fun _ _ _ => rfl⟩
    unfold OwnT
    rw [toks_join, show toks g 0 = [] from rfl, List.append_nil]
    exact hown
  | some ad =>
    refine wp_append_own w s x 34 ho base 42 i _ 3 24 Tryd.underlying34 hi hz0 hz1 hz2 rfl (by decide) v n (toks f n) hs hown ad m c (toks g m) hx (toks_len g m) ?_ (toks_one g m) (by unfold maxLen; omega) (by omega) hbase ?_
    · intro j u hu
      have hj : j < m * 3 := by have := (List.getElem?_eq_some_iff.1 hu).1; rw [toks_len] at this; exact this
      rcases hb.at_ with h0 | ⟨b, off, hab, hc⟩
      · omega
      · simp only [Option.some.injEq] at hab
        subst hab
        obtain ⟨h1, h2, h3⟩ := toks_get g m (j / 3) (by omega)
        have ht := hc (j / 3) (by omega)
        rw [addr_add]
        have hr : j % 3 = 0 ∨ j % 3 = 1 ∨ j % 3 = 2 := by omega
        rcases hr with hr | hr | hr
        · rw [show j = j / 3 * 3 from by omega] at hu ⊢
          rw [ht.len, ← h1]; exact hu
        · rw [show j = j / 3 * 3 + 1 from by omega] at hu ⊢
          rw [← Nat.add_assoc, ht.dist, ← h2]; exact hu
        · rw [show j = j / 3 * 3 + 2 from by omega] at hu ⊢
          rw [← Nat.add_assoc, ht.byte, ← h3]; exact hu
    · intro v' w' h1 h2 _
      refine h v' w' ?_ h2
      unfold OwnT
      rw [toks_join]
      exact h1
theorem wpList_append_toks {w : World} {ops : Array Oper} {rest : List Oper} {o : Oper} {a : Act} {Q : Exit → Act → World → Prop} (hw : Region.wanted o (yielded ops a.tmps) = true) (s x : Operand)
    (ho : o.op = .call { callee := .builtin .append, args := #[s, x], argTypes := #[34, 34] }) (base : Nat)
    (v : Value) (n : Nat) (f : Nat → Tok) (hs : a.eval s = v) (hown : OwnT base w v n f) (ad : Option Addr) (m c : Nat) (g : Nat → Tok) (hx : a.eval x = .slice ad m c) (hb : TokIn w ad m c g)
    (hlen : n + m ≤ 1000000) (hbase : base ≤ w.heap.size)
    (h : ∀ v' w', OwnT base w' v' (n + m) (LzMath.join f n g) → w.grownBy w' v.ownBlock → wpList Tryd.prog ops Q rest (a.put o.dst v') w') : wpList Tryd.prog ops Q (o :: rest) a w :=
  wpList_of_wp hw fun _ hK => wp_append_toks s x ho base v n f hs hown ad m c g hx hb hlen hbase fun v' w' h1 h2 => hK _ _ (h v' w' h1 h2)
theorem md_ok (wide : Bool) : 0 < md wide ∧ md wide ≤ 65536 := by cases wide <;> simp [md]
theorem ml_ok (wide : Bool) : ml wide ≤ 65538 := by cases wide <;> simp [ml]
/-- A match's numbers. -/
theorem mat_nums {wide : Bool} {f : Nat → Tok} {k : Nat} (h : Ok wide f k) (h0 : (f k).len ≠ 0) :
    ∃ d n : Nat, f k = ⟨(n : Int), (d : Int), 0⟩ ∧ 3 ≤ n ∧ n ≤ 65538 ∧ 1 ≤ d ∧ d ≤ md wide ∧ d ≤ tot f k ∧ ex f (k + 1) = grow (ex f k) d n ∧ tot f (k + 1) = tot f k + n := by
  obtain ⟨hm, hd⟩ := h
  have hml := ml_ok wide
  rcases hm with hm | ⟨h1, h2, h3, h4, h5⟩
  · exact absurd hm.1 h0
  · have e : ex f (k + 1) = grow (ex f k) (f k).dist.toNat (f k).len.toNat := by show LzMath.step _ _ = _; unfold LzMath.step; rw [if_neg h0]
    have s : tot f (k + 1) = tot f k + (f k).len.toNat := by show tot f k + sz _ = _; unfold sz; rw [if_neg h0]
    generalize f k = t at *
    obtain ⟨l, d, b⟩ := t
    simp only at *
    obtain ⟨n, rfl⟩ := Int.eq_ofNat_of_zero_le (show 0 ≤ l by omega)
    obtain ⟨d, rfl⟩ := Int.eq_ofNat_of_zero_le (show 0 ≤ d by omega)
    subst h1
    simp only [Int.toNat_natCast] at e s
    exact ⟨d, n, rfl, by omega, by omega, by omega, by omega, by omega, e, s⟩
theorem lit_nums {wide : Bool} {f : Nat → Tok} {k : Nat} (h : Ok wide f k) (h0 : (f k).len = 0) : ∃ c : UInt8, f k = ⟨0, 0, c⟩ ∧ ex f (k + 1) = ex f k ++ [c] ∧ tot f (k + 1) = tot f k + 1 := by
  obtain ⟨hm, hd⟩ := h
  have e : ex f (k + 1) = ex f k ++ [(f k).byte] := by show LzMath.step _ _ = _; unfold LzMath.step; rw [if_pos h0]
  have s : tot f (k + 1) = tot f k + 1 := by show tot f k + sz _ = _; unfold sz; rw [if_pos h0]
  rcases hm with hm | hm
  · refine ⟨(f k).byte, ?_, e, s⟩
    obtain ⟨h1, h2⟩ := hm
    generalize f k = t at *
    obtain ⟨l, d, b⟩ := t
    simp only at h1 h2
    subst h1 h2
    rfl
  · have := hm.2.1
    omega

/-- A row of bytes of the call's own, and nothing elder turned. -/
structure Ro (w wr : World) (aa : Option Addr) (n ca : Nat) (L : List UInt8) : Prop where
  own : Own 5 w.heap.size wr (.slice aa n ca) L
  len : L.length = n
  below : Below w.heap.size w wr
section
variable {w wr w' : World} {aa a2 : Option Addr} {n ca c2 g : Nat} {L : List UInt8}
theorem Ro.later (h : Ro w wr aa n ca L) (hb : Below wr.heap.size wr w') : Ro w w' aa n ca L := ⟨h.own.below (Nat.le_refl _) hb, h.len, h.below.trans (hb.mono h.below.size)⟩
theorem Ro.app (h : Ro w wr aa n ca L) {o : Obj} {c : UInt8} (hown : Own 5 w.heap.size w' (.slice a2 (n + 1) c2) (L ++ [c])) (hg : (wr.alloc o).grownBy w' (Value.ownBlock (.slice aa n ca))) : Ro w w' a2 (n + 1) c2 (L ++ [c]) := by
  have hO : Only (fun k => Value.ownBlock (.slice aa n ca) = some k) wr w' := ((Only.refl _ wr).alloc o).grown hg (fun k _ hk => hk)
  exact ⟨hown, by rw [List.length_append, h.len]; rfl, h.below.trans (hO.below h.below.size (fun k hk => (World.ownsRow.lt h.own k hk).1))⟩
theorem Ro.blk (h : Ro w wr aa n ca L) {o : Obj} (hg : (wr.alloc o).grownBy w' (Value.ownBlock (.slice aa n ca))) {cs : Array Value} (hb : Blk wr g 42 cs) : Blk w' g 42 cs :=
  (hb.alloc o).grown hg (Ne.symm (own_len_ne h.own hb (by decide)))
theorem Ro.get (h : Ro w wr aa n ca L) (i : Nat) (hi : i < n) : ∃ ga, aa = some ⟨ga, 0, none⟩ ∧ wr.cell? ⟨ga, i, none⟩ = some (bv (L.getD i 0)) := by
  have hl := h.len
  obtain ⟨ga, c, h1, _⟩ := h.own.some_ (by omega)
  simp only [Value.slice.injEq] at h1
  obtain ⟨rfl, -, -⟩ := h1
  refine ⟨ga, rfl, ?_⟩
  rw [Go.My.own_cell h.own hl i (by omega), List.getD_eq_getElem?_getD, List.getElem?_eq_getElem (by omega)]
  rfl
end

end Go.Proofs.YtkaagenmkjkaeaaDoor.LzC
end

section
/-
  The document's own Expand of right tokens, with any limit.
-/
namespace Go.Proofs.YtkaagenmkjkaeaaDoor.LzC
open Go.RowKit Go.My LzMath WinMath

/-- What the document's Expand hands back of right tokens. -/
def RGood (f : Nat → Tok) (len most : Nat) (w : World) (e : Ending) (w' : World) : Prop :=
  Below w.heap.size w w' ∧ (tot f len ≤ most ∧ (∃ a c, e = .returned (.tuple #[.slice a (tot f len) c, .int .i64 0, .int .i64 0]) ∧ Own 5 w.heap.size w' (.slice a (tot f len) c) (ex f len)) ∨ most < tot f len ∧ ∃ k : Nat, e = .returned (.tuple #[.slice none 0 0, .int .i64 (k : Int), .int .i64 3]))

set_option maxRecDepth 100000 in
set_option maxHeartbeats 16000000 in
theorem rexpand_good (wide : Bool) (most : Nat) (hmost : most ≤ 1073741824) (a : Option Addr) (len c : Nat) (f : Nat → Tok) (w : World) (h : TokIn w a len c f) (hE : GoodT wide f len) (ht : tot f len ≤ 1000000) :
    Calls Tryd.prog 16 #[.slice a len c, .bool wide, .int .i64 (most : Int)] w (RGood f len most w) := by
  have H := Lib.hid h
  have hlc := h.le_cap
  have hcm := h.cap_le
  have HE := Lib.hid hE
  have H0 : Hid (Ro w w none (tot f 0) 0 (ex f 0)) := Lib.hid ⟨Own.nil _ _ _, rfl, Below.refl _ _⟩
  clear h hE
  go_enter Tryd.func16, Tryd.ntmps16
  go_wp2_with fail
  go_loopw [9, 10] (fun ov i wr => ∃ (k : Nat) (aa : Option Addr) (ca : Nat), k ≤ len ∧ tot f k ≤ most ∧ i = .int .i64 (k : Int) ∧ ov = .slice aa (tot f k) ca ∧ Hid (Ro w wr aa (tot f k) ca (ex f k))) (fun _ i _ => len - (intOf i).toNat)
  case atStart => exact ⟨0, none, 0, Nat.zero_le _, Nat.zero_le _, rfl, rfl, H0⟩
  case round =>
    clear H0
    obtain ⟨k, aa, ca, hk, hkm, rfl, rfl, HK⟩ := hrel
    by_cases hlt : k < len
    · obtain ⟨b, off, rfl, ho⟩ := (H.out.below (Nat.le_refl _) HK.out.below).get hlt
      obtain ⟨c0, c1, c2, hbl, wf⟩ := ho
      have hm := tot_mono f (k + 1) len hlt
      have hT1 : tot f (k + 1) ≤ 1000000 := by omega
      have hT0 : tot f k ≤ 1000000 := Nat.le_trans (tot_mono f k (k + 1) (by omega)) hT1
      have hel := ex_len f k
      obtain ⟨X, hX⟩ : ∃ X, X = wr.alloc (.cells (tc (f k)) 42) := ⟨_, rfl⟩
      have HBL : Hid (Blk X wr.heap.size 42 (tc (f k))) := Lib.hid (by rw [hX]; exact Blk.new wr _ _)
      have HX : Hid (Ro w X aa (tot f k) ca (ex f k)) := Lib.hid (by rw [hX]; exact HK.out.later ((Below.refl _ _).alloc (Nat.le_refl _) _))
      clear HK wf
      have hok := HE.out k hlt
      have HMY : Hid (decide (May wide (f k)) = true) := Lib.hid (by simpa using hok.1)
      by_cases h0 : (f k).len = 0
      · obtain ⟨ch, hfk, hex, htk⟩ := lit_nums hok h0
        have HFK := Lib.hid hfk
        have HEX := Lib.hid hex
        have HTK := Lib.hid htk
        rw [hfk] at c0 c1 c2 hX HBL
        unfold tc at hX HBL
        simp only at c0 c1 c2 hX HBL
        obtain ⟨N, hN⟩ : ∃ N, N = tot f k := ⟨_, rfl⟩
        rw [← hN] at HTK HX hel hT0 hkm ⊢
        have HEL := Lib.hid hel
        have HMO := Lib.hid hm
        clear h0 hfk hex htk hok hel hN hT1 hm
        go_upto_region 6 with (fail)
        rw [← hX]
        clear hX c0 c1 c2 hbl
        generalize wr.heap.size = g at *
        have x0 : X.cell? ⟨g, 0, none⟩ = some (.int .i64 0) := HBL.out.cell 0
        have x1 : X.cell? ⟨g, 1, none⟩ = some (.int .i64 0) := HBL.out.cell 1
        have x2 : X.cell? ⟨g, 2, none⟩ = some (.int .u8 (ch.toNat : Int)) := HBL.out.cell 2
        go_wp2_with fail
        refine (rmay_any wide ⟨0, 0, ch⟩ X).mono ?_
        rw [← HFK.out, HMY.out]
        rintro e w3 ⟨rfl, hb⟩
        have HB3 : Hid (Blk w3 g 42 #[.int .i64 0, .int .i64 0, .int .u8 (ch.toNat : Int)]) := Lib.hid (HBL.out.same (hb.block g HBL.out.lt))
        have H3 := Lib.hid (HX.out.later hb)
        clear x0 x1 x2 hb HBL HX
        have x0 : w3.cell? ⟨g, 0, none⟩ = some (.int .i64 0) := HB3.out.cell 0
        have x1 : w3.cell? ⟨g, 1, none⟩ = some (.int .i64 0) := HB3.out.cell 1
        have x2 : w3.cell? ⟨g, 2, none⟩ = some (.int .u8 (ch.toNat : Int)) := HB3.out.cell 2
        by_cases hov : N + 1 ≤ most
        · have hnb : ¬ ((most : Int) - (N : Int) < 1) := by omega
          have HOV := Lib.hid hov
          clear hov
          have hB : w.heap.size ≤ w3.heap.size := H3.out.below.size
          have ho3 : Own 5 w.heap.size (w3.alloc (.cells #[.int .u8 (ch.toNat : Int)] 5)) (.slice aa N ca) (ex f k) := (H3.out.later ((Below.refl _ _).alloc (Nat.le_refl _) _)).own
          have hb1 : Bytes (w3.alloc (.cells #[.int .u8 (ch.toNat : Int)] 5)) (some ⟨w3.heap.size, 0, none⟩) 1 1 [ch] := one_bytes 5 w3 ch
          have HO := Lib.hid ho3
          have HB1 := Lib.hid hb1
          clear ho3 hb1
          go_wp2_with (at_builtin; refine wpList_append_lie (by rfl) (.tmp 49) (.tmp 52) 26 (by rfl) w.heap.size 5 Tryd.underlying26 RefC.info5 (.slice aa N ca) (ex f k) (by rfl) HO.out (some ⟨w3.heap.size, 0, none⟩) 1 1 [ch] (by rfl) HB1.out (by rw [HEL.out]; omega) (by simp; omega) ?_)
          rw [HEL.out]
          intro a4 c4 w4 hown hgrow hnext
          have H4 : Hid (Ro w w4 a4 (tot f (k + 1)) c4 (ex f (k + 1))) := Lib.hid (by
            rw [HEX.out, HTK.out]
            exact H3.out.app hown hgrow)
          clear H3 HO HB1 HB3 x0 x1 x2 hown hgrow hnext
          go_wp2_with fail
          go_roundw
          case rel => exact ⟨k + 1, a4, c4, by omega, by rw [HTK.out]; exact HOV.out, by go_num, by rw [HTK.out], H4⟩
          case measure => simp [intOf]; omega
        · have hnb : (most : Int) - (N : Int) < 1 := by omega
          have HOV := Lib.hid hov
          clear hov
          go_wp2_with fail
          go_ret3
          exact ⟨H3.out.below, .inr ⟨by have := HMO.out; have := HTK.out; have := HOV.out; omega, k, rfl⟩⟩
      · obtain ⟨d, n, hfk, hn3, hn, hd1, hdS, hdN, hex, htk⟩ := mat_nums hok h0
        obtain ⟨ch, hch⟩ : ∃ ch : UInt8, ch = 0 := ⟨_, rfl⟩
        rw [← hch] at hfk
        have HFK := Lib.hid hfk
        have HEX := Lib.hid hex
        have HTK := Lib.hid htk
        rw [hfk] at c0 c1 c2 hX HBL
        unfold tc at hX HBL
        simp only at c0 c1 c2 hX HBL
        obtain ⟨N, hN⟩ : ∃ N, N = tot f k := ⟨_, rfl⟩
        rw [← hN] at HTK HX hel hT0 hdN hkm ⊢
        have HMO := Lib.hid hm
        have hNn : N + n ≤ 1000000 := by omega
        have HEL := Lib.hid hel
        have hn0 : ((n : Int) == 0) = false := by simp; omega
        have hdl : decide (N < d) = false := by simp; omega
        have hnm : ¬ (n : Int) < 1 := by omega
        clear h0 hfk hex htk hok hel hN hT1 hch hm
        go_upto_region 6 with (fail)
        rw [← hX]
        clear hX c0 c1 c2 hbl
        generalize wr.heap.size = g at *
        have x0 : X.cell? ⟨g, 0, none⟩ = some (.int .i64 (n : Int)) := HBL.out.cell 0
        have x1 : X.cell? ⟨g, 1, none⟩ = some (.int .i64 (d : Int)) := HBL.out.cell 1
        have x2 : X.cell? ⟨g, 2, none⟩ = some (.int .u8 (ch.toNat : Int)) := HBL.out.cell 2
        go_wp2_with fail
        refine (rmay_any wide ⟨n, d, ch⟩ X).mono ?_
        rw [← HFK.out, HMY.out]
        rintro e w3 ⟨rfl, hb⟩
        have HB3 : Hid (Blk w3 g 42 #[.int .i64 (n : Int), .int .i64 (d : Int), .int .u8 (ch.toNat : Int)]) := Lib.hid (HBL.out.same (hb.block g HBL.out.lt))
        have H3 := Lib.hid (HX.out.later hb)
        clear x0 x1 x2 hb HBL HX
        by_cases hov : N + n ≤ most
        · have hnb : decide ((most : Int) - (N : Int) < (n : Int)) = false := by simp; omega
          have HOV := Lib.hid hov
          clear hov
          have x0 : w3.cell? ⟨g, 0, none⟩ = some (.int .i64 (n : Int)) := HB3.out.cell 0
          have x1 : w3.cell? ⟨g, 1, none⟩ = some (.int .i64 (d : Int)) := HB3.out.cell 1
          go_wp2_with fail
          clear x0 x1
          go_loopw [9, 13] (fun ov j wr2 => ∃ (i : Nat) (a2 : Option Addr) (c2 : Nat), i ≤ n ∧ j = .int .i64 (i : Int) ∧ ov = .slice a2 (N + i) c2 ∧ Hid (Ro w wr2 a2 (N + i) c2 (grow (ex f k) d i)) ∧ Hid (Blk wr2 g 42 #[.int .i64 (n : Int), .int .i64 (d : Int), .int .u8 (ch.toNat : Int)])) (fun _ j _ => n - (intOf j).toNat)
          case atStart => exact ⟨0, aa, ca, Nat.zero_le _, rfl, rfl, H3, HB3⟩
          case round =>
            clear H3 HB3
            obtain ⟨i, a2, c2, hi, rfl, rfl, H3, HB3⟩ := hrel
            have x0 : wr.cell? ⟨g, 0, none⟩ = some (.int .i64 (n : Int)) := HB3.out.cell 0
            by_cases hin : i < n
            · have x1 : wr.cell? ⟨g, 1, none⟩ = some (.int .i64 (d : Int)) := HB3.out.cell 1
              have hgs := grow_succ (ex f k) d i
              have hgl := grow_len (ex f k) d i
              rw [HEL.out] at hgl
              obtain ⟨M, hM⟩ : ∃ M, M = N + i := ⟨_, rfl⟩
              rw [← hM] at H3 hgl ⊢
              obtain ⟨I, hI⟩ : ∃ I, I = M - d := ⟨_, rfl⟩
              rw [hgl, ← hI] at hgs
              obtain ⟨ga, rfl, hx⟩ := H3.out.get I (by omega)
              generalize (grow (ex f k) d i).getD I 0 = x at *
              unfold bv at hx
              have hIM : ((M : Nat) : Int) - (d : Int) = (I : Int) := by omega
              have hMb : M ≤ 1000000 := by omega
              have hdM : d ≤ M := by omega
              have hIM2 : I < M := by omega
              have HGS := Lib.hid hgs
              have HGL := Lib.hid hgl
              have HM := Lib.hid hM
              clear hgs hgl hI hM
              have hB : w.heap.size ≤ wr.heap.size := H3.out.below.size
              have ho3 : Own 5 w.heap.size (wr.alloc (.cells #[.int .u8 (x.toNat : Int)] 5)) (.slice (some ⟨ga, 0, none⟩) M c2) (grow (ex f k) d i) := (H3.out.later ((Below.refl _ _).alloc (Nat.le_refl _) _)).own
              have hb1 : Bytes (wr.alloc (.cells #[.int .u8 (x.toNat : Int)] 5)) (some ⟨wr.heap.size, 0, none⟩) 1 1 [x] := one_bytes 5 wr x
              have HO := Lib.hid ho3
              have HB1 := Lib.hid hb1
              clear ho3 hb1
              go_wp2_with (at_builtin; refine wpList_append_lie (by rfl) (.tmp 60) (.tmp 69) 26 (by rfl) w.heap.size 5 Tryd.underlying26 RefC.info5 (.slice (some ⟨ga, 0, none⟩) M c2) (grow (ex f k) d i) (by rfl) HO.out (some ⟨wr.heap.size, 0, none⟩) 1 1 [x] (by rfl) HB1.out (by rw [HGL.out]; omega) (by simp; omega) ?_)
              rw [HGL.out]
              intro a4 c4 w4 hown hgrow hnext
              have H4 : Hid (Ro w w4 a4 (N + (i + 1)) c4 (grow (ex f k) d (i + 1))) := Lib.hid (by
                rw [HGS.out, ← Nat.add_assoc, ← HM.out]
                exact H3.out.app hown hgrow)
              have HB4 := Lib.hid (H3.out.blk hgrow HB3.out)
              clear H3 HO HB1 HB3 x0 x1 hx hown hgrow hnext
              go_wp2_with fail
              go_roundw
              case rel => exact ⟨i + 1, a4, c4, by omega, by go_num, by rw [HM.out, Nat.add_assoc], H4, HB4⟩
              case measure => simp [intOf]; omega
            · obtain rfl : i = n := by omega
              have H4 : Hid (Ro w wr a2 (tot f (k + 1)) c2 (ex f (k + 1))) := Lib.hid (by rw [HEX.out, HTK.out]; exact H3.out)
              clear H3
              go_wp2_with fail
              go_roundw
              case rel => exact ⟨k + 1, a2, c2, by omega, by rw [HTK.out]; exact HOV.out, by go_num, by rw [HTK.out], H4⟩
              case measure => simp [intOf]; omega
        · have hnb : decide ((most : Int) - (N : Int) < (n : Int)) = true := by simp; omega
          have HOV := Lib.hid hov
          clear hov
          have x0 : w3.cell? ⟨g, 0, none⟩ = some (.int .i64 (n : Int)) := HB3.out.cell 0
          have x1 : w3.cell? ⟨g, 1, none⟩ = some (.int .i64 (d : Int)) := HB3.out.cell 1
          go_wp2_with fail
          go_ret3
          exact ⟨H3.out.below, .inr ⟨by have := HMO.out; have := HTK.out; have := HOV.out; omega, k, rfl⟩⟩
    · obtain rfl : k = len := by omega
      go_wp2_with fail
      go_ret3
      exact ⟨HK.out.below, .inl ⟨hkm, aa, ca, rfl, HK.out.own⟩⟩
end Go.Proofs.YtkaagenmkjkaeaaDoor.LzC
end

section
/-
  The document's own answer for bits (stevedoreref5): Put, Code alone (RefCode beside RefOwn, RefBy).
-/
namespace Go.Proofs.YtkaagenmkjkaeaaDoor.RefC
open Go.RowKit Go.My BitMath

theorem u32_bit (v k : Nat) (hv : v < 4294967296) : bits .and .u32 ((v : Int) / 2 ^ k) 1 = ((v / 2 ^ k % 2 : Nat) : Int) := by
  have e : (v : Int) / 2 ^ k = ((v / 2 ^ k : Nat) : Int) := by push_cast; rfl
  have hd := Nat.div_le_self v (2 ^ k)
  rw [e, show (1 : Int) = ((1 : Nat) : Int) from rfl, u32_and_nat _ _ (by omega) (by omega), Nat.and_one_is_mod]
theorem refput_no (v n : Int) (w : World) (h : n < 1 ∨ 32 < n) :
    Calls Tryd.prog 21 #[.int .u32 v, .int .i64 n] w fun e w' => e = .returned (.string ⟨#[]⟩) ∧ w = w' := by
  by_cases h1 : n < 1
  · go_enter Tryd.func21, Tryd.ntmps21
    go_wp2
    go_ret
    exact ⟨rfl, rfl⟩
  · have h8 : decide (n > 32) = true := by simp; omega
    go_enter Tryd.func21, Tryd.ntmps21
    go_wp2
    go_ret
    exact ⟨rfl, rfl⟩

theorem txt_snoc (l : List Bool) (b : Bool) (q : ByteArray) (h : q = ⟨#[chB b]⟩) : txt l ++ q = txt (l ++ [b]) := by
  subst h
  rw [← txt_append]; rfl

set_option maxHeartbeats 1000000 in
theorem refput_any (v n : Nat) (w : World) (h1 : 1 ≤ n) (hn : n ≤ 32) (hv : v < 4294967296) :
    Calls Tryd.prog 21 #[.int .u32 (v : Int), .int .i64 (n : Int)] w fun e w' => e = .returned (.string (txt (lows n v))) ∧ w = w' := by
  have d8 : decide ((n : Int) > 32) = false := by simp; omega
  have d1 : decide ((n : Int) < 1) = false := by simp; omega
  go_enter Tryd.func21, Tryd.ntmps21
  go_wp2
  clear d8 d1
  go_loop [5, 6] (fun s i => ∃ (k : Nat) (t : ByteArray), k ≤ n ∧ i = .int .i64 k ∧ s = .string t ∧ Hid (t = txt (lows k v))) (fun _ i => n - (intOf i).toNat)
  case atStart => exact ⟨0, _, Nat.zero_le _, rfl, rfl, Lib.hid rfl⟩
  case round =>
    obtain ⟨k, t, hk, rfl, rfl, HT⟩ := hrel
    by_cases hlt : k < n
    · have hsz : t.size ≤ 1000 := by rw [HT.out, txt_len, lows_len]; omega
      have hb := u32_bit v k hv
      have hs := lows_snoc k v
      rcases Nat.mod_two_eq_zero_or_one (v / 2 ^ k) with h0 | h0
      · rw [h0] at hb hs
        have HS := Lib.hid hs
        clear hs h0
        go_wp2
        go_round
        case rel => exact ⟨k + 1, _, by omega, by go_num, rfl, Lib.hid (by rw [HT.out, txt_snoc _ false _ (by rfl), HS.out]; rfl)⟩
        case measure => simp [intOf]; omega
      · rw [h0] at hb hs
        have HS := Lib.hid hs
        clear hs h0
        go_wp2
        go_round
        case rel => exact ⟨k + 1, _, by omega, by go_num, rfl, Lib.hid (by rw [HT.out, txt_snoc _ true _ (by rfl), HS.out]; rfl)⟩
        case measure => simp [intOf]; omega
    · obtain rfl : k = n := by omega
      go_wp2
      go_ret
      exact ⟨ret_str HT.out, rfl⟩

theorem txt_extract (l : List Bool) (i : Nat) (h : i < l.length) : (txt l).extract i (i + 1) = txt [l[i]] := by
  apply ByteArray.ext
  rw [ByteArray.data_extract]
  unfold txt
  apply Array.ext'
  simp [List.extract_eq_take_drop]
  rw [List.drop_eq_getElem_cons (by simpa using h)]
  simp

theorem refcode_no (v n : Int) (w : World) (h : n < 1 ∨ 32 < n) :
    Calls Tryd.prog 18 #[.int .u32 v, .int .i64 n] w fun e w' => e = .returned (.string ⟨#[]⟩) ∧ w = w' := by
  go_enter Tryd.func18, Tryd.ntmps18
  go_wp2_with fail
  refine (refput_no v n w h).mono ?_
  rintro e w' ⟨rfl, rfl⟩
  go_wp2_with fail
  go_loop [6, 7] (fun s i => s = .string ⟨#[]⟩ ∧ i = .int .i64 (-1)) (fun _ i => (intOf i).toNat)
  case atStart => exact ⟨rfl, rfl⟩
  case round =>
    obtain ⟨rfl, rfl⟩ := hrel
    go_wp2
    go_ret
    exact ⟨rfl, rfl⟩

theorem rev_drop (l : List Bool) (p : Nat) (h : p < l.length) : (l.drop p).reverse = (l.drop (p + 1)).reverse ++ [l[p]] := by
  rw [List.drop_eq_getElem_cons h, List.reverse_cons]

set_option maxHeartbeats 1000000 in
theorem refcode_any (v n : Nat) (w : World) (h1 : 1 ≤ n) (hn : n ≤ 32) (hv : v < 4294967296) :
    Calls Tryd.prog 18 #[.int .u32 (v : Int), .int .i64 (n : Int)] w fun e w' => e = .returned (.string (txt (lows n v).reverse)) ∧ w = w' := by
  go_enter Tryd.func18, Tryd.ntmps18
  go_wp2_with fail
  refine (refput_any v n w h1 hn hv).mono ?_
  rintro e w' ⟨rfl, rfl⟩
  obtain ⟨l, hl⟩ : ∃ l, l = lows n v := ⟨_, rfl⟩
  have hln : l.length = n := by rw [hl, lows_len]
  rw [← hl]
  have HLV := Lib.hid hl
  clear hl
  have HLN := Lib.hid hln
  have htl := txt_len l
  rw [hln] at htl
  have HTL := Lib.hid htl
  have hsz : (txt l).size ≤ 32 := by omega
  have hsz2 : n ≤ (txt l).size := by omega
  clear hln htl
  obtain ⟨s, hs⟩ : ∃ s, s = txt l := ⟨_, rfl⟩
  rw [← hs] at hsz hsz2 ⊢
  have HS : Hid (s = txt l) := Lib.hid hs
  have HN : Hid (s.size = n) := Lib.hid (by rw [hs]; exact HTL.out)
  clear hs
  go_wp2_with fail
  go_loop [6, 7] (fun s i => ∃ (p : Nat) (t : ByteArray), p ≤ n ∧ i = .int .i64 ((p : Int) - 1) ∧ s = .string t ∧ Hid (t = txt (l.drop p).reverse)) (fun _ i => (intOf i + 1).toNat)
  case atStart => exact ⟨n, _, Nat.le_refl _, by rw [HN.out], rfl, Lib.hid (by rw [List.drop_of_length_le (by rw [HLN.out]; omega)]; rfl)⟩
  case round =>
    obtain ⟨p, t, hp, rfl, rfl, HT⟩ := hrel
    by_cases hlt : 0 < p
    · obtain ⟨q, rfl⟩ : ∃ q, p = q + 1 := ⟨p - 1, by omega⟩
      have hts : t.size ≤ 1000 := by rw [HT.out, txt_len]; simp; have := HLN.out; omega
      go_wp2
      go_round
      case rel => exact ⟨q, _, by omega, rfl, rfl, Lib.hid (by rw [HT.out, HS.out, txt_extract l q (by have := HLN.out; omega), txt_append, rev_drop l q (by have := HLN.out; omega)])⟩
      case measure => simp [intOf]
    · obtain rfl : p = 0 := by omega
      go_wp2
      go_ret
      exact ⟨ret_str (by rw [HT.out, List.drop_zero, HLV.out]), rfl⟩

end Go.Proofs.YtkaagenmkjkaeaaDoor.RefC
end

section
/-
  inflate's machine over a block of fixed codes. No program, no dump.
-/
namespace InfMath
open BitMath CanMath TabMath WinMath

theorem sym_at {ls : List Nat} (hc : CodeOk ls) (i : Nat) (h : 1 ≤ ln ls i) (r : List Bool) : sym ls (bitsAt ls i ++ r) = (i, ln ls i, 0) := by
  have hi := ln_lt h
  have hlen : (bitsAt ls i).length = ln ls i := by rw [bitsAt_len ls i hi, ln_eq ls i hi]
  have h15 : ln ls i ≤ 15 := ln_le hc.all i
  have hx : Has ls (num ((bitsAt ls i ++ r).take 15)) i := by
    refine ⟨h, ?_⟩
    rw [num_mod_take, List.take_take, Nat.min_eq_left h15, take_ext (by omega), List.take_of_length_le (by omega), bitsAt_wd ls i hi, num_lows, Nat.mod_eq_of_lt (wd_lt ls i)]
  unfold sym
  rw [who_some hc.all hc.kr hx]
  simp only
  rw [if_neg (by omega), if_neg (by simp; omega)]
theorem fixL_len : fixL.length = 288 := by decide +kernel
theorem fixD_len : fixD.length = 32 := by decide +kernel
theorem fixL_ln : ∀ v : Fin 288, 1 ≤ ln fixL v.val := by decide +kernel
theorem fixD_ln : ∀ v : Fin 32, ln fixD v.val = 5 := by decide +kernel
/-- The fixed codes as the document writes them. -/
def fixCode (v : Nat) : Nat × Nat := if v < 144 then (8, 48 + v) else if v < 256 then (9, 400 + v - 144) else if v < 280 then (7, v - 256) else (8, 192 + v - 280)
theorem fixL_code : ∀ v : Fin 288, (ln fixL v.val, codeN fixL (ln fixL v.val) v.val) = fixCode v.val := by decide +kernel
theorem fixD_code : ∀ v : Fin 32, codeN fixD (ln fixD v.val) v.val = v.val := by decide +kernel
theorem fixL_bits (v : Nat) (h : v < 288) : bitsAt fixL v = (lows (fixCode v).1 (fixCode v).2).reverse := by
  have h1 := fixL_code ⟨v, h⟩
  simp only at h1
  have hl : v < fixL.length := by rw [fixL_len]; exact h
  rw [bitsAt_eq fixL v hl, ← h1, ln_eq fixL v hl]
theorem fixD_bits (v : Nat) (h : v < 32) : bitsAt fixD v = (lows 5 v).reverse := by
  have h1 := fixD_code ⟨v, h⟩
  have h2 := fixD_ln ⟨v, h⟩
  simp only at h1 h2
  have hl : v < fixD.length := by rw [fixD_len]; exact h
  rw [bitsAt_eq fixD v hl, ← ln_eq fixD v hl, h2]
  rw [h2] at h1
  rw [h1]

/-- The machine within a last block of fixed codes. -/
def fx (wide : Bool) (S most p : Nat) (b : List Bool) (o : List UInt8) (m : Nat) : M :=
  { start wide S most with bits := b, pushed := p, final := true, fixed := true, lit := some fixL, dist := some fixD, next := 9, hist := o, out := o, total := o.length, matching := m }
section
variable {wide : Bool} {S most : Nat}
theorem lit_step (p : Nat) (r : List Bool) (o : List UInt8) (m : Nat) (c : UInt8) (hm : o.length < most) :
    step (fx wide S most p (bitsAt fixL c.toNat ++ r) o m) = .more (fx wide S most p r (o ++ [c]) m) := by
  have hc := c.toNat_lt
  have h1 := fixL_ln ⟨c.toNat, by omega⟩
  have hs := sym_at fixL_ok c.toNat h1 r
  have hd : (bitsAt fixL c.toNat ++ r).drop (ln fixL c.toNat) = r := by
    rw [List.drop_append_of_le_length (by rw [bitsAt_len fixL _ (ln_lt h1), ln_eq fixL _ (ln_lt h1)]; exact Nat.le_refl _), List.drop_of_length_le (by rw [bitsAt_len fixL _ (ln_lt h1), ln_eq fixL _ (ln_lt h1)]; exact Nat.le_refl _), List.nil_append]
  show readLiteral (fx wide S most p (bitsAt fixL c.toNat ++ r) o m) = _
  unfold readLiteral fx
  simp only [Option.getD_some, hs]
  rw [if_neg (by decide)]
  unfold readLit
  rw [if_pos (by omega), if_neg (by simp [start]; omega)]
  simp only [put, hd, UInt8.ofNat_toNat, List.length_append, List.length_singleton]
theorem mat_steps (p : Nat) (r : List Bool) (o : List UInt8) (m : Nat) {a l x v b k y u : Nat} (ha : base a wide = some (l, x)) (hv : v < 2 ^ x) (hb : far b wide = some (k, y)) (hu : u < 2 ^ y) (hbl : b < 32)
    (hd : k + u ≤ min o.length S) (hm : o.length + (l + v) ≤ most) :
    Steps (fx wide S most p (bitsAt fixL a ++ (lows x v ++ (bitsAt fixD b ++ (lows y u ++ r)))) o m) (fx wide S most p r (grow o (k + u) (l + v)) (l + v)) := by
  have ha2 : 257 ≤ a ∧ a ≤ 285 := by
    unfold base at ha
    by_cases h : a < 257 ∨ 285 < a
    · rw [if_pos h] at ha; cases ha
    · omega
  have h1 := fixL_ln ⟨a, by omega⟩
  have hl1 : (bitsAt fixL a).length = ln fixL a := by rw [bitsAt_len fixL _ (ln_lt h1), ln_eq fixL _ (ln_lt h1)]
  have hs := sym_at fixL_ok a h1 (lows x v ++ (bitsAt fixD b ++ (lows y u ++ r)))
  have h2 := fixD_ln ⟨b, hbl⟩
  simp only at h1 h2
  have hl2 : (bitsAt fixD b).length = 5 := by rw [bitsAt_len fixD b (by rw [fixD_len]; exact hbl), ← ln_eq fixD b (by rw [fixD_len]; exact hbl), h2]
  have hs2 := sym_at fixD_ok b (by omega) (lows y u ++ r)
  rw [h2] at hs2
  have hlx := lows_len x v
  have hly := lows_len y u
  have s1 : step (fx wide S most p (bitsAt fixL a ++ (lows x v ++ (bitsAt fixD b ++ (lows y u ++ r)))) o m) = .more { fx wide S most p (bitsAt fixD b ++ (lows y u ++ r)) o (l + v) with next := 10 } := by
    show readLiteral (fx wide S most p _ o m) = _
    unfold readLiteral fx
    simp only [Option.getD_some, hs]
    rw [if_neg (by decide)]
    unfold readLit
    rw [if_neg (by omega), if_neg (by omega)]
    simp only [start, ha]
    rw [if_neg (by simp [hl1, hlx])]
    have e1 : ((bitsAt fixL a ++ (lows x v ++ (bitsAt fixD b ++ (lows y u ++ r)))).drop (ln fixL a)) = lows x v ++ (bitsAt fixD b ++ (lows y u ++ r)) := by
      rw [List.drop_append_of_le_length (by omega), List.drop_of_length_le (by omega), List.nil_append]
    have e2 : num ((lows x v ++ (bitsAt fixD b ++ (lows y u ++ r))).take x) = v := by
      rw [List.take_append_of_le_length (by omega), List.take_of_length_le (by omega), num_lows, Nat.mod_eq_of_lt hv]
    rw [← List.drop_drop, e1, e2, List.drop_append_of_le_length (by omega), List.drop_of_length_le (by omega), List.nil_append]
  have s2 : step { fx wide S most p (bitsAt fixD b ++ (lows y u ++ r)) o (l + v) with next := 10 } = .more (fx wide S most p r (grow o (k + u) (l + v)) (l + v)) := by
    show readDistance { fx wide S most p (bitsAt fixD b ++ (lows y u ++ r)) o (l + v) with next := 10 } = _
    unfold readDistance fx
    simp only [Option.getD_some, hs2, start]
    rw [if_neg (by omega), if_neg (by decide)]
    unfold readDist
    simp only [hb]
    rw [if_neg (by simp [hl2, hly])]
    have e1 : ((bitsAt fixD b ++ (lows y u ++ r)).drop 5) = lows y u ++ r := by
      rw [List.drop_append_of_le_length (by omega), List.drop_of_length_le (by omega), List.nil_append]
    have e2 : num ((lows y u ++ r).take y) = u := by
      rw [List.take_append_of_le_length (by omega), List.take_of_length_le (by omega), num_lows, Nat.mod_eq_of_lt hu]
    rw [e1, e2]
    unfold copied
    simp only
    rw [if_neg (by omega), ← List.drop_drop, e1, List.drop_append_of_le_length (by omega), List.drop_of_length_le (by omega), List.nil_append, ← grow_copy, grow_len]
  exact .cons s1 (.one s2)

/-- Bits that come to these bytes. -/
def Goes (wide : Bool) (S most : Nat) (B : List Bool) (o : List UInt8) : Prop := ∃ m, ∀ p r, Steps (fx wide S most p (B ++ r) [] 0) (fx wide S most p r o m)
theorem Goes.nil : Goes wide S most [] [] := ⟨0, fun _ _ => .refl _⟩
theorem Goes.lit {B : List Bool} {o : List UInt8} (h : Goes wide S most B o) (c : UInt8) (hm : o.length < most) : Goes wide S most (B ++ bitsAt fixL c.toNat) (o ++ [c]) := by
  obtain ⟨m, h⟩ := h
  refine ⟨m, fun p r => ?_⟩
  rw [List.append_assoc]
  exact (h p _).snoc (lit_step p r o m c hm)
theorem Goes.mat {B : List Bool} {o : List UInt8} (h : Goes wide S most B o) {a l x v b k y u : Nat} (ha : base a wide = some (l, x)) (hv : v < 2 ^ x) (hb : far b wide = some (k, y)) (hu : u < 2 ^ y) (hbl : b < 32)
    (hd : k + u ≤ min o.length S) (hm : o.length + (l + v) ≤ most) : Goes wide S most (B ++ (bitsAt fixL a ++ (lows x v ++ (bitsAt fixD b ++ lows y u)))) (grow o (k + u) (l + v)) := by
  obtain ⟨m, h⟩ := h
  refine ⟨l + v, fun p r => ?_⟩
  have := mat_steps (S := S) p r o m ha hv hb hu hbl hd hm
  simp only [List.append_assoc]
  exact (h p _).trans this
theorem Goes.ends {B : List Bool} {o : List UInt8} (h : Goes wide S most B o) (p : Nat) (z : List Bool) : ∃ t, Ends { start wide S most with bits := [true, true, false] ++ (B ++ (bitsAt fixL 256 ++ z)), pushed := p } t 0 ∧ t.out = o := by
  obtain ⟨m, h⟩ := h
  have s1 : step { start wide S most with bits := [true, true, false] ++ (B ++ (bitsAt fixL 256 ++ z)), pushed := p } = .more (fx wide S most p (B ++ (bitsAt fixL 256 ++ z)) [] 0) := by
    show opening _ = _
    unfold opening
    have e1 : num (([true, true, false] ++ (B ++ (bitsAt fixL 256 ++ z))).take 3) = 3 := rfl
    have e2 : ([true, true, false] ++ (B ++ (bitsAt fixL 256 ++ z))).drop 3 = B ++ (bitsAt fixL 256 ++ z) := rfl
    simp only [e1, e2]
    rw [if_neg (by simp), if_neg (by decide), if_pos (by decide)]
    rfl
  have hs := sym_at fixL_ok 256 (fixL_ln ⟨256, by omega⟩) z
  generalize ln fixL 256 = q at hs
  have s2 : step (fx wide S most p (bitsAt fixL 256 ++ z) o m) = .more { fx wide S most p ((bitsAt fixL 256 ++ z).drop q) o m with next := 11 } := by
    show readLiteral (fx wide S most p _ o m) = _
    unfold readLiteral fx
    simp only [Option.getD_some, hs]
    rw [if_neg (by decide)]
    unfold readLit close
    rw [if_neg (by decide), if_pos rfl]
    rfl
  exact ⟨_, ⟨(Steps.one s1).trans ((h p _).snoc s2), by unfold step; rfl⟩, rfl⟩
end
end InfMath
end

section
/-
  Law 12's tokens: right ones, out of any row of T.
-/
namespace Go.Proofs.YtkaagenmkjkaeaaDoor.LzC
open Go.RowKit Go.My LzMath WinMath

theorem good_more {wide : Bool} {f : Nat → Tok} {k : Nat} {t : Tok} (h : GoodT wide f k) (hm : May wide t) (hd : t.dist ≤ (tot f k : Int)) :
    GoodT wide (LzMath.join f k (fun _ => t)) (k + 1) ∧ tot (LzMath.join f k (fun _ => t)) (k + 1) = tot f k + sz t := by
  have e1 : LzMath.join f k (fun _ => t) (k + 0) = t := join_right
  rw [Nat.add_zero] at e1
  refine ⟨fun i hi => ?_, ?_⟩
  · by_cases h1 : i < k
    · have := h i h1
      unfold LzMath.Ok at *
      rw [join_left h1, tot_left (by omega)]
      exact this
    · obtain rfl : i = k := by omega
      unfold LzMath.Ok
      rw [e1, tot_left (Nat.le_refl _)]
      exact ⟨hm, hd⟩
  · show tot (LzMath.join f k (fun _ => t)) k + sz (LzMath.join f k (fun _ => t) k) = _
    rw [e1, tot_left (Nat.le_refl _)]
theorem ownT_below {base n : Nat} {w w' : World} {v : Value} {f : Nat → Tok} (h : OwnT base w v n f) (hb : Below w.heap.size w w') : OwnT base w' v n f := by
  refine h.kept (row := none) ⟨hb.os, hb.tape, hb.output, hb.size, fun k hk _ => hb.block k hk⟩ ?_
  by_cases hv : v.ownBlock = none
  · exact .inl hv
  · exact .inr hv
theorem one_tok (w : World) (t : Tok) (hw : Wf t) : TokIn (w.alloc (.cells (tc t) 42)) (some ⟨w.heap.size, 0, none⟩) 1 1 (fun _ => t) := by
  have hb := Blk.new w 42 (tc t)
  refine ⟨Nat.le_refl _, by omega, (fun h => by cases h), .inr ⟨_, _, rfl, fun i hi => ?_⟩⟩
  obtain rfl : i = 0 := by omega
  exact ⟨by rw [hb.cell]; rfl, by rw [hb.cell]; rfl, by rw [hb.cell]; rfl, by simp, hw⟩
theorem un_rem (z : Int) (m : Nat) (h : 0 < m) (h2 : m ≤ 1000000) : ∃ q : Nat, q < m ∧ wrap64 ((IntKind.u64.wrap z).tmod (m : Int)) = (q : Int) ∧ (IntKind.u64.wrap z).tmod (m : Int) = (q : Int) := by
  have h0 : 0 ≤ IntKind.u64.wrap z := by rw [IntKind.wrap_u64]; omega
  rw [Int.tmod_eq_emod_of_nonneg h0]
  have h1 := Int.emod_nonneg (IntKind.u64.wrap z) (show (m : Int) ≠ 0 by omega)
  have h3 := Int.emod_lt_of_pos (IntKind.u64.wrap z) (show (0 : Int) < m by omega)
  generalize IntKind.u64.wrap z % (m : Int) = r at *
  exact ⟨r.toNat, by omega, by rw [IntWalk.wrap64_in _ (by omega)]; omega, by omega⟩

theorem lay_L (z : Int) : ∃ L : Nat, 3 ≤ L ∧ L ≤ 258 ∧ wrap64 (3 + wrap64 ((IntKind.u64.wrap z).tmod 256)) = (L : Int) := by
  obtain ⟨q, h1, h2, -⟩ := un_rem z 256 (by omega) (by omega)
  have h2' : wrap64 ((IntKind.u64.wrap z).tmod 256) = (q : Int) := h2
  rw [h2']
  clear h2 h2'
  exact ⟨3 + q, by omega, by omega, by rw [IntWalk.wrap64_in _ (by omega)]; omega⟩
theorem lay_D (z : Int) (M N : Nat) (h1 : 1 ≤ M) (h2 : M ≤ N) (h3 : M ≤ 32768) : ∃ R D : Nat, 1 ≤ D ∧ D ≤ N ∧ D ≤ 32768 ∧ wrap64 ((IntKind.u64.wrap z).tmod (M : Int)) = (R : Int) ∧ (IntKind.u64.wrap z).tmod (M : Int) = (R : Int) ∧ wrap64 (1 + (R : Int)) = (D : Int) ∧ (1 : Int) + (R : Int) = (D : Int) := by
  obtain ⟨q, h4, h5, h6⟩ := un_rem z M (by omega) (by omega)
  refine ⟨q, 1 + q, ?_, ?_, ?_, h5, h6, ?_, ?_⟩
  all_goals clear h5 h6
  · omega
  · omega
  · omega
  · rw [IntWalk.wrap64_in _ (by omega)]; omega
  · omega

set_option maxRecDepth 100000 in
set_option maxHeartbeats 8000000 in
theorem tokens_any (a : Option Addr) (len c : Nat) (g : Nat → Tok) (w : World) (h : TokIn w a len c g) :
    Calls Tryd.prog 15 #[.slice a len c] w fun e w' => ∃ (f : Nat → Tok) (n : Nat) (a' : Option Addr) (c' : Nat), e = .returned (.slice a' n c') ∧ n ≤ 61 ∧ tot f n ≤ 258 * n ∧ GoodT false f n ∧ Hid (TokIn w' a' n c' f) ∧ Hid (Below w.heap.size w w') := by
  have H := Lib.hid h
  have hlc := h.le_cap
  have hcm := h.cap_le
  clear h
  go_enter Tryd.func15, Tryd.ntmps15
  go_wp2_with fail
  go_loopw [3, 4, 5] (fun ov hv iv wr => ∃ (k N : Nat) (f : Nat → Tok), k ≤ len ∧ k ≤ 61 ∧ N ≤ 258 * k ∧ iv = .int .i64 (k : Int) ∧ hv = .int .i64 (N : Int) ∧ Hid (N = tot f k ∧ GoodT false f k) ∧ Hid (∀ i, i < k → Wf (f i)) ∧ Hid (OwnT w.heap.size wr ov k f) ∧ Hid (Below w.heap.size w wr)) (fun _ _ iv _ => 61 - (intOf iv).toNat)
  case atStart => exact ⟨0, 0, fun _ => ⟨0, 0, 0⟩, Nat.zero_le _, by omega, by omega, rfl, rfl, Lib.hid ⟨rfl, good_zero _ _⟩, Lib.hid (fun i h => by omega), Lib.hid (World.ownsRow_nil _ _ _ _), Lib.hid (Below.refl _ _)⟩
  case round =>
    obtain ⟨k, N, f, hk, hk61, hN, rfl, rfl, HG, HW, HOw, HB⟩ := hrel
    by_cases hlt : k < len
    · by_cases hlt2 : k < 61
      · have hlt3 : (k : Int) < 61 := by omega
        obtain ⟨b, off, rfl, ho⟩ := (H.out.below (Nat.le_refl _) HB.out).get hlt
        obtain ⟨c0, c1, c2, hbl, wf⟩ := ho
        obtain ⟨t, ht⟩ : ∃ t, t = g k := ⟨_, rfl⟩
        rw [← ht] at c0 c1 c2 wf
        obtain ⟨X, hX⟩ : ∃ X, X = wr.alloc (.cells (tc t) 59) := ⟨_, rfl⟩
        have HBL : Hid (Blk X wr.heap.size 59 (tc t)) := Lib.hid (by rw [hX]; exact Blk.new wr _ _)
        have HBX : Hid (Below w.heap.size w X) := Lib.hid (by rw [hX]; exact HB.out.alloc HB.out.size _)
        have hb0 : Below wr.heap.size wr X := by rw [hX]; exact (Below.refl _ _).alloc (Nat.le_refl _) _
        have HO := HOw.out
        have HOX : Hid (OwnT w.heap.size X _ k f) := Lib.hid (ownT_below HO hb0)
        have HWF := Lib.hid wf
        unfold tc at hX
        clear ht hb0 HO HOw HB wf
        go_upto_region 7 with (fail)
        rw [← hX]
        clear hX c0 c1 c2 hbl
        generalize wr.heap.size = q at *
        have x0 : X.cell? ⟨q, 0, none⟩ = some (.int .i64 t.len) := HBL.out.cell 0
        have x1 : X.cell? ⟨q, 1, none⟩ = some (.int .i64 t.dist) := HBL.out.cell 1
        have x2 : X.cell? ⟨q, 2, none⟩ = some (.int .u8 (t.byte.toNat : Int)) := HBL.out.cell 2
        by_cases h0 : t.len = 0
        · have hl0 : (t.len == 0) = true := by simp [h0]
          clear h0
          have HMAY : Hid (May false (⟨0, 0, t.byte⟩ : Tok)) := Lib.hid (.inl ⟨rfl, rfl⟩)
          have HDI : Hid (((⟨0, 0, t.byte⟩ : Tok)).dist ≤ (N : Int)) := Lib.hid (by show (0 : Int) ≤ _; omega)
          have HWT : Hid (Wf (⟨0, 0, t.byte⟩ : Tok)) := Lib.hid ⟨⟨by show -9223372036854775808 ≤ (0 : Int); omega, by show (0 : Int) ≤ 9223372036854775807; omega⟩, by show -9223372036854775808 ≤ (0 : Int); omega, by show (0 : Int) ≤ 9223372036854775807; omega⟩
          have HOA := Lib.hid (ownT_below HOX.out ((Below.refl _ X).alloc (Nat.le_refl _) (.cells (tc (⟨0, 0, t.byte⟩ : Tok)) 42)))
          have HBA := Lib.hid (HBX.out.alloc HBX.out.size (.cells (tc (⟨0, 0, t.byte⟩ : Tok)) 42))
          go_wp2_with (at_builtin; refine wpList_append_toks (by rfl) (.tmp 29) (.tmp 33) (by rfl) w.heap.size _ k f (by rfl) HOA.out (some ⟨X.heap.size, 0, none⟩) 1 1 (fun _ => (⟨0, 0, t.byte⟩ : Tok)) (by rfl) (one_tok X (⟨0, 0, t.byte⟩ : Tok) HWT.out) (by omega) (by have := HBX.out.size; simp; omega) ?_)
          intro v2 w2 hown hg
          have HB2 := Lib.hid (HOA.out.grown HBA.out hg HBA.out.size)
          have hgm := good_more (t := (⟨0, 0, t.byte⟩ : Tok)) HG.out.2 HMAY.out (by rw [← HG.out.1]; exact HDI.out)
          rw [← HG.out.1] at hgm
          have HG2 := Lib.hid hgm
          have HW2 : Hid (∀ i, i < k + 1 → Wf (LzMath.join f k (fun _ => (⟨0, 0, t.byte⟩ : Tok)) i)) := Lib.hid (fun i hi => by
            by_cases h1 : i < k
            · rw [join_left h1]; exact HW.out i h1
            · obtain rfl : i = k := by omega
              have e1 : LzMath.join f i (fun _ => (⟨0, 0, t.byte⟩ : Tok)) (i + 0) = (⟨0, 0, t.byte⟩ : Tok) := join_right
              rw [Nat.add_zero] at e1
              rw [e1]; exact HWT.out)
          have HO2 := Lib.hid hown
          clear hown hg hgm HOA HBA HG HW HOX HBX HMAY HDI HWT
          go_wp2_with fail
          go_roundw
          case rel => exact ⟨k + 1, N + 1, LzMath.join f k (fun _ => (⟨0, 0, t.byte⟩ : Tok)), by omega, by omega, by omega, by go_num, by go_num, Lib.hid ⟨by rw [HG2.out.2]; rfl, HG2.out.1⟩, HW2, HO2, HB2⟩
          case measure => simp [intOf]; omega
        · have hl0 : (t.len == 0) = false := by simp [h0]
          clear h0
          by_cases hN0 : N = 0
          · have hn0 : ((N : Int) == 0) = true := by simp; omega
            clear hN0
            have HMAY : Hid (May false (⟨0, 0, t.byte⟩ : Tok)) := Lib.hid (.inl ⟨rfl, rfl⟩)
            have HDI : Hid (((⟨0, 0, t.byte⟩ : Tok)).dist ≤ (N : Int)) := Lib.hid (by show (0 : Int) ≤ _; omega)
            have HWT : Hid (Wf (⟨0, 0, t.byte⟩ : Tok)) := Lib.hid ⟨⟨by show -9223372036854775808 ≤ (0 : Int); omega, by show (0 : Int) ≤ 9223372036854775807; omega⟩, by show -9223372036854775808 ≤ (0 : Int); omega, by show (0 : Int) ≤ 9223372036854775807; omega⟩
            have HOA := Lib.hid (ownT_below HOX.out ((Below.refl _ X).alloc (Nat.le_refl _) (.cells (tc (⟨0, 0, t.byte⟩ : Tok)) 42)))
            have HBA := Lib.hid (HBX.out.alloc HBX.out.size (.cells (tc (⟨0, 0, t.byte⟩ : Tok)) 42))
            go_wp2_with (at_builtin; refine wpList_append_toks (by rfl) (.tmp 29) (.tmp 33) (by rfl) w.heap.size _ k f (by rfl) HOA.out (some ⟨X.heap.size, 0, none⟩) 1 1 (fun _ => (⟨0, 0, t.byte⟩ : Tok)) (by rfl) (one_tok X (⟨0, 0, t.byte⟩ : Tok) HWT.out) (by omega) (by have := HBX.out.size; simp; omega) ?_)
            intro v2 w2 hown hg
            have HB2 := Lib.hid (HOA.out.grown HBA.out hg HBA.out.size)
            have hgm := good_more (t := (⟨0, 0, t.byte⟩ : Tok)) HG.out.2 HMAY.out (by rw [← HG.out.1]; exact HDI.out)
            rw [← HG.out.1] at hgm
            have HG2 := Lib.hid hgm
            have HW2 : Hid (∀ i, i < k + 1 → Wf (LzMath.join f k (fun _ => (⟨0, 0, t.byte⟩ : Tok)) i)) := Lib.hid (fun i hi => by
              by_cases h1 : i < k
              · rw [join_left h1]; exact HW.out i h1
              · obtain rfl : i = k := by omega
                have e1 : LzMath.join f i (fun _ => (⟨0, 0, t.byte⟩ : Tok)) (i + 0) = (⟨0, 0, t.byte⟩ : Tok) := join_right
                rw [Nat.add_zero] at e1
                rw [e1]; exact HWT.out)
            have HO2 := Lib.hid hown
            clear hown hg hgm HOA HBA HG HW HOX HBX HMAY HDI HWT
            go_wp2_with fail
            go_roundw
            case rel => exact ⟨k + 1, N + 1, LzMath.join f k (fun _ => (⟨0, 0, t.byte⟩ : Tok)), by omega, by omega, by omega, by go_num, by go_num, Lib.hid ⟨by rw [HG2.out.2]; rfl, HG2.out.1⟩, HW2, HO2, HB2⟩
            case measure => simp [intOf]; omega
          · have hn0 : ((N : Int) == 0) = false := by simp; omega
            have hN1 : 1 ≤ N ∧ N ≤ 32768 := by omega
            have HL := Lib.hid (lay_L t.len)
            have HD := Lib.hid (lay_D t.dist N N hN1.1 (Nat.le_refl _) hN1.2)
            have hM64 : IntKind.u64.wrap (N : Int) = (N : Int) := IntWalk.u64_in _ (by omega)
            have hMz : ¬ N = 0 := by omega
            have HMM := Lib.hid (And.intro hM64 hMz)
            clear hM64 hMz hN1
            go_upto_region 11 with (fail)
            obtain ⟨L, hL2, hL3, eL⟩ := HL.out
            rw [eL]
            obtain ⟨R, D, hD1, hD2, hD3, hRD⟩ := HD.out
            have HRD := Lib.hid hRD
            clear eL hRD
            have HMAY : Hid (May false (⟨(L : Int), (D : Int), 0⟩ : Tok)) := Lib.hid (.inr ⟨rfl, by show (3 : Int) ≤ (L : Int); omega, by show (L : Int) ≤ 258; omega, by show (1 : Int) ≤ (D : Int); omega, by show (D : Int) ≤ ((32768 : Nat) : Int); omega⟩)
            have HDI : Hid ((⟨(L : Int), (D : Int), 0⟩ : Tok).dist ≤ (N : Int)) := Lib.hid (by show (D : Int) ≤ _; omega)
            have HWT : Hid (Wf (⟨(L : Int), (D : Int), 0⟩ : Tok)) := Lib.hid ⟨⟨by show -9223372036854775808 ≤ (L : Int); omega, by show (L : Int) ≤ 9223372036854775807; omega⟩, by show -9223372036854775808 ≤ (D : Int); omega, by show (D : Int) ≤ 9223372036854775807; omega⟩
            have HSZ : Hid (sz (⟨(L : Int), (D : Int), 0⟩ : Tok) = L) := Lib.hid (by unfold sz; simp only; rw [if_neg (by omega)]; omega)
            have HOA := Lib.hid (ownT_below HOX.out ((Below.refl _ X).alloc (Nat.le_refl _) (.cells (tc (⟨(L : Int), (D : Int), 0⟩ : Tok)) 42)))
            have HBA := Lib.hid (HBX.out.alloc HBX.out.size (.cells (tc (⟨(L : Int), (D : Int), 0⟩ : Tok)) 42))
            clear hn0
            obtain ⟨eR, eR2, eD, eD2⟩ := HRD.out
            obtain ⟨hM64, hMz⟩ := HMM.out
            go_wp2_with (at_builtin; refine wpList_append_toks (by rfl) (.tmp 43) (.tmp 55) (by rfl) w.heap.size _ k f (by rfl) HOA.out (some ⟨X.heap.size, 0, none⟩) 1 1 (fun _ => (⟨(L : Int), (D : Int), 0⟩ : Tok)) (by rfl) (one_tok X (⟨(L : Int), (D : Int), 0⟩ : Tok) HWT.out) (by omega) (by have := HBX.out.size; simp; omega) ?_)
            intro v2 w2 hown hg
            clear eR eR2 eD eD2 hM64 hMz
            have HB2 := Lib.hid (HOA.out.grown HBA.out hg HBA.out.size)
            have hgm := good_more (t := (⟨(L : Int), (D : Int), 0⟩ : Tok)) HG.out.2 HMAY.out (by rw [← HG.out.1]; exact HDI.out)
            rw [← HG.out.1] at hgm
            have HG2 := Lib.hid hgm
            have HW2 : Hid (∀ i, i < k + 1 → Wf (LzMath.join f k (fun _ => (⟨(L : Int), (D : Int), 0⟩ : Tok)) i)) := Lib.hid (fun i hi => by
              by_cases h1 : i < k
              · rw [join_left h1]; exact HW.out i h1
              · obtain rfl : i = k := by omega
                have e1 : LzMath.join f i (fun _ => (⟨(L : Int), (D : Int), 0⟩ : Tok)) (i + 0) = (⟨(L : Int), (D : Int), 0⟩ : Tok) := join_right
                rw [Nat.add_zero] at e1
                rw [e1]; exact HWT.out)
            have HO2 := Lib.hid hown
            clear hown hg hgm HOA HBA HG HW HOX HBX HMAY HDI HWT
            go_wp2_with fail
            go_roundw
            case rel => exact ⟨k + 1, N + L, LzMath.join f k (fun _ => (⟨(L : Int), (D : Int), 0⟩ : Tok)), by omega, by omega, by omega, by go_num, by go_num, Lib.hid ⟨by rw [HG2.out.2, HSZ.out], HG2.out.1⟩, HW2, HO2, HB2⟩
            case measure => simp [intOf]; omega
      · obtain rfl : k = 61 := by omega
        go_wp2_with fail
        obtain ⟨a', c', rfl, hin⟩ := OwnT.toks HOw.out HW.out
        go_ret
        exact ⟨f, 61, a', c', rfl, by omega, by rw [← HG.out.1]; exact hN, HG.out.2, Lib.hid hin, HB⟩
    · obtain rfl : k = len := by omega
      go_wp2_with fail
      obtain ⟨a', c', rfl, hin⟩ := OwnT.toks HOw.out HW.out
      go_ret
      exact ⟨f, k, a', c', rfl, hk61, by rw [← HG.out.1]; exact hN, HG.out.2, Lib.hid hin, HB⟩
end Go.Proofs.YtkaagenmkjkaeaaDoor.LzC
end

section
/-
  InflateFixed's code: a symbol's fixed code as a text of bits.
-/
namespace Go.Proofs.YtkaagenmkjkaeaaDoor.InfC
open Go.RowKit Go.My BitMath CanMath TabMath WinMath RefC

set_option maxRecDepth 100000 in
set_option maxHeartbeats 2000000 in
theorem code_any (v : Nat) (h : v < 288) (w : World) : Calls Tryd.prog 17 #[.int .i64 (v : Int)] w fun e w' => e = .returned (.string (txt (bitsAt InfMath.fixL v))) ∧ w = w' := by
  have hb := InfMath.fixL_bits v h
  unfold InfMath.fixCode at hb
  rw [hb]
  clear hb
  by_cases h1 : v < 144
  · rw [if_pos h1]
    obtain ⟨m, hm⟩ : ∃ m, m = 48 + v := ⟨_, rfl⟩
    have hI : (48 : Int) + (v : Int) = (m : Int) := by omega
    have hm2 : m < 4294967296 := by omega
    rw [← hm]
    have HQ := Lib.hid (refcode_any m 8 w (by omega) (by omega) hm2)
    clear hm
    go_enter Tryd.func17, Tryd.ntmps17
    go_wp2_with fail
    refine HQ.out.mono ?_
    rintro e w' ⟨rfl, rfl⟩
    go_wp2_with fail
    go_ret
    exact ⟨rfl, rfl⟩
  · rw [if_neg h1]
    by_cases h2 : v < 256
    · rw [if_pos h2]
      obtain ⟨m, hm⟩ : ∃ m, m = 400 + v - 144 := ⟨_, rfl⟩
      have hI : (400 : Int) + (v : Int) - 144 = (m : Int) := by omega
      have hm2 : m < 4294967296 := by omega
      rw [← hm]
      have HQ := Lib.hid (refcode_any m 9 w (by omega) (by omega) hm2)
      clear hm
      go_enter Tryd.func17, Tryd.ntmps17
      go_wp2_with fail
      refine HQ.out.mono ?_
      rintro e w' ⟨rfl, rfl⟩
      go_wp2_with fail
      go_ret
      exact ⟨rfl, rfl⟩
    · rw [if_neg h2]
      by_cases h3 : v < 280
      · rw [if_pos h3]
        obtain ⟨m, hm⟩ : ∃ m, m = v - 256 := ⟨_, rfl⟩
        have hI : (v : Int) - 256 = (m : Int) := by omega
        have hm2 : m < 4294967296 := by omega
        rw [← hm]
        have HQ := Lib.hid (refcode_any m 7 w (by omega) (by omega) hm2)
        clear hm
        go_enter Tryd.func17, Tryd.ntmps17
        go_wp2_with fail
        refine HQ.out.mono ?_
        rintro e w' ⟨rfl, rfl⟩
        go_wp2_with fail
        go_ret
        exact ⟨rfl, rfl⟩
      · rw [if_neg h3]
        obtain ⟨m, hm⟩ : ∃ m, m = 192 + v - 280 := ⟨_, rfl⟩
        have hI : (192 : Int) + (v : Int) - 280 = (m : Int) := by omega
        have hm2 : m < 4294967296 := by omega
        rw [← hm]
        have HQ := Lib.hid (refcode_any m 8 w (by omega) (by omega) hm2)
        clear hm
        go_enter Tryd.func17, Tryd.ntmps17
        go_wp2_with fail
        refine HQ.out.mono ?_
        rintro e w' ⟨rfl, rfl⟩
        go_wp2_with fail
        go_ret
        exact ⟨rfl, rfl⟩
end Go.Proofs.YtkaagenmkjkaeaaDoor.InfC
end

section
/-
  The document's symbols of short lengths and of distances (stevedoreref13.Symbol, Reach).
-/
namespace Go.Proofs.YtkaagenmkjkaeaaDoor.InfC
open Go.RowKit Go.My BitMath CanMath TabMath WinMath FeedC TabC CanC

def lenL (s : Nat) : Nat := if s < 265 then s - 254 else 3 + (4 + (s - 265) % 4) * 2 ^ ((s - 265) / 4 + 1)
def lenX (s : Nat) : Nat := if s < 265 then 0 else (s - 265) / 4 + 1
theorem len_base (s : Nat) (h1 : 257 ≤ s) (h2 : s ≤ 284) (wide : Bool) : InfMath.base s wide = some (lenL s, lenX s) := by
  unfold InfMath.base lenL lenX
  rw [if_neg (by omega)]
  by_cases h : s < 265
  · rw [if_pos h, if_pos h, if_pos h]
  · rw [if_neg h, if_neg h, if_neg h, if_pos (by omega)]
theorem len_next : ∀ s : Fin 284, 257 ≤ s.val → lenL (s.val + 1) = lenL s.val + 2 ^ lenX s.val := by decide +kernel
theorem len_small : ∀ s : Fin 285, lenX s.val ≤ 5 := by decide +kernel
theorem len_last : lenL 284 + 2 ^ lenX 284 = 259 := by decide
def farL (s : Nat) : Nat := if s < 4 then 1 + s else 1 + (2 + s % 2) * 2 ^ (s / 2 - 1)
def farX (s : Nat) : Nat := if s < 4 then 0 else s / 2 - 1
theorem far_base (s : Nat) (h2 : s ≤ 29) (wide : Bool) : InfMath.far s wide = some (farL s, farX s) := by
  unfold InfMath.far farL farX
  rw [if_neg (by unfold InfMath.lastD; cases wide <;> simp <;> omega)]
  by_cases h : s < 4
  · rw [if_pos h, if_pos h, if_pos h]
  · rw [if_neg h, if_neg h, if_neg h]
theorem far_next : ∀ s : Fin 29, farL (s.val + 1) = farL s.val + 2 ^ farX s.val := by decide +kernel
theorem far_small : ∀ s : Fin 30, farX s.val ≤ 13 := by decide +kernel
theorem far_last : farL 29 + 2 ^ farX 29 = 32769 := by decide
theorem pow_le13 {x : Nat} (h : x ≤ 13) : 2 ^ x ≤ 8192 := by
  have := Nat.pow_le_pow_right (n := 2) (by omega) h
  simpa using this
theorem two_pow64 {X : Nat} (h : 2 ^ X ≤ 65536) : wrap64 ((2 : Int) ^ X) = ((2 ^ X : Nat) : Int) := by
  have e : ((2 : Int) ^ X) = ((2 ^ X : Nat) : Int) := by push_cast; rfl
  rw [e]
  generalize 2 ^ X = P at *
  exact IntWalk.wrap64_in _ (by omega)

set_option maxRecDepth 100000 in
set_option maxHeartbeats 2000000 in
theorem rsymbol_any (n : Nat) (wide : Bool) (w : World) (h1 : 3 ≤ n) (h2 : n ≤ 258) :
    Calls Tryd.prog 19 #[.int .i64 (n : Int), .bool wide] w fun e w' => (∃ a l x v : Nat, e = .returned (.tuple #[.int .i64 (a : Int), .int .i64 (x : Int), .int .i64 (v : Int)]) ∧ InfMath.base a wide = some (l, x) ∧ v < 2 ^ x ∧ l + v = n ∧ a ≤ 285 ∧ x ≤ 16) ∧ w = w' := by
  by_cases hs : n = 258 ∧ wide = false
  · obtain ⟨rfl, rfl⟩ := hs
    go_enter Tryd.func19, Tryd.ntmps19
    go_wp2_with fail
    go_ret3
    exact ⟨⟨285, 258, 0, 0, rfl, by decide, by decide, by decide, by decide, by decide⟩, rfl⟩
  · obtain ⟨N, hN⟩ : ∃ N : Int, N = (n : Int) := ⟨_, rfl⟩
    have hb : (N == 258) = true ∧ (!wide) = false ∨ (N == 258) = false := by
      by_cases h : n = 258
      · left
        refine ⟨by simp; omega, ?_⟩
        cases wide
        · exact absurd ⟨h, rfl⟩ hs
        · rfl
      · right; simp; omega
    rw [← hN]
    have d1 : ¬ N < 3 := by omega
    have d2 : ¬ 65538 < N := by omega
    have d3 : ¬ 258 < N := by omega
    have HN := Lib.hid hN
    clear hN hs
    rcases hb with ⟨d4, d5⟩ | d4
    all_goals
      go_enter Tryd.func19, Tryd.ntmps19
      go_wp2_with fail
      clear d1 d2 d3 d4
      go_loop [7] (fun kv => ∃ k : Nat, 257 ≤ k ∧ k ≤ 284 ∧ kv = .int .i64 (k : Int) ∧ Hid (lenL k ≤ n)) (fun kv => 285 - (intOf kv).toNat)
      case atStart => exact ⟨257, by omega, by omega, rfl, Lib.hid (Nat.le_trans (show lenL 257 ≤ 3 by decide) h1)⟩
      case round =>
        obtain ⟨k, hk1, hk2, rfl, HL⟩ := hrel
        have hbs := len_base k hk1 hk2 wide
        have hx5 := len_small ⟨k, by omega⟩
        simp only at hx5
        obtain ⟨L, hL⟩ : ∃ L, L = lenL k := ⟨_, rfl⟩
        obtain ⟨X, hX⟩ : ∃ X, X = lenX k := ⟨_, rfl⟩
        rw [← hL, ← hX] at hbs
        rw [← hL] at HL
        rw [← hX] at hx5
        have HLX := Lib.hid (And.intro hL hX)
        have HBS := Lib.hid hbs
        have hLn := HL.out
        clear hL hX hbs
        go_wp2_with fail
        refine (rbase_any (k : Int) wide w).mono ?_
        rw [baseZ_nat, HBS.out]
        rintro e w' ⟨rfl, rfl⟩
        unfold ansB
        dsimp only
        have hnl : (L : Int) ≤ N := by have := HN.out; omega
        have h64 : IntKind.u64.wrap (X : Int) = (X : Int) := IntWalk.u64_in _ (by omega)
        obtain ⟨V, hV, e1⟩ : ∃ V : Nat, L + V = n ∧ wrap64 (N - (L : Int)) = (V : Int) := ⟨n - L, by omega, by rw [IntWalk.wrap64_in _ (by have := HN.out; omega)]; have := HN.out; omega⟩
        have hp32 : 2 ^ X ≤ 32 := by have := Nat.pow_le_pow_right (n := 2) (by omega) hx5; simpa using this
        obtain ⟨P, hP, e2⟩ : ∃ P : Nat, P = 2 ^ X ∧ wrap64 ((2 : Int) ^ X) = (P : Int) := ⟨2 ^ X, rfl, two_pow64 (by omega)⟩
        have HP := Lib.hid (And.intro hP hV)
        have hnI : N - (L : Int) = (V : Int) := by have := HN.out; omega
        clear hP hp32 hLn HL
        by_cases hf : V < P
        · go_wp2_with fail
          go_ret3
          exact ⟨⟨k, L, X, V, rfl, HBS.out, by rw [← HP.out.1]; exact hf, HP.out.2, by omega, by omega⟩, rfl⟩
        · have HF := Lib.hid hf
          go_wp2_with fail
          have hn1 : k < 284 ∧ lenL (k + 1) ≤ n := by
            obtain ⟨h3, h4⟩ := HLX.out
            obtain ⟨h5, h6⟩ := HP.out
            have h7 := HF.out
            have hk : k ≠ 284 := fun e => by
              have := len_last
              rw [← e, ← h3, ← h4, ← h5] at this
              omega
            have hlt : k < 284 := by omega
            have := len_next ⟨k, hlt⟩ hk1
            simp only at this
            rw [this, ← h3, ← h4, ← h5]
            omega
          refine ⟨⟨k + 1, by omega, by omega, by go_num, Lib.hid hn1.2⟩, ?_⟩
          simp [intOf]; omega

set_option maxRecDepth 100000 in
set_option maxHeartbeats 2000000 in
theorem rreach_any (n : Nat) (wide : Bool) (w : World) (h1 : 1 ≤ n) (h2 : n ≤ 32768) :
    Calls Tryd.prog 20 #[.int .i64 (n : Int), .bool wide] w fun e w' => (∃ a l x v : Nat, e = .returned (.tuple #[.int .i64 (a : Int), .int .i64 (x : Int), .int .i64 (v : Int)]) ∧ InfMath.far a wide = some (l, x) ∧ v < 2 ^ x ∧ l + v = n ∧ a ≤ 29 ∧ x ≤ 13) ∧ w = w' := by
  obtain ⟨N, hN⟩ : ∃ N : Int, N = (n : Int) := ⟨_, rfl⟩
  rw [← hN]
  have HN := Lib.hid hN
  clear hN
  go_enter Tryd.func20, Tryd.ntmps20
  go_wp2_with fail
  go_loop [7] (fun kv => ∃ k : Nat, k ≤ 29 ∧ kv = .int .i64 (k : Int) ∧ Hid (farL k ≤ n)) (fun kv => 32 - (intOf kv).toNat)
  case atStart => exact ⟨0, by omega, rfl, Lib.hid h1⟩
  case round =>
    obtain ⟨k, hk2, rfl, HL⟩ := hrel
    have hbs := far_base k hk2 wide
    have hx5 := far_small ⟨k, by omega⟩
    simp only at hx5
    obtain ⟨L, hL⟩ : ∃ L, L = farL k := ⟨_, rfl⟩
    obtain ⟨X, hX⟩ : ∃ X, X = farX k := ⟨_, rfl⟩
    rw [← hL, ← hX] at hbs
    rw [← hL] at HL
    rw [← hX] at hx5
    have HLX := Lib.hid (And.intro hL hX)
    have HBS := Lib.hid hbs
    have hLn := HL.out
    clear hL hX hbs
    go_wp2_with fail
    refine (rfar_any (k : Int) wide w).mono ?_
    rw [farZ_nat, HBS.out]
    rintro e w' ⟨rfl, rfl⟩
    unfold ansB
    dsimp only
    have hnl : (L : Int) ≤ N := by have := HN.out; omega
    have h64 : IntKind.u64.wrap (X : Int) = (X : Int) := IntWalk.u64_in _ (by omega)
    obtain ⟨V, hV, e1⟩ : ∃ V : Nat, L + V = n ∧ wrap64 (N - (L : Int)) = (V : Int) := ⟨n - L, by omega, by rw [IntWalk.wrap64_in _ (by have := HN.out; omega)]; have := HN.out; omega⟩
    have hp32 := pow_le13 hx5
    obtain ⟨P, hP, e2⟩ : ∃ P : Nat, P = 2 ^ X ∧ wrap64 ((2 : Int) ^ X) = (P : Int) := ⟨2 ^ X, rfl, two_pow64 (by omega)⟩
    have HP := Lib.hid (And.intro hP hV)
    have hnI : N - (L : Int) = (V : Int) := by have := HN.out; omega
    clear hP hp32 hLn HL
    by_cases hf : V < P
    · go_wp2_with fail
      go_ret3
      exact ⟨⟨k, L, X, V, rfl, HBS.out, by rw [← HP.out.1]; exact hf, HP.out.2, by omega, by omega⟩, rfl⟩
    · have HF := Lib.hid hf
      go_wp2_with fail
      have hn1 : k < 29 ∧ farL (k + 1) ≤ n := by
        obtain ⟨h3, h4⟩ := HLX.out
        obtain ⟨h5, h6⟩ := HP.out
        have h7 := HF.out
        have hk : k ≠ 29 := fun e => by
          have := far_last
          rw [← e, ← h3, ← h4, ← h5] at this
          omega
        have hlt : k < 29 := by omega
        have := far_next ⟨k, hlt⟩
        simp only at this
        rw [this, ← h3, ← h4, ← h5]
        omega
      refine ⟨⟨k + 1, by omega, by go_num, Lib.hid hn1.2⟩, ?_⟩
      simp [intOf]; omega
end Go.Proofs.YtkaagenmkjkaeaaDoor.InfC
end

section
/-
  Law 12's []T that came in (LzO's way).
-/
namespace Go.Proofs.YtkaagenmkjkaeaaDoor.LzC
open Go.RowKit Go.My LzMath Go.WideShapes Go.ChangeShapes Go.Deep

theorem addr_two (b off i j : Nat) : ((⟨b, off, none⟩ : Addr).add i).add j = ⟨b, off + i + j, none⟩ := by rw [addr_add, addr_add]

section
variable {H : Type} {enc : TypeId × Value → H} {w : World} {base : Nat} {spare : Nat → Bool} {held : Bool}
set_option maxRecDepth 100000 in
theorem open_t {fuel : Nat} {b off i : Nat} {cs : List Value} {x : DataW H × List MemPlace} (hc : w.cells? base ((⟨b, off, none⟩ : Addr).add (i * 3)) 3 = some cs) (h : DataW.trod enc Tryd.prog w base spare held fuel 59 cs = some x) :
    ∃ t, TokAt w b off i t := by
  obtain ⟨_, hlen, hat⟩ := World.cells?_some hc
  obtain ⟨xs, m, _, _, _, hxl, hf⟩ := DataW.trod_struct Tryd.underlying59 h
  have c0 := hat 0 (by omega)
  have c1 := hat 1 (by omega)
  have c2 := hat 2 (by omega)
  rw [addr_two] at c0 c1 c2
  have hx : xs.length = 3 := hxl
  have e3 : Tryd.prog.cellsOf 3 = 1 := by kernel_rfl
  have e5 : Tryd.prog.cellsOf 5 = 1 := by kernel_rfl
  match cs, hlen, xs, hx with
  | [v0, v1, v2], _, [y0, y1, y2], _ =>
  have f0 : DataW.trod enc Tryd.prog w base spare held m 3 (List.take (Tryd.prog.cellsOf 3) [v0, v1, v2]) = some y0 := hf 0 _ rfl
  have f1 : DataW.trod enc Tryd.prog w base spare held m 3 (List.take (Tryd.prog.cellsOf 3) [v1, v2]) = some y1 := hf 1 _ rfl
  have f2 : DataW.trod enc Tryd.prog w base spare held m 5 (List.take (Tryd.prog.cellsOf 5) [v2]) = some y2 := hf 2 _ rfl
  rw [e3] at f0 f1
  rw [e5] at f2
  obtain ⟨k, hk, _, wk⟩ := DataW.trod_int Tryd.underlying3 f0
  obtain ⟨d, hd, _, wd⟩ := DataW.trod_int Tryd.underlying3 f1
  obtain ⟨c, hcc, _, wc⟩ := DataW.trod_int Tryd.underlying5 f2
  obtain ⟨c', rfl⟩ := wf_nat8 wc
  simp only [List.take_succ_cons, List.take_zero, List.cons.injEq, and_true] at hk hd hcc
  subst hk hd hcc
  exact ⟨⟨k, d, c'⟩, c0, c1, c2, block_lt_of_cell c1, wf_int wk, wf_int wd⟩

set_option maxRecDepth 100000 in
theorem open_ts {fuel : Nat} {cs : List Value} {x : DataW H × List MemPlace} (h : DataW.trod enc Tryd.prog w base spare held fuel 33 cs = some x) : ∃ a len cap f, cs = [.slice a len cap] ∧ TokIn w a len cap f := by
  have e28 : Tryd.prog.cellsOf 59 = 3 := by kernel_rfl
  have d0 : Tok := ⟨0, 0, 0⟩
  rcases open_slice Tryd.underlying33 h with ⟨rfl, _⟩ | ⟨a, len, cap, m, n, D, Pl, rfl, _, hl, hm, hmm, _, hi⟩
  · exact ⟨none, 0, 0, fun _ => d0, rfl, Nat.le_refl _, by omega, fun _ => ⟨rfl, rfl⟩, .inl rfl⟩
  · unfold maxLen at hm
    by_cases h0 : len = 0
    · exact ⟨some a, len, cap, fun _ => d0, rfl, hl, hm, (fun h => by cases h), .inl h0⟩
    · have hlm : len ≤ m := by rw [hmm]; split <;> omega
      obtain ⟨b, off, spot⟩ := a
      obtain ⟨cs0, hc0, _⟩ := hi 0 (by omega)
      rw [e28] at hc0
      obtain ⟨_, hl0, hat0⟩ := World.cells?_some hc0
      have hx := hat0 0 (by omega)
      rw [List.getElem?_eq_getElem (show 0 < cs0.length by omega)] at hx
      obtain rfl : spot = Option.none := by simpa [Addr.add] using World.cell?_spot hx
      have hall : ∀ i, ∃ t, i < len → TokAt w b off i t := fun i => by
        by_cases hil : i < len
        · obtain ⟨cs', hc, ht⟩ := hi i (by omega)
          rw [e28] at hc
          obtain ⟨t, ho⟩ := open_t hc ht
          exact ⟨t, fun _ => ho⟩
        · exact ⟨d0, fun h => absurd h hil⟩
      exact ⟨_, len, cap, fun i => Classical.choose (hall i), rfl, hl, hm, (fun h => by cases h), .inr ⟨b, off, rfl, fun i hil => Classical.choose_spec (hall i) hil⟩⟩
end
end Go.Proofs.YtkaagenmkjkaeaaDoor.LzC
end

section
/-
  InflateFixed's law.
-/
namespace Go.Proofs.YtkaagenmkjkaeaaDoor.InfC
open Go.RowKit Go.My BitMath CanMath TabMath WinMath FeedC TabC CanC RefC
open LzMath (Tok tot ex GoodT)
open LzC (TokIn tokens_any rexpand_good RGood)

theorem rput_all (v x : Nat) (w : World) (hx : x ≤ 16) (hv : v < 2 ^ x) : Calls Tryd.prog 21 #[.int .u32 (v : Int), .int .i64 (x : Int)] w fun e w' => e = .returned (.string (txt (lows x v))) ∧ w = w' := by
  have h2 : 2 ^ x ≤ 65536 := by have := Nat.pow_le_pow_right (n := 2) (by omega) hx; simpa using this
  by_cases h : x = 0
  · subst h
    exact refput_no (v : Int) ((0 : Nat) : Int) w (by omega)
  · exact refput_any v x w (by omega) (by omega) (by omega)
theorem fix_len (v : Nat) : (bitsAt InfMath.fixL v).length ≤ 15 := by
  by_cases h : v < InfMath.fixL.length
  · rw [bitsAt_len _ _ h]; exact InfMath.fixL_ok.all _ (List.getElem_mem h)
  · unfold bitsAt; rw [dif_neg h]; simp
/-- The text of a block of fixed codes, so far. -/
structure Fxd (wide : Bool) (f : Nat → Tok) (k : Nat) (s : ByteArray) (B : List Bool) : Prop where
  txt : s = txt ([true, true, false] ++ B)
  few : B.length ≤ 60 * k
  goes : InfMath.Goes wide 65536 3000 B (ex f k)
theorem Fxd.zero (wide : Bool) (f : Nat → Tok) : Fxd wide f 0 ⟨#[49, 49, 48]⟩ [] := ⟨rfl, by simp, InfMath.Goes.nil⟩
section
variable {wide : Bool} {f : Nat → Tok} {k : Nat} {s : ByteArray} {B : List Bool}
theorem Fxd.size (h : Fxd wide f k s B) (hk : k ≤ 60) : s.size ≤ 4000 := by
  rw [h.txt, txt_len]; simp; have := h.few; omega
theorem Fxd.lit (h : Fxd wide f k s B) (c : UInt8) (h1 : ex f (k + 1) = ex f k ++ [c]) (h2 : tot f (k + 1) = tot f k + 1) (h3 : tot f (k + 1) ≤ 3000) : Fxd wide f (k + 1) (s ++ BitMath.txt (bitsAt InfMath.fixL c.toNat)) (B ++ bitsAt InfMath.fixL c.toNat) := by
  refine ⟨by rw [h.txt, txt_append, List.append_assoc], by rw [List.length_append]; have := h.few; have := fix_len c.toNat; omega, ?_⟩
  rw [h1]
  exact h.goes.lit c (by rw [LzMath.ex_len]; omega)
theorem Fxd.mat (h : Fxd wide f k s B) {d n a l x v b m y u : Nat} (h1 : ex f (k + 1) = grow (ex f k) d n) (h2 : tot f (k + 1) = tot f k + n) (h3 : tot f (k + 1) ≤ 3000) (hd : d ≤ tot f k)
    (ha : InfMath.base a wide = some (l, x)) (hv : v < 2 ^ x) (hn : l + v = n) (hb : InfMath.far b wide = some (m, y)) (hu : u < 2 ^ y) (hdd : m + u = d) (hb29 : b ≤ 29) (hx : x ≤ 16) (hy : y ≤ 13) :
    Fxd wide f (k + 1) (s ++ BitMath.txt (bitsAt InfMath.fixL a) ++ BitMath.txt (lows x v) ++ BitMath.txt (lows 5 b).reverse ++ BitMath.txt (lows y u)) (B ++ (bitsAt InfMath.fixL a ++ (lows x v ++ (bitsAt InfMath.fixD b ++ lows y u)))) := by
  have hfd := InfMath.fixD_bits b (by omega)
  refine ⟨?_, ?_, ?_⟩
  · rw [h.txt, txt_append, txt_append, txt_append, txt_append, hfd]
    simp only [List.append_assoc]
  · simp only [List.length_append, lows_len, hfd, List.length_reverse]
    have := h.few; have := fix_len a; omega
  · rw [h1, ← hn, ← hdd]
    exact h.goes.mat ha hv hb hu (by omega) (by rw [LzMath.ex_len]; omega) (by rw [LzMath.ex_len]; omega)
theorem Fxd.ends (h : Fxd wide f k s B) : (s ++ BitMath.txt (bitsAt InfMath.fixL 256) = BitMath.txt ([true, true, false] ++ (B ++ bitsAt InfMath.fixL 256))) ∧
    ∃ t, InfMath.Ends (began wide 65536 3000 (pack ([true, true, false] ++ (B ++ bitsAt InfMath.fixL 256)))) t 0 ∧ t.out = ex f k := by
  refine ⟨by rw [h.txt, txt_append, List.append_assoc], ?_⟩
  obtain ⟨z, hz⟩ : ∃ z, bitsOf (pack ([true, true, false] ++ (B ++ bitsAt InfMath.fixL 256))) = [true, true, false] ++ (B ++ (bitsAt InfMath.fixL 256 ++ z)) := ⟨List.replicate ((8 - ([true, true, false] ++ (B ++ bitsAt InfMath.fixL 256)).length % 8) % 8) false, by rw [bitsOf_pack]; unfold pad; simp only [List.append_assoc]⟩
  have := h.goes.ends (pack ([true, true, false] ++ (B ++ bitsAt InfMath.fixL 256))).length z
  unfold began
  rw [hz]
  exact this
end
/-! ### the law -/

set_option maxRecDepth 100000 in
set_option maxHeartbeats 16000000 in
theorem fixed_law (a : Option Addr) (len cap : Nat) (g : Nat → Tok) (wide : Bool) (w : World) (hb : TokIn w a len cap g) (hO : Ordr w.heap.size w) :
    Calls Tryd.prog 5 #[.slice a len cap, .bool wide] w fun e w' => e = .returned (.bool true) ∧ Below w.heap.size w w' := by
  have HO := Lib.hid hO
  have HTK := Lib.hid (tokens_any a len cap g w hb)
  clear hO hb
  go_enter Tryd.func5, Tryd.ntmps5
  go_wp2_with fail
  refine HTK.out.mono ?_
  rintro e w1 ⟨f, n, a1, c1, rfl, hn61, htot, hgood, HIN, HB1⟩
  have hgw : GoodT wide f n := by
    cases wide
    · exact hgood
    · exact LzMath.good_wide hgood
  have HGD := Lib.hid hgood
  have HX := Lib.hid (rexpand_good wide 3000 (by omega) a1 n c1 f w1 HIN.out hgw (by omega))
  clear HTK hgw hgood
  go_wp2_with fail
  refine HX.out.mono ?_
  rintro e w2 ⟨hb2, hr⟩
  have HB2 := Lib.hid (HB1.out.trans (hb2.mono HB1.out.size))
  have HT := Lib.hid (told_any w2 (HO.out.up HB2.out))
  rcases hr with ⟨ht3, xa, xc, rfl, hown⟩ | ⟨ht3, kk, rfl⟩
  · have HIN2 := Lib.hid (HIN.out.below (Nat.le_refl _) hb2)
    have HXO := Lib.hid hown
    have HTT := Lib.hid ht3
    clear hb2 hown HX HIN ht3 htot
    by_cases hn60 : n ≤ 60
    · have hn6 : ¬ (n : Int) > 60 := by omega
      have hlc := HIN2.out.le_cap
      have hcm := HIN2.out.cap_le
      clear HT hn61
      go_upto_region 8 with (fail)
      go_loopw [5, 11] (fun sv iv wr => ∃ (k : Nat) (t : ByteArray) (B : List Bool), k ≤ n ∧ iv = .int .i64 (k : Int) ∧ sv = .string t ∧ Hid (Fxd wide f k t B) ∧ Hid (Below w2.heap.size w2 wr)) (fun _ iv _ => n - (intOf iv).toNat)
      case atStart => exact ⟨0, _, [], Nat.zero_le _, rfl, rfl, Lib.hid (Fxd.zero wide f), Lib.hid (Below.refl _ _)⟩
      case round =>
        obtain ⟨k, t, B, hk, rfl, rfl, HF, HB⟩ := hrel
        have hts := HF.out.size (by omega)
        by_cases hlt : k < n
        · obtain ⟨b, off, rfl, ho⟩ := (HIN2.out.below (Nat.le_refl _) HB.out).get hlt
          obtain ⟨c0, c1', c2, hbl, wf⟩ := ho
          have hT1 : tot f (k + 1) ≤ 3000 := Nat.le_trans (LzMath.tot_mono f (k + 1) n hlt) HTT.out
          have hok := HGD.out k hlt
          obtain ⟨X, hX⟩ : ∃ X, X = wr.alloc (.cells (LzC.tc (f k)) 42) := ⟨_, rfl⟩
          have HBL : Hid (Blk X wr.heap.size 42 (LzC.tc (f k))) := Lib.hid (by rw [hX]; exact Blk.new wr _ _)
          have HBX : Hid (Below w2.heap.size w2 X) := Lib.hid (by rw [hX]; exact HB.out.alloc HB.out.size _)
          have HT1 := Lib.hid hT1
          clear wf HB hT1
          by_cases h0 : (f k).len = 0
          · obtain ⟨ch, hfk, hex, htk⟩ := LzC.lit_nums hok h0
            rw [hfk] at c0 c1' c2 hX HBL
            unfold LzC.tc at hX HBL
            simp only at c0 c1' c2 hX HBL
            have HF2 := Lib.hid (HF.out.lit ch hex htk HT1.out)
            have hq := fix_len ch.toNat
            have hq2 : (txt (bitsAt InfMath.fixL ch.toNat)).size ≤ 15 := by rw [txt_len]; exact hq
            have hch : ch.toNat < 288 := by have := ch.toNat_lt; omega
            have HC := Lib.hid (code_any ch.toNat hch X)
            clear h0 hfk hex htk hok hq hch HF
            generalize txt (bitsAt InfMath.fixL ch.toNat) = q at *
            go_upto_region 11 with (fail)
            rw [← hX]
            clear hX c0 c1' c2 hbl
            generalize wr.heap.size = gg at *
            have x0 : X.cell? ⟨gg, 0, none⟩ = some (.int .i64 0) := HBL.out.cell 0
            have x2 : X.cell? ⟨gg, 2, none⟩ = some (.int .u8 (ch.toNat : Int)) := HBL.out.cell 2
            have hcw : wrap64 (ch.toNat : Int) = (ch.toNat : Int) := IntWalk.wrap64_in _ (by have := ch.toNat_lt; omega)
            go_wp2_with fail
            refine HC.out.mono ?_
            rintro e w3 ⟨rfl, rfl⟩
            go_wp2_with fail
            go_roundw
            case rel => exact ⟨k + 1, _, _, by omega, by go_num, rfl, HF2, HBX⟩
            case measure => simp [intOf]; omega
          · obtain ⟨d, m, hfk, hm3, -, hd1, hdS, hdN, hex, htk⟩ := LzC.mat_nums hok h0
            have hm258 : m ≤ 258 := by
              have h1 := hok.1
              rw [hfk] at h1
              rcases h1 with h1 | h1
              · have := h1.1; simp only at this; omega
              · have := h1.2.2.1; have e : LzMath.ml false = 258 := rfl; rw [e] at this; simp only at this; omega
            have hd3 : d ≤ 32768 := hdS
            obtain ⟨ch, hch⟩ : ∃ ch : UInt8, ch = 0 := ⟨_, rfl⟩
            rw [← hch] at hfk
            rw [hfk] at c0 c1' c2 hX HBL
            unfold LzC.tc at hX HBL
            simp only at c0 c1' c2 hX HBL
            have HM := Lib.hid (And.intro hex (And.intro htk hdN))
            have hm0 : ((m : Int) == 0) = false := by simp; omega
            have HS := Lib.hid (rsymbol_any m wide X hm3 hm258)
            have HR := Lib.hid (rreach_any d wide X hd1 hd3)
            clear h0 hfk hex htk hok hch hdN hdS hd1 hd3 hm3 hm258
            go_upto_region 11 with (fail)
            rw [← hX]
            clear hX c0 c1' c2 hbl
            generalize wr.heap.size = gg at *
            have x0 : X.cell? ⟨gg, 0, none⟩ = some (.int .i64 (m : Int)) := HBL.out.cell 0
            have x1 : X.cell? ⟨gg, 1, none⟩ = some (.int .i64 (d : Int)) := HBL.out.cell 1
            go_wp2_with fail
            refine HS.out.mono ?_
            rintro e w3 ⟨⟨sa, sl, sx, sv, rfl, hs1, hs2, hs3, hs4, hs5⟩, rfl⟩
            have HSA := Lib.hid (And.intro hs1 (And.intro hs2 (And.intro hs3 (And.intro hs4 hs5))))
            clear hs1 hs3 hs4
            have hv : sv < 65536 := Nat.lt_of_lt_of_le hs2 (by have := Nat.pow_le_pow_right (n := 2) (by omega) hs5; simpa using this)
            clear hs2 hs5
            go_wp2_with fail
            refine HR.out.mono ?_
            rintro e w4 ⟨⟨ra, rl, rx, rv, rfl, hr1, hr2, hr3, hr4, hr5⟩, rfl⟩
            have HRA := Lib.hid (And.intro hr1 (And.intro hr2 (And.intro hr3 (And.intro hr4 hr5))))
            have hu : rv < 8192 := Nat.lt_of_lt_of_le hr2 (pow_le13 hr5)
            have HF2 := Lib.hid (HF.out.mat HM.out.1 HM.out.2.1 HT1.out HM.out.2.2 HSA.out.1 HSA.out.2.1 HSA.out.2.2.1 hr1 hr2 hr3 hr4 HSA.out.2.2.2.2 hr5)
            have HC1 := Lib.hid (code_any sa (by have := HSA.out.2.2.2.1; omega) X)
            have HC2 := Lib.hid (rput_all sv sx X HSA.out.2.2.2.2 HSA.out.2.1)
            have HC3 := Lib.hid (refcode_any ra 5 X (by omega) (by omega) (by omega))
            have HC4 := Lib.hid (rput_all rv rx X (by omega) hr2)
            have hq1 : (txt (bitsAt InfMath.fixL sa)).size ≤ 15 := by rw [txt_len]; exact fix_len sa
            have hq2 : (txt (lows sx sv)).size ≤ 16 := by rw [txt_len, lows_len]; exact HSA.out.2.2.2.2
            have hq3 : (txt (lows 5 ra).reverse).size ≤ 5 := by rw [txt_len, List.length_reverse, lows_len]; omega
            have hq4 : (txt (lows rx rv)).size ≤ 13 := by rw [txt_len, lows_len]; exact hr5
            have hra : ra < 30 := by omega
            clear hr1 hr2 hr3 hr4 hr5
            generalize txt (bitsAt InfMath.fixL sa) = q1 at *
            generalize txt (lows sx sv) = q2 at *
            generalize txt (lows 5 ra).reverse = q3 at *
            generalize txt (lows rx rv) = q4 at *
            have z1 : (t ++ q1).size ≤ 4015 := by rw [ByteArray.size_append]; omega
            have z2 : (t ++ q1 ++ q2).size ≤ 4031 := by rw [ByteArray.size_append]; omega
            have z3 : (t ++ q1 ++ q2 ++ q3).size ≤ 4036 := by rw [ByteArray.size_append]; omega
            have y1 : ¬ 9223372036854775807 < t.size + q1.size := by omega
            have y2 : ¬ 9223372036854775807 < (t ++ q1).size + q2.size := by omega
            have y3 : ¬ 9223372036854775807 < (t ++ q1 ++ q2).size + q3.size := by omega
            have y4 : ¬ 9223372036854775807 < (t ++ q1 ++ q2 ++ q3).size + q4.size := by omega
            have u1 : IntKind.u32.wrap (sv : Int) = (sv : Int) := IntWalk.u32_in _ (by omega)
            have u2 : IntKind.u32.wrap (ra : Int) = (ra : Int) := IntWalk.u32_in _ (by omega)
            have u3 : IntKind.u32.wrap (rv : Int) = (rv : Int) := IntWalk.u32_in _ (by omega)
            clear x0 x1 z1 z2 z3 hq1 hq2 hq3 hq4
            go_wp2_with fail
            refine HC1.out.mono ?_
            rintro e w5 ⟨rfl, rfl⟩
            go_wp2_with fail
            refine HC2.out.mono ?_
            rintro e w6 ⟨rfl, rfl⟩
            go_wp2_with fail
            refine HC3.out.mono ?_
            rintro e w7 ⟨rfl, rfl⟩
            go_wp2_with fail
            refine HC4.out.mono ?_
            rintro e w8 ⟨rfl, rfl⟩
            go_wp2_with fail
            go_roundw
            case rel => exact ⟨k + 1, _, _, by omega, by go_num, rfl, HF2, HBX⟩
            case measure => simp [intOf]; omega
        · obtain rfl : k = n := by omega
          obtain ⟨he, t2, hE, ht2⟩ := HF.out.ends
          have hq2 : (txt (bitsAt InfMath.fixL 256)).size ≤ 15 := by rw [txt_len]; exact fix_len 256
          have hBl : ([true, true, false] ++ (B ++ bitsAt InfMath.fixL 256)).length ≤ 4000 := by
            have := HF.out.few
            have := fix_len 256
            simp only [List.length_append, List.length_cons, List.length_nil]
            omega
          have HBW := Lib.hid (HB2.out.trans (HB.out.mono HB2.out.size))
          have HC := Lib.hid (code_any 256 (by omega) wr)
          obtain ⟨L, hL⟩ : ∃ L, L = [true, true, false] ++ (B ++ bitsAt InfMath.fixL 256) := ⟨_, rfl⟩
          rw [← hL] at he hE hBl
          have HBy := Lib.hid (refbytes_any L wr (by omega))
          have hpl : (pack L).length = (L.length + 7) / 8 := pack_len L
          have hA := fun (v : World) (c' : Nat) (ad : Option Addr) (h1 : Bytes v ad ((L.length + 7) / 8) c' (pack L)) (h2 : Ordr v.heap.size v) => all_ok (S := 65536) (most := 3000) h1 (by omega) (by omega) (by omega) (by omega) h2 hE
          have HA := Lib.hid hA
          have HE := Lib.hid he
          have HT2 := Lib.hid ht2
          have hN1 : (L.length + 7) / 8 ≤ 1000 := by omega
          rw [← he] at HBy
          clear hL hE ht2 he hBl hA HF HC
          have HC : Hid _ := Lib.hid (code_any 256 (by omega) wr)
          generalize txt (bitsAt InfMath.fixL 256) = q at *
          go_wp2_with fail
          refine HC.out.mono ?_
          rintro e w3 ⟨rfl, rfl⟩
          go_wp2_with fail
          refine HBy.out.mono ?_
          rintro e w3 ⟨rfl, HOw, hb3⟩
          have HB3 := Lib.hid (HBW.out.trans (hb3.mono HBW.out.size))
          have HXO3 := Lib.hid ((HXO.out.below (Nat.le_refl _) HB.out).below (Nat.le_refl _) hb3)
          have hby : Bytes w3 (some ⟨wr.heap.size, 0, none⟩) ((L.length + 7) / 8) ((L.length + 7) / 8) (pack L) := by
            obtain ⟨ba, bc, hbv, hbb⟩ := HOw.out.bytes
            simp only [Value.slice.injEq] at hbv
            obtain ⟨rfl, -, rfl⟩ := hbv
            rw [hpl] at hbb
            exact hbb
          have hA3 := HA.out w3 _ _ hby (HO.out.up HB3.out)
          rw [HT2.out, LzMath.ex_len] at hA3
          have HA3 := Lib.hid hA3
          clear hby hb3 hA3 HOw HBy hpl HC
          go_wp2_with fail
          refine HA3.out.mono ?_
          rintro e w4 ⟨oa, oc, rfl, HOx, HBx⟩
          have HB4 := Lib.hid (HB3.out.trans (HBx.out.mono HB3.out.size))
          have HXO4 := Lib.hid (HXO3.out.below (Nat.le_refl _) HBx.out)
          have HT := Lib.hid (told_any w4 (HO.out.up HB4.out))
          clear HBx HA3
          go_wp2_with fail
          refine HT.out.mono ?_
          rintro e w5 ⟨rfl, hb5⟩
          have HB5 := Lib.hid (HB4.out.trans (hb5.mono HB4.out.size))
          have hcv1 : (convert 26 9 (.slice oa (tot f k) oc)).run Tryd.prog w5 = .ok (.string ⟨(ex f k).toArray⟩) w5 := conv_own (HOx.out.below (Nat.le_refl _) hb5)
          have hcv2 : (convert 26 9 (.slice xa (tot f k) xc)).run Tryd.prog w5 = .ok (.string ⟨(ex f k).toArray⟩) w5 := conv_own (HXO4.out.below (Nat.le_refl _) hb5)
          clear hb5
          go_wp2_with fail
          go_ret
          exact ⟨rfl, HB5.out⟩
    · have hn6 : (n : Int) > 60 := by omega
      clear hn60
      go_wp2_with fail
      refine HT.out.mono ?_
      rintro e w3 ⟨rfl, hb⟩
      have HB3 := Lib.hid (HB2.out.trans (hb.mono HB2.out.size))
      clear hb
      go_wp2_with fail
      go_ret
      exact ⟨rfl, HB3.out⟩
  · clear hb2 HX HIN
    go_wp2_with fail
    refine HT.out.mono ?_
    rintro e w3 ⟨rfl, hb⟩
    have HB3 := Lib.hid (HB2.out.trans (hb.mono HB2.out.size))
    clear hb
    go_wp2_with fail
    go_ret
    exact ⟨rfl, HB3.out⟩
end Go.Proofs.YtkaagenmkjkaeaaDoor.InfC
end
