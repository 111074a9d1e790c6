import Derived.Test.YtdbcendnibgcaaaGreatDoorMgBg
import Derived.Test.YtdbcendnibgcaaaGreatDoorMgAv
import Derived.Test.YtdbcendnibgcaaaGreatDoorMgBk

section
/-
  inflate's machine over a block of fixed codes. No program, no dump.
-/
namespace InfMath
open BitMath CanMath TabMath WinMath

theorem sym_at {ls : List Nat} (hc : CodeOk ls) (i : Nat) (h : 1 ≤ ln ls i) (r : List Bool) : sym ls (bitsAt ls i ++ r) = (i, ln ls i, 0) := by
  have hi := ln_lt h
  have hlen : (bitsAt ls i).length = ln ls i := by rw [bitsAt_len ls i hi, ln_eq ls i hi]
  have h15 : ln ls i ≤ 15 := ln_le hc.all i
  have hx : Has ls (num ((bitsAt ls i ++ r).take 15)) i := by
    refine ⟨h, ?_⟩
    rw [num_mod_take, List.take_take, Nat.min_eq_left h15, take_ext (by omega), List.take_of_length_le (by omega), bitsAt_wd ls i hi, num_lows, Nat.mod_eq_of_lt (wd_lt ls i)]
  unfold sym
  rw [who_some hc.all hc.kr hx]
  simp only
  rw [if_neg (by omega), if_neg (by simp; omega)]
theorem fixL_len : fixL.length = 288 := by decide +kernel
theorem fixD_len : fixD.length = 32 := by decide +kernel
theorem fixL_ln : ∀ v : Fin 288, 1 ≤ ln fixL v.val := by decide +kernel
theorem fixD_ln : ∀ v : Fin 32, ln fixD v.val = 5 := by decide +kernel
/-- The fixed codes as the document writes them. -/
def fixCode (v : Nat) : Nat × Nat := if v < 144 then (8, 48 + v) else if v < 256 then (9, 400 + v - 144) else if v < 280 then (7, v - 256) else (8, 192 + v - 280)
theorem fixL_code : ∀ v : Fin 288, (ln fixL v.val, codeN fixL (ln fixL v.val) v.val) = fixCode v.val := by decide +kernel
theorem fixD_code : ∀ v : Fin 32, codeN fixD (ln fixD v.val) v.val = v.val := by decide +kernel
theorem fixL_bits (v : Nat) (h : v < 288) : bitsAt fixL v = (lows (fixCode v).1 (fixCode v).2).reverse := by
  have h1 := fixL_code ⟨v, h⟩
  simp only at h1
  have hl : v < fixL.length := by rw [fixL_len]; exact h
  rw [bitsAt_eq fixL v hl, ← h1, ln_eq fixL v hl]
theorem fixD_bits (v : Nat) (h : v < 32) : bitsAt fixD v = (lows 5 v).reverse := by
  have h1 := fixD_code ⟨v, h⟩
  have h2 := fixD_ln ⟨v, h⟩
  simp only at h1 h2
  have hl : v < fixD.length := by rw [fixD_len]; exact h
  rw [bitsAt_eq fixD v hl, ← ln_eq fixD v hl, h2]
  rw [h2] at h1
  rw [h1]

/-- The machine within a last block of fixed codes. -/
def fx (wide : Bool) (S most p : Nat) (b : List Bool) (o : List UInt8) (m : Nat) : M :=
  { start wide S most with bits := b, pushed := p, final := true, fixed := true, lit := some fixL, dist := some fixD, next := 9, hist := o, out := o, total := o.length, matching := m }
section
variable {wide : Bool} {S most : Nat}
theorem lit_step (p : Nat) (r : List Bool) (o : List UInt8) (m : Nat) (c : UInt8) (hm : o.length < most) :
    step (fx wide S most p (bitsAt fixL c.toNat ++ r) o m) = .more (fx wide S most p r (o ++ [c]) m) := by
  have hc := c.toNat_lt
  have h1 := fixL_ln ⟨c.toNat, by omega⟩
  have hs := sym_at fixL_ok c.toNat h1 r
  have hd : (bitsAt fixL c.toNat ++ r).drop (ln fixL c.toNat) = r := by
    rw [List.drop_append_of_le_length (by rw [bitsAt_len fixL _ (ln_lt h1), ln_eq fixL _ (ln_lt h1)]; exact Nat.le_refl _), List.drop_of_length_le (by rw [bitsAt_len fixL _ (ln_lt h1), ln_eq fixL _ (ln_lt h1)]; exact Nat.le_refl _), List.nil_append]
  show readLiteral (fx wide S most p (bitsAt fixL c.toNat ++ r) o m) = _
  unfold readLiteral fx
  simp only [Option.getD_some, hs]
  rw [if_neg (by decide)]
  unfold readLit
  rw [if_pos (by omega), if_neg (by simp [start]; omega)]
  simp only [put, hd, UInt8.ofNat_toNat, List.length_append, List.length_singleton]
theorem mat_steps (p : Nat) (r : List Bool) (o : List UInt8) (m : Nat) {a l x v b k y u : Nat} (ha : base a wide = some (l, x)) (hv : v < 2 ^ x) (hb : far b wide = some (k, y)) (hu : u < 2 ^ y) (hbl : b < 32)
    (hd : k + u ≤ min o.length S) (hm : o.length + (l + v) ≤ most) :
    Steps (fx wide S most p (bitsAt fixL a ++ (lows x v ++ (bitsAt fixD b ++ (lows y u ++ r)))) o m) (fx wide S most p r (grow o (k + u) (l + v)) (l + v)) := by
  have ha2 : 257 ≤ a ∧ a ≤ 285 := by
    unfold base at ha
    by_cases h : a < 257 ∨ 285 < a
    · rw [if_pos h] at ha; cases ha
    · omega
  have h1 := fixL_ln ⟨a, by omega⟩
  have hl1 : (bitsAt fixL a).length = ln fixL a := by rw [bitsAt_len fixL _ (ln_lt h1), ln_eq fixL _ (ln_lt h1)]
  have hs := sym_at fixL_ok a h1 (lows x v ++ (bitsAt fixD b ++ (lows y u ++ r)))
  have h2 := fixD_ln ⟨b, hbl⟩
  simp only at h1 h2
  have hl2 : (bitsAt fixD b).length = 5 := by rw [bitsAt_len fixD b (by rw [fixD_len]; exact hbl), ← ln_eq fixD b (by rw [fixD_len]; exact hbl), h2]
  have hs2 := sym_at fixD_ok b (by omega) (lows y u ++ r)
  rw [h2] at hs2
  have hlx := lows_len x v
  have hly := lows_len y u
  have s1 : step (fx wide S most p (bitsAt fixL a ++ (lows x v ++ (bitsAt fixD b ++ (lows y u ++ r)))) o m) = .more { fx wide S most p (bitsAt fixD b ++ (lows y u ++ r)) o (l + v) with next := 10 } := by
    show readLiteral (fx wide S most p _ o m) = _
    unfold readLiteral fx
    simp only [Option.getD_some, hs]
    rw [if_neg (by decide)]
    unfold readLit
    rw [if_neg (by omega), if_neg (by omega)]
    simp only [start, ha]
    rw [if_neg (by simp [hl1, hlx])]
    have e1 : ((bitsAt fixL a ++ (lows x v ++ (bitsAt fixD b ++ (lows y u ++ r)))).drop (ln fixL a)) = lows x v ++ (bitsAt fixD b ++ (lows y u ++ r)) := by
      rw [List.drop_append_of_le_length (by omega), List.drop_of_length_le (by omega), List.nil_append]
    have e2 : num ((lows x v ++ (bitsAt fixD b ++ (lows y u ++ r))).take x) = v := by
      rw [List.take_append_of_le_length (by omega), List.take_of_length_le (by omega), num_lows, Nat.mod_eq_of_lt hv]
    rw [← List.drop_drop, e1, e2, List.drop_append_of_le_length (by omega), List.drop_of_length_le (by omega), List.nil_append]
  have s2 : step { fx wide S most p (bitsAt fixD b ++ (lows y u ++ r)) o (l + v) with next := 10 } = .more (fx wide S most p r (grow o (k + u) (l + v)) (l + v)) := by
    show readDistance { fx wide S most p (bitsAt fixD b ++ (lows y u ++ r)) o (l + v) with next := 10 } = _
    unfold readDistance fx
    simp only [Option.getD_some, hs2, start]
    rw [if_neg (by omega), if_neg (by decide)]
    unfold readDist
    simp only [hb]
    rw [if_neg (by simp [hl2, hly])]
    have e1 : ((bitsAt fixD b ++ (lows y u ++ r)).drop 5) = lows y u ++ r := by
      rw [List.drop_append_of_le_length (by omega), List.drop_of_length_le (by omega), List.nil_append]
    have e2 : num ((lows y u ++ r).take y) = u := by
      rw [List.take_append_of_le_length (by omega), List.take_of_length_le (by omega), num_lows, Nat.mod_eq_of_lt hu]
    rw [e1, e2]
    unfold copied
    simp only
    rw [if_neg (by omega), ← List.drop_drop, e1, List.drop_append_of_le_length (by omega), List.drop_of_length_le (by omega), List.nil_append, ← grow_copy, grow_len]
  exact .cons s1 (.one s2)

/-- Bits that come to these bytes. -/
def Goes (wide : Bool) (S most : Nat) (B : List Bool) (o : List UInt8) : Prop := ∃ m, ∀ p r, Steps (fx wide S most p (B ++ r) [] 0) (fx wide S most p r o m)
theorem Goes.nil : Goes wide S most [] [] := ⟨0, fun _ _ => .refl _⟩
theorem Goes.lit {B : List Bool} {o : List UInt8} (h : Goes wide S most B o) (c : UInt8) (hm : o.length < most) : Goes wide S most (B ++ bitsAt fixL c.toNat) (o ++ [c]) := by
  obtain ⟨m, h⟩ := h
  refine ⟨m, fun p r => ?_⟩
  rw [List.append_assoc]
  exact (h p _).snoc (lit_step p r o m c hm)
theorem Goes.mat {B : List Bool} {o : List UInt8} (h : Goes wide S most B o) {a l x v b k y u : Nat} (ha : base a wide = some (l, x)) (hv : v < 2 ^ x) (hb : far b wide = some (k, y)) (hu : u < 2 ^ y) (hbl : b < 32)
    (hd : k + u ≤ min o.length S) (hm : o.length + (l + v) ≤ most) : Goes wide S most (B ++ (bitsAt fixL a ++ (lows x v ++ (bitsAt fixD b ++ lows y u)))) (grow o (k + u) (l + v)) := by
  obtain ⟨m, h⟩ := h
  refine ⟨l + v, fun p r => ?_⟩
  have := mat_steps (S := S) p r o m ha hv hb hu hbl hd hm
  simp only [List.append_assoc]
  exact (h p _).trans this
theorem Goes.ends {B : List Bool} {o : List UInt8} (h : Goes wide S most B o) (p : Nat) (z : List Bool) : ∃ t, Ends { start wide S most with bits := [true, true, false] ++ (B ++ (bitsAt fixL 256 ++ z)), pushed := p } t 0 ∧ t.out = o := by
  obtain ⟨m, h⟩ := h
  have s1 : step { start wide S most with bits := [true, true, false] ++ (B ++ (bitsAt fixL 256 ++ z)), pushed := p } = .more (fx wide S most p (B ++ (bitsAt fixL 256 ++ z)) [] 0) := by
    show opening _ = _
    unfold opening
    have e1 : num (([true, true, false] ++ (B ++ (bitsAt fixL 256 ++ z))).take 3) = 3 := rfl
    have e2 : ([true, true, false] ++ (B ++ (bitsAt fixL 256 ++ z))).drop 3 = B ++ (bitsAt fixL 256 ++ z) := rfl
    simp only [e1, e2]
    rw [if_neg (by simp), if_neg (by decide), if_pos (by decide)]
    rfl
  have hs := sym_at fixL_ok 256 (fixL_ln ⟨256, by omega⟩) z
  generalize ln fixL 256 = q at hs
  have s2 : step (fx wide S most p (bitsAt fixL 256 ++ z) o m) = .more { fx wide S most p ((bitsAt fixL 256 ++ z).drop q) o m with next := 11 } := by
    show readLiteral (fx wide S most p _ o m) = _
    unfold readLiteral fx
    simp only [Option.getD_some, hs]
    rw [if_neg (by decide)]
    unfold readLit close
    rw [if_neg (by decide), if_pos rfl]
    rfl
  exact ⟨_, ⟨(Steps.one s1).trans ((h p _).snoc s2), by unfold step; rfl⟩, rfl⟩
end
end InfMath
end

section
/-
  inflate's machine over stored blocks. No program, no dump.
-/
namespace InfMath
open BitMath CanMath TabMath WinMath

/-- A stored block's bytes, at a byte's beginning. -/
def stored (c : List UInt8) (last : Bool) : List UInt8 :=
  [if last then 1 else 0, UInt8.ofNat c.length, UInt8.ofNat (c.length / 256), UInt8.ofNat (255 - c.length % 256), UInt8.ofNat (255 - c.length / 256)] ++ c
theorem stored_len (c : List UInt8) (last : Bool) : (stored c last).length = 5 + c.length := by
  unfold stored; simp; omega
def blocks (cs : List (List UInt8)) : List UInt8 := cs.flatMap fun c => stored c false
theorem blocks_snoc (cs : List (List UInt8)) (c : List UInt8) : blocks (cs ++ [c]) = blocks cs ++ stored c false := by
  unfold blocks; simp
theorem blocks_cons (cs : List (List UInt8)) (c : List UInt8) : blocks (c :: cs) = stored c false ++ blocks cs := by
  unfold blocks; simp
theorem take_two (a b : UInt8) (t : List UInt8) : num ((bitsOf (a :: b :: t)).take 16) = a.toNat + 256 * b.toNat := by
  rw [bitsOf_cons, bitsOf_cons, ← List.append_assoc, List.take_append_of_le_length (by simp [lows_len]), List.take_of_length_le (by simp [lows_len]), num_append, lows_len, num_lows, num_lows]
  have := a.toNat_lt
  have := b.toNat_lt
  omega
theorem bytes_step {s : M} {c : UInt8} {t : List UInt8} (hn : s.next = 3) (hb : s.bits = bitsOf (c :: t)) (hl : 0 < s.left) :
    step s = if s.most ≤ s.total then .halt 3 else .more { put s c with bits := bitsOf t, left := s.left - 1 } := by
  have h1 : step s = readBytes s := by unfold step; rw [hn]; rfl
  have h2 : 8 ≤ s.bits.length := by rw [hb, bitsOf_len, List.length_cons]; omega
  have h3 : num (s.bits.take 8) = c.toNat := by rw [hb, bitsOf_cons]; exact take_lows c _
  have h4 : s.bits.drop 8 = bitsOf t := by rw [hb]; exact bitsOf_drop (c :: t) 1
  rw [h1]
  unfold readBytes
  rw [if_neg (by omega), if_neg (by omega), h3, h4, UInt8.ofNat_toNat]
theorem bytes_steps : ∀ (c : List UInt8) (s : M) (r : List UInt8), s.next = 3 → s.bits = bitsOf (c ++ r) → s.left = c.length → s.total + c.length ≤ s.most →
    Steps s { s with bits := bitsOf r, left := 0, hist := s.hist ++ c, out := s.out ++ c, total := s.total + c.length }
  | [], s, r, hn, hb, hl, _ => by
    have e : ({ s with bits := bitsOf r, left := 0, hist := s.hist ++ [], out := s.out ++ [], total := s.total + ([] : List UInt8).length } : M) = s := by
      simp at hb hl
      cases s; simp_all
    rw [e]; exact .refl s
  | c :: t, s, r, hn, hb, hl, hm => by
    rw [List.length_cons] at hl hm
    have h1 := bytes_step (s := s) (c := c) (t := t ++ r) hn hb (by omega)
    rw [if_neg (by omega)] at h1
    have h2 := bytes_steps t { put s c with bits := bitsOf (t ++ r), left := s.left - 1 } r hn rfl (by simp only; omega) (by simp only [put]; omega)
    refine .cons h1 ?_
    have e : ({ s with bits := bitsOf r, left := 0, hist := s.hist ++ c :: t, out := s.out ++ c :: t, total := s.total + (c :: t).length } : M) = { ({ put s c with bits := bitsOf (t ++ r), left := s.left - 1 } : M) with bits := bitsOf r, left := 0, hist := (s.hist ++ [c]) ++ t, out := (s.out ++ [c]) ++ t, total := (s.total + 1) + t.length } := by
      simp [put]; omega
    rw [e]; exact h2
theorem bytes_over : ∀ (c : List UInt8) (s : M) (r : List UInt8), s.next = 3 → s.bits = bitsOf (c ++ r) → s.left = c.length → s.total ≤ s.most → s.most < s.total + c.length → ∃ t, Ends s t 3
  | [], s, r, hn, hb, hl, h1, h2 => by simp at h2; omega
  | c :: t, s, r, hn, hb, hl, h1, h2 => by
    rw [List.length_cons] at hl h2
    have h3 := bytes_step (s := s) (c := c) (t := t ++ r) hn hb (by omega)
    by_cases hm : s.most ≤ s.total
    · rw [if_pos hm] at h3
      exact ⟨s, .refl s, h3⟩
    · rw [if_neg hm] at h3
      obtain ⟨u, hu⟩ := bytes_over t { put s c with bits := bitsOf (t ++ r), left := s.left - 1 } r hn rfl (by simp only; omega) (by simp only [put]; omega) (by simp only [put]; omega)
      exact ⟨u, .one h3 hu⟩

/-- The head of a stored block. -/
theorem head_steps {s : M} {c r : List UInt8} {last : Bool} (hn : s.next = 1) (hb : s.bits = bitsOf (stored c last ++ r)) (hc : c.length < 65536) :
    Steps s { s with bits := bitsOf (c ++ r), final := last, left := c.length, next := 3 } := by
  have hbl : s.bits.length = 8 * (5 + c.length + r.length) := by rw [hb, bitsOf_len, List.length_append, stored_len]
  obtain ⟨a, ha⟩ : ∃ a : UInt8, a = if last then 1 else 0 := ⟨_, rfl⟩
  obtain ⟨q, hq⟩ : ∃ q : List UInt8, q = UInt8.ofNat c.length :: UInt8.ofNat (c.length / 256) :: UInt8.ofNat (255 - c.length % 256) :: UInt8.ofNat (255 - c.length / 256) :: (c ++ r) := ⟨_, rfl⟩
  have e0 : stored c last ++ r = a :: q := by rw [ha, hq]; rfl
  rw [e0, bitsOf_cons] at hb
  have h3 : num (s.bits.take 3) = if last then 1 else 0 := by
    rw [hb, List.take_append_of_le_length (by rw [lows_len]; omega), ha]
    cases last <;> rfl
  have hd3 : s.bits.drop 3 = (lows 8 a.toNat).drop 3 ++ bitsOf q := by
    rw [hb, List.drop_append_of_le_length (by rw [lows_len]; omega)]
  have hd8 : (s.bits.drop 3).drop 5 = bitsOf q := by
    rw [hd3, List.drop_append_of_le_length (by simp [lows_len]), List.drop_drop, List.drop_of_length_le (by rw [lows_len]; omega)]; rfl
  have h1 : step s = .more { s with bits := s.bits.drop 3, final := last, next := 2 } := by
    have : step s = opening s := by unfold step; rw [hn]; rfl
    rw [this]
    unfold opening
    rw [if_neg (by omega), h3]
    cases last <;> rfl
  have h2 : step { s with bits := s.bits.drop 3, final := last, next := 2 } = .more { s with bits := bitsOf q, final := last, next := 2 } := by
    have : step { s with bits := s.bits.drop 3, final := last, next := 2 } = readSize { s with bits := s.bits.drop 3, final := last, next := 2 } := by unfold step; rfl
    rw [this]
    unfold readSize
    have hl : (s.bits.drop 3).length % 8 = 5 := by rw [List.length_drop]; omega
    simp only [hl, hd8]
    rfl
  have hql : (bitsOf q).length = 8 * (4 + c.length + r.length) := by rw [bitsOf_len, hq]; simp; omega
  have hlo : num ((bitsOf q).take 16) = c.length := by
    rw [hq, take_two, UInt8.toNat_ofNat', UInt8.toNat_ofNat']; omega
  have hhi : num (((bitsOf q).drop 16).take 16) = 65535 - c.length := by
    rw [show (16 : Nat) = 8 * 2 from rfl, bitsOf_drop, hq]
    show num ((bitsOf (UInt8.ofNat (255 - c.length % 256) :: UInt8.ofNat (255 - c.length / 256) :: (c ++ r))).take 16) = _
    rw [take_two, UInt8.toNat_ofNat', UInt8.toNat_ofNat']; omega
  have hdr : (bitsOf q).drop 32 = bitsOf (c ++ r) := by
    rw [show (32 : Nat) = 8 * 4 from rfl, bitsOf_drop, hq]; rfl
  have h4 : step { s with bits := bitsOf q, final := last, next := 2 } = .more { s with bits := bitsOf (c ++ r), final := last, left := c.length, next := 3 } := by
    have : step { s with bits := bitsOf q, final := last, next := 2 } = readSize { s with bits := bitsOf q, final := last, next := 2 } := by unfold step; rfl
    rw [this]
    unfold readSize
    simp only [hlo, hhi, hdr]
    rw [if_neg (by omega), if_neg (by omega), if_neg (by omega)]
  exact .cons h1 (.cons h2 (.one h4))
theorem stored_steps {s : M} {c r : List UInt8} {last : Bool} (hn : s.next = 1) (hb : s.bits = bitsOf (stored c last ++ r)) (hc : c.length < 65536) (hl : s.left = 0) (hm : s.total + c.length ≤ s.most) :
    Steps s { s with bits := bitsOf r, final := last, hist := s.hist ++ c, out := s.out ++ c, total := s.total + c.length, next := if last then 11 else 1 } := by
  refine (head_steps hn hb hc).trans ?_
  refine (bytes_steps c { s with bits := bitsOf (c ++ r), final := last, left := c.length, next := 3 } r rfl rfl rfl hm).snoc ?_
  unfold step readBytes close
  simp only [if_true]
  rw [← hl]
theorem blocks_steps : ∀ (cs : List (List UInt8)) (s : M) (r : List UInt8), s.next = 1 → s.bits = bitsOf (blocks cs ++ r) → (∀ c ∈ cs, c.length < 65536) → s.left = 0 → s.final = false → s.total + cs.flatten.length ≤ s.most →
    Steps s { s with bits := bitsOf r, hist := s.hist ++ cs.flatten, out := s.out ++ cs.flatten, total := s.total + cs.flatten.length }
  | [], s, r, hn, hb, _, _, _, _ => by
    have e : ({ s with bits := bitsOf r, hist := s.hist ++ ([] : List (List UInt8)).flatten, out := s.out ++ ([] : List (List UInt8)).flatten, total := s.total + ([] : List (List UInt8)).flatten.length } : M) = s := by
      simp [blocks] at hb
      cases s; simp_all
    rw [e]; exact .refl s
  | c :: cs, s, r, hn, hb, hc, hl, hf, hm => by
    rw [blocks_cons, List.append_assoc] at hb
    rw [List.flatten_cons, List.length_append] at hm
    have h1 := stored_steps (last := false) hn hb (hc c (by simp)) hl (by omega)
    refine h1.trans ?_
    have h2 := blocks_steps cs { s with bits := bitsOf (blocks cs ++ r), final := false, hist := s.hist ++ c, out := s.out ++ c, total := s.total + c.length, next := 1 } r rfl rfl (fun x hx => hc x (by simp [hx])) hl rfl (by simp only; omega)
    have e : ({ s with bits := bitsOf r, hist := s.hist ++ (c :: cs).flatten, out := s.out ++ (c :: cs).flatten, total := s.total + (c :: cs).flatten.length } : M) = { ({ s with bits := bitsOf (blocks cs ++ r), final := false, hist := s.hist ++ c, out := s.out ++ c, total := s.total + c.length, next := 1 } : M) with bits := bitsOf r, hist := (s.hist ++ c) ++ cs.flatten, out := (s.out ++ c) ++ cs.flatten, total := (s.total + c.length) + cs.flatten.length } := by
      simp [← hn, ← hf]; omega
    rw [e]; exact h2
theorem blocks_over : ∀ (cs : List (List UInt8)) (s : M) (r : List UInt8), s.next = 1 → s.bits = bitsOf (blocks cs ++ r) → (∀ c ∈ cs, c.length < 65536) → s.left = 0 → s.total ≤ s.most → s.most < s.total + cs.flatten.length → ∃ t, Ends s t 3
  | [], s, r, hn, hb, _, _, h1, h2 => by simp at h2; omega
  | c :: cs, s, r, hn, hb, hc, hl, h1, h2 => by
    rw [blocks_cons, List.append_assoc] at hb
    rw [List.flatten_cons, List.length_append] at h2
    by_cases hm : s.total + c.length ≤ s.most
    · have h3 := stored_steps (last := false) hn hb (hc c (by simp)) hl hm
      obtain ⟨t, ht⟩ := blocks_over cs { s with bits := bitsOf (blocks cs ++ r), final := false, hist := s.hist ++ c, out := s.out ++ c, total := s.total + c.length, next := 1 } r rfl rfl (fun x hx => hc x (by simp [hx])) hl hm (by simp only; omega)
      exact ⟨t, .of h3 ht⟩
    · obtain ⟨t, ht⟩ := bytes_over c { s with bits := bitsOf (c ++ (blocks cs ++ r)), final := false, left := c.length, next := 3 } (blocks cs ++ r) rfl rfl rfl h1 (by simp only; omega)
      exact ⟨t, .of (head_steps (last := false) hn hb (hc c (by simp))) ht⟩

/-- A stream of stored blocks, whole. -/
theorem stream_ok (wide : Bool) (S most : Nat) (cs : List (List UInt8)) (z : List UInt8) (hc : ∀ c ∈ cs, c.length < 65536) (hm : cs.flatten.length ≤ most) :
    ∃ t, Ends { start wide S most with bits := bitsOf (blocks cs ++ stored [] true ++ z), pushed := (blocks cs ++ stored [] true ++ z).length } t 0 ∧ t.out = cs.flatten ∧ t.pushed - t.bits.length / 8 = (blocks cs ++ stored [] true).length := by
  obtain ⟨s, hs⟩ : ∃ s : M, s = { start wide S most with bits := bitsOf (blocks cs ++ stored [] true ++ z), pushed := (blocks cs ++ stored [] true ++ z).length } := ⟨_, rfl⟩
  rw [← hs]
  have h1 := blocks_steps cs s (stored [] true ++ z) (by rw [hs]; rfl) (by rw [hs]; simp) hc (by rw [hs]; rfl) (by rw [hs]; rfl) (by rw [hs]; simpa [start] using hm)
  have h2 := stored_steps (s := { s with bits := bitsOf (stored [] true ++ z), hist := s.hist ++ cs.flatten, out := s.out ++ cs.flatten, total := s.total + cs.flatten.length }) (c := []) (r := z) (last := true) (by rw [hs]; rfl) rfl (by simp) (by rw [hs]; rfl) (by rw [hs]; simpa [start] using hm)
  refine ⟨_, ⟨h1.trans h2, by unfold step; rfl⟩, by rw [hs]; simp [start], ?_⟩
  rw [hs]
  simp only [bitsOf_len, List.length_append]
  omega
theorem stream_over (wide : Bool) (S most : Nat) (cs : List (List UInt8)) (r : List UInt8) (hc : ∀ c ∈ cs, c.length < 65536) (hm : most < cs.flatten.length) :
    ∃ t, Ends { start wide S most with bits := bitsOf (blocks cs ++ r), pushed := (blocks cs ++ r).length } t 3 :=
  blocks_over cs _ r rfl rfl hc rfl (Nat.zero_le _) (by simpa [start] using hm)
theorem stream_short (wide : Bool) (S most : Nat) (cs : List (List UInt8)) (hc : ∀ c ∈ cs, c.length < 65536) (hm : cs.flatten.length ≤ most) :
    ∃ t, Ends { start wide S most with bits := bitsOf (blocks cs ++ [1, 0, 0, 255]), pushed := (blocks cs ++ [1, 0, 0, 255]).length } t 5 := by
  obtain ⟨s, hs⟩ : ∃ s : M, s = { start wide S most with bits := bitsOf (blocks cs ++ [1, 0, 0, 255]), pushed := (blocks cs ++ [1, 0, 0, 255]).length } := ⟨_, rfl⟩
  rw [← hs]
  have h1 := blocks_steps cs s [1, 0, 0, 255] (by rw [hs]; rfl) (by rw [hs]) hc (by rw [hs]; rfl) (by rw [hs]; rfl) (by rw [hs]; simpa [start] using hm)
  obtain ⟨u, hu⟩ : ∃ u : M, u = { s with bits := bitsOf [1, 0, 0, 255], hist := s.hist ++ cs.flatten, out := s.out ++ cs.flatten, total := s.total + cs.flatten.length } := ⟨_, rfl⟩
  rw [← hu] at h1
  have hub : u.bits = bitsOf [1, 0, 0, 255] := by rw [hu]
  have hun : u.next = 1 := by rw [hu, hs]; rfl
  have hue : u.ended = false := by rw [hu, hs]; rfl
  have h2 : step u = .more { u with bits := (bitsOf [1, 0, 0, 255]).drop 3, final := true, next := 2 } := by
    unfold step; rw [hun]
    show opening u = _
    unfold opening; rw [hub]; rfl
  have h3 : step { u with bits := (bitsOf [1, 0, 0, 255]).drop 3, final := true, next := 2 } = .more { u with bits := bitsOf [0, 0, 255], final := true, next := 2 } := by
    unfold step
    show readSize _ = _
    unfold readSize
    have e1 : ((bitsOf [1, 0, 0, 255]).drop 3).length % 8 = 5 := by decide
    have e2 : ((bitsOf [1, 0, 0, 255]).drop 3).drop 5 = bitsOf [0, 0, 255] := by decide
    simp only [e1, e2]
    rfl
  have h4 : step { u with bits := bitsOf [0, 0, 255], final := true, next := 2 } = .halt 5 := by
    unfold step
    show readSize _ = _
    unfold readSize
    have e1 : (bitsOf [0, 0, 255]).length = 24 := by decide
    simp only [e1]
    unfold lack
    simp [hue]
  exact ⟨_, h1.trans (.cons h2 (.one h3)), h4⟩
end InfMath
end

section
/-
  zlib's windows: a stored block, and a match so far ahead in a last block of fixed codes. No program, no dump.
-/
namespace InfMath
open BitMath CanMath TabMath WinMath

/-- The last block's bits: a match of three by the distance's symbol b and y bits behind it. -/
def mtail (b y u : Nat) : List Bool := [true, true, false] ++ (bitsAt fixL 257 ++ (bitsAt fixD b ++ (lows y u ++ bitsAt fixL 256)))
theorem fix257 : bitsAt fixL 257 = [false, false, false, false, false, false, true] := by rw [fixL_bits 257 (by omega)]; decide
theorem fix256 : bitsAt fixL 256 = [false, false, false, false, false, false, false] := by rw [fixL_bits 256 (by omega)]; decide
theorem base257 (wide : Bool) : base 257 wide = some (3, 0) := by cases wide <;> rfl
theorem mtail_len (b y u : Nat) (hb : b < 32) : (mtail b y u).length = 22 + y := by
  unfold mtail
  rw [fix257, fix256, fixD_bits b hb]
  simp [lows_len]
  omega
variable {S most p : Nat} {raw : List UInt8} {b k y u : Nat} {X z : List Bool}
theorem win_open (hraw : raw.length < 65536) (hm : raw.length ≤ most) {L : List UInt8} (hX : bitsOf L = [true, true, false] ++ X) :
    Steps { start false S most with bits := bitsOf (stored raw false ++ L), pushed := p } (fx false S most p X raw 0) := by
  have h1 := stored_steps (s := { start false S most with bits := bitsOf (stored raw false ++ L), pushed := p }) (c := raw) (r := L) (last := false) rfl rfl hraw rfl (by simpa [start] using hm)
  refine h1.snoc ?_
  show opening _ = _
  unfold opening
  have e1 : num (([true, true, false] ++ X).take 3) = 3 := rfl
  have e2 : ([true, true, false] ++ X).drop 3 = X := rfl
  simp only [hX, e1, e2]
  rw [if_neg (by simp), if_neg (by decide), if_pos (by decide)]
  simp [fx, start]
theorem win_ok (hraw : raw.length < 65536) (hb : far b false = some (k, y)) (hu : u < 2 ^ y) (hbl : b < 32) (hd : k + u ≤ min raw.length S) (hm : raw.length + 3 ≤ most) {L : List UInt8} (hX : bitsOf L = mtail b y u ++ z) :
    ∃ t, Ends { start false S most with bits := bitsOf (stored raw false ++ L), pushed := p } t 0 ∧ t.out = grow raw (k + u) 3 ∧ t.bits = z ∧ t.pushed = p := by
  have h0 : mtail b y u ++ z = [true, true, false] ++ (bitsAt fixL 257 ++ (lows 0 0 ++ (bitsAt fixD b ++ (lows y u ++ (bitsAt fixL 256 ++ z))))) := by
    unfold mtail
    simp only [List.append_assoc]
    rfl
  rw [h0] at hX
  have h1 := win_open (S := S) (p := p) hraw (show raw.length ≤ most by omega) hX
  have h2 := mat_steps (S := S) (most := most) p (bitsAt fixL 256 ++ z) raw 0 (base257 false) (show 0 < 2 ^ 0 by decide) hb hu hbl hd hm
  obtain ⟨o, ho⟩ : ∃ o, o = grow raw (k + u) (3 + 0) := ⟨_, rfl⟩
  rw [← ho] at h2
  have hs := sym_at fixL_ok 256 (fixL_ln ⟨256, by omega⟩) z
  have hq : (bitsAt fixL 256 ++ z).drop (ln fixL 256) = z := by
    have h := bitsAt_len fixL 256 (ln_lt (fixL_ln ⟨256, by omega⟩))
    rw [← ln_eq fixL 256 (ln_lt (fixL_ln ⟨256, by omega⟩))] at h
    rw [← h]
    exact List.drop_left
  generalize ln fixL 256 = q at hs hq
  have s2 : step (fx false S most p (bitsAt fixL 256 ++ z) o (3 + 0)) = .more { fx false S most p z o (3 + 0) with next := 11 } := by
    show readLiteral (fx false S most p _ o _) = _
    unfold readLiteral fx
    simp only [Option.getD_some, hs]
    rw [if_neg (by decide)]
    unfold readLit close
    rw [if_neg (by decide), if_pos rfl]
    simp only [hq]
    rfl
  exact ⟨_, ⟨(h1.trans h2).snoc s2, by unfold step; rfl⟩, ho, rfl, rfl⟩
theorem win_bad (hraw : raw.length < 65536) (hb : far b false = some (k, y)) (hu : u < 2 ^ y) (hbl : b < 32) (hd : min raw.length S < k + u) (hm : raw.length + 3 ≤ most) {L : List UInt8} (hX : bitsOf L = mtail b y u ++ z) :
    ∃ t, Ends { start false S most with bits := bitsOf (stored raw false ++ L), pushed := p } t 2 := by
  have h0 : mtail b y u ++ z = [true, true, false] ++ (bitsAt fixL 257 ++ (bitsAt fixD b ++ (lows y u ++ (bitsAt fixL 256 ++ z)))) := by
    unfold mtail
    simp only [List.append_assoc]
  rw [h0] at hX
  have h1 := win_open (S := S) (p := p) hraw (show raw.length ≤ most by omega) hX
  have l1 := fixL_ln ⟨257, by omega⟩
  have hl1 : (bitsAt fixL 257).length = ln fixL 257 := by rw [bitsAt_len fixL _ (ln_lt l1), ln_eq fixL _ (ln_lt l1)]
  obtain ⟨R, hR⟩ : ∃ R, R = lows y u ++ (bitsAt fixL 256 ++ z) := ⟨_, rfl⟩
  rw [← hR] at h1
  have hs := sym_at fixL_ok 257 l1 (bitsAt fixD b ++ R)
  have l2 := fixD_ln ⟨b, hbl⟩
  simp only at l1 l2
  have hl2 : (bitsAt fixD b).length = 5 := by rw [bitsAt_len fixD b (by rw [fixD_len]; exact hbl), ← ln_eq fixD b (by rw [fixD_len]; exact hbl), l2]
  have hs2 := sym_at fixD_ok b (by omega) R
  rw [l2] at hs2
  have hly := lows_len y u
  have s1 : step (fx false S most p (bitsAt fixL 257 ++ (bitsAt fixD b ++ R)) raw 0) = .more { fx false S most p (bitsAt fixD b ++ R) raw 3 with next := 10 } := by
    show readLiteral (fx false S most p _ raw 0) = _
    unfold readLiteral fx
    simp only [Option.getD_some, hs]
    rw [if_neg (by decide)]
    unfold readLit
    rw [if_neg (by omega), if_neg (by omega)]
    simp only [start, base257]
    rw [if_neg (by simp [hl1])]
    have e1 : (bitsAt fixL 257 ++ (bitsAt fixD b ++ R)).drop (ln fixL 257) = bitsAt fixD b ++ R := by
      rw [← hl1]; exact List.drop_left
    simp only [Nat.add_zero, e1]
    rfl
  have s2 : step { fx false S most p (bitsAt fixD b ++ R) raw 3 with next := 10 } = .halt 2 := by
    show readDistance { fx false S most p (bitsAt fixD b ++ R) raw 3 with next := 10 } = _
    unfold readDistance fx
    simp only [Option.getD_some, hs2, start]
    rw [if_neg (by omega), if_neg (by decide)]
    unfold readDist
    simp only [hb]
    rw [if_neg (by simp [hl2, hR, hly])]
    have e1 : (bitsAt fixD b ++ R).drop 5 = R := by rw [← hl2]; exact List.drop_left
    have e2 : num (R.take y) = u := by
      rw [hR, List.take_append_of_le_length (by omega), List.take_of_length_le (by omega), num_lows, Nat.mod_eq_of_lt hu]
    rw [e1, e2]
    unfold copied
    rw [if_pos hd]
  exact ⟨_, h1.snoc s1, s2⟩
/-- A last stored block. -/
theorem sto_ends {d r : List UInt8} (hd : d.length < 65536) (hm : d.length ≤ most) :
    ∃ t, Ends { start false S most with bits := bitsOf (stored d true ++ r), pushed := p } t 0 ∧ t.out = d ∧ t.bits = bitsOf r ∧ t.pushed = p := by
  have h2 := stored_steps (s := { start false S most with bits := bitsOf (stored d true ++ r), pushed := p }) (c := d) (r := r) (last := true) rfl rfl hd rfl (by simpa [start] using hm)
  exact ⟨_, ⟨h2, by unfold step; rfl⟩, by simp [start], rfl, rfl⟩
theorem sto_over {d r : List UInt8} (hd : d.length < 65536) (hm : most < d.length) :
    ∃ t, Ends { start false S most with bits := bitsOf (stored d true ++ r), pushed := p } t 3 := by
  obtain ⟨t, ht⟩ := bytes_over d { start false S most with bits := bitsOf (d ++ r), pushed := p, final := true, left := d.length, next := 3 } r rfl rfl rfl (Nat.zero_le _) (by simpa [start] using hm)
  exact ⟨t, .of (head_steps (s := { start false S most with bits := bitsOf (stored d true ++ r), pushed := p }) (c := d) (r := r) (last := true) rfl rfl hd) ht⟩
end InfMath
end

section
/-
  zlib.All of wrapped stored blocks.
-/
namespace Go.Proofs.YtdbcendnibgcaaaGreatDoor.ZlC
open Go.RowKit Go.My ZlMath InfC
open Go.My.NumMath (bytesOf)
open Go.My.AdlerMath (adler adler_lt)
open BitMath (bitsOf bitsOf_len)

/-- What is told of a stored text, with this behind it. -/
noncomputable def sres (d tl : List UInt8) (ratio : Nat) : Nat := if ovr d.length (5 + d.length) ratio = true then 3 else if tl = bytesOf true 4 (adler 1 d) then 0 else 2
theorem sto_code {a : Option Addr} {n c : Nat} {d tl : List UInt8} {most : Nat} (ratio : Nat) (w : World) (hb : Bytes w a n c ([120, 156] ++ (InfMath.stored d true ++ tl))) (hd : d.length ≤ 1000) (ht : tl.length ≤ 100) (hm : d.length ≤ most) (h3 : most ≤ 1073741824) (hO : Ordr w.heap.size w) :
    Calls Tryz.prog 12 #[.slice a n c, .int .i64 (most : Int), .float .f64 ratio] w fun e w' =>
      (∃ ov u, e = .returned (.tuple #[ov, .int .i64 u, .int .i64 (sres d tl ratio : Int)]) ∧ (sres d tl ratio = 0 → u = ((5 + d.length : Nat) : Int) ∧ ∃ oa oc, ov = .slice oa d.length oc ∧ Hid (Own 5 w.heap.size w' (.slice oa d.length oc) d))) ∧ Hid (Below w.heap.size w w') := by
  obtain ⟨t, he, ho, hbits, hp⟩ := InfMath.sto_ends (S := 2 ^ ((120 : UInt8).toNat / 16 + 8)) (most := most) (p := (InfMath.stored d true ++ tl).length) (d := d) (r := tl) (by omega) hm
  have hln := InfMath.stored_len d true
  have hu : usd t = 5 + d.length := by
    unfold usd
    rw [hp, hbits, bitsOf_len, List.length_append, hln]
    omega
  have hdr : (InfMath.stored d true ++ tl).drop (usd t) = tl := by rw [hu, ← hln]; exact List.drop_left
  have hr : res (InfMath.stored d true ++ tl) ratio 0 t = sres d tl ratio := by
    unfold res sres
    rw [if_neg (fun h => h rfl), hdr, ho, hu]
  have hl := hb.len_eq
  rw [List.length_append, List.length_append, hln] at hl
  refine (zall_any a n c 120 156 (InfMath.stored d true ++ tl) most ratio 0 t w hb (by simp at hl; omega) (by decide) h3 hO he (fun _ => by rw [hu, List.length_append, hln]; omega)).mono ?_
  rw [hr, ho, hu]
  rintro e w' ⟨⟨h0, oa, oc, rfl, hown⟩ | ⟨h0, rfl⟩, hbl⟩
  · exact ⟨⟨_, _, by rw [h0]; rfl, fun _ => ⟨rfl, oa, oc, rfl, hown⟩⟩, hbl⟩
  · exact ⟨⟨_, _, rfl, fun h => absurd h h0⟩, hbl⟩
theorem sto_over_code {a : Option Addr} {n c : Nat} {d tl : List UInt8} {most : Nat} (ratio : Nat) (w : World) (hb : Bytes w a n c ([120, 156] ++ (InfMath.stored d true ++ tl))) (hd : d.length ≤ 1000) (ht : tl.length ≤ 100) (hm : most < d.length) (hO : Ordr w.heap.size w) :
    Calls Tryz.prog 12 #[.slice a n c, .int .i64 (most : Int), .float .f64 ratio] w fun e w' =>
      e = .returned (.tuple #[.slice none 0 0, .int .i64 0, .int .i64 3]) ∧ Hid (Below w.heap.size w w') := by
  obtain ⟨t, he⟩ := InfMath.sto_over (S := 2 ^ ((120 : UInt8).toNat / 16 + 8)) (most := most) (p := (InfMath.stored d true ++ tl).length) (d := d) (r := tl) (by omega) hm
  have hln := InfMath.stored_len d true
  have hl := hb.len_eq
  rw [List.length_append, List.length_append, hln] at hl
  have hr : res (InfMath.stored d true ++ tl) ratio 3 t = 3 := by
    unfold res
    rw [if_pos (by decide), if_neg (by decide)]
  refine (zall_any a n c 120 156 (InfMath.stored d true ++ tl) most ratio 3 t w hb (by simp at hl; omega) (by decide) (by omega) hO he (fun h => absurd h (by decide))).mono ?_
  rw [hr]
  rintro e w' ⟨⟨h0, -⟩ | ⟨h0, rfl⟩, hbl⟩
  · exact absurd h0 (by decide)
  · exact ⟨rfl, hbl⟩
end Go.Proofs.YtdbcendnibgcaaaGreatDoor.ZlC
end
