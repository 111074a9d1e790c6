/-
  Blocks of all kinds as bits, read by inflate's machine. Plain lists: no program, no dump.
-/
import Derived.Test.YtaeoedapaiapdaaBkHead
namespace InfMath
open BitMath CanMath TabMath WinMath
open LzMath (Tok)

/-- These bits, from bit p on, are blocks of these bytes, the last ones or not. -/
def Rd (wide : Bool) (p : Nat) (X : List Bool) (B : List UInt8) (last : Bool) : Prop :=
  ∀ (S most : Nat) (o : List UInt8) (z : List Bool) (s : M), 65536 ≤ S → o.length + B.length ≤ most → (p + X.length + z.length) % 8 = 0 → Bk wide S most (X ++ z) o 1 s →
    ∃ t, Steps s t ∧ Bk wide S most z (o ++ B) (if last then 11 else 1) t
theorem Rd.app {wide : Bool} {p : Nat} {X Y : List Bool} {A B : List UInt8} {last : Bool} (h : Rd wide p X A false) (k : Rd wide (p + X.length) Y B last) : Rd wide p (X ++ Y) (A ++ B) last := by
  intro S most o z s hS hm h8 hb
  rw [List.length_append] at hm h8
  rw [List.append_assoc] at hb
  obtain ⟨t, h1, h2⟩ := h S most o (Y ++ z) s hS (by omega) (by rw [List.length_append]; omega) hb
  obtain ⟨u, h3, h4⟩ := k S most (o ++ A) z t hS (by rw [List.length_append]; omega) (by omega) h2
  exact ⟨u, h1.trans h3, by rw [← List.append_assoc]; exact h4⟩
theorem Rd.mod {wide : Bool} {p q : Nat} {X : List Bool} {B : List UInt8} {last : Bool} (h : Rd wide p X B last) (e : p % 8 = q % 8) : Rd wide q X B last :=
  fun S most o z s hS hm h8 hb => h S most o z s hS hm (by omega) hb
/-- The kind of a block and whether it is the last one, as a number. -/
def bn (kind : Nat) (last : Bool) : Nat := 2 * kind + if last then 1 else 0
section
variable {wide : Bool} {S most : Nat} {b : List Bool} {o : List UInt8} {s : M}
theorem Bk.open_ {kind : Nat} {last : Bool} (hk : kind ≤ 2) (h : Bk wide S most (lows 3 (bn kind last) ++ b) o 1 s) :
    step s = if kind = 0 then .more { s with bits := b, final := last, next := 2 } else if kind = 1 then .more { s with bits := b, final := last, fixed := true, lit := some fixL, dist := some fixD, next := 9 } else .more { s with bits := b, final := last, next := 4 } := by
  have hn : bn kind last < 8 := by unfold bn; split <;> omega
  have e1 : step s = opening s := by unfold step; rw [h.next]; rfl
  have e2 : num (s.bits.take 3) = bn kind last := by rw [h.bits]; exact take_lows_num hn b
  have e3 : s.bits.drop 3 = b := by rw [h.bits]; exact drop_lows 3 _ b
  have e4 : bn kind last / 2 = kind := by unfold bn; split <;> omega
  have e5 : (bn kind last % 2 == 1) = last := by unfold bn; cases last <;> simp <;> omega
  rw [e1]
  unfold opening
  rw [if_neg (by rw [h.bits]; simp [lows_len]), e2, e3, e4, e5]
  by_cases h0 : kind = 0
  · rw [if_pos h0, if_pos h0]
  · rw [if_neg h0, if_neg h0]
    by_cases h1 : kind = 1
    · rw [if_pos h1, if_pos h1]
    · rw [if_neg h1, if_neg h1, if_pos (by omega)]
end
/-- A block of codes. -/
def blk (L D : List Nat) (wide : Bool) (f : Nat → Tok) (n : Nat) : List Bool := tks L D wide f n ++ bitsAt L 256
theorem Bt.block {wide : Bool} {S most : Nat} {L D : List Nat} {last : Bool} {z : List Bool} {o : List UInt8} {s : M} {f : Nat → Tok} {n : Nat} (hL : CodeOk L) (hD : CodeOk D) (hG : LzMath.GoodT wide f n) (hU : ∀ i, i < n → Used L D wide (f i)) (h256 : 1 ≤ ln L 256)
    (hS : 65536 ≤ S) (hm : o.length + LzMath.tot f n ≤ most) (h : Bt wide S most L D last (blk L D wide f n ++ z) o s) : ∃ t, Steps s t ∧ Bk wide S most z (o ++ LzMath.ex f n) (if last then 11 else 1) t := by
  unfold blk at h
  rw [List.append_assoc] at h
  obtain ⟨t, h1, h2⟩ := Bt.tokens hL hD hG hU hS hm n (Nat.le_refl _) _ h
  obtain ⟨u, h3, h4, -⟩ := h2.stop hL h256
  exact ⟨u, h1.trans h3, h4⟩
theorem fix_used {wide : Bool} {f : Nat → Tok} {n i : Nat} (hG : LzMath.GoodT wide f n) (hi : i < n) : Used fixL fixD wide (f i) := by
  unfold Used
  split
  · have := (f i).byte.toNat_lt
    exact fixL_ln ⟨(f i).byte.toNat, by omega⟩
  · next h0 =>
    have hok := hG i hi
    have hmat : LzMath.Mat wide (f i) := by
      rcases hok.1 with hl | hm2
      · exact absurd hl.1 h0
      · exact hm2
    obtain ⟨-, m1, m2, m3, m4⟩ := hmat
    unfold LzMath.ml at m2
    unfold LzMath.md at m4
    obtain ⟨l, a1, a2, a3, a4, a5, a6⟩ := lp_base (f i).len.toNat wide (by omega) (by cases wide <;> simp at * <;> omega)
    obtain ⟨d, b1, b2, b3, b4, b5⟩ := dp_far (f i).dist.toNat wide (by omega) (by cases wide <;> simp at * <;> omega)
    have hld : lastD wide ≤ 31 := by cases wide <;> decide
    refine ⟨fixL_ln ⟨(lp (f i).len.toNat wide).s, by omega⟩, ?_⟩
    have := fixD_ln ⟨(dp (f i).dist.toNat).s, by omega⟩
    simp only at this
    omega
theorem Rd.fixed {wide : Bool} {p : Nat} {last : Bool} {f : Nat → Tok} {n : Nat} (hG : LzMath.GoodT wide f n) : Rd wide p (lows 3 (bn 1 last) ++ blk fixL fixD wide f n) (LzMath.ex f n) last := by
  intro S most o z s hS hm h8 hb
  rw [LzMath.ex_len] at hm
  rw [List.append_assoc] at hb
  have h1 := hb.open_ (by omega)
  rw [if_neg (by omega), if_pos rfl] at h1
  obtain ⟨t, h2, h3⟩ := Bt.block (wide := wide) (S := S) (most := most) (L := fixL) (D := fixD) (last := last) (z := z) (o := o) (s := { s with bits := blk fixL fixD wide f n ++ z, final := last, fixed := true, lit := some fixL, dist := some fixD, next := 9 }) fixL_ok fixD_ok hG (fun i hi => fix_used hG hi) (fixL_ln ⟨256, by omega⟩) hS hm
    ⟨⟨hb.wide, hb.size, hb.most, rfl, hb.hist, hb.out, hb.total, rfl⟩, rfl, rfl, rfl⟩
  exact ⟨t, .cons h1 h2, h3⟩
theorem Rd.own {wide : Bool} {p : Nat} {last : Bool} {f : Nat → Tok} {n k : Nat} {L D Sh : List Nat} {P : List Pc} (H : HOk wide L D Sh k P) (hL : CodeOk L) (hD : CodeOk D) (hG : LzMath.GoodT wide f n) (hU : ∀ i, i < n → Used L D wide (f i)) (h256 : 1 ≤ ln L 256) :
    Rd wide p (lows 3 (bn 2 last) ++ (hbits L D Sh k P ++ blk L D wide f n)) (LzMath.ex f n) last := by
  intro S most o z s hS hm h8 hb
  rw [LzMath.ex_len] at hm
  rw [List.append_assoc, List.append_assoc] at hb
  have h1 := hb.open_ (by omega)
  rw [if_neg (by omega), if_neg (by omega)] at h1
  obtain ⟨t, h2, h3⟩ := Bh.header (wide := wide) (S := S) (most := most) (fin := last) (o := o) H (blk L D wide f n ++ z) { s with bits := hbits L D Sh k P ++ (blk L D wide f n ++ z), final := last, next := 4 }
    ⟨⟨hb.wide, hb.size, hb.most, rfl, hb.hist, hb.out, hb.total, rfl⟩, rfl⟩
  obtain ⟨u, h4, h5⟩ := Bt.block hL hD hG hU h256 hS hm h3
  exact ⟨u, .cons h1 (h2.trans h4), h5⟩

/-! ### stored blocks -/
def gap (p : Nat) : Nat := (8 - (p + 3) % 8) % 8
/-- A stored block at bit p. -/
def stb (p : Nat) (c : List UInt8) (last : Bool) : List Bool := lows 3 (bn 0 last) ++ List.replicate (gap p) false ++ lows 16 c.length ++ lows 16 (65535 - c.length) ++ bitsOf c
theorem stb_len (p : Nat) (c : List UInt8) (last : Bool) : (stb p c last).length = 3 + gap p + 32 + 8 * c.length := by
  unfold stb; simp only [List.length_append, lows_len, List.length_replicate, bitsOf_len]
theorem bits_steps : ∀ (c : List UInt8) (s : M) (r : List Bool), s.next = 3 → s.bits = bitsOf c ++ r → s.left = c.length → s.total + c.length ≤ s.most →
    Steps s { s with bits := r, left := 0, hist := s.hist ++ c, out := s.out ++ c, total := s.total + c.length }
  | [], s, r, hn, hb, hl, _ => by
    have e : ({ s with bits := r, left := 0, hist := s.hist ++ [], out := s.out ++ [], total := s.total + ([] : List UInt8).length } : M) = s := by
      simp [bitsOf] at hb hl
      cases s; simp_all
    rw [e]; exact .refl s
  | c :: t, s, r, hn, hb, hl, hm => by
    rw [List.length_cons] at hl hm
    rw [bitsOf_cons, List.append_assoc] at hb
    have hc := c.toNat_lt
    have h1 : step s = .more { put s c with bits := bitsOf t ++ r, left := s.left - 1 } := by
      have h1 : step s = readBytes s := by unfold step; rw [hn]; rfl
      rw [h1]
      unfold readBytes
      rw [if_neg (by omega), if_neg (by rw [hb]; simp [lows_len]), if_neg (by omega), hb, take_lows_num (by omega), drop_lows, UInt8.ofNat_toNat]
    have h2 := bits_steps t { put s c with bits := bitsOf t ++ r, left := s.left - 1 } r hn rfl (by simp only; omega) (by simp only [put]; omega)
    refine .cons h1 ?_
    have e : ({ s with bits := r, left := 0, hist := s.hist ++ c :: t, out := s.out ++ c :: t, total := s.total + (c :: t).length } : M) = { ({ put s c with bits := bitsOf t ++ r, left := s.left - 1 } : M) with bits := r, left := 0, hist := (s.hist ++ [c]) ++ t, out := (s.out ++ [c]) ++ t, total := (s.total + 1) + t.length } := by
      simp [put]; omega
    rw [e]; exact h2
theorem Rd.one (wide : Bool) (p : Nat) (c : List UInt8) (last : Bool) (hc : c.length ≤ 65535) : Rd wide p (stb p c last) c last := by
  intro S most o z s hS hm h8 hb
  rw [stb_len] at h8
  have hz : z.length % 8 = 0 := by unfold gap at h8; omega
  unfold stb at hb
  simp only [List.append_assoc] at hb
  have h1 := hb.open_ (by omega)
  rw [if_pos rfl] at h1
  obtain ⟨R, hR⟩ : ∃ R, R = lows 16 c.length ++ (lows 16 (65535 - c.length) ++ (bitsOf c ++ z)) := ⟨_, rfl⟩
  rw [← hR] at h1
  have hRl : R.length % 8 = 0 := by rw [hR]; simp only [List.length_append, lows_len, bitsOf_len]; omega
  have hR32 : 32 ≤ R.length := by rw [hR]; simp only [List.length_append, lows_len, bitsOf_len]; omega
  have hg8 : gap p < 8 := by unfold gap; omega
  have h2 : Steps { s with bits := List.replicate (gap p) false ++ R, final := last, next := 2 } { s with bits := R, final := last, next := 2 } := by
    by_cases hg : gap p = 0
    · rw [hg]; exact .refl _
    · refine .one ?_
      show readSize _ = _
      unfold readSize
      have e : (List.replicate (gap p) false ++ R).length % 8 = gap p := by rw [List.length_append, List.length_replicate]; omega
      simp only [e]
      rw [if_pos hg]
      congr 2
      rw [List.drop_append_of_le_length (by simp), List.drop_of_length_le (by simp), List.nil_append]
  have h3 : step { s with bits := R, final := last, next := 2 } = .more { s with bits := bitsOf c ++ z, final := last, left := c.length, next := 3 } := by
    show readSize _ = _
    unfold readSize
    simp only
    have e1 : num (R.take 16) = c.length := by rw [hR]; exact take_lows_num (by omega) _
    have e2 : R.drop 16 = lows 16 (65535 - c.length) ++ (bitsOf c ++ z) := by rw [hR]; exact drop_lows 16 _ _
    have e3 : R.drop 32 = bitsOf c ++ z := by rw [show (32 : Nat) = 16 + 16 from rfl, ← List.drop_drop, e2]; exact drop_lows 16 _ _
    rw [if_neg (by omega), if_neg (by omega), e2, take_lows_num (by omega), e1, if_neg (by omega), e3]
  have h4 := bits_steps c { s with bits := bitsOf c ++ z, final := last, left := c.length, next := 3 } z rfl rfl rfl (by simp only [hb.total, hb.most]; exact hm)
  have h5 : ∀ u : M, u.next = 3 → u.left = 0 → step u = .more (close u) := by
    intro u e1 e2
    have : step u = readBytes u := by unfold step; rw [e1]; rfl
    rw [this]; unfold readBytes; rw [if_pos e2]
  refine ⟨_, .cons h1 (h2.trans (.cons h3 (h4.snoc (h5 _ rfl rfl)))), ⟨hb.wide, hb.size, hb.most, rfl, by simp only [close, hb.hist], by simp only [close, hb.out], by simp [close, hb.total], rfl⟩⟩
/-- As many stored blocks as the bytes need. -/
def stbs (p : Nat) (b : List UInt8) (last : Bool) : List Bool :=
  if _h : 65535 < b.length then stb p (b.take 65535) false ++ stbs (p + (stb p (b.take 65535) false).length) (b.drop 65535) last else stb p b last
termination_by b.length
decreasing_by simp; omega
theorem stbs_one (p : Nat) (b : List UInt8) (last : Bool) (h : b.length ≤ 65535) : stbs p b last = stb p b last := by rw [stbs, dif_neg (by omega)]
theorem stbs_more (p : Nat) (b : List UInt8) (last : Bool) (h : 65535 < b.length) : stbs p b last = stb p (b.take 65535) false ++ stbs (p + (stb p (b.take 65535) false).length) (b.drop 65535) last := by
  conv => lhs; rw [stbs, dif_pos h]
theorem Rd.stored (wide : Bool) (last : Bool) (n p : Nat) (b : List UInt8) (hn : b.length ≤ n) : Rd wide p (stbs p b last) b last := by
  induction n generalizing p b with
  | zero =>
    have h0 : b.length ≤ 65535 := Nat.le_trans hn (Nat.zero_le _)
    rw [stbs_one p b last h0]
    exact Rd.one wide p b last h0
  | succ n ih =>
    by_cases h : 65535 < b.length
    · rw [stbs_more p b last h]
      have e : b = b.take 65535 ++ b.drop 65535 := (List.take_append_drop 65535 b).symm
      obtain ⟨x, hx⟩ : ∃ x, x = b.take 65535 := ⟨_, rfl⟩
      obtain ⟨y, hy⟩ : ∃ y, y = b.drop 65535 := ⟨_, rfl⟩
      rw [← hx, ← hy] at e ⊢
      have hxl : x.length ≤ 65535 := by rw [hx, List.length_take]; exact Nat.min_le_left _ _
      have hyl : y.length ≤ n := by rw [hy, List.length_drop]; omega
      rw [e]
      exact (Rd.one wide p x false hxl).app (ih _ y hyl)
    · have h0 : b.length ≤ 65535 := Nat.le_of_not_lt h
      rw [stbs_one p b last h0]
      exact Rd.one wide p b last h0
set_option maxRecDepth 100000 in
theorem stbs_len (n p : Nat) (b : List UInt8) (last : Bool) (hn : b.length ≤ n) : (stbs p b last).length = 3 + gap p + 8 * (b.length + 5 * (max 1 ((b.length + 65534) / 65535)) - 1) := by
  induction n generalizing p b with
  | zero =>
    rw [stbs_one p b last (Nat.le_trans hn (Nat.zero_le _)), stb_len]
    omega
  | succ n ih =>
    by_cases h : 65535 < b.length
    · obtain ⟨x, hx⟩ : ∃ x, x = b.take 65535 := ⟨_, rfl⟩
      obtain ⟨y, hy⟩ : ∃ y, y = b.drop 65535 := ⟨_, rfl⟩
      have hxl : x.length = 65535 := by rw [hx, List.length_take]; omega
      have hyl : y.length = b.length - 65535 := by rw [hy, List.length_drop]
      rw [stbs_more p b last h, ← hx, ← hy, List.length_append, stb_len, hxl, ih _ y (by omega), hyl]
      have e : gap (p + (3 + gap p + 32 + 8 * 65535)) = 5 := by unfold gap; omega
      rw [e]
      have e2 : max 1 ((b.length + 65534) / 65535) = max 1 ((b.length - 65535 + 65534) / 65535) + 1 := by omega
      rw [e2]
      generalize max 1 ((b.length - 65535 + 65534) / 65535) = m
      omega
    · rw [stbs_one p b last (Nat.le_of_not_lt h), stb_len]
      omega
end InfMath
