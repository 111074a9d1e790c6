/-
  Blocks as bits: pieces of lengths and distances, tokens in any codes; inflate's machine goes over them. Plain lists: no program, no dump.
-/
import Derived.Test.YtaeoedapaiapdaaInfFx
import Derived.Test.YtaeoedapaiapdaaLzMath
namespace InfMath
open BitMath CanMath TabMath WinMath
open LzMath (Tok)

/-- How often a number is halved until it lies in the first two groups. -/
def gx (size n : Nat) : Nat → Nat
  | 0 => 0
  | f + 1 => if n < 2 * size then 0 else gx size (n / 2) f + 1
theorem gx_end : ∀ (f size n : Nat), n < 2 * size * 2 ^ f → n / 2 ^ gx size n f < 2 * size
  | 0, size, n, h => by simp [gx] at *; exact h
  | f + 1, size, n, h => by
    unfold gx
    split
    · next h2 => simpa using h2
    · have := gx_end f size (n / 2) (by rw [Nat.pow_succ] at h; rw [Nat.div_lt_iff_lt_mul (by omega)]; rw [Nat.mul_assoc]; exact h)
      rw [Nat.pow_succ, Nat.mul_comm (2 ^ _) 2, ← Nat.div_div_eq_div_mul]
      exact this
theorem gx_more : ∀ (f size n k : Nat), k < gx size n f → 2 * size ≤ n / 2 ^ k
  | 0, size, n, k, h => by simp [gx] at h
  | f + 1, size, n, k, h => by
    unfold gx at h
    split at h
    · omega
    · next h2 =>
      cases k with
      | zero => simp; omega
      | succ k =>
        have := gx_more f size (n / 2) k (by omega)
        rw [Nat.pow_succ, Nat.mul_comm (2 ^ _) 2, ← Nat.div_div_eq_div_mul]
        exact this
theorem gx_le (f size n : Nat) : gx size n f ≤ f := by
  induction f generalizing n with
  | zero => simp [gx]
  | succ f ih => unfold gx; split; omega; have := ih (n / 2); omega
theorem gx_at (size n k f : Nat) (h1 : n / 2 ^ k < 2 * size) (h2 : n < 2 * size * 2 ^ f) (h3 : ∀ j, j < k → 2 * size ≤ n / 2 ^ j) : gx size n f = k := by
  rcases Nat.lt_trichotomy (gx size n f) k with h | h | h
  · have := h3 _ h; have := gx_end f size n h2; omega
  · exact h
  · have := gx_more f size n k h; omega

/-- A symbol, its extra bits, their value. -/
structure Pc where
  s : Nat
  x : Nat
  v : Nat
/-- The piece of a number, where symbols come in groups. -/
def grp (n size : Nat) : Pc := ⟨size * gx size n 40 + n / 2 ^ gx size n 40, gx size n 40, n % 2 ^ gx size n 40⟩
def lp (n : Nat) (wide : Bool) : Pc := if 258 < n ∨ n = 258 ∧ wide = false then ⟨285, if wide then 16 else 0, n - if wide then 3 else 258⟩ else ⟨(grp (n - 3) 4).s + 257, (grp (n - 3) 4).x, (grp (n - 3) 4).v⟩
def dp (d : Nat) : Pc := grp (d - 1) 2

theorem grp_sum (n size : Nat) : n / 2 ^ (grp n size).x * 2 ^ (grp n size).x + (grp n size).v = n := by
  unfold grp; simp only; rw [Nat.mul_comm]; exact Nat.div_add_mod _ _
theorem grp_val (n size : Nat) : (grp n size).v < 2 ^ (grp n size).x := Nat.mod_lt _ (Nat.two_pow_pos _)
theorem lp_small : ∀ n : Fin 259, 3 ≤ n.val → ∀ wide : Bool, (n.val < 258 ∨ wide = true) → base (lp n.val wide).s wide = some (n.val - (lp n.val wide).v, (lp n.val wide).x) ∧ (lp n.val wide).v < 2 ^ (lp n.val wide).x ∧ (lp n.val wide).v ≤ n.val ∧ 257 ≤ (lp n.val wide).s ∧ (lp n.val wide).s ≤ 285 ∧ (lp n.val wide).x ≤ 16 := by decide +kernel
theorem lp_base (n : Nat) (wide : Bool) (h1 : 3 ≤ n) (h2 : n ≤ if wide then 65538 else 258) :
    ∃ l, base (lp n wide).s wide = some (l, (lp n wide).x) ∧ l + (lp n wide).v = n ∧ (lp n wide).v < 2 ^ (lp n wide).x ∧ 257 ≤ (lp n wide).s ∧ (lp n wide).s ≤ 285 ∧ (lp n wide).x ≤ 16 := by
  by_cases h : n < 258 ∨ n = 258 ∧ wide = true
  · obtain ⟨a1, a2, a3, a4⟩ := lp_small ⟨n, by rcases h with h | h <;> omega⟩ h1 wide (h.imp_right fun h => h.2)
    exact ⟨_, a1, Nat.sub_add_cancel a3, a2, a4⟩
  · unfold lp
    cases wide
    · simp only [Bool.false_eq_true, if_false] at h2
      obtain rfl : n = 258 := by simp at h; omega
      exact ⟨258, rfl, rfl, by decide, by decide, by decide, by decide⟩
    · simp only [if_true] at h2
      have h3 : 258 < n := by simp at h; omega
      rw [if_pos (.inl h3)]
      refine ⟨3, rfl, by simp only [if_true]; omega, ?_, by simp, by simp, by simp⟩
      simp only [if_true]; omega
theorem dp_far (d : Nat) (wide : Bool) (h1 : 1 ≤ d) (h2 : d ≤ if wide then 65536 else 32768) :
    ∃ l, far (dp d).s wide = some (l, (dp d).x) ∧ l + (dp d).v = d ∧ (dp d).v < 2 ^ (dp d).x ∧ (dp d).s ≤ lastD wide ∧ (dp d).x ≤ 14 := by
  have hd : d ≤ 65536 := by cases wide <;> simp at h2 <;> omega
  have hend := gx_end 40 2 (d - 1) (by omega)
  have hsum := grp_sum (d - 1) 2
  have hval := grp_val (d - 1) 2
  have hmore := gx_more 40 2 (d - 1) (gx 2 (d - 1) 40 - 1)
  unfold dp
  obtain ⟨e, he⟩ : ∃ e, e = gx 2 (d - 1) 40 := ⟨_, rfl⟩
  have hp : grp (d - 1) 2 = ⟨2 * e + (d - 1) / 2 ^ e, e, (d - 1) % 2 ^ e⟩ := by unfold grp; rw [← he]
  rw [hp] at hsum hval ⊢
  rw [← he] at hend hmore
  simp only at *
  obtain ⟨q, hq⟩ : ∃ q, q = (d - 1) / 2 ^ e := ⟨_, rfl⟩
  obtain ⟨v, hv⟩ : ∃ v, v = (d - 1) % 2 ^ e := ⟨_, rfl⟩
  rw [← hq] at hend hsum ⊢
  rw [← hv] at hsum hval ⊢
  by_cases h0 : e = 0
  · subst h0
    simp only [Nat.pow_zero, Nat.mul_one, Nat.mul_zero, Nat.zero_add] at *
    have hv0 : v = 0 := by omega
    refine ⟨1 + q, ?_, by omega, hval, ?_, by omega⟩
    · unfold far
      rw [if_neg (by cases wide <;> simp [lastD] <;> omega), if_pos (by omega)]
    · cases wide <;> simp [lastD] <;> omega
  · have hq2 : 2 ≤ q := by
      have h3 := hmore (by omega)
      have e1 : (d - 1) / 2 ^ e = (d - 1) / 2 ^ (e - 1) / 2 := by
        rw [Nat.div_div_eq_div_mul, ← Nat.pow_succ]; congr 2; omega
      rw [hq, e1]; omega
    have hple : 2 * 2 ^ e ≤ d - 1 := by
      have := Nat.mul_le_mul_right (2 ^ e) hq2
      omega
    have he14 : e ≤ if wide then 14 else 13 := by
      apply Classical.byContradiction
      intro hc
      cases wide
      · simp only [Bool.false_eq_true, if_false] at *
        have := Nat.pow_le_pow_right (n := 2) (by omega) (show 14 ≤ e by omega)
        omega
      · simp only [if_true] at *
        have := Nat.pow_le_pow_right (n := 2) (by omega) (show 15 ≤ e by omega)
        omega
    refine ⟨1 + q * 2 ^ e, ?_, by omega, hval, ?_, by cases wide <;> simp at he14 <;> omega⟩
    · unfold far
      rw [if_neg (by cases wide <;> simp [lastD] at * <;> omega), if_neg (by omega)]
      have e1 : (2 * e + q) / 2 - 1 = e := by omega
      have e2 : 2 + (2 * e + q) % 2 = q := by omega
      rw [e1, e2]
    · cases wide <;> simp [lastD] at * <;> omega

/-! ### tokens in bits -/
def pbits (ls : List Nat) (p : Pc) : List Bool := bitsAt ls p.s ++ lows p.x p.v
def tkb (L D : List Nat) (wide : Bool) (t : Tok) : List Bool := if t.len = 0 then bitsAt L t.byte.toNat else pbits L (lp t.len.toNat wide) ++ pbits D (dp t.dist.toNat)
def tks (L D : List Nat) (wide : Bool) (f : Nat → Tok) : Nat → List Bool
  | 0 => []
  | k + 1 => tks L D wide f k ++ tkb L D wide (f k)
/-- The symbols of a token have codes. -/
def Used (L D : List Nat) (wide : Bool) (t : Tok) : Prop := if t.len = 0 then 1 ≤ ln L t.byte.toNat else 1 ≤ ln L (lp t.len.toNat wide).s ∧ 1 ≤ ln D (dp t.dist.toNat).s

/-- The machine at a place of a stream. -/
structure Bk (wide : Bool) (S most : Nat) (b : List Bool) (o : List UInt8) (nx : Nat) (s : M) : Prop where
  wide : s.wide = wide
  size : s.size = S
  most : s.most = most
  bits : s.bits = b
  hist : s.hist = o
  out : s.out = o
  total : s.total = o.length
  next : s.next = nx
/-- The machine within a block of these codes. -/
structure Bt (wide : Bool) (S most : Nat) (L D : List Nat) (fin : Bool) (b : List Bool) (o : List UInt8) (s : M) : Prop where
  bk : Bk wide S most b o 9 s
  lit : s.lit = some L
  dist : s.dist = some D
  final : s.final = fin
theorem bits_len {ls : List Nat} {i : Nat} (h : 1 ≤ ln ls i) : (bitsAt ls i).length = ln ls i := by rw [bitsAt_len ls i (ln_lt h), ln_eq ls i (ln_lt h)]
theorem drop_bits {ls : List Nat} {i : Nat} (h : 1 ≤ ln ls i) (r : List Bool) : (bitsAt ls i ++ r).drop (ln ls i) = r := by
  rw [List.drop_append_of_le_length (by rw [bits_len h]; omega), List.drop_of_length_le (by rw [bits_len h]; omega), List.nil_append]
theorem drop_lows (n v : Nat) (r : List Bool) : (lows n v ++ r).drop n = r := by
  rw [List.drop_append_of_le_length (by rw [lows_len]; omega), List.drop_of_length_le (by rw [lows_len]; omega), List.nil_append]
theorem take_lows_num {n v : Nat} (h : v < 2 ^ n) (r : List Bool) : num ((lows n v ++ r).take n) = v := by
  rw [List.take_append_of_le_length (by rw [lows_len]; omega), List.take_of_length_le (by rw [lows_len]; omega), num_lows, Nat.mod_eq_of_lt h]

section
variable {wide : Bool} {S most : Nat} {L D : List Nat} {fin : Bool} {r : List Bool} {o : List UInt8} {s : M}
theorem Bt.lit_step (hL : CodeOk L) (c : UInt8) (h1 : 1 ≤ ln L c.toNat) (h : Bt wide S most L D fin (bitsAt L c.toNat ++ r) o s) (hm : o.length < most) :
    ∃ t, Steps s t ∧ Bt wide S most L D fin r (o ++ [c]) t := by
  have hc := c.toNat_lt
  have hs := sym_at hL c.toNat h1 r
  refine ⟨{ put s c with bits := s.bits.drop (ln L c.toNat) }, .one ?_, ?_⟩
  · have e1 : step s = readLiteral s := by unfold step; rw [h.bk.next]; rfl
    rw [e1]
    unfold readLiteral
    have hlit : s.lit.getD [] = L := by rw [h.lit]; rfl
    rw [hlit, h.bk.bits, hs, if_neg (by simp)]
    unfold readLit
    rw [if_pos (by simp only; omega), if_neg (by rw [h.bk.most, h.bk.total]; omega)]
    simp only [UInt8.ofNat_toNat, h.bk.bits]
  · refine ⟨⟨h.bk.wide, h.bk.size, h.bk.most, ?_, by simp only [put, h.bk.hist], by simp only [put, h.bk.out], by simp [put, h.bk.total], h.bk.next⟩, h.lit, h.dist, h.final⟩
    simp only [h.bk.bits, drop_bits h1]
theorem Bt.mat_steps (hL : CodeOk L) (hD : CodeOk D) {a l x v b k y u : Nat} (h1 : 1 ≤ ln L a) (h2 : 1 ≤ ln D b) (ha : base a wide = some (l, x)) (hv : v < 2 ^ x) (hb : far b wide = some (k, y)) (hu : u < 2 ^ y)
    (h : Bt wide S most L D fin (bitsAt L a ++ (lows x v ++ (bitsAt D b ++ (lows y u ++ r)))) o s) (hd : k + u ≤ min o.length S) (hm : o.length + (l + v) ≤ most) :
    ∃ t, Steps s t ∧ Bt wide S most L D fin r (grow o (k + u) (l + v)) t := by
  have ha2 : 257 ≤ a ∧ a ≤ 285 := by
    unfold base at ha
    by_cases h : a < 257 ∨ 285 < a
    · rw [if_pos h] at ha; cases ha
    · omega
  have hs := sym_at hL a h1 (lows x v ++ (bitsAt D b ++ (lows y u ++ r)))
  have hs2 := sym_at hD b h2 (lows y u ++ r)
  have hlx := lows_len x v
  have hly := lows_len y u
  have hla := bits_len h1
  have hlb := bits_len h2
  have s1 : step s = .more { s with bits := bitsAt D b ++ (lows y u ++ r), matching := l + v, next := 10 } := by
    have e1 : step s = readLiteral s := by unfold step; rw [h.bk.next]; rfl
    rw [e1]
    unfold readLiteral
    have hlit : s.lit.getD [] = L := by rw [h.lit]; rfl
    rw [hlit, h.bk.bits, hs, if_neg (by simp)]
    unfold readLit
    rw [if_neg (by simp only; omega), if_neg (by simp only; omega)]
    have ha' : base a s.wide = some (l, x) := by rw [h.bk.wide]; exact ha
    simp only [ha']
    rw [if_neg (by rw [h.bk.bits]; simp [hla, hlx]), h.bk.bits, ← List.drop_drop, drop_bits h1, drop_lows, take_lows_num hv]
  have s2 : step { s with bits := bitsAt D b ++ (lows y u ++ r), matching := l + v, next := 10 } = .more { s with bits := r, matching := l + v, next := 9, hist := grow s.hist (k + u) (l + v), out := s.out ++ copy s.hist (k + u) (l + v), total := s.total + (l + v) } := by
    show readDistance { s with bits := bitsAt D b ++ (lows y u ++ r), matching := l + v, next := 10 } = _
    unfold readDistance
    simp only [h.dist, Option.getD_some, hs2]
    rw [if_neg (by rw [h.bk.most, h.bk.total]; omega), if_neg (by simp)]
    unfold readDist
    have hb' : far b s.wide = some (k, y) := by rw [h.bk.wide]; exact hb
    simp only [hb']
    rw [if_neg (by simp [hlb, hly]), drop_bits h2, take_lows_num hu]
    unfold copied
    simp only
    rw [if_neg (by rw [h.bk.hist, h.bk.size]; omega), ← List.drop_drop, drop_bits h2, drop_lows]
  refine ⟨_, .cons s1 (.one s2), ⟨h.bk.wide, h.bk.size, h.bk.most, rfl, by simp only [h.bk.hist], ?_, ?_, rfl⟩, h.lit, h.dist, h.final⟩
  · simp only [h.bk.hist, h.bk.out]; rw [grow_copy]
  · simp only [h.bk.total]; rw [grow_len]
theorem Bt.stop (hL : CodeOk L) (h1 : 1 ≤ ln L 256) (h : Bt wide S most L D fin (bitsAt L 256 ++ r) o s) : ∃ t, Steps s t ∧ Bk wide S most r o (if fin then 11 else 1) t ∧ t.final = fin := by
  have hs := sym_at hL 256 h1 r
  refine ⟨close { s with bits := s.bits.drop (ln L 256) }, .one ?_, ?_, h.final⟩
  · have e1 : step s = readLiteral s := by unfold step; rw [h.bk.next]; rfl
    rw [e1]
    unfold readLiteral
    have hlit : s.lit.getD [] = L := by rw [h.lit]; rfl
    rw [hlit, h.bk.bits, hs, if_neg (by simp)]
    unfold readLit
    rw [if_neg (by simp), if_pos rfl, h.bk.bits]
  · refine ⟨h.bk.wide, h.bk.size, h.bk.most, ?_, h.bk.hist, h.bk.out, h.bk.total, ?_⟩
    · simp only [close, h.bk.bits, drop_bits h1]
    · simp only [close, h.final]
/-- Right tokens, one behind the other. -/
theorem Bt.tokens (hL : CodeOk L) (hD : CodeOk D) {f : Nat → Tok} {n : Nat} (hG : LzMath.GoodT wide f n) (hU : ∀ i, i < n → Used L D wide (f i)) (hS : 65536 ≤ S) (hm : o.length + LzMath.tot f n ≤ most) :
    ∀ k, k ≤ n → ∀ r, Bt wide S most L D fin (tks L D wide f k ++ r) o s → ∃ t, Steps s t ∧ Bt wide S most L D fin r (o ++ LzMath.ex f k) t
  | 0, _, r, h => ⟨s, .refl _, by simpa [tks, LzMath.ex] using h⟩
  | k + 1, hk, r, h => by
    have hk2 := LzMath.tot_mono f (k + 1) n hk
    rw [tks, List.append_assoc] at h
    obtain ⟨t, h1, h2⟩ := Bt.tokens hL hD hG hU hS hm k (by omega) _ h
    have hok := hG k (by omega)
    have hus := hU k (by omega)
    have hto : LzMath.tot f (k + 1) = LzMath.tot f k + LzMath.sz (f k) := rfl
    have hel := LzMath.ex_len f k
    have hex : LzMath.ex f (k + 1) = LzMath.step (LzMath.ex f k) (f k) := rfl
    rw [hex]
    unfold LzMath.step
    unfold tkb at h2
    unfold Used at hus
    unfold LzMath.sz at hto
    by_cases h0 : (f k).len = 0
    · rw [if_pos h0] at h2 hus hto ⊢
      obtain ⟨u, h3, h4⟩ := h2.lit_step hL (f k).byte hus (by rw [List.length_append, hel]; omega)
      exact ⟨u, h1.trans h3, by rw [← List.append_assoc]; exact h4⟩
    · rw [if_neg h0] at h2 hus hto ⊢
      have hmat : LzMath.Mat wide (f k) := by
        rcases hok.1 with hl | hm2
        · exact absurd hl.1 h0
        · exact hm2
      obtain ⟨-, m1, m2, m3, m4⟩ := hmat
      have hdk := hok.2
      unfold LzMath.ml at m2
      unfold LzMath.md at m4
      obtain ⟨l, a1, a2, a3, a4, a5, a6⟩ := lp_base (f k).len.toNat wide (by omega) (by cases wide <;> simp at * <;> omega)
      obtain ⟨d, b1, b2, b3, b4, b5⟩ := dp_far (f k).dist.toNat wide (by omega) (by cases wide <;> simp at * <;> omega)
      unfold pbits at h2
      simp only [List.append_assoc] at h2
      have hd5 : d + (dp (f k).dist.toNat).v ≤ 65536 := by rw [b2]; cases wide <;> simp at * <;> omega
      obtain ⟨u, h3, h4⟩ := h2.mat_steps hL hD hus.1 hus.2 a1 a3 b1 b3 (by rw [List.length_append, hel]; omega) (by rw [List.length_append, hel, a2]; omega)
      rw [a2, b2] at h4
      refine ⟨u, h1.trans h3, ?_⟩
      rw [LzMath.grow_app _ _ _ _ (by omega) (by rw [hel]; omega)] at h4
      exact h4
end
end InfMath
