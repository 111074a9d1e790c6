import Derived.Test.YtbjjkhlebdaoaaaDoorMgM
import Derived.Test.YtbjjkhlebdaoaaaDoorMgB
import Derived.Test.YtbjjkhlebdaoaaaDoorMgK

section
/-
  Blocks as bits: pieces of lengths and distances, tokens in any codes; inflate's machine goes over them. Plain lists: no program, no dump.
-/
namespace InfMath
open BitMath CanMath TabMath WinMath
open LzMath (Tok)

/-- How often a number is halved until it lies in the first two groups. -/
def gx (size n : Nat) : Nat → Nat
  | 0 => 0
  | f + 1 => if n < 2 * size then 0 else gx size (n / 2) f + 1
theorem gx_end : ∀ (f size n : Nat), n < 2 * size * 2 ^ f → n / 2 ^ gx size n f < 2 * size
  | 0, size, n, h => by simp [gx] at *; exact h
  | f + 1, size, n, h => by
    unfold gx
    split
    · next h2 => simpa using h2
    · have := gx_end f size (n / 2) (by rw [Nat.pow_succ] at h; rw [Nat.div_lt_iff_lt_mul (by omega)]; rw [Nat.mul_assoc]; exact h)
      rw [Nat.pow_succ, Nat.mul_comm (2 ^ _) 2, ← Nat.div_div_eq_div_mul]
      exact this
theorem gx_more : ∀ (f size n k : Nat), k < gx size n f → 2 * size ≤ n / 2 ^ k
  | 0, size, n, k, h => by simp [gx] at h
  | f + 1, size, n, k, h => by
    unfold gx at h
    split at h
    · omega
    · next h2 =>
      cases k with
      | zero => simp; omega
      | succ k =>
        have := gx_more f size (n / 2) k (by omega)
        rw [Nat.pow_succ, Nat.mul_comm (2 ^ _) 2, ← Nat.div_div_eq_div_mul]
        exact this
theorem gx_le (f size n : Nat) : gx size n f ≤ f := by
  induction f generalizing n with
  | zero => simp [gx]
  | succ f ih => unfold gx; split; omega; have := ih (n / 2); omega
/-- A symbol, its extra bits, their value. -/
structure Pc where
  s : Nat
  x : Nat
  v : Nat
/-- The piece of a number, where symbols come in groups. -/
def grp (n size : Nat) : Pc := ⟨size * gx size n 40 + n / 2 ^ gx size n 40, gx size n 40, n % 2 ^ gx size n 40⟩
def lp (n : Nat) (wide : Bool) : Pc := if 258 < n ∨ n = 258 ∧ wide = false then ⟨285, if wide then 16 else 0, n - if wide then 3 else 258⟩ else ⟨(grp (n - 3) 4).s + 257, (grp (n - 3) 4).x, (grp (n - 3) 4).v⟩
def dp (d : Nat) : Pc := grp (d - 1) 2

theorem grp_sum (n size : Nat) : n / 2 ^ (grp n size).x * 2 ^ (grp n size).x + (grp n size).v = n := by
  unfold grp; simp only; rw [Nat.mul_comm]; exact Nat.div_add_mod _ _
theorem grp_val (n size : Nat) : (grp n size).v < 2 ^ (grp n size).x := Nat.mod_lt _ (Nat.two_pow_pos _)
theorem lp_small : ∀ n : Fin 259, 3 ≤ n.val → ∀ wide : Bool, (n.val < 258 ∨ wide = true) → base (lp n.val wide).s wide = some (n.val - (lp n.val wide).v, (lp n.val wide).x) ∧ (lp n.val wide).v < 2 ^ (lp n.val wide).x ∧ (lp n.val wide).v ≤ n.val ∧ 257 ≤ (lp n.val wide).s ∧ (lp n.val wide).s ≤ 285 ∧ (lp n.val wide).x ≤ 16 := by decide +kernel
theorem lp_base (n : Nat) (wide : Bool) (h1 : 3 ≤ n) (h2 : n ≤ if wide then 65538 else 258) :
    ∃ l, base (lp n wide).s wide = some (l, (lp n wide).x) ∧ l + (lp n wide).v = n ∧ (lp n wide).v < 2 ^ (lp n wide).x ∧ 257 ≤ (lp n wide).s ∧ (lp n wide).s ≤ 285 ∧ (lp n wide).x ≤ 16 := by
  by_cases h : n < 258 ∨ n = 258 ∧ wide = true
  · obtain ⟨a1, a2, a3, a4⟩ := lp_small ⟨n, by rcases h with h | h <;> omega⟩ h1 wide (h.imp_right fun h => h.2)
    exact ⟨_, a1, Nat.sub_add_cancel a3, a2, a4⟩
  · unfold lp
    cases wide
    · simp only [Bool.false_eq_true, if_false] at h2
      obtain rfl : n = 258 := by simp at h; omega
      exact ⟨258, rfl, rfl, by decide, by decide, by decide, by decide⟩
    · simp only [if_true] at h2
      have h3 : 258 < n := by simp at h; omega
      rw [if_pos (.inl h3)]
      refine ⟨3, rfl, by simp only [if_true]; omega, ?_, by simp, by simp, by simp⟩
      simp only [if_true]; omega
theorem dp_far (d : Nat) (wide : Bool) (h1 : 1 ≤ d) (h2 : d ≤ if wide then 65536 else 32768) :
    ∃ l, far (dp d).s wide = some (l, (dp d).x) ∧ l + (dp d).v = d ∧ (dp d).v < 2 ^ (dp d).x ∧ (dp d).s ≤ lastD wide ∧ (dp d).x ≤ 14 := by
  have hd : d ≤ 65536 := by cases wide <;> simp at h2 <;> omega
  have hend := gx_end 40 2 (d - 1) (by omega)
  have hsum := grp_sum (d - 1) 2
  have hval := grp_val (d - 1) 2
  have hmore := gx_more 40 2 (d - 1) (gx 2 (d - 1) 40 - 1)
  unfold dp
  obtain ⟨e, he⟩ : ∃ e, e = gx 2 (d - 1) 40 := ⟨_, rfl⟩
  have hp : grp (d - 1) 2 = ⟨2 * e + (d - 1) / 2 ^ e, e, (d - 1) % 2 ^ e⟩ := by unfold grp; rw [← he]
  rw [hp] at hsum hval ⊢
  rw [← he] at hend hmore
  simp only at *
  obtain ⟨q, hq⟩ : ∃ q, q = (d - 1) / 2 ^ e := ⟨_, rfl⟩
  obtain ⟨v, hv⟩ : ∃ v, v = (d - 1) % 2 ^ e := ⟨_, rfl⟩
  rw [← hq] at hend hsum ⊢
  rw [← hv] at hsum hval ⊢
  by_cases h0 : e = 0
  · subst h0
    simp only [Nat.pow_zero, Nat.mul_one, Nat.mul_zero, Nat.zero_add] at *
    have hv0 : v = 0 := by omega
    refine ⟨1 + q, ?_, by omega, hval, ?_, by omega⟩
    · unfold far
      rw [if_neg (by cases wide <;> simp [lastD] <;> omega), if_pos (by omega)]
    · cases wide <;> simp [lastD] <;> omega
  · have hq2 : 2 ≤ q := by
      have h3 := hmore (by omega)
      have e1 : (d - 1) / 2 ^ e = (d - 1) / 2 ^ (e - 1) / 2 := by
        rw [Nat.div_div_eq_div_mul, ← Nat.pow_succ]; congr 2; omega
      rw [hq, e1]; omega
    have hple : 2 * 2 ^ e ≤ d - 1 := by
      have := Nat.mul_le_mul_right (2 ^ e) hq2
      omega
    have he14 : e ≤ if wide then 14 else 13 := by
      apply Classical.byContradiction
      intro hc
      cases wide
      · simp only [Bool.false_eq_true, if_false] at *
        have := Nat.pow_le_pow_right (n := 2) (by omega) (show 14 ≤ e by omega)
        omega
      · simp only [if_true] at *
        have := Nat.pow_le_pow_right (n := 2) (by omega) (show 15 ≤ e by omega)
        omega
    refine ⟨1 + q * 2 ^ e, ?_, by omega, hval, ?_, by cases wide <;> simp at he14 <;> omega⟩
    · unfold far
      rw [if_neg (by cases wide <;> simp [lastD] at * <;> omega), if_neg (by omega)]
      have e1 : (2 * e + q) / 2 - 1 = e := by omega
      have e2 : 2 + (2 * e + q) % 2 = q := by omega
      rw [e1, e2]
    · cases wide <;> simp [lastD] at * <;> omega

/-! ### tokens in bits -/
def pbits (ls : List Nat) (p : Pc) : List Bool := bitsAt ls p.s ++ lows p.x p.v
def tkb (L D : List Nat) (wide : Bool) (t : Tok) : List Bool := if t.len = 0 then bitsAt L t.byte.toNat else pbits L (lp t.len.toNat wide) ++ pbits D (dp t.dist.toNat)
def tks (L D : List Nat) (wide : Bool) (f : Nat → Tok) : Nat → List Bool
  | 0 => []
  | k + 1 => tks L D wide f k ++ tkb L D wide (f k)
/-- The symbols of a token have codes. -/
def Used (L D : List Nat) (wide : Bool) (t : Tok) : Prop := if t.len = 0 then 1 ≤ ln L t.byte.toNat else 1 ≤ ln L (lp t.len.toNat wide).s ∧ 1 ≤ ln D (dp t.dist.toNat).s

/-- The machine at a place of a stream. -/
structure Bk (wide : Bool) (S most : Nat) (b : List Bool) (o : List UInt8) (nx : Nat) (s : M) : Prop where
  wide : s.wide = wide
  size : s.size = S
  most : s.most = most
  bits : s.bits = b
  hist : s.hist = o
  out : s.out = o
  total : s.total = o.length
  next : s.next = nx
/-- The machine within a block of these codes. -/
structure Bt (wide : Bool) (S most : Nat) (L D : List Nat) (fin : Bool) (b : List Bool) (o : List UInt8) (s : M) : Prop where
  bk : Bk wide S most b o 9 s
  lit : s.lit = some L
  dist : s.dist = some D
  final : s.final = fin
theorem bits_len {ls : List Nat} {i : Nat} (h : 1 ≤ ln ls i) : (bitsAt ls i).length = ln ls i := by rw [bitsAt_len ls i (ln_lt h), ln_eq ls i (ln_lt h)]
theorem drop_bits {ls : List Nat} {i : Nat} (h : 1 ≤ ln ls i) (r : List Bool) : (bitsAt ls i ++ r).drop (ln ls i) = r := by
  rw [List.drop_append_of_le_length (by rw [bits_len h]; omega), List.drop_of_length_le (by rw [bits_len h]; omega), List.nil_append]
theorem drop_lows (n v : Nat) (r : List Bool) : (lows n v ++ r).drop n = r := by
  rw [List.drop_append_of_le_length (by rw [lows_len]; omega), List.drop_of_length_le (by rw [lows_len]; omega), List.nil_append]
theorem take_lows_num {n v : Nat} (h : v < 2 ^ n) (r : List Bool) : num ((lows n v ++ r).take n) = v := by
  rw [List.take_append_of_le_length (by rw [lows_len]; omega), List.take_of_length_le (by rw [lows_len]; omega), num_lows, Nat.mod_eq_of_lt h]

section
variable {wide : Bool} {S most : Nat} {L D : List Nat} {fin : Bool} {r : List Bool} {o : List UInt8} {s : M}
theorem Bt.lit_step (hL : CodeOk L) (c : UInt8) (h1 : 1 ≤ ln L c.toNat) (h : Bt wide S most L D fin (bitsAt L c.toNat ++ r) o s) (hm : o.length < most) :
    ∃ t, Steps s t ∧ Bt wide S most L D fin r (o ++ [c]) t := by
  have hc := c.toNat_lt
  have hs := sym_at hL c.toNat h1 r
  refine ⟨{ put s c with bits := s.bits.drop (ln L c.toNat) }, .one ?_, ?_⟩
  · have e1 : step s = readLiteral s := by unfold step; rw [h.bk.next]; rfl
    rw [e1]
    unfold readLiteral
    have hlit : s.lit.getD [] = L := by rw [h.lit]; rfl
    rw [hlit, h.bk.bits, hs, if_neg (by simp)]
    unfold readLit
    rw [if_pos (by simp only; omega), if_neg (by rw [h.bk.most, h.bk.total]; omega)]
    simp only [UInt8.ofNat_toNat, h.bk.bits]
  · refine ⟨⟨h.bk.wide, h.bk.size, h.bk.most, ?_, by simp only [put, h.bk.hist], by simp only [put, h.bk.out], by simp [put, h.bk.total], h.bk.next⟩, h.lit, h.dist, h.final⟩
    simp only [h.bk.bits, drop_bits h1]
theorem Bt.mat_steps (hL : CodeOk L) (hD : CodeOk D) {a l x v b k y u : Nat} (h1 : 1 ≤ ln L a) (h2 : 1 ≤ ln D b) (ha : base a wide = some (l, x)) (hv : v < 2 ^ x) (hb : far b wide = some (k, y)) (hu : u < 2 ^ y)
    (h : Bt wide S most L D fin (bitsAt L a ++ (lows x v ++ (bitsAt D b ++ (lows y u ++ r)))) o s) (hd : k + u ≤ min o.length S) (hm : o.length + (l + v) ≤ most) :
    ∃ t, Steps s t ∧ Bt wide S most L D fin r (grow o (k + u) (l + v)) t := by
  have ha2 : 257 ≤ a ∧ a ≤ 285 := by
    unfold base at ha
    by_cases h : a < 257 ∨ 285 < a
    · rw [if_pos h] at ha; cases ha
    · omega
  have hs := sym_at hL a h1 (lows x v ++ (bitsAt D b ++ (lows y u ++ r)))
  have hs2 := sym_at hD b h2 (lows y u ++ r)
  have hlx := lows_len x v
  have hly := lows_len y u
  have hla := bits_len h1
  have hlb := bits_len h2
  have s1 : step s = .more { s with bits := bitsAt D b ++ (lows y u ++ r), matching := l + v, next := 10 } := by
    have e1 : step s = readLiteral s := by unfold step; rw [h.bk.next]; rfl
    rw [e1]
    unfold readLiteral
    have hlit : s.lit.getD [] = L := by rw [h.lit]; rfl
    rw [hlit, h.bk.bits, hs, if_neg (by simp)]
    unfold readLit
    rw [if_neg (by simp only; omega), if_neg (by simp only; omega)]
    have ha' : base a s.wide = some (l, x) := by rw [h.bk.wide]; exact ha
    simp only [ha']
    rw [if_neg (by rw [h.bk.bits]; simp [hla, hlx]), h.bk.bits, ← List.drop_drop, drop_bits h1, drop_lows, take_lows_num hv]
  have s2 : step { s with bits := bitsAt D b ++ (lows y u ++ r), matching := l + v, next := 10 } = .more { s with bits := r, matching := l + v, next := 9, hist := grow s.hist (k + u) (l + v), out := s.out ++ copy s.hist (k + u) (l + v), total := s.total + (l + v) } := by
    show readDistance { s with bits := bitsAt D b ++ (lows y u ++ r), matching := l + v, next := 10 } = _
    unfold readDistance
    simp only [h.dist, Option.getD_some, hs2]
    rw [if_neg (by rw [h.bk.most, h.bk.total]; omega), if_neg (by simp)]
    unfold readDist
    have hb' : far b s.wide = some (k, y) := by rw [h.bk.wide]; exact hb
    simp only [hb']
    rw [if_neg (by simp [hlb, hly]), drop_bits h2, take_lows_num hu]
    unfold copied
    simp only
    rw [if_neg (by rw [h.bk.hist, h.bk.size]; omega), ← List.drop_drop, drop_bits h2, drop_lows]
  refine ⟨_, .cons s1 (.one s2), ⟨h.bk.wide, h.bk.size, h.bk.most, rfl, by simp only [h.bk.hist], ?_, ?_, rfl⟩, h.lit, h.dist, h.final⟩
  · simp only [h.bk.hist, h.bk.out]; rw [grow_copy]
  · simp only [h.bk.total]; rw [grow_len]
theorem Bt.stop (hL : CodeOk L) (h1 : 1 ≤ ln L 256) (h : Bt wide S most L D fin (bitsAt L 256 ++ r) o s) : ∃ t, Steps s t ∧ Bk wide S most r o (if fin then 11 else 1) t ∧ t.final = fin := by
  have hs := sym_at hL 256 h1 r
  refine ⟨close { s with bits := s.bits.drop (ln L 256) }, .one ?_, ?_, h.final⟩
  · have e1 : step s = readLiteral s := by unfold step; rw [h.bk.next]; rfl
    rw [e1]
    unfold readLiteral
    have hlit : s.lit.getD [] = L := by rw [h.lit]; rfl
    rw [hlit, h.bk.bits, hs, if_neg (by simp)]
    unfold readLit
    rw [if_neg (by simp), if_pos rfl, h.bk.bits]
  · refine ⟨h.bk.wide, h.bk.size, h.bk.most, ?_, h.bk.hist, h.bk.out, h.bk.total, ?_⟩
    · simp only [close, h.bk.bits, drop_bits h1]
    · simp only [close, h.final]
/-- Right tokens, one behind the other. -/
theorem Bt.tokens (hL : CodeOk L) (hD : CodeOk D) {f : Nat → Tok} {n : Nat} (hG : LzMath.GoodT wide f n) (hU : ∀ i, i < n → Used L D wide (f i)) (hS : (if wide then 65536 else 32768) ≤ S) (hm : o.length + LzMath.tot f n ≤ most) :
    ∀ k, k ≤ n → ∀ r, Bt wide S most L D fin (tks L D wide f k ++ r) o s → ∃ t, Steps s t ∧ Bt wide S most L D fin r (o ++ LzMath.ex f k) t
  | 0, _, r, h => ⟨s, .refl _, by simpa [tks, LzMath.ex] using h⟩
  | k + 1, hk, r, h => by
    have hk2 := LzMath.tot_mono f (k + 1) n hk
    rw [tks, List.append_assoc] at h
    obtain ⟨t, h1, h2⟩ := Bt.tokens hL hD hG hU hS hm k (by omega) _ h
    have hok := hG k (by omega)
    have hus := hU k (by omega)
    have hto : LzMath.tot f (k + 1) = LzMath.tot f k + LzMath.sz (f k) := rfl
    have hel := LzMath.ex_len f k
    have hex : LzMath.ex f (k + 1) = LzMath.step (LzMath.ex f k) (f k) := rfl
    rw [hex]
    unfold LzMath.step
    unfold tkb at h2
    unfold Used at hus
    unfold LzMath.sz at hto
    by_cases h0 : (f k).len = 0
    · rw [if_pos h0] at h2 hus hto ⊢
      obtain ⟨u, h3, h4⟩ := h2.lit_step hL (f k).byte hus (by rw [List.length_append, hel]; omega)
      exact ⟨u, h1.trans h3, by rw [← List.append_assoc]; exact h4⟩
    · rw [if_neg h0] at h2 hus hto ⊢
      have hmat : LzMath.Mat wide (f k) := by
        rcases hok.1 with hl | hm2
        · exact absurd hl.1 h0
        · exact hm2
      obtain ⟨-, m1, m2, m3, m4⟩ := hmat
      have hdk := hok.2
      unfold LzMath.ml at m2
      unfold LzMath.md at m4
      obtain ⟨l, a1, a2, a3, a4, a5, a6⟩ := lp_base (f k).len.toNat wide (by omega) (by cases wide <;> simp at * <;> omega)
      obtain ⟨d, b1, b2, b3, b4, b5⟩ := dp_far (f k).dist.toNat wide (by omega) (by cases wide <;> simp at * <;> omega)
      unfold pbits at h2
      simp only [List.append_assoc] at h2
      have hd5 : d + (dp (f k).dist.toNat).v ≤ S := by rw [b2]; cases wide <;> simp at * <;> omega
      obtain ⟨u, h3, h4⟩ := h2.mat_steps hL hD hus.1 hus.2 a1 a3 b1 b3 (by rw [List.length_append, hel]; omega) (by rw [List.length_append, hel, a2]; omega)
      rw [a2, b2] at h4
      refine ⟨u, h1.trans h3, ?_⟩
      rw [LzMath.grow_app _ _ _ _ (by omega) (by rw [hel]; omega)] at h4
      exact h4
end
end InfMath
end

section
/-
  The header of a block with codes of its own: lengths told by pieces; inflate's machine reads them. Plain lists: no program, no dump.
-/
namespace InfMath
open BitMath CanMath TabMath WinMath

/-- Pieces that tell these lengths, from those that are told already on. -/
def Sp : List Nat → List Pc → List Nat → Prop
  | done, [], all => done = all
  | done, p :: ps, all => p.s ≤ 18 ∧ p.x = extra p.s ∧ p.v < 2 ^ p.x ∧ (p.s = 16 → done ≠ []) ∧ Sp (done ++ List.replicate (least p.s + p.v) (length_ p.s done)) ps all
/-- Pieces that tell n lengths more, all the same, where this holds of what is told already. -/
def Says (P : List Nat → Prop) (q : List Pc) (len n : Nat) : Prop := ∀ done, P done → ∀ ps all, Sp (done ++ List.replicate n len) ps all → Sp done (q ++ ps) all
theorem Says.nil (P : List Nat → Prop) (len : Nat) : Says P [] len 0 := fun done _ ps all h => by simpa using h
theorem Says.app {P : List Nat → Prop} {q r : List Pc} {len n m : Nat} (h : Says P q len n) {R : List Nat → Prop} (k : Says R r len m) (hR : ∀ done, P done → R (done ++ List.replicate n len)) : Says P (q ++ r) len (n + m) := by
  intro done hd ps all hs
  rw [List.append_assoc]
  refine h done hd _ all (k _ (hR done hd) ps all ?_)
  rw [List.append_assoc, List.replicate_append_replicate]
  exact hs
/-- A length by itself. -/
theorem Says.one (P : List Nat → Prop) (len : Nat) (h : len ≤ 15) : Says P [⟨len, 0, 0⟩] len 1 := by
  intro done _ ps all hs
  have e1 : extra len = 0 := by unfold extra; rw [if_neg (by omega), if_neg (by omega), if_neg (by omega)]
  have e2 : least len = 1 := by unfold least; rw [if_neg (by omega), if_neg (by omega), if_neg (by omega)]
  have e3 : length_ len done = len := by unfold length_; rw [if_neg (by omega), if_neg (by omega), if_neg (by omega)]
  show len ≤ 18 ∧ (0 : Nat) = extra len ∧ 0 < 2 ^ 0 ∧ (len = 16 → done ≠ []) ∧ Sp (done ++ List.replicate (least len + 0) (length_ len done)) ps all
  rw [e1, e2, e3]
  exact ⟨by omega, rfl, by omega, by omega, hs⟩
theorem Says.zeros17 (P : List Nat → Prop) (v : Nat) (h : v < 8) : Says P [⟨17, 3, v⟩] 0 (3 + v) := fun done _ ps all hs => ⟨by simp, rfl, by simpa using h, by simp, hs⟩
theorem Says.zeros18 (P : List Nat → Prop) (v : Nat) (h : v < 128) : Says P [⟨18, 7, v⟩] 0 (11 + v) := fun done _ ps all hs => ⟨by simp, rfl, by simpa using h, by simp, hs⟩
/-- The last one that is told is this. -/
def LastIs (len : Nat) (done : List Nat) : Prop := done.getLast? = some len
theorem Says.again16 (len v : Nat) (h : v < 4) : Says (LastIs len) [⟨16, 2, v⟩] len (3 + v) := by
  intro done hd ps all hs
  have e : length_ 16 done = len := by
    unfold length_; rw [if_pos rfl, List.getLastD_eq_getLast?]
    unfold LastIs at hd; rw [hd]; rfl
  refine ⟨by simp, rfl, by simpa using h, fun _ h0 => by subst h0; simp [LastIs] at hd, ?_⟩
  show Sp (done ++ List.replicate (least 16 + v) (length_ 16 done)) ps all
  rw [e]
  exact hs
theorem last_rep {len n : Nat} {done : List Nat} (h : LastIs len done) : LastIs len (done ++ List.replicate n len) := by
  unfold LastIs at *
  cases n with
  | zero => simpa using h
  | succ n => rw [List.replicate_succ', ← List.append_assoc, List.getLast?_append]; simp
/-! ### the pieces that the program takes -/
/-- n equal lengths by repeats (from l to m of them, x bits): the pieces, and how many are left. -/
def rpt (s l m x : Nat) (n : Nat) : List Pc × Nat :=
  if _h : 0 < m ∧ 0 < n ∧ l ≤ n then (⟨s, x, min n m - l⟩ :: (rpt s l m x (n - min n m)).1, (rpt s l m x (n - min n m)).2) else ([], n)
termination_by n
decreasing_by all_goals omega
theorem rpt_more {s l m x n : Nat} (h1 : 1 ≤ l) (h2 : l ≤ m) (h3 : l ≤ n) : rpt s l m x n = (⟨s, x, min n m - l⟩ :: (rpt s l m x (n - min n m)).1, (rpt s l m x (n - min n m)).2) := by
  rw [rpt, dif_pos ⟨by omega, by omega, h3⟩]
theorem rpt_end {s l m x n : Nat} (h : n < l) : rpt s l m x n = ([], n) := by rw [rpt, dif_neg (by omega)]
/-- .. and one by one. -/
def tel (len n : Nat) : List Pc :=
  if len = 0 then (rpt 18 11 138 7 n).1 ++ (rpt 17 3 10 3 (rpt 18 11 138 7 n).2).1 ++ List.replicate (rpt 17 3 10 3 (rpt 18 11 138 7 n).2).2 ⟨0, 0, 0⟩
  else ⟨len, 0, 0⟩ :: (rpt 16 3 6 2 (n - 1)).1 ++ List.replicate (rpt 16 3 6 2 (n - 1)).2 ⟨len, 0, 0⟩
theorem tel_many {n j J : Nat} {Q R : List Pc} (h1 : rpt 18 11 138 7 n = (Q, j)) (h2 : rpt 17 3 10 3 j = (R, J)) : tel 0 n = (Q ++ R) ++ List.replicate J ⟨0, 0, 0⟩ := by
  unfold tel; rw [if_pos rfl]; simp only [h1, h2]
theorem tel_few {n J : Nat} {R : List Pc} (h0 : n < 11) (h2 : rpt 17 3 10 3 n = (R, J)) : tel 0 n = R ++ List.replicate J ⟨0, 0, 0⟩ := tel_many (rpt_end h0) h2
theorem tel_len {len n J : Nat} {R : List Pc} (h0 : ¬ len = 0) (h2 : rpt 16 3 6 2 (n - 1) = (R, J)) : tel len n = ([⟨len, 0, 0⟩] ++ R) ++ List.replicate J ⟨len, 0, 0⟩ := by
  unfold tel; rw [if_neg h0]; simp only [h2]; rfl
/-- How many are equal from the first on. -/
def rn : List Nat → Nat
  | [] => 0
  | x :: t => 1 + (t.takeWhile (· == x)).length
theorem take_while {t : List Nat} {x n : Nat} (hn : n ≤ t.length) (h : ∀ i, i < n → t.getD i 0 = x) (he : n = t.length ∨ t.getD n 0 ≠ x) : (t.takeWhile (· == x)).length = n := by
  induction t generalizing n with
  | nil => simp at hn; subst hn; rfl
  | cons y t ih =>
    cases n with
    | zero =>
      rcases he with he | he
      · simp at he
      · have : (y == x) = false := by simpa using he
        rw [List.takeWhile_cons, this]; rfl
    | succ n =>
      have h0 : y = x := h 0 (by omega)
      have : (y == x) = true := by simp [h0]
      rw [List.takeWhile_cons, this, if_pos rfl, List.length_cons, ih (n := n) (by simpa using hn) (fun i hi => h (i + 1) (by omega)) (he.imp (fun e => by simpa using e) fun e => e)]
theorem rn_of {ls : List Nat} {n : Nat} (h1 : 1 ≤ n) (hn : n ≤ ls.length) (h : ∀ i, i < n → ls.getD i 0 = ls.getD 0 0) (he : n = ls.length ∨ ls.getD n 0 ≠ ls.getD 0 0) : rn ls = n := by
  cases ls with
  | nil => simp at hn; omega
  | cons x t =>
    obtain ⟨k, rfl⟩ : ∃ k, n = k + 1 := ⟨n - 1, by omega⟩
    show 1 + _ = _
    rw [take_while (x := x) (n := k) (by simpa using hn) (fun i hi => h (i + 1) (by omega)) (he.imp (fun e => by simpa using e) fun e => e)]
    omega
/-- All lengths as pieces. -/
def spl (ls : List Nat) : List Pc :=
  if _h : ls = [] then [] else tel (ls.getD 0 0) (rn ls) ++ spl (ls.drop (rn ls))
termination_by ls.length
decreasing_by
  have h0 := List.length_pos_iff.2 _h
  cases ls with
  | nil => exact absurd rfl _h
  | cons x t => rw [List.length_drop]; show _ - (1 + _) < _; omega
theorem spl_nil : spl [] = [] := by rw [spl, dif_pos rfl]
theorem spl_run {ls : List Nat} {n : Nat} (h1 : 1 ≤ n) (hn : n ≤ ls.length) (h : ∀ i, i < n → ls.getD i 0 = ls.getD 0 0) (he : n = ls.length ∨ ls.getD n 0 ≠ ls.getD 0 0) : spl ls = tel (ls.getD 0 0) n ++ spl (ls.drop n) := by
  rw [spl, dif_neg (fun e => by subst e; simp at hn; omega), rn_of h1 hn h he]

/-! ### the machine -/
def hbits (L D Sh : List Nat) (n : Nat) (P : List Pc) : List Bool :=
  lows 5 (L.length - 257) ++ lows 5 (D.length - 1) ++ lows 4 (n - 4) ++ (List.range n).flatMap (fun i => lows 3 (Sh.getD (order.getD i 0) 0)) ++ P.flatMap (pbits Sh)
structure HOk (wide : Bool) (L D Sh : List Nat) (n : Nat) (P : List Pc) : Prop where
  l1 : 257 ≤ L.length
  l2 : L.length ≤ 286
  d1 : 1 ≤ D.length
  d2 : D.length ≤ lastD wide + 1
  n1 : 4 ≤ n
  n2 : n ≤ 19
  sh : Sh.length = 19
  s7 : ∀ x ∈ Sh, x ≤ 7
  rest : ∀ i, n ≤ i → i < 19 → Sh.getD (order.getD i 0) 0 = 0
  kd : kd Sh = 1
  sp : Sp [] P (L ++ D)
  used : ∀ p ∈ P, 1 ≤ ln Sh p.s
  good : goodCodes L D = true

theorem sp_pre : ∀ (P : List Pc) (done all : List Nat), Sp done P all → done <+: all
  | [], done, all, h => by cases h; exact List.prefix_rfl
  | p :: ps, done, all, h => List.IsPrefix.trans (List.prefix_append _ _) (sp_pre ps _ all h.2.2.2.2)
theorem order_inj : ∀ i j : Fin 19, order.getD i.val 0 = order.getD j.val 0 → i = j := by decide +kernel
theorem order_has : ∀ v : Fin 19, ∃ i : Fin 19, order.getD i.val 0 = v.val := by decide +kernel
theorem order_lt : ∀ i : Fin 19, order.getD i.val 0 < 19 := by decide +kernel
theorem scat_at (l : List Nat) (n : Nat) (hn : n ≤ 19) (v : Nat) : (scat l n).getD (order.getD v 0) 0 = (if v < n then l.getD v 0 else 0) ∨ 19 ≤ v := by
  by_cases hv : 19 ≤ v
  · exact .inr hv
  · left
    induction n with
    | zero => simp only [scat, Nat.not_lt_zero, if_false, List.getD_eq_getElem?_getD, List.getElem?_replicate]; split <;> rfl
    | succ n ih =>
      have ih := ih (by omega)
      rw [scat, List.getD_eq_getElem?_getD, List.getElem?_set]
      by_cases he : order.getD n 0 = order.getD v 0
      · have h1 := order_inj ⟨n, by omega⟩ ⟨v, by omega⟩ he
        have h2 : n = v := by simpa using h1
        subst h2
        have h3 := order_lt ⟨n, by omega⟩
        simp only at h3
        rw [if_pos rfl, if_pos (by rw [scat_len]; exact h3), if_pos (by omega)]; rfl
      · rw [if_neg he, ← List.getD_eq_getElem?_getD, ih]
        have hne : n ≠ v := fun e => he (by rw [e])
        by_cases hl : v < n
        · rw [if_pos hl, if_pos (by omega)]
        · rw [if_neg hl, if_neg (by omega)]
theorem scat_back {Sh : List Nat} {n : Nat} (hl : Sh.length = 19) (hn : n ≤ 19) (hr : ∀ i, n ≤ i → i < 19 → Sh.getD (order.getD i 0) 0 = 0) :
    scat ((List.range n).map fun i => Sh.getD (order.getD i 0) 0) n = Sh := by
  apply List.ext_getElem
  · rw [scat_len, hl]
  · intro v h1 h2
    rw [scat_len] at h1
    obtain ⟨i, hi⟩ := order_has ⟨v, h1⟩
    simp only at hi
    have h3 := scat_at ((List.range n).map fun i => Sh.getD (order.getD i 0) 0) n hn i.val
    rcases h3 with h3 | h3
    · rw [hi] at h3
      have e1 : (scat ((List.range n).map fun i => Sh.getD (order.getD i 0) 0) n).getD v 0 = (scat ((List.range n).map fun i => Sh.getD (order.getD i 0) 0) n)[v] := by
        simp [List.getD_eq_getElem?_getD, scat_len, h1]
      have e2 : Sh.getD v 0 = Sh[v] := by simp [List.getD_eq_getElem?_getD, h2]
      rw [← e1, h3, ← e2]
      by_cases hlt : i.val < n
      · rw [if_pos hlt]
        simp [List.getD_eq_getElem?_getD, hlt]
        simp only [List.getD_eq_getElem?_getD] at hi
        rw [hi]
      · rw [if_neg hlt, ← hi, hr i.val (by omega) i.isLt]
    · have := i.isLt; omega

/-- The machine within a header. -/
structure Bh (wide : Bool) (S most : Nat) (fin : Bool) (b : List Bool) (o : List UInt8) (nx : Nat) (s : M) : Prop where
  bk : Bk wide S most b o nx s
  final : s.final = fin
section
variable {wide : Bool} {S most : Nat} {L D Sh : List Nat} {fin : Bool} {o : List UInt8}
theorem Bh.short : ∀ (m : Nat) (l : List Nat) (_ : l.length = m) (_ : ∀ x ∈ l, x ≤ 7) (r : List Bool) (s : M) (lens0 : List Nat) (hc : Nat), s.lens = lens0 → s.hc = hc → lens0.length + m ≤ hc → Bh wide S most fin (l.flatMap (lows 3) ++ r) o 7 s →
    ∃ t, Steps s t ∧ Bh wide S most fin r o 7 t ∧ t.lens = lens0 ++ l ∧ t.hc = hc ∧ t.hl = s.hl ∧ t.hd = s.hd
  | 0, l, hl, _, r, s, lens0, hc, e1, e2, hle, h => by
    obtain rfl := List.length_eq_zero_iff.1 hl
    exact ⟨s, .refl _, by simpa using h, by simpa using e1, e2, rfl, rfl⟩
  | m + 1, l, hl, h7, r, s, lens0, hc, e1, e2, hle, h => by
    cases l with
    | nil => simp at hl
    | cons a l =>
      have ha : a ≤ 7 := h7 a (by simp)
      rw [List.flatMap_cons, List.append_assoc] at h
      have hb := h.bk.bits
      have st : step s = .more { s with bits := s.bits.drop 3, lens := s.lens ++ [a] } := by
        have : step s = readCodeLengths s := by unfold step; rw [h.bk.next]; rfl
        rw [this]
        unfold readCodeLengths
        rw [if_pos (by rw [e1, e2]; omega), if_neg (by rw [hb]; simp [lows_len])]
        rw [hb, take_lows_num (by omega)]
      obtain ⟨t, h1, h2, h3, h4, h5, h6⟩ := Bh.short m l (by simpa using hl) (fun x hx => h7 x (by simp [hx])) r { s with bits := s.bits.drop 3, lens := s.lens ++ [a] } (lens0 ++ [a]) hc (by simp only [e1]) e2 (by simp; omega)
        ⟨⟨h.bk.wide, h.bk.size, h.bk.most, by simp only [hb, drop_lows], h.bk.hist, h.bk.out, h.bk.total, h.bk.next⟩, h.final⟩
      exact ⟨t, .cons st h1, h2, by rw [h3]; simp, h4, h5, h6⟩
theorem least_pos (v : Nat) : 1 ≤ least v := by unfold least; split; omega; split; omega; split <;> omega
theorem Bh.lengths (hc : CodeOk Sh) {all : List Nat} : ∀ (P : List Pc) (done : List Nat) (r : List Bool) (s : M), Sp done P all → (∀ p ∈ P, 1 ≤ ln Sh p.s) → s.lens = done → s.hcode = some Sh → s.hl + s.hd = all.length → Bh wide S most fin (P.flatMap (pbits Sh) ++ r) o 8 s →
    ∃ t, Steps s t ∧ Bh wide S most fin r o 8 t ∧ t.lens = all ∧ t.hcode = some Sh ∧ t.hl = s.hl ∧ t.hd = s.hd
  | [], done, r, s, hs, _, e1, e2, e3, h => ⟨s, .refl _, by simpa using h, by rw [e1]; exact hs, e2, rfl, rfl⟩
  | p :: ps, done, r, s, hs, hu, e1, e2, e3, h => by
    obtain ⟨p1, p2, p3, p4, p5⟩ := hs
    have hpre := sp_pre ps _ all p5
    have hlen := hpre.length_le
    rw [List.length_append, List.length_replicate] at hlen
    have hlp := least_pos p.s
    have hl1 := hu p (by simp)
    rw [List.flatMap_cons, List.append_assoc] at h
    unfold pbits at h
    rw [List.append_assoc] at h
    have hb := h.bk.bits
    have hsy := sym_at hc p.s hl1 (lows p.x p.v ++ (ps.flatMap (fun p => bitsAt Sh p.s ++ lows p.x p.v) ++ r))
    have st : step s = .more { s with bits := s.bits.drop (ln Sh p.s + p.x), lens := s.lens ++ List.replicate (least p.s + p.v) (length_ p.s s.lens) } := by
      have : step s = readLengths s := by unfold step; rw [h.bk.next]; rfl
      rw [this]
      unfold readLengths
      rw [if_pos (by rw [e1, e3]; omega)]
      unfold readLength
      have hcd : s.hcode.getD [] = Sh := by rw [e2]; rfl
      rw [hcd, hb, hsy, if_neg (by simp)]
      unfold readLen
      simp only
      rw [if_neg (by rw [e1]; exact fun hh => p4 hh.1 hh.2), ← p2, hb, if_neg (by simp [bits_len hl1, lows_len]), drop_bits hl1, take_lows_num p3, if_neg (by rw [e1, e3]; omega)]
    have hd : s.bits.drop (ln Sh p.s + p.x) = ps.flatMap (pbits Sh) ++ r := by
      rw [hb, ← List.drop_drop, drop_bits hl1, drop_lows]; rfl
    obtain ⟨t, h1, h2, h3, h4, h5, h6⟩ := Bh.lengths hc ps _ r { s with bits := s.bits.drop (ln Sh p.s + p.x), lens := s.lens ++ List.replicate (least p.s + p.v) (length_ p.s s.lens) } p5 (fun q hq => hu q (by simp [hq])) (by simp only [e1]) e2 e3
      ⟨⟨h.bk.wide, h.bk.size, h.bk.most, hd, h.bk.hist, h.bk.out, h.bk.total, h.bk.next⟩, h.final⟩
    exact ⟨t, .cons st h1, h2, h3, h4, h5, h6⟩
theorem code_short (hk : kd Sh = 1) (h19 : Sh.length = 19) (h7 : ∀ x ∈ Sh, x ≤ 7) : CodeOk Sh := by
  have hkr : kr Sh = 32768 := by
    unfold kd at hk
    split at hk
    · omega
    · split at hk
      · omega
      · split at hk
        · assumption
        · split at hk <;> omega
  exact ⟨by omega, fun x hx => by have := h7 x hx; omega, by omega⟩
/-- A whole header. -/
theorem Bh.header {n : Nat} {P : List Pc} (H : HOk wide L D Sh n P) (r : List Bool) (s : M) (h : Bh wide S most fin (hbits L D Sh n P ++ r) o 4 s) : ∃ t, Steps s t ∧ Bt wide S most L D fin r o t := by
  have hL1 := H.l1; have hL2 := H.l2; have hD1 := H.d1; have hD2 := H.d2; have hn1 := H.n1; have hn2 := H.n2
  have hld : lastD wide ≤ 31 := by cases wide <;> decide
  unfold hbits at h
  simp only [List.append_assoc] at h
  obtain ⟨R1, hR1⟩ : ∃ R1, R1 = lows 5 (D.length - 1) ++ (lows 4 (n - 4) ++ ((List.range n).flatMap (fun i => lows 3 (Sh.getD (order.getD i 0) 0)) ++ (P.flatMap (pbits Sh) ++ r))) := ⟨_, rfl⟩
  rw [← hR1] at h
  have hb := h.bk.bits
  have s1 : step s = .more { s with bits := R1, hl := L.length, hd := 0, hc := 0, lens := [], hcode := none, next := 5 } := by
    have : step s = readHlit s := by unfold step; rw [h.bk.next]; rfl
    rw [this]
    unfold readHlit
    rw [if_neg (by rw [hb]; simp [lows_len]), hb, take_lows_num (by omega), if_neg (by omega), drop_lows, show 257 + (L.length - 257) = L.length from by omega]
  obtain ⟨R2, hR2⟩ : ∃ R2, R2 = lows 4 (n - 4) ++ ((List.range n).flatMap (fun i => lows 3 (Sh.getD (order.getD i 0) 0)) ++ (P.flatMap (pbits Sh) ++ r)) := ⟨_, rfl⟩
  rw [← hR2] at hR1
  have s2 : step { s with bits := R1, hl := L.length, hd := 0, hc := 0, lens := [], hcode := none, next := 5 } = .more { s with bits := R2, hl := L.length, hd := D.length, hc := 0, lens := [], hcode := none, next := 6 } := by
    show readHdist _ = _
    unfold readHdist
    simp only [hR1]
    rw [if_neg (by simp [lows_len]), take_lows_num (by omega), if_neg (by rw [h.bk.wide]; omega), drop_lows, show 1 + (D.length - 1) = D.length from by omega]
  obtain ⟨l0, hl0⟩ : ∃ l0, l0 = (List.range n).map (fun i => Sh.getD (order.getD i 0) 0) := ⟨_, rfl⟩
  have hfl : (List.range n).flatMap (fun i => lows 3 (Sh.getD (order.getD i 0) 0)) = l0.flatMap (lows 3) := by rw [hl0, List.flatMap_map]
  have hl0n : l0.length = n := by rw [hl0]; simp
  rw [hfl] at hR2
  have s3 : step { s with bits := R2, hl := L.length, hd := D.length, hc := 0, lens := [], hcode := none, next := 6 } = .more { s with bits := l0.flatMap (lows 3) ++ (P.flatMap (pbits Sh) ++ r), hl := L.length, hd := D.length, hc := n, lens := [], hcode := none, next := 7 } := by
    show readHclen _ = _
    unfold readHclen
    simp only [hR2]
    rw [if_neg (by simp [lows_len]), take_lows_num (by omega), drop_lows, show 4 + (n - 4) = n from by omega]
  have hall7 : ∀ x ∈ l0, x ≤ 7 := by
    intro x hx
    rw [hl0] at hx
    obtain ⟨i, -, rfl⟩ := List.mem_map.1 hx
    rw [List.getD_eq_getElem?_getD]
    by_cases hi : order.getD i 0 < Sh.length
    · rw [List.getElem?_eq_getElem hi]; exact H.s7 _ (List.getElem_mem hi)
    · rw [List.getElem?_eq_none (by omega)]; simp
  obtain ⟨t1, g1, g2, g3, g4, g5, g6⟩ := Bh.short (wide := wide) (S := S) (most := most) (fin := fin) (o := o) n l0 hl0n hall7 (P.flatMap (pbits Sh) ++ r) { s with bits := l0.flatMap (lows 3) ++ (P.flatMap (pbits Sh) ++ r), hl := L.length, hd := D.length, hc := n, lens := [], hcode := none, next := 7 } [] n rfl rfl (by simp)
    ⟨⟨h.bk.wide, h.bk.size, h.bk.most, rfl, h.bk.hist, h.bk.out, h.bk.total, rfl⟩, h.final⟩
  rw [List.nil_append] at g3
  have hsb := scat_back H.sh hn2 H.rest
  rw [← hl0] at hsb
  have s4 : step t1 = .more { t1 with hcode := some Sh, lens := [], next := 8 } := by
    have : step t1 = readCodeLengths t1 := by unfold step; rw [g2.bk.next]; rfl
    rw [this]
    unfold readCodeLengths
    rw [if_neg (by rw [g3, g4, hl0n]; omega), g3, hl0n, hsb, if_neg (by rw [H.kd]; decide)]
  obtain ⟨t2, k1, k2, k3, k4, k5, k6⟩ := Bh.lengths (wide := wide) (S := S) (most := most) (fin := fin) (o := o) (code_short H.kd H.sh H.s7) P [] r { t1 with hcode := some Sh, lens := [], next := 8 } H.sp H.used rfl rfl (by simp only [g5, g6, List.length_append])
    ⟨⟨g2.bk.wide, g2.bk.size, g2.bk.most, g2.bk.bits, g2.bk.hist, g2.bk.out, g2.bk.total, rfl⟩, g2.final⟩
  have e5 : t2.hl = L.length := by rw [k5]; exact g5
  have e6 : t2.hd = D.length := by rw [k6]; exact g6
  have s5 : step t2 = .more { t2 with lit := some L, dist := some D, hl := 0, hd := 0, hc := 0, lens := [], hcode := none, next := 9 } := by
    have : step t2 = readLengths t2 := by unfold step; rw [k2.bk.next]; rfl
    rw [this]
    unfold readLengths
    have q1 : (L ++ D).take L.length = L := by simp
    have q2 : (L ++ D).drop L.length = D := by simp
    rw [if_neg (by rw [k3, e5, e6, List.length_append]; omega), k3, e5, q1, q2, if_neg (by rw [H.good]; decide)]
  exact ⟨_, .cons s1 (.cons s2 (.cons s3 (g1.trans (.cons s4 (k1.snoc s5))))), ⟨⟨k2.bk.wide, k2.bk.size, k2.bk.most, k2.bk.bits, k2.bk.hist, k2.bk.out, k2.bk.total, rfl⟩, rfl, rfl, k2.final⟩⟩
end
end InfMath
end

section
/-
  Blocks of all kinds as bits, read by inflate's machine. Plain lists: no program, no dump.
-/
namespace InfMath
open BitMath CanMath TabMath WinMath
open LzMath (Tok)

/-- These bits, from bit p on, are blocks of these bytes, the last ones or not. -/
def Rd (wide : Bool) (p : Nat) (X : List Bool) (B : List UInt8) (last : Bool) : Prop :=
  ∀ (S most : Nat) (o : List UInt8) (z : List Bool) (s : M), (if wide then 65536 else 32768) ≤ S → o.length + B.length ≤ most → (p + X.length + z.length) % 8 = 0 → Bk wide S most (X ++ z) o 1 s →
    ∃ t, Steps s t ∧ Bk wide S most z (o ++ B) (if last then 11 else 1) t
theorem Rd.app {wide : Bool} {p : Nat} {X Y : List Bool} {A B : List UInt8} {last : Bool} (h : Rd wide p X A false) (k : Rd wide (p + X.length) Y B last) : Rd wide p (X ++ Y) (A ++ B) last := by
  intro S most o z s hS hm h8 hb
  rw [List.length_append] at hm h8
  rw [List.append_assoc] at hb
  obtain ⟨t, h1, h2⟩ := h S most o (Y ++ z) s hS (by omega) (by rw [List.length_append]; omega) hb
  obtain ⟨u, h3, h4⟩ := k S most (o ++ A) z t hS (by rw [List.length_append]; omega) (by omega) h2
  exact ⟨u, h1.trans h3, by rw [← List.append_assoc]; exact h4⟩
/-- The kind of a block and whether it is the last one, as a number. -/
def bn (kind : Nat) (last : Bool) : Nat := 2 * kind + if last then 1 else 0
section
variable {wide : Bool} {S most : Nat} {b : List Bool} {o : List UInt8} {s : M}
theorem Bk.open_ {kind : Nat} {last : Bool} (hk : kind ≤ 2) (h : Bk wide S most (lows 3 (bn kind last) ++ b) o 1 s) :
    step s = if kind = 0 then .more { s with bits := b, final := last, next := 2 } else if kind = 1 then .more { s with bits := b, final := last, fixed := true, lit := some fixL, dist := some fixD, next := 9 } else .more { s with bits := b, final := last, next := 4 } := by
  have hn : bn kind last < 8 := by unfold bn; split <;> omega
  have e1 : step s = opening s := by unfold step; rw [h.next]; rfl
  have e2 : num (s.bits.take 3) = bn kind last := by rw [h.bits]; exact take_lows_num hn b
  have e3 : s.bits.drop 3 = b := by rw [h.bits]; exact drop_lows 3 _ b
  have e4 : bn kind last / 2 = kind := by unfold bn; split <;> omega
  have e5 : (bn kind last % 2 == 1) = last := by unfold bn; cases last <;> simp <;> omega
  rw [e1]
  unfold opening
  rw [if_neg (by rw [h.bits]; simp [lows_len]), e2, e3, e4, e5]
  by_cases h0 : kind = 0
  · rw [if_pos h0, if_pos h0]
  · rw [if_neg h0, if_neg h0]
    by_cases h1 : kind = 1
    · rw [if_pos h1, if_pos h1]
    · rw [if_neg h1, if_neg h1, if_pos (by omega)]
end
/-- A block of codes. -/
def blk (L D : List Nat) (wide : Bool) (f : Nat → Tok) (n : Nat) : List Bool := tks L D wide f n ++ bitsAt L 256
theorem Bt.block {wide : Bool} {S most : Nat} {L D : List Nat} {last : Bool} {z : List Bool} {o : List UInt8} {s : M} {f : Nat → Tok} {n : Nat} (hL : CodeOk L) (hD : CodeOk D) (hG : LzMath.GoodT wide f n) (hU : ∀ i, i < n → Used L D wide (f i)) (h256 : 1 ≤ ln L 256)
    (hS : (if wide then 65536 else 32768) ≤ S) (hm : o.length + LzMath.tot f n ≤ most) (h : Bt wide S most L D last (blk L D wide f n ++ z) o s) : ∃ t, Steps s t ∧ Bk wide S most z (o ++ LzMath.ex f n) (if last then 11 else 1) t := by
  unfold blk at h
  rw [List.append_assoc] at h
  obtain ⟨t, h1, h2⟩ := Bt.tokens hL hD hG hU hS hm n (Nat.le_refl _) _ h
  obtain ⟨u, h3, h4, -⟩ := h2.stop hL h256
  exact ⟨u, h1.trans h3, h4⟩
theorem fix_used {wide : Bool} {f : Nat → Tok} {n i : Nat} (hG : LzMath.GoodT wide f n) (hi : i < n) : Used fixL fixD wide (f i) := by
  unfold Used
  split
  · have := (f i).byte.toNat_lt
    exact fixL_ln ⟨(f i).byte.toNat, by omega⟩
  · next h0 =>
    have hok := hG i hi
    have hmat : LzMath.Mat wide (f i) := by
      rcases hok.1 with hl | hm2
      · exact absurd hl.1 h0
      · exact hm2
    obtain ⟨-, m1, m2, m3, m4⟩ := hmat
    unfold LzMath.ml at m2
    unfold LzMath.md at m4
    obtain ⟨l, a1, a2, a3, a4, a5, a6⟩ := lp_base (f i).len.toNat wide (by omega) (by cases wide <;> simp at * <;> omega)
    obtain ⟨d, b1, b2, b3, b4, b5⟩ := dp_far (f i).dist.toNat wide (by omega) (by cases wide <;> simp at * <;> omega)
    have hld : lastD wide ≤ 31 := by cases wide <;> decide
    refine ⟨fixL_ln ⟨(lp (f i).len.toNat wide).s, by omega⟩, ?_⟩
    have := fixD_ln ⟨(dp (f i).dist.toNat).s, by omega⟩
    simp only at this
    omega
theorem Rd.fixed {wide : Bool} {p : Nat} {last : Bool} {f : Nat → Tok} {n : Nat} (hG : LzMath.GoodT wide f n) : Rd wide p (lows 3 (bn 1 last) ++ blk fixL fixD wide f n) (LzMath.ex f n) last := by
  intro S most o z s hS hm h8 hb
  rw [LzMath.ex_len] at hm
  rw [List.append_assoc] at hb
  have h1 := hb.open_ (by omega)
  rw [if_neg (by omega), if_pos rfl] at h1
  obtain ⟨t, h2, h3⟩ := Bt.block (wide := wide) (S := S) (most := most) (L := fixL) (D := fixD) (last := last) (z := z) (o := o) (s := { s with bits := blk fixL fixD wide f n ++ z, final := last, fixed := true, lit := some fixL, dist := some fixD, next := 9 }) fixL_ok fixD_ok hG (fun i hi => fix_used hG hi) (fixL_ln ⟨256, by omega⟩) hS hm
    ⟨⟨hb.wide, hb.size, hb.most, rfl, hb.hist, hb.out, hb.total, rfl⟩, rfl, rfl, rfl⟩
  exact ⟨t, .cons h1 h2, h3⟩
theorem Rd.own {wide : Bool} {p : Nat} {last : Bool} {f : Nat → Tok} {n k : Nat} {L D Sh : List Nat} {P : List Pc} (H : HOk wide L D Sh k P) (hL : CodeOk L) (hD : CodeOk D) (hG : LzMath.GoodT wide f n) (hU : ∀ i, i < n → Used L D wide (f i)) (h256 : 1 ≤ ln L 256) :
    Rd wide p (lows 3 (bn 2 last) ++ (hbits L D Sh k P ++ blk L D wide f n)) (LzMath.ex f n) last := by
  intro S most o z s hS hm h8 hb
  rw [LzMath.ex_len] at hm
  rw [List.append_assoc, List.append_assoc] at hb
  have h1 := hb.open_ (by omega)
  rw [if_neg (by omega), if_neg (by omega)] at h1
  obtain ⟨t, h2, h3⟩ := Bh.header (wide := wide) (S := S) (most := most) (fin := last) (o := o) H (blk L D wide f n ++ z) { s with bits := hbits L D Sh k P ++ (blk L D wide f n ++ z), final := last, next := 4 }
    ⟨⟨hb.wide, hb.size, hb.most, rfl, hb.hist, hb.out, hb.total, rfl⟩, rfl⟩
  obtain ⟨u, h4, h5⟩ := Bt.block hL hD hG hU h256 hS hm h3
  exact ⟨u, .cons h1 (h2.trans h4), h5⟩

/-! ### stored blocks -/
def gap (p : Nat) : Nat := (8 - (p + 3) % 8) % 8
/-- A stored block at bit p. -/
def stb (p : Nat) (c : List UInt8) (last : Bool) : List Bool := lows 3 (bn 0 last) ++ List.replicate (gap p) false ++ lows 16 c.length ++ lows 16 (65535 - c.length) ++ bitsOf c
theorem stb_len (p : Nat) (c : List UInt8) (last : Bool) : (stb p c last).length = 3 + gap p + 32 + 8 * c.length := by
  unfold stb; simp only [List.length_append, lows_len, List.length_replicate, bitsOf_len]
theorem raw_steps : ∀ (c : List UInt8) (s : M) (r : List Bool), s.next = 3 → s.bits = bitsOf c ++ r → s.left = c.length → s.total + c.length ≤ s.most →
    Steps s { s with bits := r, left := 0, hist := s.hist ++ c, out := s.out ++ c, total := s.total + c.length }
  | [], s, r, hn, hb, hl, _ => by
    have e : ({ s with bits := r, left := 0, hist := s.hist ++ [], out := s.out ++ [], total := s.total + ([] : List UInt8).length } : M) = s := by
      simp [bitsOf] at hb hl
      cases s; simp_all
    rw [e]; exact .refl s
  | c :: t, s, r, hn, hb, hl, hm => by
    rw [List.length_cons] at hl hm
    rw [bitsOf_cons, List.append_assoc] at hb
    have hc := c.toNat_lt
    have h1 : step s = .more { put s c with bits := bitsOf t ++ r, left := s.left - 1 } := by
      have h1 : step s = readBytes s := by unfold step; rw [hn]; rfl
      rw [h1]
      unfold readBytes
      rw [if_neg (by omega), if_neg (by rw [hb]; simp [lows_len]), if_neg (by omega), hb, take_lows_num (by omega), drop_lows, UInt8.ofNat_toNat]
    have h2 := raw_steps t { put s c with bits := bitsOf t ++ r, left := s.left - 1 } r hn rfl (by simp only; omega) (by simp only [put]; omega)
    refine .cons h1 ?_
    have e : ({ s with bits := r, left := 0, hist := s.hist ++ c :: t, out := s.out ++ c :: t, total := s.total + (c :: t).length } : M) = { ({ put s c with bits := bitsOf t ++ r, left := s.left - 1 } : M) with bits := r, left := 0, hist := (s.hist ++ [c]) ++ t, out := (s.out ++ [c]) ++ t, total := (s.total + 1) + t.length } := by
      simp [put]; omega
    rw [e]; exact h2
theorem Rd.one (wide : Bool) (p : Nat) (c : List UInt8) (last : Bool) (hc : c.length ≤ 65535) : Rd wide p (stb p c last) c last := by
  intro S most o z s hS hm h8 hb
  rw [stb_len] at h8
  have hz : z.length % 8 = 0 := by unfold gap at h8; omega
  unfold stb at hb
  simp only [List.append_assoc] at hb
  have h1 := hb.open_ (by omega)
  rw [if_pos rfl] at h1
  obtain ⟨R, hR⟩ : ∃ R, R = lows 16 c.length ++ (lows 16 (65535 - c.length) ++ (bitsOf c ++ z)) := ⟨_, rfl⟩
  rw [← hR] at h1
  have hRl : R.length % 8 = 0 := by rw [hR]; simp only [List.length_append, lows_len, bitsOf_len]; omega
  have hR32 : 32 ≤ R.length := by rw [hR]; simp only [List.length_append, lows_len, bitsOf_len]; omega
  have hg8 : gap p < 8 := by unfold gap; omega
  have h2 : Steps { s with bits := List.replicate (gap p) false ++ R, final := last, next := 2 } { s with bits := R, final := last, next := 2 } := by
    by_cases hg : gap p = 0
    · rw [hg]; exact .refl _
    · refine .one ?_
      show readSize _ = _
      unfold readSize
      have e : (List.replicate (gap p) false ++ R).length % 8 = gap p := by rw [List.length_append, List.length_replicate]; omega
      simp only [e]
      rw [if_pos hg]
      congr 2
      rw [List.drop_append_of_le_length (by simp), List.drop_of_length_le (by simp), List.nil_append]
  have h3 : step { s with bits := R, final := last, next := 2 } = .more { s with bits := bitsOf c ++ z, final := last, left := c.length, next := 3 } := by
    show readSize _ = _
    unfold readSize
    simp only
    have e1 : num (R.take 16) = c.length := by rw [hR]; exact take_lows_num (by omega) _
    have e2 : R.drop 16 = lows 16 (65535 - c.length) ++ (bitsOf c ++ z) := by rw [hR]; exact drop_lows 16 _ _
    have e3 : R.drop 32 = bitsOf c ++ z := by rw [show (32 : Nat) = 16 + 16 from rfl, ← List.drop_drop, e2]; exact drop_lows 16 _ _
    rw [if_neg (by omega), if_neg (by omega), e2, take_lows_num (by omega), e1, if_neg (by omega), e3]
  have h4 := raw_steps c { s with bits := bitsOf c ++ z, final := last, left := c.length, next := 3 } z rfl rfl rfl (by simp only [hb.total, hb.most]; exact hm)
  have h5 : ∀ u : M, u.next = 3 → u.left = 0 → step u = .more (close u) := by
    intro u e1 e2
    have : step u = readBytes u := by unfold step; rw [e1]; rfl
    rw [this]; unfold readBytes; rw [if_pos e2]
  refine ⟨_, .cons h1 (h2.trans (.cons h3 (h4.snoc (h5 _ rfl rfl)))), ⟨hb.wide, hb.size, hb.most, rfl, by simp only [close, hb.hist], by simp only [close, hb.out], by simp [close, hb.total], rfl⟩⟩
/-- As many stored blocks as the bytes need. -/
def stbs (p : Nat) (b : List UInt8) (last : Bool) : List Bool :=
  if _h : 65535 < b.length then stb p (b.take 65535) false ++ stbs (p + (stb p (b.take 65535) false).length) (b.drop 65535) last else stb p b last
termination_by b.length
decreasing_by simp; omega
theorem stbs_one (p : Nat) (b : List UInt8) (last : Bool) (h : b.length ≤ 65535) : stbs p b last = stb p b last := by rw [stbs, dif_neg (by omega)]
theorem stbs_more (p : Nat) (b : List UInt8) (last : Bool) (h : 65535 < b.length) : stbs p b last = stb p (b.take 65535) false ++ stbs (p + (stb p (b.take 65535) false).length) (b.drop 65535) last := by
  conv => lhs; rw [stbs, dif_pos h]
theorem Rd.stored (wide : Bool) (last : Bool) (n p : Nat) (b : List UInt8) (hn : b.length ≤ n) : Rd wide p (stbs p b last) b last := by
  induction n generalizing p b with
  | zero =>
    have h0 : b.length ≤ 65535 := Nat.le_trans hn (Nat.zero_le _)
    rw [stbs_one p b last h0]
    exact Rd.one wide p b last h0
  | succ n ih =>
    by_cases h : 65535 < b.length
    · rw [stbs_more p b last h]
      have e : b = b.take 65535 ++ b.drop 65535 := (List.take_append_drop 65535 b).symm
      obtain ⟨x, hx⟩ : ∃ x, x = b.take 65535 := ⟨_, rfl⟩
      obtain ⟨y, hy⟩ : ∃ y, y = b.drop 65535 := ⟨_, rfl⟩
      rw [← hx, ← hy] at e ⊢
      have hxl : x.length ≤ 65535 := by rw [hx, List.length_take]; exact Nat.min_le_left _ _
      have hyl : y.length ≤ n := by rw [hy, List.length_drop]; omega
      rw [e]
      exact (Rd.one wide p x false hxl).app (ih _ y hyl)
    · have h0 : b.length ≤ 65535 := Nat.le_of_not_lt h
      rw [stbs_one p b last h0]
      exact Rd.one wide p b last h0
set_option maxRecDepth 100000 in
theorem stbs_len (n p : Nat) (b : List UInt8) (last : Bool) (hn : b.length ≤ n) : (stbs p b last).length = 3 + gap p + 8 * (b.length + 5 * (max 1 ((b.length + 65534) / 65535)) - 1) := by
  induction n generalizing p b with
  | zero =>
    rw [stbs_one p b last (Nat.le_trans hn (Nat.zero_le _)), stb_len]
    omega
  | succ n ih =>
    by_cases h : 65535 < b.length
    · obtain ⟨x, hx⟩ : ∃ x, x = b.take 65535 := ⟨_, rfl⟩
      obtain ⟨y, hy⟩ : ∃ y, y = b.drop 65535 := ⟨_, rfl⟩
      have hxl : x.length = 65535 := by rw [hx, List.length_take]; omega
      have hyl : y.length = b.length - 65535 := by rw [hy, List.length_drop]
      rw [stbs_more p b last h, ← hx, ← hy, List.length_append, stb_len, hxl, ih _ y (by omega), hyl]
      have e : gap (p + (3 + gap p + 32 + 8 * 65535)) = 5 := by unfold gap; omega
      rw [e]
      have e2 : max 1 ((b.length + 65534) / 65535) = max 1 ((b.length - 65535 + 65534) / 65535) + 1 := by omega
      rw [e2]
      generalize max 1 ((b.length - 65535 + 65534) / 65535) = m
      omega
    · rw [stbs_one p b last (Nat.le_of_not_lt h), stb_len]
      omega
end InfMath
end

section
/-
  How often symbols occur among tokens; what they cost. Plain lists: no program, no dump.
-/
namespace InfMath
open BitMath CanMath TabMath
open LzMath (Tok)
open PackMath (sm)

/-- The literal symbol of a token. -/
def symL (wide : Bool) (t : Tok) : Nat := if t.len = 0 then t.byte.toNat else (lp t.len.toNat wide).s
/-- How often a symbol of the literal code occurs among the first k tokens. -/
def litc (wide : Bool) (f : Nat → Tok) : Nat → Nat → Nat
  | 0, _ => 0
  | k + 1, s => if s = symL wide (f k) then litc wide f k s + 1 else litc wide f k s
def dstc (f : Nat → Tok) : Nat → Nat → Nat
  | 0, _ => 0
  | k + 1, s => if (f k).len ≠ 0 ∧ s = (dp (f k).dist.toNat).s then dstc f k s + 1 else dstc f k s
/-- All extra bits. -/
def xtr (wide : Bool) (f : Nat → Tok) : Nat → Nat
  | 0 => 0
  | k + 1 => xtr wide f k + if (f k).len = 0 then 0 else (lp (f k).len.toNat wide).x + (dp (f k).dist.toNat).x
/-- With the block's end. -/
def lite (wide : Bool) (f : Nat → Tok) (n s : Nat) : Nat := if s = 256 then litc wide f n s + 1 else litc wide f n s
theorem litc_le (wide : Bool) (f : Nat → Tok) (k s : Nat) : litc wide f k s ≤ k := by
  induction k with
  | zero => simp [litc]
  | succ k ih => unfold litc; split <;> omega
theorem dstc_le (f : Nat → Tok) (k s : Nat) : dstc f k s ≤ k := by
  induction k with
  | zero => simp [dstc]
  | succ k ih => unfold dstc; split <;> omega
theorem lite_le (wide : Bool) (f : Nat → Tok) (n s : Nat) : lite wide f n s ≤ n + 1 := by
  have := litc_le wide f n s
  unfold lite; split <;> omega
theorem litc_mono (wide : Bool) (f : Nat → Tok) {k n : Nat} (h : k ≤ n) (s : Nat) : litc wide f k s ≤ litc wide f n s := by
  induction n with
  | zero => obtain rfl : k = 0 := by omega
            exact Nat.le_refl _
  | succ n ih =>
    by_cases e : k = n + 1
    · subst e; exact Nat.le_refl _
    · have := ih (by omega)
      have h2 : litc wide f n s ≤ litc wide f (n + 1) s := by rw [litc]; split <;> omega
      omega
theorem dstc_mono (f : Nat → Tok) {k n : Nat} (h : k ≤ n) (s : Nat) : dstc f k s ≤ dstc f n s := by
  induction n with
  | zero => obtain rfl : k = 0 := by omega
            exact Nat.le_refl _
  | succ n ih =>
    by_cases e : k = n + 1
    · subst e; exact Nat.le_refl _
    · have := ih (by omega)
      have h2 : dstc f n s ≤ dstc f (n + 1) s := by rw [dstc]; split <;> omega
      omega
theorem sm_bump (n s v : Nat) (F G : Nat → Nat) (hs : s < n) (h : ∀ j, j < n → G j = if j = s then F j + v else F j) : sm n G = sm n F + v := by
  induction n with
  | zero => omega
  | succ n ih =>
    show sm n G + G n = sm n F + F n + v
    rw [h n (by omega)]
    by_cases e : n = s
    · subst e
      rw [if_pos rfl]
      have : sm n G = sm n F := PackMath.sm_congr fun j hj => by rw [h j (by omega), if_neg (by omega)]
      omega
    · rw [if_neg e, ih (by omega) (fun j hj => h j (by omega))]
      omega
/-- A symbol that occurs once more costs its length more. -/
theorem cost_bump (n s : Nat) (F : Nat → Nat) (B : Nat → Nat) (hs : s < n) : sm n (fun j => (if j = s then F j + 1 else F j) * B j) = sm n (fun j => F j * B j) + B s :=
  sm_bump n s (B s) _ _ hs fun j _ => by
    by_cases e : j = s
    · subst e; rw [if_pos rfl, if_pos rfl, Nat.succ_mul]
    · rw [if_neg e, if_neg e]
theorem sym_small {wide : Bool} {t : Tok} (h : LzMath.May wide t) : symL wide t < 286 := by
  unfold symL
  split
  · have := t.byte.toNat_lt; omega
  · next h0 =>
    rcases h with hl | ⟨-, m1, m2, m3, m4⟩
    · exact absurd hl.1 h0
    · unfold LzMath.ml at m2
      obtain ⟨l, a1, a2, a3, a4, a5, a6⟩ := lp_base t.len.toNat wide (by omega) (by cases wide <;> simp at * <;> omega)
      omega
theorem mat_of {wide : Bool} {t : Tok} (h : LzMath.May wide t) (h0 : t.len ≠ 0) : 3 ≤ t.len.toNat ∧ t.len.toNat ≤ (if wide then 65538 else 258) ∧ 1 ≤ t.dist.toNat ∧ t.dist.toNat ≤ (if wide then 65536 else 32768) ∧ (t.len.toNat : Int) = t.len ∧ (t.dist.toNat : Int) = t.dist := by
  rcases h with hl | ⟨-, m1, m2, m3, m4⟩
  · exact absurd hl.1 h0
  · unfold LzMath.ml at m2
    unfold LzMath.md at m4
    refine ⟨by omega, by cases wide <;> simp at * <;> omega, by omega, by cases wide <;> simp at * <;> omega, by omega, by omega⟩
theorem dist_small {wide : Bool} {t : Tok} (h : LzMath.May wide t) (h0 : t.len ≠ 0) : (dp t.dist.toNat).s < 32 := by
  obtain ⟨-, -, h3, h4, -⟩ := mat_of h h0
  obtain ⟨l, b1, b2, b3, b4, b5⟩ := dp_far t.dist.toNat wide h3 h4
  have : lastD wide ≤ 31 := by cases wide <;> decide
  omega
/-- What the tokens and the block's end take in any codes. -/
def cst (wide : Bool) (f : Nat → Tok) (n : Nat) (BL BD : Nat → Nat) : Nat := sm 286 (fun j => lite wide f n j * BL j) + sm 32 (fun j => dstc f n j * BD j) + xtr wide f n
theorem bits_ln (ls : List Nat) (i : Nat) : (bitsAt ls i).length = ln ls i := by
  by_cases h : i < ls.length
  · rw [bitsAt_len ls i h, ln_eq ls i h]
  · unfold bitsAt; rw [dif_neg h, ln_out ls i (by omega)]; rfl
theorem tks_cost (L D : List Nat) (wide : Bool) (f : Nat → Tok) (n : Nat) (hM : ∀ i, i < n → LzMath.May wide (f i)) :
    (tks L D wide f n).length = sm 286 (fun j => litc wide f n j * ln L j) + sm 32 (fun j => dstc f n j * ln D j) + xtr wide f n := by
  induction n with
  | zero =>
    have z1 : sm 286 (fun j => litc wide f 0 j * ln L j) = 0 := by
      have := PackMath.sm_congr (n := 286) (f := fun j => litc wide f 0 j * ln L j) (g := fun _ => 0) fun j _ => by simp [litc]
      rw [this, PackMath.sm_const]
    have z2 : sm 32 (fun j => dstc f 0 j * ln D j) = 0 := by
      have := PackMath.sm_congr (n := 32) (f := fun j => dstc f 0 j * ln D j) (g := fun _ => 0) fun j _ => by simp [dstc]
      rw [this, PackMath.sm_const]
    rw [z1, z2]; rfl
  | succ n ih =>
    have hm := hM n (by omega)
    rw [tks, List.length_append, ih (fun i hi => hM i (by omega))]
    have c1 := cost_bump 286 (symL wide (f n)) (litc wide f n) (ln L) (sym_small hm)
    have e1 : sm 286 (fun j => litc wide f (n + 1) j * ln L j) = sm 286 (fun j => (if j = symL wide (f n) then litc wide f n j + 1 else litc wide f n j) * ln L j) := rfl
    rw [e1, c1, xtr]
    unfold tkb
    by_cases h0 : (f n).len = 0
    · rw [if_pos h0, if_pos h0, bits_ln]
      have e2 : sm 32 (fun j => dstc f (n + 1) j * ln D j) = sm 32 (fun j => dstc f n j * ln D j) := PackMath.sm_congr fun j _ => by rw [dstc, if_neg (fun h => h.1 h0)]
      rw [e2]
      unfold symL
      rw [if_pos h0]
      omega
    · rw [if_neg h0, if_neg h0]
      have c2 := cost_bump 32 (dp (f n).dist.toNat).s (dstc f n) (ln D) (dist_small hm h0)
      have e2 : sm 32 (fun j => dstc f (n + 1) j * ln D j) = sm 32 (fun j => (if j = (dp (f n).dist.toNat).s then dstc f n j + 1 else dstc f n j) * ln D j) := PackMath.sm_congr fun j _ => by
        rw [dstc]
        by_cases e : j = (dp (f n).dist.toNat).s
        · rw [if_pos ⟨h0, e⟩, if_pos e]
        · rw [if_neg (fun h => e h.2), if_neg e]
      rw [e2, c2]
      unfold pbits
      simp only [List.length_append, bits_ln, lows_len]
      unfold symL
      rw [if_neg h0]
      omega
/-- A block's bits behind its header are what its symbols cost. -/
theorem blk_cost (L D : List Nat) (wide : Bool) (f : Nat → Tok) (n : Nat) (hM : ∀ i, i < n → LzMath.May wide (f i)) :
    (tks L D wide f n ++ bitsAt L 256).length = cst wide f n (ln L) (ln D) := by
  rw [List.length_append, tks_cost L D wide f n hM, bits_ln]
  unfold cst
  have c := cost_bump 286 256 (litc wide f n) (ln L) (by omega)
  have e : sm 286 (fun j => lite wide f n j * ln L j) = sm 286 (fun j => (if j = 256 then litc wide f n j + 1 else litc wide f n j) * ln L j) := rfl
  rw [e, c]
  omega
/-- Symbols that occur are those of tokens, or the end. -/
theorem lite_used (wide : Bool) (f : Nat → Tok) (n i : Nat) (hi : i < n) : 0 < lite wide f n (symL wide (f i)) := by
  have h1 : litc wide f (i + 1) (symL wide (f i)) ≤ litc wide f n (symL wide (f i)) := litc_mono wide f (by omega) _
  rw [litc, if_pos rfl] at h1
  unfold lite; split <;> omega
theorem lite_stop (wide : Bool) (f : Nat → Tok) (n : Nat) : 0 < lite wide f n 256 := by unfold lite; rw [if_pos rfl]; omega
theorem dstc_used (f : Nat → Tok) (n i : Nat) (hi : i < n) (h0 : (f i).len ≠ 0) : 0 < dstc f n (dp (f i).dist.toNat).s := by
  have h1 : dstc f (i + 1) (dp (f i).dist.toNat).s ≤ dstc f n (dp (f i).dist.toNat).s := dstc_mono f (by omega) _
  rw [dstc, if_pos ⟨h0, rfl⟩] at h1
  omega
theorem dstc_some (f : Nat → Tok) (n s : Nat) (h : 0 < dstc f n s) : ∃ i, i < n ∧ (f i).len ≠ 0 ∧ s = (dp (f i).dist.toNat).s := by
  induction n with
  | zero => simp [dstc] at h
  | succ n ih =>
    rw [dstc] at h
    by_cases e : (f n).len ≠ 0 ∧ s = (dp (f n).dist.toNat).s
    · exact ⟨n, by omega, e⟩
    · rw [if_neg e] at h
      obtain ⟨i, hi, h2⟩ := ih h
      exact ⟨i, by omega, h2⟩
end InfMath
end

section
/-
  A block with codes of its own: what is left of a code without its last zeros; pieces of one symbol tell equal lengths; all that the reader asks of a header. Plain lists: no program, no dump.
-/
namespace InfMath
open BitMath CanMath TabMath
open LzMath (Tok)

/-! ### a code without its last symbols, which have no bits -/
section
variable {ls : List Nat} {n : Nat} (hz : ∀ i, n ≤ i → ls.getD i 0 = 0)
include hz
theorem drop_zero : ∀ x ∈ ls.drop n, x = 0 := by
  intro x hx
  obtain ⟨i, hi, rfl⟩ := List.getElem_of_mem hx
  rw [List.length_drop] at hi
  have := hz (n + i) (by omega)
  rw [List.getD_eq_getElem?_getD, List.getElem?_eq_getElem (by omega)] at this
  rw [List.getElem_drop]
  exact this
theorem kr_trim : kr (ls.take n) = kr ls := by
  have h : ∀ t : List Nat, (∀ x ∈ t, x = 0) → kr t = 0 := by
    intro t
    induction t with
    | nil => intro _; rfl
    | cons x t ih =>
      intro h
      rw [kr_cons, ih fun y hy => h y (by simp [hy]), h x (by simp)]; rfl
  conv => rhs; rw [← List.take_append_drop n ls, kr_append, h _ (drop_zero hz), Nat.add_zero]
theorem count_trim {k : Nat} (hk : 1 ≤ k) : (ls.take n).count k = ls.count k := by
  have h : (ls.drop n).count k = 0 := by
    rw [List.count_eq_zero]
    intro hm
    have := drop_zero hz _ hm
    omega
  conv => rhs; rw [← List.take_append_drop n ls, List.count_append, h, Nat.add_zero]
theorem first_trim : ∀ k, first (ls.take n) k = first ls k
  | 0 => rfl
  | 1 => rfl
  | k + 2 => by rw [first, first, first_trim (k + 1), count_trim hz (by omega)]
theorem ln_trim (i : Nat) : ln (ls.take n) i = ln ls i := by
  unfold ln
  by_cases hi : i < n
  · simp only [List.getD_eq_getElem?_getD, List.getElem?_take, if_pos hi]
  · rw [hz i (by omega)]
    simp [List.getD_eq_getElem?_getD, List.getElem?_take, hi]
theorem codeN_trim (k i : Nat) (hi : i ≤ n) : codeN (ls.take n) k i = codeN ls k i := by
  unfold codeN
  rw [first_trim hz, List.take_take, Nat.min_eq_left hi]
theorem kd_trim : kd (ls.take n) = kd ls := by
  unfold kd
  rw [kr_trim hz, count_trim hz (by omega)]
end
/-! ### pieces of one symbol -/
theorem sp_same (s : Nat) : ∀ (P : List Pc) (done all : List Nat), Sp done P all → (∀ p ∈ P, p.s = s) → (∃ c, ∀ x ∈ done, x = c) → (done = [] ∨ s = 16 ∨ ∀ x ∈ done, x = if s ≤ 15 then s else 0) → ∃ c, ∀ x ∈ all, x = c
  | [], done, all, h, _, hc, _ => by cases h; exact hc
  | p :: ps, done, all, h, hs, hc, hd => by
    obtain ⟨h1, h2, h3, h4, h5⟩ := h
    have e := hs p (by simp)
    rw [e] at h1 h4 h5
    have hall := fun q hq => hs q (List.mem_cons_of_mem p hq)
    by_cases h16 : s = 16
    · subst h16
      have hne := h4 rfl
      obtain ⟨c, hc⟩ := hc
      have hl : length_ 16 done = c := by
        unfold length_
        rw [if_pos rfl, List.getLastD_eq_getLast?, List.getLast?_eq_some_getLast hne]
        exact hc _ (List.getLast_mem hne)
      rw [hl] at h5
      exact sp_same 16 ps _ all h5 hall ⟨c, fun x hx => by
        rcases List.mem_append.1 hx with h | h
        · exact hc x h
        · exact (List.mem_replicate.1 h).2⟩ (.inr (.inl rfl))
    · have hl : length_ s done = if s ≤ 15 then s else 0 := by
        unfold length_
        rw [if_neg h16]
        by_cases h17 : s = 17
        · subst h17; rfl
        · by_cases h18 : s = 18
          · subst h18; rfl
          · rw [if_neg h17, if_neg h18, if_pos (by omega)]
      rw [hl] at h5
      have hdd : ∀ x ∈ done, x = if s ≤ 15 then s else 0 := by
        rcases hd with h | h | h
        · subst h; simp
        · exact absurd h h16
        · exact h
      have hnew : ∀ x ∈ done ++ List.replicate (least s + p.v) (if s ≤ 15 then s else 0), x = if s ≤ 15 then s else 0 := fun x hx => by
        rcases List.mem_append.1 hx with h | h
        · exact hdd x h
        · exact (List.mem_replicate.1 h).2
      exact sp_same s ps _ all h5 hall ⟨_, hnew⟩ (.inr (.inr hnew))
theorem sp_small : ∀ (P : List Pc) (done all : List Nat), Sp done P all → ∀ p ∈ P, p.s ≤ 18 ∧ p.x = extra p.s ∧ p.v < 2 ^ p.x
  | [], _, _, _, p, hp => by cases hp
  | q :: ps, done, all, h, p, hp => by
    rcases List.mem_cons.1 hp with rfl | hp
    · exact ⟨h.1, h.2.1, h.2.2.1⟩
    · exact sp_small ps _ all h.2.2.2.2 p hp
/-- How often a symbol stands among pieces. -/
def cntP (P : List Pc) (s : Nat) : Nat := (P.map (·.s)).count s
theorem cntP_pos {P : List Pc} {p : Pc} (h : p ∈ P) : 0 < cntP P p.s := List.count_pos_iff.2 (List.mem_map.2 ⟨p, h, rfl⟩)
/-- Lengths that aren't all the same are told by two symbols at least. -/
theorem two_syms {P : List Pc} {all : List Nat} (h : Sp [] P all) {i j : Nat} (hi : i < all.length) (hj : j < all.length) (hne : all.getD i 0 ≠ all.getD j 0) : ∃ a b, a ≠ b ∧ a < 19 ∧ b < 19 ∧ 0 < cntP P a ∧ 0 < cntP P b := by
  refine Classical.byContradiction fun hc => ?_
  cases P with
  | nil => cases h; simp at hi
  | cons p ps =>
    have hsm := sp_small _ _ _ h
    have hs : ∀ q ∈ p :: ps, q.s = p.s := fun q hq => Classical.byContradiction fun he => hc ⟨q.s, p.s, he, by have := (hsm q hq).1; omega, by have := (hsm p (by simp)).1; omega, cntP_pos hq, cntP_pos (by simp)⟩
    obtain ⟨c, hcc⟩ := sp_same p.s _ _ _ h hs ⟨0, by simp⟩ (.inl rfl)
    refine hne ?_
    rw [List.getD_eq_getElem?_getD, List.getD_eq_getElem?_getD, List.getElem?_eq_getElem hi, List.getElem?_eq_getElem hj]
    show all[i] = all[j]
    rw [hcc _ (List.getElem_mem hi), hcc _ (List.getElem_mem hj)]
theorem kr_same (c : Nat) : ∀ ls : List Nat, (∀ x ∈ ls, x = c) → kr ls = ls.length * share c
  | [], _ => by simp [kr]
  | x :: t, h => by
    rw [kr_cons, kr_same c t fun y hy => h y (by simp [hy]), h x (by simp), List.length_cons, Nat.succ_mul]
    omega
/-- A usable code of 257 to 286 symbols, the last one but 256 with bits, has two lengths. -/
theorem not_same {L : List Nat} (h1 : 257 ≤ L.length) (h2 : L.length ≤ 286) (hu : usable L = true) (h256 : 1 ≤ ln L 256) : ∃ i, i < L.length ∧ L.getD i 0 ≠ L.getD 256 0 := by
  refine Classical.byContradiction fun hc => ?_
  have hall : ∀ x ∈ L, x = L.getD 256 0 := fun x hx => Classical.byContradiction fun he => by
    obtain ⟨i, hi, rfl⟩ := List.getElem_of_mem hx
    exact hc ⟨i, hi, by rw [List.getD_eq_getElem?_getD, List.getElem?_eq_getElem hi]; exact he⟩
  have hk := kr_same _ L hall
  unfold ln at h256
  generalize L.getD 256 0 = c at *
  have hs : share c = 2 ^ (15 - c) := by unfold share; rw [if_neg (by omega)]
  rw [hs] at hk
  have hkr : kr L = 32768 ∨ kr L = 16384 := by
    unfold usable kd at hu
    by_cases g1 : 32768 < kr L
    · simp [g1] at hu
    · rw [if_neg g1] at hu
      by_cases g2 : kr L = 0
      · simp [g2] at hu
      · rw [if_neg g2] at hu
        by_cases g3 : kr L = 32768
        · exact .inl g3
        · rw [if_neg g3] at hu
          by_cases g4 : kr L = 16384 ∧ L.count 1 = 1
          · exact .inr g4.1
          · rw [if_neg g4] at hu; simp at hu
  have key : ∀ e : Fin 16, ∀ n : Fin 287, 257 ≤ n.val → n.val * 2 ^ e.val ≠ 32768 ∧ n.val * 2 ^ e.val ≠ 16384 := by decide +kernel
  have hkk := key ⟨15 - c, by omega⟩ ⟨L.length, by omega⟩ h1
  simp only at hkk
  rcases hkr with e | e <;> rw [hk] at e
  · exact hkk.1 e
  · exact hkk.2 e
theorem kd_of {ls : List Nat} (h : kr ls = 32768 ∨ (kr ls = 16384 ∧ ls.count 1 = 1) ∨ kr ls = 0) : (kr ls ≠ 0 → usable ls = true) ∧ (kd ls == 0 || usable ls) = true ∧ (kr ls = 32768 → kd ls = 1) := by
  rcases h with e | ⟨e, e2⟩ | e
  · have : kd ls = 1 := by unfold kd; rw [if_neg (by omega), if_neg (by omega), if_pos e]
    refine ⟨fun _ => by unfold usable; rw [this]; rfl, by unfold usable; rw [this]; rfl, fun _ => this⟩
  · have : kd ls = 2 := by unfold kd; rw [if_neg (by omega), if_neg (by omega), if_neg (by omega), if_pos ⟨e, e2⟩]
    refine ⟨fun _ => by unfold usable; rw [this]; rfl, by unfold usable; rw [this]; rfl, fun h => by omega⟩
  · have : kd ls = 0 := by unfold kd; rw [if_neg (by omega), if_pos e]
    refine ⟨fun h => absurd e h, by rw [this]; rfl, fun h => by omega⟩
end InfMath
end

section
/-
  Stored blocks as bytes. Plain lists: no program, no dump.
-/
namespace InfMath
open BitMath CanMath TabMath WinMath

/-- As many stored blocks as the bytes need, as bytes. -/
def stos (b : List UInt8) (last : Bool) : List UInt8 :=
  if _h : 65535 < b.length then stored (b.take 65535) false ++ stos (b.drop 65535) last else stored b last
termination_by b.length
decreasing_by simp; omega
theorem stos_one (b : List UInt8) (last : Bool) (h : b.length ≤ 65535) : stos b last = stored b last := by rw [stos, dif_neg (by omega)]
theorem stos_more (b : List UInt8) (last : Bool) (h : 65535 < b.length) : stos b last = stored (b.take 65535) false ++ stos (b.drop 65535) last := by
  conv => lhs; rw [stos, dif_pos h]
theorem lows_of_byte (n : Nat) : lows 8 (UInt8.ofNat n).toNat = lows 8 n := by rw [UInt8.toNat_ofNat', lows_mod]
theorem stored_tail (c : List UInt8) (last : Bool) (h : c.length ≤ 65535) : bitsOf ((stored c last).drop 1) = lows 16 c.length ++ (lows 16 (65535 - c.length) ++ bitsOf c) := by
  have e : (stored c last).drop 1 = UInt8.ofNat c.length :: UInt8.ofNat (c.length / 256) :: UInt8.ofNat (255 - c.length % 256) :: UInt8.ofNat (255 - c.length / 256) :: c := rfl
  rw [e, bitsOf_cons, bitsOf_cons, bitsOf_cons, bitsOf_cons]
  simp only [lows_of_byte]
  have e1 : lows 16 c.length = lows 8 c.length ++ lows 8 (c.length / 256) := lows_add 8 8 c.length
  have e2 : lows 16 (65535 - c.length) = lows 8 (255 - c.length % 256) ++ lows 8 (255 - c.length / 256) := by
    rw [show lows 16 (65535 - c.length) = lows 8 (65535 - c.length) ++ lows 8 ((65535 - c.length) / 2 ^ 8) from lows_add 8 8 _]
    congr 1
    · rw [← lows_mod 8 (65535 - c.length), ← lows_mod 8 (255 - c.length % 256)]; congr 1; omega
    · congr 1; omega
  rw [e1, e2]
  simp only [List.append_assoc]
theorem stored_head (c : List UInt8) (last : Bool) : stored c last = (if last then 1 else 0) :: (stored c last).drop 1 := rfl
/-- A stored block's bits: up to the byte's end, and its bytes behind its first one. -/
theorem stb_tail (p : Nat) (c : List UInt8) (last : Bool) (h : c.length ≤ 65535) : stb p c last = lows 3 (bn 0 last) ++ List.replicate (gap p) false ++ bitsOf ((stored c last).drop 1) := by
  rw [stored_tail c last h]; unfold stb; simp only [List.append_assoc]
theorem stb_zero (p : Nat) (c : List UInt8) (last : Bool) (hp : p % 8 = 0) (h : c.length ≤ 65535) : stb p c last = bitsOf (stored c last) := by
  have hg : gap p = 5 := by unfold gap; omega
  rw [stb_tail p c last h, hg, stored_head c last, bitsOf_cons]
  cases last <;> rfl
theorem stbs_zero (last : Bool) (n p : Nat) (b : List UInt8) (hn : b.length ≤ n) (hp : p % 8 = 0) : stbs p b last = bitsOf (stos b last) := by
  induction n generalizing p b with
  | zero =>
    have h0 : b.length ≤ 65535 := Nat.le_trans hn (Nat.zero_le _)
    rw [stbs_one p b last h0, stos_one b last h0, stb_zero p b last hp h0]
  | succ n ih =>
    by_cases h : 65535 < b.length
    · have hxl : (b.take 65535).length ≤ 65535 := by rw [List.length_take]; exact Nat.min_le_left _ _
      have hyl : (b.drop 65535).length ≤ n := by rw [List.length_drop]; omega
      have hst : (stb p (b.take 65535) false).length % 8 = 0 := by rw [stb_zero p _ _ hp hxl, bitsOf_len]; omega
      rw [stbs_more p b last h, stos_more b last h, bitsOf_append, ih _ _ hyl (by omega), stb_zero p _ _ hp hxl]
    · have h0 : b.length ≤ 65535 := Nat.le_of_not_lt h
      rw [stbs_one p b last h0, stos_one b last h0, stb_zero p b last hp h0]
theorem stos_len (n : Nat) (b : List UInt8) (last : Bool) (hn : b.length ≤ n) : (stos b last).length = b.length + 5 * max 1 ((b.length + 65534) / 65535) := by
  have h1 := stbs_zero last n 0 b hn rfl
  have h2 := stbs_len n 0 b last hn
  rw [h1, bitsOf_len] at h2
  have hg : gap 0 = 5 := rfl
  rw [hg] at h2
  omega
end InfMath
end
