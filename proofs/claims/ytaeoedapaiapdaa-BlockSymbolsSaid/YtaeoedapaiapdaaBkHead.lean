/-
  The header of a block with codes of its own: lengths told by pieces; inflate's machine reads them. Plain lists: no program, no dump.
-/
import Derived.Test.YtaeoedapaiapdaaBkMath
namespace InfMath
open BitMath CanMath TabMath WinMath

/-- Pieces that tell these lengths, from those that are told already on. -/
def Sp : List Nat → List Pc → List Nat → Prop
  | done, [], all => done = all
  | done, p :: ps, all => p.s ≤ 18 ∧ p.x = extra p.s ∧ p.v < 2 ^ p.x ∧ (p.s = 16 → done ≠ []) ∧ Sp (done ++ List.replicate (least p.s + p.v) (length_ p.s done)) ps all
/-- Pieces that tell n lengths more, all the same, where this holds of what is told already. -/
def Says (P : List Nat → Prop) (q : List Pc) (len n : Nat) : Prop := ∀ done, P done → ∀ ps all, Sp (done ++ List.replicate n len) ps all → Sp done (q ++ ps) all
theorem Says.nil (P : List Nat → Prop) (len : Nat) : Says P [] len 0 := fun done _ ps all h => by simpa using h
theorem Says.app {P : List Nat → Prop} {q r : List Pc} {len n m : Nat} (h : Says P q len n) {R : List Nat → Prop} (k : Says R r len m) (hR : ∀ done, P done → R (done ++ List.replicate n len)) : Says P (q ++ r) len (n + m) := by
  intro done hd ps all hs
  rw [List.append_assoc]
  refine h done hd _ all (k _ (hR done hd) ps all ?_)
  rw [List.append_assoc, List.replicate_append_replicate]
  exact hs
/-- A length by itself. -/
theorem Says.one (P : List Nat → Prop) (len : Nat) (h : len ≤ 15) : Says P [⟨len, 0, 0⟩] len 1 := by
  intro done _ ps all hs
  have e1 : extra len = 0 := by unfold extra; rw [if_neg (by omega), if_neg (by omega), if_neg (by omega)]
  have e2 : least len = 1 := by unfold least; rw [if_neg (by omega), if_neg (by omega), if_neg (by omega)]
  have e3 : length_ len done = len := by unfold length_; rw [if_neg (by omega), if_neg (by omega), if_neg (by omega)]
  show len ≤ 18 ∧ (0 : Nat) = extra len ∧ 0 < 2 ^ 0 ∧ (len = 16 → done ≠ []) ∧ Sp (done ++ List.replicate (least len + 0) (length_ len done)) ps all
  rw [e1, e2, e3]
  exact ⟨by omega, rfl, by omega, by omega, hs⟩
theorem Says.zeros17 (P : List Nat → Prop) (v : Nat) (h : v < 8) : Says P [⟨17, 3, v⟩] 0 (3 + v) := fun done _ ps all hs => ⟨by simp, rfl, by simpa using h, by simp, hs⟩
theorem Says.zeros18 (P : List Nat → Prop) (v : Nat) (h : v < 128) : Says P [⟨18, 7, v⟩] 0 (11 + v) := fun done _ ps all hs => ⟨by simp, rfl, by simpa using h, by simp, hs⟩
/-- The last one that is told is this. -/
def LastIs (len : Nat) (done : List Nat) : Prop := done.getLast? = some len
theorem Says.again16 (len v : Nat) (h : v < 4) : Says (LastIs len) [⟨16, 2, v⟩] len (3 + v) := by
  intro done hd ps all hs
  have e : length_ 16 done = len := by
    unfold length_; rw [if_pos rfl, List.getLastD_eq_getLast?]
    unfold LastIs at hd; rw [hd]; rfl
  refine ⟨by simp, rfl, by simpa using h, fun _ h0 => by subst h0; simp [LastIs] at hd, ?_⟩
  show Sp (done ++ List.replicate (least 16 + v) (length_ 16 done)) ps all
  rw [e]
  exact hs
theorem last_rep {len n : Nat} {done : List Nat} (h : LastIs len done) : LastIs len (done ++ List.replicate n len) := by
  unfold LastIs at *
  cases n with
  | zero => simpa using h
  | succ n => rw [List.replicate_succ', ← List.append_assoc, List.getLast?_append]; simp
theorem Says.weaken {P Q : List Nat → Prop} {q : List Pc} {len n : Nat} (h : Says P q len n) (k : ∀ d, Q d → P d) : Says Q q len n := fun done hd => h done (k done hd)

/-! ### the machine -/
def hbits (L D Sh : List Nat) (n : Nat) (P : List Pc) : List Bool :=
  lows 5 (L.length - 257) ++ lows 5 (D.length - 1) ++ lows 4 (n - 4) ++ (List.range n).flatMap (fun i => lows 3 (Sh.getD (order.getD i 0) 0)) ++ P.flatMap (pbits Sh)
structure HOk (wide : Bool) (L D Sh : List Nat) (n : Nat) (P : List Pc) : Prop where
  l1 : 257 ≤ L.length
  l2 : L.length ≤ 286
  d1 : 1 ≤ D.length
  d2 : D.length ≤ lastD wide + 1
  n1 : 4 ≤ n
  n2 : n ≤ 19
  sh : Sh.length = 19
  s7 : ∀ x ∈ Sh, x ≤ 7
  rest : ∀ i, n ≤ i → i < 19 → Sh.getD (order.getD i 0) 0 = 0
  kd : kd Sh = 1
  sp : Sp [] P (L ++ D)
  used : ∀ p ∈ P, 1 ≤ ln Sh p.s
  good : goodCodes L D = true

theorem sp_pre : ∀ (P : List Pc) (done all : List Nat), Sp done P all → done <+: all
  | [], done, all, h => by cases h; exact List.prefix_rfl
  | p :: ps, done, all, h => List.IsPrefix.trans (List.prefix_append _ _) (sp_pre ps _ all h.2.2.2.2)
theorem order_inj : ∀ i j : Fin 19, order.getD i.val 0 = order.getD j.val 0 → i = j := by decide +kernel
theorem order_has : ∀ v : Fin 19, ∃ i : Fin 19, order.getD i.val 0 = v.val := by decide +kernel
theorem order_lt : ∀ i : Fin 19, order.getD i.val 0 < 19 := by decide +kernel
theorem scat_at (l : List Nat) (n : Nat) (hn : n ≤ 19) (v : Nat) : (scat l n).getD (order.getD v 0) 0 = (if v < n then l.getD v 0 else 0) ∨ 19 ≤ v := by
  by_cases hv : 19 ≤ v
  · exact .inr hv
  · left
    induction n with
    | zero => simp only [scat, Nat.not_lt_zero, if_false, List.getD_eq_getElem?_getD, List.getElem?_replicate]; split <;> rfl
    | succ n ih =>
      have ih := ih (by omega)
      rw [scat, List.getD_eq_getElem?_getD, List.getElem?_set]
      by_cases he : order.getD n 0 = order.getD v 0
      · have h1 := order_inj ⟨n, by omega⟩ ⟨v, by omega⟩ he
        have h2 : n = v := by simpa using h1
        subst h2
        have h3 := order_lt ⟨n, by omega⟩
        simp only at h3
        rw [if_pos rfl, if_pos (by rw [scat_len]; exact h3), if_pos (by omega)]; rfl
      · rw [if_neg he, ← List.getD_eq_getElem?_getD, ih]
        have hne : n ≠ v := fun e => he (by rw [e])
        by_cases hl : v < n
        · rw [if_pos hl, if_pos (by omega)]
        · rw [if_neg hl, if_neg (by omega)]
theorem scat_back {Sh : List Nat} {n : Nat} (hl : Sh.length = 19) (hn : n ≤ 19) (hr : ∀ i, n ≤ i → i < 19 → Sh.getD (order.getD i 0) 0 = 0) :
    scat ((List.range n).map fun i => Sh.getD (order.getD i 0) 0) n = Sh := by
  apply List.ext_getElem
  · rw [scat_len, hl]
  · intro v h1 h2
    rw [scat_len] at h1
    obtain ⟨i, hi⟩ := order_has ⟨v, h1⟩
    simp only at hi
    have h3 := scat_at ((List.range n).map fun i => Sh.getD (order.getD i 0) 0) n hn i.val
    rcases h3 with h3 | h3
    · rw [hi] at h3
      have e1 : (scat ((List.range n).map fun i => Sh.getD (order.getD i 0) 0) n).getD v 0 = (scat ((List.range n).map fun i => Sh.getD (order.getD i 0) 0) n)[v] := by
        simp [List.getD_eq_getElem?_getD, scat_len, h1]
      have e2 : Sh.getD v 0 = Sh[v] := by simp [List.getD_eq_getElem?_getD, h2]
      rw [← e1, h3, ← e2]
      by_cases hlt : i.val < n
      · rw [if_pos hlt]
        simp [List.getD_eq_getElem?_getD, hlt]
        simp only [List.getD_eq_getElem?_getD] at hi
        rw [hi]
      · rw [if_neg hlt, ← hi, hr i.val (by omega) i.isLt]
    · have := i.isLt; omega

/-- The machine within a header. -/
structure Bh (wide : Bool) (S most : Nat) (fin : Bool) (b : List Bool) (o : List UInt8) (nx : Nat) (s : M) : Prop where
  bk : Bk wide S most b o nx s
  final : s.final = fin
section
variable {wide : Bool} {S most : Nat} {L D Sh : List Nat} {fin : Bool} {o : List UInt8}
theorem Bh.short : ∀ (m : Nat) (l : List Nat) (_ : l.length = m) (_ : ∀ x ∈ l, x ≤ 7) (r : List Bool) (s : M) (lens0 : List Nat) (hc : Nat), s.lens = lens0 → s.hc = hc → lens0.length + m ≤ hc → Bh wide S most fin (l.flatMap (lows 3) ++ r) o 7 s →
    ∃ t, Steps s t ∧ Bh wide S most fin r o 7 t ∧ t.lens = lens0 ++ l ∧ t.hc = hc ∧ t.hl = s.hl ∧ t.hd = s.hd
  | 0, l, hl, _, r, s, lens0, hc, e1, e2, hle, h => by
    obtain rfl := List.length_eq_zero_iff.1 hl
    exact ⟨s, .refl _, by simpa using h, by simpa using e1, e2, rfl, rfl⟩
  | m + 1, l, hl, h7, r, s, lens0, hc, e1, e2, hle, h => by
    cases l with
    | nil => simp at hl
    | cons a l =>
      have ha : a ≤ 7 := h7 a (by simp)
      rw [List.flatMap_cons, List.append_assoc] at h
      have hb := h.bk.bits
      have st : step s = .more { s with bits := s.bits.drop 3, lens := s.lens ++ [a] } := by
        have : step s = readCodeLengths s := by unfold step; rw [h.bk.next]; rfl
        rw [this]
        unfold readCodeLengths
        rw [if_pos (by rw [e1, e2]; omega), if_neg (by rw [hb]; simp [lows_len])]
        rw [hb, take_lows_num (by omega)]
      obtain ⟨t, h1, h2, h3, h4, h5, h6⟩ := Bh.short m l (by simpa using hl) (fun x hx => h7 x (by simp [hx])) r { s with bits := s.bits.drop 3, lens := s.lens ++ [a] } (lens0 ++ [a]) hc (by simp only [e1]) e2 (by simp; omega)
        ⟨⟨h.bk.wide, h.bk.size, h.bk.most, by simp only [hb, drop_lows], h.bk.hist, h.bk.out, h.bk.total, h.bk.next⟩, h.final⟩
      exact ⟨t, .cons st h1, h2, by rw [h3]; simp, h4, h5, h6⟩
theorem least_pos (v : Nat) : 1 ≤ least v := by unfold least; split; omega; split; omega; split <;> omega
theorem Bh.lengths (hc : CodeOk Sh) {all : List Nat} : ∀ (P : List Pc) (done : List Nat) (r : List Bool) (s : M), Sp done P all → (∀ p ∈ P, 1 ≤ ln Sh p.s) → s.lens = done → s.hcode = some Sh → s.hl + s.hd = all.length → Bh wide S most fin (P.flatMap (pbits Sh) ++ r) o 8 s →
    ∃ t, Steps s t ∧ Bh wide S most fin r o 8 t ∧ t.lens = all ∧ t.hcode = some Sh ∧ t.hl = s.hl ∧ t.hd = s.hd
  | [], done, r, s, hs, _, e1, e2, e3, h => ⟨s, .refl _, by simpa using h, by rw [e1]; exact hs, e2, rfl, rfl⟩
  | p :: ps, done, r, s, hs, hu, e1, e2, e3, h => by
    obtain ⟨p1, p2, p3, p4, p5⟩ := hs
    have hpre := sp_pre ps _ all p5
    have hlen := hpre.length_le
    rw [List.length_append, List.length_replicate] at hlen
    have hlp := least_pos p.s
    have hl1 := hu p (by simp)
    rw [List.flatMap_cons, List.append_assoc] at h
    unfold pbits at h
    rw [List.append_assoc] at h
    have hb := h.bk.bits
    have hsy := sym_at hc p.s hl1 (lows p.x p.v ++ (ps.flatMap (fun p => bitsAt Sh p.s ++ lows p.x p.v) ++ r))
    have st : step s = .more { s with bits := s.bits.drop (ln Sh p.s + p.x), lens := s.lens ++ List.replicate (least p.s + p.v) (length_ p.s s.lens) } := by
      have : step s = readLengths s := by unfold step; rw [h.bk.next]; rfl
      rw [this]
      unfold readLengths
      rw [if_pos (by rw [e1, e3]; omega)]
      unfold readLength
      have hcd : s.hcode.getD [] = Sh := by rw [e2]; rfl
      rw [hcd, hb, hsy, if_neg (by simp)]
      unfold readLen
      simp only
      rw [if_neg (by rw [e1]; exact fun hh => p4 hh.1 hh.2), ← p2, hb, if_neg (by simp [bits_len hl1, lows_len]), drop_bits hl1, take_lows_num p3, if_neg (by rw [e1, e3]; omega)]
    have hd : s.bits.drop (ln Sh p.s + p.x) = ps.flatMap (pbits Sh) ++ r := by
      rw [hb, ← List.drop_drop, drop_bits hl1, drop_lows]; rfl
    obtain ⟨t, h1, h2, h3, h4, h5, h6⟩ := Bh.lengths hc ps _ r { s with bits := s.bits.drop (ln Sh p.s + p.x), lens := s.lens ++ List.replicate (least p.s + p.v) (length_ p.s s.lens) } p5 (fun q hq => hu q (by simp [hq])) (by simp only [e1]) e2 e3
      ⟨⟨h.bk.wide, h.bk.size, h.bk.most, hd, h.bk.hist, h.bk.out, h.bk.total, h.bk.next⟩, h.final⟩
    exact ⟨t, .cons st h1, h2, h3, h4, h5, h6⟩
theorem code_short (hk : kd Sh = 1) (h19 : Sh.length = 19) (h7 : ∀ x ∈ Sh, x ≤ 7) : CodeOk Sh := by
  have hkr : kr Sh = 32768 := by
    unfold kd at hk
    split at hk
    · omega
    · split at hk
      · omega
      · split at hk
        · assumption
        · split at hk <;> omega
  exact ⟨by omega, fun x hx => by have := h7 x hx; omega, by omega⟩
/-- A whole header. -/
theorem Bh.header {n : Nat} {P : List Pc} (H : HOk wide L D Sh n P) (r : List Bool) (s : M) (h : Bh wide S most fin (hbits L D Sh n P ++ r) o 4 s) : ∃ t, Steps s t ∧ Bt wide S most L D fin r o t := by
  have hL1 := H.l1; have hL2 := H.l2; have hD1 := H.d1; have hD2 := H.d2; have hn1 := H.n1; have hn2 := H.n2
  have hld : lastD wide ≤ 31 := by cases wide <;> decide
  unfold hbits at h
  simp only [List.append_assoc] at h
  obtain ⟨R1, hR1⟩ : ∃ R1, R1 = lows 5 (D.length - 1) ++ (lows 4 (n - 4) ++ ((List.range n).flatMap (fun i => lows 3 (Sh.getD (order.getD i 0) 0)) ++ (P.flatMap (pbits Sh) ++ r))) := ⟨_, rfl⟩
  rw [← hR1] at h
  have hb := h.bk.bits
  have s1 : step s = .more { s with bits := R1, hl := L.length, hd := 0, hc := 0, lens := [], hcode := none, next := 5 } := by
    have : step s = readHlit s := by unfold step; rw [h.bk.next]; rfl
    rw [this]
    unfold readHlit
    rw [if_neg (by rw [hb]; simp [lows_len]), hb, take_lows_num (by omega), if_neg (by omega), drop_lows, show 257 + (L.length - 257) = L.length from by omega]
  obtain ⟨R2, hR2⟩ : ∃ R2, R2 = lows 4 (n - 4) ++ ((List.range n).flatMap (fun i => lows 3 (Sh.getD (order.getD i 0) 0)) ++ (P.flatMap (pbits Sh) ++ r)) := ⟨_, rfl⟩
  rw [← hR2] at hR1
  have s2 : step { s with bits := R1, hl := L.length, hd := 0, hc := 0, lens := [], hcode := none, next := 5 } = .more { s with bits := R2, hl := L.length, hd := D.length, hc := 0, lens := [], hcode := none, next := 6 } := by
    show readHdist _ = _
    unfold readHdist
    simp only [hR1]
    rw [if_neg (by simp [lows_len]), take_lows_num (by omega), if_neg (by rw [h.bk.wide]; omega), drop_lows, show 1 + (D.length - 1) = D.length from by omega]
  obtain ⟨l0, hl0⟩ : ∃ l0, l0 = (List.range n).map (fun i => Sh.getD (order.getD i 0) 0) := ⟨_, rfl⟩
  have hfl : (List.range n).flatMap (fun i => lows 3 (Sh.getD (order.getD i 0) 0)) = l0.flatMap (lows 3) := by rw [hl0, List.flatMap_map]
  have hl0n : l0.length = n := by rw [hl0]; simp
  rw [hfl] at hR2
  have s3 : step { s with bits := R2, hl := L.length, hd := D.length, hc := 0, lens := [], hcode := none, next := 6 } = .more { s with bits := l0.flatMap (lows 3) ++ (P.flatMap (pbits Sh) ++ r), hl := L.length, hd := D.length, hc := n, lens := [], hcode := none, next := 7 } := by
    show readHclen _ = _
    unfold readHclen
    simp only [hR2]
    rw [if_neg (by simp [lows_len]), take_lows_num (by omega), drop_lows, show 4 + (n - 4) = n from by omega]
  have hall7 : ∀ x ∈ l0, x ≤ 7 := by
    intro x hx
    rw [hl0] at hx
    obtain ⟨i, -, rfl⟩ := List.mem_map.1 hx
    rw [List.getD_eq_getElem?_getD]
    by_cases hi : order.getD i 0 < Sh.length
    · rw [List.getElem?_eq_getElem hi]; exact H.s7 _ (List.getElem_mem hi)
    · rw [List.getElem?_eq_none (by omega)]; simp
  obtain ⟨t1, g1, g2, g3, g4, g5, g6⟩ := Bh.short (wide := wide) (S := S) (most := most) (fin := fin) (o := o) n l0 hl0n hall7 (P.flatMap (pbits Sh) ++ r) { s with bits := l0.flatMap (lows 3) ++ (P.flatMap (pbits Sh) ++ r), hl := L.length, hd := D.length, hc := n, lens := [], hcode := none, next := 7 } [] n rfl rfl (by simp)
    ⟨⟨h.bk.wide, h.bk.size, h.bk.most, rfl, h.bk.hist, h.bk.out, h.bk.total, rfl⟩, h.final⟩
  rw [List.nil_append] at g3
  have hsb := scat_back H.sh hn2 H.rest
  rw [← hl0] at hsb
  have s4 : step t1 = .more { t1 with hcode := some Sh, lens := [], next := 8 } := by
    have : step t1 = readCodeLengths t1 := by unfold step; rw [g2.bk.next]; rfl
    rw [this]
    unfold readCodeLengths
    rw [if_neg (by rw [g3, g4, hl0n]; omega), g3, hl0n, hsb, if_neg (by rw [H.kd]; decide)]
  obtain ⟨t2, k1, k2, k3, k4, k5, k6⟩ := Bh.lengths (wide := wide) (S := S) (most := most) (fin := fin) (o := o) (code_short H.kd H.sh H.s7) P [] r { t1 with hcode := some Sh, lens := [], next := 8 } H.sp H.used rfl rfl (by simp only [g5, g6, List.length_append])
    ⟨⟨g2.bk.wide, g2.bk.size, g2.bk.most, g2.bk.bits, g2.bk.hist, g2.bk.out, g2.bk.total, rfl⟩, g2.final⟩
  have e5 : t2.hl = L.length := by rw [k5]; exact g5
  have e6 : t2.hd = D.length := by rw [k6]; exact g6
  have s5 : step t2 = .more { t2 with lit := some L, dist := some D, hl := 0, hd := 0, hc := 0, lens := [], hcode := none, next := 9 } := by
    have : step t2 = readLengths t2 := by unfold step; rw [k2.bk.next]; rfl
    rw [this]
    unfold readLengths
    have q1 : (L ++ D).take L.length = L := by simp
    have q2 : (L ++ D).drop L.length = D := by simp
    rw [if_neg (by rw [k3, e5, e6, List.length_append]; omega), k3, e5, q1, q2, if_neg (by rw [H.good]; decide)]
  exact ⟨_, .cons s1 (.cons s2 (.cons s3 (g1.trans (.cons s4 (k1.snoc s5))))), ⟨⟨k2.bk.wide, k2.bk.size, k2.bk.most, k2.bk.bits, k2.bk.hist, k2.bk.out, k2.bk.total, rfl⟩, rfl, rfl, k2.final⟩⟩
end
end InfMath
