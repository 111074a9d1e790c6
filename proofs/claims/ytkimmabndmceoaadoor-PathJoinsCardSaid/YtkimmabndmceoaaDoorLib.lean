/-
  Lemmas for walks over bytes: no program, no dump.
-/
import Derived.WalkKit
import Derived.WalkSpells
import Derived.WalkLawsBesides
import Derived.WalkSmall
import Derived.Laws.AppendOwnNone
import Derived.Lib.BufferRead
import Derived.Lib.Hide
import Derived.Laws.BitsAllLaws
import Derived.IntWalk
namespace Go.My
open Go.RowKit

/-- A slice of bytes (address, length, capacity) that reads as a list. -/
structure Bytes (w : World) (a : Option Addr) (len cap : Nat) (l : List UInt8) : Prop where
  len_eq : l.length = len
  le_cap : len ≤ cap
  cap_le : cap ≤ 9223372036854775807
  nil : a = none → len = 0 ∧ cap = 0
  at_ : len = 0 ∨ ∃ b off, a = some ⟨b, off, none⟩ ∧ b < w.heap.size ∧ ∀ i (h : i < l.length), w.cell? ⟨b, off + i, none⟩ = some (.int .u8 (l[i].toNat : Int))

theorem ret_int {k : IntKind} {a b : Int} (h : a = b) : Ending.returned (.int k a) = .returned (.int k b) := by rw [h]

theorem nil_bytes (w : World) : Bytes w none 0 0 [] := ⟨rfl, Nat.le_refl _, by omega, fun _ => ⟨rfl, rfl⟩, .inl rfl⟩

theorem Bytes.below {w w' : World} {a : Option Addr} {len cap : Nat} {l : List UInt8} (h : Bytes w a len cap l) {B : Nat} (hB : w.heap.size ≤ B) (hb : Below B w w') : Bytes w' a len cap l := by
  refine ⟨h.1, h.2, h.3, h.4, h.5.imp_right ?_⟩
  rintro ⟨b, off, ha, hs, hc⟩
  exact ⟨b, off, ha, Nat.lt_of_lt_of_le hs hb.size, fun i hi => by rw [hb.cell (p := ⟨b, off + i, none⟩) (Nat.lt_of_lt_of_le hs hB)]; exact hc i hi⟩

/-- b[:k] -/
theorem Bytes.take {w : World} {a : Option Addr} {len cap : Nat} {l : List UInt8} (h : Bytes w a len cap l) (k : Nat) (hk : k ≤ len) : Bytes w a k cap (l.take k) := by
  obtain ⟨rfl, h2, h3, h4, h5⟩ := h
  refine ⟨by simp; omega, by omega, h3, fun h => ⟨by have := (h4 h).1; omega, (h4 h).2⟩, ?_⟩
  rcases h5 with h5 | ⟨b, off, ha, hs, hc⟩
  · left; omega
  · right
    exact ⟨b, off, ha, hs, fun i hi => by
      rw [hc i (by simp at hi; omega), List.getElem_take]⟩
/-- b[k:], where there is room behind. -/
theorem Bytes.drop {w : World} {b off len cap : Nat} {l : List UInt8} (h : Bytes w (some ⟨b, off, none⟩) len cap l) (k : Nat) (hk : k ≤ len) : Bytes w (some ⟨b, off + k, none⟩) (len - k) (cap - k) (l.drop k) := by
  obtain ⟨rfl, h2, h3, h4, h5⟩ := h
  refine ⟨by simp, by omega, by omega, fun h => (by cases h), ?_⟩
  rcases h5 with h5 | ⟨b', off', ha, hs, hc⟩
  · left; omega
  · right
    cases ha
    exact ⟨b, off + k, rfl, hs, fun i hi => by
      rw [List.getElem_drop, ← hc (k + i) (by simp at hi; omega), Nat.add_assoc]⟩
theorem Bytes.some_ {w : World} {a : Option Addr} {len cap : Nat} {l : List UInt8} (h : Bytes w a len cap l) (h0 : 0 < len) : ∃ b off, a = some ⟨b, off, none⟩ := by
  rcases h.at_ with h5 | ⟨b, off, ha, hs, hc⟩
  · omega
  · exact ⟨b, off, ha⟩

theorem addr_add (b off i : Nat) : (⟨b, off, none⟩ : Addr).add i = ⟨b, off + i, none⟩ := by unfold Addr.add; split <;> simp_all

/-- What came in as a row of bytes. -/
theorem row_bytes {w : World} {a : Option Addr} {len cap : Nat} {zs : List Int}
    (h : (a = none ∧ len = 0 ∧ cap = 0 ∧ zs = []) ∨
      ∃ x, a = some x ∧ len ≤ cap ∧ cap ≤ maxLen ∧ zs.length = cap ∧ (∀ i, i < zs.length → w.cell? (x.add i) = some (.int .u8 (zs.getD i 0))) ∧ ∀ n ∈ zs, (Lit.int .u8 n).wf = true) :
    ∃ l, Bytes w a len cap l := by
  rcases h with ⟨rfl, rfl, rfl, rfl⟩ | ⟨x, rfl, h1, h2, h3, h4, h5⟩
  · exact ⟨[], nil_bytes w⟩
  · unfold maxLen at h2
    have hb : ∀ i (hi : i < zs.length), ((zs.map fun n => UInt8.ofNat n.toNat)[i]'(by simpa using hi)).toNat = zs[i] := by
      intro i hi
      have := h5 zs[i] (List.getElem_mem hi)
      have hbd : 0 ≤ zs[i] ∧ zs[i] < 256 := by
        simp [Lit.wf, IntKind.min, IntKind.max, IntKind.bits, IntKind.signed] at this
        omega
      simp
      omega
    refine ⟨(zs.map fun n => UInt8.ofNat n.toNat).take len, by simp; omega, h1, h2, (fun h => by cases h), ?_⟩
    by_cases h0 : len = 0
    · exact .inl h0
    · right
      obtain ⟨b, off, spot⟩ := x
      have hc := h4 0 (by omega)
      have hspot : spot = Option.none := by simpa [Addr.add] using World.cell?_spot hc
      subst hspot
      refine ⟨b, off, rfl, block_lt_of_cell hc, fun i hi => ?_⟩
      have hi' : i < zs.length := by simp at hi; omega
      have := h4 i hi'
      rw [addr_add] at this
      rw [this, List.getElem_take, hb i hi', List.getD_eq_getElem?_getD, List.getElem?_eq_getElem hi']
      rfl

/-! ### memory that the call itself made -/
def bv (b : UInt8) : Value := .int .u8 (b.toNat : Int)
/-- A value that is a slice of bytes of the call's own (block base or later), all of it: type E is uint8. -/
def Own (E : TypeId) (base : Nat) (w : World) (v : Value) (l : List UInt8) : Prop := w.ownsRow base E 1 v l.length (l.map bv)

theorem Own.bytes {E : TypeId} {base : Nat} {w : World} {v : Value} {l : List UInt8} (h : Own E base w v l) : ∃ a c, v = .slice a l.length c ∧ Bytes w a l.length c l := by
  rcases h.2 with ⟨rfl, h0⟩ | ⟨g, cap, cur, rfl, hg, hh, hn, hm, hs, ht⟩
  · have : l = [] := List.length_eq_zero_iff.1 h0
    subst this
    exact ⟨none, 0, rfl, nil_bytes w⟩
  · unfold maxLen at hm
    refine ⟨_, cap, rfl, rfl, hn, hm, (fun h => by cases h), .inr ⟨g, 0, rfl, ?_, fun i hi => ?_⟩⟩
    · by_cases hlt : g < w.heap.size
      · exact hlt
      · rw [Array.getElem?_eq_none (by omega)] at hh; cases hh
    · rw [cell_of_row _ _ _ _ _ _ hh, Nat.zero_add, ← Array.getElem?_toList]
      have : (cur.toList.take (l.length * 1))[i]? = (l.map bv)[i]? := by rw [ht]
      rw [List.getElem?_take, if_pos (by omega)] at this
      rw [this, List.getElem?_map, List.getElem?_eq_getElem hi]
      rfl

theorem Own.below {E : TypeId} {base : Nat} {w w' : World} {v : Value} {l : List UInt8} (h : Own E base w v l) {B : Nat} (hB : w.heap.size ≤ B) (hb : Below B w w') : Own E base w' v l := by
  refine h.kept (row := none) ⟨hb.os, hb.tape, hb.output, hb.size, fun k hk _ => hb.block k (by omega)⟩ ?_
  by_cases hv : v.ownBlock = none
  · exact .inl hv
  · exact .inr hv

/-- []byte{} -/
theorem Own.empty (E : TypeId) {base : Nat} (w : World) (hb : base ≤ w.heap.size) : Own E base (w.alloc (.cells #[] E)) (.slice (some ⟨w.heap.size, 0, none⟩) 0 0) [] :=
  World.ownsRow_lit w #[] 0 hb (by unfold maxLen; omega) rfl

theorem grown_below {base : Nat} {w0 w w' : World} {v : Value} {E : TypeId} {l : List UInt8} (hown : Own E base w v l) (h : Below base w0 w) (hg : w.grownBy w' v.ownBlock) (hb : base ≤ w.heap.size) : Below base w0 w' :=
  h.grown hg hb fun k hk => (World.ownsRow.lt hown k hk).1

/-- An operation that is wanted (its guard says yes, or it has none). -/
theorem wpList_of_wp {P : Program} {w : World} {ops : Array Oper} {rest : List Oper} {o : Oper} {a : Act} {Q : Exit → Act → World → Prop} (hw : Region.wanted o (yielded ops a.tmps) = true)
    (h : ∀ K : Act → World → Prop, (∀ a w, wpList P ops Q rest a w → K a w) → o.wp P a w K Q) : wpList P ops Q (o :: rest) a w :=
  wpList_step fun K hK => by rw [if_pos hw]; exact h K hK

/-- append(v, x...) of bytes. -/
theorem wp_append_bytes {P : Program} {w : World} {o : Oper} {a : Act} {K : Act → World → Prop} {Q : Exit → Act → World → Prop} (s x : Operand) (t : TypeId)
    (ho : o.op = .call { callee := .builtin .append, args := #[s, x], argTypes := #[t, t] }) (base : Nat) (E : TypeId) (ht : P.underlying t = some (.slice E))
    (hi : (P.info? E).map (fun i => (i.zero, i.size, i.bytes)) = some (some (.int .u8 0), 1, 1))
    (v : Value) (l : List UInt8) (hs : a.eval s = v) (hown : Own E base w v l) (ad : Option Addr) (m c : Nat) (l2 : List UInt8) (hx : a.eval x = .slice ad m c) (hb : Bytes w ad m c l2)
    (hlen : l.length + m ≤ 140737488355328) (hbase : base ≤ w.heap.size)
    (h : ∀ v' w', Own E base w' v' (l ++ l2) → w.grownBy w' v.ownBlock → K (a.put o.dst v') w') : o.wp P a w K Q := by
  obtain ⟨i, hi, hz0, hz1, hz2⟩ := info_parts hi
  cases ad with
  | none =>
    obtain ⟨rfl, rfl⟩ := hb.nil rfl
    have hl2 : l2 = [] := List.length_eq_zero_iff.1 hb.len_eq
    subst hl2
    have hrun := run_append_owned_none (P := P) (w := w) base t o.type E i 1 ht hi v l.length (l.map bv) hown
    unfold Oper.wp
    simp [execOp, ho, resolve, invoke, builtin, hs, hx, hrun, Result.andThen]
    exact h v w (by rw [List.append_nil]; exact hown) ⟨rfl, rfl, rfl, Nat.le_refl _, fun _ _ _ => rfl⟩
  | some ad =>
    refine wp_append_own w s x t ho base E i _ 1 1 ht hi hz0 hz1 hz2 rfl (by decide) v l.length (l.map bv) hs hown ad m c (l2.map bv) hx (by simp [hb.len_eq]) ?_ ?_ (by unfold maxLen; omega) (by omega) hbase ?_
    · intro j u hu
      have hj : j < l2.length := by have := (List.getElem?_eq_some_iff.1 hu).1; simpa using this
      rcases hb.at_ with h0 | ⟨b, off, hab, _, hc⟩
      · have := hb.len_eq; omega
      · simp only [Option.some.injEq] at hab
        subst hab
        rw [addr_add, hc j hj]
        rw [List.getElem?_map, List.getElem?_eq_getElem hj] at hu
        exact hu
    · intro u hu
      obtain ⟨b, _, rfl⟩ := List.mem_map.1 hu
      rfl
    · intro v' w' h1 h2 _
      refine h v' w' ?_ h2
      unfold Own
      rw [List.length_append, List.map_append, hb.len_eq]
      exact h1

theorem wpList_append_bytes {P : Program} {w : World} {ops : Array Oper} {rest : List Oper} {o : Oper} {a : Act} {Q : Exit → Act → World → Prop} (hw : Region.wanted o (yielded ops a.tmps) = true) (s x : Operand) (t : TypeId)
    (ho : o.op = .call { callee := .builtin .append, args := #[s, x], argTypes := #[t, t] }) (base : Nat) (E : TypeId) (ht : P.underlying t = some (.slice E))
    (hi : (P.info? E).map (fun i => (i.zero, i.size, i.bytes)) = some (some (.int .u8 0), 1, 1))
    (v : Value) (l : List UInt8) (hs : a.eval s = v) (hown : Own E base w v l) (ad : Option Addr) (m c : Nat) (l2 : List UInt8) (hx : a.eval x = .slice ad m c) (hb : Bytes w ad m c l2)
    (hlen : l.length + m ≤ 140737488355328) (hbase : base ≤ w.heap.size)
    (h : ∀ v' w', Own E base w' v' (l ++ l2) → w.grownBy w' v.ownBlock → wpList P ops Q rest (a.put o.dst v') w') : wpList P ops Q (o :: rest) a w :=
  wpList_of_wp hw fun _ hK => wp_append_bytes s x t ho base E ht hi v l hs hown ad m c l2 hx hb hlen hbase fun v' w' h1 h2 => hK _ _ (h v' w' h1 h2)

theorem made_bytes (k : Nat) : (madeCells (Value.cells (.int .u8 0)) (k * 1)).toList = (List.replicate k (0 : UInt8)).map bv := by
  rw [List.map_replicate, Nat.mul_one]
  exact toList_madeCells_one _ _

/-- make([]byte, k) -/
theorem wpList_make_bytes {P : Program} (w : World) {ops : Array Oper} {rest : List Oper} {o : Oper} {a : Act} {Q : Exit → Act → World → Prop}
    (hg : o.guard = none) (l c : Operand) (t : TypeId) (hop : o.op = Op.makeSlice t l c) (base : Nat) (E : TypeId) (ht : P.underlying t = some (.slice E))
    (hi : (P.info? E).map (fun i => (i.zero, i.size, i.bytes)) = some (some (.int .u8 0), 1, 1)) (kl kc : IntKind) (k : Nat) (hl : a.eval l = .int kl (k : Int)) (hc : a.eval c = .int kc (k : Int))
    (hk : k ≤ 281474976710656) (hb : base ≤ w.heap.size)
    (hK : ∀ w', Own E base w' (.slice (some ⟨w.heap.size, 0, none⟩) k k) (List.replicate k 0) → w.grownBy w' none → wpList P ops Q rest (a.put o.dst (.slice (some ⟨w.heap.size, 0, none⟩) k k)) w') : wpList P ops Q (o :: rest) a w := by
  obtain ⟨i, hi, hz0, hz1, hz2⟩ := info_parts hi
  refine wpList_make_full w hg l c t hop base E i _ 1 ht hi hz0 hz1 kl kc _ _ k hl hc rfl rfl (by rw [hz2]; omega) (by unfold maxLen; omega) hb fun w' h1 h2 => hK w' ?_ h2
  unfold Own
  rw [made_bytes] at h1
  rw [List.length_replicate]
  exact h1

/-- make([]byte, 0, k) -/
theorem wpList_make_cap {P : Program} (w : World) {ops : Array Oper} {rest : List Oper} {o : Oper} {a : Act} {Q : Exit → Act → World → Prop}
    (hg : o.guard = none) (l c : Operand) (t : TypeId) (hop : o.op = Op.makeSlice t l c) (base : Nat) (E : TypeId) (ht : P.underlying t = some (.slice E))
    (hi : (P.info? E).map (fun i => (i.zero, i.size, i.bytes)) = some (some (.int .u8 0), 1, 1)) (kl kc : IntKind) (C : Int) (k : Nat) (hl : a.eval l = .int kl 0) (hc : a.eval c = .int kc C) (hC : C = (k : Int))
    (hk : k ≤ 281474976710656) (hb : base ≤ w.heap.size)
    (hK : ∀ w', Own E base w' (.slice (some ⟨w.heap.size, 0, none⟩) 0 k) [] → w.grownBy w' none → wpList P ops Q rest (a.put o.dst (.slice (some ⟨w.heap.size, 0, none⟩) 0 k)) w') : wpList P ops Q (o :: rest) a w := by
  obtain ⟨i, hi, hz0, hz1, hz2⟩ := info_parts hi
  exact wpList_make_own w hg l c t hop base E i _ 1 ht hi hz0 hz1 kl kc C k hl hc hC (by rw [hz2]; omega) (by unfold maxLen; omega) hb fun w' h1 h2 => hK w' h1 h2

/-- []byte{c}: the block of a literal of one byte. -/
theorem one_bytes (E : TypeId) (w : World) (c : UInt8) : Bytes (w.alloc (.cells #[.int .u8 (c.toNat : Int)] E)) (some ⟨w.heap.size, 0, none⟩) 1 1 [c] := by
  refine ⟨rfl, by omega, by omega, (fun h => by cases h), .inr ⟨w.heap.size, 0, rfl, by simp, ?_⟩⟩
  intro i hi
  obtain rfl : i = 0 := by simp at hi; omega
  rw [cell_of_row _ _ _ _ _ _ (heap_alloc_new w _)]
  rfl
theorem grown_none_below {base : Nat} {w0 w w' : World} (h : Below base w0 w) (hg : w.grownBy w' none) (hb : base ≤ w.heap.size) : Below base w0 w' :=
  h.grown hg hb fun k hk => by cases hk

/-- A call that hands back bytes of its own. -/
def OwnRet (E : TypeId) (w : World) (l : List UInt8) (e : Ending) (w' : World) : Prop := ∃ v, e = .returned v ∧ Own E w.heap.size w' v l ∧ Below w.heap.size w w'

/-- string(b) -/
theorem run_string_bytes {P : Program} (w : World) (src dst E : TypeId) {a : Option Addr} {len cap : Nat} {l : List UInt8} (hs : P.underlying src = some (.slice E)) (he : P.underlying E = some (.int .u8)) (hd : P.underlying dst = some .string)
    (hb : Bytes w a len cap l) : (convert src dst (.slice a len cap)).run P w = .ok (.string ⟨l.toArray⟩) w := by
  obtain rfl := hb.len_eq
  cases a with
  | none =>
    obtain ⟨h0, rfl⟩ := hb.nil rfl
    obtain rfl : l = [] := List.length_eq_zero_iff.1 h0
    exact Go.Lib.run_convert_nil_bytes w src dst E 0 hs he hd
  | some a =>
    refine run_convert_bytes_back w src dst E a cap l hs he hd fun j hj => ?_
    rcases hb.at_ with h0 | ⟨b, off, hab, _, hc⟩
    · omega
    · simp only [Option.some.injEq] at hab
      subst hab
      rw [addr_add]; exact hc j hj

/-! ### numbers -/
/-- n & (2^j - 1) of any int. -/
theorem i64_and_mask (n : Int) (j : Nat) (hj : j ≤ 62) (m M : Int) (hm : m = (2 ^ j - 1 : Nat)) (hM : M = (2 ^ j : Nat)) : bits .and .i64 n m = n % M := by
  subst hm hM
  have h62 : 2 ^ j ≤ 2 ^ 62 := Nat.pow_le_pow_right (by decide) hj
  have hp : 0 < 2 ^ j := Nat.two_pow_pos j
  show IntKind.i64.wrap ((BitVec.ofInt 64 n &&& BitVec.ofInt 64 ((2 ^ j - 1 : Nat) : Int)).toNat : Int) = _
  rw [BitVec.toNat_and, ofInt_u64 _ (by omega), BitVec.toNat_ofInt, Nat.and_two_pow_sub_one_eq_mod]
  have e : (((n % ((2 ^ 64 : Nat) : Int)).toNat % 2 ^ j : Nat) : Int) = n % ((2 ^ j : Nat) : Int) := by
    rw [Int.natCast_emod, Int.toNat_of_nonneg (by omega)]
    exact Int.emod_emod_of_dvd n (by
      have : (2 ^ j : Nat) ∣ 2 ^ 64 := Nat.pow_dvd_pow 2 (by omega)
      exact_mod_cast this)
  rw [e]
  have h1 := Int.emod_nonneg n (show ((2 ^ j : Nat) : Int) ≠ 0 by omega)
  have h2 := Int.emod_lt_of_pos n (show (0 : Int) < ((2 ^ j : Nat) : Int) by omega)
  rw [IntKind.wrap_i64]
  omega
theorem wf_nat8 {a : Int} (h : (Lit.int .u8 a).wf = true) : ∃ c : UInt8, a = (c.toNat : Int) := by
  simp [Lit.wf, IntKind.min, IntKind.max, IntKind.bits, IntKind.signed] at h
  exact ⟨UInt8.ofNat a.toNat, by rw [UInt8.toNat_ofNat']; omega⟩
theorem wf_nat32 {a : Int} (h : (Lit.int .u32 a).wf = true) : ∃ c : Nat, a = (c : Int) ∧ c < 4294967296 := by
  simp [Lit.wf, IntKind.min, IntKind.max, IntKind.bits, IntKind.signed] at h
  exact ⟨a.toNat, by omega, by omega⟩
theorem wf_nat64 {a : Int} (h : (Lit.int .u64 a).wf = true) : ∃ c : Nat, a = (c : Int) ∧ c < 18446744073709551616 := by
  simp [Lit.wf, IntKind.min, IntKind.max, IntKind.bits, IntKind.signed] at h
  exact ⟨a.toNat, by omega, by omega⟩
theorem wf_int {a : Int} (h : (Lit.int .i64 a).wf = true) : -9223372036854775808 ≤ a ∧ a ≤ 9223372036854775807 := by
  simp [Lit.wf, IntKind.min, IntKind.max, IntKind.bits, IntKind.signed] at h
  omega
/-- (at % n + n) % n is a place below n. -/
theorem place_in (at_ : Int) (n : Nat) (hn : 0 < n) (hn2 : n ≤ 1000000) (_h1 : -9223372036854775808 ≤ at_) (_h2 : at_ ≤ 9223372036854775807) : ∃ f : Nat, f < n ∧ (wrap64 (at_.tmod (n : Int) + n)).tmod n = (f : Int) ∧ (at_.tmod (n : Int) + n).tmod n = (f : Int) := by
  have e1 := Int.tmod_lt_of_pos at_ (show (0 : Int) < n by omega)
  have e2 : -(n : Int) < at_.tmod n := by
    have h := Int.tmod_lt_of_pos (-at_) (show (0 : Int) < n by omega)
    rw [Int.neg_tmod] at h
    omega
  rw [IntWalk.wrap64_in _ ⟨by omega, by omega⟩, Int.tmod_eq_emod_of_nonneg (by omega)]
  have e3 := Int.emod_nonneg (at_.tmod n + n) (show (n : Int) ≠ 0 by omega)
  have e4 := Int.emod_lt_of_pos (at_.tmod n + n) (show (0 : Int) < n by omega)
  exact ⟨((at_.tmod n + n) % n).toNat, by omega, by omega, by omega⟩

/-! ### copies by append -/
theorem Own.nil (E : TypeId) (base : Nat) (w : World) : Own E base w (.slice none 0 0) [] := World.ownsRow_nil _ _ _ _
theorem Own.some_ {E : TypeId} {base : Nat} {w : World} {v : Value} {l : List UInt8} (h : Own E base w v l) (hl : 0 < l.length) : ∃ g c, v = .slice (some ⟨g, 0, none⟩) l.length c ∧ base ≤ g ∧ l.length ≤ c ∧ c ≤ 9223372036854775807 := by
  rcases h.2 with ⟨_, h0⟩ | ⟨g, cap, cur, rfl, hg, _, hn, hm, _⟩
  · omega
  · exact ⟨g, cap, rfl, hg, hn, hm⟩
/-- append([]byte{}, b...): what it is, that it is of the call's own, and that nothing ahead is touched. -/
theorem copied {E : TypeId} {w w1 : World} {v' : Value} {l : List UInt8} (hown : Own E w.heap.size w1 v' ([] ++ l)) (hg : (w.alloc (.cells #[] E)).grownBy w1 (Value.ownBlock (.slice (some ⟨w.heap.size, 0, none⟩) 0 0))) :
    ∃ a' c', v' = .slice a' l.length c' ∧ Bytes w1 a' l.length c' l ∧ Below w.heap.size w w1 := by
  rw [List.nil_append] at hown
  obtain ⟨a', c', rfl, hb⟩ := hown.bytes
  exact ⟨a', c', rfl, hb, grown_below (Own.empty E w (Nat.le_refl _)) ((Below.refl _ _).alloc (Nat.le_refl _) _) hg (by simp)⟩
theorem copied_below {E : TypeId} {w w1 : World} {v' : Value} {l : List UInt8} (hown : Own E w.heap.size w1 v' ([] ++ l)) (hg : (w.alloc (.cells #[] E)).grownBy w1 (Value.ownBlock (.slice (some ⟨w.heap.size, 0, none⟩) 0 0))) :
    Below w.heap.size w w1 := let ⟨_, _, _, _, h⟩ := copied hown hg; h
/-- append(append([]byte{}, a...), b...): behind the second append. -/
theorem copied2 {E : TypeId} {w w2 w3 : World} {v1 v2 : Value} {l1 l2 : List UInt8} (hown1 : Own E w.heap.size w2 v1 ([] ++ l1)) (hg1 : (w.alloc (.cells #[] E)).grownBy w2 (Value.ownBlock (.slice (some ⟨w.heap.size, 0, none⟩) 0 0)))
    (hown : Own E w.heap.size w3 v2 (l1 ++ l2)) (hg : w2.grownBy w3 v1.ownBlock) :
    ∃ a' c', v2 = .slice a' (l1.length + l2.length) c' ∧ Bytes w3 a' (l1.length + l2.length) c' (l1 ++ l2) ∧ Below w.heap.size w w3 := by
  have hw := copied_below hown1 hg1
  obtain ⟨a', c', rfl, hb⟩ := hown.bytes
  rw [List.length_append] at hb ⊢
  exact ⟨a', c', rfl, hb, grown_below hown1 hw hg hw.size⟩
/-- A text, so many times. -/
def reps (k : Nat) (l : List UInt8) : List UInt8 := (List.replicate k l).flatten
theorem reps_zero (l : List UInt8) : reps 0 l = [] := rfl
theorem reps_succ (k : Nat) (l : List UInt8) : reps (k + 1) l = reps k l ++ l := by
  unfold reps; rw [List.replicate_succ', List.flatten_append]; simp
theorem reps_len (k : Nat) (l : List UInt8) : (reps k l).length = k * l.length := by
  unfold reps; simp
end Go.My
