import Derived.WalkKit
import Derived.WalkSpells
import Derived.WalkLawsBesides
import Derived.WalkSmall
import Derived.Laws.AppendOwnNone
import Derived.Lib.BufferRead
import Derived.Lib.Hide
import Derived.Laws.BitsAllLaws
import Derived.IntWalk
import Derived.Below
import Derived.Deep.QuietTactic
import Derived.BigQuiet
import Derived.OrdersHeld
import Derived.Deep.AppendLies
import Derived.Deep.Draws
import Derived.Laws.Rows
import Derived.Laws.Tables
import Derived.Test.YtjejlhpnhkacmaaGreatDoorRows
import Derived.Laws.Pointers
import Derived.StillTailTactics

section
/-
  Lemmas for walks over bytes: no program, no dump.
-/
namespace Go.My
open Go.RowKit

/-- A slice of bytes (address, length, capacity) that reads as a list. -/
structure Bytes (w : World) (a : Option Addr) (len cap : Nat) (l : List UInt8) : Prop where
  len_eq : l.length = len
  le_cap : len ≤ cap
  cap_le : cap ≤ 9223372036854775807
  nil : a = none → len = 0 ∧ cap = 0
  at_ : len = 0 ∨ ∃ b off, a = some ⟨b, off, none⟩ ∧ b < w.heap.size ∧ ∀ i (h : i < l.length), w.cell? ⟨b, off + i, none⟩ = some (.int .u8 (l[i].toNat : Int))

theorem ret_int {k : IntKind} {a b : Int} (h : a = b) : Ending.returned (.int k a) = .returned (.int k b) := by rw [h]

theorem nil_bytes (w : World) : Bytes w none 0 0 [] := ⟨rfl, Nat.le_refl _, by omega, fun _ => ⟨rfl, rfl⟩, .inl rfl⟩

theorem Bytes.below {w w' : World} {a : Option Addr} {len cap : Nat} {l : List UInt8} (h : Bytes w a len cap l) {B : Nat} (hB : w.heap.size ≤ B) (hb : Below B w w') : Bytes w' a len cap l := by
  refine ⟨h.1, h.2, h.3, h.4, h.5.imp_right ?_⟩
  rintro ⟨b, off, ha, hs, hc⟩
  exact ⟨b, off, ha, Nat.lt_of_lt_of_le hs hb.size, fun i hi => by rw [hb.cell (p := ⟨b, off + i, none⟩) (Nat.lt_of_lt_of_le hs hB)]; exact hc i hi⟩

/-- b[:k] -/
theorem Bytes.take {w : World} {a : Option Addr} {len cap : Nat} {l : List UInt8} (h : Bytes w a len cap l) (k : Nat) (hk : k ≤ len) : Bytes w a k cap (l.take k) := by
  obtain ⟨rfl, h2, h3, h4, h5⟩ := h
  refine ⟨by simp; omega, by omega, h3, fun h => ⟨by have := (h4 h).1; omega, (h4 h).2⟩, ?_⟩
  rcases h5 with h5 | ⟨b, off, ha, hs, hc⟩
  · left; omega
  · right
    exact ⟨b, off, ha, hs, fun i hi => by
      rw [hc i (by simp at hi; omega), List.getElem_take]⟩
/-- b[k:], where there is room behind. -/
theorem Bytes.drop {w : World} {b off len cap : Nat} {l : List UInt8} (h : Bytes w (some ⟨b, off, none⟩) len cap l) (k : Nat) (hk : k ≤ len) : Bytes w (some ⟨b, off + k, none⟩) (len - k) (cap - k) (l.drop k) := by
  obtain ⟨rfl, h2, h3, h4, h5⟩ := h
  refine ⟨by simp, by omega, by omega, fun h => (by cases h), ?_⟩
  rcases h5 with h5 | ⟨b', off', ha, hs, hc⟩
  · left; omega
  · right
    cases ha
    exact ⟨b, off + k, rfl, hs, fun i hi => by
      rw [List.getElem_drop, ← hc (k + i) (by simp at hi; omega), Nat.add_assoc]⟩
theorem Bytes.some_ {w : World} {a : Option Addr} {len cap : Nat} {l : List UInt8} (h : Bytes w a len cap l) (h0 : 0 < len) : ∃ b off, a = some ⟨b, off, none⟩ := by
  rcases h.at_ with h5 | ⟨b, off, ha, hs, hc⟩
  · omega
  · exact ⟨b, off, ha⟩

theorem addr_add (b off i : Nat) : (⟨b, off, none⟩ : Addr).add i = ⟨b, off + i, none⟩ := by unfold Addr.add; split <;> simp_all

/-- What came in as a row of bytes. -/
theorem row_bytes {w : World} {a : Option Addr} {len cap : Nat} {zs : List Int}
    (h : (a = none ∧ len = 0 ∧ cap = 0 ∧ zs = []) ∨
      ∃ x, a = some x ∧ len ≤ cap ∧ cap ≤ maxLen ∧ zs.length = cap ∧ (∀ i, i < zs.length → w.cell? (x.add i) = some (.int .u8 (zs.getD i 0))) ∧ ∀ n ∈ zs, (Lit.int .u8 n).wf = true) :
    ∃ l, Bytes w a len cap l := by
  rcases h with ⟨rfl, rfl, rfl, rfl⟩ | ⟨x, rfl, h1, h2, h3, h4, h5⟩
  · exact ⟨[], nil_bytes w⟩
  · unfold maxLen at h2
    have hb : ∀ i (hi : i < zs.length), ((zs.map fun n => UInt8.ofNat n.toNat)[i]'(by simpa using hi)).toNat = zs[i] := by
      intro i hi
      have := h5 zs[i] (List.getElem_mem hi)
      have hbd : 0 ≤ zs[i] ∧ zs[i] < 256 := by
        simp [Lit.wf, IntKind.min, IntKind.max, IntKind.bits, IntKind.signed] at this
        omega
      simp
      omega
    refine ⟨(zs.map fun n => UInt8.ofNat n.toNat).take len, by simp; omega, h1, h2, (fun h => by cases h), ?_⟩
    by_cases h0 : len = 0
    · exact .inl h0
    · right
      obtain ⟨b, off, spot⟩ := x
      have hc := h4 0 (by omega)
      have hspot : spot = Option.none := by simpa [Addr.add] using World.cell?_spot hc
      subst hspot
      refine ⟨b, off, rfl, block_lt_of_cell hc, fun i hi => ?_⟩
      have hi' : i < zs.length := by simp at hi; omega
      have := h4 i hi'
      rw [addr_add] at this
      rw [this, List.getElem_take, hb i hi', List.getD_eq_getElem?_getD, List.getElem?_eq_getElem hi']
      rfl

/-! ### memory that the call itself made -/
def bv (b : UInt8) : Value := .int .u8 (b.toNat : Int)
/-- A value that is a slice of bytes of the call's own (block base or later), all of it: type E is uint8. -/
def Own (E : TypeId) (base : Nat) (w : World) (v : Value) (l : List UInt8) : Prop := w.ownsRow base E 1 v l.length (l.map bv)

theorem Own.bytes {E : TypeId} {base : Nat} {w : World} {v : Value} {l : List UInt8} (h : Own E base w v l) : ∃ a c, v = .slice a l.length c ∧ Bytes w a l.length c l := by
  rcases h.2 with ⟨rfl, h0⟩ | ⟨g, cap, cur, rfl, hg, hh, hn, hm, hs, ht⟩
  · have : l = [] := List.length_eq_zero_iff.1 h0
    subst this
    exact ⟨none, 0, rfl, nil_bytes w⟩
  · unfold maxLen at hm
    refine ⟨_, cap, rfl, rfl, hn, hm, (fun h => by cases h), .inr ⟨g, 0, rfl, ?_, fun i hi => ?_⟩⟩
    · by_cases hlt : g < w.heap.size
      · exact hlt
      · rw [Array.getElem?_eq_none (by omega)] at hh; cases hh
    · rw [cell_of_row _ _ _ _ _ _ hh, Nat.zero_add, ← Array.getElem?_toList]
      have : (cur.toList.take (l.length * 1))[i]? = (l.map bv)[i]? := by rw [ht]
      rw [List.getElem?_take, if_pos (by omega)] at this
      rw [this, List.getElem?_map, List.getElem?_eq_getElem hi]
      rfl

theorem Own.below {E : TypeId} {base : Nat} {w w' : World} {v : Value} {l : List UInt8} (h : Own E base w v l) {B : Nat} (hB : w.heap.size ≤ B) (hb : Below B w w') : Own E base w' v l := by
  refine h.kept (row := none) ⟨hb.os, hb.tape, hb.output, hb.size, fun k hk _ => hb.block k (by omega)⟩ ?_
  by_cases hv : v.ownBlock = none
  · exact .inl hv
  · exact .inr hv

/-- []byte{} -/
theorem Own.empty (E : TypeId) {base : Nat} (w : World) (hb : base ≤ w.heap.size) : Own E base (w.alloc (.cells #[] E)) (.slice (some ⟨w.heap.size, 0, none⟩) 0 0) [] :=
  World.ownsRow_lit w #[] 0 hb (by unfold maxLen; omega) rfl

theorem grown_below {base : Nat} {w0 w w' : World} {v : Value} {E : TypeId} {l : List UInt8} (hown : Own E base w v l) (h : Below base w0 w) (hg : w.grownBy w' v.ownBlock) (hb : base ≤ w.heap.size) : Below base w0 w' :=
  h.grown hg hb fun k hk => (World.ownsRow.lt hown k hk).1

/-- An operation that is wanted (its guard says yes, or it has none). -/
theorem wpList_of_wp {P : Program} {w : World} {ops : Array Oper} {rest : List Oper} {o : Oper} {a : Act} {Q : Exit → Act → World → Prop} (hw : Region.wanted o (yielded ops a.tmps) = true)
    (h : ∀ K : Act → World → Prop, (∀ a w, wpList P ops Q rest a w → K a w) → o.wp P a w K Q) : wpList P ops Q (o :: rest) a w :=
  wpList_step fun K hK => by rw [if_pos hw]; exact h K hK

/-- append(v, x...) of bytes. -/
theorem wp_append_bytes {P : Program} {w : World} {o : Oper} {a : Act} {K : Act → World → Prop} {Q : Exit → Act → World → Prop} (s x : Operand) (t : TypeId)
    (ho : o.op = .call { callee := .builtin .append, args := #[s, x], argTypes := #[t, t] }) (base : Nat) (E : TypeId) (ht : P.underlying t = some (.slice E))
    (hi : (P.info? E).map (fun i => (i.zero, i.size, i.bytes)) = some (some (.int .u8 0), 1, 1))
    (v : Value) (l : List UInt8) (hs : a.eval s = v) (hown : Own E base w v l) (ad : Option Addr) (m c : Nat) (l2 : List UInt8) (hx : a.eval x = .slice ad m c) (hb : Bytes w ad m c l2)
    (hlen : l.length + m ≤ 140737488355328) (hbase : base ≤ w.heap.size)
    (h : ∀ v' w', Own E base w' v' (l ++ l2) → w.grownBy w' v.ownBlock → K (a.put o.dst v') w') : o.wp P a w K Q := by
  obtain ⟨i, hi, hz0, hz1, hz2⟩ := info_parts hi
  cases ad with
  | none =>
    obtain ⟨rfl, rfl⟩ := hb.nil rfl
    have hl2 : l2 = [] := List.length_eq_zero_iff.1 hb.len_eq
    subst hl2
    have hrun := run_append_owned_none (P := P) (w := w) base t o.type E i 1 ht hi v l.length (l.map bv) hown
    unfold Oper.wp
    simp [execOp, ho, resolve, invoke, builtin, hs, hx, hrun, Result.andThen]
    exact h v w (by rw [List.append_nil]; exact hown) ⟨rfl, rfl, rfl, Nat.le_refl _, fun _ _ _ => rfl⟩
  | some ad =>
    refine wp_append_own w s x t ho base E i _ 1 1 ht hi hz0 hz1 hz2 rfl (by decide) v l.length (l.map bv) hs hown ad m c (l2.map bv) hx (by simp [hb.len_eq]) ?_ ?_ (by unfold maxLen; omega) (by omega) hbase ?_
    · intro j u hu
      have hj : j < l2.length := by have := (List.getElem?_eq_some_iff.1 hu).1; simpa using this
      rcases hb.at_ with h0 | ⟨b, off, hab, _, hc⟩
      · have := hb.len_eq; omega
      · simp only [Option.some.injEq] at hab
        subst hab
        rw [addr_add, hc j hj]
        rw [List.getElem?_map, List.getElem?_eq_getElem hj] at hu
        exact hu
    · intro u hu
      obtain ⟨b, _, rfl⟩ := List.mem_map.1 hu
      rfl
    · intro v' w' h1 h2 _
      refine h v' w' ?_ h2
      unfold Own
      rw [List.length_append, List.map_append, hb.len_eq]
      exact h1

theorem wpList_append_bytes {P : Program} {w : World} {ops : Array Oper} {rest : List Oper} {o : Oper} {a : Act} {Q : Exit → Act → World → Prop} (hw : Region.wanted o (yielded ops a.tmps) = true) (s x : Operand) (t : TypeId)
    (ho : o.op = .call { callee := .builtin .append, args := #[s, x], argTypes := #[t, t] }) (base : Nat) (E : TypeId) (ht : P.underlying t = some (.slice E))
    (hi : (P.info? E).map (fun i => (i.zero, i.size, i.bytes)) = some (some (.int .u8 0), 1, 1))
    (v : Value) (l : List UInt8) (hs : a.eval s = v) (hown : Own E base w v l) (ad : Option Addr) (m c : Nat) (l2 : List UInt8) (hx : a.eval x = .slice ad m c) (hb : Bytes w ad m c l2)
    (hlen : l.length + m ≤ 140737488355328) (hbase : base ≤ w.heap.size)
    (h : ∀ v' w', Own E base w' v' (l ++ l2) → w.grownBy w' v.ownBlock → wpList P ops Q rest (a.put o.dst v') w') : wpList P ops Q (o :: rest) a w :=
  wpList_of_wp hw fun _ hK => wp_append_bytes s x t ho base E ht hi v l hs hown ad m c l2 hx hb hlen hbase fun v' w' h1 h2 => hK _ _ (h v' w' h1 h2)

theorem made_bytes (k : Nat) : (madeCells (Value.cells (.int .u8 0)) (k * 1)).toList = (List.replicate k (0 : UInt8)).map bv := by
  rw [List.map_replicate, Nat.mul_one]
  exact toList_madeCells_one _ _

/-- make([]byte, k) -/
theorem wpList_make_bytes {P : Program} (w : World) {ops : Array Oper} {rest : List Oper} {o : Oper} {a : Act} {Q : Exit → Act → World → Prop}
    (hg : o.guard = none) (l c : Operand) (t : TypeId) (hop : o.op = Op.makeSlice t l c) (base : Nat) (E : TypeId) (ht : P.underlying t = some (.slice E))
    (hi : (P.info? E).map (fun i => (i.zero, i.size, i.bytes)) = some (some (.int .u8 0), 1, 1)) (kl kc : IntKind) (k : Nat) (hl : a.eval l = .int kl (k : Int)) (hc : a.eval c = .int kc (k : Int))
    (hk : k ≤ 281474976710656) (hb : base ≤ w.heap.size)
    (hK : ∀ w', Own E base w' (.slice (some ⟨w.heap.size, 0, none⟩) k k) (List.replicate k 0) → w.grownBy w' none → wpList P ops Q rest (a.put o.dst (.slice (some ⟨w.heap.size, 0, none⟩) k k)) w') : wpList P ops Q (o :: rest) a w := by
  obtain ⟨i, hi, hz0, hz1, hz2⟩ := info_parts hi
  refine wpList_make_full w hg l c t hop base E i _ 1 ht hi hz0 hz1 kl kc _ _ k hl hc rfl rfl (by rw [hz2]; omega) (by unfold maxLen; omega) hb fun w' h1 h2 => hK w' ?_ h2
  unfold Own
  rw [made_bytes] at h1
  rw [List.length_replicate]
  exact h1

/-- make([]byte, 0, k) -/
theorem wpList_make_cap {P : Program} (w : World) {ops : Array Oper} {rest : List Oper} {o : Oper} {a : Act} {Q : Exit → Act → World → Prop}
    (hg : o.guard = none) (l c : Operand) (t : TypeId) (hop : o.op = Op.makeSlice t l c) (base : Nat) (E : TypeId) (ht : P.underlying t = some (.slice E))
    (hi : (P.info? E).map (fun i => (i.zero, i.size, i.bytes)) = some (some (.int .u8 0), 1, 1)) (kl kc : IntKind) (C : Int) (k : Nat) (hl : a.eval l = .int kl 0) (hc : a.eval c = .int kc C) (hC : C = (k : Int))
    (hk : k ≤ 281474976710656) (hb : base ≤ w.heap.size)
    (hK : ∀ w', Own E base w' (.slice (some ⟨w.heap.size, 0, none⟩) 0 k) [] → w.grownBy w' none → wpList P ops Q rest (a.put o.dst (.slice (some ⟨w.heap.size, 0, none⟩) 0 k)) w') : wpList P ops Q (o :: rest) a w := by
  obtain ⟨i, hi, hz0, hz1, hz2⟩ := info_parts hi
  exact wpList_make_own w hg l c t hop base E i _ 1 ht hi hz0 hz1 kl kc C k hl hc hC (by rw [hz2]; omega) (by unfold maxLen; omega) hb fun w' h1 h2 => hK w' h1 h2

/-- []byte{c}: the block of a literal of one byte. -/
theorem one_bytes (E : TypeId) (w : World) (c : UInt8) : Bytes (w.alloc (.cells #[.int .u8 (c.toNat : Int)] E)) (some ⟨w.heap.size, 0, none⟩) 1 1 [c] := by
  refine ⟨rfl, by omega, by omega, (fun h => by cases h), .inr ⟨w.heap.size, 0, rfl, by simp, ?_⟩⟩
  intro i hi
  obtain rfl : i = 0 := by simp at hi; omega
  rw [cell_of_row _ _ _ _ _ _ (heap_alloc_new w _)]
  rfl
theorem grown_none_below {base : Nat} {w0 w w' : World} (h : Below base w0 w) (hg : w.grownBy w' none) (hb : base ≤ w.heap.size) : Below base w0 w' :=
  h.grown hg hb fun k hk => by cases hk

/-- A call that hands back bytes of its own. -/
def OwnRet (E : TypeId) (w : World) (l : List UInt8) (e : Ending) (w' : World) : Prop := ∃ v, e = .returned v ∧ Own E w.heap.size w' v l ∧ Below w.heap.size w w'

/-- string(b) -/
theorem run_string_bytes {P : Program} (w : World) (src dst E : TypeId) {a : Option Addr} {len cap : Nat} {l : List UInt8} (hs : P.underlying src = some (.slice E)) (he : P.underlying E = some (.int .u8)) (hd : P.underlying dst = some .string)
    (hb : Bytes w a len cap l) : (convert src dst (.slice a len cap)).run P w = .ok (.string ⟨l.toArray⟩) w := by
  obtain rfl := hb.len_eq
  cases a with
  | none =>
    obtain ⟨h0, rfl⟩ := hb.nil rfl
    obtain rfl : l = [] := List.length_eq_zero_iff.1 h0
    exact Go.Lib.run_convert_nil_bytes w src dst E 0 hs he hd
  | some a =>
    refine run_convert_bytes_back w src dst E a cap l hs he hd fun j hj => ?_
    rcases hb.at_ with h0 | ⟨b, off, hab, _, hc⟩
    · omega
    · simp only [Option.some.injEq] at hab
      subst hab
      rw [addr_add]; exact hc j hj

/-! ### numbers -/
/-- n & (2^j - 1) of any int. -/
theorem i64_and_mask (n : Int) (j : Nat) (hj : j ≤ 62) (m M : Int) (hm : m = (2 ^ j - 1 : Nat)) (hM : M = (2 ^ j : Nat)) : bits .and .i64 n m = n % M := by
  subst hm hM
  have h62 : 2 ^ j ≤ 2 ^ 62 := Nat.pow_le_pow_right (by decide) hj
  have hp : 0 < 2 ^ j := Nat.two_pow_pos j
  show IntKind.i64.wrap ((BitVec.ofInt 64 n &&& BitVec.ofInt 64 ((2 ^ j - 1 : Nat) : Int)).toNat : Int) = _
  rw [BitVec.toNat_and, ofInt_u64 _ (by omega), BitVec.toNat_ofInt, Nat.and_two_pow_sub_one_eq_mod]
  have e : (((n % ((2 ^ 64 : Nat) : Int)).toNat % 2 ^ j : Nat) : Int) = n % ((2 ^ j : Nat) : Int) := by
    rw [Int.natCast_emod, Int.toNat_of_nonneg (by omega)]
    exact Int.emod_emod_of_dvd n (by
      have : (2 ^ j : Nat) ∣ 2 ^ 64 := Nat.pow_dvd_pow 2 (by omega)
      exact_mod_cast this)
  rw [e]
  have h1 := Int.emod_nonneg n (show ((2 ^ j : Nat) : Int) ≠ 0 by omega)
  have h2 := Int.emod_lt_of_pos n (show (0 : Int) < ((2 ^ j : Nat) : Int) by omega)
  rw [IntKind.wrap_i64]
  omega
theorem wf_nat8 {a : Int} (h : (Lit.int .u8 a).wf = true) : ∃ c : UInt8, a = (c.toNat : Int) := by
  simp [Lit.wf, IntKind.min, IntKind.max, IntKind.bits, IntKind.signed] at h
  exact ⟨UInt8.ofNat a.toNat, by rw [UInt8.toNat_ofNat']; omega⟩
theorem wf_nat32 {a : Int} (h : (Lit.int .u32 a).wf = true) : ∃ c : Nat, a = (c : Int) ∧ c < 4294967296 := by
  simp [Lit.wf, IntKind.min, IntKind.max, IntKind.bits, IntKind.signed] at h
  exact ⟨a.toNat, by omega, by omega⟩
theorem wf_nat64 {a : Int} (h : (Lit.int .u64 a).wf = true) : ∃ c : Nat, a = (c : Int) ∧ c < 18446744073709551616 := by
  simp [Lit.wf, IntKind.min, IntKind.max, IntKind.bits, IntKind.signed] at h
  exact ⟨a.toNat, by omega, by omega⟩
theorem wf_int {a : Int} (h : (Lit.int .i64 a).wf = true) : -9223372036854775808 ≤ a ∧ a ≤ 9223372036854775807 := by
  simp [Lit.wf, IntKind.min, IntKind.max, IntKind.bits, IntKind.signed] at h
  omega
/-- (at % n + n) % n is a place below n. -/
theorem place_in (at_ : Int) (n : Nat) (hn : 0 < n) (hn2 : n ≤ 1000000) (_h1 : -9223372036854775808 ≤ at_) (_h2 : at_ ≤ 9223372036854775807) : ∃ f : Nat, f < n ∧ (wrap64 (at_.tmod (n : Int) + n)).tmod n = (f : Int) ∧ (at_.tmod (n : Int) + n).tmod n = (f : Int) := by
  have e1 := Int.tmod_lt_of_pos at_ (show (0 : Int) < n by omega)
  have e2 : -(n : Int) < at_.tmod n := by
    have h := Int.tmod_lt_of_pos (-at_) (show (0 : Int) < n by omega)
    rw [Int.neg_tmod] at h
    omega
  rw [IntWalk.wrap64_in _ ⟨by omega, by omega⟩, Int.tmod_eq_emod_of_nonneg (by omega)]
  have e3 := Int.emod_nonneg (at_.tmod n + n) (show (n : Int) ≠ 0 by omega)
  have e4 := Int.emod_lt_of_pos (at_.tmod n + n) (show (0 : Int) < n by omega)
  exact ⟨((at_.tmod n + n) % n).toNat, by omega, by omega, by omega⟩

/-! ### copies by append -/
theorem Own.nil (E : TypeId) (base : Nat) (w : World) : Own E base w (.slice none 0 0) [] := World.ownsRow_nil _ _ _ _
theorem Own.some_ {E : TypeId} {base : Nat} {w : World} {v : Value} {l : List UInt8} (h : Own E base w v l) (hl : 0 < l.length) : ∃ g c, v = .slice (some ⟨g, 0, none⟩) l.length c ∧ base ≤ g ∧ l.length ≤ c ∧ c ≤ 9223372036854775807 := by
  rcases h.2 with ⟨_, h0⟩ | ⟨g, cap, cur, rfl, hg, _, hn, hm, _⟩
  · omega
  · exact ⟨g, cap, rfl, hg, hn, hm⟩
/-- append([]byte{}, b...): what it is, that it is of the call's own, and that nothing ahead is touched. -/
theorem copied {E : TypeId} {w w1 : World} {v' : Value} {l : List UInt8} (hown : Own E w.heap.size w1 v' ([] ++ l)) (hg : (w.alloc (.cells #[] E)).grownBy w1 (Value.ownBlock (.slice (some ⟨w.heap.size, 0, none⟩) 0 0))) :
    ∃ a' c', v' = .slice a' l.length c' ∧ Bytes w1 a' l.length c' l ∧ Below w.heap.size w w1 := by
  rw [List.nil_append] at hown
  obtain ⟨a', c', rfl, hb⟩ := hown.bytes
  exact ⟨a', c', rfl, hb, grown_below (Own.empty E w (Nat.le_refl _)) ((Below.refl _ _).alloc (Nat.le_refl _) _) hg (by simp)⟩
theorem copied_below {E : TypeId} {w w1 : World} {v' : Value} {l : List UInt8} (hown : Own E w.heap.size w1 v' ([] ++ l)) (hg : (w.alloc (.cells #[] E)).grownBy w1 (Value.ownBlock (.slice (some ⟨w.heap.size, 0, none⟩) 0 0))) :
    Below w.heap.size w w1 := let ⟨_, _, _, _, h⟩ := copied hown hg; h
/-- append(append([]byte{}, a...), b...): behind the second append. -/
theorem copied2 {E : TypeId} {w w2 w3 : World} {v1 v2 : Value} {l1 l2 : List UInt8} (hown1 : Own E w.heap.size w2 v1 ([] ++ l1)) (hg1 : (w.alloc (.cells #[] E)).grownBy w2 (Value.ownBlock (.slice (some ⟨w.heap.size, 0, none⟩) 0 0)))
    (hown : Own E w.heap.size w3 v2 (l1 ++ l2)) (hg : w2.grownBy w3 v1.ownBlock) :
    ∃ a' c', v2 = .slice a' (l1.length + l2.length) c' ∧ Bytes w3 a' (l1.length + l2.length) c' (l1 ++ l2) ∧ Below w.heap.size w w3 := by
  have hw := copied_below hown1 hg1
  obtain ⟨a', c', rfl, hb⟩ := hown.bytes
  rw [List.length_append] at hb ⊢
  exact ⟨a', c', rfl, hb, grown_below hown1 hw hg hw.size⟩
/-- A text, so many times. -/
def reps (k : Nat) (l : List UInt8) : List UInt8 := (List.replicate k l).flatten
theorem reps_zero (l : List UInt8) : reps 0 l = [] := rfl
theorem reps_succ (k : Nat) (l : List UInt8) : reps (k + 1) l = reps k l ++ l := by
  unfold reps; rw [List.replicate_succ', List.flatten_append]; simp
theorem reps_len (k : Nat) (l : List UInt8) : (reps k l).length = k * l.length := by
  unfold reps; simp
end Go.My
end

section
/-
  Rows of bits, the lowest first: numbers as rows, bytes as rows, rows as bytes. Plain lists: no program, no dump.
-/
namespace BitMath

def lows : Nat → Nat → List Bool
  | 0, _ => []
  | n + 1, v => (v % 2 == 1) :: lows n (v / 2)
def num : List Bool → Nat
  | [] => 0
  | b :: t => b.toNat + 2 * num t
def bitsOf (l : List UInt8) : List Bool := l.flatMap fun b => lows 8 b.toNat

theorem lows_len (n v : Nat) : (lows n v).length = n := by
  induction n generalizing v with
  | zero => rfl
  | succ n ih => simp [lows, ih]
theorem num_lt (l : List Bool) : num l < 2 ^ l.length := by
  induction l with
  | nil => simp [num]
  | cons b t ih => rw [num, List.length_cons, Nat.pow_succ]; cases b <;> simp <;> omega
theorem bit_nat (v : Nat) : (v % 2 == 1).toNat = v % 2 := by
  rcases Nat.mod_two_eq_zero_or_one v with h | h <;> simp [h]
theorem num_lows (n v : Nat) : num (lows n v) = v % 2 ^ n := by
  induction n generalizing v with
  | zero => simp [lows, num, Nat.mod_one]
  | succ n ih =>
    rw [lows, num, ih, bit_nat, Nat.pow_succ, Nat.mul_comm (2 ^ n) 2, Nat.mod_mul]
theorem lows_num (l : List Bool) : lows l.length (num l) = l := by
  induction l with
  | nil => rfl
  | cons b t ih =>
    rw [List.length_cons, lows, num]
    have h1 : (b.toNat + 2 * num t) / 2 = num t := by cases b <;> simp <;> omega
    have h2 : ((b.toNat + 2 * num t) % 2 == 1) = b := by cases b <;> simp <;> omega
    rw [h1, h2, ih]
theorem lows_num_of (n : Nat) (l : List Bool) (h : l.length = n) : lows n (num l) = l := by subst h; exact lows_num l
theorem num_append (a b : List Bool) : num (a ++ b) = num a + 2 ^ a.length * num b := by
  induction a with
  | nil => simp [num]
  | cons x t ih =>
    rw [List.cons_append, num, num, ih, List.length_cons, Nat.pow_succ, Nat.mul_add, Nat.mul_comm (2 ^ t.length) 2, Nat.mul_assoc]
    omega
theorem lows_add (a b v : Nat) : lows (a + b) v = lows a v ++ lows b (v / 2 ^ a) := by
  induction a generalizing v with
  | zero => simp [lows]
  | succ a ih =>
    rw [show a + 1 + b = (a + b) + 1 from by omega, lows, lows, ih, List.cons_append, Nat.div_div_eq_div_mul, Nat.pow_succ, Nat.mul_comm (2 ^ a) 2]
theorem lows_mod (n v : Nat) : lows n (v % 2 ^ n) = lows n v := by
  rw [← num_lows, lows_num_of n _ (lows_len n v)]
theorem lows_eq_of_mod {n a b : Nat} (h : a % 2 ^ n = b % 2 ^ n) : lows n a = lows n b := by
  rw [← lows_mod n a, h, lows_mod]
theorem lows_zero (n : Nat) : lows n 0 = List.replicate n false := by
  induction n with
  | zero => rfl
  | succ n ih => rw [lows, List.replicate_succ]; simp [ih]
theorem num_zero (n : Nat) : num (List.replicate n false) = 0 := by
  rw [← lows_zero, num_lows]; simp
/-- bits put behind others. -/
theorem lows_join (c n r x : Nat) (h : r < 2 ^ c) : lows (c + n) (r + 2 ^ c * x) = lows c r ++ lows n x := by
  rw [lows_add]
  have hp : 0 < 2 ^ c := Nat.two_pow_pos c
  have h1 : (r + 2 ^ c * x) / 2 ^ c = x := by
    rw [Nat.add_mul_div_left _ _ hp, Nat.div_eq_of_lt h, Nat.zero_add]
  rw [h1, lows_eq_of_mod (a := r + 2 ^ c * x) (b := r) (by rw [Nat.add_mul_mod_self_left])]
theorem or_join (c r x : Nat) (h : r < 2 ^ c) : r ||| (x * 2 ^ c) = r + 2 ^ c * x := by
  rw [Nat.mul_comm x, Nat.add_comm, Nat.or_comm]
  exact (Nat.two_pow_add_eq_or_of_lt h x).symm
theorem lows_byte (c r : Nat) (h : 8 ≤ c) : lows c r = lows 8 (r % 256) ++ lows (c - 8) (r / 256) := by
  rw [show c = 8 + (c - 8) from by omega, lows_add, show 8 + (c - 8) - 8 = c - 8 from by omega]
  rw [show (256 : Nat) = 2 ^ 8 from rfl, lows_mod]
theorem lows_snoc (n v : Nat) : lows (n + 1) v = lows n v ++ [v / 2 ^ n % 2 == 1] := by
  rw [lows_add]; rfl

theorem bitsOf_append (a b : List UInt8) : bitsOf (a ++ b) = bitsOf a ++ bitsOf b := by simp [bitsOf]
theorem bitsOf_nil : bitsOf [] = [] := rfl
theorem bitsOf_cons (b : UInt8) (t : List UInt8) : bitsOf (b :: t) = lows 8 b.toNat ++ bitsOf t := rfl
theorem bitsOf_one (b : UInt8) : bitsOf [b] = lows 8 b.toNat := by simp [bitsOf]
theorem bitsOf_len (l : List UInt8) : (bitsOf l).length = 8 * l.length := by
  induction l with
  | nil => rfl
  | cons b t ih => rw [bitsOf_cons, List.length_append, ih, lows_len, List.length_cons]; omega
theorem bitsOf_drop (l : List UInt8) (j : Nat) : (bitsOf l).drop (8 * j) = bitsOf (l.drop j) := by
  induction j generalizing l with
  | zero => simp
  | succ j ih =>
    cases l with
    | nil => simp [bitsOf]
    | cons b t =>
      rw [bitsOf_cons, List.drop_succ_cons, ← ih t, show 8 * (j + 1) = (lows 8 b.toNat).length + 8 * j from by rw [lows_len]; omega, List.drop_append]
      simp
theorem bitsOf_get (l : List UInt8) (i : Nat) (h : i < 8 * l.length) : (bitsOf l)[i]? = some ((l[i / 8]'(by omega)).toNat / 2 ^ (i % 8) % 2 == 1) := by
  have h8 : i / 8 < l.length := by omega
  have e : (bitsOf l)[i]? = ((bitsOf l).drop (8 * (i / 8)))[i % 8]? := by
    rw [List.getElem?_drop]; congr 1; omega
  rw [e, bitsOf_drop, List.drop_eq_getElem_cons h8, bitsOf_cons]
  have hm : i % 8 < 8 := Nat.mod_lt _ (by omega)
  rw [List.getElem?_append_left (by rw [lows_len]; exact hm)]
  generalize i % 8 = m at *
  generalize l[i / 8] = c
  have hs : lows 8 c.toNat = lows m c.toNat ++ (c.toNat / 2 ^ m % 2 == 1) :: lows (7 - m) (c.toNat / 2 ^ m / 2) := by
    rw [show 8 = m + (7 - m + 1) from by omega, lows_add, lows]
  rw [hs, List.getElem?_append_right (by rw [lows_len]; omega), lows_len]
  simp

/-- Rows as bytes, the last one filled up. -/
def pack (bs : List Bool) : List UInt8 := (List.range ((bs.length + 7) / 8)).map fun j => UInt8.ofNat (num ((bs.drop (8 * j)).take 8))
theorem pack_len (bs : List Bool) : (pack bs).length = (bs.length + 7) / 8 := by simp [pack]
theorem num_small (l : List Bool) (h : l.length ≤ 8) : num l < 256 :=
  Nat.lt_of_lt_of_le (num_lt l) (by rw [show (256 : Nat) = 2 ^ 8 from rfl]; exact Nat.pow_le_pow_right (by omega) h)
theorem ofNat_num (l : List Bool) (h : l.length ≤ 8) : (UInt8.ofNat (num l)).toNat = num l := by
  rw [UInt8.toNat_ofNat']; exact Nat.mod_eq_of_lt (num_small l h)
theorem pack_get (bs : List Bool) (j : Nat) (h : j < (bs.length + 7) / 8) : (pack bs)[j]'(by rw [pack_len]; exact h) = UInt8.ofNat (num ((bs.drop (8 * j)).take 8)) := by simp [pack]
theorem take_lows (b : UInt8) (t : List Bool) : num ((lows 8 b.toNat ++ t).take 8) = b.toNat := by
  rw [List.take_append_of_le_length (by rw [lows_len]; omega), List.take_of_length_le (by rw [lows_len]; omega), num_lows]
  have := b.toNat_lt
  omega
/-- Bytes and fewer than eight bits behind them. -/
theorem pack_bytes (l : List UInt8) (t : List Bool) (ht : t.length < 8) : pack (bitsOf l ++ t) = l ++ (if t.length = 0 then [] else [UInt8.ofNat (num t)]) := by
  have hlen : (bitsOf l ++ t).length = 8 * l.length + t.length := by rw [List.length_append, bitsOf_len]
  apply List.ext_getElem
  · rw [pack_len, hlen]; split <;> simp <;> omega
  · intro j h1 h2
    rw [pack_len, hlen] at h1
    rw [pack_get _ _ (by rw [hlen]; exact h1)]
    by_cases hj : j < l.length
    · rw [List.getElem_append_left hj]
      rw [List.drop_append_of_le_length (by rw [bitsOf_len]; omega), bitsOf_drop, List.drop_eq_getElem_cons hj, bitsOf_cons, List.append_assoc, take_lows]
      simp
    · have hje : j = l.length := by omega
      subst hje
      have h0 : t.length ≠ 0 := by omega
      rw [List.getElem_append_right (by omega)]
      simp only [if_neg h0, Nat.sub_self, List.getElem_cons_zero]
      rw [show 8 * l.length = (bitsOf l).length + 0 from by rw [bitsOf_len]; rfl, List.drop_append, List.take_of_length_le (by simp; omega)]
      simp
theorem pack_bitsOf (l : List UInt8) : pack (bitsOf l) = l := by
  have := pack_bytes l [] (by simp)
  simpa using this

/-- Filled up to a byte's end. -/
def pad (bs : List Bool) : List Bool := bs ++ List.replicate ((8 - bs.length % 8) % 8) false
theorem pad_len (bs : List Bool) : (pad bs).length = (bs.length + 7) / 8 * 8 := by
  unfold pad; simp; omega
theorem pad_full (bs : List Bool) (h : bs.length % 8 = 0) : pad bs = bs := by unfold pad; rw [h]; simp
theorem pad_bytes (l : List UInt8) (t : List Bool) (ht : t.length < 8) : pad (bitsOf l ++ t) = bitsOf (pack (bitsOf l ++ t)) := by
  rw [pack_bytes l t ht, bitsOf_append]
  unfold pad
  rw [List.append_assoc, List.length_append, bitsOf_len]
  congr 1
  split
  · have : t = [] := List.length_eq_zero_iff.1 (by assumption)
    subst this
    simp [bitsOf]
  · rw [bitsOf_one, ofNat_num t (by omega), show (8 * l.length + t.length) % 8 = t.length from by omega, Nat.mod_eq_of_lt (by omega)]
    conv => rhs; rw [show 8 = t.length + (8 - t.length) from by omega]
    rw [lows_add, lows_num, Nat.div_eq_of_lt (num_lt t), lows_zero]
/-- Every row is bytes and fewer than eight bits behind them. -/
theorem split_bytes (bs : List Bool) : ∃ (l : List UInt8) (t : List Bool), bs = bitsOf l ++ t ∧ t.length < 8 := by
  generalize hn : bs.length = n
  induction n using Nat.strongRecOn generalizing bs with
  | ind n ih =>
    by_cases h : bs.length < 8
    · exact ⟨[], bs, rfl, h⟩
    · obtain ⟨l, t, he, ht⟩ := ih (bs.drop 8).length (by simp; omega) (bs.drop 8) rfl
      refine ⟨UInt8.ofNat (num (bs.take 8)) :: l, t, ?_, ht⟩
      rw [bitsOf_cons, ofNat_num _ (by simp; omega), lows_num_of 8 _ (by simp; omega), List.append_assoc, ← he, List.take_append_drop]
theorem bitsOf_pack (bs : List Bool) : bitsOf (pack bs) = pad bs := by
  obtain ⟨l, t, rfl, ht⟩ := split_bytes bs
  exact (pad_bytes l t ht).symm

/-- The bits as a text. -/
def chB (b : Bool) : UInt8 := if b then 49 else 48
def txt (bs : List Bool) : ByteArray := ⟨(bs.map chB).toArray⟩
theorem txt_len (bs : List Bool) : (txt bs).size = bs.length := by
  show (bs.map chB).toArray.size = _
  simp
theorem txt_append (a b : List Bool) : txt a ++ txt b = txt (a ++ b) := by
  unfold txt
  apply ByteArray.ext
  simp [ByteArray.data_append]
theorem chB_inj (a b : Bool) (h : chB a = chB b) : a = b := by
  cases a <;> cases b <;> first | rfl | (revert h; decide)
theorem txt_get (bs : List Bool) (i : Nat) (h : i < (txt bs).size) : (txt bs)[i] = chB (bs[i]'(by rwa [txt_len] at h)) := by
  have e : (bs.map chB).toArray[i]'(by simpa [txt_len] using h) = chB (bs[i]'(by rwa [txt_len] at h)) := by simp
  exact e
theorem chB_nat (b : Bool) : (chB b).toNat = 48 + b.toNat := by cases b <;> rfl

/-- The number of a row turned round grows at its low end. -/
theorem num_turn (n v : Nat) : num (lows (n + 1) v).reverse = (v / 2 ^ n % 2) + 2 * num (lows n v).reverse := by
  rw [lows_snoc, List.reverse_append]
  simp [num, bit_nat]
theorem lows_turn (n v : Nat) : lows n (num (lows n v).reverse) = (lows n v).reverse := lows_num_of n _ (by simp [lows_len])
theorem num_snoc (l : List Bool) (b : Bool) : num (l ++ [b]) = num l + 2 ^ l.length * b.toNat := by
  rw [num_append]; simp [num]
end BitMath
end

section
/-
  Regions that draw their order, whose own operations only read, and whose callees may make memory: one walk in the order of the text, in the class of the worlds that keep all that was there. No program, no dump.
-/
namespace Go.My
open Go.RowKit

/-- A world that has come of w, all that was there kept. -/
structure Later (w : World) where
  at' : World
  kept : Below w.heap.size w at'

instance {w : World} : Inhabited (Later w) := ⟨⟨w, Below.refl _ w⟩⟩

theorem wp_region_later {P : Program} {id : Nat} {Q : Exit → Act → World → Prop} {a : Act} {w : World} {l : List Oper} (hm : P.follows .mixedOrders = true) (hB : Region.lexB .any l.toArray = true)
    (h : wpQuiet P l.toArray (fun w' => ∃ p : Later w, w' = p.at') (fun a' => ∀ w', (∃ p : Later w, w' = p.at') → Q .normal a' w') l a) : (Code.region id l.toArray true).wp P Q a w :=
  wp_region_quiet (C := fun w' => ∃ p : Later w, w' = p.at') hm hB ⟨⟨_, (Below.refl _ w).drew⟩, rfl⟩ (by simpa using h)

theorem later_of {P : Program} {f : FuncId} {args : Array Value} {w : World} {p : Later w} {v : Value}
    (h : Calls P f args p.at' fun e w'' => e = .returned v ∧ Below p.at'.heap.size p.at' w'') : Calls P f args p.at' fun e w'' => e = .returned v ∧ ∃ q : Later w, w'' = q.at' :=
  h.mono fun _ _ ⟨he, hb⟩ => ⟨he, ⟨_, p.kept.trans (hb.mono p.kept.size)⟩, rfl⟩
theorem later_same {P : Program} {f : FuncId} {args : Array Value} {w : World} {p : Later w} {v : Value}
    (h : Calls P f args p.at' fun e w'' => e = .returned v ∧ p.at' = w'') : Calls P f args p.at' fun e w'' => e = .returned v ∧ ∃ q : Later w, w'' = q.at' :=
  h.mono fun _ _ ⟨he, hb⟩ => ⟨he, p, hb.symm⟩
end Go.My
end

section
/-
  A region that draws its order, taken operation by operation in the text's own order: what yields its value in every later world is taken first; what makes memory stands alone. No dump.
-/
namespace Go.My
open Go.RowKit
section
variable {P : Program} {ops : Array Oper} {Q : Exit → Act → World → Prop} {md : Region.Mode} {S : World → Prop}

theorem held_weaken {S' : World → Prop} (h : ∀ w, S' w → S w) : ∀ (fuel : Nat) (listed : Array Bool) (a : Act) (w : World), wpAnyH P md ops Q S' fuel listed a w → wpAnyH P md ops Q S fuel listed a w
  | 0, _, _, _, hh => hh
  | fuel + 1, _, _, _, hh => ⟨hh.1, fun i hi => wpOp_mono (fun a' w' h' => ⟨h _ h'.1, held_weaken h fuel _ a' w' h'.2⟩) (hh.2 i hi)⟩

/-- One operation that yields its value in every world that meets S. -/
theorem ord_take {i : Nat} {o : Oper} {d : Option Tmp} (v : Value) {fuel : Nat} {listed : Array Bool} {a : Act} {w : World} (hi : ops[i]? = some o) (hd : o.dst = d)
    (hs : Region.noSelect ops = true) (hf : Region.free md ops listed i = true) (hr : (Region.ready md ops listed).contains i = true)
    (hQ : ∀ c a w, Q (.panic c) (a.put d v) w → Q (.panic c) a w) (hw : Region.wanted o (yielded ops a.tmps) = true) (hy : ∀ w, S w → (execOp a.eval o).run P w = .ok (.value v) w) (hS : S w)
    (h : wpAnyH P md ops Q S fuel (listed.setIfInBounds i true) (a.put d v) w) : wpAnyH P md ops Q S (fuel + 1) listed a w := by
  subst hd
  exact wpAnyH_take hi hs hf hr hQ (.inl ⟨hw, hy⟩) hS h
/-- The one operation that may come up. -/
theorem ord_alone {i : Nat} {o : Oper} {fuel : Nat} {listed : Array Bool} {a : Act} {w : World} (hi : ops[i]? = some o) (hr : Region.ready md ops listed = [i])
    (hw : Region.wanted o (yielded ops a.tmps) = true)
    (h : o.wp P a w (fun a' w' => S w' ∧ wpAnyH P md ops Q S fuel (listed.setIfInBounds i true) a' w') Q) : wpAnyH P md ops Q S (fuel + 1) listed a w := by
  refine wpAnyH_all hr (by simp) fun j hj => ?_
  obtain rfl : j = i := by simpa using hj
  unfold wpOp
  simp only [hi, hw, if_true]
  exact .inl h
theorem wp_enter {o : Oper} {a : Act} {w : World} {K : Act → World → Prop} {d : Option Tmp} {f : FuncId} {args : Array Value} {R : Ending → World → Prop} (hd : o.dst = d)
    (hr : (execOp a.eval o).run P w = .ok (.enter f args) w) (hc : Calls P f args w R) (h : ∀ e w', R e w' → ∃ v, e = .returned v ∧ K (a.put d v) w') : o.wp P a w K Q := by
  subst hd
  unfold Oper.wp
  rw [hr]
  simp only [Oper.upon]
  exact hc.mono fun e w' hR => by obtain ⟨v, rfl, hK⟩ := h e w' hR; exact hK
theorem wp_value {o : Oper} {a : Act} {w w' : World} {K : Act → World → Prop} {d : Option Tmp} {v : Value} (hd : o.dst = d)
    (hr : (execOp a.eval o).run P w = .ok (.value v) w') (h : K (a.put d v) w') : o.wp P a w K Q := by
  subst hd
  unfold Oper.wp
  rw [hr]
  exact h
theorem wp_append_d {w : World} {o : Oper} {a : Act} {K : Act → World → Prop} {d : Option Tmp} (hd : o.dst = d) (s x : Operand) (t : TypeId)
    (ho : o.op = .call { callee := .builtin .append, args := #[s, x], argTypes := #[t, t] }) (base : Nat) (E : TypeId) (ht : P.underlying t = some (.slice E))
    (hi : (P.info? E).map (fun i => (i.zero, i.size, i.bytes)) = some (some (.int .u8 0), 1, 1))
    (v : Value) (l : List UInt8) (hs : a.eval s = v) (hown : Own E base w v l) (ad : Option Addr) (m c : Nat) (l2 : List UInt8) (hx : a.eval x = .slice ad m c) (hb : Bytes w ad m c l2)
    (hlen : l.length + m ≤ 140737488355328) (hbase : base ≤ w.heap.size)
    (h : ∀ v' w', Own E base w' v' (l ++ l2) → w.grownBy w' v.ownBlock → K (a.put d v') w') : o.wp P a w K Q := by
  subst hd
  exact wp_append_bytes s x t ho base E ht hi v l hs hown ad m c l2 hx hb hlen hbase h
end
end Go.My
end

section
/-
  Memory behind a pointer: a struct's block known whole, a slice of bytes that it owns, and what a call may turn of them. No program, no dump.
-/
namespace Go.My
open Go.RowKit

/-- Block g is just the cells cs of type t, none frozen. -/
def Blk (w : World) (g : Nat) (t : TypeId) (cs : Array Value) : Prop := w.heap[g]? = some (.cells cs t (0, 0))

/-- The block stands as it did: so does what is known of it. -/
theorem Blk.same {w w' : World} {g : Nat} {t : TypeId} {cs : Array Value} (h : Blk w g t cs) (e : w'.heap[g]? = w.heap[g]?) : Blk w' g t cs := e.trans h
section
variable {w w' : World} {g : Nat} {t : TypeId} {cs : Array Value}
theorem Blk.lt (h : Blk w g t cs) : g < w.heap.size := (Array.getElem?_eq_some_iff.1 (show w.heap[g]? = some _ from h)).1
theorem Blk.cell (h : Blk w g t cs) (i : Nat) : w.cell? ⟨g, i, none⟩ = cs[i]? := by rw [World.cell?]; simp only [show w.heap[g]? = _ from h]; rfl
theorem Blk.frozen (h : Blk w g t cs) (i : Nat) : w.frozen? ⟨g, i, none⟩ = false := by rw [World.frozen?]; simp [show w.heap[g]? = _ from h]
theorem Blk.new (w : World) (t : TypeId) (cs : Array Value) : Blk (w.alloc (.cells cs t)) w.heap.size t cs := heap_alloc_new w _
theorem Blk.drew (h : Blk w g t cs) : Blk w.drew g t cs := h
theorem Blk.alloc (h : Blk w g t cs) (o : Obj) : Blk (w.alloc o) g t cs := h.same (Below.heap_alloc w o g h.lt)
theorem Blk.set_ (h : Blk w g t cs) (i : Nat) (u : Value) : Blk (w.setCell ⟨g, i, none⟩ u) g t (cs.setIfInBounds i u) := by
  show (w.setCell ⟨g, i, none⟩ u).heap[g]? = _
  rw [World.setCell, Array.getElem?_modify, if_pos rfl, show w.heap[g]? = _ from h]
  rfl
theorem Blk.grown {row : Option Nat} (h : Blk w g t cs) (hb : w.grownBy w' row) (hg : some g ≠ row) : Blk w' g t cs := h.same (hb.block g h.lt hg)
end

/-- From w to w' only blocks of S have turned, and new ones have come. -/
structure Only (S : Nat → Prop) (w w' : World) : Prop where
  os : w'.os = w.os
  tape : w'.tape = w.tape
  output : w'.output = w.output
  size : w.heap.size ≤ w'.heap.size
  block : ∀ k, k < w.heap.size → ¬ S k → w'.heap[k]? = w.heap[k]?

section
variable {S T : Nat → Prop} {w w' a b c : World}
theorem Only.refl (S : Nat → Prop) (w : World) : Only S w w := ⟨rfl, rfl, rfl, Nat.le_refl _, fun _ _ _ => rfl⟩
theorem Only.trans (h : Only S a b) (k : Only T b c) (hT : ∀ i, i < a.heap.size → T i → S i) : Only S a c :=
  ⟨k.os.trans h.os, k.tape.trans h.tape, k.output.trans h.output, Nat.le_trans h.size k.size, fun i hi hs => (k.block i (Nat.lt_of_lt_of_le hi h.size) (fun ht => hs (hT i hi ht))).trans (h.block i hi hs)⟩
theorem Only.drew (h : Only S a b) : Only S a b.drew := ⟨h.os, h.tape, h.output, h.size, h.block⟩
theorem Only.drewN (h : Only S a b) (n : Nat) : Only S a (b.drewN n) := ⟨h.os, h.tape, h.output, h.size, h.block⟩
theorem Only.of_drewN {n : Nat} (h : Only S (a.drewN n) b) : Only S a b := ⟨h.os, h.tape, h.output, h.size, h.block⟩
theorem Only.alloc (h : Only S a b) (o : Obj) : Only S a (b.alloc o) :=
  h.trans (T := fun _ => False) ⟨rfl, rfl, rfl, by simp, fun k hk _ => Below.heap_alloc _ _ _ hk⟩ (fun _ _ h => h.elim)
theorem Only.setCell (h : Only S a b) {p : Addr} (hp : p.block < a.heap.size → S p.block) (u : Value) : Only S a (b.setCell p u) :=
  h.trans (T := fun k => k = p.block) ⟨rfl, rfl, rfl, by simp [World.setCell], fun k _ hs => Below.heap_setCell _ _ _ _ hs⟩ (fun i hi he => by subst he; exact hp hi)
theorem Only.grown {row : Option Nat} (h : Only S a b) (hg : b.grownBy c row) (hr : ∀ k, k < a.heap.size → row = some k → S k) : Only S a c :=
  h.trans (T := fun k => row = some k) ⟨hg.os, hg.tape, hg.output, hg.size, fun k hk hs => hg.block k hk (fun e => hs e.symm)⟩ (fun i hi he => hr i hi he)
theorem Only.of_below (h : Below w.heap.size w w') (S : Nat → Prop) : Only S w w' := ⟨h.os, h.tape, h.output, h.size, fun k hk _ => h.block k hk⟩
theorem Only.then_below (h : Only S a b) (k : Below b.heap.size b c) : Only S a c := h.trans (Only.of_below k S) (fun _ _ h => h)
theorem Only.below (h : Only S w w') {B : Nat} (hB : B ≤ w.heap.size) (hS : ∀ k, S k → B ≤ k) : Below B w w' :=
  ⟨h.os, h.tape, h.output, h.size, fun k hk => h.block k (by omega) (fun hs => by have := hS k hs; omega)⟩
theorem Only.mono (h : Only S w w') (hT : ∀ k, k < w.heap.size → S k → T k) : Only T w w' := ⟨h.os, h.tape, h.output, h.size, fun k hk ht => h.block k hk (fun hs => ht (hT k hk hs))⟩
theorem Only.blk {g : Nat} {t : TypeId} {cs : Array Value} (h : Only S w w') (hb : Blk w g t cs) (hg : ¬ S g) : Blk w' g t cs := (h.block g hb.lt hg).trans hb
theorem Only.cell (h : Only S w w') {p : Addr} (hp : p.block < w.heap.size) (hs : ¬ S p.block) : w'.cell? p = w.cell? p := World.cell?_of_block (w := w) (h.block p.block hp hs)
theorem Only.frozen (h : Only S w w') {p : Addr} (hp : p.block < w.heap.size) (hs : ¬ S p.block) : w'.frozen? p = w.frozen? p := World.frozen?_of_block (w := w) (h.block p.block hp hs)
theorem Only.own {E : TypeId} {base : Nat} {v : Value} {l : List UInt8} (h : Only S w w') (ho : Own E base w v l) (hv : ∀ k, v.ownBlock = some k → ¬ S k) : Own E base w' v l := by
  refine ⟨ho.1, ?_⟩
  rcases ho.2 with hn | ⟨g, cap, cur, rfl, hb, hgg, rest⟩
  · exact .inl hn
  · refine .inr ⟨g, cap, cur, rfl, hb, ?_, rest⟩
    rw [h.block g (Array.getElem?_eq_some_iff.1 hgg).1 (hv g rfl)]
    exact hgg
theorem Only.bytes {ad : Option Addr} {len cap : Nat} {l : List UInt8} (h : Only S w w') (hb : Bytes w ad len cap l) (hS : ∀ b off, ad = some ⟨b, off, none⟩ → ¬ S b) : Bytes w' ad len cap l := by
  refine ⟨hb.1, hb.2, hb.3, hb.4, hb.5.imp_right ?_⟩
  rintro ⟨b, off, ha, hs, hc⟩
  exact ⟨b, off, ha, Nat.lt_of_lt_of_le hs h.size, fun i hi => by rw [h.cell (p := ⟨b, off + i, none⟩) hs (hS b off ha)]; exact hc i hi⟩
end

/-- The blocks of a struct that owns a row: its own, and the row's. -/
def Fp (g : Nat) (r : Option Nat) : Nat → Prop := fun k => k = g ∨ r = some k
/-- The row is the one that it was, or a new one. -/
def Nxt (r : Option Nat) (H : Nat) (r' : Option Nat) : Prop := r' = r ∨ ∃ k, r' = some k ∧ H ≤ k
theorem Nxt.refl (r : Option Nat) (H : Nat) : Nxt r H r := .inl rfl
theorem Nxt.trans {r r1 r2 : Option Nat} {H H1 : Nat} (h : Nxt r H r1) (k : Nxt r1 H1 r2) (hH : H ≤ H1) : Nxt r H r2 := by
  rcases k with rfl | ⟨j, rfl, hj⟩
  · exact h
  · exact .inr ⟨j, rfl, by omega⟩
theorem Only.next {g : Nat} {r r1 : Option Nat} {a b c : World} (h : Only (Fp g r) a b) (hn : Nxt r a.heap.size r1) (k : Only (Fp g r1) b c) : Only (Fp g r) a c :=
  h.trans k fun i hi hT => by
    rcases hT with rfl | hT
    · exact .inl rfl
    · rcases hn with rfl | ⟨j, rfl, hj⟩
      · exact .inr hT
      · injection hT with hT
        omega

theorem own_len_ne {E : TypeId} {base : Nat} {w : World} {v : Value} {l : List UInt8} {g : Nat} {t : TypeId} {cs : Array Value} (ho : Own E base w v l) (hb : Blk w g t cs) (ht : t ≠ E) : v.ownBlock ≠ some g := by
  rcases ho.2 with ⟨rfl, _⟩ | ⟨g', cap, cur, rfl, _, hgg, _⟩
  · simp [Value.ownBlock]
  · intro h
    simp only [Value.ownBlock, Option.some.injEq] at h
    subst h
    unfold Blk at hb
    rw [hgg] at hb
    injection hb with hb
    injection hb with _ hb
    exact ht hb.symm

/-- append(v, x...) of bytes at a step of a region that draws its order; where the new row lies. -/
theorem wp_append_lie {P : Program} {w : World} {o : Oper} {a : Act} {K : Act → World → Prop} {Q : Exit → Act → World → Prop} (s x : Operand) (t : TypeId)
    (ho : o.op = .call { callee := .builtin .append, args := #[s, x], argTypes := #[t, t] }) (base : Nat) (E : TypeId) (ht : P.underlying t = some (.slice E))
    (hi : (P.info? E).map (fun i => (i.zero, i.size, i.bytes)) = some (some (.int .u8 0), 1, 1))
    (v : Value) (l : List UInt8) (hs : a.eval s = v) (hown : Own E base w v l) (ad : Option Addr) (m c : Nat) (l2 : List UInt8) (hx : a.eval x = .slice ad m c) (hb : Bytes w ad m c l2)
    (hlen : l.length + m ≤ 140737488355328) (hbase : base ≤ w.heap.size)
    (h : ∀ v' w', Own E base w' v' (l ++ l2) → w.grownBy w' v.ownBlock → Nxt v.ownBlock w.heap.size v'.ownBlock → K (a.put o.dst v') w') : o.wp P a w K Q := by
  obtain ⟨i, hi, hz0, hz1, hz2⟩ := info_parts hi
  by_cases h0 : m = 0
  · subst h0
    have hl2 : l2 = [] := List.length_eq_zero_iff.1 hb.len_eq
    subst hl2
    obtain ⟨v', w', hr, h2, h3, _, h5⟩ : ∃ v' w', (Builtin.append_ #[t, t] o.type #[v, .slice ad 0 c]).run P w = .ok v' w' ∧ Own E base w' v' l ∧ w.grownBy w' v.ownBlock ∧ True ∧ (v'.ownBlock = v.ownBlock ∨ v'.ownBlock = some w.heap.size) := by
      cases ad with
      | none =>
        obtain ⟨_, rfl⟩ := hb.nil rfl
        have hrun := run_append_owned_none (P := P) (w := w) base t o.type E i 1 ht hi v l.length (l.map bv) hown
        exact ⟨v, w, hrun, hown, ⟨rfl, rfl, rfl, Nat.le_refl _, fun _ _ _ => rfl⟩, trivial, .inl rfl⟩
      | some ad =>
        obtain ⟨v', w', hr, h2, h3, _, h5⟩ := run_append_own_at (P := P) w base t o.type E i _ 1 1 ht hi hz0 hz1 hz2 rfl (by decide) v l.length (l.map bv) hown ad 0 c [] rfl (fun j u hu => by simp at hu) (fun u hu => by simp at hu) (by unfold maxLen; omega) (by omega) hbase
        refine ⟨v', w', hr, ?_, h3, trivial, h5⟩
        unfold Own
        rw [List.append_nil] at h2
        exact h2
    unfold Oper.wp execOp
    simp only [ho, resolve, invoke, builtin, Sem.run_bind, Sem.run_pure, Result.andThen_ok, List.map_toArray, List.map_cons, List.map_nil, hs, hx, hr]
    refine h v' w' (by rw [List.append_nil]; exact h2) h3 ?_
    rcases h5 with h5 | h5
    · exact .inl h5
    · exact .inr ⟨_, h5, Nat.le_refl _⟩
  · rcases hb.at_ with h1 | ⟨b, off, hab, hbs, hc⟩
    · omega
    subst hab
    refine wp_append_lies w s x t ho base E i _ 1 1 ht hi hz0 hz1 hz2 rfl (by decide) v l.length (l.map bv) hs hown ⟨b, off, none⟩ m c (l2.map bv) hx (by simp [hb.len_eq]) ?_ ?_ (by omega) (by unfold maxLen; omega) (by omega) hbase _ rfl ?_
    · intro j u hu
      have hj : j < l2.length := by have := (List.getElem?_eq_some_iff.1 hu).1; simpa using this
      rw [addr_add, hc j hj]
      rw [List.getElem?_map, List.getElem?_eq_getElem hj] at hu
      exact hu
    · intro u hu
      obtain ⟨b, _, rfl⟩ := List.mem_map.1 hu
      rfl
    · intro g cap w' h1 h2 h3 _
      refine h _ w' ?_ h2 ?_
      · unfold Own
        rw [List.length_append, List.map_append, hb.len_eq]
        exact h1
      · rcases h3 with h3 | rfl
        · exact .inl h3.symm
        · exact .inr ⟨_, rfl, Nat.le_refl _⟩
theorem step_append_lie {P : Program} {w : World} {ops : Array Oper} {o : Oper} {a : Act} {K : Act → World → Prop} {Q : Exit → Act → World → Prop} {F : Prop} (hgd : o.guard = none) (s x : Operand) (t : TypeId)
    (ho : o.op = .call { callee := .builtin .append, args := #[s, x], argTypes := #[t, t] }) (base : Nat) (E : TypeId) (ht : P.underlying t = some (.slice E))
    (hi : (P.info? E).map (fun i => (i.zero, i.size, i.bytes)) = some (some (.int .u8 0), 1, 1))
    (v : Value) (l : List UInt8) (hs : a.eval s = v) (hown : Own E base w v l) (ad : Option Addr) (m c : Nat) (l2 : List UInt8) (hx : a.eval x = .slice ad m c) (hb : Bytes w ad m c l2)
    (hlen : l.length + m ≤ 140737488355328) (hbase : base ≤ w.heap.size)
    (h : ∀ a' c' w', Own E base w' (.slice a' (l.length + m) c') (l ++ l2) → w.grownBy w' v.ownBlock → Nxt v.ownBlock w.heap.size (Value.ownBlock (.slice a' (l.length + m) c')) → K (a.put o.dst (.slice a' (l.length + m) c')) w') :
    if Region.wanted o (yielded ops a.tmps) = true then Oper.wp P o a w K Q else F := by
  have hw : Region.wanted o (yielded ops a.tmps) = true := by simp [Region.wanted, hgd]
  rw [if_pos hw]
  exact wp_append_lie s x t ho base E ht hi v l hs hown ad m c l2 hx hb hlen hbase fun v' w' h1 h2 h3 => by
    obtain ⟨a', c', rfl, _⟩ := h1.bytes
    rw [List.length_append, hb.len_eq] at *
    exact h a' c' w' h1 h2 h3
theorem wpList_append_lie {P : Program} {w : World} {ops : Array Oper} {rest : List Oper} {o : Oper} {a : Act} {Q : Exit → Act → World → Prop} (hw : Region.wanted o (yielded ops a.tmps) = true) (s x : Operand) (t : TypeId)
    (ho : o.op = .call { callee := .builtin .append, args := #[s, x], argTypes := #[t, t] }) (base : Nat) (E : TypeId) (ht : P.underlying t = some (.slice E))
    (hi : (P.info? E).map (fun i => (i.zero, i.size, i.bytes)) = some (some (.int .u8 0), 1, 1))
    (v : Value) (l : List UInt8) (hs : a.eval s = v) (hown : Own E base w v l) (ad : Option Addr) (m c : Nat) (l2 : List UInt8) (hx : a.eval x = .slice ad m c) (hb : Bytes w ad m c l2)
    (hlen : l.length + m ≤ 140737488355328) (hbase : base ≤ w.heap.size)
    (h : ∀ a' c' w', Own E base w' (.slice a' (l.length + m) c') (l ++ l2) → w.grownBy w' v.ownBlock → Nxt v.ownBlock w.heap.size (Value.ownBlock (.slice a' (l.length + m) c')) → wpList P ops Q rest (a.put o.dst (.slice a' (l.length + m) c')) w') : wpList P ops Q (o :: rest) a w :=
  wpList_of_wp hw fun _ hK => wp_append_lie s x t ho base E ht hi v l hs hown ad m c l2 hx hb hlen hbase fun v' w' h1 h2 h3 => by
    obtain ⟨a', c', rfl, _⟩ := h1.bytes
    rw [List.length_append, hb.len_eq] at *
    exact hK _ _ (h a' c' w' h1 h2 h3)
end Go.My
end

section
/-
  Canonical prefix codes: Kraft's sum, the first code of each length, codes; no code is the beginning of another one. Plain lists of numbers: no program, no dump.
-/
namespace CanMath
open BitMath

/-- So many rows of 15 bits begin with a code of n bits. -/
def share (n : Nat) : Nat := if n = 0 then 0 else 2 ^ (15 - n)
/-- Kraft's sum. -/
def kr (ls : List Nat) : Nat := (ls.map share).sum
/-- The rows that begin with a code shorter than n. -/
def low (ls : List Nat) (n : Nat) : Nat := (ls.map fun x => if x < n then share x else 0).sum
/-- The first code of n bits. -/
def first (ls : List Nat) : Nat → Nat
  | 0 => 0
  | 1 => 0
  | n + 2 => 2 * (first ls (n + 1) + ls.count (n + 1))
/-- The code of the symbol at place i, of n bits. -/
def codeN (ls : List Nat) (n i : Nat) : Nat := first ls n + (ls.take i).count n
def code (ls : List Nat) (i : Nat) (h : i < ls.length) : Nat := if ls[i] = 0 then 0 else codeN ls ls[i] i

theorem kr_nil : kr [] = 0 := rfl
theorem kr_cons (x : Nat) (t : List Nat) : kr (x :: t) = share x + kr t := by simp [kr]
theorem kr_append (a b : List Nat) : kr (a ++ b) = kr a + kr b := by simp [kr]
theorem share_le (n : Nat) : share n ≤ 16384 := by
  unfold share
  split
  · omega
  · rw [show 16384 = 2 ^ 14 from rfl]; exact Nat.pow_le_pow_right (by omega) (by omega)
theorem share_pos {n : Nat} (h : 0 < n) : 0 < share n := by
  unfold share; rw [if_neg (by omega)]; exact Nat.two_pow_pos _
theorem kr_le (ls : List Nat) : kr ls ≤ 16384 * ls.length := by
  induction ls with
  | nil => simp [kr]
  | cons x t ih => rw [kr_cons, List.length_cons]; have := share_le x; omega
theorem kr_take_succ (ls : List Nat) (i : Nat) (h : i < ls.length) : kr (ls.take (i + 1)) = kr (ls.take i) + share ls[i] := by
  rw [List.take_succ_eq_append_getElem h, kr_append, kr_cons, kr_nil, Nat.add_zero]
theorem kr_take_le (ls : List Nat) (i : Nat) : kr (ls.take i) ≤ kr ls := by
  conv => rhs; rw [← List.take_append_drop i ls, kr_append]
  omega
theorem count_take_succ (ls : List Nat) (i n : Nat) (h : i < ls.length) : (ls.take (i + 1)).count n = (ls.take i).count n + (if ls[i] = n then 1 else 0) := by
  rw [List.take_succ_eq_append_getElem h, List.count_append, List.count_singleton]
  simp
theorem count_take_le (ls : List Nat) (i n : Nat) : (ls.take i).count n ≤ ls.count n := (List.take_sublist i ls).count_le n

theorem low_zero (ls : List Nat) : low ls 0 = 0 := by
  unfold low; induction ls <;> simp_all
theorem low_one (ls : List Nat) : low ls 1 = 0 := by
  unfold low
  induction ls with
  | nil => rfl
  | cons x t ih =>
    rw [List.map_cons, List.sum_cons, ih]
    split
    · rw [show x = 0 from by omega]; rfl
    · rfl
theorem low_succ (ls : List Nat) (n : Nat) : low ls (n + 1) = low ls n + ls.count n * share n := by
  unfold low
  induction ls with
  | nil => simp
  | cons x t ih =>
    rw [List.map_cons, List.sum_cons, ih, List.map_cons, List.sum_cons, List.count_cons, Nat.add_mul]
    by_cases h1 : x < n
    · rw [if_pos (by omega), if_pos h1, if_neg (by simp; omega)]; omega
    · by_cases h2 : x = n
      · subst h2; simp; omega
      · rw [if_neg (by omega), if_neg h1, if_neg (by simp; omega)]; omega
theorem low_mono (ls : List Nat) {a b : Nat} (h : a ≤ b) : low ls a ≤ low ls b := by
  induction h with
  | refl => exact Nat.le_refl _
  | step _ ih => rw [Nat.succ_eq_add_one, low_succ]; omega
theorem low_all (ls : List Nat) (h : ∀ x ∈ ls, x ≤ 15) : low ls 16 = kr ls := by
  unfold low kr
  induction ls with
  | nil => rfl
  | cons x t ih =>
    rw [List.map_cons, List.sum_cons, List.map_cons, List.sum_cons, ih (fun y hy => h y (List.mem_cons_of_mem _ hy)), if_pos (by have := h x (List.mem_cons_self ..); omega)]

theorem first_low (ls : List Nat) (n : Nat) (h1 : 1 ≤ n) (h2 : n ≤ 15) : first ls n * 2 ^ (15 - n) = low ls n := by
  induction n with
  | zero => omega
  | succ n ih =>
    cases n with
    | zero => rw [low_one]; simp [first]
    | succ n =>
      rw [first, low_succ, ← ih (by omega) (by omega)]
      have e : share (n + 1) = 2 ^ (15 - (n + 1)) := by unfold share; rw [if_neg (by omega)]
      rw [e, show 15 - (n + 1) = (15 - (n + 1 + 1)) + 1 from by omega, Nat.pow_succ, ← Nat.add_mul, Nat.mul_comm 2, Nat.mul_assoc, Nat.mul_comm 2]

/-- Where the rows begin that begin with a code. -/
def start (ls : List Nat) (n i : Nat) : Nat := codeN ls n i * 2 ^ (15 - n)
theorem start_eq (ls : List Nat) (n i : Nat) (h1 : 1 ≤ n) (h2 : n ≤ 15) : start ls n i = low ls n + (ls.take i).count n * share n := by
  unfold start codeN
  rw [Nat.add_mul, first_low ls n h1 h2]
  have e : share n = 2 ^ (15 - n) := by unfold share; rw [if_neg (by omega)]
  rw [e]
theorem start_end (ls : List Nat) (n i : Nat) (hi : i < ls.length) (hn : ls[i] = n) (h1 : 1 ≤ n) (h2 : n ≤ 15) : start ls n i + share n ≤ low ls (n + 1) := by
  rw [start_eq ls n i h1 h2, low_succ]
  have h := count_take_le ls (i + 1) n
  rw [count_take_succ ls i n hi, if_pos hn] at h
  have := Nat.mul_le_mul_right (share n) h
  rw [Nat.add_mul, Nat.one_mul] at this
  omega
theorem start_le (ls : List Nat) (n i : Nat) (h1 : 1 ≤ n) (h2 : n ≤ 15) : low ls n ≤ start ls n i := by
  rw [start_eq ls n i h1 h2]; omega

/-- The codes' rows lie one behind the other, by length and place. -/
theorem apart_len (ls : List Nat) (i k : Nat) {n : Nat} (hi : i < ls.length) (h1 : 1 ≤ ls[i]) (hk15 : n ≤ 15) (hlt : ls[i] < n) : start ls ls[i] i + share ls[i] ≤ start ls n k :=
  Nat.le_trans (start_end ls _ i hi rfl h1 (by omega)) (Nat.le_trans (low_mono ls (by omega)) (start_le ls n k (by omega) hk15))
theorem count_lt (ls : List Nat) (i k n : Nat) (hi : i < ls.length) (hn : ls[i] = n) (hik : i < k) : (ls.take i).count n + 1 ≤ (ls.take k).count n := by
  have h := count_take_succ ls i n hi
  rw [if_pos hn] at h
  rw [← h]
  have e : ls.take (i + 1) = (ls.take k).take (i + 1) := by rw [List.take_take, Nat.min_eq_left (by omega)]
  rw [e]
  exact count_take_le _ _ _
theorem apart_place (ls : List Nat) (i k : Nat) (hi : i < ls.length) (h1 : 1 ≤ ls[i]) (h2 : ls[i] ≤ 15) (hik : i < k) : start ls ls[i] i + share ls[i] ≤ start ls ls[i] k := by
  rw [start_eq ls _ i h1 h2, start_eq ls _ k h1 h2]
  have := Nat.mul_le_mul_right (share ls[i]) (count_lt ls i k ls[i] hi rfl hik)
  rw [Nat.add_mul, Nat.one_mul] at this
  omega
theorem start_room (ls : List Nat) (hall : ∀ x ∈ ls, x ≤ 15) (i : Nat) (hi : i < ls.length) (h1 : 1 ≤ ls[i]) : start ls ls[i] i + share ls[i] ≤ kr ls := by
  rw [← low_all ls hall]
  have h2 := hall ls[i] (List.getElem_mem hi)
  exact Nat.le_trans (start_end ls _ i hi rfl h1 h2) (low_mono ls (by omega))
theorem share_eq {n : Nat} (h : 1 ≤ n) : share n = 2 ^ (15 - n) := by unfold share; rw [if_neg (by omega)]
/-- A code has no more bits than its length says. -/
theorem codeN_lt (ls : List Nat) (hall : ∀ x ∈ ls, x ≤ 15) (hk : kr ls ≤ 32768) (i : Nat) (hi : i < ls.length) (h1 : 1 ≤ ls[i]) : codeN ls ls[i] i < 2 ^ ls[i] := by
  have h := start_room ls hall i hi h1
  have h2 := hall ls[i] (List.getElem_mem hi)
  have hp := share_pos (n := ls[i]) (by omega)
  rw [share_eq h1] at h hp
  unfold start at h
  have e : 32768 = 2 ^ ls[i] * 2 ^ (15 - ls[i]) := by rw [← Nat.pow_add, show ls[i] + (15 - ls[i]) = 15 from by omega]
  generalize codeN ls ls[i] i = c at *
  by_cases hc : c < 2 ^ ls[i]
  · exact hc
  · have := Nat.mul_le_mul_right (2 ^ (15 - ls[i])) (show 2 ^ ls[i] ≤ c by omega)
    omega

/-- A row of 15 bits begins with the code. -/
def Fits (ls : List Nat) (r i : Nat) : Prop := ∃ h : i < ls.length, 1 ≤ ls[i] ∧ r / 2 ^ (15 - ls[i]) = codeN ls ls[i] i
theorem div_iff (r c m : Nat) : r / 2 ^ m = c ↔ c * 2 ^ m ≤ r ∧ r < c * 2 ^ m + 2 ^ m := by
  have hp : 0 < 2 ^ m := Nat.two_pow_pos m
  constructor
  · rintro rfl
    exact ⟨Nat.div_mul_le_self _ _, Nat.lt_div_mul_add hp⟩
  · rintro ⟨h1, h2⟩
    exact Nat.div_eq_of_lt_le h1 (by rw [Nat.succ_mul]; exact h2)
theorem fits_iff (ls : List Nat) (r i : Nat) (h : i < ls.length) (h1 : 1 ≤ ls[i]) : (r / 2 ^ (15 - ls[i]) = codeN ls ls[i] i) ↔ start ls ls[i] i ≤ r ∧ r < start ls ls[i] i + share ls[i] := by
  rw [div_iff, share_eq h1]; rfl
/-- Two codes: one lies behind the other. -/
theorem sides (ls : List Nat) (hall : ∀ x ∈ ls, x ≤ 15) (i k : Nat) (hi : i < ls.length) (hk : k < ls.length) (h1 : 1 ≤ ls[i]) (k1 : 1 ≤ ls[k]) (hne : i ≠ k) :
    start ls ls[i] i + share ls[i] ≤ start ls ls[k] k ∨ start ls ls[k] k + share ls[k] ≤ start ls ls[i] i := by
  have h15 := hall ls[i] (List.getElem_mem hi)
  have k15 := hall ls[k] (List.getElem_mem hk)
  by_cases hlt : ls[i] < ls[k]
  · exact .inl (apart_len ls i k hi h1 k15 hlt)
  · by_cases hgt : ls[k] < ls[i]
    · exact .inr (apart_len ls k i hk k1 h15 hgt)
    · have e : ls[i] = ls[k] := by omega
      by_cases hik : i < k
      · have := apart_place ls i k hi h1 h15 hik
        left; rw [← e]; exact this
      · have := apart_place ls k i hk k1 k15 (by omega)
        right; rw [e]; exact this
theorem fits_one (ls : List Nat) (hall : ∀ x ∈ ls, x ≤ 15) (r i k : Nat) (h : Fits ls r i) (hk : Fits ls r k) : i = k := by
  obtain ⟨hi, h1, h⟩ := h
  obtain ⟨hk', k1, hk⟩ := hk
  rw [fits_iff ls r i hi h1] at h
  rw [fits_iff ls r k hk' k1] at hk
  by_cases hne : i = k
  · exact hne
  · rcases sides ls hall i k hi hk' h1 k1 hne with h' | h' <;> omega
theorem count_at (ls : List Nat) (n q : Nat) (h : q < ls.count n) : ∃ i, ∃ hi : i < ls.length, ls[i] = n ∧ (ls.take i).count n = q := by
  induction ls generalizing q with
  | nil => simp at h
  | cons x t ih =>
    rw [List.count_cons] at h
    by_cases hx : x = n
    · subst hx
      simp at h
      cases q with
      | zero => exact ⟨0, by simp, rfl, by simp⟩
      | succ q =>
        obtain ⟨i, hi, h1, h2⟩ := ih q (by omega)
        exact ⟨i + 1, by simpa using hi, by simpa using h1, by simp [h2]⟩
    · rw [if_neg (by simpa using hx)] at h
      obtain ⟨i, hi, h1, h2⟩ := ih q (by omega)
      refine ⟨i + 1, by simpa using hi, by simpa using h1, ?_⟩
      rw [List.take_succ_cons, List.count_cons_of_ne (by simpa using hx)]
      exact h2
/-- Each row below Kraft's sum begins with a code. -/
theorem fits_some (ls : List Nat) (hall : ∀ x ∈ ls, x ≤ 15) (r : Nat) (h : r < kr ls) : ∃ i, Fits ls r i := by
  rw [← low_all ls hall] at h
  have key : ∀ n, n ≤ 16 → r < low ls n → ∃ i, Fits ls r i := by
    intro n
    induction n with
    | zero => intro _ h; rw [low_zero] at h; omega
    | succ n ih =>
      intro hn h
      by_cases hlt : r < low ls n
      · exact ih (by omega) hlt
      · rw [low_succ] at h
        have hn0 : 1 ≤ n := by
          rcases Nat.eq_zero_or_pos n with rfl | h0
          · rw [show share 0 = 0 from rfl] at h; omega
          · exact h0
        have hp := share_pos (n := n) hn0
        obtain ⟨q, hq, hq1, hq2⟩ : ∃ q, q < ls.count n ∧ low ls n + q * share n ≤ r ∧ r < low ls n + q * share n + share n := by
          refine ⟨(r - low ls n) / share n, ?_, ?_, ?_⟩
          · rw [Nat.div_lt_iff_lt_mul hp]; omega
          · have := Nat.div_mul_le_self (r - low ls n) (share n); omega
          · have := Nat.lt_div_mul_add hp (a := r - low ls n); omega
        obtain ⟨i, hi, hin, hc⟩ := count_at ls n q hq
        subst hin
        refine ⟨i, hi, hn0, ?_⟩
        rw [fits_iff ls r i hi hn0, start_eq ls _ i hn0 (by omega), hc]
        exact ⟨hq1, hq2⟩
  exact key 16 (Nat.le_refl _) h

/-- How many of the first k codes the row begins with. -/
def fitsAt (ls : List Nat) (r : Nat) : Nat → Nat
  | 0 => 0
  | k + 1 => fitsAt ls r k + (if h : k < ls.length then (if 1 ≤ ls[k] ∧ r / 2 ^ (15 - ls[k]) = codeN ls ls[k] k then 1 else 0) else 0)
theorem fitsAt_succ (ls : List Nat) (r k : Nat) (h : k < ls.length) : fitsAt ls r (k + 1) = fitsAt ls r k + (if 1 ≤ ls[k] ∧ r / 2 ^ (15 - ls[k]) = codeN ls ls[k] k then 1 else 0) := by
  rw [fitsAt, dif_pos h]
theorem fitsAt_hit (ls : List Nat) (r k : Nat) (h : k < ls.length) (h1 : 1 ≤ ls[k]) (h2 : r / 2 ^ (15 - ls[k]) = codeN ls ls[k] k) : fitsAt ls r (k + 1) = fitsAt ls r k + 1 := by
  rw [fitsAt_succ ls r k h, if_pos ⟨h1, h2⟩]
theorem fitsAt_miss (ls : List Nat) (r k : Nat) (h : k < ls.length) (h2 : ¬ (1 ≤ ls[k] ∧ r / 2 ^ (15 - ls[k]) = codeN ls ls[k] k)) : fitsAt ls r (k + 1) = fitsAt ls r k := by
  rw [fitsAt_succ ls r k h, if_neg h2]; rfl
theorem fitsAt_none (ls : List Nat) (r k : Nat) (h : ∀ i, i < k → ¬ Fits ls r i) : fitsAt ls r k = 0 := by
  induction k with
  | zero => rfl
  | succ k ih =>
    have hk := ih (fun i hi => h i (by omega))
    by_cases hl : k < ls.length
    · rw [fitsAt_miss ls r k hl (fun hc => h k (by omega) ⟨hl, hc.1, hc.2⟩), hk]
    · rw [fitsAt, dif_neg hl, hk]
theorem fitsAt_some (ls : List Nat) (hall : ∀ x ∈ ls, x ≤ 15) (r k i : Nat) (hf : Fits ls r i) (hik : i < k) : fitsAt ls r k = 1 := by
  induction k with
  | zero => omega
  | succ k ih =>
    by_cases he : i = k
    · subst he
      obtain ⟨hi, h1, h2⟩ := hf
      rw [fitsAt_hit ls r i hi h1 h2, fitsAt_none ls r i (fun j hj hfj => by have := fits_one ls hall r i j ⟨hi, h1, h2⟩ hfj; omega)]
    · have := ih (by omega)
      by_cases hl : k < ls.length
      · rw [fitsAt_miss ls r k hl (fun hc => he (fits_one ls hall r i k hf ⟨hl, hc.1, hc.2⟩)), this]
      · rw [fitsAt, dif_neg hl, this]
theorem fitsAt_le (ls : List Nat) (hall : ∀ x ∈ ls, x ≤ 15) (r k : Nat) : fitsAt ls r k ≤ 1 := by
  by_cases h : ∃ i, i < k ∧ Fits ls r i
  · obtain ⟨i, hi, hf⟩ := h
    rw [fitsAt_some ls hall r k i hf hi]; omega
  · rw [fitsAt_none ls r k (fun i hi hf => h ⟨i, hi, hf⟩)]; omega
theorem fitsAt_whole (ls : List Nat) (hall : ∀ x ∈ ls, x ≤ 15) (r : Nat) (hr : r < kr ls) : fitsAt ls r ls.length = 1 := by
  obtain ⟨i, hf⟩ := fits_some ls hall r hr
  exact fitsAt_some ls hall r _ i hf hf.1

/-- No code is another one's beginning. -/
theorem no_prefix (ls : List Nat) (hall : ∀ x ∈ ls, x ≤ 15) (i k : Nat) (hi : i < ls.length) (hk : k < ls.length) (h1 : 1 ≤ ls[i]) (hle : ls[i] ≤ ls[k]) (hne : k ≠ i) : codeN ls ls[k] k / 2 ^ (ls[k] - ls[i]) ≠ codeN ls ls[i] i := by
  intro h
  have k15 := hall ls[k] (List.getElem_mem hk)
  have e : codeN ls ls[k] k = start ls ls[k] k / 2 ^ (15 - ls[k]) := by unfold start; rw [Nat.mul_div_cancel _ (Nat.two_pow_pos _)]
  rw [e, Nat.div_div_eq_div_mul, ← Nat.pow_add, show 15 - ls[k] + (ls[k] - ls[i]) = 15 - ls[i] from by omega] at h
  have hfi : Fits ls (start ls ls[k] k) i := ⟨hi, h1, h⟩
  have hfk : Fits ls (start ls ls[k] k) k := ⟨hk, by omega, e.symm⟩
  exact hne (fits_one ls hall _ k i hfk hfi)
/-- A longer code lies behind. -/
theorem longer (ls : List Nat) (hall : ∀ x ∈ ls, x ≤ 15) (i k : Nat) (hi : i < ls.length) (hk : k < ls.length) (h1 : 1 ≤ ls[i]) (hlt : ls[i] < ls[k]) : codeN ls ls[i] i ≤ codeN ls ls[k] k / 2 ^ (ls[k] - ls[i]) := by
  have k15 := hall ls[k] (List.getElem_mem hk)
  have h := apart_len ls i k hi h1 k15 hlt
  have e : codeN ls ls[k] k = start ls ls[k] k / 2 ^ (15 - ls[k]) := by unfold start; rw [Nat.mul_div_cancel _ (Nat.two_pow_pos _)]
  rw [e, Nat.div_div_eq_div_mul, ← Nat.pow_add, show 15 - ls[k] + (ls[k] - ls[i]) = 15 - ls[i] from by omega, Nat.le_div_iff_mul_le (Nat.two_pow_pos _)]
  have : codeN ls ls[i] i * 2 ^ (15 - ls[i]) = start ls ls[i] i := rfl
  omega
theorem rises (ls : List Nat) (i k : Nat) (hi : i < ls.length) (hik : i < k) : codeN ls ls[i] i < codeN ls ls[i] k := by
  have := count_lt ls i k ls[i] hi rfl hik
  unfold codeN; omega

/-- The lengths that are not 0. -/
def some_ (ls : List Nat) : List Nat := ls.filter fun x => decide (0 < x)
theorem some_snoc (ls : List Nat) (n : Nat) : some_ (ls ++ [n]) = if 0 < n then some_ ls ++ [n] else some_ ls := by
  unfold some_; rw [List.filter_append]
  split
  · next h => simp [h]
  · next h => simp [h]
theorem some_kr (ls : List Nat) : kr (some_ ls) = kr ls := by
  induction ls with
  | nil => rfl
  | cons x t ih =>
    unfold some_ at ih ⊢
    by_cases h : 0 < x
    · rw [List.filter_cons_of_pos (by simpa using h), kr_cons, kr_cons, ih]
    · rw [List.filter_cons_of_neg (by simpa using h), kr_cons, ih, show x = 0 from by omega]
      show kr t = 0 + kr t
      omega
theorem some_count (ls : List Nat) : (some_ ls).count 1 = ls.count 1 := by
  unfold some_; rw [List.count_filter (by simp)]
theorem kr_pos (f : List Nat) (h : ∀ x ∈ f, 0 < x) : kr f = 0 ↔ f = [] := by
  cases f with
  | nil => simp [kr]
  | cons x t =>
    have := share_pos (h x (List.mem_cons_self ..))
    rw [kr_cons]
    constructor
    · intro h; omega
    · intro h; cases h
theorem some_pos (ls : List Nat) : ∀ x ∈ some_ ls, 0 < x := by
  intro x hx
  have := (List.mem_filter.1 hx).2
  simpa using this
theorem some_none (ls : List Nat) : (some_ ls).length = 0 ↔ kr ls = 0 := by
  rw [← some_kr, kr_pos _ (some_pos ls), List.length_eq_zero_iff]
theorem kr_perm {a b : List Nat} (h : a.Perm b) : kr a = kr b := by
  unfold kr; exact (h.map share).sum_nat
theorem single (ls : List Nat) : ((some_ ls).length = 1 ∧ (some_ ls).getLastD 0 = 1) ↔ (kr ls = 16384 ∧ ls.count 1 = 1) := by
  rw [← some_kr, ← some_count]
  have hp := some_pos ls
  generalize some_ ls = f at *
  constructor
  · rintro ⟨h1, h2⟩
    obtain ⟨x, rfl⟩ := List.length_eq_one_iff.1 h1
    have : x = 1 := by simpa using h2
    subst this
    exact ⟨rfl, rfl⟩
  · rintro ⟨h1, h2⟩
    have hm : 1 ∈ f := List.count_pos_iff.1 (by omega)
    have hperm := List.perm_cons_erase hm
    have hk := kr_perm hperm
    rw [kr_cons, h1, show share 1 = 16384 from rfl] at hk
    have he : f.erase 1 = [] := (kr_pos _ (fun x hx => hp x (List.mem_of_mem_erase hx))).1 (by omega)
    rw [he] at hperm
    have : f = [1] := List.perm_singleton.1 hperm
    subst this
    exact ⟨rfl, rfl⟩

/-- A code as bits, the highest first. -/
def bitsAt (ls : List Nat) (i : Nat) : List Bool := if h : i < ls.length then (lows ls[i] (codeN ls ls[i] i)).reverse else []
theorem bitsAt_eq (ls : List Nat) (i : Nat) (h : i < ls.length) : bitsAt ls i = (lows ls[i] (codeN ls ls[i] i)).reverse := by unfold bitsAt; rw [dif_pos h]
theorem bitsAt_len (ls : List Nat) (i : Nat) (h : i < ls.length) : (bitsAt ls i).length = ls[i] := by rw [bitsAt_eq ls i h, List.length_reverse, lows_len]
theorem bits_prefix (ls : List Nat) (hall : ∀ x ∈ ls, x ≤ 15) (hkr : kr ls ≤ 32768) (i k : Nat) (hi : i < ls.length) (hk : k < ls.length) (h1 : 1 ≤ ls[i]) (h : bitsAt ls i <+: bitsAt ls k) : i = k := by
  have hle : ls[i] ≤ ls[k] := by have := h.length_le; rwa [bitsAt_len ls i hi, bitsAt_len ls k hk] at this
  by_cases hne : k = i
  · exact hne.symm
  · exfalso
    refine no_prefix ls hall i k hi hk h1 hle hne ?_
    obtain ⟨t, ht⟩ := h
    rw [bitsAt_eq ls i hi, bitsAt_eq ls k hk] at ht
    have ht2 := congrArg List.reverse ht
    rw [List.reverse_append, List.reverse_reverse, List.reverse_reverse] at ht2
    have hlk := lows_len ls[k] (codeN ls ls[k] k)
    have hli := lows_len ls[i] (codeN ls ls[i] i)
    have htl : t.reverse.length = ls[k] - ls[i] := by
      have := congrArg List.length ht2
      rw [List.length_append, hlk, hli] at this; omega
    rw [show ls[k] = (ls[k] - ls[i]) + ls[i] from by omega, lows_add] at ht2
    rw [show ls[k] - ls[i] + ls[i] = ls[k] from by omega] at ht2
    have h3 := (List.append_inj ht2 (by rw [htl, lows_len])).2
    have h4 := congrArg num h3
    rw [num_lows, num_lows] at h4
    have hci := codeN_lt ls hall hkr i hi h1
    have hck := codeN_lt ls hall hkr k hk (by omega)
    rw [Nat.mod_eq_of_lt hci, Nat.mod_eq_of_lt ?_] at h4
    · exact h4.symm
    · rw [Nat.div_lt_iff_lt_mul (Nat.two_pow_pos _), ← Nat.pow_add, show ls[i] + (ls[k] - ls[i]) = ls[k] from by omega]
      exact hck
/-- Of a row that begins with one code no other code is the beginning. -/
theorem bits_only (ls : List Nat) (hall : ∀ x ∈ ls, x ≤ 15) (hkr : kr ls ≤ 32768) (i k : Nat) (hi : i < ls.length) (hk : k < ls.length) (h1 : 1 ≤ ls[i]) (k1 : 1 ≤ ls[k]) (rest : List Bool) (h : bitsAt ls k <+: bitsAt ls i ++ rest) : i = k := by
  rcases List.prefix_or_prefix_of_prefix h (List.prefix_append (bitsAt ls i) rest) with h' | h'
  · exact (bits_prefix ls hall hkr k i hk hi k1 h').symm
  · exact bits_prefix ls hall hkr i k hi hk h1 h'
end CanMath
end

section
/-
  Slices of values of one cell (ints, words, texts): what came in, what a call made of its own; make, append. No program, no dump.
-/
namespace Go.My
open Go.RowKit

/-- A slice (address, length, capacity) that reads as a list of values. -/
structure RowIn (w : World) (a : Option Addr) (len cap : Nat) (vs : List Value) : Prop where
  len_eq : vs.length = len
  le_cap : len ≤ cap
  cap_le : cap ≤ 9223372036854775807
  nil : a = none → len = 0 ∧ cap = 0
  at_ : len = 0 ∨ ∃ b off, a = some ⟨b, off, none⟩ ∧ b < w.heap.size ∧ ∀ i (h : i < vs.length), w.cell? ⟨b, off + i, none⟩ = some vs[i]
theorem RowIn.none_ (w : World) : RowIn w none 0 0 [] := ⟨rfl, Nat.le_refl _, by omega, fun _ => ⟨rfl, rfl⟩, .inl rfl⟩
theorem RowIn.below {w w' : World} {a : Option Addr} {len cap : Nat} {vs : List Value} (h : RowIn w a len cap vs) {B : Nat} (hB : w.heap.size ≤ B) (hb : Below B w w') : RowIn w' a len cap vs := by
  refine ⟨h.1, h.2, h.3, h.4, h.5.imp_right ?_⟩
  rintro ⟨b, off, ha, hs, hc⟩
  exact ⟨b, off, ha, Nat.lt_of_lt_of_le hs hb.size, fun i hi => by rw [hb.cell (p := ⟨b, off + i, none⟩) (Nat.lt_of_lt_of_le hs hB)]; exact hc i hi⟩
theorem RowIn.some_ {w : World} {a : Option Addr} {len cap : Nat} {vs : List Value} (h : RowIn w a len cap vs) (h0 : 0 < len) : ∃ b off, a = some ⟨b, off, none⟩ := by
  rcases h.at_ with h5 | ⟨b, off, ha, hs, hc⟩
  · omega
  · exact ⟨b, off, ha⟩
theorem RowIn.get {w : World} {b off len cap : Nat} {vs : List Value} (h : RowIn w (some ⟨b, off, none⟩) len cap vs) (i : Nat) (hi : i < vs.length) : w.cell? ⟨b, off + i, none⟩ = some vs[i] := by
  rcases h.at_ with h5 | ⟨b', off', ha, hs, hc⟩
  · have := h.len_eq; omega
  · cases ha; exact hc i hi
theorem RowIn.lt {w : World} {b off len cap : Nat} {vs : List Value} (h : RowIn w (some ⟨b, off, none⟩) len cap vs) (h0 : 0 < len) : b < w.heap.size := by
  rcases h.at_ with h5 | ⟨b', off', ha, hs, hc⟩
  · omega
  · cases ha; exact hs

/-- A value that is a slice of the call's own (block base or later), all of it. -/
def OwnV (E : TypeId) (base : Nat) (w : World) (v : Value) (vs : List Value) : Prop := w.ownsRow base E 1 v vs.length vs
theorem OwnV.row {E : TypeId} {base : Nat} {w : World} {v : Value} {vs : List Value} (h : OwnV E base w v vs) : ∃ a c, v = .slice a vs.length c ∧ RowIn w a vs.length c vs := by
  rcases h.2 with ⟨rfl, h0⟩ | ⟨g, cap, cur, rfl, hg, hh, hn, hm, hs, ht⟩
  · have : vs = [] := List.length_eq_zero_iff.1 h0
    subst this
    exact ⟨none, 0, rfl, RowIn.none_ w⟩
  · unfold maxLen at hm
    refine ⟨_, cap, rfl, rfl, hn, hm, (fun h => by cases h), .inr ⟨g, 0, rfl, ?_, fun i hi => ?_⟩⟩
    · by_cases hlt : g < w.heap.size
      · exact hlt
      · rw [Array.getElem?_eq_none (by omega)] at hh; cases hh
    · rw [cell_of_row _ _ _ _ _ _ hh, Nat.zero_add, ← Array.getElem?_toList]
      have : (cur.toList.take (vs.length * 1))[i]? = vs[i]? := by rw [ht]
      rw [List.getElem?_take, if_pos (by omega)] at this
      rw [this, List.getElem?_eq_getElem hi]
theorem OwnV.below {E : TypeId} {base : Nat} {w w' : World} {v : Value} {vs : List Value} (h : OwnV E base w v vs) {B : Nat} (hB : w.heap.size ≤ B) (hb : Below B w w') : OwnV E base w' v vs := by
  refine World.ownsRow.kept h (row := none) ⟨hb.os, hb.tape, hb.output, hb.size, fun k hk _ => hb.block k (by omega)⟩ ?_
  by_cases hv : v.ownBlock = none
  · exact .inl hv
  · exact .inr hv
theorem OwnV.only {S : Nat → Prop} {E : TypeId} {base : Nat} {w w' : World} {v : Value} {vs : List Value} (ho : OwnV E base w v vs) (h : Only S w w') (hv : ∀ k, v.ownBlock = some k → ¬ S k) : OwnV E base w' v vs := by
  refine ⟨ho.1, ?_⟩
  rcases ho.2 with hn | ⟨g, cap, cur, rfl, hb, hgg, rest⟩
  · exact .inl hn
  · refine .inr ⟨g, cap, cur, rfl, hb, ?_, rest⟩
    rw [h.block g (Array.getElem?_eq_some_iff.1 hgg).1 (hv g rfl)]
    exact hgg
theorem OwnV.kept {E : TypeId} {base : Nat} {w w' : World} {v : Value} {vs : List Value} {row : Option Nat} (h : OwnV E base w v vs) (hg : w.grownBy w' row) (hr : v.ownBlock = none ∨ v.ownBlock ≠ row) : OwnV E base w' v vs := World.ownsRow.kept h hg hr
theorem OwnV.rowIn {E : TypeId} {base : Nat} {w : World} {a : Option Addr} {n c : Nat} {vs : List Value} (h : OwnV E base w (.slice a n c) vs) (hn : vs.length = n) : RowIn w a n c vs := by
  subst hn
  obtain ⟨a', c', h1, h2⟩ := h.row
  simp only [Value.slice.injEq, true_and] at h1
  obtain ⟨rfl, rfl⟩ := h1
  exact h2
theorem OwnV.nil (E : TypeId) (base : Nat) (w : World) : OwnV E base w (.slice none 0 0) [] := World.ownsRow_nil _ _ _ _
theorem OwnV.lit {base : Nat} (E : TypeId) (w : World) (cs : Array Value) (hb : base ≤ w.heap.size) (hm : cs.size ≤ 1000000) : OwnV E base (w.alloc (.cells cs E)) (.slice (some ⟨w.heap.size, 0, none⟩) cs.size cs.size) cs.toList :=
  by
    have := World.ownsRow_lit (e := E) (size := 1) w cs cs.size hb (by unfold maxLen; omega) (by omega)
    unfold OwnV
    exact this
theorem OwnV.base {E : TypeId} {base : Nat} {w : World} {v : Value} {vs : List Value} (h : OwnV E base w v vs) (k : Nat) (hk : v.ownBlock = some k) : base ≤ k := (World.ownsRow.lt h k hk).1
theorem OwnV.lt {E : TypeId} {base : Nat} {w : World} {v : Value} {vs : List Value} (h : OwnV E base w v vs) (k : Nat) (hk : v.ownBlock = some k) : k < w.heap.size := (World.ownsRow.lt h k hk).2
theorem OwnV.grown {base : Nat} {w0 w w' : World} {v : Value} {E : TypeId} {vs : List Value} (hown : OwnV E base w v vs) (h : Below base w0 w) (hg : w.grownBy w' v.ownBlock) (hb : base ≤ w.heap.size) : Below base w0 w' :=
  h.grown hg hb fun k hk => (World.ownsRow.lt hown k hk).1
theorem OwnV.store {E : TypeId} {base : Nat} {w : World} {g n c : Nat} {vs : List Value} (h : OwnV E base w (.slice (some ⟨g, 0, none⟩) n c) vs) (hn : vs.length = n) (i : Nat) (u : Value) :
    OwnV E base (w.setCell ⟨g, i, none⟩ u) (.slice (some ⟨g, 0, none⟩) n c) (vs.set i u) := by
  subst hn
  have := (World.ownsRow.stored h i u).1
  unfold OwnV
  rw [List.length_set]
  exact this
theorem OwnV.cell {E : TypeId} {base : Nat} {w : World} {g n c : Nat} {vs : List Value} (h : OwnV E base w (.slice (some ⟨g, 0, none⟩) n c) vs) (hn : vs.length = n) (i : Nat) (hi : i < vs.length) : w.cell? ⟨g, i, none⟩ = some vs[i] := by
  subst hn
  have hcell := World.ownsRow.cellAt h i (by simpa using hi)
  rw [hcell, List.getElem?_eq_getElem hi]
theorem OwnV.free {E : TypeId} {base : Nat} {w : World} {g n c : Nat} {vs : List Value} (h : OwnV E base w (.slice (some ⟨g, 0, none⟩) n c) vs) (hn : vs.length = n) (i : Nat) : w.frozen? ⟨g, i, none⟩ = false := by
  subst hn
  exact World.ownsRow.frozenAt h i

/-- append(v, x...) of values of one cell; where the new row lies. -/
theorem wp_append_row {P : Program} {w : World} {o : Oper} {a : Act} {K : Act → World → Prop} {Q : Exit → Act → World → Prop} (s x : Operand) (t : TypeId)
    (ho : o.op = .call { callee := .builtin .append, args := #[s, x], argTypes := #[t, t] }) (base : Nat) (E : TypeId) (z : Value) (by_ : Nat) (ht : P.underlying t = some (.slice E))
    (hi : (P.info? E).map (fun i => (i.zero, i.size, i.bytes)) = some (some z, 1, by_)) (hz1 : z.cells.size = 1)
    (v : Value) (l : List Value) (hs : a.eval s = v) (hown : OwnV E base w v l) (ad : Option Addr) (m c : Nat) (l2 : List Value) (hx : a.eval x = .slice ad m c) (hb : RowIn w ad m c l2) (hone : ∀ u ∈ l2, u.oneCell' = true)
    (hlen : (l.length + m) * by_ ≤ 140737488355328) (hlen2 : l.length + m ≤ 140737488355328) (hbase : base ≤ w.heap.size)
    (h : ∀ v' w', OwnV E base w' v' (l ++ l2) → w.grownBy w' v.ownBlock → Nxt v.ownBlock w.heap.size v'.ownBlock → K (a.put o.dst v') w') : o.wp P a w K Q := by
  obtain ⟨i, hi, hz0, hsz, hz2⟩ := info_parts hi
  by_cases h0 : m = 0
  · subst h0
    have hl2 : l2 = [] := List.length_eq_zero_iff.1 hb.len_eq
    subst hl2
    obtain ⟨v', w', hr, h2, h3, _, h5⟩ : ∃ v' w', (Builtin.append_ #[t, t] o.type #[v, .slice ad 0 c]).run P w = .ok v' w' ∧ OwnV E base w' v' l ∧ w.grownBy w' v.ownBlock ∧ True ∧ (v'.ownBlock = v.ownBlock ∨ v'.ownBlock = some w.heap.size) := by
      cases ad with
      | none =>
        obtain ⟨_, rfl⟩ := hb.nil rfl
        have hrun := run_append_owned_none (P := P) (w := w) base t o.type E i 1 ht hi v l.length l hown
        exact ⟨v, w, hrun, hown, ⟨rfl, rfl, rfl, Nat.le_refl _, fun _ _ _ => rfl⟩, trivial, .inl rfl⟩
      | some ad =>
        obtain ⟨v', w', hr, h2, h3, _, h5⟩ := run_append_own_at (P := P) w base t o.type E i z 1 by_ ht hi hz0 hsz hz2 hz1 (by decide) v l.length l hown ad 0 c [] rfl (fun j u hu => by simp at hu) (fun u hu => by simp at hu) (by unfold maxLen; omega) hlen hbase
        refine ⟨v', w', hr, ?_, h3, trivial, h5⟩
        unfold OwnV
        rw [List.append_nil] at h2
        exact h2
    unfold Oper.wp execOp
    simp only [ho, resolve, invoke, builtin, Sem.run_bind, Sem.run_pure, Result.andThen_ok, List.map_toArray, List.map_cons, List.map_nil, hs, hx, hr]
    refine h v' w' (by rw [List.append_nil]; exact h2) h3 ?_
    rcases h5 with h5 | h5
    · exact .inl h5
    · exact .inr ⟨_, h5, Nat.le_refl _⟩
  · rcases hb.at_ with h1 | ⟨b, off, hab, hbs, hc⟩
    · omega
    subst hab
    refine wp_append_lies w s x t ho base E i z 1 by_ ht hi hz0 hsz hz2 hz1 (by decide) v l.length l hs hown ⟨b, off, none⟩ m c l2 hx (by simp [hb.len_eq]) ?_ hone (by omega) (by unfold maxLen; omega) hlen hbase _ rfl ?_
    · intro j u hu
      have hj : j < l2.length := (List.getElem?_eq_some_iff.1 hu).1
      rw [addr_add, hc j hj]
      rw [List.getElem?_eq_getElem hj] at hu
      exact hu
    · intro g cap w' h1 h2 h3 _
      refine h _ w' ?_ h2 ?_
      · unfold OwnV
        rw [List.length_append, hb.len_eq]
        exact h1
      · rcases h3 with h3 | rfl
        · exact .inl h3.symm
        · exact .inr ⟨_, rfl, Nat.le_refl _⟩
theorem wpList_append_row {P : Program} {w : World} {ops : Array Oper} {rest : List Oper} {o : Oper} {a : Act} {Q : Exit → Act → World → Prop} (hw : Region.wanted o (yielded ops a.tmps) = true) (s x : Operand) (t : TypeId)
    (ho : o.op = .call { callee := .builtin .append, args := #[s, x], argTypes := #[t, t] }) (base : Nat) (E : TypeId) (z : Value) (by_ : Nat) (ht : P.underlying t = some (.slice E))
    (hi : (P.info? E).map (fun i => (i.zero, i.size, i.bytes)) = some (some z, 1, by_)) (hz1 : z.cells.size = 1)
    (v : Value) (l : List Value) (hs : a.eval s = v) (hown : OwnV E base w v l) (ad : Option Addr) (m c : Nat) (l2 : List Value) (hx : a.eval x = .slice ad m c) (hb : RowIn w ad m c l2) (hone : ∀ u ∈ l2, u.oneCell' = true)
    (hlen : (l.length + m) * by_ ≤ 140737488355328) (hlen2 : l.length + m ≤ 140737488355328) (hbase : base ≤ w.heap.size)
    (h : ∀ a' c' w', OwnV E base w' (.slice a' (l.length + m) c') (l ++ l2) → w.grownBy w' v.ownBlock → Nxt v.ownBlock w.heap.size (Value.ownBlock (.slice a' (l.length + m) c')) → wpList P ops Q rest (a.put o.dst (.slice a' (l.length + m) c')) w') : wpList P ops Q (o :: rest) a w :=
  wpList_of_wp hw fun _ hK => wp_append_row s x t ho base E z by_ ht hi hz1 v l hs hown ad m c l2 hx hb hone hlen hlen2 hbase fun v' w' h1 h2 h3 => by
    obtain ⟨a', c', rfl, _⟩ := h1.row
    rw [List.length_append, hb.len_eq] at *
    exact hK _ _ (h a' c' w' h1 h2 h3)
/-- make([]T, k) -/
theorem wpList_make_row {P : Program} (w : World) {ops : Array Oper} {rest : List Oper} {o : Oper} {a : Act} {Q : Exit → Act → World → Prop}
    (hg : o.guard = none) (l c : Operand) (t : TypeId) (hop : o.op = Op.makeSlice t l c) (base : Nat) (E : TypeId) (z : Value) (by_ : Nat) (ht : P.underlying t = some (.slice E))
    (hi : (P.info? E).map (fun i => (i.zero, i.size, i.bytes)) = some (some z, 1, by_)) (hz1 : z.cells = #[z]) (kl kc : IntKind) (k : Nat) (hl : a.eval l = .int kl (k : Int)) (hc : a.eval c = .int kc (k : Int))
    (hk : k * by_ ≤ 281474976710656) (hk2 : k ≤ 281474976710656) (hb : base ≤ w.heap.size)
    (hK : ∀ w', OwnV E base w' (.slice (some ⟨w.heap.size, 0, none⟩) k k) (List.replicate k z) → w.grownBy w' none → wpList P ops Q rest (a.put o.dst (.slice (some ⟨w.heap.size, 0, none⟩) k k)) w') : wpList P ops Q (o :: rest) a w := by
  obtain ⟨i, hi, hz0, hz2, hz3⟩ := info_parts hi
  refine wpList_make_full w hg l c t hop base E i z 1 ht hi hz0 hz2 kl kc _ _ k hl hc rfl rfl (by rw [hz3]; have := Nat.mul_comm k by_; omega) (by unfold maxLen; omega) hb fun w' h1 h2 => hK w' ?_ h2
  unfold OwnV
  rw [List.length_replicate]
  have e : (madeCells z.cells (k * 1)).toList = List.replicate k z := by rw [hz1, Nat.mul_one]; exact toList_madeCells_one _ _
  rw [e] at h1
  exact h1

/-! ### a block of cells stored at once -/
theorem Blk.row {w : World} {g : Nat} {t : TypeId} {cs : Array Value} (h : Blk w g t cs) (new : Array Value) : Blk (w.setRow g new) g t new := setRow_heap w g cs new t _ h
theorem setRow_block (w : World) (g : Nat) (cs : Array Value) (k : Nat) (h : k ≠ g) : (w.setRow g cs).heap[k]? = w.heap[k]? := by
  show (w.heap.modify g _)[k]? = _
  rw [Array.getElem?_modify, if_neg (fun e => h e.symm)]
theorem below_row {B : Nat} {w0 w : World} (h : Below B w0 w) {g : Nat} (hg : B ≤ g) (cs : Array Value) : Below B w0 (w.setRow g cs) := by
  refine ⟨h.os, h.tape, h.output, ?_, fun k hk => ?_⟩
  · show w0.heap.size ≤ (w.heap.modify g _).size
    rw [Array.size_modify]; exact h.size
  · rw [setRow_block w g cs k (by omega)]; exact h.block k hk
end Go.My
end

section
/-
  A sliding window as a ring: what is in the ring, what a copy appends. Plain mathematics.
-/
namespace WinMath

/-- The ring of a window of S bytes behind all these; the place of the next one. -/
structure Ring (S : Nat) (all ring : List UInt8) (next : Nat) : Prop where
  len : ring.length = min all.length S
  next_ : next = all.length % S
  at_ : ∀ p, p < all.length → all.length ≤ p + S → ring[p % S]? = all[p]?

def after (S n : Nat) : Nat := if n + 1 = S then 0 else n + 1
theorem after_mod (S m : Nat) (hS : 0 < S) : after S (m % S) = (m + 1) % S := by
  unfold after
  have h := Nat.mod_lt m hS
  have e := Nat.div_add_mod m S
  by_cases h1 : m % S + 1 = S
  · rw [if_pos h1]
    have : m + 1 = S * (m / S + 1) := by rw [Nat.mul_add]; omega
    rw [this, Nat.mul_mod_right]
  · rw [if_neg h1]
    have : m + 1 = S * (m / S) + (m % S + 1) := by omega
    rw [this, Nat.mul_add_mod, Nat.mod_eq_of_lt (by omega : m % S + 1 < S)]

theorem Ring.nil (S : Nat) : Ring S [] [] 0 := ⟨by simp, by simp, fun p h => by simp at h⟩

section
variable {S : Nat} {all ring : List UInt8} {next : Nat}
theorem Ring.lt (h : Ring S all ring next) (hS : 0 < S) : next < S := by rw [h.next_]; exact Nat.mod_lt _ hS
theorem Ring.full (h : Ring S all ring next) : ring.length < S ↔ all.length < S := by rw [h.len]; omega
theorem Ring.le (h : Ring S all ring next) : ring.length ≤ S := by rw [h.len]; omega

theorem Ring.push (h : Ring S all ring next) (hS : 0 < S) (c : UInt8) (hl : ring.length < S) : Ring S (all ++ [c]) (ring ++ [c]) (after S next) := by
  have ha := h.full.1 hl
  have hr : ring.length = all.length := by rw [h.len]; omega
  refine ⟨by simp; omega, by rw [h.next_, after_mod _ _ hS]; simp, fun p hp _ => ?_⟩
  simp at hp
  rw [Nat.mod_eq_of_lt (by omega)]
  by_cases hpl : p < all.length
  · rw [List.getElem?_append_left (by omega), List.getElem?_append_left hpl, ← h.at_ p hpl (by omega), Nat.mod_eq_of_lt (by omega)]
  · obtain rfl : p = all.length := by omega
    rw [List.getElem?_append_right (by omega), List.getElem?_append_right (by omega), hr]
theorem Ring.put (h : Ring S all ring next) (hS : 0 < S) (c : UInt8) (hl : ¬ ring.length < S) : Ring S (all ++ [c]) (ring.set next c) (after S next) := by
  have ha : S ≤ all.length := by have := h.full; omega
  have hr : ring.length = S := by rw [h.len]; omega
  have hn := h.lt hS
  refine ⟨by simp; omega, by rw [h.next_, after_mod _ _ hS]; simp, fun p hp hp2 => ?_⟩
  simp at hp hp2
  by_cases hpl : p < all.length
  · rw [List.getElem?_append_left hpl, ← h.at_ p hpl (by omega), List.getElem?_set_ne]
    rw [h.next_]
    intro e
    have h1 := Nat.div_add_mod p S
    have h2 := Nat.div_add_mod all.length S
    have h3 := Nat.sub_mod_eq_zero_of_mod_eq e
    have h4 : all.length - p < S := by omega
    rw [Nat.mod_eq_of_lt h4] at h3
    omega
  · obtain rfl : p = all.length := by omega
    rw [List.getElem?_append_right (by omega), ← h.next_, List.getElem?_set_self (by omega)]
    simp
/-- What lies dist places ahead. -/
theorem Ring.get (h : Ring S all ring next) (d : Nat) (h1 : 1 ≤ d) (h2 : d ≤ ring.length) : (all.length - d) % S < ring.length ∧ ring[(all.length - d) % S]? = all[all.length - d]? := by
  have hl := h.len
  have e := h.at_ (all.length - d) (by omega) (by omega)
  refine ⟨?_, e⟩
  have hd : all.length - d < all.length := by omega
  rw [List.getElem?_eq_getElem hd] at e
  exact (List.getElem?_eq_some_iff.1 e).1
/-- next - dist, and S more if that is below 0. -/
theorem Ring.from_ (h : Ring S all ring next) (hS : 0 < S) (d : Nat) (h1 : 1 ≤ d) (h2 : d ≤ ring.length) : (if (next : Int) - (d : Int) < 0 then (next : Int) - (d : Int) + (S : Int) else (next : Int) - (d : Int)) = (((all.length - d) % S : Nat) : Int) := by
  have hl := h.len
  have hn := h.lt hS
  have e := h.next_
  have e1 := Nat.div_add_mod all.length S
  have e2 := Nat.div_add_mod (all.length - d) S
  have e3 := Nat.mod_lt (all.length - d) hS
  rw [← e] at e1
  split
  · have : all.length - d = S * (all.length / S - 1) + (next + S - d) := by
      have : 0 < all.length / S := by
        rcases Nat.eq_zero_or_pos (all.length / S) with h0 | h0
        · rw [h0] at e1; omega
        · exact h0
      have e4 : S * (all.length / S) = S * (all.length / S - 1) + S := by
        rw [← Nat.mul_succ]; congr 1; omega
      omega
    rw [this, Nat.mul_add_mod, Nat.mod_eq_of_lt (by omega)]
    omega
  · have : all.length - d = S * (all.length / S) + (next - d) := by omega
    rw [this, Nat.mul_add_mod, Nat.mod_eq_of_lt (by omega)]
    omega
end

/-- n bytes more, each as the one d places ahead of it. -/
def grow (all : List UInt8) (d : Nat) : Nat → List UInt8
  | 0 => all
  | n + 1 => grow all d n ++ [(grow all d n).getD ((grow all d n).length - d) 0]
theorem grow_zero (all : List UInt8) (d : Nat) : grow all d 0 = all := rfl
theorem grow_succ (all : List UInt8) (d n : Nat) : grow all d (n + 1) = grow all d n ++ [(grow all d n).getD ((grow all d n).length - d) 0] := rfl
theorem grow_len (all : List UInt8) (d n : Nat) : (grow all d n).length = all.length + n := by
  induction n with
  | zero => rfl
  | succ n ih => rw [grow_succ, List.length_append, ih]; simp; omega
theorem grow_pre (all : List UInt8) (d n : Nat) : ∃ t, grow all d n = all ++ t := by
  induction n with
  | zero => exact ⟨[], by simp [grow]⟩
  | succ n ih =>
    obtain ⟨t, ht⟩ := ih
    exact ⟨t ++ [(grow all d n).getD ((grow all d n).length - d) 0], by rw [grow_succ, ← List.append_assoc, ← ht]⟩
theorem grow_drop (all : List UInt8) (d n : Nat) : grow all d n = all ++ (grow all d n).drop all.length := by
  obtain ⟨t, ht⟩ := grow_pre all d n
  rw [ht]; simp
/-- What a copy hands back. -/
def copy (all : List UInt8) (d n : Nat) : List UInt8 := (grow all d n).drop all.length
theorem copy_len (all : List UInt8) (d n : Nat) : (copy all d n).length = n := by unfold copy; rw [List.length_drop, grow_len]; omega
theorem copy_zero (all : List UInt8) (d : Nat) : copy all d 0 = [] := by unfold copy; simp [grow]
theorem copy_succ (all : List UInt8) (d n : Nat) : copy all d (n + 1) = copy all d n ++ [(grow all d n).getD ((grow all d n).length - d) 0] := by
  unfold copy
  rw [grow_succ, List.drop_append_of_le_length (by rw [grow_len]; omega)]
theorem grow_copy (all : List UInt8) (d n : Nat) : grow all d n = all ++ copy all d n := grow_drop all d n
/-- It repeats the last d bytes. -/
theorem copy_get (all : List UInt8) (d n : Nat) (h1 : 1 ≤ d) (h2 : d ≤ all.length) (i : Nat) (hi : i < n) : (copy all d n)[i]? = all[all.length - d + i % d]? := by
  induction n generalizing i with
  | zero => omega
  | succ n ih =>
    rw [copy_succ]
    by_cases h : i < n
    · rw [List.getElem?_append_left (by rw [copy_len]; exact h)]
      exact ih i h
    · obtain rfl : i = n := by omega
      rw [List.getElem?_append_right (by rw [copy_len]; omega), copy_len, Nat.sub_self, List.getElem?_cons_zero, List.getD_eq_getElem?_getD, grow_len]
      have hlt : all.length - d + i % d < all.length := by have := Nat.mod_lt i (show 0 < d by omega); omega
      have key : (grow all d i)[all.length + i - d]? = all[all.length - d + i % d]? := by
        rw [grow_copy]
        by_cases hid : i < d
        · rw [List.getElem?_append_left (by omega), Nat.mod_eq_of_lt hid]
          congr 1
          omega
        · rw [List.getElem?_append_right (by omega), ih _ (by omega), Nat.mod_eq_sub_mod (show i ≥ d by omega)]
          congr 3
          omega
      rw [key, List.getElem?_eq_getElem hlt]
      rfl
end WinMath
end

section
/-
  Decoding tables: what a table of symbols holds behind each symbol that is placed, and what is found in it. Plain numbers: no program, no dump.
-/
namespace TabMath
open BitMath CanMath

/-- A code as it is read: its first bit the lowest. -/
def rc (n c : Nat) : Nat := num (lows n c).reverse
theorem rc_lt (n c : Nat) : rc n c < 2 ^ n := by
  have := num_lt (lows n c).reverse
  rwa [List.length_reverse, lows_len] at this
theorem lows_rc (n c : Nat) : lows n (rc n c) = (lows n c).reverse := lows_turn n c
theorem rc_rc (n c : Nat) : rc n (rc n c) = c % 2 ^ n := by
  unfold rc; rw [lows_turn, List.reverse_reverse, num_lows]
theorem rc_mod (n c : Nat) : rc n (c % 2 ^ n) = rc n c := by unfold rc; rw [lows_mod]
theorem rc_of_mod {n a b : Nat} (h : a % 2 ^ n = b % 2 ^ n) : rc n a = rc n b := by rw [← rc_mod n a, h, rc_mod]
theorem rc_add (a b v : Nat) : rc (a + b) v = rc b (v / 2 ^ a) + 2 ^ b * rc a v := by
  unfold rc
  rw [lows_add, List.reverse_append, num_append, List.length_reverse, lows_len]
theorem rc_div (a b v : Nat) : rc (a + b) v / 2 ^ b = rc a v := by
  rw [rc_add, Nat.add_mul_div_left _ _ (Nat.two_pow_pos b), Nat.div_eq_of_lt (rc_lt b _), Nat.zero_add]
theorem mod_mod_pow {a b : Nat} (v : Nat) (h : a ≤ b) : v % 2 ^ b % 2 ^ a = v % 2 ^ a :=
  Nat.mod_mod_of_dvd v (Nat.pow_dvd_pow 2 h)

/-- The length of a symbol's code, 0 if it has none. -/
def ln (ls : List Nat) (i : Nat) : Nat := ls.getD i 0
theorem ln_eq (ls : List Nat) (i : Nat) (h : i < ls.length) : ln ls i = ls[i] := by
  unfold ln; rw [List.getD_eq_getElem?_getD, List.getElem?_eq_getElem h]; rfl
theorem ln_out (ls : List Nat) (i : Nat) (h : ls.length ≤ i) : ln ls i = 0 := by
  unfold ln; rw [List.getD_eq_getElem?_getD, List.getElem?_eq_none h]; rfl
theorem ln_lt {ls : List Nat} {i : Nat} (h : 1 ≤ ln ls i) : i < ls.length := by
  by_cases hi : i < ls.length
  · exact hi
  · rw [ln_out ls i (by omega)] at h; omega
theorem ln_le {ls : List Nat} (hall : ∀ x ∈ ls, x ≤ 15) (i : Nat) : ln ls i ≤ 15 := by
  by_cases hi : i < ls.length
  · rw [ln_eq ls i hi]; exact hall _ (List.getElem_mem hi)
  · rw [ln_out ls i (by omega)]; omega
/-- A symbol's code as it is read. -/
def wd (ls : List Nat) (i : Nat) : Nat := rc (ln ls i) (codeN ls (ln ls i) i)
theorem wd_lt (ls : List Nat) (i : Nat) : wd ls i < 2 ^ ln ls i := rc_lt _ _
theorem bitsAt_wd (ls : List Nat) (i : Nat) (h : i < ls.length) : bitsAt ls i = lows (ln ls i) (wd ls i) := by
  unfold wd; rw [bitsAt_eq ls i h, lows_rc, ln_eq ls i h]

/-- What is read begins with the symbol's code. -/
def Has (ls : List Nat) (v i : Nat) : Prop := 1 ≤ ln ls i ∧ v % 2 ^ ln ls i = wd ls i
instance (ls : List Nat) (v i : Nat) : Decidable (Has ls v i) := inferInstanceAs (Decidable (_ ∧ _))

section
variable {ls : List Nat} (hall : ∀ x ∈ ls, x ≤ 15) (hk : kr ls ≤ 32768)
include hall hk
theorem code_small (i : Nat) (h1 : 1 ≤ ln ls i) : codeN ls (ln ls i) i < 2 ^ ln ls i := by
  have hi := ln_lt h1
  rw [ln_eq ls i hi] at h1 ⊢
  exact codeN_lt ls hall hk i hi h1
theorem rc_wd (i : Nat) (h1 : 1 ≤ ln ls i) : rc (ln ls i) (wd ls i) = codeN ls (ln ls i) i := by
  unfold wd; rw [rc_rc, Nat.mod_eq_of_lt (code_small hall hk i h1)]
theorem has_fits (v i : Nat) : Has ls v i ↔ Fits ls (rc 15 v) i := by
  constructor
  · rintro ⟨h1, h2⟩
    have hi := ln_lt h1
    have h15 := ln_le hall i
    refine ⟨hi, by rw [← ln_eq ls i hi]; exact h1, ?_⟩
    rw [← ln_eq ls i hi]
    have e := rc_div (ln ls i) (15 - ln ls i) v
    rw [show ln ls i + (15 - ln ls i) = 15 from by omega] at e
    rw [e, ← rc_mod, h2, rc_wd hall hk i h1]
  · rintro ⟨hi, h1, h2⟩
    rw [← ln_eq ls i hi] at h1 h2
    have h15 := ln_le hall i
    refine ⟨h1, ?_⟩
    have e := rc_div (ln ls i) (15 - ln ls i) v
    rw [show ln ls i + (15 - ln ls i) = 15 from by omega] at e
    rw [e] at h2
    unfold wd
    rw [← h2, rc_rc]
theorem has_one {v i k : Nat} (h : Has ls v i) (h' : Has ls v k) : i = k :=
  fits_one ls hall (rc 15 v) i k ((has_fits hall hk v i).1 h) ((has_fits hall hk v k).1 h')
/-- Bits with which a longer code begins, noughts behind them, begin with a code. -/
theorem has_fill {v n i : Nat} (hn : n < ln ls i) (h : wd ls i % 2 ^ n = v % 2 ^ n) : ∃ k, Has ls (v % 2 ^ n) k := by
  have h1 : 1 ≤ ln ls i := by omega
  have hi := ln_lt h1
  have h15 := ln_le hall i
  have hroom := start_room ls hall i hi (by rw [← ln_eq ls i hi]; exact h1)
  have hsp := share_pos (n := ls[i]) (by rw [← ln_eq ls i hi]; exact h1)
  rw [← ln_eq ls i hi] at hroom hsp
  have hlt : start ls (ln ls i) i < kr ls := by omega
  have key : rc 15 (v % 2 ^ n) ≤ start ls (ln ls i) i := by
    have e1 := rc_add n (15 - n) (v % 2 ^ n)
    rw [show n + (15 - n) = 15 from by omega, Nat.div_eq_of_lt (Nat.mod_lt _ (Nat.two_pow_pos n))] at e1
    have e2 : rc (15 - n) 0 = 0 := by unfold rc; rw [lows_zero, List.reverse_replicate, num_zero]
    rw [e2, Nat.zero_add] at e1
    have e3 := rc_add n (ln ls i - n) (wd ls i)
    rw [show n + (ln ls i - n) = ln ls i from by omega, rc_wd hall hk i h1] at e3
    have e4 : rc n (wd ls i) = rc n (v % 2 ^ n) := rc_of_mod (by rw [h, Nat.mod_mod])
    rw [e4] at e3
    unfold start
    rw [e1, e3, Nat.add_mul]
    have e5 : 2 ^ (15 - n) = 2 ^ (ln ls i - n) * 2 ^ (15 - ln ls i) := by rw [← Nat.pow_add, show ln ls i - n + (15 - ln ls i) = 15 - n from by omega]
    rw [e5, Nat.mul_assoc, Nat.mul_comm (2 ^ (15 - ln ls i)), ← Nat.mul_assoc]
    exact Nat.le_add_left _ _
  obtain ⟨k, hf⟩ := fits_some ls hall (rc 15 (v % 2 ^ n)) (by omega)
  exact ⟨k, (has_fits hall hk _ k).2 hf⟩
end

/-- An element: a value, a length, how many bits more. -/
structure El where
  v : Nat
  l : Nat
  m : Nat
deriving DecidableEq
def El.z : El := ⟨0, 0, 0⟩

/-- How many bits more the longest code needs that begins with these first bits. -/
def mo (ls : List Nat) (f : Nat) : Nat → Nat → Nat
  | 0, _ => 0
  | k + 1, p => if f < ln ls k ∧ wd ls k % 2 ^ f = p then max (mo ls f k p) (ln ls k - f) else mo ls f k p
def M (ls : List Nat) (f p : Nat) : Nat := mo ls f ls.length p
/-- Where the secondary table of p begins. -/
def S (ls : List Nat) (f : Nat) : Nat → Nat
  | 0 => 2 ^ f
  | p + 1 => S ls f p + (if 0 < M ls f p then 2 ^ M ls f p else 0)

theorem mo_le (ls : List Nat) (f : Nat) (hall : ∀ x ∈ ls, x ≤ 15) (k p : Nat) : mo ls f k p ≤ 15 - f := by
  induction k with
  | zero => simp [mo]
  | succ k ih =>
    rw [mo]; split
    · have := ln_le hall k; omega
    · exact ih
theorem mo_mono (ls : List Nat) (f k p : Nat) : mo ls f k p ≤ mo ls f (k + 1) p := by
  rw [mo]; split <;> omega
theorem mo_mono2 (ls : List Nat) (f p : Nat) {a b : Nat} (h : a ≤ b) : mo ls f a p ≤ mo ls f b p := by
  induction h with
  | refl => exact Nat.le_refl _
  | step _ ih => exact Nat.le_trans ih (mo_mono _ _ _ _)
theorem M_le (ls : List Nat) (f : Nat) (hall : ∀ x ∈ ls, x ≤ 15) (p : Nat) : M ls f p ≤ 15 - f := mo_le ls f hall _ p
theorem M_ge (ls : List Nat) (f k : Nat) (h : f < ln ls k) : ln ls k - f ≤ M ls f (wd ls k % 2 ^ f) := by
  have hk : k < ls.length := ln_lt (by omega)
  have h1 : ln ls k - f ≤ mo ls f (k + 1) (wd ls k % 2 ^ f) := by
    rw [mo, if_pos ⟨h, rfl⟩]; exact Nat.le_max_right _ _
  exact Nat.le_trans h1 (mo_mono2 _ _ _ (by omega))
theorem mo_some (ls : List Nat) (f k p : Nat) (h : 0 < mo ls f k p) : ∃ i, f < ln ls i ∧ wd ls i % 2 ^ f = p := by
  induction k with
  | zero => simp [mo] at h
  | succ k ih =>
    rw [mo] at h
    split at h
    · next hc => exact ⟨k, hc⟩
    · exact ih h
theorem M_some (ls : List Nat) (f p : Nat) (h : 0 < M ls f p) : ∃ i, f < ln ls i ∧ wd ls i % 2 ^ f = p := mo_some _ _ _ _ h
theorem S_mono (ls : List Nat) (f : Nat) {a b : Nat} (h : a ≤ b) : S ls f a ≤ S ls f b := by
  induction h with
  | refl => exact Nat.le_refl _
  | step _ ih => rw [Nat.succ_eq_add_one, S]; omega
theorem S_ge (ls : List Nat) (f p : Nat) : 2 ^ f ≤ S ls f p := S_mono ls f (Nat.zero_le p)
theorem S_next (ls : List Nat) (f p : Nat) (h : 0 < M ls f p) : S ls f p + 2 ^ M ls f p = S ls f (p + 1) := by rw [S, if_pos h]
theorem S_le (ls : List Nat) (f : Nat) (hall : ∀ x ∈ ls, x ≤ 15) (p : Nat) : S ls f p ≤ 2 ^ f + p * 2 ^ (15 - f) := by
  induction p with
  | zero => simp [S]
  | succ p ih =>
    rw [S, Nat.add_mul, Nat.one_mul]
    split
    · have := Nat.pow_le_pow_right (show 0 < 2 by omega) (M_le ls f hall p); omega
    · exact Nat.le_trans ih (Nat.add_le_add_left (Nat.le_add_right _ _) _)
theorem S_top (ls : List Nat) (f : Nat) (hf : f ≤ 15) (hall : ∀ x ∈ ls, x ≤ 15) : S ls f (2 ^ f) ≤ 2 ^ f + 32768 := by
  have := S_le ls f hall (2 ^ f)
  rw [← Nat.pow_add, show f + (15 - f) = 15 from by omega] at this
  exact this
theorem pow_le15 {f : Nat} (hf : f ≤ 15) : 2 ^ f ≤ 32768 := by
  rw [show 32768 = 2 ^ 15 from rfl]; exact Nat.pow_le_pow_right (by omega) hf
/-- A secondary table lies within what there is. -/
theorem S_in (ls : List Nat) (f p : Nat) (hp : p < 2 ^ f) (h : 0 < M ls f p) : S ls f p + 2 ^ M ls f p ≤ S ls f (2 ^ f) := by
  rw [S_next ls f p h]; exact S_mono ls f (by omega)
theorem S_small (ls : List Nat) (f p : Nat) (hf : f ≤ 15) (hall : ∀ x ∈ ls, x ≤ 15) (hp : p < 2 ^ f) (h : 0 < M ls f p) : S ls f p < 65536 := by
  have h1 := S_in ls f p hp h
  have h2 := S_top ls f hf hall
  have h3 := Nat.two_pow_pos (M ls f p)
  have := pow_le15 hf
  omega

/-- What stands behind link. -/
def T0 (ls : List Nat) (f j : Nat) : El := if j < 2 ^ f then ⟨if 0 < M ls f j then S ls f j else 0, 0, M ls f j⟩ else El.z
/-- A symbol is placed. -/
def put (ls : List Nat) (f : Nat) (T : Nat → El) (i : Nat) : Nat → El :=
  if ln ls i = 0 then T
  else if ln ls i ≤ f then fun j => if j < 2 ^ f ∧ j % 2 ^ ln ls i = wd ls i then ⟨i, ln ls i, 0⟩ else T j
  else fun j => if (T (wd ls i % 2 ^ f)).v ≤ j ∧ j < (T (wd ls i % 2 ^ f)).v + 2 ^ (T (wd ls i % 2 ^ f)).m ∧ (j - (T (wd ls i % 2 ^ f)).v) % 2 ^ (ln ls i - f) = wd ls i / 2 ^ f then ⟨i, ln ls i, 0⟩ else T j
def TT (ls : List Nat) (f : Nat) : Nat → Nat → El
  | 0 => T0 ls f
  | k + 1 => put ls f (TT ls f k) k

section
variable {ls : List Nat} (hall : ∀ x ∈ ls, x ≤ 15) (hk : kr ls ≤ 32768) (f : Nat)
include hall hk
/-- What leads to a secondary table is never written over. -/
theorem tt_keep (k : Nat) : ∀ p, p < 2 ^ f → 0 < M ls f p → TT ls f k p = ⟨S ls f p, 0, M ls f p⟩ := by
  induction k with
  | zero => intro p hp hM; rw [TT, T0, if_pos hp, if_pos hM]
  | succ k ih =>
    intro p hp hM
    rw [TT, put]
    split
    · exact ih p hp hM
    · next h0 =>
      split
      · next hf =>
        dsimp only
        rw [if_neg, ih p hp hM]
        rintro ⟨_, h2⟩
        obtain ⟨i, hi1, hi2⟩ := M_some ls f p hM
        have e1 : Has ls (wd ls i) k := ⟨by omega, by rw [← mod_mod_pow _ hf, hi2, h2]⟩
        have e2 : Has ls (wd ls i) i := ⟨by omega, Nat.mod_eq_of_lt (wd_lt ls i)⟩
        have := has_one hall hk e1 e2
        subst this
        omega
      · next hf =>
        have hg := M_ge ls f k (by omega)
        have hp2 : wd ls k % 2 ^ f < 2 ^ f := Nat.mod_lt _ (Nat.two_pow_pos f)
        have hto := ih _ hp2 (by omega)
        dsimp only
        rw [hto, if_neg, ih p hp hM]
        rintro ⟨h1, _⟩
        have := S_ge ls f (wd ls k % 2 ^ f)
        dsimp only at h1
        omega
/-- Where a longer code leads. -/
theorem tt_to (k i : Nat) (h : f < ln ls i) : TT ls f k (wd ls i % 2 ^ f) = ⟨S ls f (wd ls i % 2 ^ f), 0, M ls f (wd ls i % 2 ^ f)⟩ := by
  have hg := M_ge ls f i h
  exact tt_keep hall hk f k _ (Nat.mod_lt _ (Nat.two_pow_pos f)) (by omega)
/-- Bits that lead to no secondary table. -/
theorem tt_first (v : Nat) (hM : M ls f (v % 2 ^ f) = 0) (k : Nat) : (∀ i, i < k → Has ls v i → TT ls f k (v % 2 ^ f) = ⟨i, ln ls i, 0⟩) ∧ ((∀ i, i < k → ¬ Has ls v i) → TT ls f k (v % 2 ^ f) = El.z) := by
  have hp : v % 2 ^ f < 2 ^ f := Nat.mod_lt _ (Nat.two_pow_pos f)
  have hshort : ∀ i, Has ls v i → ln ls i ≤ f := by
    rintro i ⟨h1, h2⟩
    by_cases hi : ln ls i ≤ f
    · exact hi
    · have hg := M_ge ls f i (by omega)
      rw [← h2, mod_mod_pow v (by omega), hM] at hg
      omega
  induction k with
  | zero =>
    refine ⟨fun i hi => by omega, fun _ => ?_⟩
    rw [TT, T0, if_pos hp, hM]; rfl
  | succ k ih =>
    rw [TT, put]
    split
    · next h0 =>
      refine ⟨fun i hi hh => ?_, fun hn => ih.2 fun i hi => hn i (by omega)⟩
      by_cases he : i = k
      · subst he; have := hh.1; omega
      · exact ih.1 i (by omega) hh
    · next h0 =>
      split
      · next hf =>
        dsimp only
        by_cases hh : Has ls v k
        · have hc : v % 2 ^ f < 2 ^ f ∧ v % 2 ^ f % 2 ^ ln ls k = wd ls k := ⟨hp, by rw [mod_mod_pow v hf]; exact hh.2⟩
          rw [if_pos hc]
          refine ⟨fun i _ hi => ?_, fun hn => absurd hh (hn k (by omega))⟩
          rw [has_one hall hk hi hh]
        · have hc : ¬ (v % 2 ^ f < 2 ^ f ∧ v % 2 ^ f % 2 ^ ln ls k = wd ls k) := fun hc => hh ⟨by omega, by rw [← hc.2, mod_mod_pow v hf]⟩
          rw [if_neg hc]
          refine ⟨fun i hi hi2 => ?_, fun hn => ih.2 fun i hi => hn i (by omega)⟩
          by_cases he : i = k
          · subst he; exact absurd hi2 hh
          · exact ih.1 i (by omega) hi2
      · next hf =>
        dsimp only
        rw [tt_to hall hk f k k (by omega), if_neg]
        · refine ⟨fun i hi hh => ?_, fun hn => ih.2 fun i hi => hn i (by omega)⟩
          by_cases he : i = k
          · subst he; have := hshort i hh; omega
          · exact ih.1 i (by omega) hh
        · rintro ⟨h1, _⟩
          have := S_ge ls f (wd ls k % 2 ^ f)
          dsimp only at h1
          omega
/-- Bits that lead to a secondary table. -/
theorem tt_second (v : Nat) (hM : 0 < M ls f (v % 2 ^ f)) (k : Nat) :
    (∀ i, i < k → Has ls v i → TT ls f k (S ls f (v % 2 ^ f) + v / 2 ^ f % 2 ^ M ls f (v % 2 ^ f)) = ⟨i, ln ls i, 0⟩) ∧ ((∀ i, i < k → ¬ Has ls v i) → TT ls f k (S ls f (v % 2 ^ f) + v / 2 ^ f % 2 ^ M ls f (v % 2 ^ f)) = El.z) := by
  have hp : v % 2 ^ f < 2 ^ f := Nat.mod_lt _ (Nat.two_pow_pos f)
  have hj := S_ge ls f (v % 2 ^ f)
  have hq : v / 2 ^ f % 2 ^ M ls f (v % 2 ^ f) < 2 ^ M ls f (v % 2 ^ f) := Nat.mod_lt _ (Nat.two_pow_pos _)
  have hlong : ∀ i, Has ls v i → f < ln ls i := by
    rintro i ⟨h1, h2⟩
    by_cases hi : f < ln ls i
    · exact hi
    · exfalso
      obtain ⟨k', hk1, hk2⟩ := M_some ls f _ hM
      have e1 : Has ls (wd ls k') i := ⟨h1, by rw [← mod_mod_pow _ (show ln ls i ≤ f by omega), hk2, mod_mod_pow v (by omega), h2]⟩
      have e2 : Has ls (wd ls k') k' := ⟨by omega, Nat.mod_eq_of_lt (wd_lt ls k')⟩
      have := has_one hall hk e1 e2
      subst this
      omega
  induction k with
  | zero =>
    refine ⟨fun i hi => by omega, fun _ => ?_⟩
    rw [TT, T0, if_neg (by omega)]
  | succ k ih =>
    rw [TT, put]
    split
    · next h0 =>
      refine ⟨fun i hi hh => ?_, fun hn => ih.2 fun i hi => hn i (by omega)⟩
      by_cases he : i = k
      · subst he; have := hh.1; omega
      · exact ih.1 i (by omega) hh
    · next h0 =>
      split
      · next hf =>
        dsimp only
        rw [if_neg (fun hc => by omega)]
        refine ⟨fun i hi hh => ?_, fun hn => ih.2 fun i hi => hn i (by omega)⟩
        by_cases he : i = k
        · subst he; have := hlong i hh; omega
        · exact ih.1 i (by omega) hh
      · next hf =>
        dsimp only
        rw [tt_to hall hk f k k (by omega)]
        dsimp only
        by_cases he : wd ls k % 2 ^ f = v % 2 ^ f
        · rw [he]
          have hg := M_ge ls f k (by omega)
          rw [he] at hg
          have hiff : (S ls f (v % 2 ^ f) ≤ S ls f (v % 2 ^ f) + v / 2 ^ f % 2 ^ M ls f (v % 2 ^ f) ∧ S ls f (v % 2 ^ f) + v / 2 ^ f % 2 ^ M ls f (v % 2 ^ f) < S ls f (v % 2 ^ f) + 2 ^ M ls f (v % 2 ^ f) ∧ (S ls f (v % 2 ^ f) + v / 2 ^ f % 2 ^ M ls f (v % 2 ^ f) - S ls f (v % 2 ^ f)) % 2 ^ (ln ls k - f) = wd ls k / 2 ^ f) ↔ Has ls v k := by
            rw [Nat.add_sub_cancel_left, mod_mod_pow _ hg]
            have hd : v % 2 ^ ln ls k = v % 2 ^ f + 2 ^ f * (v / 2 ^ f % 2 ^ (ln ls k - f)) := by
              conv => lhs; rw [show ln ls k = f + (ln ls k - f) from by omega, Nat.pow_add, Nat.mod_mul]
            have hw : wd ls k = v % 2 ^ f + 2 ^ f * (wd ls k / 2 ^ f) := by
              conv => lhs; rw [← Nat.mod_add_div (wd ls k) (2 ^ f), he]
            constructor
            · rintro ⟨_, _, h3⟩
              exact ⟨by omega, by rw [hd, h3, ← hw]⟩
            · rintro ⟨h1, h2⟩
              refine ⟨by omega, by omega, ?_⟩
              have h3 : 2 ^ f * (v / 2 ^ f % 2 ^ (ln ls k - f)) = 2 ^ f * (wd ls k / 2 ^ f) := by
                rw [hd] at h2; omega
              exact Nat.eq_of_mul_eq_mul_left (Nat.two_pow_pos f) h3
          by_cases hh : Has ls v k
          · rw [if_pos (hiff.2 hh)]
            refine ⟨fun i _ hi => ?_, fun hn => absurd hh (hn k (by omega))⟩
            rw [has_one hall hk hi hh]
          · rw [if_neg (fun hc => hh (hiff.1 hc))]
            refine ⟨fun i hi hi2 => ?_, fun hn => ih.2 fun i hi => hn i (by omega)⟩
            by_cases he : i = k
            · subst he; exact absurd hi2 hh
            · exact ih.1 i (by omega) hi2
        · have hg := M_ge ls f k (by omega)
          have hS1 := S_next ls f (wd ls k % 2 ^ f) (by omega)
          have hS2 := S_next ls f (v % 2 ^ f) hM
          rw [if_neg]
          · refine ⟨fun i hi hh => ?_, fun hn => ih.2 fun i hi => hn i (by omega)⟩
            by_cases hik : i = k
            · subst hik
              exfalso
              apply he
              rw [← hh.2, mod_mod_pow v (by omega)]
            · exact ih.1 i (by omega) hh
          · rintro ⟨h1, h2, _⟩
            rcases Nat.lt_or_gt_of_ne he with hlt | hgt
            · have := S_mono ls f (show wd ls k % 2 ^ f + 1 ≤ v % 2 ^ f by omega)
              omega
            · have := S_mono ls f (show v % 2 ^ f + 1 ≤ wd ls k % 2 ^ f by omega)
              omega
end

/-- What look finds. -/
def look (ls : List Nat) (f v : Nat) : El :=
  if 0 < (TT ls f ls.length (v % 2 ^ f)).m then TT ls f ls.length ((TT ls f ls.length (v % 2 ^ f)).v + v / 2 ^ f % 2 ^ (TT ls f ls.length (v % 2 ^ f)).m) else TT ls f ls.length (v % 2 ^ f)
/-- The symbol whose code stands in front. -/
def who (ls : List Nat) (v : Nat) : El := match (List.range ls.length).find? (fun i => decide (Has ls v i)) with | some i => ⟨i, ln ls i, 0⟩ | none => El.z

section
variable {ls : List Nat} (hall : ∀ x ∈ ls, x ≤ 15) (hk : kr ls ≤ 32768) (f : Nat)
include hall hk
theorem who_some {v i : Nat} (h : Has ls v i) : who ls v = ⟨i, ln ls i, 0⟩ := by
  unfold who
  split
  · next j hj =>
    have h1 := List.find?_some hj
    rw [has_one hall hk (of_decide_eq_true h1) h]
  · next hn =>
    have := List.find?_eq_none.1 hn i (List.mem_range.2 (ln_lt h.1))
    simp [h] at this
omit hall hk in
theorem who_none {v : Nat} (h : ∀ i, ¬ Has ls v i) : who ls v = El.z := by
  unfold who
  split
  · next j hj =>
    have h1 := List.find?_some hj
    exact absurd (of_decide_eq_true h1) (h j)
  · rfl
theorem look_who (v : Nat) : look ls f v = who ls v := by
  have hp : v % 2 ^ f < 2 ^ f := Nat.mod_lt _ (Nat.two_pow_pos f)
  unfold look
  by_cases hM : 0 < M ls f (v % 2 ^ f)
  · rw [tt_keep hall hk f ls.length _ hp hM]
    dsimp only
    rw [if_pos hM]
    have h := tt_second hall hk f v hM ls.length
    by_cases hh : ∃ i, Has ls v i
    · obtain ⟨i, hi⟩ := hh
      rw [h.1 i (ln_lt hi.1) hi, who_some hall hk hi]
    · have hn : ∀ i, ¬ Has ls v i := fun i hi => hh ⟨i, hi⟩
      rw [h.2 (fun i _ => hn i), who_none hn]
  · have h := tt_first hall hk f v (by omega) ls.length
    by_cases hh : ∃ i, Has ls v i
    · obtain ⟨i, hi⟩ := hh
      rw [h.1 i (ln_lt hi.1) hi, who_some hall hk hi]
      rw [if_neg (by simp)]
    · have hn : ∀ i, ¬ Has ls v i := fun i hi => hh ⟨i, hi⟩
      rw [h.2 (fun i _ => hn i), who_none hn]
      rfl
theorem who_cases (v : Nat) : (∃ i, Has ls v i ∧ who ls v = ⟨i, ln ls i, 0⟩) ∨ ((∀ i, ¬ Has ls v i) ∧ who ls v = El.z) := by
  by_cases hh : ∃ i, Has ls v i
  · obtain ⟨i, hi⟩ := hh
    exact .inl ⟨i, hi, who_some hall hk hi⟩
  · have hn : ∀ i, ¬ Has ls v i := fun i hi => hh ⟨i, hi⟩
    exact .inr ⟨hn, who_none hn⟩
end
end TabMath
end

section
/-
  Bytes written into, and read out of, a row of the call's own. No program, no dump. (XR5, XNumM have the same beside functions of the program: this text is for seats without them.)
-/
namespace Go.My
open Go.RowKit
theorem own_store {E : TypeId} {base : Nat} {w : World} {g n c : Nat} {l : List UInt8} (h : Own E base w (.slice (some ⟨g, 0, none⟩) n c) l) (hn : l.length = n) (i : Nat) (b : UInt8) :
    Own E base (w.setCell ⟨g, i, none⟩ (bv b)) (.slice (some ⟨g, 0, none⟩) n c) (l.set i b) := by
  subst hn
  have := (World.ownsRow.stored h i (bv b)).1
  unfold Own
  rw [List.length_set, List.map_set]
  exact this
theorem own_cell {E : TypeId} {base : Nat} {w : World} {g n c : Nat} {l : List UInt8} (h : Own E base w (.slice (some ⟨g, 0, none⟩) n c) l) (hn : l.length = n) (i : Nat) (hi : i < l.length) : w.cell? ⟨g, i, none⟩ = some (bv l[i]) := by
  subst hn
  have hl := h
  unfold Own at hl
  have hcell := World.ownsRow.cellAt hl i (by simpa using hi)
  rw [hcell, List.getElem?_map, List.getElem?_eq_getElem hi]
  rfl
theorem own_free {E : TypeId} {base : Nat} {w : World} {g n c : Nat} {l : List UInt8} (h : Own E base w (.slice (some ⟨g, 0, none⟩) n c) l) (hn : l.length = n) (i : Nat) : w.frozen? ⟨g, i, none⟩ = false := by
  subst hn
  exact World.ownsRow.frozenAt h i
end Go.My
end

section
/-
  What bytes a call makes of its own (namespace RefC), without functions of the document's answer: for seats where stevedoreref5's Of, Bytes, Number are not all called.
-/
namespace Go.Proofs.YtjejlhpnhkacmaaGreatDoor.RefC
open Go.RowKit Go.My BitMath

theorem info5 : (Tryz.prog.info? 5).map (fun i => (i.zero, i.size, i.bytes)) = some (some (.int .u8 0), 1, 1) := by kernel_rfl

theorem ret_str {a b : ByteArray} (h : a = b) : Ending.returned (.string a) = .returned (.string b) := by rw [h]
/-! ### bytes written into a row of the call's own -/
theorem own_store {E : TypeId} {base : Nat} {w : World} {g n c : Nat} {l : List UInt8} (h : Own E base w (.slice (some ⟨g, 0, none⟩) n c) l) (hn : l.length = n) (i : Nat) (b : UInt8) :
    Own E base (w.setCell ⟨g, i, none⟩ (bv b)) (.slice (some ⟨g, 0, none⟩) n c) (l.set i b) := by
  subst hn
  have := (World.ownsRow.stored h i (bv b)).1
  unfold Own
  rw [List.length_set, List.map_set]
  exact this
theorem own_cell {E : TypeId} {base : Nat} {w : World} {g n c : Nat} {l : List UInt8} (h : Own E base w (.slice (some ⟨g, 0, none⟩) n c) l) (hn : l.length = n) (i : Nat) (hi : i < l.length) : w.cell? ⟨g, i, none⟩ = some (bv l[i]) := by
  subst hn
  have hl := h
  unfold Own at hl
  have hcell := World.ownsRow.cellAt hl i (by simpa using hi)
  rw [hcell, List.getElem?_map, List.getElem?_eq_getElem hi]
  rfl
theorem own_free {E : TypeId} {base : Nat} {w : World} {g n c : Nat} {l : List UInt8} (h : Own E base w (.slice (some ⟨g, 0, none⟩) n c) l) (hn : l.length = n) (i : Nat) : w.frozen? ⟨g, i, none⟩ = false := by
  subst hn
  exact World.ownsRow.frozenAt h i
end Go.Proofs.YtjejlhpnhkacmaaGreatDoor.RefC
end

section
/-
  Bits swapped in pairs, fours, bytes: a word turned round. Plain numbers: no program, no dump.
-/
namespace TabMath
open BitMath

theorem num_and (l m : List Bool) (h : l.length = m.length) : num l &&& num m = num (List.zipWith (fun a b => b && a) l m) := by
  induction l generalizing m with
  | nil => simp [num]
  | cons a l ih =>
    cases m with
    | nil => simp at h
    | cons b m =>
      rw [List.zipWith_cons_cons, num, num, num, ← ih m (by simpa using h)]
      apply Nat.eq_of_testBit_eq
      intro i
      rw [Nat.testBit_and]
      cases i with
      | zero => cases a <;> cases b <;> simp [Nat.testBit_zero] <;> omega
      | succ i =>
        rw [Nat.testBit_succ, Nat.testBit_succ, Nat.testBit_succ]
        have e : ∀ (c : Bool) (x : Nat), (c.toNat + 2 * x) / 2 = x := fun c x => by cases c <;> simp <;> omega
        rw [e, e, e, Nat.testBit_and]
theorem num_or (l m : List Bool) (h : l.length = m.length) : num l ||| num m = num (List.zipWith (fun a b => a || b) l m) := by
  induction l generalizing m with
  | nil =>
    cases m with
    | nil => simp [num]
    | cons b m => simp at h
  | cons a l ih =>
    cases m with
    | nil => simp at h
    | cons b m =>
      rw [List.zipWith_cons_cons, num, num, num, ← ih m (by simpa using h)]
      apply Nat.eq_of_testBit_eq
      intro i
      rw [Nat.testBit_or]
      cases i with
      | zero => cases a <;> cases b <;> simp [Nat.testBit_zero] <;> omega
      | succ i =>
        rw [Nat.testBit_succ, Nat.testBit_succ, Nat.testBit_succ]
        have e : ∀ (c : Bool) (x : Nat), (c.toNat + 2 * x) / 2 = x := fun c x => by cases c <;> simp <;> omega
        rw [e, e, e, Nat.testBit_or]
theorem num_drop (l : List Bool) (k : Nat) : num l / 2 ^ k = num (l.drop k) := by
  induction k generalizing l with
  | zero => simp
  | succ k ih =>
    cases l with
    | nil => simp [num]
    | cons a l =>
      rw [List.drop_succ_cons, ← ih, num, Nat.pow_succ, Nat.mul_comm (2 ^ k), ← Nat.div_div_eq_div_mul]
      congr 1
      cases a <;> simp <;> omega
theorem num_take (l : List Bool) (k : Nat) : num l % 2 ^ k = num (l.take k) := by
  rw [← num_lows]
  by_cases h : k ≤ l.length
  · congr 1
    have e := lows_num l
    rw [show l.length = k + (l.length - k) from by omega, lows_add] at e
    have e2 := congrArg (List.take k) e
    rw [List.take_append_of_le_length (by rw [lows_len]; omega), List.take_of_length_le (by rw [lows_len]; omega)] at e2
    exact e2
  · rw [List.take_of_length_le (by omega), num_lows, Nat.mod_eq_of_lt]
    exact Nat.lt_of_lt_of_le (num_lt l) (Nat.pow_le_pow_right (by omega) (by omega))
theorem num_up (l : List Bool) (k : Nat) : num l * 2 ^ k = num (List.replicate k false ++ l) := by
  rw [num_append, num_zero, List.length_replicate, Nat.zero_add, Nat.mul_comm]
theorem num_end (l : List Bool) (k : Nat) : num (l ++ List.replicate k false) = num l := by
  rw [num_append, num_zero]; rfl

/-- Bits k apart change places. -/
def swp (k m x : Nat) : Nat := ((x / 2 ^ k) &&& m) ||| ((x &&& m) * 2 ^ k % 2 ^ 32)
theorem swp_num (k m : Nat) (l ms : List Bool) (hk : k ≤ 32) (hl : l.length = 32) (hm : m = num ms) (hml : ms.length = 32) :
    swp k m (num l) = num (List.zipWith (fun a b => a || b) (List.zipWith (fun a b => b && a) (l.drop k ++ List.replicate k false) ms) ((List.replicate k false ++ List.zipWith (fun a b => b && a) l ms).take 32)) := by
  unfold swp
  subst hm
  rw [num_drop, ← num_end (l.drop k) k, num_and _ _ (by simp; omega), num_and _ _ (by omega), num_up, num_take, num_or _ _ (by simp; omega)]

set_option maxRecDepth 10000 in
theorem swp_1 (b0 b1 b2 b3 b4 b5 b6 b7 b8 b9 b10 b11 b12 b13 b14 b15 b16 b17 b18 b19 b20 b21 b22 b23 b24 b25 b26 b27 b28 b29 b30 b31 : Bool) : swp 1 1431655765 (num [b0, b1, b2, b3, b4, b5, b6, b7, b8, b9, b10, b11, b12, b13, b14, b15, b16, b17, b18, b19, b20, b21, b22, b23, b24, b25, b26, b27, b28, b29, b30, b31]) = num [b1, b0, b3, b2, b5, b4, b7, b6, b9, b8, b11, b10, b13, b12, b15, b14, b17, b16, b19, b18, b21, b20, b23, b22, b25, b24, b27, b26, b29, b28, b31, b30] := by
  rw [swp_num 1 1431655765 _ [true, false, true, false, true, false, true, false, true, false, true, false, true, false, true, false, true, false, true, false, true, false, true, false, true, false, true, false, true, false, true, false] (by decide) rfl (by decide) rfl]
  congr 1
  simp only [List.drop_succ_cons, List.drop_zero, List.replicate, List.cons_append, List.nil_append, List.zipWith_cons_cons, List.zipWith_nil_left, List.take_succ_cons, List.take_zero, Bool.true_and, Bool.false_and, Bool.or_false, Bool.false_or]

set_option maxRecDepth 10000 in
theorem swp_2 (b0 b1 b2 b3 b4 b5 b6 b7 b8 b9 b10 b11 b12 b13 b14 b15 b16 b17 b18 b19 b20 b21 b22 b23 b24 b25 b26 b27 b28 b29 b30 b31 : Bool) : swp 2 858993459 (num [b0, b1, b2, b3, b4, b5, b6, b7, b8, b9, b10, b11, b12, b13, b14, b15, b16, b17, b18, b19, b20, b21, b22, b23, b24, b25, b26, b27, b28, b29, b30, b31]) = num [b2, b3, b0, b1, b6, b7, b4, b5, b10, b11, b8, b9, b14, b15, b12, b13, b18, b19, b16, b17, b22, b23, b20, b21, b26, b27, b24, b25, b30, b31, b28, b29] := by
  rw [swp_num 2 858993459 _ [true, true, false, false, true, true, false, false, true, true, false, false, true, true, false, false, true, true, false, false, true, true, false, false, true, true, false, false, true, true, false, false] (by decide) rfl (by decide) rfl]
  congr 1
  simp only [List.drop_succ_cons, List.drop_zero, List.replicate, List.cons_append, List.nil_append, List.zipWith_cons_cons, List.zipWith_nil_left, List.take_succ_cons, List.take_zero, Bool.true_and, Bool.false_and, Bool.or_false, Bool.false_or]

set_option maxRecDepth 10000 in
theorem swp_4 (b0 b1 b2 b3 b4 b5 b6 b7 b8 b9 b10 b11 b12 b13 b14 b15 b16 b17 b18 b19 b20 b21 b22 b23 b24 b25 b26 b27 b28 b29 b30 b31 : Bool) : swp 4 252645135 (num [b0, b1, b2, b3, b4, b5, b6, b7, b8, b9, b10, b11, b12, b13, b14, b15, b16, b17, b18, b19, b20, b21, b22, b23, b24, b25, b26, b27, b28, b29, b30, b31]) = num [b4, b5, b6, b7, b0, b1, b2, b3, b12, b13, b14, b15, b8, b9, b10, b11, b20, b21, b22, b23, b16, b17, b18, b19, b28, b29, b30, b31, b24, b25, b26, b27] := by
  rw [swp_num 4 252645135 _ [true, true, true, true, false, false, false, false, true, true, true, true, false, false, false, false, true, true, true, true, false, false, false, false, true, true, true, true, false, false, false, false] (by decide) rfl (by decide) rfl]
  congr 1
  simp only [List.drop_succ_cons, List.drop_zero, List.replicate, List.cons_append, List.nil_append, List.zipWith_cons_cons, List.zipWith_nil_left, List.take_succ_cons, List.take_zero, Bool.true_and, Bool.false_and, Bool.or_false, Bool.false_or]

set_option maxRecDepth 10000 in
theorem swp_8 (b0 b1 b2 b3 b4 b5 b6 b7 b8 b9 b10 b11 b12 b13 b14 b15 b16 b17 b18 b19 b20 b21 b22 b23 b24 b25 b26 b27 b28 b29 b30 b31 : Bool) : swp 8 16711935 (num [b0, b1, b2, b3, b4, b5, b6, b7, b8, b9, b10, b11, b12, b13, b14, b15, b16, b17, b18, b19, b20, b21, b22, b23, b24, b25, b26, b27, b28, b29, b30, b31]) = num [b8, b9, b10, b11, b12, b13, b14, b15, b0, b1, b2, b3, b4, b5, b6, b7, b24, b25, b26, b27, b28, b29, b30, b31, b16, b17, b18, b19, b20, b21, b22, b23] := by
  rw [swp_num 8 16711935 _ [true, true, true, true, true, true, true, true, false, false, false, false, false, false, false, false, true, true, true, true, true, true, true, true, false, false, false, false, false, false, false, false] (by decide) rfl (by decide) rfl]
  congr 1
  simp only [List.drop_succ_cons, List.drop_zero, List.replicate, List.cons_append, List.nil_append, List.zipWith_cons_cons, List.zipWith_nil_left, List.take_succ_cons, List.take_zero, Bool.true_and, Bool.false_and, Bool.or_false, Bool.false_or]

set_option maxRecDepth 10000 in
theorem swp_16 (b0 b1 b2 b3 b4 b5 b6 b7 b8 b9 b10 b11 b12 b13 b14 b15 b16 b17 b18 b19 b20 b21 b22 b23 b24 b25 b26 b27 b28 b29 b30 b31 : Bool) : swp 16 65535 (num [b0, b1, b2, b3, b4, b5, b6, b7, b8, b9, b10, b11, b12, b13, b14, b15, b16, b17, b18, b19, b20, b21, b22, b23, b24, b25, b26, b27, b28, b29, b30, b31]) = num [b16, b17, b18, b19, b20, b21, b22, b23, b24, b25, b26, b27, b28, b29, b30, b31, b0, b1, b2, b3, b4, b5, b6, b7, b8, b9, b10, b11, b12, b13, b14, b15] := by
  rw [swp_num 16 65535 _ [true, true, true, true, true, true, true, true, true, true, true, true, true, true, true, true, false, false, false, false, false, false, false, false, false, false, false, false, false, false, false, false] (by decide) rfl (by decide) rfl]
  congr 1
  simp only [List.drop_succ_cons, List.drop_zero, List.replicate, List.cons_append, List.nil_append, List.zipWith_cons_cons, List.zipWith_nil_left, List.take_succ_cons, List.take_zero, Bool.true_and, Bool.false_and, Bool.or_false, Bool.false_or]

theorem list32 (l : List Bool) (h : l.length = 32) : ∃ b0 b1 b2 b3 b4 b5 b6 b7 b8 b9 b10 b11 b12 b13 b14 b15 b16 b17 b18 b19 b20 b21 b22 b23 b24 b25 b26 b27 b28 b29 b30 b31, l = [b0, b1, b2, b3, b4, b5, b6, b7, b8, b9, b10, b11, b12, b13, b14, b15, b16, b17, b18, b19, b20, b21, b22, b23, b24, b25, b26, b27, b28, b29, b30, b31] := by
  match l, h with
  | [b0, b1, b2, b3, b4, b5, b6, b7, b8, b9, b10, b11, b12, b13, b14, b15, b16, b17, b18, b19, b20, b21, b22, b23, b24, b25, b26, b27, b28, b29, b30, b31], _ => exact ⟨b0, b1, b2, b3, b4, b5, b6, b7, b8, b9, b10, b11, b12, b13, b14, b15, b16, b17, b18, b19, b20, b21, b22, b23, b24, b25, b26, b27, b28, b29, b30, b31, rfl⟩
/-- A word turned round. -/
theorem swp_all (x : Nat) (h : x < 2 ^ 32) : swp 16 65535 (swp 8 16711935 (swp 4 252645135 (swp 2 858993459 (swp 1 1431655765 x)))) = rc 32 x := by
  obtain ⟨b0, b1, b2, b3, b4, b5, b6, b7, b8, b9, b10, b11, b12, b13, b14, b15, b16, b17, b18, b19, b20, b21, b22, b23, b24, b25, b26, b27, b28, b29, b30, b31, hl⟩ := list32 (lows 32 x) (lows_len 32 x)
  have hx : x = num (lows 32 x) := by rw [num_lows, Nat.mod_eq_of_lt h]
  unfold rc
  rw [hl] at hx ⊢
  rw [hx, swp_1, swp_2, swp_4, swp_8, swp_16]
  rfl
theorem swp_last (x : Nat) (h : x < 2 ^ 32) : x / 65536 ||| (x * 65536 % 4294967296) = swp 16 65535 x := by
  unfold swp
  have h1 : x / 2 ^ 16 &&& 65535 = x / 65536 := by
    rw [show 65535 = 2 ^ 16 - 1 from rfl, Nat.and_two_pow_sub_one_eq_mod]
    omega
  have h2 : (x &&& 65535) * 2 ^ 16 % 2 ^ 32 = x * 65536 % 4294967296 := by
    rw [show 65535 = 2 ^ 16 - 1 from rfl, Nat.and_two_pow_sub_one_eq_mod]
    omega
  rw [h1, h2]
theorem swp_lt (k m x : Nat) (hm : m < 2 ^ 32) : swp k m x < 2 ^ 32 :=
  Nat.or_lt_two_pow (Nat.lt_of_le_of_lt Nat.and_le_right hm) (Nat.mod_lt _ (by decide))
/-- The code of n bits as it is read: the word turned round, its end. -/
theorem rc_of_word (n c : Nat) (hn : n ≤ 32) : rc 32 c / 2 ^ (32 - n) = rc n c := by
  have := rc_div n (32 - n) c
  rwa [show n + (32 - n) = 32 from by omega] at this
end TabMath
end
