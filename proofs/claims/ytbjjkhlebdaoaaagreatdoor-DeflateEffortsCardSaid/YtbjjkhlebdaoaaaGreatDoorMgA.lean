import Derived.WalkKit
import Derived.WalkSpells
import Derived.WalkLawsBesides
import Derived.WalkSmall
import Derived.Laws.AppendOwnNone
import Derived.Lib.BufferRead
import Derived.Lib.Hide
import Derived.Laws.BitsAllLaws
import Derived.IntWalk
import Derived.Test.YtbjjkhlebdaoaaaGreatDoorRows
import Derived.Laws.Pointers
import Derived.Deep.QuietTactic
import Derived.BigQuiet
import Derived.StillTailTactics
import Derived.Deep.AppendLies
import Derived.Deep.Draws
import Derived.OrdersHeld
import Derived.Laws.Rows
import Derived.Laws.Tables

section
/-
  Lemmas for walks over bytes: no program, no dump.
-/
namespace Go.My
open Go.RowKit

/-- A slice of bytes (address, length, capacity) that reads as a list. -/
structure Bytes (w : World) (a : Option Addr) (len cap : Nat) (l : List UInt8) : Prop where
  len_eq : l.length = len
  le_cap : len ≤ cap
  cap_le : cap ≤ 9223372036854775807
  nil : a = none → len = 0 ∧ cap = 0
  at_ : len = 0 ∨ ∃ b off, a = some ⟨b, off, none⟩ ∧ b < w.heap.size ∧ ∀ i (h : i < l.length), w.cell? ⟨b, off + i, none⟩ = some (.int .u8 (l[i].toNat : Int))

theorem ret_int {k : IntKind} {a b : Int} (h : a = b) : Ending.returned (.int k a) = .returned (.int k b) := by rw [h]

theorem nil_bytes (w : World) : Bytes w none 0 0 [] := ⟨rfl, Nat.le_refl _, by omega, fun _ => ⟨rfl, rfl⟩, .inl rfl⟩

theorem Bytes.below {w w' : World} {a : Option Addr} {len cap : Nat} {l : List UInt8} (h : Bytes w a len cap l) {B : Nat} (hB : w.heap.size ≤ B) (hb : Below B w w') : Bytes w' a len cap l := by
  refine ⟨h.1, h.2, h.3, h.4, h.5.imp_right ?_⟩
  rintro ⟨b, off, ha, hs, hc⟩
  exact ⟨b, off, ha, Nat.lt_of_lt_of_le hs hb.size, fun i hi => by rw [hb.cell (p := ⟨b, off + i, none⟩) (Nat.lt_of_lt_of_le hs hB)]; exact hc i hi⟩

/-- b[:k] -/
theorem Bytes.take {w : World} {a : Option Addr} {len cap : Nat} {l : List UInt8} (h : Bytes w a len cap l) (k : Nat) (hk : k ≤ len) : Bytes w a k cap (l.take k) := by
  obtain ⟨rfl, h2, h3, h4, h5⟩ := h
  refine ⟨by simp; omega, by omega, h3, fun h => ⟨by have := (h4 h).1; omega, (h4 h).2⟩, ?_⟩
  rcases h5 with h5 | ⟨b, off, ha, hs, hc⟩
  · left; omega
  · right
    exact ⟨b, off, ha, hs, fun i hi => by
      rw [hc i (by simp at hi; omega), List.getElem_take]⟩
/-- b[k:], where there is room behind. -/
theorem Bytes.drop {w : World} {b off len cap : Nat} {l : List UInt8} (h : Bytes w (some ⟨b, off, none⟩) len cap l) (k : Nat) (hk : k ≤ len) : Bytes w (some ⟨b, off + k, none⟩) (len - k) (cap - k) (l.drop k) := by
  obtain ⟨rfl, h2, h3, h4, h5⟩ := h
  refine ⟨by simp, by omega, by omega, fun h => (by cases h), ?_⟩
  rcases h5 with h5 | ⟨b', off', ha, hs, hc⟩
  · left; omega
  · right
    cases ha
    exact ⟨b, off + k, rfl, hs, fun i hi => by
      rw [List.getElem_drop, ← hc (k + i) (by simp at hi; omega), Nat.add_assoc]⟩
theorem Bytes.some_ {w : World} {a : Option Addr} {len cap : Nat} {l : List UInt8} (h : Bytes w a len cap l) (h0 : 0 < len) : ∃ b off, a = some ⟨b, off, none⟩ := by
  rcases h.at_ with h5 | ⟨b, off, ha, hs, hc⟩
  · omega
  · exact ⟨b, off, ha⟩

theorem addr_add (b off i : Nat) : (⟨b, off, none⟩ : Addr).add i = ⟨b, off + i, none⟩ := by unfold Addr.add; split <;> simp_all

/-- What came in as a row of bytes. -/
theorem row_bytes {w : World} {a : Option Addr} {len cap : Nat} {zs : List Int}
    (h : (a = none ∧ len = 0 ∧ cap = 0 ∧ zs = []) ∨
      ∃ x, a = some x ∧ len ≤ cap ∧ cap ≤ maxLen ∧ zs.length = cap ∧ (∀ i, i < zs.length → w.cell? (x.add i) = some (.int .u8 (zs.getD i 0))) ∧ ∀ n ∈ zs, (Lit.int .u8 n).wf = true) :
    ∃ l, Bytes w a len cap l := by
  rcases h with ⟨rfl, rfl, rfl, rfl⟩ | ⟨x, rfl, h1, h2, h3, h4, h5⟩
  · exact ⟨[], nil_bytes w⟩
  · unfold maxLen at h2
    have hb : ∀ i (hi : i < zs.length), ((zs.map fun n => UInt8.ofNat n.toNat)[i]'(by simpa using hi)).toNat = zs[i] := by
      intro i hi
      have := h5 zs[i] (List.getElem_mem hi)
      have hbd : 0 ≤ zs[i] ∧ zs[i] < 256 := by
        simp [Lit.wf, IntKind.min, IntKind.max, IntKind.bits, IntKind.signed] at this
        omega
      simp
      omega
    refine ⟨(zs.map fun n => UInt8.ofNat n.toNat).take len, by simp; omega, h1, h2, (fun h => by cases h), ?_⟩
    by_cases h0 : len = 0
    · exact .inl h0
    · right
      obtain ⟨b, off, spot⟩ := x
      have hc := h4 0 (by omega)
      have hspot : spot = Option.none := by simpa [Addr.add] using World.cell?_spot hc
      subst hspot
      refine ⟨b, off, rfl, block_lt_of_cell hc, fun i hi => ?_⟩
      have hi' : i < zs.length := by simp at hi; omega
      have := h4 i hi'
      rw [addr_add] at this
      rw [this, List.getElem_take, hb i hi', List.getD_eq_getElem?_getD, List.getElem?_eq_getElem hi']
      rfl

/-! ### memory that the call itself made -/
def bv (b : UInt8) : Value := .int .u8 (b.toNat : Int)
/-- A value that is a slice of bytes of the call's own (block base or later), all of it: type E is uint8. -/
def Own (E : TypeId) (base : Nat) (w : World) (v : Value) (l : List UInt8) : Prop := w.ownsRow base E 1 v l.length (l.map bv)

theorem Own.bytes {E : TypeId} {base : Nat} {w : World} {v : Value} {l : List UInt8} (h : Own E base w v l) : ∃ a c, v = .slice a l.length c ∧ Bytes w a l.length c l := by
  rcases h.2 with ⟨rfl, h0⟩ | ⟨g, cap, cur, rfl, hg, hh, hn, hm, hs, ht⟩
  · have : l = [] := List.length_eq_zero_iff.1 h0
    subst this
    exact ⟨none, 0, rfl, nil_bytes w⟩
  · unfold maxLen at hm
    refine ⟨_, cap, rfl, rfl, hn, hm, (fun h => by cases h), .inr ⟨g, 0, rfl, ?_, fun i hi => ?_⟩⟩
    · by_cases hlt : g < w.heap.size
      · exact hlt
      · rw [Array.getElem?_eq_none (by omega)] at hh; cases hh
    · rw [cell_of_row _ _ _ _ _ _ hh, Nat.zero_add, ← Array.getElem?_toList]
      have : (cur.toList.take (l.length * 1))[i]? = (l.map bv)[i]? := by rw [ht]
      rw [List.getElem?_take, if_pos (by omega)] at this
      rw [this, List.getElem?_map, List.getElem?_eq_getElem hi]
      rfl

theorem Own.below {E : TypeId} {base : Nat} {w w' : World} {v : Value} {l : List UInt8} (h : Own E base w v l) {B : Nat} (hB : w.heap.size ≤ B) (hb : Below B w w') : Own E base w' v l := by
  refine h.kept (row := none) ⟨hb.os, hb.tape, hb.output, hb.size, fun k hk _ => hb.block k (by omega)⟩ ?_
  by_cases hv : v.ownBlock = none
  · exact .inl hv
  · exact .inr hv

/-- []byte{} -/
theorem Own.empty (E : TypeId) {base : Nat} (w : World) (hb : base ≤ w.heap.size) : Own E base (w.alloc (.cells #[] E)) (.slice (some ⟨w.heap.size, 0, none⟩) 0 0) [] :=
  World.ownsRow_lit w #[] 0 hb (by unfold maxLen; omega) rfl

theorem grown_below {base : Nat} {w0 w w' : World} {v : Value} {E : TypeId} {l : List UInt8} (hown : Own E base w v l) (h : Below base w0 w) (hg : w.grownBy w' v.ownBlock) (hb : base ≤ w.heap.size) : Below base w0 w' :=
  h.grown hg hb fun k hk => (World.ownsRow.lt hown k hk).1

/-- An operation that is wanted (its guard says yes, or it has none). -/
theorem wpList_of_wp {P : Program} {w : World} {ops : Array Oper} {rest : List Oper} {o : Oper} {a : Act} {Q : Exit → Act → World → Prop} (hw : Region.wanted o (yielded ops a.tmps) = true)
    (h : ∀ K : Act → World → Prop, (∀ a w, wpList P ops Q rest a w → K a w) → o.wp P a w K Q) : wpList P ops Q (o :: rest) a w :=
  wpList_step fun K hK => by rw [if_pos hw]; exact h K hK

/-- append(v, x...) of bytes. -/
theorem wp_append_bytes {P : Program} {w : World} {o : Oper} {a : Act} {K : Act → World → Prop} {Q : Exit → Act → World → Prop} (s x : Operand) (t : TypeId)
    (ho : o.op = .call { callee := .builtin .append, args := #[s, x], argTypes := #[t, t] }) (base : Nat) (E : TypeId) (ht : P.underlying t = some (.slice E))
    (hi : (P.info? E).map (fun i => (i.zero, i.size, i.bytes)) = some (some (.int .u8 0), 1, 1))
    (v : Value) (l : List UInt8) (hs : a.eval s = v) (hown : Own E base w v l) (ad : Option Addr) (m c : Nat) (l2 : List UInt8) (hx : a.eval x = .slice ad m c) (hb : Bytes w ad m c l2)
    (hlen : l.length + m ≤ 140737488355328) (hbase : base ≤ w.heap.size)
    (h : ∀ v' w', Own E base w' v' (l ++ l2) → w.grownBy w' v.ownBlock → K (a.put o.dst v') w') : o.wp P a w K Q := by
  obtain ⟨i, hi, hz0, hz1, hz2⟩ := info_parts hi
  cases ad with
  | none =>
    obtain ⟨rfl, rfl⟩ := hb.nil rfl
    have hl2 : l2 = [] := List.length_eq_zero_iff.1 hb.len_eq
    subst hl2
    have hrun := run_append_owned_none (P := P) (w := w) base t o.type E i 1 ht hi v l.length (l.map bv) hown
    unfold Oper.wp
    simp [execOp, ho, resolve, invoke, builtin, hs, hx, hrun, Result.andThen]
    exact h v w (by rw [List.append_nil]; exact hown) ⟨rfl, rfl, rfl, Nat.le_refl _, fun _ _ _ => rfl⟩
  | some ad =>
    refine wp_append_own w s x t ho base E i _ 1 1 ht hi hz0 hz1 hz2 rfl (by decide) v l.length (l.map bv) hs hown ad m c (l2.map bv) hx (by simp [hb.len_eq]) ?_ ?_ (by unfold maxLen; omega) (by omega) hbase ?_
    · intro j u hu
      have hj : j < l2.length := by have := (List.getElem?_eq_some_iff.1 hu).1; simpa using this
      rcases hb.at_ with h0 | ⟨b, off, hab, _, hc⟩
      · have := hb.len_eq; omega
      · simp only [Option.some.injEq] at hab
        subst hab
        rw [addr_add, hc j hj]
        rw [List.getElem?_map, List.getElem?_eq_getElem hj] at hu
        exact hu
    · intro u hu
      obtain ⟨b, _, rfl⟩ := List.mem_map.1 hu
      rfl
    · intro v' w' h1 h2 _
      refine h v' w' ?_ h2
      unfold Own
      rw [List.length_append, List.map_append, hb.len_eq]
      exact h1

theorem wpList_append_bytes {P : Program} {w : World} {ops : Array Oper} {rest : List Oper} {o : Oper} {a : Act} {Q : Exit → Act → World → Prop} (hw : Region.wanted o (yielded ops a.tmps) = true) (s x : Operand) (t : TypeId)
    (ho : o.op = .call { callee := .builtin .append, args := #[s, x], argTypes := #[t, t] }) (base : Nat) (E : TypeId) (ht : P.underlying t = some (.slice E))
    (hi : (P.info? E).map (fun i => (i.zero, i.size, i.bytes)) = some (some (.int .u8 0), 1, 1))
    (v : Value) (l : List UInt8) (hs : a.eval s = v) (hown : Own E base w v l) (ad : Option Addr) (m c : Nat) (l2 : List UInt8) (hx : a.eval x = .slice ad m c) (hb : Bytes w ad m c l2)
    (hlen : l.length + m ≤ 140737488355328) (hbase : base ≤ w.heap.size)
    (h : ∀ v' w', Own E base w' v' (l ++ l2) → w.grownBy w' v.ownBlock → wpList P ops Q rest (a.put o.dst v') w') : wpList P ops Q (o :: rest) a w :=
  wpList_of_wp hw fun _ hK => wp_append_bytes s x t ho base E ht hi v l hs hown ad m c l2 hx hb hlen hbase fun v' w' h1 h2 => hK _ _ (h v' w' h1 h2)

theorem made_bytes (k : Nat) : (madeCells (Value.cells (.int .u8 0)) (k * 1)).toList = (List.replicate k (0 : UInt8)).map bv := by
  rw [List.map_replicate, Nat.mul_one]
  exact toList_madeCells_one _ _

/-- make([]byte, k) -/
theorem wpList_make_bytes {P : Program} (w : World) {ops : Array Oper} {rest : List Oper} {o : Oper} {a : Act} {Q : Exit → Act → World → Prop}
    (hg : o.guard = none) (l c : Operand) (t : TypeId) (hop : o.op = Op.makeSlice t l c) (base : Nat) (E : TypeId) (ht : P.underlying t = some (.slice E))
    (hi : (P.info? E).map (fun i => (i.zero, i.size, i.bytes)) = some (some (.int .u8 0), 1, 1)) (kl kc : IntKind) (k : Nat) (hl : a.eval l = .int kl (k : Int)) (hc : a.eval c = .int kc (k : Int))
    (hk : k ≤ 281474976710656) (hb : base ≤ w.heap.size)
    (hK : ∀ w', Own E base w' (.slice (some ⟨w.heap.size, 0, none⟩) k k) (List.replicate k 0) → w.grownBy w' none → wpList P ops Q rest (a.put o.dst (.slice (some ⟨w.heap.size, 0, none⟩) k k)) w') : wpList P ops Q (o :: rest) a w := by
  obtain ⟨i, hi, hz0, hz1, hz2⟩ := info_parts hi
  refine wpList_make_full w hg l c t hop base E i _ 1 ht hi hz0 hz1 kl kc _ _ k hl hc rfl rfl (by rw [hz2]; omega) (by unfold maxLen; omega) hb fun w' h1 h2 => hK w' ?_ h2
  unfold Own
  rw [made_bytes] at h1
  rw [List.length_replicate]
  exact h1

/-- make([]byte, 0, k) -/
theorem wpList_make_cap {P : Program} (w : World) {ops : Array Oper} {rest : List Oper} {o : Oper} {a : Act} {Q : Exit → Act → World → Prop}
    (hg : o.guard = none) (l c : Operand) (t : TypeId) (hop : o.op = Op.makeSlice t l c) (base : Nat) (E : TypeId) (ht : P.underlying t = some (.slice E))
    (hi : (P.info? E).map (fun i => (i.zero, i.size, i.bytes)) = some (some (.int .u8 0), 1, 1)) (kl kc : IntKind) (C : Int) (k : Nat) (hl : a.eval l = .int kl 0) (hc : a.eval c = .int kc C) (hC : C = (k : Int))
    (hk : k ≤ 281474976710656) (hb : base ≤ w.heap.size)
    (hK : ∀ w', Own E base w' (.slice (some ⟨w.heap.size, 0, none⟩) 0 k) [] → w.grownBy w' none → wpList P ops Q rest (a.put o.dst (.slice (some ⟨w.heap.size, 0, none⟩) 0 k)) w') : wpList P ops Q (o :: rest) a w := by
  obtain ⟨i, hi, hz0, hz1, hz2⟩ := info_parts hi
  exact wpList_make_own w hg l c t hop base E i _ 1 ht hi hz0 hz1 kl kc C k hl hc hC (by rw [hz2]; omega) (by unfold maxLen; omega) hb fun w' h1 h2 => hK w' h1 h2

/-- []byte{c}: the block of a literal of one byte. -/
theorem one_bytes (E : TypeId) (w : World) (c : UInt8) : Bytes (w.alloc (.cells #[.int .u8 (c.toNat : Int)] E)) (some ⟨w.heap.size, 0, none⟩) 1 1 [c] := by
  refine ⟨rfl, by omega, by omega, (fun h => by cases h), .inr ⟨w.heap.size, 0, rfl, by simp, ?_⟩⟩
  intro i hi
  obtain rfl : i = 0 := by simp at hi; omega
  rw [cell_of_row _ _ _ _ _ _ (heap_alloc_new w _)]
  rfl
theorem grown_none_below {base : Nat} {w0 w w' : World} (h : Below base w0 w) (hg : w.grownBy w' none) (hb : base ≤ w.heap.size) : Below base w0 w' :=
  h.grown hg hb fun k hk => by cases hk

/-- A call that hands back bytes of its own. -/
def OwnRet (E : TypeId) (w : World) (l : List UInt8) (e : Ending) (w' : World) : Prop := ∃ v, e = .returned v ∧ Own E w.heap.size w' v l ∧ Below w.heap.size w w'

/-- string(b) -/
theorem run_string_bytes {P : Program} (w : World) (src dst E : TypeId) {a : Option Addr} {len cap : Nat} {l : List UInt8} (hs : P.underlying src = some (.slice E)) (he : P.underlying E = some (.int .u8)) (hd : P.underlying dst = some .string)
    (hb : Bytes w a len cap l) : (convert src dst (.slice a len cap)).run P w = .ok (.string ⟨l.toArray⟩) w := by
  obtain rfl := hb.len_eq
  cases a with
  | none =>
    obtain ⟨h0, rfl⟩ := hb.nil rfl
    obtain rfl : l = [] := List.length_eq_zero_iff.1 h0
    exact Go.Lib.run_convert_nil_bytes w src dst E 0 hs he hd
  | some a =>
    refine run_convert_bytes_back w src dst E a cap l hs he hd fun j hj => ?_
    rcases hb.at_ with h0 | ⟨b, off, hab, _, hc⟩
    · omega
    · simp only [Option.some.injEq] at hab
      subst hab
      rw [addr_add]; exact hc j hj

/-! ### numbers -/
/-- n & (2^j - 1) of any int. -/
theorem i64_and_mask (n : Int) (j : Nat) (hj : j ≤ 62) (m M : Int) (hm : m = (2 ^ j - 1 : Nat)) (hM : M = (2 ^ j : Nat)) : bits .and .i64 n m = n % M := by
  subst hm hM
  have h62 : 2 ^ j ≤ 2 ^ 62 := Nat.pow_le_pow_right (by decide) hj
  have hp : 0 < 2 ^ j := Nat.two_pow_pos j
  show IntKind.i64.wrap ((BitVec.ofInt 64 n &&& BitVec.ofInt 64 ((2 ^ j - 1 : Nat) : Int)).toNat : Int) = _
  rw [BitVec.toNat_and, ofInt_u64 _ (by omega), BitVec.toNat_ofInt, Nat.and_two_pow_sub_one_eq_mod]
  have e : (((n % ((2 ^ 64 : Nat) : Int)).toNat % 2 ^ j : Nat) : Int) = n % ((2 ^ j : Nat) : Int) := by
    rw [Int.natCast_emod, Int.toNat_of_nonneg (by omega)]
    exact Int.emod_emod_of_dvd n (by
      have : (2 ^ j : Nat) ∣ 2 ^ 64 := Nat.pow_dvd_pow 2 (by omega)
      exact_mod_cast this)
  rw [e]
  have h1 := Int.emod_nonneg n (show ((2 ^ j : Nat) : Int) ≠ 0 by omega)
  have h2 := Int.emod_lt_of_pos n (show (0 : Int) < ((2 ^ j : Nat) : Int) by omega)
  rw [IntKind.wrap_i64]
  omega
theorem wf_int {a : Int} (h : (Lit.int .i64 a).wf = true) : -9223372036854775808 ≤ a ∧ a ≤ 9223372036854775807 := by
  simp [Lit.wf, IntKind.min, IntKind.max, IntKind.bits, IntKind.signed] at h
  omega
/-! ### copies by append -/
theorem Own.nil (E : TypeId) (base : Nat) (w : World) : Own E base w (.slice none 0 0) [] := World.ownsRow_nil _ _ _ _
theorem Own.some_ {E : TypeId} {base : Nat} {w : World} {v : Value} {l : List UInt8} (h : Own E base w v l) (hl : 0 < l.length) : ∃ g c, v = .slice (some ⟨g, 0, none⟩) l.length c ∧ base ≤ g ∧ l.length ≤ c ∧ c ≤ 9223372036854775807 := by
  rcases h.2 with ⟨_, h0⟩ | ⟨g, cap, cur, rfl, hg, _, hn, hm, _⟩
  · omega
  · exact ⟨g, cap, rfl, hg, hn, hm⟩
/-- append([]byte{}, b...): what it is, that it is of the call's own, and that nothing ahead is touched. -/
theorem copied {E : TypeId} {w w1 : World} {v' : Value} {l : List UInt8} (hown : Own E w.heap.size w1 v' ([] ++ l)) (hg : (w.alloc (.cells #[] E)).grownBy w1 (Value.ownBlock (.slice (some ⟨w.heap.size, 0, none⟩) 0 0))) :
    ∃ a' c', v' = .slice a' l.length c' ∧ Bytes w1 a' l.length c' l ∧ Below w.heap.size w w1 := by
  rw [List.nil_append] at hown
  obtain ⟨a', c', rfl, hb⟩ := hown.bytes
  exact ⟨a', c', rfl, hb, grown_below (Own.empty E w (Nat.le_refl _)) ((Below.refl _ _).alloc (Nat.le_refl _) _) hg (by simp)⟩
end Go.My
end

section
/-
  Rows of bits, the lowest first: numbers as rows, bytes as rows, rows as bytes. Plain lists: no program, no dump.
-/
namespace BitMath

def lows : Nat → Nat → List Bool
  | 0, _ => []
  | n + 1, v => (v % 2 == 1) :: lows n (v / 2)
def num : List Bool → Nat
  | [] => 0
  | b :: t => b.toNat + 2 * num t
def bitsOf (l : List UInt8) : List Bool := l.flatMap fun b => lows 8 b.toNat

theorem lows_len (n v : Nat) : (lows n v).length = n := by
  induction n generalizing v with
  | zero => rfl
  | succ n ih => simp [lows, ih]
theorem num_lt (l : List Bool) : num l < 2 ^ l.length := by
  induction l with
  | nil => simp [num]
  | cons b t ih => rw [num, List.length_cons, Nat.pow_succ]; cases b <;> simp <;> omega
theorem bit_nat (v : Nat) : (v % 2 == 1).toNat = v % 2 := by
  rcases Nat.mod_two_eq_zero_or_one v with h | h <;> simp [h]
theorem num_lows (n v : Nat) : num (lows n v) = v % 2 ^ n := by
  induction n generalizing v with
  | zero => simp [lows, num, Nat.mod_one]
  | succ n ih =>
    rw [lows, num, ih, bit_nat, Nat.pow_succ, Nat.mul_comm (2 ^ n) 2, Nat.mod_mul]
theorem lows_num (l : List Bool) : lows l.length (num l) = l := by
  induction l with
  | nil => rfl
  | cons b t ih =>
    rw [List.length_cons, lows, num]
    have h1 : (b.toNat + 2 * num t) / 2 = num t := by cases b <;> simp <;> omega
    have h2 : ((b.toNat + 2 * num t) % 2 == 1) = b := by cases b <;> simp <;> omega
    rw [h1, h2, ih]
theorem lows_num_of (n : Nat) (l : List Bool) (h : l.length = n) : lows n (num l) = l := by subst h; exact lows_num l
theorem num_append (a b : List Bool) : num (a ++ b) = num a + 2 ^ a.length * num b := by
  induction a with
  | nil => simp [num]
  | cons x t ih =>
    rw [List.cons_append, num, num, ih, List.length_cons, Nat.pow_succ, Nat.mul_add, Nat.mul_comm (2 ^ t.length) 2, Nat.mul_assoc]
    omega
theorem lows_add (a b v : Nat) : lows (a + b) v = lows a v ++ lows b (v / 2 ^ a) := by
  induction a generalizing v with
  | zero => simp [lows]
  | succ a ih =>
    rw [show a + 1 + b = (a + b) + 1 from by omega, lows, lows, ih, List.cons_append, Nat.div_div_eq_div_mul, Nat.pow_succ, Nat.mul_comm (2 ^ a) 2]
theorem lows_mod (n v : Nat) : lows n (v % 2 ^ n) = lows n v := by
  rw [← num_lows, lows_num_of n _ (lows_len n v)]
theorem lows_eq_of_mod {n a b : Nat} (h : a % 2 ^ n = b % 2 ^ n) : lows n a = lows n b := by
  rw [← lows_mod n a, h, lows_mod]
theorem lows_zero (n : Nat) : lows n 0 = List.replicate n false := by
  induction n with
  | zero => rfl
  | succ n ih => rw [lows, List.replicate_succ]; simp [ih]
theorem num_zero (n : Nat) : num (List.replicate n false) = 0 := by
  rw [← lows_zero, num_lows]; simp
/-- bits put behind others. -/
theorem lows_join (c n r x : Nat) (h : r < 2 ^ c) : lows (c + n) (r + 2 ^ c * x) = lows c r ++ lows n x := by
  rw [lows_add]
  have hp : 0 < 2 ^ c := Nat.two_pow_pos c
  have h1 : (r + 2 ^ c * x) / 2 ^ c = x := by
    rw [Nat.add_mul_div_left _ _ hp, Nat.div_eq_of_lt h, Nat.zero_add]
  rw [h1, lows_eq_of_mod (a := r + 2 ^ c * x) (b := r) (by rw [Nat.add_mul_mod_self_left])]
theorem or_join (c r x : Nat) (h : r < 2 ^ c) : r ||| (x * 2 ^ c) = r + 2 ^ c * x := by
  rw [Nat.mul_comm x, Nat.add_comm, Nat.or_comm]
  exact (Nat.two_pow_add_eq_or_of_lt h x).symm
theorem lows_byte (c r : Nat) (h : 8 ≤ c) : lows c r = lows 8 (r % 256) ++ lows (c - 8) (r / 256) := by
  rw [show c = 8 + (c - 8) from by omega, lows_add, show 8 + (c - 8) - 8 = c - 8 from by omega]
  rw [show (256 : Nat) = 2 ^ 8 from rfl, lows_mod]
theorem lows_snoc (n v : Nat) : lows (n + 1) v = lows n v ++ [v / 2 ^ n % 2 == 1] := by
  rw [lows_add]; rfl

theorem bitsOf_append (a b : List UInt8) : bitsOf (a ++ b) = bitsOf a ++ bitsOf b := by simp [bitsOf]
theorem bitsOf_cons (b : UInt8) (t : List UInt8) : bitsOf (b :: t) = lows 8 b.toNat ++ bitsOf t := rfl
theorem bitsOf_one (b : UInt8) : bitsOf [b] = lows 8 b.toNat := by simp [bitsOf]
theorem bitsOf_len (l : List UInt8) : (bitsOf l).length = 8 * l.length := by
  induction l with
  | nil => rfl
  | cons b t ih => rw [bitsOf_cons, List.length_append, ih, lows_len, List.length_cons]; omega
theorem bitsOf_drop (l : List UInt8) (j : Nat) : (bitsOf l).drop (8 * j) = bitsOf (l.drop j) := by
  induction j generalizing l with
  | zero => simp
  | succ j ih =>
    cases l with
    | nil => simp [bitsOf]
    | cons b t =>
      rw [bitsOf_cons, List.drop_succ_cons, ← ih t, show 8 * (j + 1) = (lows 8 b.toNat).length + 8 * j from by rw [lows_len]; omega, List.drop_append]
      simp
theorem bitsOf_get (l : List UInt8) (i : Nat) (h : i < 8 * l.length) : (bitsOf l)[i]? = some ((l[i / 8]'(by omega)).toNat / 2 ^ (i % 8) % 2 == 1) := by
  have h8 : i / 8 < l.length := by omega
  have e : (bitsOf l)[i]? = ((bitsOf l).drop (8 * (i / 8)))[i % 8]? := by
    rw [List.getElem?_drop]; congr 1; omega
  rw [e, bitsOf_drop, List.drop_eq_getElem_cons h8, bitsOf_cons]
  have hm : i % 8 < 8 := Nat.mod_lt _ (by omega)
  rw [List.getElem?_append_left (by rw [lows_len]; exact hm)]
  generalize i % 8 = m at *
  generalize l[i / 8] = c
  have hs : lows 8 c.toNat = lows m c.toNat ++ (c.toNat / 2 ^ m % 2 == 1) :: lows (7 - m) (c.toNat / 2 ^ m / 2) := by
    rw [show 8 = m + (7 - m + 1) from by omega, lows_add, lows]
  rw [hs, List.getElem?_append_right (by rw [lows_len]; omega), lows_len]
  simp

/-- Rows as bytes, the last one filled up. -/
def pack (bs : List Bool) : List UInt8 := (List.range ((bs.length + 7) / 8)).map fun j => UInt8.ofNat (num ((bs.drop (8 * j)).take 8))
theorem pack_len (bs : List Bool) : (pack bs).length = (bs.length + 7) / 8 := by simp [pack]
theorem num_small (l : List Bool) (h : l.length ≤ 8) : num l < 256 :=
  Nat.lt_of_lt_of_le (num_lt l) (by rw [show (256 : Nat) = 2 ^ 8 from rfl]; exact Nat.pow_le_pow_right (by omega) h)
theorem ofNat_num (l : List Bool) (h : l.length ≤ 8) : (UInt8.ofNat (num l)).toNat = num l := by
  rw [UInt8.toNat_ofNat']; exact Nat.mod_eq_of_lt (num_small l h)
theorem pack_get (bs : List Bool) (j : Nat) (h : j < (bs.length + 7) / 8) : (pack bs)[j]'(by rw [pack_len]; exact h) = UInt8.ofNat (num ((bs.drop (8 * j)).take 8)) := by simp [pack]
theorem take_lows (b : UInt8) (t : List Bool) : num ((lows 8 b.toNat ++ t).take 8) = b.toNat := by
  rw [List.take_append_of_le_length (by rw [lows_len]; omega), List.take_of_length_le (by rw [lows_len]; omega), num_lows]
  have := b.toNat_lt
  omega
/-- Bytes and fewer than eight bits behind them. -/
theorem pack_bytes (l : List UInt8) (t : List Bool) (ht : t.length < 8) : pack (bitsOf l ++ t) = l ++ (if t.length = 0 then [] else [UInt8.ofNat (num t)]) := by
  have hlen : (bitsOf l ++ t).length = 8 * l.length + t.length := by rw [List.length_append, bitsOf_len]
  apply List.ext_getElem
  · rw [pack_len, hlen]; split <;> simp <;> omega
  · intro j h1 h2
    rw [pack_len, hlen] at h1
    rw [pack_get _ _ (by rw [hlen]; exact h1)]
    by_cases hj : j < l.length
    · rw [List.getElem_append_left hj]
      rw [List.drop_append_of_le_length (by rw [bitsOf_len]; omega), bitsOf_drop, List.drop_eq_getElem_cons hj, bitsOf_cons, List.append_assoc, take_lows]
      simp
    · have hje : j = l.length := by omega
      subst hje
      have h0 : t.length ≠ 0 := by omega
      rw [List.getElem_append_right (by omega)]
      simp only [if_neg h0, Nat.sub_self, List.getElem_cons_zero]
      rw [show 8 * l.length = (bitsOf l).length + 0 from by rw [bitsOf_len]; rfl, List.drop_append, List.take_of_length_le (by simp; omega)]
      simp
theorem pack_bitsOf (l : List UInt8) : pack (bitsOf l) = l := by
  have := pack_bytes l [] (by simp)
  simpa using this

/-- Filled up to a byte's end. -/
def pad (bs : List Bool) : List Bool := bs ++ List.replicate ((8 - bs.length % 8) % 8) false
theorem pad_len (bs : List Bool) : (pad bs).length = (bs.length + 7) / 8 * 8 := by
  unfold pad; simp; omega
theorem pad_full (bs : List Bool) (h : bs.length % 8 = 0) : pad bs = bs := by unfold pad; rw [h]; simp
theorem pad_bytes (l : List UInt8) (t : List Bool) (ht : t.length < 8) : pad (bitsOf l ++ t) = bitsOf (pack (bitsOf l ++ t)) := by
  rw [pack_bytes l t ht, bitsOf_append]
  unfold pad
  rw [List.append_assoc, List.length_append, bitsOf_len]
  congr 1
  split
  · have : t = [] := List.length_eq_zero_iff.1 (by assumption)
    subst this
    simp [bitsOf]
  · rw [bitsOf_one, ofNat_num t (by omega), show (8 * l.length + t.length) % 8 = t.length from by omega, Nat.mod_eq_of_lt (by omega)]
    conv => rhs; rw [show 8 = t.length + (8 - t.length) from by omega]
    rw [lows_add, lows_num, Nat.div_eq_of_lt (num_lt t), lows_zero]
/-- Every row is bytes and fewer than eight bits behind them. -/
theorem split_bytes (bs : List Bool) : ∃ (l : List UInt8) (t : List Bool), bs = bitsOf l ++ t ∧ t.length < 8 := by
  generalize hn : bs.length = n
  induction n using Nat.strongRecOn generalizing bs with
  | ind n ih =>
    by_cases h : bs.length < 8
    · exact ⟨[], bs, rfl, h⟩
    · obtain ⟨l, t, he, ht⟩ := ih (bs.drop 8).length (by simp; omega) (bs.drop 8) rfl
      refine ⟨UInt8.ofNat (num (bs.take 8)) :: l, t, ?_, ht⟩
      rw [bitsOf_cons, ofNat_num _ (by simp; omega), lows_num_of 8 _ (by simp; omega), List.append_assoc, ← he, List.take_append_drop]
theorem bitsOf_pack (bs : List Bool) : bitsOf (pack bs) = pad bs := by
  obtain ⟨l, t, rfl, ht⟩ := split_bytes bs
  exact (pad_bytes l t ht).symm

/-- The bits as a text. -/
def chB (b : Bool) : UInt8 := if b then 49 else 48
def txt (bs : List Bool) : ByteArray := ⟨(bs.map chB).toArray⟩
theorem txt_len (bs : List Bool) : (txt bs).size = bs.length := by
  show (bs.map chB).toArray.size = _
  simp
theorem txt_append (a b : List Bool) : txt a ++ txt b = txt (a ++ b) := by
  unfold txt
  apply ByteArray.ext
  simp [ByteArray.data_append]
theorem chB_inj (a b : Bool) (h : chB a = chB b) : a = b := by
  cases a <;> cases b <;> first | rfl | (revert h; decide)
theorem txt_get (bs : List Bool) (i : Nat) (h : i < (txt bs).size) : (txt bs)[i] = chB (bs[i]'(by rwa [txt_len] at h)) := by
  have e : (bs.map chB).toArray[i]'(by simpa [txt_len] using h) = chB (bs[i]'(by rwa [txt_len] at h)) := by simp
  exact e
theorem chB_nat (b : Bool) : (chB b).toNat = 48 + b.toNat := by cases b <;> rfl

/-- The number of a row turned round grows at its low end. -/
theorem num_turn (n v : Nat) : num (lows (n + 1) v).reverse = (v / 2 ^ n % 2) + 2 * num (lows n v).reverse := by
  rw [lows_snoc, List.reverse_append]
  simp [num, bit_nat]
theorem lows_turn (n v : Nat) : lows n (num (lows n v).reverse) = (lows n v).reverse := lows_num_of n _ (by simp [lows_len])
end BitMath
end

section
/-
  What bytes a call makes of its own (namespace RefC), without functions of the document's answer: for seats where stevedoreref5's Of, Bytes, Number are not all called.
-/
namespace Go.Proofs.YtbjjkhlebdaoaaaGreatDoor.RefC
open Go.RowKit Go.My BitMath

theorem info5 : (Tryz.prog.info? 5).map (fun i => (i.zero, i.size, i.bytes)) = some (some (.int .u8 0), 1, 1) := by kernel_rfl

theorem ret_str {a b : ByteArray} (h : a = b) : Ending.returned (.string a) = .returned (.string b) := by rw [h]
/-! ### bytes written into a row of the call's own -/
theorem own_store {E : TypeId} {base : Nat} {w : World} {g n c : Nat} {l : List UInt8} (h : Own E base w (.slice (some ⟨g, 0, none⟩) n c) l) (hn : l.length = n) (i : Nat) (b : UInt8) :
    Own E base (w.setCell ⟨g, i, none⟩ (bv b)) (.slice (some ⟨g, 0, none⟩) n c) (l.set i b) := by
  subst hn
  have := (World.ownsRow.stored h i (bv b)).1
  unfold Own
  rw [List.length_set, List.map_set]
  exact this
theorem own_cell {E : TypeId} {base : Nat} {w : World} {g n c : Nat} {l : List UInt8} (h : Own E base w (.slice (some ⟨g, 0, none⟩) n c) l) (hn : l.length = n) (i : Nat) (hi : i < l.length) : w.cell? ⟨g, i, none⟩ = some (bv l[i]) := by
  subst hn
  have hl := h
  unfold Own at hl
  have hcell := World.ownsRow.cellAt hl i (by simpa using hi)
  rw [hcell, List.getElem?_map, List.getElem?_eq_getElem hi]
  rfl
theorem own_free {E : TypeId} {base : Nat} {w : World} {g n c : Nat} {l : List UInt8} (h : Own E base w (.slice (some ⟨g, 0, none⟩) n c) l) (hn : l.length = n) (i : Nat) : w.frozen? ⟨g, i, none⟩ = false := by
  subst hn
  exact World.ownsRow.frozenAt h i
end Go.Proofs.YtbjjkhlebdaoaaaGreatDoor.RefC
end

section
/-
  The document's own answer for bits (stevedoreref5): Number alone (R5's).
-/
namespace Go.Proofs.YtbjjkhlebdaoaaaGreatDoor.RefC
open Go.RowKit Go.My BitMath

theorem num_drop (L : List Bool) (p : Nat) (h : p < L.length) : num (L.drop p) = (L[p]).toNat + 2 * num (L.drop (p + 1)) := by
  rw [List.drop_eq_getElem_cons h]; rfl
theorem u32_shl (x b : Nat) (hx : x < 2147483648) (hb : b ≤ 1) : bits .or .u32 ((x : Int) * 2) ((((48 + b : Nat) : Int) - 48) % 256) = ((b + 2 * x : Nat) : Int) := by
  have hb2 : b < 2 ^ 1 := by omega
  rw [show (x : Int) * 2 = ((x * 2 : Nat) : Int) from by omega, show (((48 + b : Nat) : Int) - 48) % 256 = (b : Int) from by omega, u32_or_nat _ _ (by omega) (by omega), Nat.or_comm, show x * 2 = x * 2 ^ 1 from rfl, or_join 1 b x hb2]

set_option maxHeartbeats 2000000 in
theorem refnumber_any (L : List Bool) (w : World) (hl : L.length ≤ 32) :
    Calls Tryz.prog 54 #[.string (txt L)] w fun e w' => e = .returned (.int .u32 ((num L : Nat) : Int)) ∧ w = w' := by
  have htl := txt_len L
  obtain ⟨s, hs⟩ : ∃ s, s = txt L := ⟨_, rfl⟩
  have hg : ∀ k (h : k < L.length) (h2 : k < s.size), s[k] = chB L[k] := by
    subst hs; intro k h h2; exact txt_get L k h2
  rw [← hs] at htl ⊢
  have HG := Lib.hid hg
  have HTL := Lib.hid htl
  have hsz : s.size ≤ 32 := by omega
  clear hg hs htl
  go_enter Tryz.func54, Tryz.ntmps54
  go_wp2_with fail
  go_loop [3, 4] (fun x i => ∃ (p : Nat), p ≤ s.size ∧ i = .int .i64 ((p : Int) - 1) ∧ x = .int .u32 ((num (L.drop p) : Nat) : Int)) (fun _ i => (intOf i + 1).toNat)
  case atStart => exact ⟨s.size, Nat.le_refl _, rfl, by rw [List.drop_of_length_le (by rw [HTL.out]; omega)]; rfl⟩
  case round =>
    obtain ⟨p, hp, rfl, rfl⟩ := hrel
    by_cases hlt : 0 < p
    · obtain ⟨q, rfl⟩ : ∃ q, p = q + 1 := ⟨p - 1, by omega⟩
      have hqL : q < L.length := by have := HTL.out; omega
      have hqs : q < s.size := by omega
      have hs1 := HG.out q hqL hqs
      have HD := Lib.hid (num_drop L q hqL)
      obtain ⟨b, hb⟩ : ∃ b, b = L[q] := ⟨_, rfl⟩
      rw [← hb] at hs1 HD
      have hb1 : b.toNat ≤ 1 := Bool.toNat_le b
      have hcb := chB_nat b
      have hx : num (L.drop (q + 1)) < 2147483648 := Nat.lt_of_lt_of_le (num_lt _) (by rw [show 2147483648 = 2 ^ 31 from rfl]; exact Nat.pow_le_pow_right (by omega) (by simp; omega))
      have hor := u32_shl _ b.toNat hx hb1
      rw [← hcb] at hor
      have HOR := Lib.hid hor
      generalize num (L.drop (q + 1)) = x at *
      clear hb hb1 hcb hor
      have hcv : ((chB b).toNat : Int) < 256 := by have := (chB b).toNat_lt; omega
      go_wp2_with fail
      go_round
      case rel => exact ⟨q, by omega, rfl, by rw [HOR.out, HD.out]⟩
      case measure => simp [intOf]
    · obtain rfl : p = 0 := by omega
      go_wp2_with fail
      go_ret
      exact ⟨rfl, rfl⟩
end Go.Proofs.YtbjjkhlebdaoaaaGreatDoor.RefC
end

section
/-
  Memory behind a pointer: a struct's block known whole, a slice of bytes that it owns, and what a call may turn of them. No program, no dump.
-/
namespace Go.My
open Go.RowKit

/-- Block g is just the cells cs of type t, none frozen. -/
def Blk (w : World) (g : Nat) (t : TypeId) (cs : Array Value) : Prop := w.heap[g]? = some (.cells cs t (0, 0))

/-- The block stands as it did: so does what is known of it. -/
theorem Blk.same {w w' : World} {g : Nat} {t : TypeId} {cs : Array Value} (h : Blk w g t cs) (e : w'.heap[g]? = w.heap[g]?) : Blk w' g t cs := e.trans h
section
variable {w w' : World} {g : Nat} {t : TypeId} {cs : Array Value}
theorem Blk.lt (h : Blk w g t cs) : g < w.heap.size := (Array.getElem?_eq_some_iff.1 (show w.heap[g]? = some _ from h)).1
theorem Blk.cell (h : Blk w g t cs) (i : Nat) : w.cell? ⟨g, i, none⟩ = cs[i]? := by rw [World.cell?]; simp only [show w.heap[g]? = _ from h]; rfl
theorem Blk.frozen (h : Blk w g t cs) (i : Nat) : w.frozen? ⟨g, i, none⟩ = false := by rw [World.frozen?]; simp [show w.heap[g]? = _ from h]
theorem Blk.new (w : World) (t : TypeId) (cs : Array Value) : Blk (w.alloc (.cells cs t)) w.heap.size t cs := heap_alloc_new w _
theorem Blk.drew (h : Blk w g t cs) : Blk w.drew g t cs := h
theorem Blk.alloc (h : Blk w g t cs) (o : Obj) : Blk (w.alloc o) g t cs := h.same (Below.heap_alloc w o g h.lt)
theorem Blk.set_ (h : Blk w g t cs) (i : Nat) (u : Value) : Blk (w.setCell ⟨g, i, none⟩ u) g t (cs.setIfInBounds i u) := by
  show (w.setCell ⟨g, i, none⟩ u).heap[g]? = _
  rw [World.setCell, Array.getElem?_modify, if_pos rfl, show w.heap[g]? = _ from h]
  rfl
theorem Blk.grown {row : Option Nat} (h : Blk w g t cs) (hb : w.grownBy w' row) (hg : some g ≠ row) : Blk w' g t cs := h.same (hb.block g h.lt hg)
end

/-- From w to w' only blocks of S have turned, and new ones have come. -/
structure Only (S : Nat → Prop) (w w' : World) : Prop where
  os : w'.os = w.os
  tape : w'.tape = w.tape
  output : w'.output = w.output
  size : w.heap.size ≤ w'.heap.size
  block : ∀ k, k < w.heap.size → ¬ S k → w'.heap[k]? = w.heap[k]?

section
variable {S T : Nat → Prop} {w w' a b c : World}
theorem Only.refl (S : Nat → Prop) (w : World) : Only S w w := ⟨rfl, rfl, rfl, Nat.le_refl _, fun _ _ _ => rfl⟩
theorem Only.trans (h : Only S a b) (k : Only T b c) (hT : ∀ i, i < a.heap.size → T i → S i) : Only S a c :=
  ⟨k.os.trans h.os, k.tape.trans h.tape, k.output.trans h.output, Nat.le_trans h.size k.size, fun i hi hs => (k.block i (Nat.lt_of_lt_of_le hi h.size) (fun ht => hs (hT i hi ht))).trans (h.block i hi hs)⟩
theorem Only.drew (h : Only S a b) : Only S a b.drew := ⟨h.os, h.tape, h.output, h.size, h.block⟩
theorem Only.drewN (h : Only S a b) (n : Nat) : Only S a (b.drewN n) := ⟨h.os, h.tape, h.output, h.size, h.block⟩
theorem Only.alloc (h : Only S a b) (o : Obj) : Only S a (b.alloc o) :=
  h.trans (T := fun _ => False) ⟨rfl, rfl, rfl, by simp, fun k hk _ => Below.heap_alloc _ _ _ hk⟩ (fun _ _ h => h.elim)
theorem Only.setCell (h : Only S a b) {p : Addr} (hp : p.block < a.heap.size → S p.block) (u : Value) : Only S a (b.setCell p u) :=
  h.trans (T := fun k => k = p.block) ⟨rfl, rfl, rfl, by simp [World.setCell], fun k _ hs => Below.heap_setCell _ _ _ _ hs⟩ (fun i hi he => by subst he; exact hp hi)
theorem Only.grown {row : Option Nat} (h : Only S a b) (hg : b.grownBy c row) (hr : ∀ k, k < a.heap.size → row = some k → S k) : Only S a c :=
  h.trans (T := fun k => row = some k) ⟨hg.os, hg.tape, hg.output, hg.size, fun k hk hs => hg.block k hk (fun e => hs e.symm)⟩ (fun i hi he => hr i hi he)
theorem Only.of_below (h : Below w.heap.size w w') (S : Nat → Prop) : Only S w w' := ⟨h.os, h.tape, h.output, h.size, fun k hk _ => h.block k hk⟩
theorem Only.then_below (h : Only S a b) (k : Below b.heap.size b c) : Only S a c := h.trans (Only.of_below k S) (fun _ _ h => h)
theorem Only.below (h : Only S w w') {B : Nat} (hB : B ≤ w.heap.size) (hS : ∀ k, S k → B ≤ k) : Below B w w' :=
  ⟨h.os, h.tape, h.output, h.size, fun k hk => h.block k (by omega) (fun hs => by have := hS k hs; omega)⟩
theorem Only.mono (h : Only S w w') (hT : ∀ k, k < w.heap.size → S k → T k) : Only T w w' := ⟨h.os, h.tape, h.output, h.size, fun k hk ht => h.block k hk (fun hs => ht (hT k hk hs))⟩
theorem Only.blk {g : Nat} {t : TypeId} {cs : Array Value} (h : Only S w w') (hb : Blk w g t cs) (hg : ¬ S g) : Blk w' g t cs := (h.block g hb.lt hg).trans hb
theorem Only.cell (h : Only S w w') {p : Addr} (hp : p.block < w.heap.size) (hs : ¬ S p.block) : w'.cell? p = w.cell? p := World.cell?_of_block (w := w) (h.block p.block hp hs)
theorem Only.frozen (h : Only S w w') {p : Addr} (hp : p.block < w.heap.size) (hs : ¬ S p.block) : w'.frozen? p = w.frozen? p := World.frozen?_of_block (w := w) (h.block p.block hp hs)
theorem Only.own {E : TypeId} {base : Nat} {v : Value} {l : List UInt8} (h : Only S w w') (ho : Own E base w v l) (hv : ∀ k, v.ownBlock = some k → ¬ S k) : Own E base w' v l := by
  refine ⟨ho.1, ?_⟩
  rcases ho.2 with hn | ⟨g, cap, cur, rfl, hb, hgg, rest⟩
  · exact .inl hn
  · refine .inr ⟨g, cap, cur, rfl, hb, ?_, rest⟩
    rw [h.block g (Array.getElem?_eq_some_iff.1 hgg).1 (hv g rfl)]
    exact hgg
theorem Only.bytes {ad : Option Addr} {len cap : Nat} {l : List UInt8} (h : Only S w w') (hb : Bytes w ad len cap l) (hS : ∀ b off, ad = some ⟨b, off, none⟩ → ¬ S b) : Bytes w' ad len cap l := by
  refine ⟨hb.1, hb.2, hb.3, hb.4, hb.5.imp_right ?_⟩
  rintro ⟨b, off, ha, hs, hc⟩
  exact ⟨b, off, ha, Nat.lt_of_lt_of_le hs h.size, fun i hi => by rw [h.cell (p := ⟨b, off + i, none⟩) hs (hS b off ha)]; exact hc i hi⟩
end

/-- The blocks of a struct that owns a row: its own, and the row's. -/
def Fp (g : Nat) (r : Option Nat) : Nat → Prop := fun k => k = g ∨ r = some k
/-- The row is the one that it was, or a new one. -/
def Nxt (r : Option Nat) (H : Nat) (r' : Option Nat) : Prop := r' = r ∨ ∃ k, r' = some k ∧ H ≤ k
theorem Nxt.refl (r : Option Nat) (H : Nat) : Nxt r H r := .inl rfl
theorem Nxt.trans {r r1 r2 : Option Nat} {H H1 : Nat} (h : Nxt r H r1) (k : Nxt r1 H1 r2) (hH : H ≤ H1) : Nxt r H r2 := by
  rcases k with rfl | ⟨j, rfl, hj⟩
  · exact h
  · exact .inr ⟨j, rfl, by omega⟩
theorem Only.next {g : Nat} {r r1 : Option Nat} {a b c : World} (h : Only (Fp g r) a b) (hn : Nxt r a.heap.size r1) (k : Only (Fp g r1) b c) : Only (Fp g r) a c :=
  h.trans k fun i hi hT => by
    rcases hT with rfl | hT
    · exact .inl rfl
    · rcases hn with rfl | ⟨j, rfl, hj⟩
      · exact .inr hT
      · injection hT with hT
        omega

theorem own_len_ne {E : TypeId} {base : Nat} {w : World} {v : Value} {l : List UInt8} {g : Nat} {t : TypeId} {cs : Array Value} (ho : Own E base w v l) (hb : Blk w g t cs) (ht : t ≠ E) : v.ownBlock ≠ some g := by
  rcases ho.2 with ⟨rfl, _⟩ | ⟨g', cap, cur, rfl, _, hgg, _⟩
  · simp [Value.ownBlock]
  · intro h
    simp only [Value.ownBlock, Option.some.injEq] at h
    subst h
    unfold Blk at hb
    rw [hgg] at hb
    injection hb with hb
    injection hb with _ hb
    exact ht hb.symm

/-- append(v, x...) of bytes at a step of a region that draws its order; where the new row lies. -/
theorem wp_append_lie {P : Program} {w : World} {o : Oper} {a : Act} {K : Act → World → Prop} {Q : Exit → Act → World → Prop} (s x : Operand) (t : TypeId)
    (ho : o.op = .call { callee := .builtin .append, args := #[s, x], argTypes := #[t, t] }) (base : Nat) (E : TypeId) (ht : P.underlying t = some (.slice E))
    (hi : (P.info? E).map (fun i => (i.zero, i.size, i.bytes)) = some (some (.int .u8 0), 1, 1))
    (v : Value) (l : List UInt8) (hs : a.eval s = v) (hown : Own E base w v l) (ad : Option Addr) (m c : Nat) (l2 : List UInt8) (hx : a.eval x = .slice ad m c) (hb : Bytes w ad m c l2)
    (hlen : l.length + m ≤ 140737488355328) (hbase : base ≤ w.heap.size)
    (h : ∀ v' w', Own E base w' v' (l ++ l2) → w.grownBy w' v.ownBlock → Nxt v.ownBlock w.heap.size v'.ownBlock → K (a.put o.dst v') w') : o.wp P a w K Q := by
  obtain ⟨i, hi, hz0, hz1, hz2⟩ := info_parts hi
  by_cases h0 : m = 0
  · subst h0
    have hl2 : l2 = [] := List.length_eq_zero_iff.1 hb.len_eq
    subst hl2
    obtain ⟨v', w', hr, h2, h3, _, h5⟩ : ∃ v' w', (Builtin.append_ #[t, t] o.type #[v, .slice ad 0 c]).run P w = .ok v' w' ∧ Own E base w' v' l ∧ w.grownBy w' v.ownBlock ∧ True ∧ (v'.ownBlock = v.ownBlock ∨ v'.ownBlock = some w.heap.size) := by
      cases ad with
      | none =>
        obtain ⟨_, rfl⟩ := hb.nil rfl
        have hrun := run_append_owned_none (P := P) (w := w) base t o.type E i 1 ht hi v l.length (l.map bv) hown
        exact ⟨v, w, hrun, hown, ⟨rfl, rfl, rfl, Nat.le_refl _, fun _ _ _ => rfl⟩, trivial, .inl rfl⟩
      | some ad =>
        obtain ⟨v', w', hr, h2, h3, _, h5⟩ := run_append_own_at (P := P) w base t o.type E i _ 1 1 ht hi hz0 hz1 hz2 rfl (by decide) v l.length (l.map bv) hown ad 0 c [] rfl (fun j u hu => by simp at hu) (fun u hu => by simp at hu) (by unfold maxLen; omega) (by omega) hbase
        refine ⟨v', w', hr, ?_, h3, trivial, h5⟩
        unfold Own
        rw [List.append_nil] at h2
        exact h2
    unfold Oper.wp execOp
    simp only [ho, resolve, invoke, builtin, Sem.run_bind, Sem.run_pure, Result.andThen_ok, List.map_toArray, List.map_cons, List.map_nil, hs, hx, hr]
    refine h v' w' (by rw [List.append_nil]; exact h2) h3 ?_
    rcases h5 with h5 | h5
    · exact .inl h5
    · exact .inr ⟨_, h5, Nat.le_refl _⟩
  · rcases hb.at_ with h1 | ⟨b, off, hab, hbs, hc⟩
    · omega
    subst hab
    refine wp_append_lies w s x t ho base E i _ 1 1 ht hi hz0 hz1 hz2 rfl (by decide) v l.length (l.map bv) hs hown ⟨b, off, none⟩ m c (l2.map bv) hx (by simp [hb.len_eq]) ?_ ?_ (by omega) (by unfold maxLen; omega) (by omega) hbase _ rfl ?_
    · intro j u hu
      have hj : j < l2.length := by have := (List.getElem?_eq_some_iff.1 hu).1; simpa using this
      rw [addr_add, hc j hj]
      rw [List.getElem?_map, List.getElem?_eq_getElem hj] at hu
      exact hu
    · intro u hu
      obtain ⟨b, _, rfl⟩ := List.mem_map.1 hu
      rfl
    · intro g cap w' h1 h2 h3 _
      refine h _ w' ?_ h2 ?_
      · unfold Own
        rw [List.length_append, List.map_append, hb.len_eq]
        exact h1
      · rcases h3 with h3 | rfl
        · exact .inl h3.symm
        · exact .inr ⟨_, rfl, Nat.le_refl _⟩
theorem step_append_lie {P : Program} {w : World} {ops : Array Oper} {o : Oper} {a : Act} {K : Act → World → Prop} {Q : Exit → Act → World → Prop} {F : Prop} (hgd : o.guard = none) (s x : Operand) (t : TypeId)
    (ho : o.op = .call { callee := .builtin .append, args := #[s, x], argTypes := #[t, t] }) (base : Nat) (E : TypeId) (ht : P.underlying t = some (.slice E))
    (hi : (P.info? E).map (fun i => (i.zero, i.size, i.bytes)) = some (some (.int .u8 0), 1, 1))
    (v : Value) (l : List UInt8) (hs : a.eval s = v) (hown : Own E base w v l) (ad : Option Addr) (m c : Nat) (l2 : List UInt8) (hx : a.eval x = .slice ad m c) (hb : Bytes w ad m c l2)
    (hlen : l.length + m ≤ 140737488355328) (hbase : base ≤ w.heap.size)
    (h : ∀ a' c' w', Own E base w' (.slice a' (l.length + m) c') (l ++ l2) → w.grownBy w' v.ownBlock → Nxt v.ownBlock w.heap.size (Value.ownBlock (.slice a' (l.length + m) c')) → K (a.put o.dst (.slice a' (l.length + m) c')) w') :
    if Region.wanted o (yielded ops a.tmps) = true then Oper.wp P o a w K Q else F := by
  have hw : Region.wanted o (yielded ops a.tmps) = true := by simp [Region.wanted, hgd]
  rw [if_pos hw]
  exact wp_append_lie s x t ho base E ht hi v l hs hown ad m c l2 hx hb hlen hbase fun v' w' h1 h2 h3 => by
    obtain ⟨a', c', rfl, _⟩ := h1.bytes
    rw [List.length_append, hb.len_eq] at *
    exact h a' c' w' h1 h2 h3
theorem wpList_append_lie {P : Program} {w : World} {ops : Array Oper} {rest : List Oper} {o : Oper} {a : Act} {Q : Exit → Act → World → Prop} (hw : Region.wanted o (yielded ops a.tmps) = true) (s x : Operand) (t : TypeId)
    (ho : o.op = .call { callee := .builtin .append, args := #[s, x], argTypes := #[t, t] }) (base : Nat) (E : TypeId) (ht : P.underlying t = some (.slice E))
    (hi : (P.info? E).map (fun i => (i.zero, i.size, i.bytes)) = some (some (.int .u8 0), 1, 1))
    (v : Value) (l : List UInt8) (hs : a.eval s = v) (hown : Own E base w v l) (ad : Option Addr) (m c : Nat) (l2 : List UInt8) (hx : a.eval x = .slice ad m c) (hb : Bytes w ad m c l2)
    (hlen : l.length + m ≤ 140737488355328) (hbase : base ≤ w.heap.size)
    (h : ∀ a' c' w', Own E base w' (.slice a' (l.length + m) c') (l ++ l2) → w.grownBy w' v.ownBlock → Nxt v.ownBlock w.heap.size (Value.ownBlock (.slice a' (l.length + m) c')) → wpList P ops Q rest (a.put o.dst (.slice a' (l.length + m) c')) w') : wpList P ops Q (o :: rest) a w :=
  wpList_of_wp hw fun _ hK => wp_append_lie s x t ho base E ht hi v l hs hown ad m c l2 hx hb hlen hbase fun v' w' h1 h2 h3 => by
    obtain ⟨a', c', rfl, _⟩ := h1.bytes
    rw [List.length_append, hb.len_eq] at *
    exact hK _ _ (h a' c' w' h1 h2 h3)
end Go.My
end

section
/-
  A region that draws its order, taken operation by operation in the text's own order: what yields its value in every later world is taken first; what makes memory stands alone. No dump.
-/
namespace Go.My
open Go.RowKit
section
variable {P : Program} {ops : Array Oper} {Q : Exit → Act → World → Prop} {md : Region.Mode} {S : World → Prop}

/-- One operation that yields its value in every world that meets S. -/
theorem ord_take {i : Nat} {o : Oper} {d : Option Tmp} (v : Value) {fuel : Nat} {listed : Array Bool} {a : Act} {w : World} (hi : ops[i]? = some o) (hd : o.dst = d)
    (hs : Region.noSelect ops = true) (hf : Region.free md ops listed i = true) (hr : (Region.ready md ops listed).contains i = true)
    (hQ : ∀ c a w, Q (.panic c) (a.put d v) w → Q (.panic c) a w) (hw : Region.wanted o (yielded ops a.tmps) = true) (hy : ∀ w, S w → (execOp a.eval o).run P w = .ok (.value v) w) (hS : S w)
    (h : wpAnyH P md ops Q S fuel (listed.setIfInBounds i true) (a.put d v) w) : wpAnyH P md ops Q S (fuel + 1) listed a w := by
  subst hd
  exact wpAnyH_take hi hs hf hr hQ (.inl ⟨hw, hy⟩) hS h
/-- The one operation that may come up. -/
theorem ord_alone {i : Nat} {o : Oper} {fuel : Nat} {listed : Array Bool} {a : Act} {w : World} (hi : ops[i]? = some o) (hr : Region.ready md ops listed = [i])
    (hw : Region.wanted o (yielded ops a.tmps) = true)
    (h : o.wp P a w (fun a' w' => S w' ∧ wpAnyH P md ops Q S fuel (listed.setIfInBounds i true) a' w') Q) : wpAnyH P md ops Q S (fuel + 1) listed a w := by
  refine wpAnyH_all hr (by simp) fun j hj => ?_
  obtain rfl : j = i := by simpa using hj
  unfold wpOp
  simp only [hi, hw, if_true]
  exact .inl h
theorem wp_enter {o : Oper} {a : Act} {w : World} {K : Act → World → Prop} {d : Option Tmp} {f : FuncId} {args : Array Value} {R : Ending → World → Prop} (hd : o.dst = d)
    (hr : (execOp a.eval o).run P w = .ok (.enter f args) w) (hc : Calls P f args w R) (h : ∀ e w', R e w' → ∃ v, e = .returned v ∧ K (a.put d v) w') : o.wp P a w K Q := by
  subst hd
  unfold Oper.wp
  rw [hr]
  simp only [Oper.upon]
  exact hc.mono fun e w' hR => by obtain ⟨v, rfl, hK⟩ := h e w' hR; exact hK
theorem wp_value {o : Oper} {a : Act} {w w' : World} {K : Act → World → Prop} {d : Option Tmp} {v : Value} (hd : o.dst = d)
    (hr : (execOp a.eval o).run P w = .ok (.value v) w') (h : K (a.put d v) w') : o.wp P a w K Q := by
  subst hd
  unfold Oper.wp
  rw [hr]
  exact h
theorem wp_append_d {w : World} {o : Oper} {a : Act} {K : Act → World → Prop} {d : Option Tmp} (hd : o.dst = d) (s x : Operand) (t : TypeId)
    (ho : o.op = .call { callee := .builtin .append, args := #[s, x], argTypes := #[t, t] }) (base : Nat) (E : TypeId) (ht : P.underlying t = some (.slice E))
    (hi : (P.info? E).map (fun i => (i.zero, i.size, i.bytes)) = some (some (.int .u8 0), 1, 1))
    (v : Value) (l : List UInt8) (hs : a.eval s = v) (hown : Own E base w v l) (ad : Option Addr) (m c : Nat) (l2 : List UInt8) (hx : a.eval x = .slice ad m c) (hb : Bytes w ad m c l2)
    (hlen : l.length + m ≤ 140737488355328) (hbase : base ≤ w.heap.size)
    (h : ∀ v' w', Own E base w' v' (l ++ l2) → w.grownBy w' v.ownBlock → K (a.put d v') w') : o.wp P a w K Q := by
  subst hd
  exact wp_append_bytes s x t ho base E ht hi v l hs hown ad m c l2 hx hb hlen hbase h
end
end Go.My
end

section
/-
  Slices of values of one cell (ints, words, texts): what came in, what a call made of its own; make, append. No program, no dump.
-/
namespace Go.My
open Go.RowKit

/-- A slice (address, length, capacity) that reads as a list of values. -/
structure RowIn (w : World) (a : Option Addr) (len cap : Nat) (vs : List Value) : Prop where
  len_eq : vs.length = len
  le_cap : len ≤ cap
  cap_le : cap ≤ 9223372036854775807
  nil : a = none → len = 0 ∧ cap = 0
  at_ : len = 0 ∨ ∃ b off, a = some ⟨b, off, none⟩ ∧ b < w.heap.size ∧ ∀ i (h : i < vs.length), w.cell? ⟨b, off + i, none⟩ = some vs[i]
theorem RowIn.none_ (w : World) : RowIn w none 0 0 [] := ⟨rfl, Nat.le_refl _, by omega, fun _ => ⟨rfl, rfl⟩, .inl rfl⟩
theorem RowIn.below {w w' : World} {a : Option Addr} {len cap : Nat} {vs : List Value} (h : RowIn w a len cap vs) {B : Nat} (hB : w.heap.size ≤ B) (hb : Below B w w') : RowIn w' a len cap vs := by
  refine ⟨h.1, h.2, h.3, h.4, h.5.imp_right ?_⟩
  rintro ⟨b, off, ha, hs, hc⟩
  exact ⟨b, off, ha, Nat.lt_of_lt_of_le hs hb.size, fun i hi => by rw [hb.cell (p := ⟨b, off + i, none⟩) (Nat.lt_of_lt_of_le hs hB)]; exact hc i hi⟩
theorem RowIn.some_ {w : World} {a : Option Addr} {len cap : Nat} {vs : List Value} (h : RowIn w a len cap vs) (h0 : 0 < len) : ∃ b off, a = some ⟨b, off, none⟩ := by
  rcases h.at_ with h5 | ⟨b, off, ha, hs, hc⟩
  · omega
  · exact ⟨b, off, ha⟩
theorem RowIn.get {w : World} {b off len cap : Nat} {vs : List Value} (h : RowIn w (some ⟨b, off, none⟩) len cap vs) (i : Nat) (hi : i < vs.length) : w.cell? ⟨b, off + i, none⟩ = some vs[i] := by
  rcases h.at_ with h5 | ⟨b', off', ha, hs, hc⟩
  · have := h.len_eq; omega
  · cases ha; exact hc i hi
theorem RowIn.lt {w : World} {b off len cap : Nat} {vs : List Value} (h : RowIn w (some ⟨b, off, none⟩) len cap vs) (h0 : 0 < len) : b < w.heap.size := by
  rcases h.at_ with h5 | ⟨b', off', ha, hs, hc⟩
  · omega
  · cases ha; exact hs

/-- A value that is a slice of the call's own (block base or later), all of it. -/
def OwnV (E : TypeId) (base : Nat) (w : World) (v : Value) (vs : List Value) : Prop := w.ownsRow base E 1 v vs.length vs
theorem OwnV.row {E : TypeId} {base : Nat} {w : World} {v : Value} {vs : List Value} (h : OwnV E base w v vs) : ∃ a c, v = .slice a vs.length c ∧ RowIn w a vs.length c vs := by
  rcases h.2 with ⟨rfl, h0⟩ | ⟨g, cap, cur, rfl, hg, hh, hn, hm, hs, ht⟩
  · have : vs = [] := List.length_eq_zero_iff.1 h0
    subst this
    exact ⟨none, 0, rfl, RowIn.none_ w⟩
  · unfold maxLen at hm
    refine ⟨_, cap, rfl, rfl, hn, hm, (fun h => by cases h), .inr ⟨g, 0, rfl, ?_, fun i hi => ?_⟩⟩
    · by_cases hlt : g < w.heap.size
      · exact hlt
      · rw [Array.getElem?_eq_none (by omega)] at hh; cases hh
    · rw [cell_of_row _ _ _ _ _ _ hh, Nat.zero_add, ← Array.getElem?_toList]
      have : (cur.toList.take (vs.length * 1))[i]? = vs[i]? := by rw [ht]
      rw [List.getElem?_take, if_pos (by omega)] at this
      rw [this, List.getElem?_eq_getElem hi]
theorem OwnV.below {E : TypeId} {base : Nat} {w w' : World} {v : Value} {vs : List Value} (h : OwnV E base w v vs) {B : Nat} (hB : w.heap.size ≤ B) (hb : Below B w w') : OwnV E base w' v vs := by
  refine World.ownsRow.kept h (row := none) ⟨hb.os, hb.tape, hb.output, hb.size, fun k hk _ => hb.block k (by omega)⟩ ?_
  by_cases hv : v.ownBlock = none
  · exact .inl hv
  · exact .inr hv
theorem OwnV.only {S : Nat → Prop} {E : TypeId} {base : Nat} {w w' : World} {v : Value} {vs : List Value} (ho : OwnV E base w v vs) (h : Only S w w') (hv : ∀ k, v.ownBlock = some k → ¬ S k) : OwnV E base w' v vs := by
  refine ⟨ho.1, ?_⟩
  rcases ho.2 with hn | ⟨g, cap, cur, rfl, hb, hgg, rest⟩
  · exact .inl hn
  · refine .inr ⟨g, cap, cur, rfl, hb, ?_, rest⟩
    rw [h.block g (Array.getElem?_eq_some_iff.1 hgg).1 (hv g rfl)]
    exact hgg
theorem OwnV.kept {E : TypeId} {base : Nat} {w w' : World} {v : Value} {vs : List Value} {row : Option Nat} (h : OwnV E base w v vs) (hg : w.grownBy w' row) (hr : v.ownBlock = none ∨ v.ownBlock ≠ row) : OwnV E base w' v vs := World.ownsRow.kept h hg hr
theorem OwnV.rowIn {E : TypeId} {base : Nat} {w : World} {a : Option Addr} {n c : Nat} {vs : List Value} (h : OwnV E base w (.slice a n c) vs) (hn : vs.length = n) : RowIn w a n c vs := by
  subst hn
  obtain ⟨a', c', h1, h2⟩ := h.row
  simp only [Value.slice.injEq, true_and] at h1
  obtain ⟨rfl, rfl⟩ := h1
  exact h2
theorem OwnV.nil (E : TypeId) (base : Nat) (w : World) : OwnV E base w (.slice none 0 0) [] := World.ownsRow_nil _ _ _ _
theorem OwnV.lit {base : Nat} (E : TypeId) (w : World) (cs : Array Value) (hb : base ≤ w.heap.size) (hm : cs.size ≤ 1000000) : OwnV E base (w.alloc (.cells cs E)) (.slice (some ⟨w.heap.size, 0, none⟩) cs.size cs.size) cs.toList :=
  by
    have := World.ownsRow_lit (e := E) (size := 1) w cs cs.size hb (by unfold maxLen; omega) (by omega)
    unfold OwnV
    exact this
theorem OwnV.base {E : TypeId} {base : Nat} {w : World} {v : Value} {vs : List Value} (h : OwnV E base w v vs) (k : Nat) (hk : v.ownBlock = some k) : base ≤ k := (World.ownsRow.lt h k hk).1
theorem OwnV.lt {E : TypeId} {base : Nat} {w : World} {v : Value} {vs : List Value} (h : OwnV E base w v vs) (k : Nat) (hk : v.ownBlock = some k) : k < w.heap.size := (World.ownsRow.lt h k hk).2
theorem OwnV.grown {base : Nat} {w0 w w' : World} {v : Value} {E : TypeId} {vs : List Value} (hown : OwnV E base w v vs) (h : Below base w0 w) (hg : w.grownBy w' v.ownBlock) (hb : base ≤ w.heap.size) : Below base w0 w' :=
  h.grown hg hb fun k hk => (World.ownsRow.lt hown k hk).1
theorem OwnV.store {E : TypeId} {base : Nat} {w : World} {g n c : Nat} {vs : List Value} (h : OwnV E base w (.slice (some ⟨g, 0, none⟩) n c) vs) (hn : vs.length = n) (i : Nat) (u : Value) :
    OwnV E base (w.setCell ⟨g, i, none⟩ u) (.slice (some ⟨g, 0, none⟩) n c) (vs.set i u) := by
  subst hn
  have := (World.ownsRow.stored h i u).1
  unfold OwnV
  rw [List.length_set]
  exact this
theorem OwnV.cell {E : TypeId} {base : Nat} {w : World} {g n c : Nat} {vs : List Value} (h : OwnV E base w (.slice (some ⟨g, 0, none⟩) n c) vs) (hn : vs.length = n) (i : Nat) (hi : i < vs.length) : w.cell? ⟨g, i, none⟩ = some vs[i] := by
  subst hn
  have hcell := World.ownsRow.cellAt h i (by simpa using hi)
  rw [hcell, List.getElem?_eq_getElem hi]
theorem OwnV.free {E : TypeId} {base : Nat} {w : World} {g n c : Nat} {vs : List Value} (h : OwnV E base w (.slice (some ⟨g, 0, none⟩) n c) vs) (hn : vs.length = n) (i : Nat) : w.frozen? ⟨g, i, none⟩ = false := by
  subst hn
  exact World.ownsRow.frozenAt h i

/-- append(v, x...) of values of one cell; where the new row lies. -/
theorem wp_append_row {P : Program} {w : World} {o : Oper} {a : Act} {K : Act → World → Prop} {Q : Exit → Act → World → Prop} (s x : Operand) (t : TypeId)
    (ho : o.op = .call { callee := .builtin .append, args := #[s, x], argTypes := #[t, t] }) (base : Nat) (E : TypeId) (z : Value) (by_ : Nat) (ht : P.underlying t = some (.slice E))
    (hi : (P.info? E).map (fun i => (i.zero, i.size, i.bytes)) = some (some z, 1, by_)) (hz1 : z.cells.size = 1)
    (v : Value) (l : List Value) (hs : a.eval s = v) (hown : OwnV E base w v l) (ad : Option Addr) (m c : Nat) (l2 : List Value) (hx : a.eval x = .slice ad m c) (hb : RowIn w ad m c l2) (hone : ∀ u ∈ l2, u.oneCell' = true)
    (hlen : (l.length + m) * by_ ≤ 140737488355328) (hlen2 : l.length + m ≤ 140737488355328) (hbase : base ≤ w.heap.size)
    (h : ∀ v' w', OwnV E base w' v' (l ++ l2) → w.grownBy w' v.ownBlock → Nxt v.ownBlock w.heap.size v'.ownBlock → K (a.put o.dst v') w') : o.wp P a w K Q := by
  obtain ⟨i, hi, hz0, hsz, hz2⟩ := info_parts hi
  by_cases h0 : m = 0
  · subst h0
    have hl2 : l2 = [] := List.length_eq_zero_iff.1 hb.len_eq
    subst hl2
    obtain ⟨v', w', hr, h2, h3, _, h5⟩ : ∃ v' w', (Builtin.append_ #[t, t] o.type #[v, .slice ad 0 c]).run P w = .ok v' w' ∧ OwnV E base w' v' l ∧ w.grownBy w' v.ownBlock ∧ True ∧ (v'.ownBlock = v.ownBlock ∨ v'.ownBlock = some w.heap.size) := by
      cases ad with
      | none =>
        obtain ⟨_, rfl⟩ := hb.nil rfl
        have hrun := run_append_owned_none (P := P) (w := w) base t o.type E i 1 ht hi v l.length l hown
        exact ⟨v, w, hrun, hown, ⟨rfl, rfl, rfl, Nat.le_refl _, fun _ _ _ => rfl⟩, trivial, .inl rfl⟩
      | some ad =>
        obtain ⟨v', w', hr, h2, h3, _, h5⟩ := run_append_own_at (P := P) w base t o.type E i z 1 by_ ht hi hz0 hsz hz2 hz1 (by decide) v l.length l hown ad 0 c [] rfl (fun j u hu => by simp at hu) (fun u hu => by simp at hu) (by unfold maxLen; omega) hlen hbase
        refine ⟨v', w', hr, ?_, h3, trivial, h5⟩
        unfold OwnV
        rw [List.append_nil] at h2
        exact h2
    unfold Oper.wp execOp
    simp only [ho, resolve, invoke, builtin, Sem.run_bind, Sem.run_pure, Result.andThen_ok, List.map_toArray, List.map_cons, List.map_nil, hs, hx, hr]
    refine h v' w' (by rw [List.append_nil]; exact h2) h3 ?_
    rcases h5 with h5 | h5
    · exact .inl h5
    · exact .inr ⟨_, h5, Nat.le_refl _⟩
  · rcases hb.at_ with h1 | ⟨b, off, hab, hbs, hc⟩
    · omega
    subst hab
    refine wp_append_lies w s x t ho base E i z 1 by_ ht hi hz0 hsz hz2 hz1 (by decide) v l.length l hs hown ⟨b, off, none⟩ m c l2 hx (by simp [hb.len_eq]) ?_ hone (by omega) (by unfold maxLen; omega) hlen hbase _ rfl ?_
    · intro j u hu
      have hj : j < l2.length := (List.getElem?_eq_some_iff.1 hu).1
      rw [addr_add, hc j hj]
      rw [List.getElem?_eq_getElem hj] at hu
      exact hu
    · intro g cap w' h1 h2 h3 _
      refine h _ w' ?_ h2 ?_
      · unfold OwnV
        rw [List.length_append, hb.len_eq]
        exact h1
      · rcases h3 with h3 | rfl
        · exact .inl h3.symm
        · exact .inr ⟨_, rfl, Nat.le_refl _⟩
theorem wpList_append_row {P : Program} {w : World} {ops : Array Oper} {rest : List Oper} {o : Oper} {a : Act} {Q : Exit → Act → World → Prop} (hw : Region.wanted o (yielded ops a.tmps) = true) (s x : Operand) (t : TypeId)
    (ho : o.op = .call { callee := .builtin .append, args := #[s, x], argTypes := #[t, t] }) (base : Nat) (E : TypeId) (z : Value) (by_ : Nat) (ht : P.underlying t = some (.slice E))
    (hi : (P.info? E).map (fun i => (i.zero, i.size, i.bytes)) = some (some z, 1, by_)) (hz1 : z.cells.size = 1)
    (v : Value) (l : List Value) (hs : a.eval s = v) (hown : OwnV E base w v l) (ad : Option Addr) (m c : Nat) (l2 : List Value) (hx : a.eval x = .slice ad m c) (hb : RowIn w ad m c l2) (hone : ∀ u ∈ l2, u.oneCell' = true)
    (hlen : (l.length + m) * by_ ≤ 140737488355328) (hlen2 : l.length + m ≤ 140737488355328) (hbase : base ≤ w.heap.size)
    (h : ∀ a' c' w', OwnV E base w' (.slice a' (l.length + m) c') (l ++ l2) → w.grownBy w' v.ownBlock → Nxt v.ownBlock w.heap.size (Value.ownBlock (.slice a' (l.length + m) c')) → wpList P ops Q rest (a.put o.dst (.slice a' (l.length + m) c')) w') : wpList P ops Q (o :: rest) a w :=
  wpList_of_wp hw fun _ hK => wp_append_row s x t ho base E z by_ ht hi hz1 v l hs hown ad m c l2 hx hb hone hlen hlen2 hbase fun v' w' h1 h2 h3 => by
    obtain ⟨a', c', rfl, _⟩ := h1.row
    rw [List.length_append, hb.len_eq] at *
    exact hK _ _ (h a' c' w' h1 h2 h3)
/-- make([]T, k) -/
theorem wpList_make_row {P : Program} (w : World) {ops : Array Oper} {rest : List Oper} {o : Oper} {a : Act} {Q : Exit → Act → World → Prop}
    (hg : o.guard = none) (l c : Operand) (t : TypeId) (hop : o.op = Op.makeSlice t l c) (base : Nat) (E : TypeId) (z : Value) (by_ : Nat) (ht : P.underlying t = some (.slice E))
    (hi : (P.info? E).map (fun i => (i.zero, i.size, i.bytes)) = some (some z, 1, by_)) (hz1 : z.cells = #[z]) (kl kc : IntKind) (k : Nat) (hl : a.eval l = .int kl (k : Int)) (hc : a.eval c = .int kc (k : Int))
    (hk : k * by_ ≤ 281474976710656) (hk2 : k ≤ 281474976710656) (hb : base ≤ w.heap.size)
    (hK : ∀ w', OwnV E base w' (.slice (some ⟨w.heap.size, 0, none⟩) k k) (List.replicate k z) → w.grownBy w' none → wpList P ops Q rest (a.put o.dst (.slice (some ⟨w.heap.size, 0, none⟩) k k)) w') : wpList P ops Q (o :: rest) a w := by
  obtain ⟨i, hi, hz0, hz2, hz3⟩ := info_parts hi
  refine wpList_make_full w hg l c t hop base E i z 1 ht hi hz0 hz2 kl kc _ _ k hl hc rfl rfl (by rw [hz3]; have := Nat.mul_comm k by_; omega) (by unfold maxLen; omega) hb fun w' h1 h2 => hK w' ?_ h2
  unfold OwnV
  rw [List.length_replicate]
  have e : (madeCells z.cells (k * 1)).toList = List.replicate k z := by rw [hz1, Nat.mul_one]; exact toList_madeCells_one _ _
  rw [e] at h1
  exact h1

/-! ### a block of cells stored at once -/
theorem Blk.row {w : World} {g : Nat} {t : TypeId} {cs : Array Value} (h : Blk w g t cs) (new : Array Value) : Blk (w.setRow g new) g t new := setRow_heap w g cs new t _ h
theorem setRow_block (w : World) (g : Nat) (cs : Array Value) (k : Nat) (h : k ≠ g) : (w.setRow g cs).heap[k]? = w.heap[k]? := by
  show (w.heap.modify g _)[k]? = _
  rw [Array.getElem?_modify, if_neg (fun e => h e.symm)]
theorem below_row {B : Nat} {w0 w : World} (h : Below B w0 w) {g : Nat} (hg : B ≤ g) (cs : Array Value) : Below B w0 (w.setRow g cs) := by
  refine ⟨h.os, h.tape, h.output, ?_, fun k hk => ?_⟩
  · show w0.heap.size ≤ (w.heap.modify g _).size
    rw [Array.size_modify]; exact h.size
  · rw [setRow_block w g cs k (by omega)]; exact h.block k hk
end Go.My
end

section
/-
  A drawn region over a frame that is a LETTER: each operation's frame has a name of its own, what its slots hold is carried by plain equations, so no step looks at the other slots. No dump.
-/
namespace Go.My
open Go.RowKit
theorem ev_eq {A B : Act} {d n : Nat} {v : Value} (h : B = A.put (some d) v) (hs : A.tmps.size = n) (hd : d < n) : B.eval (.tmp d) = v := by
  subst h; subst hs
  simp [Act.eval, Act.put, Array.getD, hd]
theorem ev_ne {A B : Act} {d t : Nat} {v x : Value} (h : B = A.put (some d) v) (hx : A.eval (.tmp t) = x) (hne : d ≠ t) : B.eval (.tmp t) = x := by
  subst h; subst hx
  simp [Act.eval, Act.put, Array.getD_eq_getD_getElem?, hne]
theorem sz_put {A B : Act} {d : Option Tmp} {n : Nat} {v : Value} (h : B = A.put d v) (hs : A.tmps.size = n) : B.tmps.size = n := by
  subst h; subst hs
  cases d <;> simp [Act.put]
/-- A slot written in a frame that is written out ('simp only [put_lit, List.set_cons_succ, List.set_cons_zero]': a second for a dozen slots of 157). -/
theorem put_lit (l : List Value) (ds : List Deferred) (d : Nat) (v : Value) : Act.put ⟨l.toArray, ds⟩ (some d) v = ⟨(l.set d v).toArray, ds⟩ := by simp [Act.put]
section
variable {P : Program} {ops : Array Oper} {Q : Exit → Act → World → Prop} {md : Region.Mode} {S : World → Prop}
theorem ord_step {i : Nat} {o : Oper} {d : Option Tmp} (v : Value) {fuel : Nat} {listed : Array Bool} {a : Act} {w : World} (hi : ops[i]? = some o) (hd : o.dst = d)
    (hs : Region.noSelect ops = true) (hf : Region.free md ops listed i = true) (hr : (Region.ready md ops listed).contains i = true)
    (hQ : ∀ c a w, Q (.panic c) (a.put d v) w → Q (.panic c) a w) (hg : o.guard = none) (hS : S w) (hy : ∀ w, S w → (execOp a.eval o).run P w = .ok (.value v) w)
    (h : ∀ B, B = a.put d v → wpAnyH P md ops Q S fuel (listed.setIfInBounds i true) B w) : wpAnyH P md ops Q S (fuel + 1) listed a w :=
  ord_take v hi hd hs hf hr hQ (by simp [Region.wanted, hg]) hy hS (h _ rfl)
theorem ord_lone {i : Nat} {o : Oper} {fuel : Nat} {listed : Array Bool} {a : Act} {w : World} (hi : ops[i]? = some o) (hr : Region.ready md ops listed = [i]) (hg : o.guard = none)
    (h : o.wp P a w (fun a' w' => S w' ∧ wpAnyH P md ops Q S fuel (listed.setIfInBounds i true) a' w') Q) : wpAnyH P md ops Q S (fuel + 1) listed a w :=
  ord_alone hi hr (by simp [Region.wanted, hg]) h
theorem act_name_and {p : Prop} {fuel : Nat} {listed : Array Bool} {a : Act} {w : World} (hp : p) (h : ∀ A, A = a → wpAnyH P md ops Q S fuel listed A w) : p ∧ wpAnyH P md ops Q S fuel listed a w := ⟨hp, h a rfl⟩
end
/-- What a move, an assign yields. -/
theorem x_move {P : Program} {a : Act} {o : Oper} (s : Operand) {v : Value} {w : World} (ho : o.op = .move s) (hs : a.eval s = v) : (execOp a.eval o).run P w = .ok (.value v) w := by
  unfold execOp; rw [ho]; subst hs; rfl
theorem x_assign {P : Program} {a : Act} {o : Oper} (s : Operand) {v : Value} {w : World} (ho : o.op = .assign s) (hs : a.eval s = v) : (execOp a.eval o).run P w = .ok (.value v) w := by
  unfold execOp; rw [ho]; subst hs; rfl
end Go.My
end

section
/-
  A drawn region whose last operation turns what the others read (x.f = append(x.f, ..)): S is asked behind every operation but number L, which waits for the one that is taken first. No dump.
-/
namespace Go.My
open Go.RowKit
section
variable {P : Program} {ops : Array Oper} {Q : Exit → Act → World → Prop} {md : Region.Mode} {S : World → Prop} {L : Nat}
/-- Whatever order is picked: S holds behind every operation but number L. -/
def Till (P : Program) (md : Region.Mode) (ops : Array Oper) (Q : Exit → Act → World → Prop) (S : World → Prop) (L : Nat) : Nat → Array Bool → Act → World → Prop
  | 0, done, a, w => Region.ready md ops done = [] ∧ Q .normal a w
  | f + 1, done, a, w => (Region.ready md ops done = [] → Q .normal a w) ∧
      ∀ j ∈ Region.ready md ops done, wpOp P ops Q j (fun a' w' => (j ≠ L → S w') ∧ Till P md ops Q S L f (done.setIfInBounds j true) a' w') a w
theorem Till.any : ∀ (f : Nat) (done : Array Bool) (a : Act) (w : World), Till P md ops Q S L f done a w → wpAny P md ops Q f done a w
  | 0, _, _, _, h => h
  | f + 1, _, _, _, h => ⟨h.1, fun j hj => wpOp_mono (fun _ _ k => Till.any f _ _ _ k.2) (h.2 j hj)⟩
/-- Operation L waits for operation i. -/
def Awaits (md : Region.Mode) (ops : Array Oper) (L i : Nat) : Bool := match ops[L]? with
  | some o => o.after.any fun e => Region.binds md e && e.on == i
  | none => false
theorem not_yet {i j : Nat} {done : Array Bool} (hw : Awaits md ops L i = true) (hi : i ∈ Region.ready md ops done) (hj : j ∈ Region.ready md ops done) : j ≠ L := by
  rintro rfl
  obtain ⟨-, o, ho, hall⟩ := mem_ready.1 hj
  unfold Awaits at hw
  rw [ho] at hw
  simp only [Array.any_eq_true] at hw
  obtain ⟨k, hk, hb⟩ := hw
  obtain ⟨e, hee⟩ : ∃ e, e = o.after[k] := ⟨_, rfl⟩
  have he : e ∈ o.after := by rw [hee]; exact Array.getElem_mem hk
  rw [← hee] at hb
  simp only [Bool.and_eq_true, beq_iff_eq] at hb
  have h1 := hall e he hb.1
  have h0 := (mem_ready.1 hi).1
  rw [hb.2] at h1
  by_cases hs : i < done.size
  · simp [hs] at h0 h1
    rw [h0] at h1; cases h1
  · rw [Array.getD_eq_getD_getElem?, Array.getElem?_eq_none (by omega)] at h1
    cases h1
theorem Till.take {i : Nat} {o : Oper} {d : Option Tmp} (v : Value) (hi : ops[i]? = some o) (hd : o.dst = d) (hs : Region.noSelect ops = true) (hL : Awaits md ops L i = true)
    (hQ : ∀ c a w, Q (.panic c) (a.put d v) w → Q (.panic c) a w) : ∀ {f : Nat} {done : Array Bool} {a : Act} {w : World}, Region.free md ops done i = true → (Region.ready md ops done).contains i = true →
    YieldsIf P ops S o v a → S w → Till P md ops Q S L f (done.setIfInBounds i true) (a.put d v) w → Till P md ops Q S L (f + 1) done a w := by
  subst hd
  intro f done a w hf hr
  have hfree := Region.free_spec hi hf
  have hr' : i ∈ Region.ready md ops done := by simpa using hr
  clear hf hr
  induction f generalizing done a w with
  | zero =>
    intro hy hS h
    refine ⟨fun e => absurd hr' (by rw [e]; simp), fun j hj => ?_⟩
    have hji : j = i := Classical.byContradiction fun hne => by
      have := ready_mono hj hne
      rw [h.1] at this
      cases this
    subst hji
    exact hy.wpOp hi hS ⟨fun _ => hS, h⟩
  | succ f ih =>
    intro hy hS h
    refine ⟨fun e => absurd hr' (by rw [e]; simp), fun j hj => ?_⟩
    by_cases hji : j = i
    · subst hji; exact hy.wpOp hi hS ⟨fun _ => hS, h⟩
    · obtain ⟨hun, oj, hoj, hall⟩ := mem_ready.1 hj
      have hjL := not_yet hL hr' hj
      have hno : ∀ e ∈ oj.after, Region.binds md e = true → e.on ≠ i := fun e he hb heq => by
        have h1 := hall e he hb
        have h0 := (mem_ready.1 hr').1
        rw [heq] at h1
        by_cases hsz : i < done.size
        · simp [hsz] at h0 h1
          rw [h0] at h1; cases h1
        · rw [Array.getD_eq_getD_getElem?, Array.getElem?_eq_none (by omega)] at h1
          cases h1
      have hsel := fun cs b => Region.noSelect_spec hs i o cs b hi
      have hselj := fun cs b => Region.noSelect_spec hs j oj cs b hoj
      refine wpOp_mono (fun a' w' k => ⟨fun _ => k.2.1 hjL, ih (done := done.setIfInBounds j true) ?_ (ready_mono hr' (Ne.symm hji)) k.1 (k.2.1 hjL) ?_⟩) (wpOp_putIf hoj (hfree j oj hoj hji hun hno) hsel hselj hQ hy (h.2 j (ready_mono hj hji)))
      · intro m om hm hmi hmun
        refine hfree m om hm hmi ?_
        by_cases hjm : j = m
        · subst hjm; exact hun
        · rw [getD_set_ne true hjm] at hmun; exact hmun
      · have := k.2.2
        rw [Array.setIfInBounds_comm _ _ (Ne.symm hji)] at this
        exact this
/-- As ord_step, with S asked till L. -/
theorem till_step {i : Nat} {o : Oper} {d : Option Tmp} (v : Value) {f : Nat} {done : Array Bool} {a : Act} {w : World} (hi : ops[i]? = some o) (hd : o.dst = d)
    (hs : Region.noSelect ops = true) (hL : Awaits md ops L i = true) (hf : Region.free md ops done i = true) (hr : (Region.ready md ops done).contains i = true)
    (hQ : ∀ c a w, Q (.panic c) (a.put d v) w → Q (.panic c) a w) (hg : o.guard = none) (hS : S w) (hy : ∀ w, S w → (execOp a.eval o).run P w = .ok (.value v) w)
    (h : ∀ B, B = a.put d v → Till P md ops Q S L f (done.setIfInBounds i true) B w) : Till P md ops Q S L (f + 1) done a w :=
  Till.take v hi hd hs hL hQ hf hr (.inl ⟨by simp [Region.wanted, hg], hy⟩) hS (h _ rfl)
/-- The one operation that may come up. -/
theorem till_lone {i : Nat} {o : Oper} {f : Nat} {done : Array Bool} {a : Act} {w : World} (hi : ops[i]? = some o) (hr : Region.ready md ops done = [i]) (hg : o.guard = none)
    (h : o.wp P a w (fun a' w' => (i ≠ L → S w') ∧ Till P md ops Q S L f (done.setIfInBounds i true) a' w') Q) : Till P md ops Q S L (f + 1) done a w := by
  refine ⟨fun e => (by rw [hr] at e; cases e), fun j hj => ?_⟩
  rw [hr] at hj
  obtain rfl : j = i := by simpa using hj
  unfold wpOp
  simp only [hi, show Region.wanted o (yielded ops a.tmps) = true by simp [Region.wanted, hg], if_true]
  exact .inl h
theorem till_done {done : Array Bool} {a : Act} {w : World} (hr : Region.ready md ops done = []) (h : Q .normal a w) : ∀ f, Till P md ops Q S L f done a w
  | 0 => ⟨hr, h⟩
  | _ + 1 => ⟨fun _ => h, by rw [hr]; simp⟩
theorem till_name {p : Prop} {f : Nat} {done : Array Bool} {a : Act} {w : World} (hp : p) (h : ∀ A, A = a → Till P md ops Q S L f done A w) : p ∧ Till P md ops Q S L f done a w := ⟨hp, h a rfl⟩
theorem till_as {f : Nat} {done : Array Bool} {a b : Act} {w : World} (h : a = b) (hp : Till P md ops Q S L f done b w) : Till P md ops Q S L f done a w := by subst h; exact hp
theorem wp_region_till {id : Nat} {a : Act} {w : World} (hm : P.follows .mixedOrders = true) (h : ∀ A, A = a → Till P .any ops Q S L ops.size (Array.replicate ops.size false) A w.drew) : (Code.region id ops true).wp P Q a w :=
  wp_region_any hm (Till.any _ _ _ _ (h a rfl))
theorem till_skip {o : Oper} {a : Act} {w w' : World} {K : Act → World → Prop} (hd : o.dst = none) (hr : (execOp a.eval o).run P w = .ok .skip w') (h : K a w') : o.wp P a w K Q := by
  unfold Oper.wp
  rw [hr]
  show K (a.put o.dst undef) w'
  rw [hd]
  exact h
end
end Go.My
end

section
/-
  A drawn region by an invariant: what holds of frame and world once these operations are done. One obligation an operation, whatever the order: nothing is branched over. No dump.
-/
namespace Go.My
open Go.RowKit
/-- One more is done. -/
def on (D : Nat → Bool) (j : Nat) : Nat → Bool := fun k => if k = j then true else D k
theorem on_self (D : Nat → Bool) (j : Nat) : on D j j = true := by simp [on]
theorem on_ne (D : Nat → Bool) {j k : Nat} (h : k ≠ j) : on D j k = D k := by simp [on, h]
/-- How many are not done. -/
def cntU (D : Nat → Bool) : Nat → Nat
  | 0 => 0
  | n + 1 => cntU D n + if D n then 0 else 1
theorem cntU_on {D : Nat → Bool} {j : Nat} (h : D j = false) : ∀ n, j < n → cntU (on D j) n + 1 = cntU D n
  | 0, hj => by omega
  | n + 1, hj => by
    unfold cntU
    by_cases e : n = j
    · subst e
      rw [on_self, h]
      have : cntU (on D n) n = cntU D n := by
        clear h hj
        have : ∀ m, m ≤ n → cntU (on D n) m = cntU D m := by
          intro m
          induction m with
          | zero => intro _; rfl
          | succ m ih => intro hm; unfold cntU; rw [ih (by omega), on_ne D (by omega)]
        exact this n (Nat.le_refl _)
      simp [this]
    · rw [on_ne D e]
      have := cntU_on h n (by omega)
      omega
theorem cntU_zero {D : Nat → Bool} : ∀ n, cntU D n = 0 → ∀ j, j < n → D j = true
  | 0, _, j, hj => by omega
  | n + 1, h, j, hj => by
    unfold cntU at h
    by_cases e : j = n
    · subst e
      cases hd : D j
      · rw [hd] at h; simp at h
      · rfl
    · exact cntU_zero n (by omega) j (by omega)
theorem getD_tf {l : Array Bool} {k : Nat} (h : l.getD k false = true) : l.getD k true = true := by
  by_cases hk : k < l.size
  · simp [hk] at h ⊢; exact h
  · simp [Array.getElem?_eq_none (Nat.le_of_not_lt hk)]
theorem getD_ft {l : Array Bool} {k : Nat} (h : l.getD k true = true) (hk : k < l.size) : l.getD k false = true := by
  simp [hk] at h ⊢; exact h
theorem getD_on (l : Array Bool) (j : Nat) : (fun k => (l.setIfInBounds j true).getD k true) = on (fun k => l.getD k true) j := by
  funext k
  by_cases e : k = j
  · subst e
    rw [on_self]
    by_cases hk : k < l.size
    · simp [hk]
    · rw [Array.getD_eq_getD_getElem?, Array.getElem?_eq_none (by simp; omega)]; rfl
  · rw [on_ne _ e, getD_set_ne true (Ne.symm e)]
section
variable {P : Program} {ops : Array Oper} {Q : Exit → Act → World → Prop} {md : Region.Mode} {I : (Nat → Bool) → Act → World → Prop}
/-- Each operation waits for earlier ones alone. -/
def Back (ops : Array Oper) : Bool := (List.range ops.size).all fun j => match ops[j]? with
  | some o => o.after.all fun e => decide (e.on < j)
  | none => true
theorem back_spec (h : Back ops = true) {j : Nat} {o : Oper} (ho : ops[j]? = some o) : ∀ e ∈ o.after, e.on < j := by
  intro e he
  have hj : j < ops.size := (Array.getElem?_eq_some_iff.1 ho).1
  have := List.all_eq_true.1 h j (List.mem_range.2 hj)
  rw [ho] at this
  exact of_decide_eq_true ((Array.all_eq_true_iff_forall_mem.1 this) e he)
theorem all_done (hb : Back ops = true) {l : Array Bool} (hl : l.size = ops.size) (hr : Region.ready md ops l = []) : (fun k => l.getD k true) = fun _ => true := by
  have h : ∀ n, ∀ j, j < n → l.getD j true = true := by
    intro n
    induction n with
    | zero => intro j hj; omega
    | succ n ih =>
      intro j hj
      by_cases e : j = n
      · subst e
        cases hd : l.getD j true with
        | true => rfl
        | false =>
          exfalso
          have hj : j < ops.size := by
            refine Classical.byContradiction fun hc => ?_
            rw [Array.getD_eq_getD_getElem?, Array.getElem?_eq_none (by omega)] at hd
            cases hd
          have hm : j ∈ Region.ready md ops l := by
            rw [mem_ready]
            refine ⟨hd, ops[j], Array.getElem?_eq_getElem hj, fun e he _ => ?_⟩
            have hlt := back_spec hb (Array.getElem?_eq_getElem hj) e he
            exact getD_ft (ih e.on hlt) (by omega)
          rw [hr] at hm
          cases hm
      · exact ih j (by omega)
  funext k
  exact h (k + 1) k (by omega)
theorem any_inv (hb : Back ops = true)
    (hstep : ∀ j o, ops[j]? = some o → ∀ D a w, I D a w → D j = false → (∀ e ∈ o.after, Region.binds md e = true → D e.on = true) → wpOp P ops Q j (fun a' w' => I (on D j) a' w') a w)
    (hend : ∀ a w, I (fun _ => true) a w → Q .normal a w) :
    ∀ (f : Nat) (l : Array Bool) (a : Act) (w : World), l.size = ops.size → cntU (fun k => l.getD k true) ops.size ≤ f → I (fun k => l.getD k true) a w → wpAny P md ops Q f l a w
  | 0, l, a, w, hl, hc, hI => by
    have hr : Region.ready md ops l = [] := by
      rw [List.eq_nil_iff_forall_not_mem]
      intro j hj
      obtain ⟨h0, o, ho, -⟩ := mem_ready.1 hj
      have hj2 : j < ops.size := (Array.getElem?_eq_some_iff.1 ho).1
      have h1 : (fun k => l.getD k true) j = true := cntU_zero (D := fun k => l.getD k true) ops.size (by omega) j hj2
      simp only at h1
      rw [h1] at h0
      cases h0
    exact ⟨hr, hend a w (by rw [all_done hb hl hr] at hI; exact hI)⟩
  | f + 1, l, a, w, hl, hc, hI => by
    refine ⟨fun hr => hend a w (by rw [all_done hb hl hr] at hI; exact hI), fun j hj => ?_⟩
    obtain ⟨h0, o, ho, hall⟩ := mem_ready.1 hj
    have hj2 : j < ops.size := (Array.getElem?_eq_some_iff.1 ho).1
    refine wpOp_mono (fun a' w' k => any_inv hb hstep hend f _ a' w' (by simpa using hl) ?_ (by rw [getD_on]; exact k)) (hstep j o ho _ a w hI h0 fun e he hbi => getD_tf (hall e he hbi))
    rw [getD_on]
    have := cntU_on (D := fun k => l.getD k true) h0 ops.size hj2
    omega
theorem cntU_le (D : Nat → Bool) : ∀ n, cntU D n ≤ n
  | 0 => Nat.le_refl _
  | n + 1 => by unfold cntU; have := cntU_le D n; split <;> omega
/-- What is done at the start: nothing. -/
def none_ (n : Nat) : Nat → Bool := fun k => !decide (k < n)
theorem wp_region_inv (I : (Nat → Bool) → Act → World → Prop) {id : Nat} {a : Act} {w : World} (hm : P.follows .mixedOrders = true) (hb : Back ops = true) (h0 : I (none_ ops.size) a w.drew)
    (hstep : ∀ j o, ops[j]? = some o → ∀ D a w, I D a w → D j = false → (∀ e ∈ o.after, Region.binds .any e = true → D e.on = true) → wpOp P ops Q j (fun a' w' => I (on D j) a' w') a w)
    (hend : ∀ a w, I (fun _ => true) a w → Q .normal a w) : (Code.region id ops true).wp P Q a w := by
  refine wp_region_any hm (any_inv hb hstep hend _ _ _ _ (by simp) (cntU_le _ _) ?_)
  have : (fun k => (Array.replicate ops.size false).getD k true) = none_ ops.size := by
    funext k
    unfold none_
    by_cases hk : k < ops.size
    · simp [hk]
    · rw [Array.getD_eq_getD_getElem?, Array.getElem?_eq_none (by simp; omega)]; simp [hk]
  rw [this]
  exact h0
/-- What an operation waits for is done. -/
theorem pre_done {o : Oper} {D : Nat → Bool} (h : ∀ e ∈ o.after, Region.binds .any e = true → D e.on = true) (k : Nat) (hk : (o.after.toList.any fun e => Region.binds .any e && e.on == k) = true) : D k = true := by
  obtain ⟨e, he, hb⟩ := List.any_eq_true.1 hk
  simp only [Bool.and_eq_true, beq_iff_eq] at hb
  rw [← hb.2]
  exact h e (by simpa using he) hb.1
/-- A frame that is A0 but for the slots L; operation p.1, once it is done, has left p.2.2 in slot p.2.1. -/
structure Slots (A0 : Act) (L : List Tmp) (V : List (Nat × Tmp × Value)) (D : Nat → Bool) (a : Act) : Prop where
  defers : a.defers = A0.defers
  size : a.tmps.size = A0.tmps.size
  keep : ∀ t, t ∉ L → a.eval (.tmp t) = A0.eval (.tmp t)
  val : ∀ p ∈ V, D p.1 = true → a.eval (.tmp p.2.1) = p.2.2
theorem eval_put_ne {a : Act} {d t : Nat} {v : Value} (h : d ≠ t) : (a.put (some d) v).eval (.tmp t) = a.eval (.tmp t) := by
  simp [Act.eval, Act.put, Array.getD_eq_getD_getElem?, h]
theorem eval_put_self {a : Act} {d : Nat} {v : Value} (h : d < a.tmps.size) : (a.put (some d) v).eval (.tmp d) = v := by
  simp [Act.eval, Act.put, Array.getD, h]
section
variable {A0 a : Act} {L : List Tmp} {V : List (Nat × Tmp × Value)} {D : Nat → Bool}
theorem Slots.start (n : Nat) (hV : ∀ p ∈ V, p.1 < n) : Slots A0 L V (none_ n) A0 := ⟨rfl, rfl, fun _ _ => rfl, fun p hp h => by have := hV p hp; simp [none_, this] at h⟩
theorem Slots.get (h : Slots A0 L V D a) {j : Nat} {d : Tmp} {v : Value} (hp : (j, d, v) ∈ V) (hD : D j = true) : a.eval (.tmp d) = v := h.val _ hp hD
theorem Slots.put {j : Nat} {d : Tmp} {v : Value} (h : Slots A0 L V D a) (hd : L.contains d = true) (hlt : d < A0.tmps.size) (hV : ∀ p ∈ V, (p.1 = j ∧ p.2.1 = d ∧ p.2.2 = v) ∨ (p.1 ≠ j ∧ p.2.1 ≠ d)) : Slots A0 L V (on D j) (a.put (some d) v) := by
  have hd : d ∈ L := by simpa using hd
  refine ⟨h.defers, by rw [← h.size]; simp [Act.put], fun t ht => ?_, fun p hp hD => ?_⟩
  · rw [eval_put_ne (fun (e : d = t) => ht (by rw [← e]; exact hd))]; exact h.keep t ht
  · rcases hV p hp with ⟨e1, e2, e3⟩ | ⟨e1, e2⟩
    · rw [e2, e3]; exact eval_put_self (by rw [h.size]; exact hlt)
    · rw [eval_put_ne (Ne.symm e2)]
      rw [on_ne D e1] at hD
      exact h.val p hp hD
theorem Slots.skip {j : Nat} (h : Slots A0 L V D a) (hV : ∀ p ∈ V, p.1 ≠ j) (v : Value) : Slots A0 L V (on D j) (a.put none v) :=
  ⟨h.defers, h.size, h.keep, fun p hp hD => by rw [on_ne D (hV p hp)] at hD; exact h.val p hp hD⟩
/-- A frame out of its slots. -/
theorem Slots.eq (h : Slots A0 L V D a) (hL : L.all (fun d => decide (d < A0.tmps.size)) = true) : ∃ vs : Tmp → Value, (∀ d, vs d = a.eval (.tmp d)) ∧ a = L.foldl (fun b d => b.put (some d) (vs d)) A0 := by
  refine ⟨fun d => a.eval (.tmp d), fun _ => rfl, ?_⟩
  have key : ∀ (M : List Tmp) (b : Act), b.defers = a.defers → b.tmps.size = a.tmps.size → (∀ d ∈ M, d < a.tmps.size) → (∀ t, t ∉ M → a.eval (.tmp t) = b.eval (.tmp t)) → a = M.foldl (fun b d => b.put (some d) (a.eval (.tmp d))) b := by
    intro M
    induction M with
    | nil =>
      intro b h1 h2 _ h4
      cases a with
      | mk ta da =>
        cases b with
        | mk tb db =>
          simp only at h1 h2
          subst h1
          have : ta = tb := by
            apply Array.ext h2.symm
            intro i hi hj
            have := h4 i (by simp)
            simpa [Act.eval, Array.getD, hi, hj] using this
          subst this
          rfl
    | cons d M ih =>
      intro b h1 h2 h3 h4
      rw [List.foldl_cons]
      refine ih _ h1 (by simpa [Act.put] using h2) (fun x hx => h3 x (by simp [hx])) fun t ht => ?_
      by_cases e : t = d
      · subst e
        rw [eval_put_self (by rw [h2]; exact h3 t (by simp))]
      · rw [eval_put_ne (Ne.symm e)]
        exact h4 t (by simp [e, ht])
  refine key L A0 h.defers.symm h.size.symm (fun d hd => ?_) (fun t ht => h.keep t ht)
  rw [h.size]
  exact of_decide_eq_true (List.all_eq_true.1 hL d hd)
end
theorem op_wp {j : Nat} {o : Oper} {K : Act → World → Prop} {a : Act} {w : World} (ho : ops[j]? = some o) (hg : o.guard = none) (h : o.wp P a w K Q) : wpOp P ops Q j K a w := by
  unfold wpOp
  simp only [ho, show Region.wanted o (yielded ops a.tmps) = true by simp [Region.wanted, hg], if_true]
  exact .inl h
end
end Go.My
end

section
/-
  Bytes written into, and read out of, a row of the call's own. No program, no dump. (XR5, XNumM have the same beside functions of the program: this text is for seats without them.)
-/
namespace Go.My
open Go.RowKit
theorem own_store {E : TypeId} {base : Nat} {w : World} {g n c : Nat} {l : List UInt8} (h : Own E base w (.slice (some ⟨g, 0, none⟩) n c) l) (hn : l.length = n) (i : Nat) (b : UInt8) :
    Own E base (w.setCell ⟨g, i, none⟩ (bv b)) (.slice (some ⟨g, 0, none⟩) n c) (l.set i b) := by
  subst hn
  have := (World.ownsRow.stored h i (bv b)).1
  unfold Own
  rw [List.length_set, List.map_set]
  exact this
theorem own_cell {E : TypeId} {base : Nat} {w : World} {g n c : Nat} {l : List UInt8} (h : Own E base w (.slice (some ⟨g, 0, none⟩) n c) l) (hn : l.length = n) (i : Nat) (hi : i < l.length) : w.cell? ⟨g, i, none⟩ = some (bv l[i]) := by
  subst hn
  have hl := h
  unfold Own at hl
  have hcell := World.ownsRow.cellAt hl i (by simpa using hi)
  rw [hcell, List.getElem?_map, List.getElem?_eq_getElem hi]
  rfl
theorem own_free {E : TypeId} {base : Nat} {w : World} {g n c : Nat} {l : List UInt8} (h : Own E base w (.slice (some ⟨g, 0, none⟩) n c) l) (hn : l.length = n) (i : Nat) : w.frozen? ⟨g, i, none⟩ = false := by
  subst hn
  exact World.ownsRow.frozenAt h i
end Go.My
end
