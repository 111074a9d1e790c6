import Derived.Test.YtihcebpkbkgmcaaFeedQ
namespace Go.Proofs.Ytihcebpkbkgmcaa.FeedC
open Go.RowKit Go.My BitMath RefC

/-- What came in as a row of ints. -/
def Ints (w : World) (a : Option Addr) (len cap : Nat) : Prop :=
  len ≤ cap ∧ cap ≤ 9223372036854775807 ∧ (len = 0 ∨ ∃ b off, a = some ⟨b, off, none⟩ ∧ b < w.heap.size ∧ ∀ i, i < len → ∃ z : Int, -9223372036854775808 ≤ z ∧ z ≤ 9223372036854775807 ∧ w.cell? ⟨b, off + i, none⟩ = some (.int .i64 z))
theorem row_ints {w : World} {a : Option Addr} {len cap : Nat} {zs : List Int}
    (h : (a = none ∧ len = 0 ∧ cap = 0 ∧ zs = []) ∨
      ∃ x, a = some x ∧ len ≤ cap ∧ cap ≤ maxLen ∧ zs.length = cap ∧ (∀ i, i < zs.length → w.cell? (x.add i) = some (.int .i64 (zs.getD i 0))) ∧ ∀ n ∈ zs, (Lit.int .i64 n).wf = true) : Ints w a len cap := by
  rcases h with ⟨rfl, rfl, rfl, rfl⟩ | ⟨x, rfl, h1, h2, h3, h4, h5⟩
  · exact ⟨Nat.le_refl _, by omega, .inl rfl⟩
  · unfold maxLen at h2
    refine ⟨h1, h2, ?_⟩
    by_cases h0 : len = 0
    · exact .inl h0
    · right
      obtain ⟨b, off, spot⟩ := x
      have hc := h4 0 (by omega)
      have hspot : spot = Option.none := by simpa [Addr.add] using World.cell?_spot hc
      subst hspot
      refine ⟨b, off, rfl, block_lt_of_cell hc, fun i hi => ?_⟩
      have hi' : i < zs.length := by omega
      have := h4 i hi'
      rw [addr_add] at this
      have hw := wf_int (h5 zs[i] (List.getElem_mem hi'))
      refine ⟨zs[i], hw.1, hw.2, ?_⟩
      rw [this, List.getD_eq_getElem?_getD, List.getElem?_eq_getElem hi']
      rfl
theorem Ints.get {w wr : World} {a : Option Addr} {len cap : Nat} (h : Ints w a len cap) (hb : Below w.heap.size w wr) (i : Nat) (hi : i < len) :
    ∃ b off, a = some ⟨b, off, none⟩ ∧ ∃ z : Int, -9223372036854775808 ≤ z ∧ z ≤ 9223372036854775807 ∧ wr.cell? ⟨b, off + i, none⟩ = some (.int .i64 z) := by
  rcases h.2.2 with h0 | ⟨b, off, ha, hlt, hz⟩
  · omega
  · obtain ⟨z, z1, z2, hc⟩ := hz i hi
    exact ⟨b, off, ha, z, z1, z2, by rw [hb.cell (p := ⟨b, off + i, none⟩) hlt]; exact hc⟩

/-- The bits that were pushed, but for those that were skipped. -/
def lead (lb : List UInt8) (at_ c : Nat) : List Bool := (bitsOf (lb.take at_)).drop c
theorem lead_len (lb : List UInt8) (at_ c : Nat) (h : at_ ≤ lb.length) : (lead lb at_ c).length = 8 * at_ - c := by
  unfold lead; rw [List.length_drop, bitsOf_len, List.length_take]; omega
theorem lead_more (lb : List UInt8) (at_ c m : Nat) (h : c ≤ 8 * at_) (ha : at_ ≤ lb.length) : lead lb at_ c ++ bitsOf ((lb.drop at_).take m) = lead lb (at_ + m) c := by
  unfold lead
  rw [List.take_add, bitsOf_append, List.drop_append_of_le_length (by rw [bitsOf_len, List.length_take]; omega)]
theorem lead_drop (lb : List UInt8) (at_ c n : Nat) : (lead lb at_ c).drop n = lead lb at_ (c + n) := by
  unfold lead; rw [List.drop_drop]
theorem lead_take (lb : List UInt8) (at_ c n : Nat) (ha : at_ ≤ lb.length) (h : c + n ≤ 8 * at_) : (lead lb at_ c).take n = (lead lb lb.length c).take n := by
  unfold lead
  have e : lb.take lb.length = lb.take at_ ++ lb.drop at_ := by rw [List.take_length, List.take_append_drop]
  have hl : (bitsOf (lb.take at_)).length = 8 * at_ := by rw [bitsOf_len, List.length_take]; omega
  rw [e, bitsOf_append, List.drop_append_of_le_length (by omega), List.take_append_of_le_length (by rw [List.length_drop]; omega)]

/-- What the rounds of FeedPieces keep. -/
def Pair (w wr : World) (B2 f2 : Nat) (lb : List UInt8) (at_ c : Nat) : Prop :=
  ∃ F1 F2, Two w wr B2 f2 F1 F2 (lead lb lb.length c) lb.length (lead lb at_ c) at_
theorem Pair.later {w wr w2 : World} {B2 f2 : Nat} {lb : List UInt8} {at_ c : Nat} (h : Pair w wr B2 f2 lb at_ c) (hb : Below wr.heap.size wr w2) : Pair w w2 B2 f2 lb at_ c := by
  obtain ⟨F1, F2, h⟩ := h; exact ⟨F1, F2, h.later hb⟩
theorem Pair.below {w wr : World} {B2 f2 : Nat} {lb : List UInt8} {at_ c : Nat} (h : Pair w wr B2 f2 lb at_ c) : Below w.heap.size w wr := by
  obtain ⟨F1, F2, h⟩ := h; exact h.below

section
variable {w wr : World} {B2 f2 : Nat} {lb : List UInt8} {at_ c : Nat}
theorem one_bits (H : Hid (Pair w wr B2 f2 lb at_ c)) (hl : lb.length ≤ 60) :
    Calls Try.prog 16 #[.pointer (some ⟨w.heap.size + 1, 0, none⟩)] wr fun e w' => e = .returned (.int .i64 ((8 * lb.length - c : Nat) : Int)) ∧ Hid (Pair w w' B2 f2 lb at_ c) := by
  obtain ⟨F1, F2, h⟩ := H.out
  have hlen := lead_len lb lb.length c (Nat.le_refl _)
  refine (bits_any _ _ _ F1 _ false wr h.one (by omega)).mono fun e w' ⟨he, n, hw⟩ => ?_
  subst hw
  exact ⟨by rw [he, hlen], Lib.hid ⟨F1, F2, h.drewN n⟩⟩
theorem many_bits (H : Hid (Pair w wr B2 f2 lb at_ c)) (hl : lb.length ≤ 60) (ha : at_ ≤ lb.length) :
    Calls Try.prog 16 #[.pointer (some ⟨f2, 0, none⟩)] wr fun e w' => e = .returned (.int .i64 ((8 * at_ - c : Nat) : Int)) ∧ Hid (Pair w w' B2 f2 lb at_ c) := by
  obtain ⟨F1, F2, h⟩ := H.out
  have hlen := lead_len lb at_ c ha
  refine (bits_any _ _ _ F2 _ false wr h.many (by omega)).mono fun e w' ⟨he, n, hw⟩ => ?_
  subst hw
  exact ⟨by rw [he, hlen], Lib.hid ⟨F1, F2, h.drewN n⟩⟩
theorem one_peek (H : Hid (Pair w wr B2 f2 lb at_ c)) (n : Nat) :
    Calls Try.prog 10 #[.pointer (some ⟨w.heap.size + 1, 0, none⟩), .int .i64 (n : Int)] wr fun e w' => e = .returned (.int .u32 ((peekV (lead lb lb.length c) n : Nat) : Int)) ∧ Hid (Pair w w' B2 f2 lb at_ c) := by
  obtain ⟨F1, F2, h⟩ := H.out
  refine (peek_any n _ _ _ F1 _ false wr h.one).mono fun e w' ⟨he, k, hw⟩ => ?_
  subst hw
  exact ⟨he, Lib.hid ⟨F1, F2, h.drewN k⟩⟩
theorem many_peek (H : Hid (Pair w wr B2 f2 lb at_ c)) (n : Nat) (ha : at_ ≤ lb.length) (hn : c + n ≤ 8 * at_ ∨ at_ = lb.length) :
    Calls Try.prog 10 #[.pointer (some ⟨f2, 0, none⟩), .int .i64 (n : Int)] wr fun e w' => e = .returned (.int .u32 ((peekV (lead lb lb.length c) n : Nat) : Int)) ∧ Hid (Pair w w' B2 f2 lb at_ c) := by
  obtain ⟨F1, F2, h⟩ := H.out
  have hv : peekV (lead lb at_ c) n = peekV (lead lb lb.length c) n := by
    rcases hn with hn | hn
    · unfold peekV
      rw [Int.toNat_natCast, lead_take lb at_ c n ha hn]
    · rw [hn]
  refine (peek_any n _ _ _ F2 _ false wr h.many).mono fun e w' ⟨he, k, hw⟩ => ?_
  subst hw
  exact ⟨by rw [he, hv], Lib.hid ⟨F1, F2, h.drewN k⟩⟩

/-- Both skipped: first the one, then the other. -/
theorem one_skip (H : Hid (Pair w wr B2 f2 lb at_ c)) (hl : lb.length ≤ 60) (n : Nat) (hn : c + n ≤ 8 * lb.length) :
    Calls Try.prog 11 #[.pointer (some ⟨w.heap.size + 1, 0, none⟩), .int .i64 (n : Int)] wr fun e w' => e = .returned (.int .i64 0) ∧ Hid (∃ F1 F2, Two w w' B2 f2 F1 F2 (lead lb lb.length (c + n)) lb.length (lead lb at_ c) at_) := by
  obtain ⟨F1, F2, h⟩ := H.out
  have hlen := lead_len lb lb.length c (Nat.le_refl _)
  refine (skip_any n _ _ _ F1 _ false wr h.one (by omega)).mono fun e w' ⟨he, hd⟩ => ?_
  have hc : skipCode (lead lb lb.length c) n = 0 := by unfold skipCode; rw [if_neg (by omega), if_neg (by omega)]
  have hb : skipBits (lead lb lb.length c) n = lead lb lb.length (c + n) := by unfold skipBits; rw [if_neg (by omega), if_neg (by omega), Int.toNat_natCast, lead_drop]
  rw [hb] at hd
  obtain ⟨G, h2⟩ := h.one_done hd
  exact ⟨by rw [he, hc], Lib.hid ⟨G, F2, h2⟩⟩
theorem many_skip (n : Nat) (H : Hid (∃ F1 F2, Two w wr B2 f2 F1 F2 (lead lb lb.length (c + n)) lb.length (lead lb at_ c) at_)) (hl : lb.length ≤ 60) (ha : at_ ≤ lb.length) (hn : c + n ≤ 8 * at_) :
    Calls Try.prog 11 #[.pointer (some ⟨f2, 0, none⟩), .int .i64 (n : Int)] wr fun e w' => e = .returned (.int .i64 0) ∧ Hid (Pair w w' B2 f2 lb at_ (c + n)) := by
  obtain ⟨F1, F2, h⟩ := H.out
  have hlen := lead_len lb at_ c ha
  refine (skip_any n _ _ _ F2 _ false wr h.many (by omega)).mono fun e w' ⟨he, hd⟩ => ?_
  have hc : skipCode (lead lb at_ c) n = 0 := by unfold skipCode; rw [if_neg (by omega), if_neg (by omega)]
  have hb : skipBits (lead lb at_ c) n = lead lb at_ (c + n) := by unfold skipBits; rw [if_neg (by omega), if_neg (by omega), Int.toNat_natCast, lead_drop]
  rw [hb] at hd
  obtain ⟨G, h2⟩ := h.many_done hd
  exact ⟨by rw [he, hc], Lib.hid ⟨F1, G, h2⟩⟩
theorem one_used (H : Hid (Pair w wr B2 f2 lb at_ c)) (hl : lb.length ≤ 60) (hc : c ≤ 8 * lb.length) :
    Calls Try.prog 17 #[.pointer (some ⟨w.heap.size + 1, 0, none⟩)] wr fun e w' => e = .returned (.int .i64 (((c + 7) / 8 : Nat) : Int)) ∧ Hid (Pair w w' B2 f2 lb at_ c) := by
  obtain ⟨F1, F2, h⟩ := H.out
  have hlen := lead_len lb lb.length c (Nat.le_refl _)
  refine (used_any _ _ _ F1 _ false wr h.one (by omega) (by omega)).mono fun e w' ⟨he, n, hw⟩ => ?_
  subst hw
  exact ⟨by rw [he]; exact ret_int (by rw [hlen]; omega), Lib.hid ⟨F1, F2, h.drewN n⟩⟩
theorem many_used (H : Hid (Pair w wr B2 f2 lb at_ c)) (hl : lb.length ≤ 60) (ha : at_ ≤ lb.length) (hc : c ≤ 8 * at_) :
    Calls Try.prog 17 #[.pointer (some ⟨f2, 0, none⟩)] wr fun e w' => e = .returned (.int .i64 (((c + 7) / 8 : Nat) : Int)) ∧ Hid (Pair w w' B2 f2 lb at_ c) := by
  obtain ⟨F1, F2, h⟩ := H.out
  have hlen := lead_len lb at_ c ha
  refine (used_any _ _ _ F2 _ false wr h.many (by omega) (by omega)).mono fun e w' ⟨he, n, hw⟩ => ?_
  subst hw
  exact ⟨by rw [he]; exact ret_int (by rw [hlen]; omega), Lib.hid ⟨F1, F2, h.drewN n⟩⟩
theorem many_push (H : Hid (Pair w wr B2 f2 lb at_ c)) (hl : lb.length ≤ 60) (ha : at_ ≤ lb.length) (hc : c ≤ 8 * at_) (m : Nat) (a : Option Addr) (cap : Nat) (hb : Bytes w a m cap ((lb.drop at_).take m)) (hm : at_ + m ≤ lb.length) :
    Calls Try.prog 7 #[.pointer (some ⟨f2, 0, none⟩), .slice a m cap] wr fun e w' => e = .returned (.tuple #[]) ∧ Hid (Pair w w' B2 f2 lb (at_ + m) c) := by
  obtain ⟨F1, F2, h⟩ := H.out
  have hlen := lead_len lb at_ c ha
  refine (push_in _ _ _ F2 _ w wr h.many h.base h.below a m cap _ hb (by omega) (by omega) (by omega)).mono fun e w' ⟨he, hd⟩ => ?_
  rw [lead_more lb at_ c m hc ha] at hd
  obtain ⟨G, h2⟩ := h.many_done hd
  exact ⟨he, Lib.hid ⟨F1, G, h2⟩⟩
end
end Go.Proofs.Ytihcebpkbkgmcaa.FeedC
