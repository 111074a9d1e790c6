import Derived.Test.YtilfmmjjiiabgaaGreatDoorMgAb
import Derived.Test.YtilfmmjjiiabgaaGreatDoorMgAz
import Derived.Test.YtilfmmjjiiabgaaGreatDoorMgBn
import Derived.Test.YtilfmmjjiiabgaaGreatDoorMgBp
import Derived.Test.YtilfmmjjiiabgaaGreatDoorMgBo
import Derived.Test.YtilfmmjjiiabgaaGreatDoorMgBl

section
/-
  gzip's header with all of its fields: what is read of any beginning of it. No program, no dump.
-/
namespace GzMath
open Go.My.NumMath CrcMath

theorem zer_behind (l r : List UInt8) (h : ∀ c ∈ l, c ≠ 0) : zer (l ++ 0 :: r) = l.length := by
  induction l with
  | nil => simp [zer]
  | cons c l ih =>
    rw [List.cons_append]
    unfold zer
    rw [if_neg (h c (by simp)), ih (fun d hd => h d (by simp [hd]))]
    simp
section
variable {ex nm rm : List UInt8} (t r : List UInt8)
theorem drop_at {a b : List UInt8} {k : Nat} (h : k = a.length) : (a ++ b).drop k = b := by rw [h]; simp
end
end GzMath
end

section
/-
  inflate's machine over stored blocks. No program, no dump.
-/
namespace InfMath
open BitMath CanMath TabMath WinMath

/-- A stored block's bytes, at a byte's beginning. -/
def stored (c : List UInt8) (last : Bool) : List UInt8 :=
  [if last then 1 else 0, UInt8.ofNat c.length, UInt8.ofNat (c.length / 256), UInt8.ofNat (255 - c.length % 256), UInt8.ofNat (255 - c.length / 256)] ++ c
theorem stored_len (c : List UInt8) (last : Bool) : (stored c last).length = 5 + c.length := by
  unfold stored; simp; omega
theorem take_two (a b : UInt8) (t : List UInt8) : num ((bitsOf (a :: b :: t)).take 16) = a.toNat + 256 * b.toNat := by
  rw [bitsOf_cons, bitsOf_cons, ← List.append_assoc, List.take_append_of_le_length (by simp [lows_len]), List.take_of_length_le (by simp [lows_len]), num_append, lows_len, num_lows, num_lows]
  have := a.toNat_lt
  have := b.toNat_lt
  omega
theorem bytes_step {s : M} {c : UInt8} {t : List UInt8} (hn : s.next = 3) (hb : s.bits = bitsOf (c :: t)) (hl : 0 < s.left) :
    step s = if s.most ≤ s.total then .halt 3 else .more { put s c with bits := bitsOf t, left := s.left - 1 } := by
  have h1 : step s = readBytes s := by unfold step; rw [hn]; rfl
  have h2 : 8 ≤ s.bits.length := by rw [hb, bitsOf_len, List.length_cons]; omega
  have h3 : num (s.bits.take 8) = c.toNat := by rw [hb, bitsOf_cons]; exact take_lows c _
  have h4 : s.bits.drop 8 = bitsOf t := by rw [hb]; exact bitsOf_drop (c :: t) 1
  rw [h1]
  unfold readBytes
  rw [if_neg (by omega), if_neg (by omega), h3, h4, UInt8.ofNat_toNat]
theorem bytes_steps : ∀ (c : List UInt8) (s : M) (r : List UInt8), s.next = 3 → s.bits = bitsOf (c ++ r) → s.left = c.length → s.total + c.length ≤ s.most →
    Steps s { s with bits := bitsOf r, left := 0, hist := s.hist ++ c, out := s.out ++ c, total := s.total + c.length }
  | [], s, r, hn, hb, hl, _ => by
    have e : ({ s with bits := bitsOf r, left := 0, hist := s.hist ++ [], out := s.out ++ [], total := s.total + ([] : List UInt8).length } : M) = s := by
      simp at hb hl
      cases s; simp_all
    rw [e]; exact .refl s
  | c :: t, s, r, hn, hb, hl, hm => by
    rw [List.length_cons] at hl hm
    have h1 := bytes_step (s := s) (c := c) (t := t ++ r) hn hb (by omega)
    rw [if_neg (by omega)] at h1
    have h2 := bytes_steps t { put s c with bits := bitsOf (t ++ r), left := s.left - 1 } r hn rfl (by simp only; omega) (by simp only [put]; omega)
    refine .cons h1 ?_
    have e : ({ s with bits := bitsOf r, left := 0, hist := s.hist ++ c :: t, out := s.out ++ c :: t, total := s.total + (c :: t).length } : M) = { ({ put s c with bits := bitsOf (t ++ r), left := s.left - 1 } : M) with bits := bitsOf r, left := 0, hist := (s.hist ++ [c]) ++ t, out := (s.out ++ [c]) ++ t, total := (s.total + 1) + t.length } := by
      simp [put]; omega
    rw [e]; exact h2
theorem bytes_over : ∀ (c : List UInt8) (s : M) (r : List UInt8), s.next = 3 → s.bits = bitsOf (c ++ r) → s.left = c.length → s.total ≤ s.most → s.most < s.total + c.length → ∃ t, Ends s t 3
  | [], s, r, hn, hb, hl, h1, h2 => by simp at h2; omega
  | c :: t, s, r, hn, hb, hl, h1, h2 => by
    rw [List.length_cons] at hl h2
    have h3 := bytes_step (s := s) (c := c) (t := t ++ r) hn hb (by omega)
    by_cases hm : s.most ≤ s.total
    · rw [if_pos hm] at h3
      exact ⟨s, .refl s, h3⟩
    · rw [if_neg hm] at h3
      obtain ⟨u, hu⟩ := bytes_over t { put s c with bits := bitsOf (t ++ r), left := s.left - 1 } r hn rfl (by simp only; omega) (by simp only [put]; omega) (by simp only [put]; omega)
      exact ⟨u, .one h3 hu⟩

/-- The head of a stored block. -/
theorem head_steps {s : M} {c r : List UInt8} {last : Bool} (hn : s.next = 1) (hb : s.bits = bitsOf (stored c last ++ r)) (hc : c.length < 65536) :
    Steps s { s with bits := bitsOf (c ++ r), final := last, left := c.length, next := 3 } := by
  have hbl : s.bits.length = 8 * (5 + c.length + r.length) := by rw [hb, bitsOf_len, List.length_append, stored_len]
  obtain ⟨a, ha⟩ : ∃ a : UInt8, a = if last then 1 else 0 := ⟨_, rfl⟩
  obtain ⟨q, hq⟩ : ∃ q : List UInt8, q = UInt8.ofNat c.length :: UInt8.ofNat (c.length / 256) :: UInt8.ofNat (255 - c.length % 256) :: UInt8.ofNat (255 - c.length / 256) :: (c ++ r) := ⟨_, rfl⟩
  have e0 : stored c last ++ r = a :: q := by rw [ha, hq]; rfl
  rw [e0, bitsOf_cons] at hb
  have h3 : num (s.bits.take 3) = if last then 1 else 0 := by
    rw [hb, List.take_append_of_le_length (by rw [lows_len]; omega), ha]
    cases last <;> rfl
  have hd3 : s.bits.drop 3 = (lows 8 a.toNat).drop 3 ++ bitsOf q := by
    rw [hb, List.drop_append_of_le_length (by rw [lows_len]; omega)]
  have hd8 : (s.bits.drop 3).drop 5 = bitsOf q := by
    rw [hd3, List.drop_append_of_le_length (by simp [lows_len]), List.drop_drop, List.drop_of_length_le (by rw [lows_len]; omega)]; rfl
  have h1 : step s = .more { s with bits := s.bits.drop 3, final := last, next := 2 } := by
    have : step s = opening s := by unfold step; rw [hn]; rfl
    rw [this]
    unfold opening
    rw [if_neg (by omega), h3]
    cases last <;> rfl
  have h2 : step { s with bits := s.bits.drop 3, final := last, next := 2 } = .more { s with bits := bitsOf q, final := last, next := 2 } := by
    have : step { s with bits := s.bits.drop 3, final := last, next := 2 } = readSize { s with bits := s.bits.drop 3, final := last, next := 2 } := by unfold step; rfl
    rw [this]
    unfold readSize
    have hl : (s.bits.drop 3).length % 8 = 5 := by rw [List.length_drop]; omega
    simp only [hl, hd8]
    rfl
  have hql : (bitsOf q).length = 8 * (4 + c.length + r.length) := by rw [bitsOf_len, hq]; simp; omega
  have hlo : num ((bitsOf q).take 16) = c.length := by
    rw [hq, take_two, UInt8.toNat_ofNat', UInt8.toNat_ofNat']; omega
  have hhi : num (((bitsOf q).drop 16).take 16) = 65535 - c.length := by
    rw [show (16 : Nat) = 8 * 2 from rfl, bitsOf_drop, hq]
    show num ((bitsOf (UInt8.ofNat (255 - c.length % 256) :: UInt8.ofNat (255 - c.length / 256) :: (c ++ r))).take 16) = _
    rw [take_two, UInt8.toNat_ofNat', UInt8.toNat_ofNat']; omega
  have hdr : (bitsOf q).drop 32 = bitsOf (c ++ r) := by
    rw [show (32 : Nat) = 8 * 4 from rfl, bitsOf_drop, hq]; rfl
  have h4 : step { s with bits := bitsOf q, final := last, next := 2 } = .more { s with bits := bitsOf (c ++ r), final := last, left := c.length, next := 3 } := by
    have : step { s with bits := bitsOf q, final := last, next := 2 } = readSize { s with bits := bitsOf q, final := last, next := 2 } := by unfold step; rfl
    rw [this]
    unfold readSize
    simp only [hlo, hhi, hdr]
    rw [if_neg (by omega), if_neg (by omega), if_neg (by omega)]
  exact .cons h1 (.cons h2 (.one h4))
theorem stored_steps {s : M} {c r : List UInt8} {last : Bool} (hn : s.next = 1) (hb : s.bits = bitsOf (stored c last ++ r)) (hc : c.length < 65536) (hl : s.left = 0) (hm : s.total + c.length ≤ s.most) :
    Steps s { s with bits := bitsOf r, final := last, hist := s.hist ++ c, out := s.out ++ c, total := s.total + c.length, next := if last then 11 else 1 } := by
  refine (head_steps hn hb hc).trans ?_
  refine (bytes_steps c { s with bits := bitsOf (c ++ r), final := last, left := c.length, next := 3 } r rfl rfl rfl hm).snoc ?_
  unfold step readBytes close
  simp only [if_true]
  rw [← hl]
end InfMath
end

section
/-
  gzip's members, as plain lists: headers, streams that end in the first piece, a turned byte. No dump.
-/
namespace Go.Proofs.YtilfmmjjiiabgaaGreatDoor.GzC
open Go.RowKit Go.My GzMath CrcMath Flt InfC
open InfMath (M Ok)
open Go.My.NumMath (bytesOf bytesOf_len byteAt byteAt_toNat)

theorem num_bytes4 (v : Nat) (h : v ≤ 4294967295) : Go.My.NumMath.num false (bytesOf false 4 v) = v := by
  have e : bytesOf false 4 v = [byteAt v 0, byteAt v 1, byteAt v 2, byteAt v 3] := rfl
  rw [e]
  simp [Go.My.NumMath.num, Go.My.NumMath.V, byteAt_toNat]
  omega
/-- A header that was put is read. -/
theorem rd_put (named : Bool) (name : List UInt8) (u : Nat) (r : List UInt8) (hz : ∀ c ∈ name, c ≠ 0) (hn : name.length ≤ 1000) (he : named = false → name = []) (hu : u ≤ 4294967295) :
    rd (putH named name u ++ r) = .ok ⟨named, name, u, (putH named name u).length⟩ := by
  obtain ⟨T, hT⟩ : ∃ T, T = (if named then name ++ [0] else []) ++ r := ⟨_, rfl⟩
  have e : putH named name u ++ r = [31, 139, 8, flagB named] ++ (bytesOf false 4 u ++ ([0, 255] ++ T)) := by
    rw [hT]; unfold putH; simp
  have hlen : (putH named name u ++ r).length = 10 + T.length := by
    rw [e]; simp [bytesOf_len]; omega
  have h4 : (putH named name u ++ r).drop 4 = bytesOf false 4 u ++ ([0, 255] ++ T) := by rw [e]; exact drop_at rfl
  have h8 : (putH named name u ++ r).drop 8 = [0, 255] ++ T := by
    rw [show (8 : Nat) = 4 + 4 from rfl, ← List.drop_drop, h4]; exact drop_at (by rw [bytesOf_len])
  have h10 : (putH named name u ++ r).drop 10 = T := by
    rw [show (10 : Nat) = 8 + 2 from rfl, ← List.drop_drop, h8]; rfl
  have g0 : (putH named name u ++ r).getD 0 0 = 31 := by rw [e]; rfl
  have g1 : (putH named name u ++ r).getD 1 0 = 139 := by rw [e]; rfl
  have g2 : (putH named name u ++ r).getD 2 0 = 8 := by rw [e]; rfl
  have g3 : (putH named name u ++ r).getD 3 0 = flagB named := by rw [e]; rfl
  have hp : (putH named name u).length = if named then 11 + name.length else 10 := by
    unfold putH; cases named <;> simp [bytesOf_len]; omega
  generalize putH named name u ++ r = b at *
  have t0 : ((31 : UInt8).toNat) = 31 := rfl
  have t1 : ((139 : UInt8).toNat) = 139 := rfl
  have t2 : ((8 : UInt8).toNat) = 8 := rfl
  have hf : (flagB named).toNat = if named then 8 else 0 := by cases named <;> rfl
  have hfl : ¬ 32 ≤ (flagB named).toNat := by rw [hf]; split <;> omega
  unfold rd
  rw [g0, g1, g2, g3, h4, List.take_append_of_le_length (by rw [bytesOf_len]; omega), List.take_of_length_le (by rw [bytesOf_len]; omega), num_bytes4 u hu]
  rw [if_neg (by omega), if_neg (by simp), if_neg (by omega), if_neg (by simp), if_neg (by omega), if_neg (by simp), if_neg (by omega), if_neg hfl, if_neg (by omega), if_neg (by omega)]
  unfold gext
  rw [hf]
  cases named with
  | false =>
    obtain rfl := he rfl
    simp only [Bool.false_eq_true, if_false] at hp ⊢
    rw [if_neg (by decide)]
    unfold gnam grem gsum
    rw [if_neg (by decide), if_neg (by decide), if_neg (by decide), hp]
  | true =>
    simp only [if_true] at hp ⊢
    rw [if_neg (by decide)]
    unfold gnam
    have hT2 : T = name ++ 0 :: r := by rw [hT]; simp
    have hzr : zer T = name.length := by rw [hT2]; exact zer_behind name r hz
    have htx : tx T = 0 := by unfold tx; rw [if_pos (by rw [hzr, hT2]; simp; omega)]
    rw [if_pos (by decide), h10, htx, if_neg (by decide), hzr]
    unfold grem gsum
    rw [if_neg (by decide), if_neg (by decide), hp, hT2, List.take_left]
    congr 2
    omega

/-! ### streams -/
/-- The first piece of what follows. -/
abbrev piece (l : List UInt8) : List UInt8 := l.take (min 256 l.length)
theorem piece_app {S r : List UInt8} (h : S.length ≤ 256) : ∃ r', piece (S ++ r) = S ++ r' := by
  refine ⟨r.take (min 256 (S ++ r).length - S.length), ?_⟩
  unfold piece
  rw [List.take_append, List.take_of_length_le (by simp; omega)]
/-- A stream of these bytes: whatever follows, it ends with these ones. -/
def Str (room : Nat) (S d : List UInt8) : Prop := ∀ r, ∃ t, InfMath.Ends (began false 32768 room (piece (S ++ r))) t 0 ∧ S.length = t.pushed - t.bits.length / 8 ∧ d = t.out
/-- A stream that asks for more than there may be. -/
def Ovs (room : Nat) (S : List UInt8) : Prop := ∀ r, ∃ t, InfMath.Ends (began false 32768 room (piece (S ++ r))) t 3
theorem sto_str (room : Nat) (d : List UInt8) (h : d.length ≤ 200) (hr : d.length ≤ room) : Str room (InfMath.stored d true) d := fun r => by
  obtain ⟨r', hr'⟩ := piece_app (S := InfMath.stored d true) (r := r) (by rw [InfMath.stored_len]; omega)
  rw [hr']
  obtain ⟨s, hs⟩ : ∃ s, s = began false 32768 room (InfMath.stored d true ++ r') := ⟨_, rfl⟩
  rw [← hs]
  have h2 := InfMath.stored_steps (s := s) (c := d) (r := r') (last := true) (by rw [hs]; rfl) (by rw [hs]) (by omega) (by rw [hs]; rfl) (by rw [hs]; simpa [InfMath.start] using hr)
  refine ⟨_, ⟨h2, by unfold InfMath.step; rfl⟩, ?_, ?_⟩
  · rw [hs]
    simp only [BitMath.bitsOf_len, List.length_append]
    omega
  · rw [hs]; simp [InfMath.start]
theorem sto_ovs (room : Nat) (d : List UInt8) (h : d.length ≤ 200) (hr : room < d.length) : Ovs room (InfMath.stored d true) := fun r => by
  obtain ⟨r', hr'⟩ := piece_app (S := InfMath.stored d true) (r := r) (by rw [InfMath.stored_len]; omega)
  rw [hr']
  obtain ⟨s, hs⟩ : ∃ s, s = began false 32768 room (InfMath.stored d true ++ r') := ⟨_, rfl⟩
  rw [← hs]
  have h2 := InfMath.head_steps (s := s) (c := d) (r := r') (last := true) (by rw [hs]; rfl) (by rw [hs]) (by omega)
  obtain ⟨t, ht⟩ := InfMath.bytes_over d { s with bits := BitMath.bitsOf (d ++ r'), final := true, left := d.length, next := 3 } r' rfl rfl rfl (by rw [hs]; simp [InfMath.start]) (by rw [hs]; simpa [InfMath.start] using hr)
  exact ⟨t, .of h2 ht⟩

/-! ### a stream that is known to end -/
theorem gd_began (room : Nat) (l : List UInt8) (n : Nat) : InfMath.Gd (InfMath.bg false 32768 room l n) := InfMath.gd_other ⟨by show (1 : Nat) ≠ 8; decide, by show (1 : Nat) ≠ 9; decide, by show (1 : Nat) ≠ 10; decide⟩
/-- With bytes behind. -/
theorem ends_behind {room c : Nat} {S : List UInt8} (r' : List UInt8) {t : M} (hm : room ≤ 1073741824) (hS : S.length ≤ 1000) (hr : r'.length ≤ 1000) (h : InfMath.Ends (began false 32768 room S) t c) (hc : c ≠ 5) :
    ∃ t', InfMath.Ends (began false 32768 room (S ++ r')) t' c ∧ t'.out = t.out ∧ t'.bits = t.bits ++ BitMath.bitsOf r' ∧ t'.pushed = (S ++ r').length := by
  have hl : (S ++ r').length = S.length + r'.length := List.length_append
  obtain ⟨h1, h2⟩ := InfMath.ends_pu (S ++ r').length h
  have hbg : InfMath.pu (S ++ r').length (began false 32768 room S) = InfMath.bg false 32768 room S (S ++ r').length := rfl
  rw [hbg] at h1
  have hok : Ok (InfMath.bg false 32768 room S (S ++ r').length) := ok_open (wide := false) (S := 32768) (most := room) (p := (S ++ r').length) (bs := BitMath.bitsOf S) (by omega) (by omega) hm (by omega) (by rw [BitMath.bitsOf_len]; omega)
  have hk := InfMath.keep_steps h1
  refine ⟨InfMath.ext (InfMath.pu (S ++ r').length t) (BitMath.bitsOf r'), ⟨?_, ?_⟩, rfl, rfl, hk.2⟩
  · have := InfMath.ext_steps (BitMath.bitsOf r') (InfMath.mod8 r') hok h1
    rw [InfMath.ext_bg] at this
    exact this
  · exact InfMath.halt_ext (BitMath.bitsOf r') (InfMath.mod8 r') (hok.steps h1) (InfMath.gd_steps (gd_began _ _ _) h1) hk.1 hc h2
/-- Four bytes of 259 ones alike. -/
def run4 : List UInt8 := [115, 28, 5, 0]
theorem run4_is : ((InfMath.run 40 (began false 32768 259 run4)).2 = some 0 ∧ (InfMath.run 40 (began false 32768 259 run4)).1.out = List.replicate 259 65) ∧ (InfMath.run 40 (began false 32768 259 run4)).1.bits.length < 8 := by decide +kernel
theorem up_next (m : Nat) (s : M) : (InfMath.up m s).next = s.next := rfl
theorem up_bits (m : Nat) (s : M) : (InfMath.up m s).bits = s.bits := rfl
theorem up_out (m : Nat) (s : M) : (InfMath.up m s).out = s.out := rfl
theorem over_dist {m : Nat} {s : M} (hn : s.next = 10) (hm : m < s.total + s.matching) : InfMath.step (InfMath.up m s) = .halt 3 := by
  unfold InfMath.step
  rw [up_next, hn]
  show InfMath.readDistance (InfMath.up m s) = .halt 3
  unfold InfMath.readDistance
  rw [if_pos]
  exact hm
/-- The match, where there is room for one byte. -/
theorem run4_mat : (InfMath.run 40 (began false 32768 1 run4)).2 = some 3 ∧ (InfMath.run 40 (began false 32768 1 run4)).1.next = 10 ∧ (InfMath.run 40 (began false 32768 1 run4)).1.total = 1 ∧ (InfMath.run 40 (began false 32768 1 run4)).1.matching = 258 := by decide +kernel
theorem run4_none : (InfMath.run 40 (began false 32768 0 run4)).2 = some 3 := by decide +kernel
theorem run4_over (m : Nat) (h : m < 259) : ∃ t, InfMath.Ends (began false 32768 m run4) t 3 := by
  by_cases h0 : m = 0
  · subst h0; exact ⟨_, ends_run run4_none⟩
  · have h1 := (ends_run run4_mat.1).1
    obtain ⟨-, hn, ht, hm⟩ := run4_mat
    generalize (InfMath.run 40 (began false 32768 1 run4)).1 = s at *
    have h2 := InfMath.up_steps (q := m) (show 1 ≤ m by omega) h1
    have e : InfMath.up m (began false 32768 1 run4) = began false 32768 m run4 := rfl
    rw [e] at h2
    exact ⟨_, h2, over_dist hn (by rw [ht, hm]; omega)⟩
theorem run4_str (room : Nat) (h : 259 ≤ room) (h2 : room ≤ 1073741824) : Str room run4 (List.replicate 259 65) := fun r => by
  obtain ⟨r', hr'⟩ := piece_app (S := run4) (r := r) (by decide)
  have hrl : r'.length ≤ 1000 := by
    have := congrArg List.length hr'
    rw [List.length_append] at this
    unfold piece at this
    rw [List.length_take] at this
    omega
  rw [hr']
  have h0 := ends_run run4_is.1.1
  have hok : Ok (began false 32768 259 run4) := ok_open (wide := false) (S := 32768) (most := 259) (p := run4.length) (bs := BitMath.bitsOf run4) (by omega) (by omega) (by omega) (by decide) (by rw [BitMath.bitsOf_len]; omega)
  have h1 := InfMath.up_ends (q := room) hok h h0
  have e : InfMath.up room (began false 32768 259 run4) = began false 32768 room run4 := rfl
  rw [e] at h1
  obtain ⟨t', ht, ho, hb, hp⟩ := ends_behind r' h2 (by decide) hrl h1 (by decide)
  refine ⟨t', ht, ?_, ?_⟩
  · have hb8 := run4_is.2
    have h4 : run4.length = 4 := rfl
    rw [hp, hb, up_bits]
    generalize (InfMath.run 40 (began false 32768 259 run4)).1.bits = Z at *
    rw [List.length_append, List.length_append, BitMath.bitsOf_len, h4]
    omega
  · rw [ho, up_out]; exact run4_is.1.2.symm
theorem run4_ovs (room : Nat) (h : room < 259) : Ovs room run4 := fun r => by
  obtain ⟨r', hr'⟩ := piece_app (S := run4) (r := r) (by decide)
  have hrl : r'.length ≤ 1000 := by
    have := congrArg List.length hr'
    rw [List.length_append] at this
    unfold piece at this
    rw [List.length_take] at this
    omega
  rw [hr']
  obtain ⟨u, hu⟩ := run4_over room h
  obtain ⟨t', ht, -⟩ := ends_behind r' (by omega) (by decide) hrl hu (by decide)
  exact ⟨t', ht⟩

/-! ### a turned byte -/
theorem byte_ne {r : BitVec 32} {x y : UInt8} (h : x ≠ y) : byteCstep r x ≠ byteCstep r y := fun e => by
  have h1 := byteStep_xor r r x y
  rw [e, BitVec.xor_self, BitVec.xor_self] at h1
  unfold byteCstep at h1
  rw [BitVec.zero_xor] at h1
  have h2 := cstepN_eq_zero 8 h1
  rw [ext_xor] at h2
  have h3 : ext x = ext y := by
    have := congrArg (· ^^^ ext y) h2
    simp only [xx, BitVec.zero_xor] at this
    exact this
  rw [← ofNat_ext, ← ofNat_ext] at h3
  have h4 := congrArg BitVec.toNat h3
  have hx := x.toNat_lt
  have hy := y.toNat_lt
  rw [BitVec.toNat_ofNat, BitVec.toNat_ofNat, Nat.mod_eq_of_lt (by omega), Nat.mod_eq_of_lt (by omega)] at h4
  exact h (UInt8.toNat_inj.1 h4)
theorem reg_ne {r s : BitVec 32} (m : List UInt8) (h : r ≠ s) : reg r m ≠ reg s m := fun e => by
  have h1 := reg_split (r ^^^ s) s m
  rw [xx, e] at h1
  have h2 : cstepN (8 * m.length) (r ^^^ s) = 0#32 := by
    have := congrArg (· ^^^ reg s m) h1
    simp only [xx, BitVec.xor_self] at this
    exact this.symm
  have h3 := cstepN_eq_zero _ h2
  apply h
  have := congrArg (· ^^^ s) h3
  simp only [xx, BitVec.zero_xor] at this
  exact this
theorem crc_turned (p q : List UInt8) {x y : UInt8} (h : x ≠ y) : crc 0#32 (p ++ x :: q) ≠ crc 0#32 (p ++ y :: q) := fun e => by
  unfold crc at e
  have e2 := congrArg (· ^^^ ones) e
  simp only [xx] at e2
  rw [reg_append, reg_append] at e2
  exact reg_ne q (byte_ne h) e2
theorem crc_set {d : List UInt8} {i : Nat} (hi : i < d.length) {y : UInt8} (h : y ≠ d[i]) : crc 0#32 (d.set i y) ≠ crc 0#32 d := by
  rw [List.set_eq_take_append_cons_drop, if_pos hi]
  have e : d = d.take i ++ d[i] :: d.drop (i + 1) := by simp
  intro hh
  refine crc_turned (d.take i) (d.drop (i + 1)) h (hh.trans ?_)
  rw [← e]
theorem four_inj {u v : Nat} (hu : u ≤ 4294967295) (hv : v ≤ 4294967295) (h : bytesOf false 4 u = bytesOf false 4 v) : u = v := by
  rw [← num_bytes4 u hu, h, num_bytes4 v hv]
theorem tail_ne {d e : List UInt8} (h : crc 0#32 d ≠ crc 0#32 e) : tailB d ≠ tailB e := fun hh => by
  unfold tailB at hh
  have h1 := (List.append_inj hh (by rw [bytesOf_len, bytesOf_len])).1
  have hb := (crc 0#32 d).isLt
  have hc := (crc 0#32 e).isLt
  exact h (BitVec.eq_of_toNat_eq (four_inj (by omega) (by omega) h1))
theorem tailB_len (d : List UInt8) : (tailB d).length = 8 := by unfold tailB; rw [List.length_append, bytesOf_len, bytesOf_len]
end Go.Proofs.YtilfmmjjiiabgaaGreatDoor.GzC
end
