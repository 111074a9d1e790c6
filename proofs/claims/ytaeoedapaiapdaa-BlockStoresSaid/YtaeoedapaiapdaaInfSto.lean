/-
  inflate's machine over stored blocks. No program, no dump.
-/
import Derived.Test.YtaeoedapaiapdaaInfMath
namespace InfMath
open BitMath CanMath TabMath WinMath

/-- A stored block's bytes, at a byte's beginning. -/
def stored (c : List UInt8) (last : Bool) : List UInt8 :=
  [if last then 1 else 0, UInt8.ofNat c.length, UInt8.ofNat (c.length / 256), UInt8.ofNat (255 - c.length % 256), UInt8.ofNat (255 - c.length / 256)] ++ c
theorem stored_len (c : List UInt8) (last : Bool) : (stored c last).length = 5 + c.length := by
  unfold stored; simp; omega
def blocks (cs : List (List UInt8)) : List UInt8 := cs.flatMap fun c => stored c false
theorem blocks_snoc (cs : List (List UInt8)) (c : List UInt8) : blocks (cs ++ [c]) = blocks cs ++ stored c false := by
  unfold blocks; simp
theorem blocks_cons (cs : List (List UInt8)) (c : List UInt8) : blocks (c :: cs) = stored c false ++ blocks cs := by
  unfold blocks; simp
theorem take_two (a b : UInt8) (t : List UInt8) : num ((bitsOf (a :: b :: t)).take 16) = a.toNat + 256 * b.toNat := by
  rw [bitsOf_cons, bitsOf_cons, ← List.append_assoc, List.take_append_of_le_length (by simp [lows_len]), List.take_of_length_le (by simp [lows_len]), num_append, lows_len, num_lows, num_lows]
  have := a.toNat_lt
  have := b.toNat_lt
  omega
theorem bytes_step {s : M} {c : UInt8} {t : List UInt8} (hn : s.next = 3) (hb : s.bits = bitsOf (c :: t)) (hl : 0 < s.left) :
    step s = if s.most ≤ s.total then .halt 3 else .more { put s c with bits := bitsOf t, left := s.left - 1 } := by
  have h1 : step s = readBytes s := by unfold step; rw [hn]; rfl
  have h2 : 8 ≤ s.bits.length := by rw [hb, bitsOf_len, List.length_cons]; omega
  have h3 : num (s.bits.take 8) = c.toNat := by rw [hb, bitsOf_cons]; exact take_lows c _
  have h4 : s.bits.drop 8 = bitsOf t := by rw [hb]; exact bitsOf_drop (c :: t) 1
  rw [h1]
  unfold readBytes
  rw [if_neg (by omega), if_neg (by omega), h3, h4, UInt8.ofNat_toNat]
theorem bytes_steps : ∀ (c : List UInt8) (s : M) (r : List UInt8), s.next = 3 → s.bits = bitsOf (c ++ r) → s.left = c.length → s.total + c.length ≤ s.most →
    Steps s { s with bits := bitsOf r, left := 0, hist := s.hist ++ c, out := s.out ++ c, total := s.total + c.length }
  | [], s, r, hn, hb, hl, _ => by
    have e : ({ s with bits := bitsOf r, left := 0, hist := s.hist ++ [], out := s.out ++ [], total := s.total + ([] : List UInt8).length } : M) = s := by
      simp at hb hl
      cases s; simp_all
    rw [e]; exact .refl s
  | c :: t, s, r, hn, hb, hl, hm => by
    rw [List.length_cons] at hl hm
    have h1 := bytes_step (s := s) (c := c) (t := t ++ r) hn hb (by omega)
    rw [if_neg (by omega)] at h1
    have h2 := bytes_steps t { put s c with bits := bitsOf (t ++ r), left := s.left - 1 } r hn rfl (by simp only; omega) (by simp only [put]; omega)
    refine .cons h1 ?_
    have e : ({ s with bits := bitsOf r, left := 0, hist := s.hist ++ c :: t, out := s.out ++ c :: t, total := s.total + (c :: t).length } : M) = { ({ put s c with bits := bitsOf (t ++ r), left := s.left - 1 } : M) with bits := bitsOf r, left := 0, hist := (s.hist ++ [c]) ++ t, out := (s.out ++ [c]) ++ t, total := (s.total + 1) + t.length } := by
      simp [put]; omega
    rw [e]; exact h2
theorem bytes_over : ∀ (c : List UInt8) (s : M) (r : List UInt8), s.next = 3 → s.bits = bitsOf (c ++ r) → s.left = c.length → s.total ≤ s.most → s.most < s.total + c.length → ∃ t, Ends s t 3
  | [], s, r, hn, hb, hl, h1, h2 => by simp at h2; omega
  | c :: t, s, r, hn, hb, hl, h1, h2 => by
    rw [List.length_cons] at hl h2
    have h3 := bytes_step (s := s) (c := c) (t := t ++ r) hn hb (by omega)
    by_cases hm : s.most ≤ s.total
    · rw [if_pos hm] at h3
      exact ⟨s, .refl s, h3⟩
    · rw [if_neg hm] at h3
      obtain ⟨u, hu⟩ := bytes_over t { put s c with bits := bitsOf (t ++ r), left := s.left - 1 } r hn rfl (by simp only; omega) (by simp only [put]; omega) (by simp only [put]; omega)
      exact ⟨u, .one h3 hu⟩

/-- The head of a stored block. -/
theorem head_steps {s : M} {c r : List UInt8} {last : Bool} (hn : s.next = 1) (hb : s.bits = bitsOf (stored c last ++ r)) (hc : c.length < 65536) :
    Steps s { s with bits := bitsOf (c ++ r), final := last, left := c.length, next := 3 } := by
  have hbl : s.bits.length = 8 * (5 + c.length + r.length) := by rw [hb, bitsOf_len, List.length_append, stored_len]
  obtain ⟨a, ha⟩ : ∃ a : UInt8, a = if last then 1 else 0 := ⟨_, rfl⟩
  obtain ⟨q, hq⟩ : ∃ q : List UInt8, q = UInt8.ofNat c.length :: UInt8.ofNat (c.length / 256) :: UInt8.ofNat (255 - c.length % 256) :: UInt8.ofNat (255 - c.length / 256) :: (c ++ r) := ⟨_, rfl⟩
  have e0 : stored c last ++ r = a :: q := by rw [ha, hq]; rfl
  rw [e0, bitsOf_cons] at hb
  have h3 : num (s.bits.take 3) = if last then 1 else 0 := by
    rw [hb, List.take_append_of_le_length (by rw [lows_len]; omega), ha]
    cases last <;> rfl
  have hd3 : s.bits.drop 3 = (lows 8 a.toNat).drop 3 ++ bitsOf q := by
    rw [hb, List.drop_append_of_le_length (by rw [lows_len]; omega)]
  have hd8 : (s.bits.drop 3).drop 5 = bitsOf q := by
    rw [hd3, List.drop_append_of_le_length (by simp [lows_len]), List.drop_drop, List.drop_of_length_le (by rw [lows_len]; omega)]; rfl
  have h1 : step s = .more { s with bits := s.bits.drop 3, final := last, next := 2 } := by
    have : step s = opening s := by unfold step; rw [hn]; rfl
    rw [this]
    unfold opening
    rw [if_neg (by omega), h3]
    cases last <;> rfl
  have h2 : step { s with bits := s.bits.drop 3, final := last, next := 2 } = .more { s with bits := bitsOf q, final := last, next := 2 } := by
    have : step { s with bits := s.bits.drop 3, final := last, next := 2 } = readSize { s with bits := s.bits.drop 3, final := last, next := 2 } := by unfold step; rfl
    rw [this]
    unfold readSize
    have hl : (s.bits.drop 3).length % 8 = 5 := by rw [List.length_drop]; omega
    simp only [hl, hd8]
    rfl
  have hql : (bitsOf q).length = 8 * (4 + c.length + r.length) := by rw [bitsOf_len, hq]; simp; omega
  have hlo : num ((bitsOf q).take 16) = c.length := by
    rw [hq, take_two, UInt8.toNat_ofNat', UInt8.toNat_ofNat']; omega
  have hhi : num (((bitsOf q).drop 16).take 16) = 65535 - c.length := by
    rw [show (16 : Nat) = 8 * 2 from rfl, bitsOf_drop, hq]
    show num ((bitsOf (UInt8.ofNat (255 - c.length % 256) :: UInt8.ofNat (255 - c.length / 256) :: (c ++ r))).take 16) = _
    rw [take_two, UInt8.toNat_ofNat', UInt8.toNat_ofNat']; omega
  have hdr : (bitsOf q).drop 32 = bitsOf (c ++ r) := by
    rw [show (32 : Nat) = 8 * 4 from rfl, bitsOf_drop, hq]; rfl
  have h4 : step { s with bits := bitsOf q, final := last, next := 2 } = .more { s with bits := bitsOf (c ++ r), final := last, left := c.length, next := 3 } := by
    have : step { s with bits := bitsOf q, final := last, next := 2 } = readSize { s with bits := bitsOf q, final := last, next := 2 } := by unfold step; rfl
    rw [this]
    unfold readSize
    simp only [hlo, hhi, hdr]
    rw [if_neg (by omega), if_neg (by omega), if_neg (by omega)]
  exact .cons h1 (.cons h2 (.one h4))
theorem stored_steps {s : M} {c r : List UInt8} {last : Bool} (hn : s.next = 1) (hb : s.bits = bitsOf (stored c last ++ r)) (hc : c.length < 65536) (hl : s.left = 0) (hm : s.total + c.length ≤ s.most) :
    Steps s { s with bits := bitsOf r, final := last, hist := s.hist ++ c, out := s.out ++ c, total := s.total + c.length, next := if last then 11 else 1 } := by
  refine (head_steps hn hb hc).trans ?_
  refine (bytes_steps c { s with bits := bitsOf (c ++ r), final := last, left := c.length, next := 3 } r rfl rfl rfl hm).snoc ?_
  unfold step readBytes close
  simp only [if_true]
  rw [← hl]
theorem blocks_steps : ∀ (cs : List (List UInt8)) (s : M) (r : List UInt8), s.next = 1 → s.bits = bitsOf (blocks cs ++ r) → (∀ c ∈ cs, c.length < 65536) → s.left = 0 → s.final = false → s.total + cs.flatten.length ≤ s.most →
    Steps s { s with bits := bitsOf r, hist := s.hist ++ cs.flatten, out := s.out ++ cs.flatten, total := s.total + cs.flatten.length }
  | [], s, r, hn, hb, _, _, _, _ => by
    have e : ({ s with bits := bitsOf r, hist := s.hist ++ ([] : List (List UInt8)).flatten, out := s.out ++ ([] : List (List UInt8)).flatten, total := s.total + ([] : List (List UInt8)).flatten.length } : M) = s := by
      simp [blocks] at hb
      cases s; simp_all
    rw [e]; exact .refl s
  | c :: cs, s, r, hn, hb, hc, hl, hf, hm => by
    rw [blocks_cons, List.append_assoc] at hb
    rw [List.flatten_cons, List.length_append] at hm
    have h1 := stored_steps (last := false) hn hb (hc c (by simp)) hl (by omega)
    refine h1.trans ?_
    have h2 := blocks_steps cs { s with bits := bitsOf (blocks cs ++ r), final := false, hist := s.hist ++ c, out := s.out ++ c, total := s.total + c.length, next := 1 } r rfl rfl (fun x hx => hc x (by simp [hx])) hl rfl (by simp only; omega)
    have e : ({ s with bits := bitsOf r, hist := s.hist ++ (c :: cs).flatten, out := s.out ++ (c :: cs).flatten, total := s.total + (c :: cs).flatten.length } : M) = { ({ s with bits := bitsOf (blocks cs ++ r), final := false, hist := s.hist ++ c, out := s.out ++ c, total := s.total + c.length, next := 1 } : M) with bits := bitsOf r, hist := (s.hist ++ c) ++ cs.flatten, out := (s.out ++ c) ++ cs.flatten, total := (s.total + c.length) + cs.flatten.length } := by
      simp [← hn, ← hf]; omega
    rw [e]; exact h2
theorem blocks_over : ∀ (cs : List (List UInt8)) (s : M) (r : List UInt8), s.next = 1 → s.bits = bitsOf (blocks cs ++ r) → (∀ c ∈ cs, c.length < 65536) → s.left = 0 → s.total ≤ s.most → s.most < s.total + cs.flatten.length → ∃ t, Ends s t 3
  | [], s, r, hn, hb, _, _, h1, h2 => by simp at h2; omega
  | c :: cs, s, r, hn, hb, hc, hl, h1, h2 => by
    rw [blocks_cons, List.append_assoc] at hb
    rw [List.flatten_cons, List.length_append] at h2
    by_cases hm : s.total + c.length ≤ s.most
    · have h3 := stored_steps (last := false) hn hb (hc c (by simp)) hl hm
      obtain ⟨t, ht⟩ := blocks_over cs { s with bits := bitsOf (blocks cs ++ r), final := false, hist := s.hist ++ c, out := s.out ++ c, total := s.total + c.length, next := 1 } r rfl rfl (fun x hx => hc x (by simp [hx])) hl hm (by simp only; omega)
      exact ⟨t, .of h3 ht⟩
    · obtain ⟨t, ht⟩ := bytes_over c { s with bits := bitsOf (c ++ (blocks cs ++ r)), final := false, left := c.length, next := 3 } (blocks cs ++ r) rfl rfl rfl h1 (by simp only; omega)
      exact ⟨t, .of (head_steps (last := false) hn hb (hc c (by simp))) ht⟩

/-- A stream of stored blocks, whole. -/
theorem stream_ok (wide : Bool) (S most : Nat) (cs : List (List UInt8)) (z : List UInt8) (hc : ∀ c ∈ cs, c.length < 65536) (hm : cs.flatten.length ≤ most) :
    ∃ t, Ends { start wide S most with bits := bitsOf (blocks cs ++ stored [] true ++ z), pushed := (blocks cs ++ stored [] true ++ z).length } t 0 ∧ t.out = cs.flatten ∧ t.pushed - t.bits.length / 8 = (blocks cs ++ stored [] true).length := by
  obtain ⟨s, hs⟩ : ∃ s : M, s = { start wide S most with bits := bitsOf (blocks cs ++ stored [] true ++ z), pushed := (blocks cs ++ stored [] true ++ z).length } := ⟨_, rfl⟩
  rw [← hs]
  have h1 := blocks_steps cs s (stored [] true ++ z) (by rw [hs]; rfl) (by rw [hs]; simp) hc (by rw [hs]; rfl) (by rw [hs]; rfl) (by rw [hs]; simpa [start] using hm)
  have h2 := stored_steps (s := { s with bits := bitsOf (stored [] true ++ z), hist := s.hist ++ cs.flatten, out := s.out ++ cs.flatten, total := s.total + cs.flatten.length }) (c := []) (r := z) (last := true) (by rw [hs]; rfl) rfl (by simp) (by rw [hs]; rfl) (by rw [hs]; simpa [start] using hm)
  refine ⟨_, ⟨h1.trans h2, by unfold step; rfl⟩, by rw [hs]; simp [start], ?_⟩
  rw [hs]
  simp only [bitsOf_len, List.length_append]
  omega
theorem stream_over (wide : Bool) (S most : Nat) (cs : List (List UInt8)) (r : List UInt8) (hc : ∀ c ∈ cs, c.length < 65536) (hm : most < cs.flatten.length) :
    ∃ t, Ends { start wide S most with bits := bitsOf (blocks cs ++ r), pushed := (blocks cs ++ r).length } t 3 :=
  blocks_over cs _ r rfl rfl hc rfl (Nat.zero_le _) (by simpa [start] using hm)
theorem stream_short (wide : Bool) (S most : Nat) (cs : List (List UInt8)) (hc : ∀ c ∈ cs, c.length < 65536) (hm : cs.flatten.length ≤ most) :
    ∃ t, Ends { start wide S most with bits := bitsOf (blocks cs ++ [1, 0, 0, 255]), pushed := (blocks cs ++ [1, 0, 0, 255]).length } t 5 := by
  obtain ⟨s, hs⟩ : ∃ s : M, s = { start wide S most with bits := bitsOf (blocks cs ++ [1, 0, 0, 255]), pushed := (blocks cs ++ [1, 0, 0, 255]).length } := ⟨_, rfl⟩
  rw [← hs]
  have h1 := blocks_steps cs s [1, 0, 0, 255] (by rw [hs]; rfl) (by rw [hs]) hc (by rw [hs]; rfl) (by rw [hs]; rfl) (by rw [hs]; simpa [start] using hm)
  obtain ⟨u, hu⟩ : ∃ u : M, u = { s with bits := bitsOf [1, 0, 0, 255], hist := s.hist ++ cs.flatten, out := s.out ++ cs.flatten, total := s.total + cs.flatten.length } := ⟨_, rfl⟩
  rw [← hu] at h1
  have hub : u.bits = bitsOf [1, 0, 0, 255] := by rw [hu]
  have hun : u.next = 1 := by rw [hu, hs]; rfl
  have hue : u.ended = false := by rw [hu, hs]; rfl
  have h2 : step u = .more { u with bits := (bitsOf [1, 0, 0, 255]).drop 3, final := true, next := 2 } := by
    unfold step; rw [hun]
    show opening u = _
    unfold opening; rw [hub]; rfl
  have h3 : step { u with bits := (bitsOf [1, 0, 0, 255]).drop 3, final := true, next := 2 } = .more { u with bits := bitsOf [0, 0, 255], final := true, next := 2 } := by
    unfold step
    show readSize _ = _
    unfold readSize
    have e1 : ((bitsOf [1, 0, 0, 255]).drop 3).length % 8 = 5 := by decide
    have e2 : ((bitsOf [1, 0, 0, 255]).drop 3).drop 5 = bitsOf [0, 0, 255] := by decide
    simp only [e1, e2]
    rfl
  have h4 : step { u with bits := bitsOf [0, 0, 255], final := true, next := 2 } = .halt 5 := by
    unfold step
    show readSize _ = _
    unfold readSize
    have e1 : (bitsOf [0, 0, 255]).length = 24 := by decide
    simp only [e1]
    unfold lack
    simp [hue]
  exact ⟨_, h1.trans (.cons h2 (.one h3)), h4⟩
end InfMath
