import Derived.Test.YtkaagenmkjkaeaaDoorMgM
import Derived.Test.YtkaagenmkjkaeaaDoorRows
import Derived.Test.YtkaagenmkjkaeaaDoorMgA
import Derived.Deep.DeepCutAuto
import Derived.Deep.CutBlock
import Derived.Test.YtkaagenmkjkaeaaDoorMgV

section
/-
  inflate's machine over stored blocks. No program, no dump.
-/
namespace InfMath
open BitMath CanMath TabMath WinMath

/-- A stored block's bytes, at a byte's beginning. -/
def stored (c : List UInt8) (last : Bool) : List UInt8 :=
  [if last then 1 else 0, UInt8.ofNat c.length, UInt8.ofNat (c.length / 256), UInt8.ofNat (255 - c.length % 256), UInt8.ofNat (255 - c.length / 256)] ++ c
theorem stored_len (c : List UInt8) (last : Bool) : (stored c last).length = 5 + c.length := by
  unfold stored; simp; omega
def blocks (cs : List (List UInt8)) : List UInt8 := cs.flatMap fun c => stored c false
theorem blocks_snoc (cs : List (List UInt8)) (c : List UInt8) : blocks (cs ++ [c]) = blocks cs ++ stored c false := by
  unfold blocks; simp
theorem blocks_cons (cs : List (List UInt8)) (c : List UInt8) : blocks (c :: cs) = stored c false ++ blocks cs := by
  unfold blocks; simp
theorem take_two (a b : UInt8) (t : List UInt8) : num ((bitsOf (a :: b :: t)).take 16) = a.toNat + 256 * b.toNat := by
  rw [bitsOf_cons, bitsOf_cons, ← List.append_assoc, List.take_append_of_le_length (by simp [lows_len]), List.take_of_length_le (by simp [lows_len]), num_append, lows_len, num_lows, num_lows]
  have := a.toNat_lt
  have := b.toNat_lt
  omega
theorem bytes_step {s : M} {c : UInt8} {t : List UInt8} (hn : s.next = 3) (hb : s.bits = bitsOf (c :: t)) (hl : 0 < s.left) :
    step s = if s.most ≤ s.total then .halt 3 else .more { put s c with bits := bitsOf t, left := s.left - 1 } := by
  have h1 : step s = readBytes s := by unfold step; rw [hn]; rfl
  have h2 : 8 ≤ s.bits.length := by rw [hb, bitsOf_len, List.length_cons]; omega
  have h3 : num (s.bits.take 8) = c.toNat := by rw [hb, bitsOf_cons]; exact take_lows c _
  have h4 : s.bits.drop 8 = bitsOf t := by rw [hb]; exact bitsOf_drop (c :: t) 1
  rw [h1]
  unfold readBytes
  rw [if_neg (by omega), if_neg (by omega), h3, h4, UInt8.ofNat_toNat]
theorem bytes_steps : ∀ (c : List UInt8) (s : M) (r : List UInt8), s.next = 3 → s.bits = bitsOf (c ++ r) → s.left = c.length → s.total + c.length ≤ s.most →
    Steps s { s with bits := bitsOf r, left := 0, hist := s.hist ++ c, out := s.out ++ c, total := s.total + c.length }
  | [], s, r, hn, hb, hl, _ => by
    have e : ({ s with bits := bitsOf r, left := 0, hist := s.hist ++ [], out := s.out ++ [], total := s.total + ([] : List UInt8).length } : M) = s := by
      simp at hb hl
      cases s; simp_all
    rw [e]; exact .refl s
  | c :: t, s, r, hn, hb, hl, hm => by
    rw [List.length_cons] at hl hm
    have h1 := bytes_step (s := s) (c := c) (t := t ++ r) hn hb (by omega)
    rw [if_neg (by omega)] at h1
    have h2 := bytes_steps t { put s c with bits := bitsOf (t ++ r), left := s.left - 1 } r hn rfl (by simp only; omega) (by simp only [put]; omega)
    refine .cons h1 ?_
    have e : ({ s with bits := bitsOf r, left := 0, hist := s.hist ++ c :: t, out := s.out ++ c :: t, total := s.total + (c :: t).length } : M) = { ({ put s c with bits := bitsOf (t ++ r), left := s.left - 1 } : M) with bits := bitsOf r, left := 0, hist := (s.hist ++ [c]) ++ t, out := (s.out ++ [c]) ++ t, total := (s.total + 1) + t.length } := by
      simp [put]; omega
    rw [e]; exact h2
theorem bytes_over : ∀ (c : List UInt8) (s : M) (r : List UInt8), s.next = 3 → s.bits = bitsOf (c ++ r) → s.left = c.length → s.total ≤ s.most → s.most < s.total + c.length → ∃ t, Ends s t 3
  | [], s, r, hn, hb, hl, h1, h2 => by simp at h2; omega
  | c :: t, s, r, hn, hb, hl, h1, h2 => by
    rw [List.length_cons] at hl h2
    have h3 := bytes_step (s := s) (c := c) (t := t ++ r) hn hb (by omega)
    by_cases hm : s.most ≤ s.total
    · rw [if_pos hm] at h3
      exact ⟨s, .refl s, h3⟩
    · rw [if_neg hm] at h3
      obtain ⟨u, hu⟩ := bytes_over t { put s c with bits := bitsOf (t ++ r), left := s.left - 1 } r hn rfl (by simp only; omega) (by simp only [put]; omega) (by simp only [put]; omega)
      exact ⟨u, .one h3 hu⟩

/-- The head of a stored block. -/
theorem head_steps {s : M} {c r : List UInt8} {last : Bool} (hn : s.next = 1) (hb : s.bits = bitsOf (stored c last ++ r)) (hc : c.length < 65536) :
    Steps s { s with bits := bitsOf (c ++ r), final := last, left := c.length, next := 3 } := by
  have hbl : s.bits.length = 8 * (5 + c.length + r.length) := by rw [hb, bitsOf_len, List.length_append, stored_len]
  obtain ⟨a, ha⟩ : ∃ a : UInt8, a = if last then 1 else 0 := ⟨_, rfl⟩
  obtain ⟨q, hq⟩ : ∃ q : List UInt8, q = UInt8.ofNat c.length :: UInt8.ofNat (c.length / 256) :: UInt8.ofNat (255 - c.length % 256) :: UInt8.ofNat (255 - c.length / 256) :: (c ++ r) := ⟨_, rfl⟩
  have e0 : stored c last ++ r = a :: q := by rw [ha, hq]; rfl
  rw [e0, bitsOf_cons] at hb
  have h3 : num (s.bits.take 3) = if last then 1 else 0 := by
    rw [hb, List.take_append_of_le_length (by rw [lows_len]; omega), ha]
    cases last <;> rfl
  have hd3 : s.bits.drop 3 = (lows 8 a.toNat).drop 3 ++ bitsOf q := by
    rw [hb, List.drop_append_of_le_length (by rw [lows_len]; omega)]
  have hd8 : (s.bits.drop 3).drop 5 = bitsOf q := by
    rw [hd3, List.drop_append_of_le_length (by simp [lows_len]), List.drop_drop, List.drop_of_length_le (by rw [lows_len]; omega)]; rfl
  have h1 : step s = .more { s with bits := s.bits.drop 3, final := last, next := 2 } := by
    have : step s = opening s := by unfold step; rw [hn]; rfl
    rw [this]
    unfold opening
    rw [if_neg (by omega), h3]
    cases last <;> rfl
  have h2 : step { s with bits := s.bits.drop 3, final := last, next := 2 } = .more { s with bits := bitsOf q, final := last, next := 2 } := by
    have : step { s with bits := s.bits.drop 3, final := last, next := 2 } = readSize { s with bits := s.bits.drop 3, final := last, next := 2 } := by unfold step; rfl
    rw [this]
    unfold readSize
    have hl : (s.bits.drop 3).length % 8 = 5 := by rw [List.length_drop]; omega
    simp only [hl, hd8]
    rfl
  have hql : (bitsOf q).length = 8 * (4 + c.length + r.length) := by rw [bitsOf_len, hq]; simp; omega
  have hlo : num ((bitsOf q).take 16) = c.length := by
    rw [hq, take_two, UInt8.toNat_ofNat', UInt8.toNat_ofNat']; omega
  have hhi : num (((bitsOf q).drop 16).take 16) = 65535 - c.length := by
    rw [show (16 : Nat) = 8 * 2 from rfl, bitsOf_drop, hq]
    show num ((bitsOf (UInt8.ofNat (255 - c.length % 256) :: UInt8.ofNat (255 - c.length / 256) :: (c ++ r))).take 16) = _
    rw [take_two, UInt8.toNat_ofNat', UInt8.toNat_ofNat']; omega
  have hdr : (bitsOf q).drop 32 = bitsOf (c ++ r) := by
    rw [show (32 : Nat) = 8 * 4 from rfl, bitsOf_drop, hq]; rfl
  have h4 : step { s with bits := bitsOf q, final := last, next := 2 } = .more { s with bits := bitsOf (c ++ r), final := last, left := c.length, next := 3 } := by
    have : step { s with bits := bitsOf q, final := last, next := 2 } = readSize { s with bits := bitsOf q, final := last, next := 2 } := by unfold step; rfl
    rw [this]
    unfold readSize
    simp only [hlo, hhi, hdr]
    rw [if_neg (by omega), if_neg (by omega), if_neg (by omega)]
  exact .cons h1 (.cons h2 (.one h4))
theorem stored_steps {s : M} {c r : List UInt8} {last : Bool} (hn : s.next = 1) (hb : s.bits = bitsOf (stored c last ++ r)) (hc : c.length < 65536) (hl : s.left = 0) (hm : s.total + c.length ≤ s.most) :
    Steps s { s with bits := bitsOf r, final := last, hist := s.hist ++ c, out := s.out ++ c, total := s.total + c.length, next := if last then 11 else 1 } := by
  refine (head_steps hn hb hc).trans ?_
  refine (bytes_steps c { s with bits := bitsOf (c ++ r), final := last, left := c.length, next := 3 } r rfl rfl rfl hm).snoc ?_
  unfold step readBytes close
  simp only [if_true]
  rw [← hl]
theorem blocks_steps : ∀ (cs : List (List UInt8)) (s : M) (r : List UInt8), s.next = 1 → s.bits = bitsOf (blocks cs ++ r) → (∀ c ∈ cs, c.length < 65536) → s.left = 0 → s.final = false → s.total + cs.flatten.length ≤ s.most →
    Steps s { s with bits := bitsOf r, hist := s.hist ++ cs.flatten, out := s.out ++ cs.flatten, total := s.total + cs.flatten.length }
  | [], s, r, hn, hb, _, _, _, _ => by
    have e : ({ s with bits := bitsOf r, hist := s.hist ++ ([] : List (List UInt8)).flatten, out := s.out ++ ([] : List (List UInt8)).flatten, total := s.total + ([] : List (List UInt8)).flatten.length } : M) = s := by
      simp [blocks] at hb
      cases s; simp_all
    rw [e]; exact .refl s
  | c :: cs, s, r, hn, hb, hc, hl, hf, hm => by
    rw [blocks_cons, List.append_assoc] at hb
    rw [List.flatten_cons, List.length_append] at hm
    have h1 := stored_steps (last := false) hn hb (hc c (by simp)) hl (by omega)
    refine h1.trans ?_
    have h2 := blocks_steps cs { s with bits := bitsOf (blocks cs ++ r), final := false, hist := s.hist ++ c, out := s.out ++ c, total := s.total + c.length, next := 1 } r rfl rfl (fun x hx => hc x (by simp [hx])) hl rfl (by simp only; omega)
    have e : ({ s with bits := bitsOf r, hist := s.hist ++ (c :: cs).flatten, out := s.out ++ (c :: cs).flatten, total := s.total + (c :: cs).flatten.length } : M) = { ({ s with bits := bitsOf (blocks cs ++ r), final := false, hist := s.hist ++ c, out := s.out ++ c, total := s.total + c.length, next := 1 } : M) with bits := bitsOf r, hist := (s.hist ++ c) ++ cs.flatten, out := (s.out ++ c) ++ cs.flatten, total := (s.total + c.length) + cs.flatten.length } := by
      simp [← hn, ← hf]; omega
    rw [e]; exact h2
theorem blocks_over : ∀ (cs : List (List UInt8)) (s : M) (r : List UInt8), s.next = 1 → s.bits = bitsOf (blocks cs ++ r) → (∀ c ∈ cs, c.length < 65536) → s.left = 0 → s.total ≤ s.most → s.most < s.total + cs.flatten.length → ∃ t, Ends s t 3
  | [], s, r, hn, hb, _, _, h1, h2 => by simp at h2; omega
  | c :: cs, s, r, hn, hb, hc, hl, h1, h2 => by
    rw [blocks_cons, List.append_assoc] at hb
    rw [List.flatten_cons, List.length_append] at h2
    by_cases hm : s.total + c.length ≤ s.most
    · have h3 := stored_steps (last := false) hn hb (hc c (by simp)) hl hm
      obtain ⟨t, ht⟩ := blocks_over cs { s with bits := bitsOf (blocks cs ++ r), final := false, hist := s.hist ++ c, out := s.out ++ c, total := s.total + c.length, next := 1 } r rfl rfl (fun x hx => hc x (by simp [hx])) hl hm (by simp only; omega)
      exact ⟨t, .of h3 ht⟩
    · obtain ⟨t, ht⟩ := bytes_over c { s with bits := bitsOf (c ++ (blocks cs ++ r)), final := false, left := c.length, next := 3 } (blocks cs ++ r) rfl rfl rfl h1 (by simp only; omega)
      exact ⟨t, .of (head_steps (last := false) hn hb (hc c (by simp))) ht⟩

/-- A stream of stored blocks, whole. -/
theorem stream_ok (wide : Bool) (S most : Nat) (cs : List (List UInt8)) (z : List UInt8) (hc : ∀ c ∈ cs, c.length < 65536) (hm : cs.flatten.length ≤ most) :
    ∃ t, Ends { start wide S most with bits := bitsOf (blocks cs ++ stored [] true ++ z), pushed := (blocks cs ++ stored [] true ++ z).length } t 0 ∧ t.out = cs.flatten ∧ t.pushed - t.bits.length / 8 = (blocks cs ++ stored [] true).length := by
  obtain ⟨s, hs⟩ : ∃ s : M, s = { start wide S most with bits := bitsOf (blocks cs ++ stored [] true ++ z), pushed := (blocks cs ++ stored [] true ++ z).length } := ⟨_, rfl⟩
  rw [← hs]
  have h1 := blocks_steps cs s (stored [] true ++ z) (by rw [hs]; rfl) (by rw [hs]; simp) hc (by rw [hs]; rfl) (by rw [hs]; rfl) (by rw [hs]; simpa [start] using hm)
  have h2 := stored_steps (s := { s with bits := bitsOf (stored [] true ++ z), hist := s.hist ++ cs.flatten, out := s.out ++ cs.flatten, total := s.total + cs.flatten.length }) (c := []) (r := z) (last := true) (by rw [hs]; rfl) rfl (by simp) (by rw [hs]; rfl) (by rw [hs]; simpa [start] using hm)
  refine ⟨_, ⟨h1.trans h2, by unfold step; rfl⟩, by rw [hs]; simp [start], ?_⟩
  rw [hs]
  simp only [bitsOf_len, List.length_append]
  omega
theorem stream_over (wide : Bool) (S most : Nat) (cs : List (List UInt8)) (r : List UInt8) (hc : ∀ c ∈ cs, c.length < 65536) (hm : most < cs.flatten.length) :
    ∃ t, Ends { start wide S most with bits := bitsOf (blocks cs ++ r), pushed := (blocks cs ++ r).length } t 3 :=
  blocks_over cs _ r rfl rfl hc rfl (Nat.zero_le _) (by simpa [start] using hm)
theorem stream_short (wide : Bool) (S most : Nat) (cs : List (List UInt8)) (hc : ∀ c ∈ cs, c.length < 65536) (hm : cs.flatten.length ≤ most) :
    ∃ t, Ends { start wide S most with bits := bitsOf (blocks cs ++ [1, 0, 0, 255]), pushed := (blocks cs ++ [1, 0, 0, 255]).length } t 5 := by
  obtain ⟨s, hs⟩ : ∃ s : M, s = { start wide S most with bits := bitsOf (blocks cs ++ [1, 0, 0, 255]), pushed := (blocks cs ++ [1, 0, 0, 255]).length } := ⟨_, rfl⟩
  rw [← hs]
  have h1 := blocks_steps cs s [1, 0, 0, 255] (by rw [hs]; rfl) (by rw [hs]) hc (by rw [hs]; rfl) (by rw [hs]; rfl) (by rw [hs]; simpa [start] using hm)
  obtain ⟨u, hu⟩ : ∃ u : M, u = { s with bits := bitsOf [1, 0, 0, 255], hist := s.hist ++ cs.flatten, out := s.out ++ cs.flatten, total := s.total + cs.flatten.length } := ⟨_, rfl⟩
  rw [← hu] at h1
  have hub : u.bits = bitsOf [1, 0, 0, 255] := by rw [hu]
  have hun : u.next = 1 := by rw [hu, hs]; rfl
  have hue : u.ended = false := by rw [hu, hs]; rfl
  have h2 : step u = .more { u with bits := (bitsOf [1, 0, 0, 255]).drop 3, final := true, next := 2 } := by
    unfold step; rw [hun]
    show opening u = _
    unfold opening; rw [hub]; rfl
  have h3 : step { u with bits := (bitsOf [1, 0, 0, 255]).drop 3, final := true, next := 2 } = .more { u with bits := bitsOf [0, 0, 255], final := true, next := 2 } := by
    unfold step
    show readSize _ = _
    unfold readSize
    have e1 : ((bitsOf [1, 0, 0, 255]).drop 3).length % 8 = 5 := by decide
    have e2 : ((bitsOf [1, 0, 0, 255]).drop 3).drop 5 = bitsOf [0, 0, 255] := by decide
    simp only [e1, e2]
    rfl
  have h4 : step { u with bits := bitsOf [0, 0, 255], final := true, next := 2 } = .halt 5 := by
    unfold step
    show readSize _ = _
    unfold readSize
    have e1 : (bitsOf [0, 0, 255]).length = 24 := by decide
    simp only [e1]
    unfold lack
    simp [hue]
  exact ⟨_, h1.trans (.cons h2 (.one h3)), h4⟩
end InfMath
end

section
/-
  The document's own answer for a stored block (stevedoreref13.Store), of few bytes.
-/
namespace Go.Proofs.YtkaagenmkjkaeaaDoor.InfC
open Go.RowKit Go.My BitMath RefC

/-- Bytes of a literal. -/
theorem lit_bytes (E : TypeId) (w : World) (C : Array Value) (l : List UInt8) (hC : C.toList = l.map bv) (hl : l.length ≤ 1000) : Bytes (w.alloc (.cells C E)) (some ⟨w.heap.size, 0, none⟩) l.length l.length l := by
  refine ⟨rfl, Nat.le_refl _, by omega, (fun h => by cases h), .inr ⟨w.heap.size, 0, rfl, by simp, ?_⟩⟩
  intro i hi
  rw [cell_of_row _ _ _ _ _ _ (heap_alloc_new w _), ← Array.getElem?_toList, hC]
  simp [hi, bv]
theorem u8_not (n : Nat) (h : n < 256) : bits .xor .u8 255 (n : Int) = ((255 - n : Nat) : Int) := by
  have : ∀ k : Fin 256, bits .xor .u8 255 (k.val : Int) = ((255 - k.val : Nat) : Int) := by decide +kernel
  exact this ⟨n, h⟩
def headOf (c : UInt8) (len : Nat) : List UInt8 := [c, UInt8.ofNat len, UInt8.ofNat (len / 256), UInt8.ofNat (255 - len % 256), UInt8.ofNat (255 - len / 256)]
theorem head_cells (c : UInt8) (len : Nat) (h : len < 65536) : (#[Value.int .u8 (c.toNat : Int), .int .u8 ((len : Int) % 256), .int .u8 ((len : Int) / 256), .int .u8 (bits .xor .u8 255 ((len : Int) % 256)), .int .u8 (bits .xor .u8 255 ((len : Int) / 256))] : Array Value).toList = (headOf c len).map bv := by
  have e1 : (len : Int) % 256 = ((len % 256 : Nat) : Int) := by omega
  have e2 : (len : Int) / 256 = ((len / 256 : Nat) : Int) := by omega
  rw [e1, e2, u8_not _ (by omega), u8_not _ (by omega)]
  unfold headOf bv
  simp only [List.map_cons, List.map_nil, UInt8.toNat_ofNat']
  rw [Nat.mod_eq_of_lt (show len / 256 < 2 ^ 8 by omega), Nat.mod_eq_of_lt (show 255 - len % 256 < 2 ^ 8 by omega), Nat.mod_eq_of_lt (show 255 - len / 256 < 2 ^ 8 by omega)]

set_option maxRecDepth 100000 in
set_option maxHeartbeats 2000000 in
theorem store_any (last : Bool) (a : Option Addr) (len cap : Nat) (l : List UInt8) (w : World) (hb : Bytes w a len cap l) (hl : len ≤ 60000) :
    Calls Tryd.prog 13 #[.slice a len cap, .bool last] w fun e w' => ∃ a' c', e = .returned (.slice a' (5 + len) c') ∧ Hid (Own 5 w.heap.size w' (.slice a' (5 + len) c') (InfMath.stored l last)) ∧ Hid (Below w.heap.size w w') := by
  have HBY := Lib.hid hb
  clear hb
  go_enter Tryd.func13, Tryd.ntmps13
  go_wp2_with fail
  have hlI : (len : Int) < 65535 := by omega
  go_loopw [5, 6] (fun ov av wr => (av = .int .i64 0 ∧ ov = .slice none 0 0 ∧ wr = w) ∨ (av = .int .i64 65535 ∧ ∃ a' c', ov = .slice a' (5 + len) c' ∧ Hid (Own 5 w.heap.size wr (.slice a' (5 + len) c') (InfMath.stored l last)) ∧ Hid (Below w.heap.size w wr))) (fun _ av _ => 65535 - (intOf av).toNat)
  case atStart => exact .inl ⟨rfl, rfl, rfl⟩
  case round =>
    rcases hrel with ⟨rfl, rfl, rfl⟩ | ⟨rfl, a', c', rfl, HO, HB⟩
    · clear hlI
      have hmin : (if (len : Int) < 65535 then (len : Int) else 65535) = (len : Int) := if_pos (by omega)
      go_upto_region 6 with (fail)
      clear hmin
      cases last
      · go_upto_region 9 with (fail)
        have hI : (if IntKind.u8.signed = true then (-1 : Int) else IntKind.u8.max) = 255 := rfl
        have hbh : Bytes (wr.alloc (.cells #[Value.int .u8 0, .int .u8 ((len : Int) % 256), .int .u8 ((len : Int) / 256), .int .u8 (bits .xor .u8 255 ((len : Int) % 256)), .int .u8 (bits .xor .u8 255 ((len : Int) / 256))] 5)) (some ⟨wr.heap.size, 0, none⟩) 5 5 (headOf 0 len) := lit_bytes 5 wr _ _ (head_cells 0 len (by omega)) (by simp [headOf])
        go_wp2_with (at_builtin; refine wpList_append_bytes (by rfl) (.tmp 33) (.tmp 47) 26 rfl wr.heap.size 5 Tryd.underlying26 info5 (.slice none 0 0) [] rfl (Own.nil _ _ _) (some ⟨wr.heap.size, 0, none⟩) 5 5 (headOf 0 len) rfl hbh (by simp) (by simp) ?_)
        intro v' w1 hown hg
        have HB1 := Lib.hid (grown_none_below ((Below.refl wr.heap.size wr).alloc (Nat.le_refl _) _) hg (by simp))
        have HO1 := Lib.hid hown
        have hle := HBY.out.le_cap
        have hle0 : (len : Int) ≤ (cap : Int) := by omega
        have hes : InfMath.stored l false = headOf 0 len ++ l := by unfold InfMath.stored headOf; rw [HBY.out.len_eq]; rfl
        have HES := Lib.hid hes
        clear hown hg hbh hI hes
        cases a with
        | none =>
          obtain ⟨rfl, rfl⟩ := HBY.out.nil rfl
          go_wp2_with (at_builtin; refine wpList_append_bytes (by rfl) (.tmp 49) (.tmp 55) 26 rfl wr.heap.size 5 Tryd.underlying26 info5 v' (headOf 0 0) rfl HO1.out none 0 0 l rfl (HBY.out.below (Nat.le_refl _) HB1.out) (by simp [headOf]) HB1.out.size ?_)
          intro v2 w2 hown hg
          rw [← HES.out] at hown
          obtain ⟨a2, c2, rfl, -⟩ := hown.bytes
          rw [InfMath.stored_len, HBY.out.len_eq] at hown ⊢
          have HO2 := Lib.hid hown
          have HB2 := Lib.hid (grown_below HO1.out HB1.out hg HB1.out.size)
          clear hown hg
          go_wp2_with fail
          go_roundw
          case rel => exact .inr ⟨rfl, a2, c2, rfl, HO2, HB2⟩
          case measure => simp [intOf]
        | some ad =>
          go_wp2_with (at_builtin; refine wpList_append_bytes (by rfl) (.tmp 49) (.tmp 55) 26 rfl wr.heap.size 5 Tryd.underlying26 info5 v' (headOf 0 len) rfl HO1.out (some ad) len cap l rfl (HBY.out.below (Nat.le_refl _) HB1.out) (by simp [headOf]; omega) HB1.out.size ?_)
          intro v2 w2 hown hg
          rw [← HES.out] at hown
          obtain ⟨a2, c2, rfl, -⟩ := hown.bytes
          rw [InfMath.stored_len, HBY.out.len_eq] at hown ⊢
          have HO2 := Lib.hid hown
          have HB2 := Lib.hid (grown_below HO1.out HB1.out hg HB1.out.size)
          clear hown hg
          go_wp2_with fail
          go_roundw
          case rel => exact .inr ⟨rfl, a2, c2, rfl, HO2, HB2⟩
          case measure => simp [intOf]
      · go_upto_region 9 with (fail)
        have hI : (if IntKind.u8.signed = true then (-1 : Int) else IntKind.u8.max) = 255 := rfl
        have hbh : Bytes (wr.alloc (.cells #[Value.int .u8 1, .int .u8 ((len : Int) % 256), .int .u8 ((len : Int) / 256), .int .u8 (bits .xor .u8 255 ((len : Int) % 256)), .int .u8 (bits .xor .u8 255 ((len : Int) / 256))] 5)) (some ⟨wr.heap.size, 0, none⟩) 5 5 (headOf 1 len) := lit_bytes 5 wr _ _ (head_cells 1 len (by omega)) (by simp [headOf])
        go_wp2_with (at_builtin; refine wpList_append_bytes (by rfl) (.tmp 33) (.tmp 47) 26 rfl wr.heap.size 5 Tryd.underlying26 info5 (.slice none 0 0) [] rfl (Own.nil _ _ _) (some ⟨wr.heap.size, 0, none⟩) 5 5 (headOf 1 len) rfl hbh (by simp) (by simp) ?_)
        intro v' w1 hown hg
        have HB1 := Lib.hid (grown_none_below ((Below.refl wr.heap.size wr).alloc (Nat.le_refl _) _) hg (by simp))
        have HO1 := Lib.hid hown
        have hle := HBY.out.le_cap
        have hle0 : (len : Int) ≤ (cap : Int) := by omega
        have hes : InfMath.stored l true = headOf 1 len ++ l := by unfold InfMath.stored headOf; rw [HBY.out.len_eq]; rfl
        have HES := Lib.hid hes
        clear hown hg hbh hI hes
        cases a with
        | none =>
          obtain ⟨rfl, rfl⟩ := HBY.out.nil rfl
          go_wp2_with (at_builtin; refine wpList_append_bytes (by rfl) (.tmp 49) (.tmp 55) 26 rfl wr.heap.size 5 Tryd.underlying26 info5 v' (headOf 1 0) rfl HO1.out none 0 0 l rfl (HBY.out.below (Nat.le_refl _) HB1.out) (by simp [headOf]) HB1.out.size ?_)
          intro v2 w2 hown hg
          rw [← HES.out] at hown
          obtain ⟨a2, c2, rfl, -⟩ := hown.bytes
          rw [InfMath.stored_len, HBY.out.len_eq] at hown ⊢
          have HO2 := Lib.hid hown
          have HB2 := Lib.hid (grown_below HO1.out HB1.out hg HB1.out.size)
          clear hown hg
          go_wp2_with fail
          go_roundw
          case rel => exact .inr ⟨rfl, a2, c2, rfl, HO2, HB2⟩
          case measure => simp [intOf]
        | some ad =>
          go_wp2_with (at_builtin; refine wpList_append_bytes (by rfl) (.tmp 49) (.tmp 55) 26 rfl wr.heap.size 5 Tryd.underlying26 info5 v' (headOf 1 len) rfl HO1.out (some ad) len cap l rfl (HBY.out.below (Nat.le_refl _) HB1.out) (by simp [headOf]; omega) HB1.out.size ?_)
          intro v2 w2 hown hg
          rw [← HES.out] at hown
          obtain ⟨a2, c2, rfl, -⟩ := hown.bytes
          rw [InfMath.stored_len, HBY.out.len_eq] at hown ⊢
          have HO2 := Lib.hid hown
          have HB2 := Lib.hid (grown_below HO1.out HB1.out hg HB1.out.size)
          clear hown hg
          go_wp2_with fail
          go_roundw
          case rel => exact .inr ⟨rfl, a2, c2, rfl, HO2, HB2⟩
          case measure => simp [intOf]
    · have d2 : ¬ (65535 : Int) < (len : Int) := by omega
      clear hlI
      go_wp2_with fail
      go_ret
      exact ⟨a', c', rfl, HO, HB⟩
end Go.Proofs.YtkaagenmkjkaeaaDoor.InfC
end

section
/-
  A row of ints that came in (FeedW's, without feed). No program, no dump.
-/
namespace Go.My
open Go.RowKit

/-- What came in as a row of ints. -/
def Ints (w : World) (a : Option Addr) (len cap : Nat) : Prop :=
  len ≤ cap ∧ cap ≤ 9223372036854775807 ∧ (len = 0 ∨ ∃ b off, a = some ⟨b, off, none⟩ ∧ b < w.heap.size ∧ ∀ i, i < len → ∃ z : Int, -9223372036854775808 ≤ z ∧ z ≤ 9223372036854775807 ∧ w.cell? ⟨b, off + i, none⟩ = some (.int .i64 z))
theorem row_ints {w : World} {a : Option Addr} {len cap : Nat} {zs : List Int}
    (h : (a = none ∧ len = 0 ∧ cap = 0 ∧ zs = []) ∨
      ∃ x, a = some x ∧ len ≤ cap ∧ cap ≤ maxLen ∧ zs.length = cap ∧ (∀ i, i < zs.length → w.cell? (x.add i) = some (.int .i64 (zs.getD i 0))) ∧ ∀ n ∈ zs, (Lit.int .i64 n).wf = true) : Ints w a len cap := by
  rcases h with ⟨rfl, rfl, rfl, rfl⟩ | ⟨x, rfl, h1, h2, h3, h4, h5⟩
  · exact ⟨Nat.le_refl _, by omega, .inl rfl⟩
  · unfold maxLen at h2
    refine ⟨h1, h2, ?_⟩
    by_cases h0 : len = 0
    · exact .inl h0
    · right
      obtain ⟨b, off, spot⟩ := x
      have hc := h4 0 (by omega)
      have hspot : spot = Option.none := by simpa [Addr.add] using World.cell?_spot hc
      subst hspot
      refine ⟨b, off, rfl, block_lt_of_cell hc, fun i hi => ?_⟩
      have hi' : i < zs.length := by omega
      have := h4 i hi'
      rw [addr_add] at this
      have hw := wf_int (h5 zs[i] (List.getElem_mem hi'))
      refine ⟨zs[i], hw.1, hw.2, ?_⟩
      rw [this, List.getD_eq_getElem?_getD, List.getElem?_eq_getElem hi']
      rfl
theorem Ints.get {w wr : World} {a : Option Addr} {len cap : Nat} (h : Ints w a len cap) (hb : Below w.heap.size w wr) (i : Nat) (hi : i < len) :
    ∃ b off, a = some ⟨b, off, none⟩ ∧ ∃ z : Int, -9223372036854775808 ≤ z ∧ z ≤ 9223372036854775807 ∧ wr.cell? ⟨b, off + i, none⟩ = some (.int .i64 z) := by
  rcases h.2.2 with h0 | ⟨b, off, ha, hlt, hz⟩
  · omega
  · obtain ⟨z, z1, z2, hc⟩ := hz i hi
    exact ⟨b, off, ha, z, z1, z2, by rw [hb.cell (p := ⟨b, off + i, none⟩) hlt]; exact hc⟩
end Go.My
end

section
/-
  InflateStored's law.
-/
namespace Go.Proofs.YtkaagenmkjkaeaaDoor.InfC
open Go.RowKit Go.My BitMath CanMath TabMath WinMath FeedC TabC CanC RefC
open InfMath (M Ok CodeOk mu lack fixL fixD bare shut blocks)

theorem conv_bytes {X : World} {a : Option Addr} {n c : Nat} {l : List UInt8} (h : Bytes X a n c l) : (convert 26 9 (.slice a n c)).run Tryd.prog X = .ok (.string ⟨l.toArray⟩) X :=
  run_string_bytes X 26 9 5 Tryd.underlying26 Tryd.underlying5 Tryd.underlying9 h

/-- What the rounds of InflateStored keep: blocks of the first so many bytes. -/
structure Cut (l : List UInt8) (at_ : Nat) (cs : List (List UInt8)) : Prop where
  flat : cs.flatten = l.take at_
  small : ∀ c ∈ cs, c.length < 65536
  few : (blocks cs).length ≤ 6 * at_
theorem Cut.zero (l : List UInt8) : Cut l 0 [] := ⟨by simp, by simp, by simp [blocks]⟩
theorem Cut.more {l : List UInt8} {at_ : Nat} {cs : List (List UInt8)} (h : Cut l at_ cs) (m : Nat) (h1 : 1 ≤ m) (h2 : m ≤ 400) (h3 : at_ + m ≤ l.length) : Cut l (at_ + m) (cs ++ [(l.drop at_).take m]) := by
  have hlen : ((l.drop at_).take m).length = m := by simp; omega
  refine ⟨?_, ?_, ?_⟩
  · rw [List.flatten_append, h.flat, List.take_add]; simp
  · intro c hc
    rcases List.mem_append.1 hc with hc | hc
    · exact h.small c hc
    · rw [List.mem_singleton.1 hc, hlen]; omega
  · rw [InfMath.blocks_snoc, List.length_append, InfMath.stored_len, hlen]
    have := h.few
    omega
theorem last_take (cs : List (List UInt8)) (n : Nat) (h : (blocks cs ++ InfMath.stored [] true).length = n + 1) : (blocks cs ++ InfMath.stored [] true).take n = blocks cs ++ [1, 0, 0, 255] := by
  rw [List.length_append, InfMath.stored_len] at h
  simp at h
  rw [List.take_append, List.take_of_length_le (by omega), show n - (blocks cs).length = 4 from by omega]
  rfl

set_option maxRecDepth 100000 in
set_option maxHeartbeats 8000000 in
theorem stored_law (a : Option Addr) (len cap : Nat) (l : List UInt8) (ac : Option Addr) (lenc capc : Nat) (w : World) (hb : Bytes w a len cap l) (hc : Ints w ac lenc capc) (hO : Ordr w.heap.size w) :
    Calls Tryd.prog 4 #[.slice a len cap, .slice ac lenc capc] w fun e w' => e = .returned (.bool true) ∧ Below w.heap.size w w' := by
  have HO := Lib.hid hO
  have HBy := Lib.hid hb
  have HC := Lib.hid hc
  have HT := Lib.hid (told_any w hO)
  have hlc := hb.le_cap
  have hcm := hb.cap_le
  have hlcc := hc.1
  have hcmc := hc.2.1
  have HLE := Lib.hid hb.len_eq
  clear hO hb hc
  go_enter Tryd.func4, Tryd.ntmps4
  by_cases h4 : 400 < len
  · go_wp2_with fail
    refine HT.out.mono ?_
    rintro e w1 ⟨rfl, hb⟩
    have HB := Lib.hid hb
    clear hb
    go_wp2_with fail
    go_ret
    exact ⟨rfl, HB.out⟩
  · clear HT
    go_wp2_with fail
    have HL := Lib.hid h4
    have h400 : len ≤ 400 := by omega
    clear h4
    go_loopw [5, 6, 7] (fun sv av iv wr => ∃ (at_ i : Nat) (cs : List (List UInt8)), at_ ≤ len ∧ i ≤ at_ ∧ av = .int .i64 (at_ : Int) ∧ iv = .int .i64 (i : Int) ∧ Hid (Cut l at_ cs) ∧ Hid (Own 5 w.heap.size wr sv (blocks cs)) ∧ Hid (Below w.heap.size w wr)) (fun _ av _ _ => 400 - (intOf av).toNat)
    case atStart => exact ⟨0, 0, [], by omega, by omega, rfl, rfl, Lib.hid (Cut.zero l), Lib.hid (Own.nil _ _ _), Lib.hid (Below.refl _ _)⟩
    case round =>
      obtain ⟨at_, i, cs, hat, hi, rfl, rfl, HCut, HOw, HB⟩ := hrel
      by_cases hlt : at_ < len
      · obtain ⟨b0, off0, rfl⟩ := HBy.out.some_ (by omega)
        by_cases hic : i < lenc
        · obtain ⟨bc0, offc, rfl, z', hz1', hz2', hcell'⟩ := HC.out.get HB.out i hic
          obtain ⟨q', hq', hq2'⟩ : ∃ q' : Nat, bits .and .i64 z' 127 = (q' : Int) ∧ q' < 128 := ⟨(z' % 128).toNat, by rw [i64_and_mask z' 7 (by omega) 127 128 rfl rfl]; omega, by omega⟩
          obtain ⟨M, hM1, hM2, hmin⟩ : ∃ M : Nat, 1 ≤ M ∧ at_ + M ≤ len ∧ (if (len : Int) - (at_ : Int) < 1 + (q' : Int) then (len : Int) - (at_ : Int) else 1 + (q' : Int)) = (M : Int) := by
            by_cases hx : (len : Int) - (at_ : Int) < 1 + (q' : Int)
            · exact ⟨len - at_, by omega, by omega, by rw [if_pos hx]; omega⟩
            · exact ⟨1 + q', by omega, by omega, by rw [if_neg hx]; omega⟩
          have hMI : (at_ : Int) + (M : Int) ≤ (len : Int) := by omega
          have hMI2 : (at_ : Int) ≤ (at_ : Int) + (M : Int) := by omega
          have hMI3 : (at_ : Int) + (M : Int) ≤ (cap : Int) := by omega
          have hne : ¬ cap = at_ := by omega
          have hBy : Bytes wr (some ⟨b0, off0 + at_, none⟩) M (cap - at_) ((l.drop at_).take M) := ((HBy.out.drop at_ (by omega)).take M (by omega)).below (Nat.le_refl _) HB.out
          have HST := Lib.hid (store_any false _ M (cap - at_) _ wr hBy (by omega))
          clear hBy
          go_wp2_with fail
          refine HST.out.mono ?_
          rintro e w1 ⟨a1, c1, rfl, HS1, HB1⟩
          have hlen1 : (InfMath.stored ((l.drop at_).take M) false).length = 5 + M := by rw [InfMath.stored_len]; simp; have := HLE.out; omega
          have HS1B : Hid (∃ a2 c2, Value.slice a1 (5 + M) c1 = .slice a2 (InfMath.stored ((l.drop at_).take M) false).length c2 ∧ Bytes w1 a2 (InfMath.stored ((l.drop at_).take M) false).length c2 (InfMath.stored ((l.drop at_).take M) false)) := Lib.hid HS1.out.bytes
          have hS1B : Bytes w1 a1 (5 + M) c1 (InfMath.stored ((l.drop at_).take M) false) := by
            obtain ⟨a2, c2, h1, h2⟩ := HS1B.out
            simp only [Value.slice.injEq] at h1
            obtain ⟨rfl, -, rfl⟩ := h1
            rw [hlen1] at h2; exact h2
          have HO1 := Lib.hid (HOw.out.below (Nat.le_refl _) HB1.out)
          have HB2 := Lib.hid (HB.out.trans (HB1.out.mono HB.out.size))
          have hfew : (blocks cs).length ≤ 2400 := by have := HCut.out.few; omega
          have hmore := HCut.out.more M hM1 (by omega) (by have := HLE.out; omega)
          have HMO := Lib.hid hmore
          have HS1c := Lib.hid hS1B
          clear HST HS1B HS1 HB1 HB HOw HCut hlen1 hmin hMI hMI2 hMI3 hne hmore hS1B
          go_wp2_with (at_builtin; refine wpList_append_bytes (by rfl) (.tmp 46) (.tmp 53) 26 rfl w.heap.size 5 Tryd.underlying26 info5 _ (blocks cs) rfl HO1.out a1 (5 + M) c1 _ rfl HS1c.out (by omega) HB2.out.size ?_)
          intro v2 w2 hown hg
          rw [← InfMath.blocks_snoc] at hown
          have HO2 := Lib.hid hown
          have HB3 := Lib.hid (grown_below HO1.out HB2.out hg HB2.out.size)
          clear hown hg
          go_wp2_with fail
          go_roundw
          case rel => exact ⟨at_ + M, i + 1, _, by omega, by omega, by go_num, by go_num, HMO, HO2, HB3⟩
          case measure => simp [intOf]; omega
        · obtain ⟨M, hM1, hM2, hmin⟩ : ∃ M : Nat, 1 ≤ M ∧ at_ + M ≤ len ∧ (if (len : Int) - (at_ : Int) < (len : Int) then (len : Int) - (at_ : Int) else (len : Int)) = (M : Int) := by
            by_cases hx : (len : Int) - (at_ : Int) < (len : Int)
            · exact ⟨len - at_, by omega, by omega, by rw [if_pos hx]; omega⟩
            · exact ⟨len, by omega, by omega, by rw [if_neg hx]⟩
          have hMI : (at_ : Int) + (M : Int) ≤ (len : Int) := by omega
          have hMI2 : (at_ : Int) ≤ (at_ : Int) + (M : Int) := by omega
          have hMI3 : (at_ : Int) + (M : Int) ≤ (cap : Int) := by omega
          have hne : ¬ cap = at_ := by omega
          have hBy : Bytes wr (some ⟨b0, off0 + at_, none⟩) M (cap - at_) ((l.drop at_).take M) := ((HBy.out.drop at_ (by omega)).take M (by omega)).below (Nat.le_refl _) HB.out
          have HST := Lib.hid (store_any false _ M (cap - at_) _ wr hBy (by omega))
          clear hBy
          go_wp2_with fail
          refine HST.out.mono ?_
          rintro e w1 ⟨a1, c1, rfl, HS1, HB1⟩
          have hlen1 : (InfMath.stored ((l.drop at_).take M) false).length = 5 + M := by rw [InfMath.stored_len]; simp; have := HLE.out; omega
          have HS1B : Hid (∃ a2 c2, Value.slice a1 (5 + M) c1 = .slice a2 (InfMath.stored ((l.drop at_).take M) false).length c2 ∧ Bytes w1 a2 (InfMath.stored ((l.drop at_).take M) false).length c2 (InfMath.stored ((l.drop at_).take M) false)) := Lib.hid HS1.out.bytes
          have hS1B : Bytes w1 a1 (5 + M) c1 (InfMath.stored ((l.drop at_).take M) false) := by
            obtain ⟨a2, c2, h1, h2⟩ := HS1B.out
            simp only [Value.slice.injEq] at h1
            obtain ⟨rfl, -, rfl⟩ := h1
            rw [hlen1] at h2; exact h2
          have HO1 := Lib.hid (HOw.out.below (Nat.le_refl _) HB1.out)
          have HB2 := Lib.hid (HB.out.trans (HB1.out.mono HB.out.size))
          have hfew : (blocks cs).length ≤ 2400 := by have := HCut.out.few; omega
          have hmore := HCut.out.more M hM1 (by omega) (by have := HLE.out; omega)
          have HMO := Lib.hid hmore
          have HS1c := Lib.hid hS1B
          clear HST HS1B HS1 HB1 HB HOw HCut hlen1 hmin hMI hMI2 hMI3 hne hmore hS1B
          go_wp2_with (at_builtin; refine wpList_append_bytes (by rfl) (.tmp 46) (.tmp 53) 26 rfl w.heap.size 5 Tryd.underlying26 info5 _ (blocks cs) rfl HO1.out a1 (5 + M) c1 _ rfl HS1c.out (by omega) HB2.out.size ?_)
          intro v2 w2 hown hg
          rw [← InfMath.blocks_snoc] at hown
          have HO2 := Lib.hid hown
          have HB3 := Lib.hid (grown_below HO1.out HB2.out hg HB2.out.size)
          clear hown hg
          go_wp2_with fail
          go_roundw
          case rel => exact ⟨at_ + M, i + 1, _, by omega, by omega, by go_num, by go_num, HMO, HO2, HB3⟩
          case measure => simp [intOf]; omega
      · obtain rfl : at_ = len := by omega
        have hfl : cs.flatten = l := by rw [HCut.out.flat]; exact List.take_of_length_le (by have := HLE.out; omega)
        have HFL := Lib.hid hfl
        have HSM := Lib.hid HCut.out.small
        have hfew : (blocks cs).length ≤ 2400 := by have := HCut.out.few; omega
        have HST := Lib.hid (store_any true none 0 0 [] wr (nil_bytes wr) (by omega))
        clear hfl hi hlt HCut
        go_wp2_with fail
        refine HST.out.mono ?_
        rintro e w1 ⟨a1, c1, rfl, HS1, HB1⟩
        have hS1B : Bytes w1 a1 5 c1 (InfMath.stored [] true) := by
          obtain ⟨a2, c2, h1, h2⟩ := HS1.out.bytes
          simp only [Value.slice.injEq] at h1
          obtain ⟨rfl, -, rfl⟩ := h1
          exact h2
        have HO1 := Lib.hid (HOw.out.below (Nat.le_refl _) HB1.out)
        have HB2 := Lib.hid (HB.out.trans (HB1.out.mono HB.out.size))
        have HS1c := Lib.hid hS1B
        clear HST HS1 HB1 HB HOw hS1B
        go_wp2_with (at_builtin; refine wpList_append_bytes (by rfl) (.tmp 58) (.tmp 59) 26 rfl w.heap.size 5 Tryd.underlying26 info5 _ (blocks cs) rfl HO1.out a1 5 c1 _ rfl HS1c.out (by omega) HB2.out.size ?_)
        intro v2 w2 hown hg
        obtain ⟨sa, sc, rfl, hbs⟩ := hown.bytes
        have HB3 := Lib.hid (grown_below HO1.out HB2.out hg HB2.out.size)
        have HO2 := Lib.hid hown
        have HBS := Lib.hid hbs
        obtain ⟨n, hn⟩ : ∃ n, (blocks cs ++ InfMath.stored [] true).length = n + 1 := ⟨(blocks cs).length + 4, by rw [List.length_append, InfMath.stored_len]; rfl⟩
        obtain ⟨N, hN⟩ : ∃ N, N = (blocks cs ++ InfMath.stored [] true).length := ⟨_, rfl⟩
        rw [← hN] at HO2 HBS ⊢
        have hN1 : (N : Int) - 1 = (n : Int) := by omega
        have hN2 : N ≤ 2405 := by rw [hN, List.length_append, InfMath.stored_len]; simp; omega
        have hN3 : N = n + 1 := by omega
        have hNC := HBS.out.le_cap
        have HN := Lib.hid (And.intro hn (And.intro hN (And.intro hN1 (And.intro hN3 hNC))))
        clear hown hg hbs hn hN hN1 hN3 hNC HO1 HB2 HS1c
        obtain ⟨sb, so, rfl⟩ := HBS.out.some_ (by have := HN.out.2.2.2.1; omega)
        go_upto_region 15 with (fail)
        go_wp2_with (at_builtin; refine wpList_append_bytes (by rfl) (.tmp 62) (.tmp 63) 26 rfl w2.heap.size 5 Tryd.underlying26 info5 (.slice (some ⟨w2.heap.size, 0, none⟩) 0 0) [] rfl (Own.empty 5 w2 (Nat.le_refl _)) (some ⟨sb, so, none⟩) N sc (blocks cs ++ InfMath.stored [] true) rfl (HBS.out.below (Nat.le_refl _) ((Below.refl _ _).alloc (Nat.le_refl _) _)) (by simp; omega) (by simp) ?_)
        intro v3 w3 hown hg
        have HG3 := Lib.hid (grown_below (Own.empty 5 w2 (Nat.le_refl _)) ((Below.refl w2.heap.size w2).alloc (Nat.le_refl _) _) hg (by simp))
        have HO3 := Lib.hid hown
        have hb99 : Bytes (w3.alloc (.cells #[.int .u8 9, .int .u8 9] 5)) (some ⟨w3.heap.size, 0, none⟩) 2 2 [9, 9] := lit_bytes 5 w3 _ [9, 9] rfl (by simp)
        have HO3a := Lib.hid (HO3.out.below (Nat.le_refl _) ((Below.refl _ w3).alloc (Nat.le_refl _) (.cells #[.int .u8 9, .int .u8 9] 5)))
        clear hown hg
        go_wp2_with (at_builtin; refine wpList_append_bytes (by rfl) (.tmp 64) (.tmp 65) 26 rfl w2.heap.size 5 Tryd.underlying26 info5 v3 (blocks cs ++ InfMath.stored [] true) rfl HO3a.out _ 2 2 [9, 9] rfl hb99 (by rw [← HN.out.2.1]; omega) (by have := HG3.out.size; simp; omega) ?_)
        intro v4 w4 hown hg
        have HG4 := Lib.hid (grown_below HO3a.out (HG3.out.alloc HG3.out.size _) hg (by have := HG3.out.size; simp; omega))
        obtain ⟨za, zc, rfl, hbz⟩ := hown.bytes
        have hzl : (blocks cs ++ (InfMath.stored [] true ++ [9, 9])).length = N + 2 := by rw [← List.append_assoc, List.length_append, ← HN.out.2.1]; rfl
        rw [hzl] at hbz ⊢
        rw [← List.append_assoc] at hbz
        have HB5 := Lib.hid (HB3.out.trans (HG4.out.mono HB3.out.size))
        have HBS4 := Lib.hid (HBS.out.below (Nat.le_refl _) HG4.out)
        obtain ⟨t1, e1, o1, u1⟩ := InfMath.stream_ok false 1 at_ cs [9, 9] HSM.out (by rw [HFL.out, HLE.out]; exact Nat.le_refl _)
        have hA := all_ok (S := 1) (most := at_) hbz (by omega) (by omega) (by omega) (by omega) (HO.out.up HB5.out) e1
        rw [o1, u1, HFL.out, ← HN.out.2.1, HLE.out] at hA
        have HA := Lib.hid hA
        clear hown hg hbz hzl hA e1 o1 u1 hb99 HO3 HO3a HG3 HG4 HBS HO2 HB3
        go_wp2_with fail
        refine HA.out.mono ?_
        rintro e w5 ⟨oa, oc, rfl, HOx, HBx⟩
        have HB6 := Lib.hid (HB5.out.trans (HBx.out.mono HB5.out.size))
        have HBS5 := Lib.hid (HBS4.out.below (Nat.le_refl _) HBx.out)
        have hcv1 : (convert 26 9 (.slice oa at_ oc)).run Tryd.prog w5 = .ok (.string ⟨l.toArray⟩) w5 := conv_own HOx.out
        have hcv2 := conv_bytes (HBy.out.below (Nat.le_refl _) HB6.out)
        have HT := Lib.hid (told_any w5 (HO.out.up HB6.out))
        clear HA HBx HB5 HBS4
        by_cases h0 : at_ = 0
        · have h0I : ((at_ : Int) == 0) = true := by simp; omega
          clear h0
          go_wp2_with fail
          refine HT.out.mono ?_
          rintro e w6 ⟨rfl, hb⟩
          have HB7 := Lib.hid (HB6.out.trans (hb.mono HB6.out.size))
          clear hb
          go_wp2_with fail
          go_ret
          exact ⟨rfl, HB7.out⟩
        · have h0I : ((at_ : Int) == 0) = false := by simp; omega
          obtain ⟨k, hk, hkI⟩ : ∃ k : Nat, k + 1 = at_ ∧ (at_ : Int) - 1 = (k : Int) := ⟨at_ - 1, by omega, by omega⟩
          obtain ⟨t2, e2⟩ := InfMath.stream_over true 65536 k cs (InfMath.stored [] true) HSM.out (by rw [HFL.out, HLE.out]; omega)
          have HA2 := Lib.hid (all_err (S := 65536) (most := k) HBS5.out (by omega) (by omega) (by omega) (by omega) (HO.out.up HB6.out) e2 (by decide))
          clear h0 e2 hk HT
          go_wp2_with fail
          refine HA2.out.mono ?_
          rintro e w6 ⟨rfl, HBx⟩
          have HB7 := Lib.hid (HB6.out.trans (HBx.out.mono HB6.out.size))
          obtain ⟨t3, e3⟩ := InfMath.stream_short false 32768 at_ cs HSM.out (by rw [HFL.out, HLE.out]; exact Nat.le_refl _)
          have hb3 := (HBS5.out.below (Nat.le_refl _) HBx.out).take n (by have := HN.out.2.2.2.1; omega)
          rw [last_take cs n HN.out.1] at hb3
          have HA3 := Lib.hid (all_err (S := 32768) (most := at_) hb3 (by have := HN.out.2.2.2.1; omega) (by omega) (by omega) (by omega) (HO.out.up HB7.out) e3 (by decide))
          have hn1 := HN.out.2.2.1
          have hn2 : (n : Int) ≤ (sc : Int) := by have := HN.out.2.2.2; omega
          clear HA2 hkI hb3 e3 hcv1 hcv2
          go_wp2_with fail
          refine HA3.out.mono ?_
          rintro e w7 ⟨rfl, HBy7⟩
          have HB8 := Lib.hid (HB7.out.trans (HBy7.out.mono HB7.out.size))
          have HT := Lib.hid (told_any w7 (HO.out.up HB8.out))
          clear HA3 hn1 hn2
          go_wp2_with fail
          refine HT.out.mono ?_
          rintro e w8 ⟨rfl, hb⟩
          have HB9 := Lib.hid (HB8.out.trans (hb.mono HB8.out.size))
          clear hb
          go_wp2_with fail
          go_ret
          exact ⟨rfl, HB9.out⟩
end Go.Proofs.YtkaagenmkjkaeaaDoor.InfC
end
