import Derived.Test.YtdbcendnibgcaaaGreatDoorMgAa
import Derived.Test.YtdbcendnibgcaaaGreatDoorRows
import Derived.Lib.ConvBytes
import Derived.StillTailTactics
import Derived.Deep.AppendLies
import Derived.Deep.Draws

section
/-
  []byte(s) of a text; rows of the call's own.
-/
namespace Go.Proofs.YtdbcendnibgcaaaGreatDoor.ZlC
open Go.RowKit Go.My

theorem bytesWorld_below (w : World) (E : TypeId) (S : ByteArray) : Below w.heap.size w (Go.Lib.bytesWorld w E S) := by
  refine ⟨rfl, rfl, rfl, by rw [Go.Lib.bytesWorld_size]; omega, fun k hk => Go.Lib.bytesWorld_at_old w E S k hk⟩
theorem str_bytes (w : World) (S : ByteArray) (h : S.size ≤ 1000000000) : ∃ c W, (convert 9 22 (.string S)).run Tryz.prog w = .ok (.slice (some ⟨w.heap.size, 0, none⟩) S.size c) W ∧ Bytes W (some ⟨w.heap.size, 0, none⟩) S.size c S.data.toList ∧ Below w.heap.size w W := by
  refine ⟨grownCap w S.size 0 5, Go.Lib.bytesWorld w 5 S, Go.Lib.run_convert_string_bytes w 9 22 5 S Tryz.underlying9 Tryz.underlying22 Tryz.underlying5, ?_, bytesWorld_below _ _ _⟩
  refine ⟨by rw [Array.length_toList]; rfl, grownCap_ge w S.size 0 5, ?_, (fun h => by cases h), .inr ⟨w.heap.size, 0, rfl, by rw [Go.Lib.bytesWorld_size]; omega, fun i hi => ?_⟩⟩
  · have := grownCap_le_maxLen w S.size 0 5 (by unfold maxLen; omega)
    simpa [maxLen] using this
  · rw [Nat.zero_add, Go.Lib.bytesWorld_cell _ _ _ _ hi]
    rw [List.getD, List.getElem?_eq_getElem hi]
    rfl
theorem own_by {E : TypeId} {B : Nat} {w : World} {a : Option Addr} {n c : Nat} {l : List UInt8} (h : Own E B w (.slice a n c) l) : l.length = n ∧ Bytes w a n c l := by
  obtain ⟨_, _, he, hb⟩ := h.bytes
  cases he
  exact ⟨rfl, hb⟩
theorem own_some {E : TypeId} {B : Nat} {w : World} {a : Option Addr} {n c : Nat} {l : List UInt8} (h : Own E B w (.slice a n c) l) (h0 : 0 < n) : ∃ g, a = some ⟨g, 0, none⟩ ∧ B ≤ g := by
  rcases h.2 with ⟨e, _⟩ | ⟨g, cap, cur, e, hg, _⟩
  · simp only [Value.slice.injEq] at e; omega
  · simp only [Value.slice.injEq] at e
    exact ⟨g, e.1, hg⟩
theorem u8_xor (x y : UInt8) : bits .xor .u8 (x.toNat : Int) (y.toNat : Int) = ((x ^^^ y).toNat : Int) := by
  have h : (x ^^^ y).toNat < 256 := (x ^^^ y).toNat_lt
  have e : ((BitVec.ofInt 8 (x.toNat : Int)) ^^^ (BitVec.ofInt 8 (y.toNat : Int))).toNat = (x ^^^ y).toNat := by
    have e1 : BitVec.ofInt 8 (x.toNat : Int) = x.toBitVec := by
      apply BitVec.eq_of_toNat_eq; simp
    have e2 : BitVec.ofInt 8 (y.toNat : Int) = y.toBitVec := by
      apply BitVec.eq_of_toNat_eq; simp
    rw [e1, e2]; rfl
  have hu : bits .xor .u8 (x.toNat : Int) (y.toNat : Int) = IntKind.u8.wrap ((((BitVec.ofInt 8 (x.toNat : Int)) ^^^ (BitVec.ofInt 8 (y.toNat : Int))).toNat : Nat) : Int) := rfl
  rw [hu, e, IntWalk.u8_in _ (by omega)]
theorem xor_self_eq {x y : UInt8} (e : x ^^^ y = x) : y = 0 := by
  have := congrArg (x ^^^ ·) e
  simpa [← UInt8.xor_assoc] using this
theorem str_app (l m : List UInt8) : (⟨l.toArray⟩ : ByteArray) ++ ⟨m.toArray⟩ = ⟨(l ++ m).toArray⟩ := by
  apply ByteArray.ext
  simp
theorem row_lit (E : TypeId) (w : World) (l : List UInt8) (fr : Nat × Nat) (hl : l.length ≤ 1000) : Bytes (w.alloc (.cells (l.map fun c => Value.int .u8 (c.toNat : Int)).toArray E fr)) (some ⟨w.heap.size, 0, none⟩) l.length l.length l := by
  refine ⟨rfl, Nat.le_refl _, by omega, (fun h => by cases h), .inr ⟨w.heap.size, 0, rfl, by simp, ?_⟩⟩
  intro i hi
  have hh : (w.alloc (.cells (l.map fun c => Value.int .u8 (c.toNat : Int)).toArray E fr)).heap[w.heap.size]? = some (.cells (l.map fun c => Value.int .u8 (c.toNat : Int)).toArray E fr) := heap_alloc_new w _
  rw [World.cell?]
  simp only [hh]
  simp [hi]
/-- b[k:] -/
theorem cut_from {w : World} {a : Option Addr} {n c : Nat} {l : List UInt8} (h : Bytes w a n c l) (k : Nat) (hk : k ≤ n) :
    ∃ a', (if c = k then a else a.map fun x => x.add k) = a' ∧ (∀ W, (Instr.slice 22 (.slice a n c) (some (.int .i64 (k : Int))) none none).run Tryz.prog W = .ok (.slice a' (n - k) (c - k)) W) ∧ Bytes w a' (n - k) (c - k) (l.drop k) ∧ ∀ b o, a' = some ⟨b, o, none⟩ → ∃ o', a = some ⟨b, o', none⟩ := by
  have hr : ∀ W, (Instr.slice 22 (.slice a n c) (some (.int .i64 (k : Int))) none none).run Tryz.prog W = .ok (.slice (if c = k then a else a.map fun x => x.add k) (n - k) (c - k)) W := fun W => by
    rw [run_slice_l (ht := by kernel_rfl) (h0 := by omega) (h1 := by omega)]
    have e : (sizeOf (Tryz.prog.elem 22)).run Tryz.prog W = .ok 1 W := by kernel_rfl
    rw [e]
    simp only [Result.andThen, sliced, Int.toNat_natCast, Nat.mul_one]
  by_cases hc : c = k
  · have hn : n = k := by have := h.le_cap; omega
    simp only [if_pos hc] at hr
    refine ⟨a, if_pos hc, hr, ⟨by simp [h.len_eq], by omega, by have := h.cap_le; omega, fun e => ⟨by omega, by omega⟩, .inl (by omega)⟩, fun b o e => ⟨o, e⟩⟩
  · simp only [if_neg hc] at hr
    cases a with
    | none => exact absurd ((h.nil rfl).2) (by have := (h.nil rfl).1; omega)
    | some x =>
      obtain ⟨b, off, sp⟩ := x
      by_cases h0 : n = 0
      · refine ⟨_, if_neg hc, hr, ⟨by simp [h.len_eq], by omega, by have := h.cap_le; omega, fun e => (by cases e), .inl (by omega)⟩, fun b' o e => ?_⟩
        obtain rfl : k = 0 := by omega
        exact ⟨o, by simpa [Addr.add] using e⟩
      · obtain ⟨b', off', he⟩ := h.some_ (by omega)
        cases he
        refine ⟨_, if_neg hc, hr, ?_, fun b' o e => ?_⟩
        · have := h.drop k hk
          simp only [Option.map_some, addr_add]
          exact this
        · simp only [Option.map_some, addr_add, Option.some.injEq, Addr.mk.injEq, and_true] at e
          exact ⟨off, by rw [e.1]⟩

theorem own_low {E : TypeId} {B B' : Nat} {w : World} {v : Value} {l : List UInt8} (h : Own E B w v l) (hB : B' ≤ B) : Own E B' w v l := by
  refine ⟨h.1, ?_⟩
  rcases h.2 with hn | ⟨g, cap, cur, h1, h2, rest⟩
  · exact .inl hn
  · exact .inr ⟨g, cap, cur, h1, Nat.le_trans hB h2, rest⟩
end Go.Proofs.YtdbcendnibgcaaaGreatDoor.ZlC
end

section
namespace Go.Proofs.YtdbcendnibgcaaaGreatDoor.AdlerC
open Go.RowKit Go.My AdlerMath

theorem and_16 (c : Nat) (hc : c < 4294967296) : bits .and .u32 (c : Int) 65535 = ((c % 65536 : Nat) : Int) := by
  rw [show (65535 : Int) = ((65535 : Nat) : Int) from rfl, u32_and_nat _ _ hc (by omega)]
  congr 1
  exact Nat.and_two_pow_sub_one_eq_mod c 16
theorem or_16 (x y : Nat) (hx : x < 65536) (hy : y < 65536) : bits .or .u32 ((y : Int) * 65536) (x : Int) = ((y * 65536 + x : Nat) : Int) := by
  rw [show (y : Int) * 65536 = ((y * 65536 : Nat) : Int) from by omega, u32_or_nat _ _ (by omega) (by omega)]
  congr 1
  have := Nat.shiftLeft_add_eq_or_of_lt (i := 16) (a := y) (b := x) (by omega)
  rw [Nat.shiftLeft_eq] at this
  exact this.symm

theorem ret_two {a b c d : Int} (h1 : a = c) (h2 : b = d) : Ending.returned (.tuple #[.int .u32 a, .int .u32 b]) = .returned (.tuple #[.int .u32 c, .int .u32 d]) := by rw [h1, h2]

set_option maxHeartbeats 400000 in
theorem halves_any (c : Nat) (w : World) (hc : c < 4294967296) :
    Calls Tryz.prog 59 #[.int .u32 (c : Int)] w fun e w' => e = .returned (.tuple #[.int .u32 ((c % 65536 % 65521 : Nat) : Int), .int .u32 ((c / 65536 % 65521 : Nat) : Int)]) ∧ w = w' := by
  have e := and_16 c hc
  go_enter Tryz.func59, Tryz.ntmps59
  go_wp2
  go_ret2
  exact ⟨ret_two (by omega) (by omega), rfl⟩
set_option maxHeartbeats 400000 in
theorem whole_any (x y : Nat) (w : World) (hx : x < 65521) (hy : y < 65521) :
    Calls Tryz.prog 61 #[.int .u32 (x : Int), .int .u32 (y : Int)] w fun e w' => e = .returned (.int .u32 ((y * 65536 + x : Nat) : Int)) ∧ w = w' := by
  have e := or_16 x y (by omega) (by omega)
  go_enter Tryz.func61, Tryz.ntmps61
  go_wp2
  go_ret
  exact ⟨ret_int rfl, rfl⟩

theorem whole_at (x y : Int) (p q : Nat) (w : World) (hx : x = (p : Int)) (hy : y = (q : Int)) (hp : p < 65521) (hq : q < 65521) :
    Calls Tryz.prog 61 #[.int .u32 x, .int .u32 y] w fun e w' => e = .returned (.int .u32 ((q * 65536 + p : Nat) : Int)) ∧ w = w' := by
  subst hx hy; exact whole_any p q w hp hq

set_option maxHeartbeats 1000000 in
theorem add_any (x y : Nat) (a : Option Addr) (len cap : Nat) (l : List UInt8) (w : World) (hx : x < 65521) (hy : y < 65521) (hl : l.length ≤ 5552) (hb : Bytes w a len cap l) :
    Calls Tryz.prog 60 #[.int .u32 (x : Int), .int .u32 (y : Int), .slice a len cap] w fun e w' => e = .returned (.tuple #[.int .u32 (((x + S l) % 65521 : Nat) : Int), .int .u32 (((y + l.length * x + T l) % 65521 : Nat) : Int)]) ∧ w = w' := by
  obtain ⟨rfl, hlc, hcm, _, hb⟩ := hb
  clear hlc hcm
  go_enter Tryz.func60, Tryz.ntmps60
  go_wp2
  go_loop [0, 1, 11] (fun vx vy i => ∃ k p q : Nat, k ≤ l.length ∧ i = .int .i64 k ∧ vx = .int .u32 (p : Int) ∧ vy = .int .u32 (q : Int) ∧ Hid (p = x + S (l.take k)) ∧ Hid (q = y + k * x + T (l.take k))) (fun _ _ i => l.length - (intOf i).toNat)
  case atStart => exact ⟨0, x, y, Nat.zero_le _, rfl, rfl, rfl, Lib.hid (by simp [S]), Lib.hid (by simp [T])⟩
  case round =>
    obtain ⟨k, p, q, hk, rfl, rfl, rfl, HP, HQ⟩ := hrel
    by_cases hlt : k < l.length
    · rcases hb with h0 | ⟨b, off, rfl, hbs, hc⟩
      · omega
      have hck := hc k hlt
      have hv : (l[k].toNat : Int) < 256 := by have := l[k].toNat_lt; omega
      have hp : Hid (p + l[k].toNat = x + S (l.take (k + 1))) := Lib.hid (by rw [S_snoc l k hlt, HP.out]; omega)
      have hq : Hid (q + (p + l[k].toNat) = y + (k + 1) * x + T (l.take (k + 1))) := Lib.hid (by rw [T_snoc l k hlt, HQ.out, HP.out, Nat.add_mul]; omega)
      have hbd := bounds x y hx hy (l.take (k + 1)) (by simp; omega)
      rw [show (l.take (k + 1)).length = k + 1 from by simp; omega, ← hp.out, ← hq.out] at hbd
      obtain ⟨hb1, hb2⟩ := hbd
      clear hc HP HQ
      go_wp2
      go_round
      case rel => exact ⟨k + 1, p + l[k].toNat, q + (p + l[k].toNat), by omega, by go_num, by go_num, by go_num, hp, hq⟩
      case measure => simp [intOf]; omega
    · obtain rfl : k = l.length := by omega
      rw [List.take_length] at HP HQ
      have hbd := bounds x y hx hy l hl
      rw [← HP.out, ← HQ.out] at hbd
      obtain ⟨hb1, hb2⟩ := hbd
      go_wp2
      go_ret2
      exact ⟨ret_two (by have h := congrArg (fun n : Nat => ((n % 65521 : Nat) : Int)) HP.out; simpa using h) (by have h := congrArg (fun n : Nat => ((n % 65521 : Nat) : Int)) HQ.out; simpa using h), rfl⟩

def sliceLen : Value → Nat | .slice _ n _ => n | _ => 0

set_option maxRecDepth 100000 in
set_option maxHeartbeats 1000000 in
theorem update_any (c : Nat) (a : Option Addr) (len cap : Nat) (l : List UInt8) (w : World) (hc : c < 4294967296) (hb : Bytes w a len cap l) :
    Calls Tryz.prog 41 #[.int .u32 (c : Int), .slice a len cap] w fun e w' => e = .returned (.int .u32 ((adler c l : Nat) : Int)) ∧ w = w' := by
  have H := Lib.hid hb
  clear hb
  go_enter Tryz.func41, Tryz.ntmps41
  go_wp2_with fail
  refine (halves_any c w hc).mono ?_
  rintro e w' ⟨rfl, rfl⟩
  go_wp2_with fail
  go_loop [1, 5, 6] (fun b x y => ∃ (a : Option Addr) (len cap : Nat) (l1 l2 : List UInt8), b = .slice a len cap ∧ Hid (Bytes w a len cap l2) ∧ Hid (l = l1 ++ l2) ∧ x = .int .u32 ((lo c l1 : Nat) : Int) ∧ y = .int .u32 ((hi c l1 : Nat) : Int)) (fun b _ _ => sliceLen b)
  case atStart => exact ⟨a, len, cap, [], l, rfl, H, Lib.hid rfl, by simp [lo, S], by simp [hi, T]⟩
  case round =>
    clear H
    obtain ⟨a, len, cap, l1, l2, rfl, HB, HL, rfl, rfl⟩ := hrel
    have hlo := lo_lt c l1
    have hhi := hi_lt c l1
    have hcap := HB.out.cap_le
    have hlc := HB.out.le_cap
    have HLEN := Lib.hid HB.out.len_eq
    by_cases hlt : 5552 < len
    · obtain ⟨b, off, rfl⟩ := HB.out.some_ (by omega)
      go_wp2_with fail
      refine (add_any _ _ _ _ _ (l2.take 5552) w hlo hhi (by simp; omega) (HB.out.take 5552 (by omega))).mono ?_
      rintro e w' ⟨rfl, rfl⟩
      rw [add_lo, add_hi]
      go_wp2_with fail
      go_round
      case rel => exact ⟨_, _, _, l1 ++ l2.take 5552, l2.drop 5552, rfl, Lib.hid (HB.out.drop 5552 (by omega)), Lib.hid (by rw [HL.out, List.append_assoc, List.take_append_drop]), rfl, rfl⟩
      case measure => simp [sliceLen]; omega
    · go_wp2_with fail
      refine (add_any _ _ _ _ _ l2 w hlo hhi (by have := HLEN.out; omega) HB.out).mono ?_
      rintro e w' ⟨rfl, rfl⟩
      rw [add_lo, add_hi]
      go_wp2_with fail
      refine (whole_any _ _ w (lo_lt _ _) (hi_lt _ _)).mono ?_
      rintro e w' ⟨rfl, rfl⟩
      go_wp2_with fail
      go_ret
      exact ⟨ret_int (by rw [← HL.out]; rfl), rfl⟩

theorem sum_any (a : Option Addr) (len cap : Nat) (l : List UInt8) (w : World) (hb : Bytes w a len cap l) :
    Calls Tryz.prog 27 #[.slice a len cap] w fun e w' => e = .returned (.int .u32 ((adler 1 l : Nat) : Int)) ∧ w = w' := by
  have H := Lib.hid hb
  clear hb
  go_enter Tryz.func27, Tryz.ntmps27
  go_wp2_with fail
  refine (update_any 1 _ _ _ l w (by omega) H.out).mono ?_
  rintro e w' ⟨rfl, rfl⟩
  go_wp2_with fail
  go_ret
  exact ⟨rfl, rfl⟩

set_option maxHeartbeats 1000000 in
theorem ref_any (c : Nat) (a : Option Addr) (len cap : Nat) (l : List UInt8) (w : World) (hc : c < 4294967296) (hb : Bytes w a len cap l) :
    Calls Tryz.prog 15 #[.int .u32 (c : Int), .slice a len cap] w fun e w' => e = .returned (.int .u32 ((adler c l : Nat) : Int)) ∧ w = w' := by
  obtain ⟨rfl, hlc, hcm, _, hb⟩ := hb
  have hm : l.length ≤ 9223372036854775807 := by omega
  clear hlc hcm
  have e := and_16 c hc
  go_enter Tryz.func15, Tryz.ntmps15
  go_wp2
  go_loop [5, 6, 7] (fun x y i => ∃ (k : Nat), k ≤ l.length ∧ i = .int .i64 k ∧ x = .int .u32 ((lo c (l.take k) : Nat) : Int) ∧ y = .int .u32 ((hi c (l.take k) : Nat) : Int)) (fun _ _ i => l.length - (intOf i).toNat)
  case atStart => exact ⟨0, Nat.zero_le _, rfl, by simp [lo, S], by simp [hi, T]⟩
  case round =>
    clear e
    obtain ⟨k, hk, rfl, rfl, rfl⟩ := hrel
    have hlo := lo_lt c (l.take k)
    have hhi := hi_lt c (l.take k)
    by_cases hlt : k < l.length
    · rcases hb with h0 | ⟨b, off, rfl, hbs, hc⟩
      · omega
      have hck := hc k hlt
      have hv : (l[k].toNat : Int) < 256 := by have := l[k].toNat_lt; omega
      have e1 : Hid (lo c (l.take (k + 1)) = (lo c (l.take k) + l[k].toNat) % 65521) := Lib.hid (by
        rw [List.take_succ_eq_append_getElem hlt, ← add_lo]; simp [S])
      have e2 : Hid (hi c (l.take (k + 1)) = (hi c (l.take k) + (lo c (l.take k) + l[k].toNat) % 65521) % 65521) := Lib.hid (by
        rw [List.take_succ_eq_append_getElem hlt, ← add_hi]; simp [T]; omega)
      clear hc
      go_wp2
      go_round
      case rel => exact ⟨k + 1, by omega, by go_num, by rw [e1.out]; go_num, by rw [e2.out]; go_num⟩
      case measure => simp [intOf]; omega
    · obtain rfl : k = l.length := by omega
      rw [List.take_length] at *
      have e := or_16 (lo c l) (hi c l) (by omega) (by omega)
      go_wp2
      go_ret
      exact ⟨ret_int rfl, rfl⟩

end Go.Proofs.YtdbcendnibgcaaaGreatDoor.AdlerC
end

section
/-
  Memory behind a pointer: a struct's block known whole, a slice of bytes that it owns, and what a call may turn of them. No program, no dump.
-/
namespace Go.My
open Go.RowKit

/-- Block g is just the cells cs of type t, none frozen. -/
def Blk (w : World) (g : Nat) (t : TypeId) (cs : Array Value) : Prop := w.heap[g]? = some (.cells cs t (0, 0))

/-- The block stands as it did: so does what is known of it. -/
theorem Blk.same {w w' : World} {g : Nat} {t : TypeId} {cs : Array Value} (h : Blk w g t cs) (e : w'.heap[g]? = w.heap[g]?) : Blk w' g t cs := e.trans h
section
variable {w w' : World} {g : Nat} {t : TypeId} {cs : Array Value}
theorem Blk.lt (h : Blk w g t cs) : g < w.heap.size := (Array.getElem?_eq_some_iff.1 (show w.heap[g]? = some _ from h)).1
theorem Blk.cell (h : Blk w g t cs) (i : Nat) : w.cell? ⟨g, i, none⟩ = cs[i]? := by rw [World.cell?]; simp only [show w.heap[g]? = _ from h]; rfl
theorem Blk.frozen (h : Blk w g t cs) (i : Nat) : w.frozen? ⟨g, i, none⟩ = false := by rw [World.frozen?]; simp [show w.heap[g]? = _ from h]
theorem Blk.new (w : World) (t : TypeId) (cs : Array Value) : Blk (w.alloc (.cells cs t)) w.heap.size t cs := heap_alloc_new w _
theorem Blk.drew (h : Blk w g t cs) : Blk w.drew g t cs := h
theorem Blk.alloc (h : Blk w g t cs) (o : Obj) : Blk (w.alloc o) g t cs := h.same (Below.heap_alloc w o g h.lt)
theorem Blk.set_ (h : Blk w g t cs) (i : Nat) (u : Value) : Blk (w.setCell ⟨g, i, none⟩ u) g t (cs.setIfInBounds i u) := by
  show (w.setCell ⟨g, i, none⟩ u).heap[g]? = _
  rw [World.setCell, Array.getElem?_modify, if_pos rfl, show w.heap[g]? = _ from h]
  rfl
theorem Blk.grown {row : Option Nat} (h : Blk w g t cs) (hb : w.grownBy w' row) (hg : some g ≠ row) : Blk w' g t cs := h.same (hb.block g h.lt hg)
end

/-- From w to w' only blocks of S have turned, and new ones have come. -/
structure Only (S : Nat → Prop) (w w' : World) : Prop where
  os : w'.os = w.os
  tape : w'.tape = w.tape
  output : w'.output = w.output
  size : w.heap.size ≤ w'.heap.size
  block : ∀ k, k < w.heap.size → ¬ S k → w'.heap[k]? = w.heap[k]?

section
variable {S T : Nat → Prop} {w w' a b c : World}
theorem Only.refl (S : Nat → Prop) (w : World) : Only S w w := ⟨rfl, rfl, rfl, Nat.le_refl _, fun _ _ _ => rfl⟩
theorem Only.trans (h : Only S a b) (k : Only T b c) (hT : ∀ i, i < a.heap.size → T i → S i) : Only S a c :=
  ⟨k.os.trans h.os, k.tape.trans h.tape, k.output.trans h.output, Nat.le_trans h.size k.size, fun i hi hs => (k.block i (Nat.lt_of_lt_of_le hi h.size) (fun ht => hs (hT i hi ht))).trans (h.block i hi hs)⟩
theorem Only.drew (h : Only S a b) : Only S a b.drew := ⟨h.os, h.tape, h.output, h.size, h.block⟩
theorem Only.drewN (h : Only S a b) (n : Nat) : Only S a (b.drewN n) := ⟨h.os, h.tape, h.output, h.size, h.block⟩
theorem Only.of_drewN {n : Nat} (h : Only S (a.drewN n) b) : Only S a b := ⟨h.os, h.tape, h.output, h.size, h.block⟩
theorem Only.alloc (h : Only S a b) (o : Obj) : Only S a (b.alloc o) :=
  h.trans (T := fun _ => False) ⟨rfl, rfl, rfl, by simp, fun k hk _ => Below.heap_alloc _ _ _ hk⟩ (fun _ _ h => h.elim)
theorem Only.setCell (h : Only S a b) {p : Addr} (hp : p.block < a.heap.size → S p.block) (u : Value) : Only S a (b.setCell p u) :=
  h.trans (T := fun k => k = p.block) ⟨rfl, rfl, rfl, by simp [World.setCell], fun k _ hs => Below.heap_setCell _ _ _ _ hs⟩ (fun i hi he => by subst he; exact hp hi)
theorem Only.grown {row : Option Nat} (h : Only S a b) (hg : b.grownBy c row) (hr : ∀ k, k < a.heap.size → row = some k → S k) : Only S a c :=
  h.trans (T := fun k => row = some k) ⟨hg.os, hg.tape, hg.output, hg.size, fun k hk hs => hg.block k hk (fun e => hs e.symm)⟩ (fun i hi he => hr i hi he)
theorem Only.of_below (h : Below w.heap.size w w') (S : Nat → Prop) : Only S w w' := ⟨h.os, h.tape, h.output, h.size, fun k hk _ => h.block k hk⟩
theorem Only.then_below (h : Only S a b) (k : Below b.heap.size b c) : Only S a c := h.trans (Only.of_below k S) (fun _ _ h => h)
theorem Only.below (h : Only S w w') {B : Nat} (hB : B ≤ w.heap.size) (hS : ∀ k, S k → B ≤ k) : Below B w w' :=
  ⟨h.os, h.tape, h.output, h.size, fun k hk => h.block k (by omega) (fun hs => by have := hS k hs; omega)⟩
theorem Only.mono (h : Only S w w') (hT : ∀ k, k < w.heap.size → S k → T k) : Only T w w' := ⟨h.os, h.tape, h.output, h.size, fun k hk ht => h.block k hk (fun hs => ht (hT k hk hs))⟩
theorem Only.blk {g : Nat} {t : TypeId} {cs : Array Value} (h : Only S w w') (hb : Blk w g t cs) (hg : ¬ S g) : Blk w' g t cs := (h.block g hb.lt hg).trans hb
theorem Only.cell (h : Only S w w') {p : Addr} (hp : p.block < w.heap.size) (hs : ¬ S p.block) : w'.cell? p = w.cell? p := World.cell?_of_block (w := w) (h.block p.block hp hs)
theorem Only.frozen (h : Only S w w') {p : Addr} (hp : p.block < w.heap.size) (hs : ¬ S p.block) : w'.frozen? p = w.frozen? p := World.frozen?_of_block (w := w) (h.block p.block hp hs)
theorem Only.own {E : TypeId} {base : Nat} {v : Value} {l : List UInt8} (h : Only S w w') (ho : Own E base w v l) (hv : ∀ k, v.ownBlock = some k → ¬ S k) : Own E base w' v l := by
  refine ⟨ho.1, ?_⟩
  rcases ho.2 with hn | ⟨g, cap, cur, rfl, hb, hgg, rest⟩
  · exact .inl hn
  · refine .inr ⟨g, cap, cur, rfl, hb, ?_, rest⟩
    rw [h.block g (Array.getElem?_eq_some_iff.1 hgg).1 (hv g rfl)]
    exact hgg
theorem Only.bytes {ad : Option Addr} {len cap : Nat} {l : List UInt8} (h : Only S w w') (hb : Bytes w ad len cap l) (hS : ∀ b off, ad = some ⟨b, off, none⟩ → ¬ S b) : Bytes w' ad len cap l := by
  refine ⟨hb.1, hb.2, hb.3, hb.4, hb.5.imp_right ?_⟩
  rintro ⟨b, off, ha, hs, hc⟩
  exact ⟨b, off, ha, Nat.lt_of_lt_of_le hs h.size, fun i hi => by rw [h.cell (p := ⟨b, off + i, none⟩) hs (hS b off ha)]; exact hc i hi⟩
end

/-- The blocks of a struct that owns a row: its own, and the row's. -/
def Fp (g : Nat) (r : Option Nat) : Nat → Prop := fun k => k = g ∨ r = some k
/-- The row is the one that it was, or a new one. -/
def Nxt (r : Option Nat) (H : Nat) (r' : Option Nat) : Prop := r' = r ∨ ∃ k, r' = some k ∧ H ≤ k
theorem Nxt.refl (r : Option Nat) (H : Nat) : Nxt r H r := .inl rfl
theorem Nxt.trans {r r1 r2 : Option Nat} {H H1 : Nat} (h : Nxt r H r1) (k : Nxt r1 H1 r2) (hH : H ≤ H1) : Nxt r H r2 := by
  rcases k with rfl | ⟨j, rfl, hj⟩
  · exact h
  · exact .inr ⟨j, rfl, by omega⟩
theorem Only.next {g : Nat} {r r1 : Option Nat} {a b c : World} (h : Only (Fp g r) a b) (hn : Nxt r a.heap.size r1) (k : Only (Fp g r1) b c) : Only (Fp g r) a c :=
  h.trans k fun i hi hT => by
    rcases hT with rfl | hT
    · exact .inl rfl
    · rcases hn with rfl | ⟨j, rfl, hj⟩
      · exact .inr hT
      · injection hT with hT
        omega

theorem own_len_ne {E : TypeId} {base : Nat} {w : World} {v : Value} {l : List UInt8} {g : Nat} {t : TypeId} {cs : Array Value} (ho : Own E base w v l) (hb : Blk w g t cs) (ht : t ≠ E) : v.ownBlock ≠ some g := by
  rcases ho.2 with ⟨rfl, _⟩ | ⟨g', cap, cur, rfl, _, hgg, _⟩
  · simp [Value.ownBlock]
  · intro h
    simp only [Value.ownBlock, Option.some.injEq] at h
    subst h
    unfold Blk at hb
    rw [hgg] at hb
    injection hb with hb
    injection hb with _ hb
    exact ht hb.symm

/-- append(v, x...) of bytes at a step of a region that draws its order; where the new row lies. -/
theorem wp_append_lie {P : Program} {w : World} {o : Oper} {a : Act} {K : Act → World → Prop} {Q : Exit → Act → World → Prop} (s x : Operand) (t : TypeId)
    (ho : o.op = .call { callee := .builtin .append, args := #[s, x], argTypes := #[t, t] }) (base : Nat) (E : TypeId) (ht : P.underlying t = some (.slice E))
    (hi : (P.info? E).map (fun i => (i.zero, i.size, i.bytes)) = some (some (.int .u8 0), 1, 1))
    (v : Value) (l : List UInt8) (hs : a.eval s = v) (hown : Own E base w v l) (ad : Option Addr) (m c : Nat) (l2 : List UInt8) (hx : a.eval x = .slice ad m c) (hb : Bytes w ad m c l2)
    (hlen : l.length + m ≤ 140737488355328) (hbase : base ≤ w.heap.size)
    (h : ∀ v' w', Own E base w' v' (l ++ l2) → w.grownBy w' v.ownBlock → Nxt v.ownBlock w.heap.size v'.ownBlock → K (a.put o.dst v') w') : o.wp P a w K Q := by
  obtain ⟨i, hi, hz0, hz1, hz2⟩ := info_parts hi
  by_cases h0 : m = 0
  · subst h0
    have hl2 : l2 = [] := List.length_eq_zero_iff.1 hb.len_eq
    subst hl2
    obtain ⟨v', w', hr, h2, h3, _, h5⟩ : ∃ v' w', (Builtin.append_ #[t, t] o.type #[v, .slice ad 0 c]).run P w = .ok v' w' ∧ Own E base w' v' l ∧ w.grownBy w' v.ownBlock ∧ True ∧ (v'.ownBlock = v.ownBlock ∨ v'.ownBlock = some w.heap.size) := by
      cases ad with
      | none =>
        obtain ⟨_, rfl⟩ := hb.nil rfl
        have hrun := run_append_owned_none (P := P) (w := w) base t o.type E i 1 ht hi v l.length (l.map bv) hown
        exact ⟨v, w, hrun, hown, ⟨rfl, rfl, rfl, Nat.le_refl _, fun _ _ _ => rfl⟩, trivial, .inl rfl⟩
      | some ad =>
        obtain ⟨v', w', hr, h2, h3, _, h5⟩ := run_append_own_at (P := P) w base t o.type E i _ 1 1 ht hi hz0 hz1 hz2 rfl (by decide) v l.length (l.map bv) hown ad 0 c [] rfl (fun j u hu => by simp at hu) (fun u hu => by simp at hu) (by unfold maxLen; omega) (by omega) hbase
        refine ⟨v', w', hr, ?_, h3, trivial, h5⟩
        unfold Own
        rw [List.append_nil] at h2
        exact h2
    unfold Oper.wp execOp
    simp only [ho, resolve, invoke, builtin, Sem.run_bind, Sem.run_pure, Result.andThen_ok, List.map_toArray, List.map_cons, List.map_nil, hs, hx, hr]
    refine h v' w' (by rw [List.append_nil]; exact h2) h3 ?_
    rcases h5 with h5 | h5
    · exact .inl h5
    · exact .inr ⟨_, h5, Nat.le_refl _⟩
  · rcases hb.at_ with h1 | ⟨b, off, hab, hbs, hc⟩
    · omega
    subst hab
    refine wp_append_lies w s x t ho base E i _ 1 1 ht hi hz0 hz1 hz2 rfl (by decide) v l.length (l.map bv) hs hown ⟨b, off, none⟩ m c (l2.map bv) hx (by simp [hb.len_eq]) ?_ ?_ (by omega) (by unfold maxLen; omega) (by omega) hbase _ rfl ?_
    · intro j u hu
      have hj : j < l2.length := by have := (List.getElem?_eq_some_iff.1 hu).1; simpa using this
      rw [addr_add, hc j hj]
      rw [List.getElem?_map, List.getElem?_eq_getElem hj] at hu
      exact hu
    · intro u hu
      obtain ⟨b, _, rfl⟩ := List.mem_map.1 hu
      rfl
    · intro g cap w' h1 h2 h3 _
      refine h _ w' ?_ h2 ?_
      · unfold Own
        rw [List.length_append, List.map_append, hb.len_eq]
        exact h1
      · rcases h3 with h3 | rfl
        · exact .inl h3.symm
        · exact .inr ⟨_, rfl, Nat.le_refl _⟩
theorem step_append_lie {P : Program} {w : World} {ops : Array Oper} {o : Oper} {a : Act} {K : Act → World → Prop} {Q : Exit → Act → World → Prop} {F : Prop} (hgd : o.guard = none) (s x : Operand) (t : TypeId)
    (ho : o.op = .call { callee := .builtin .append, args := #[s, x], argTypes := #[t, t] }) (base : Nat) (E : TypeId) (ht : P.underlying t = some (.slice E))
    (hi : (P.info? E).map (fun i => (i.zero, i.size, i.bytes)) = some (some (.int .u8 0), 1, 1))
    (v : Value) (l : List UInt8) (hs : a.eval s = v) (hown : Own E base w v l) (ad : Option Addr) (m c : Nat) (l2 : List UInt8) (hx : a.eval x = .slice ad m c) (hb : Bytes w ad m c l2)
    (hlen : l.length + m ≤ 140737488355328) (hbase : base ≤ w.heap.size)
    (h : ∀ a' c' w', Own E base w' (.slice a' (l.length + m) c') (l ++ l2) → w.grownBy w' v.ownBlock → Nxt v.ownBlock w.heap.size (Value.ownBlock (.slice a' (l.length + m) c')) → K (a.put o.dst (.slice a' (l.length + m) c')) w') :
    if Region.wanted o (yielded ops a.tmps) = true then Oper.wp P o a w K Q else F := by
  have hw : Region.wanted o (yielded ops a.tmps) = true := by simp [Region.wanted, hgd]
  rw [if_pos hw]
  exact wp_append_lie s x t ho base E ht hi v l hs hown ad m c l2 hx hb hlen hbase fun v' w' h1 h2 h3 => by
    obtain ⟨a', c', rfl, _⟩ := h1.bytes
    rw [List.length_append, hb.len_eq] at *
    exact h a' c' w' h1 h2 h3
theorem wpList_append_lie {P : Program} {w : World} {ops : Array Oper} {rest : List Oper} {o : Oper} {a : Act} {Q : Exit → Act → World → Prop} (hw : Region.wanted o (yielded ops a.tmps) = true) (s x : Operand) (t : TypeId)
    (ho : o.op = .call { callee := .builtin .append, args := #[s, x], argTypes := #[t, t] }) (base : Nat) (E : TypeId) (ht : P.underlying t = some (.slice E))
    (hi : (P.info? E).map (fun i => (i.zero, i.size, i.bytes)) = some (some (.int .u8 0), 1, 1))
    (v : Value) (l : List UInt8) (hs : a.eval s = v) (hown : Own E base w v l) (ad : Option Addr) (m c : Nat) (l2 : List UInt8) (hx : a.eval x = .slice ad m c) (hb : Bytes w ad m c l2)
    (hlen : l.length + m ≤ 140737488355328) (hbase : base ≤ w.heap.size)
    (h : ∀ a' c' w', Own E base w' (.slice a' (l.length + m) c') (l ++ l2) → w.grownBy w' v.ownBlock → Nxt v.ownBlock w.heap.size (Value.ownBlock (.slice a' (l.length + m) c')) → wpList P ops Q rest (a.put o.dst (.slice a' (l.length + m) c')) w') : wpList P ops Q (o :: rest) a w :=
  wpList_of_wp hw fun _ hK => wp_append_lie s x t ho base E ht hi v l hs hown ad m c l2 hx hb hlen hbase fun v' w' h1 h2 h3 => by
    obtain ⟨a', c', rfl, _⟩ := h1.bytes
    rw [List.length_append, hb.len_eq] at *
    exact hK _ _ (h a' c' w' h1 h2 h3)
end Go.My
end
