import Derived.Test.YthjlemglfgamnaaDoorNumQ
import Derived.Lib.LaidTab
namespace Go.Proofs.YthjlemglfgamnaaDoor.NumC
open Go.RowKit Go.My NumMath

/-- What is read of math/bits' table: the numbers of noughts of 8 and 16. -/
structure Tab (w : World) : Prop where
  g : 5 < w.heap.size
  c8 : w.cell? ⟨5, 7, none⟩ = some (.int .u8 3)
  c16 : w.cell? ⟨5, 15, none⟩ = some (.int .u8 4)
theorem Tab.below {w w' : World} (h : Tab w) {B : Nat} (hB : w.heap.size ≤ B) (hb : Below B w w') : Tab w' := by
  have hg := h.g
  exact ⟨Nat.lt_of_lt_of_le hg hb.size, by rw [hb.cell (p := ⟨5, 7, none⟩) (Nat.lt_of_lt_of_le hg hB)]; exact h.c8, by rw [hb.cell (p := ⟨5, 15, none⟩) (Nat.lt_of_lt_of_le hg hB)]; exact h.c16⟩

theorem tz8 (w : World) (h : Tab w) : Calls Tryd.prog 78 #[.int .u64 8] w fun e w' => e = .returned (.int .i64 3) ∧ w = w' := by
  have c := h.c8
  have e : bits .and .u64 8 (IntKind.u64.wrap (-8)) = 8 := by decide
  clear h
  go_enter Tryd.func78, Tryd.ntmps78
  go_wp2
  go_ret
  exact ⟨rfl, rfl⟩
theorem tz16 (w : World) (h : Tab w) : Calls Tryd.prog 78 #[.int .u64 16] w fun e w' => e = .returned (.int .i64 4) ∧ w = w' := by
  have c := h.c16
  have e : bits .and .u64 16 (IntKind.u64.wrap (-16)) = 16 := by decide
  clear h
  go_enter Tryd.func78, Tryd.ntmps78
  go_wp2
  go_ret
  exact ⟨rfl, rfl⟩
theorem pow2_8 (w : World) : Calls Tryd.prog 77 #[.int .i64 8] w fun e w' => e = .returned (.bool true) ∧ w = w' := by
  have e : bits .and .i64 8 7 = 0 := by decide
  go_enter Tryd.func77, Tryd.ntmps77
  go_wp2
  go_ret
  exact ⟨rfl, rfl⟩
theorem pow2_16 (w : World) : Calls Tryd.prog 77 #[.int .i64 16] w fun e w' => e = .returned (.bool true) ∧ w = w' := by
  have e : bits .and .i64 16 15 = 0 := by decide
  go_enter Tryd.func77, Tryd.ntmps77
  go_wp2
  go_ret
  exact ⟨rfl, rfl⟩

/-- The last cells of a row of 65 are these bytes. -/
structure Tail (C : Array Value) (p : Nat) (l : List UInt8) : Prop where
  size : C.size = 65
  tail : ∀ k (h : k < l.length), C[p + k]? = some (bv l[k])
theorem Tail.at_ {C : Array Value} {p : Nat} {l : List UInt8} (h : Tail C p l) (i : Nat) (hi : i < 65) : ∃ v, C[i]? = some v :=
  ⟨C[i]'(by rw [h.size]; exact hi), Array.getElem?_eq_getElem _⟩
theorem more_digits (b u j : Nat) (hb : 8 ≤ b) (hu : u < 9223372036854775808) (h : b ≤ u / b ^ j) : j + 1 ≤ 20 ∧ b ^ (j + 1) ≤ u := by
  have h1 : b ^ (j + 1) ≤ u := by
    rw [Nat.pow_succ, Nat.mul_comm]
    exact (Nat.le_div_iff_mul_le (Nat.pow_pos (by omega))).1 h
  refine ⟨?_, h1⟩
  apply Nat.le_of_not_lt
  intro hc
  have h2 : 8 ^ (j + 1) ≤ b ^ (j + 1) := Nat.pow_le_pow_left hb _
  have h3 : 8 ^ 21 ≤ 8 ^ (j + 1) := Nat.pow_le_pow_right (by omega) (by omega)
  omega
theorem u64_and7 (x : Nat) (hx : x < 18446744073709551616) : bits .and .u64 (x : Int) 7 = ((x % 8 : Nat) : Int) := by
  rw [show (7 : Int) = ((7 : Nat) : Int) from rfl, u64_and_nat _ _ hx (by omega)]
  congr 1
  exact Nat.and_two_pow_sub_one_eq_mod x 3
theorem u64_and15 (x : Nat) (hx : x < 18446744073709551616) : bits .and .u64 (x : Int) 15 = ((x % 16 : Nat) : Int) := by
  rw [show (15 : Int) = ((15 : Nat) : Int) from rfl, u64_and_nat _ _ hx (by omega)]
  congr 1
  exact Nat.and_two_pow_sub_one_eq_mod x 4

/-- A digit's letter. -/
def ch (x : Nat) : UInt8 := UInt8.ofNat (if x < 10 then 48 + x else 87 + x)
def letters : ByteArray := ⟨#[48, 49, 50, 51, 52, 53, 54, 55, 56, 57, 97, 98, 99, 100, 101, 102, 103, 104, 105, 106, 107, 108, 109, 110, 111, 112, 113, 114, 115, 116, 117, 118, 119, 120, 121, 122]⟩
theorem letters_at (d : Nat) (h : d < letters.size) : letters[d] = ch d := by
  have hall : ∀ d : Fin 36, letters.data.toList[d.val]? = some (ch d.val) := by decide +kernel
  have hs : letters.size = 36 := rfl
  have h1 := hall ⟨d, by omega⟩
  rw [List.getElem?_eq_getElem (by rw [← Lib.size_eq]; exact h), get_list letters d h] at h1
  exact Option.some.inj h1
theorem Tail.set {C : Array Value} {p : Nat} {l : List UInt8} (h : Tail C p l) (hp : 1 ≤ p) (hp2 : p ≤ 65) (c : UInt8) : Tail (C.setIfInBounds (p - 1) (bv c)) (p - 1) (c :: l) := by
  refine ⟨by rw [Array.size_setIfInBounds]; exact h.size, fun k hk => ?_⟩
  rw [Array.getElem?_setIfInBounds]
  cases k with
  | zero => simp [h.size]; omega
  | succ k =>
    rw [if_neg (by omega)]
    have := h.tail k (by simpa using hk)
    rw [show p - 1 + (k + 1) = p + k from by omega, this]
    rfl
theorem Tail.bytes {C : Array Value} {p : Nat} {l : List UInt8} (h : Tail C p l) (E : TypeId) (w : World) (hp : p + l.length = 65) : Bytes (w.alloc (.cells C E)) (some ⟨w.heap.size, p, none⟩) (65 - p) (65 - p) l :=
  ⟨by omega, Nat.le_refl _, by omega, (fun h => by cases h), .inr ⟨w.heap.size, p, rfl, by simp, fun i hi => by
    rw [cell_of_row _ _ _ _ _ _ (heap_alloc_new w _)]; exact h.tail i hi⟩⟩
theorem slice65 (B q : Nat) (x : Int) (hx : x = (q : Int)) (hq : q < 65) (w : World) :
    (Instr.sliceAt 107 (.pointer (some ⟨B, 0, none⟩)) (some (.int .i64 x)) none none).run Tryd.prog w = .ok (.slice (some ⟨B, q, none⟩) (65 - q) (65 - q)) w := by
  subst hx
  have hl : Tryd.prog.arrayLen 107 = 65 := by kernel_rfl
  have hz : (sizeOf (Tryd.prog.elem 107)).run Tryd.prog w = .ok 1 w := by kernel_rfl
  rw [run_sliceAt_array_l (P := Tryd.prog) w 107 ⟨B, 0, none⟩ (by kernel_rfl) .i64 (q : Int) (by omega) (by rw [hl]; omega), hz, hl]
  simp only [Result.andThen_ok]
  unfold slicedAt
  rw [if_neg (by omega), addr_add]
  simp
theorem cell_bytes {c d : UInt8} (h : c = d) : Value.int .u8 (c.toNat : Int) = bv d := by rw [h]; rfl

/-- A text of u's digits, without noughts ahead. -/
def DigsRet (b u : Nat) (mk : Value → Value) (e : Ending) : Prop := ∃ n, 1 ≤ n ∧ u < b ^ n ∧ (n = 1 ∨ b ^ (n - 1) ≤ u) ∧ e = .returned (mk (.string ⟨(fix ch b n u).toArray⟩))

set_option maxRecDepth 100000 in
set_option maxHeartbeats 4000000 in
theorem bits8_any (u : Nat) (w : World) (hu : u < 9223372036854775808) (hT : Tab w) :
    Calls Tryd.prog 63 #[.slice none 0 0, .int .u64 (u : Int), .int .i64 8, .bool false, .bool false] w fun e w' => DigsRet 8 u (fun v => .tuple #[.slice none 0 0, v]) e ∧ Below w.heap.size w w' := by
  have HT := Lib.hid hT
  clear hT
  go_enter Tryd.func63, Tryd.ntmps63
  go_wp2_with fail
  refine (pow2_8 _).mono ?_
  rintro e w1 ⟨rfl, rfl⟩
  go_wp2_with fail
  refine (tz8 _ (HT.out.below (Nat.le_refl _) ((Below.refl _ _).alloc (Nat.le_refl _) _))).mono ?_
  rintro e w1 ⟨rfl, rfl⟩
  go_wp2_with fail
  go_loopw [1, 13] (fun xv i wr => ∃ (j p x : Nat) (C : Array Value), 65 ≤ p + j ∧ p + j ≤ 65 ∧ j ≤ 20 ∧ i = .int .i64 (p : Int) ∧ xv = .int .u64 (x : Int) ∧ x ≤ u ∧ wr = w.alloc (.cells C 107) ∧ Hid (x = u / 8 ^ j) ∧ Hid (Tail C p (fix ch 8 j u)) ∧ Hid (j = 0 ∨ 8 ^ j ≤ u)) (fun _ i _ => (intOf i).toNat)
  case atStart => exact ⟨0, 65, u, _, by omega, by omega, by omega, rfl, rfl, Nat.le_refl _, rfl, Lib.hid (by simp), Lib.hid ⟨by simp, fun k hk => by simp [fix] at hk⟩, Lib.hid (.inl rfl)⟩
  case round =>
    obtain ⟨j, p, x, C, hp1, hp2, hj20, rfl, rfl, hxu, rfl, HX, HC, HJ⟩ := hrel
    by_cases hlt : 8 ≤ x
    · have hj := more_digits 8 u j (by omega) hu (by rw [← HX.out]; exact hlt)
      obtain ⟨old, hold⟩ := HC.out.at_ (p - 1) (by omega)
      have hcell : (w.alloc (.cells C 107)).cell? ⟨w.heap.size, p - 1, none⟩ = some old := by
        rw [cell_of_row _ _ _ _ _ _ (heap_alloc_new w _)]; exact hold
      obtain ⟨d, hd, hdx⟩ : ∃ d : Nat, d < 8 ∧ d = x % 8 := ⟨x % 8, Nat.mod_lt _ (by omega), rfl⟩
      have e := u64_and7 x (by omega)
      rw [← hdx] at e
      have HD := Lib.hid hdx
      clear hdx
      have HT1 : Hid (Tail (C.setIfInBounds (p - 1) (bv (ch d))) (p - 1) (fix ch 8 (j + 1) u)) := Lib.hid (by
        rw [fix, ← HX.out, ← HD.out]; exact HC.out.set (by omega) (by omega) _)
      have HX1 : Hid (x / 8 = u / 8 ^ (j + 1)) := Lib.hid (by rw [HX.out, Nat.div_div_eq_div_mul, Nat.pow_succ])
      go_wp2_with fail
      go_roundw
      case rel => exact ⟨j + 1, p - 1, x / 8, _, by omega, by omega, hj.1, by go_num, by go_num, by omega, congrArg (fun v => w.alloc (.cells (C.setIfInBounds (p - 1) v) 107)) (cell_bytes (letters_at d (by show d < 36; omega))), HX1, HT1, Lib.hid (.inr hj.2)⟩
      case measure => simp [intOf]; omega
    · obtain ⟨old, hold⟩ := HC.out.at_ (p - 1) (by omega)
      have hcell : (w.alloc (.cells C 107)).cell? ⟨w.heap.size, p - 1, none⟩ = some old := by
        rw [cell_of_row _ _ _ _ _ _ (heap_alloc_new w _)]; exact hold
      have HT1 : Hid (Tail (C.setIfInBounds (p - 1) (bv (ch x))) (p - 1) (fix ch 8 (j + 1) u)) := Lib.hid (by
        rw [fix, ← HX.out, Nat.mod_eq_of_lt (by omega)]; exact HC.out.set (by omega) (by omega) _)
      have hsl := fun wx => slice65 w.heap.size (p - 1) ((p : Int) - 1) (by omega) (by omega) wx
      have hlen : (p - 1) + (fix ch 8 (j + 1) u).length = 65 := by rw [fix_len]; omega
      have k1 := run_string_bytes (P := Tryd.prog) _ 22 9 5 Tryd.underlying22 Tryd.underlying5 Tryd.underlying9 (HT1.out.bytes 107 w hlen)
      rw [← cell_bytes (letters_at x (by show x < 36; omega))] at k1
      unfold letters at k1
      have hfin : 1 ≤ j + 1 ∧ u < 8 ^ (j + 1) ∧ (j + 1 = 1 ∨ 8 ^ (j + 1 - 1) ≤ u) := by
        refine ⟨by omega, ?_, ?_⟩
        · have h1 := HX.out
          have h2 : u / 8 ^ j < 8 := by omega
          rw [Nat.pow_succ, Nat.mul_comm]
          exact (Nat.div_lt_iff_lt_mul (Nat.pow_pos (by omega))).1 h2
        · rcases HJ.out with h | h
          · left; omega
          · right; exact h
      have HF := Lib.hid hfin
      clear hlen hfin
      go_wp2_with fail
      go_ret2
      exact ⟨⟨j + 1, HF.out.1, HF.out.2.1, HF.out.2.2, rfl⟩, (Below.refl _ _).alloc (Nat.le_refl _) _⟩

set_option maxRecDepth 100000 in
set_option maxHeartbeats 4000000 in
theorem bits16_any (u : Nat) (w : World) (hu : u < 9223372036854775808) (hT : Tab w) :
    Calls Tryd.prog 63 #[.slice none 0 0, .int .u64 (u : Int), .int .i64 16, .bool false, .bool false] w fun e w' => DigsRet 16 u (fun v => .tuple #[.slice none 0 0, v]) e ∧ Below w.heap.size w w' := by
  have HT := Lib.hid hT
  clear hT
  go_enter Tryd.func63, Tryd.ntmps63
  go_wp2_with fail
  refine (pow2_16 _).mono ?_
  rintro e w1 ⟨rfl, rfl⟩
  go_wp2_with fail
  refine (tz16 _ (HT.out.below (Nat.le_refl _) ((Below.refl _ _).alloc (Nat.le_refl _) _))).mono ?_
  rintro e w1 ⟨rfl, rfl⟩
  go_wp2_with fail
  go_loopw [1, 13] (fun xv i wr => ∃ (j p x : Nat) (C : Array Value), 65 ≤ p + j ∧ p + j ≤ 65 ∧ j ≤ 20 ∧ i = .int .i64 (p : Int) ∧ xv = .int .u64 (x : Int) ∧ x ≤ u ∧ wr = w.alloc (.cells C 107) ∧ Hid (x = u / 16 ^ j) ∧ Hid (Tail C p (fix ch 16 j u)) ∧ Hid (j = 0 ∨ 16 ^ j ≤ u)) (fun _ i _ => (intOf i).toNat)
  case atStart => exact ⟨0, 65, u, _, by omega, by omega, by omega, rfl, rfl, Nat.le_refl _, rfl, Lib.hid (by simp), Lib.hid ⟨by simp, fun k hk => by simp [fix] at hk⟩, Lib.hid (.inl rfl)⟩
  case round =>
    obtain ⟨j, p, x, C, hp1, hp2, hj20, rfl, rfl, hxu, rfl, HX, HC, HJ⟩ := hrel
    by_cases hlt : 16 ≤ x
    · have hj := more_digits 16 u j (by omega) hu (by rw [← HX.out]; exact hlt)
      obtain ⟨old, hold⟩ := HC.out.at_ (p - 1) (by omega)
      have hcell : (w.alloc (.cells C 107)).cell? ⟨w.heap.size, p - 1, none⟩ = some old := by
        rw [cell_of_row _ _ _ _ _ _ (heap_alloc_new w _)]; exact hold
      obtain ⟨d, hd, hdx⟩ : ∃ d : Nat, d < 16 ∧ d = x % 16 := ⟨x % 16, Nat.mod_lt _ (by omega), rfl⟩
      have e := u64_and15 x (by omega)
      rw [← hdx] at e
      have HD := Lib.hid hdx
      clear hdx
      have HT1 : Hid (Tail (C.setIfInBounds (p - 1) (bv (ch d))) (p - 1) (fix ch 16 (j + 1) u)) := Lib.hid (by
        rw [fix, ← HX.out, ← HD.out]; exact HC.out.set (by omega) (by omega) _)
      have HX1 : Hid (x / 16 = u / 16 ^ (j + 1)) := Lib.hid (by rw [HX.out, Nat.div_div_eq_div_mul, Nat.pow_succ])
      go_wp2_with fail
      go_roundw
      case rel => exact ⟨j + 1, p - 1, x / 16, _, by omega, by omega, hj.1, by go_num, by go_num, by omega, congrArg (fun v => w.alloc (.cells (C.setIfInBounds (p - 1) v) 107)) (cell_bytes (letters_at d (by show d < 36; omega))), HX1, HT1, Lib.hid (.inr hj.2)⟩
      case measure => simp [intOf]; omega
    · obtain ⟨old, hold⟩ := HC.out.at_ (p - 1) (by omega)
      have hcell : (w.alloc (.cells C 107)).cell? ⟨w.heap.size, p - 1, none⟩ = some old := by
        rw [cell_of_row _ _ _ _ _ _ (heap_alloc_new w _)]; exact hold
      have HT1 : Hid (Tail (C.setIfInBounds (p - 1) (bv (ch x))) (p - 1) (fix ch 16 (j + 1) u)) := Lib.hid (by
        rw [fix, ← HX.out, Nat.mod_eq_of_lt (by omega)]; exact HC.out.set (by omega) (by omega) _)
      have hsl := fun wx => slice65 w.heap.size (p - 1) ((p : Int) - 1) (by omega) (by omega) wx
      have hlen : (p - 1) + (fix ch 16 (j + 1) u).length = 65 := by rw [fix_len]; omega
      have k1 := run_string_bytes (P := Tryd.prog) _ 22 9 5 Tryd.underlying22 Tryd.underlying5 Tryd.underlying9 (HT1.out.bytes 107 w hlen)
      rw [← cell_bytes (letters_at x (by show x < 36; omega))] at k1
      unfold letters at k1
      have hfin : 1 ≤ j + 1 ∧ u < 16 ^ (j + 1) ∧ (j + 1 = 1 ∨ 16 ^ (j + 1 - 1) ≤ u) := by
        refine ⟨by omega, ?_, ?_⟩
        · have h1 := HX.out
          have h2 : u / 16 ^ j < 16 := by omega
          rw [Nat.pow_succ, Nat.mul_comm]
          exact (Nat.div_lt_iff_lt_mul (Nat.pow_pos (by omega))).1 h2
        · rcases HJ.out with h | h
          · left; omega
          · right; exact h
      have HF := Lib.hid hfin
      clear hlen hfin
      go_wp2_with fail
      go_ret2
      exact ⟨⟨j + 1, HF.out.1, HF.out.2.1, HF.out.2.2, rfl⟩, (Below.refl _ _).alloc (Nat.le_refl _) _⟩
end Go.Proofs.YthjlemglfgamnaaDoor.NumC
