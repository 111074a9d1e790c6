import Derived.Test.YtdbcendnibgcaaaGreatDoorRows
import Derived.Test.YtdbcendnibgcaaaGreatDoorMgAa
import Derived.WalkLawsBesides
import Derived.Defers
import Derived.Recover
import Derived.Laws.Pointers
import Derived.Deep.QuietTactic
import Derived.BigQuiet
import Derived.StillTailTactics

section
namespace Go.Proofs.YtdbcendnibgcaaaGreatDoor.NumC
open Go.RowKit Go.My NumMath

theorem ret_len {a : Option Addr} {n m c : Nat} (h : n = m) : Ending.returned (.slice a n c) = .returned (.slice a m c) := by rw [h]
theorem ret_num {a b c d : Int} (h1 : a = c) (h2 : b = d) : Ending.returned (.tuple #[.int .u64 a, .int .i64 b]) = .returned (.tuple #[.int .u64 c, .int .i64 d]) := by rw [h1, h2]

theorem fits_yes (n : Int) (w : World) (h1 : 1 ≤ n) (h2 : n ≤ 8) : Calls Tryz.prog 48 #[.int .i64 n] w fun e w' => e = .returned (.bool true) ∧ w = w' := by
  go_enter Tryz.func48, Tryz.ntmps48
  go_wp2
  go_ret
  exact ⟨by simp, rfl⟩
theorem fits_no (n : Int) (w : World) (h : n < 1 ∨ 8 < n) : Calls Tryz.prog 48 #[.int .i64 n] w fun e w' => e = .returned (.bool false) ∧ w = w' := by
  rcases h with h | h
  · go_enter Tryz.func48, Tryz.ntmps48
    go_wp2
    go_ret
    exact ⟨rfl, rfl⟩
  · have h1 : 1 ≤ n := by omega
    have h8 : ¬ n ≤ 8 := by omega
    go_enter Tryz.func48, Tryz.ntmps48
    go_wp2
    go_ret
    exact ⟨by simp, rfl⟩

/-- What a fault is, thrown. -/
def fault (c at_ : Int) : Value := .iface 125 (.agg #[.int .i64 c, .int .i64 at_])

end Go.Proofs.YtdbcendnibgcaaaGreatDoor.NumC
end

section
namespace Go.Proofs.YtdbcendnibgcaaaGreatDoor.NumC
open Go.RowKit Go.My NumMath

theorem info5 : (Tryz.prog.info? 5).map (fun i => (i.zero, i.size, i.bytes)) = some (some (.int .u8 0), 1, 1) := by kernel_rfl

set_option maxRecDepth 100000 in
theorem apart_any (a : Option Addr) (len cap : Nat) (l : List UInt8) (w : World) (hb : Bytes w a len cap l) (hl : l.length ≤ 1000) :
    Calls Tryz.prog 47 #[.slice a len cap] w fun e w' => OwnRet 5 w l e w' := by
  have H := Lib.hid hb
  obtain rfl : len = l.length := hb.len_eq.symm
  clear hb
  go_enter Tryz.func47, Tryz.ntmps47
  go_wp2_with (at_make; refine wpList_make_cap _ rfl (.const (.int .i64 0)) (.tmp 5) 22 rfl w.heap.size 5 Tryz.underlying22 info5 .i64 .i64 _ (l.length + 8) rfl rfl (by omega) (by omega) (Nat.le_refl _) ?_)
  intro w1 hown hg
  have hb1 := grown_none_below (Below.refl w.heap.size w) hg (Nat.le_refl _)
  have H1 := Lib.hid (H.out.below (Nat.le_refl _) hb1)
  have HB := Lib.hid hb1
  have HO := Lib.hid hown
  clear hg hb1 hown
  go_wp2_with (at_builtin; refine wpList_append_bytes rfl (.tmp 6) (.tmp 7) 22 rfl w.heap.size 5 Tryz.underlying22 info5 _ [] rfl HO.out a l.length cap l rfl H1.out (by simp; omega) HB.out.size ?_)
  intro v' w2 hown hg
  have hb2 := grown_below HO.out HB.out hg HB.out.size
  clear hg
  go_wp2_with fail
  go_ret
  exact ⟨v', rfl, by simpa using hown, hb2⟩

theorem u8_of (v k : Nat) : IntKind.u8.wrap ((v / 2 ^ (8 * k) : Nat) : Int) = ((byteAt v k).toNat : Int) := by
  rw [byteAt_toNat, show (256 : Nat) = 2 ^ 8 from rfl, ← Nat.pow_mul]
  simp [IntKind.wrap, IntKind.bits, IntKind.signed]
theorem byte_val (v k : Nat) : IntKind.u8.wrap ((v : Int) / 2 ^ (8 * k)) = ((byteAt v k).toNat : Int) := by
  have h := u8_of v k
  rw [Int.natCast_ediv, Int.natCast_pow] at h
  rw [← h]
  rfl

set_option maxRecDepth 100000 in
theorem putbig_none (a : Option Addr) (len cap : Nat) (l : List UInt8) (v n : Int) (w : World) (hb : Bytes w a len cap l) (hl : l.length ≤ 1000) (h : n < 1 ∨ 8 < n) :
    Calls Tryz.prog 36 #[.slice a len cap, .int .u64 v, .int .i64 n] w fun e w' => OwnRet 5 w l e w' := by
  go_enter Tryz.func36, Tryz.ntmps36
  go_wp2_with fail
  refine (apart_any a len cap l w hb hl).mono ?_
  rintro e w1 ⟨v1, rfl, ho, hw⟩
  have HO := Lib.hid ho
  have HW := Lib.hid hw
  clear ho hw hb
  go_wp2_with fail
  refine (fits_no n _ h).mono ?_
  rintro e w2 ⟨rfl, rfl⟩
  go_wp2_with fail
  go_ret
  exact ⟨v1, rfl, HO.out, HW.out⟩

set_option maxRecDepth 100000 in
set_option maxHeartbeats 1000000 in
theorem putbig_any (a : Option Addr) (len cap : Nat) (l : List UInt8) (v n : Nat) (w : World) (hb : Bytes w a len cap l) (hl : l.length ≤ 1000) (h1 : 1 ≤ n) (h2 : n ≤ 8) :
    Calls Tryz.prog 36 #[.slice a len cap, .int .u64 (v : Int), .int .i64 (n : Int)] w fun e w' => OwnRet 5 w (l ++ bytesOf true n v) e w' := by
  go_enter Tryz.func36, Tryz.ntmps36
  go_wp2_with fail
  refine (apart_any a len cap l w hb hl).mono ?_
  rintro e w1 ⟨v1, rfl, ho, hw⟩
  have HO := Lib.hid ho
  have HW := Lib.hid hw
  clear ho hw hb
  go_wp2_with fail
  refine (fits_yes n _ (by omega) (by omega)).mono ?_
  rintro e w2 ⟨rfl, rfl⟩
  go_wp2_with fail
  go_loopw [0, 15] (fun b i wr => ∃ j : Nat, j ≤ n ∧ i = .int .i64 j ∧ Hid (Own 5 w.heap.size wr b (l ++ bytesTo true n v j)) ∧ Hid (Below w.heap.size w wr)) (fun _ i _ => n - (intOf i).toNat)
  case atStart => exact ⟨0, by omega, rfl, Lib.hid (by rw [bytesTo_zero, List.append_nil]; exact HO.out), HW⟩
  case round =>
    obtain ⟨j, hj, rfl, HO1, HB1⟩ := hrel
    by_cases hlt : j < n
    · have e := byte_val v (n - 1 - j)

      go_wp2_with (at_builtin; refine wpList_append_bytes rfl (.tmp 18) (.tmp 27) 22 rfl w.heap.size 5 Tryz.underlying22 info5 _ (l ++ bytesTo true n v j) rfl (HO1.out.below (Nat.le_refl _) ((Below.refl _ _).alloc (Nat.le_refl _) _)) (some ⟨wr.heap.size, 0, none⟩) 1 1 [byteAt v (n - 1 - j)] rfl (one_bytes _ _ _) (by simp [bytesTo_len]; omega) (by have := HB1.out.size; simp; omega) ?_)
      intro v' w2 hown hg
      have HO2 : Hid (Own 5 w.heap.size w2 v' (l ++ bytesTo true n v (j + 1))) := Lib.hid (by rw [bytesTo_succ]; simpa [List.append_assoc] using hown)
      have HB2 := Lib.hid (grown_below (HO1.out.below (Nat.le_refl _) ((Below.refl _ _).alloc (Nat.le_refl _) (.cells #[.int .u8 ((byteAt v (n - 1 - j)).toNat : Int)] 5))) (HB1.out.alloc HB1.out.size _) hg (by have := HB1.out.size; simp; omega))
      clear hown hg
      go_wp2_with fail
      go_roundw
      case rel => exact ⟨j + 1, by omega, by go_num, HO2, HB2⟩
      case measure => simp [intOf]; omega
    · obtain rfl : j = n := by omega
      go_wp2_with fail
      go_ret
      exact ⟨_, rfl, HO1.out, HB1.out⟩
set_option maxRecDepth 100000 in
theorem bytes_none (v n : Int) (big : Bool) (w : World) (h : n < 1 ∨ 8 < n) :
    Calls Tryz.prog 19 #[.int .u64 v, .int .i64 n, .bool big] w fun e w' => e = .returned (.string ⟨#[]⟩) ∧ w = w' := by
  by_cases h1 : n < 1
  · go_enter Tryz.func19, Tryz.ntmps19
    go_wp2
    go_ret
    exact ⟨rfl, rfl⟩
  · have h8 : decide (n > 8) = true := by simp; omega
    go_enter Tryz.func19, Tryz.ntmps19
    go_wp2
    go_ret
    exact ⟨rfl, rfl⟩

set_option maxRecDepth 100000 in
set_option maxHeartbeats 1000000 in
theorem bytes_any (v n : Nat) (big : Bool) (w : World) (h1 : 1 ≤ n) (h2 : n ≤ 8) :
    Calls Tryz.prog 19 #[.int .u64 (v : Int), .int .i64 (n : Int), .bool big] w fun e w' => e = .returned (.string ⟨(bytesOf big n v).toArray⟩) ∧ Below w.heap.size w w' := by
  have d1 : decide ((n : Int) < 1) = false := by simp; omega
  have d8 : decide ((n : Int) > 8) = false := by simp; omega
  go_enter Tryz.func19, Tryz.ntmps19
  go_wp2_with fail
  clear d1 d8
  go_loopw [7, 8] (fun b i wr => ∃ j : Nat, j ≤ n ∧ i = .int .i64 j ∧ Hid (Own 5 w.heap.size wr b (bytesTo big n v j)) ∧ Hid (Below w.heap.size w wr)) (fun _ i _ => n - (intOf i).toNat)
  case atStart => exact ⟨0, by omega, rfl, Lib.hid (Own.nil _ _ _), Lib.hid (Below.refl _ _)⟩
  case round =>
    obtain ⟨j, hj, rfl, HO1, HB1⟩ := hrel
    by_cases hlt : j < n
    · cases big
      · have e := byte_val v j
        go_wp2_with (at_builtin; refine wpList_append_bytes rfl (.tmp 27) (.tmp 34) 22 rfl w.heap.size 5 Tryz.underlying22 info5 _ (bytesTo false n v j) rfl (HO1.out.below (Nat.le_refl _) ((Below.refl _ _).alloc (Nat.le_refl _) _)) (some ⟨wr.heap.size, 0, none⟩) 1 1 [byteAt v j] rfl (one_bytes _ _ _) (by simp [bytesTo_len]; omega) (by have := HB1.out.size; simp; omega) ?_)
        intro v' w2 hown hg
        have HO2 : Hid (Own 5 w.heap.size w2 v' (bytesTo false n v (j + 1))) := Lib.hid (by rw [bytesTo_succ]; simpa [List.append_assoc] using hown)
        have HB2 := Lib.hid (grown_below (HO1.out.below (Nat.le_refl _) ((Below.refl _ _).alloc (Nat.le_refl _) (.cells #[.int .u8 ((byteAt v j).toNat : Int)] 5))) (HB1.out.alloc HB1.out.size _) hg (by have := HB1.out.size; simp; omega))
        clear hown hg
        go_wp2_with fail
        go_roundw
        case rel => exact ⟨j + 1, by omega, by go_num, HO2, HB2⟩
        case measure => simp [intOf]; omega
      · have e := byte_val v (n - 1 - j)
        go_wp2_with (at_builtin; refine wpList_append_bytes rfl (.tmp 27) (.tmp 34) 22 rfl w.heap.size 5 Tryz.underlying22 info5 _ (bytesTo true n v j) rfl (HO1.out.below (Nat.le_refl _) ((Below.refl _ _).alloc (Nat.le_refl _) _)) (some ⟨wr.heap.size, 0, none⟩) 1 1 [byteAt v (n - 1 - j)] rfl (one_bytes _ _ _) (by simp [bytesTo_len]; omega) (by have := HB1.out.size; simp; omega) ?_)
        intro v' w2 hown hg
        have HO2 : Hid (Own 5 w.heap.size w2 v' (bytesTo true n v (j + 1))) := Lib.hid (by rw [bytesTo_succ]; simpa [List.append_assoc] using hown)
        have HB2 := Lib.hid (grown_below (HO1.out.below (Nat.le_refl _) ((Below.refl _ _).alloc (Nat.le_refl _) (.cells #[.int .u8 ((byteAt v (n - 1 - j)).toNat : Int)] 5))) (HB1.out.alloc HB1.out.size _) hg (by have := HB1.out.size; simp; omega))
        clear hown hg
        go_wp2_with fail
        go_roundw
        case rel => exact ⟨j + 1, by omega, by go_num, HO2, HB2⟩
        case measure => simp [intOf]; omega
    · obtain rfl : j = n := by omega
      obtain ⟨a1, c1, hv1, hb1⟩ := HO1.out.bytes
      subst hv1
      have k1 := run_string_bytes (P := Tryz.prog) wr 22 9 5 Tryz.underlying22 Tryz.underlying5 Tryz.underlying9 hb1
      clear hb1
      go_wp2_with fail
      go_ret
      exact ⟨rfl, HB1.out⟩
end Go.Proofs.YtdbcendnibgcaaaGreatDoor.NumC
end

section
/-
  Rows of bits, the lowest first: numbers as rows, bytes as rows, rows as bytes. Plain lists: no program, no dump.
-/
namespace BitMath

def lows : Nat → Nat → List Bool
  | 0, _ => []
  | n + 1, v => (v % 2 == 1) :: lows n (v / 2)
def num : List Bool → Nat
  | [] => 0
  | b :: t => b.toNat + 2 * num t
def bitsOf (l : List UInt8) : List Bool := l.flatMap fun b => lows 8 b.toNat

theorem lows_len (n v : Nat) : (lows n v).length = n := by
  induction n generalizing v with
  | zero => rfl
  | succ n ih => simp [lows, ih]
theorem num_lt (l : List Bool) : num l < 2 ^ l.length := by
  induction l with
  | nil => simp [num]
  | cons b t ih => rw [num, List.length_cons, Nat.pow_succ]; cases b <;> simp <;> omega
theorem bit_nat (v : Nat) : (v % 2 == 1).toNat = v % 2 := by
  rcases Nat.mod_two_eq_zero_or_one v with h | h <;> simp [h]
theorem num_lows (n v : Nat) : num (lows n v) = v % 2 ^ n := by
  induction n generalizing v with
  | zero => simp [lows, num, Nat.mod_one]
  | succ n ih =>
    rw [lows, num, ih, bit_nat, Nat.pow_succ, Nat.mul_comm (2 ^ n) 2, Nat.mod_mul]
theorem lows_num (l : List Bool) : lows l.length (num l) = l := by
  induction l with
  | nil => rfl
  | cons b t ih =>
    rw [List.length_cons, lows, num]
    have h1 : (b.toNat + 2 * num t) / 2 = num t := by cases b <;> simp <;> omega
    have h2 : ((b.toNat + 2 * num t) % 2 == 1) = b := by cases b <;> simp <;> omega
    rw [h1, h2, ih]
theorem lows_num_of (n : Nat) (l : List Bool) (h : l.length = n) : lows n (num l) = l := by subst h; exact lows_num l
theorem num_append (a b : List Bool) : num (a ++ b) = num a + 2 ^ a.length * num b := by
  induction a with
  | nil => simp [num]
  | cons x t ih =>
    rw [List.cons_append, num, num, ih, List.length_cons, Nat.pow_succ, Nat.mul_add, Nat.mul_comm (2 ^ t.length) 2, Nat.mul_assoc]
    omega
theorem lows_add (a b v : Nat) : lows (a + b) v = lows a v ++ lows b (v / 2 ^ a) := by
  induction a generalizing v with
  | zero => simp [lows]
  | succ a ih =>
    rw [show a + 1 + b = (a + b) + 1 from by omega, lows, lows, ih, List.cons_append, Nat.div_div_eq_div_mul, Nat.pow_succ, Nat.mul_comm (2 ^ a) 2]
theorem lows_mod (n v : Nat) : lows n (v % 2 ^ n) = lows n v := by
  rw [← num_lows, lows_num_of n _ (lows_len n v)]
theorem lows_eq_of_mod {n a b : Nat} (h : a % 2 ^ n = b % 2 ^ n) : lows n a = lows n b := by
  rw [← lows_mod n a, h, lows_mod]
theorem lows_zero (n : Nat) : lows n 0 = List.replicate n false := by
  induction n with
  | zero => rfl
  | succ n ih => rw [lows, List.replicate_succ]; simp [ih]
theorem num_zero (n : Nat) : num (List.replicate n false) = 0 := by
  rw [← lows_zero, num_lows]; simp
/-- bits put behind others. -/
theorem lows_join (c n r x : Nat) (h : r < 2 ^ c) : lows (c + n) (r + 2 ^ c * x) = lows c r ++ lows n x := by
  rw [lows_add]
  have hp : 0 < 2 ^ c := Nat.two_pow_pos c
  have h1 : (r + 2 ^ c * x) / 2 ^ c = x := by
    rw [Nat.add_mul_div_left _ _ hp, Nat.div_eq_of_lt h, Nat.zero_add]
  rw [h1, lows_eq_of_mod (a := r + 2 ^ c * x) (b := r) (by rw [Nat.add_mul_mod_self_left])]
theorem or_join (c r x : Nat) (h : r < 2 ^ c) : r ||| (x * 2 ^ c) = r + 2 ^ c * x := by
  rw [Nat.mul_comm x, Nat.add_comm, Nat.or_comm]
  exact (Nat.two_pow_add_eq_or_of_lt h x).symm
theorem lows_byte (c r : Nat) (h : 8 ≤ c) : lows c r = lows 8 (r % 256) ++ lows (c - 8) (r / 256) := by
  rw [show c = 8 + (c - 8) from by omega, lows_add, show 8 + (c - 8) - 8 = c - 8 from by omega]
  rw [show (256 : Nat) = 2 ^ 8 from rfl, lows_mod]
theorem lows_snoc (n v : Nat) : lows (n + 1) v = lows n v ++ [v / 2 ^ n % 2 == 1] := by
  rw [lows_add]; rfl

theorem bitsOf_append (a b : List UInt8) : bitsOf (a ++ b) = bitsOf a ++ bitsOf b := by simp [bitsOf]
theorem bitsOf_nil : bitsOf [] = [] := rfl
theorem bitsOf_cons (b : UInt8) (t : List UInt8) : bitsOf (b :: t) = lows 8 b.toNat ++ bitsOf t := rfl
theorem bitsOf_one (b : UInt8) : bitsOf [b] = lows 8 b.toNat := by simp [bitsOf]
theorem bitsOf_len (l : List UInt8) : (bitsOf l).length = 8 * l.length := by
  induction l with
  | nil => rfl
  | cons b t ih => rw [bitsOf_cons, List.length_append, ih, lows_len, List.length_cons]; omega
theorem bitsOf_drop (l : List UInt8) (j : Nat) : (bitsOf l).drop (8 * j) = bitsOf (l.drop j) := by
  induction j generalizing l with
  | zero => simp
  | succ j ih =>
    cases l with
    | nil => simp [bitsOf]
    | cons b t =>
      rw [bitsOf_cons, List.drop_succ_cons, ← ih t, show 8 * (j + 1) = (lows 8 b.toNat).length + 8 * j from by rw [lows_len]; omega, List.drop_append]
      simp
theorem bitsOf_get (l : List UInt8) (i : Nat) (h : i < 8 * l.length) : (bitsOf l)[i]? = some ((l[i / 8]'(by omega)).toNat / 2 ^ (i % 8) % 2 == 1) := by
  have h8 : i / 8 < l.length := by omega
  have e : (bitsOf l)[i]? = ((bitsOf l).drop (8 * (i / 8)))[i % 8]? := by
    rw [List.getElem?_drop]; congr 1; omega
  rw [e, bitsOf_drop, List.drop_eq_getElem_cons h8, bitsOf_cons]
  have hm : i % 8 < 8 := Nat.mod_lt _ (by omega)
  rw [List.getElem?_append_left (by rw [lows_len]; exact hm)]
  generalize i % 8 = m at *
  generalize l[i / 8] = c
  have hs : lows 8 c.toNat = lows m c.toNat ++ (c.toNat / 2 ^ m % 2 == 1) :: lows (7 - m) (c.toNat / 2 ^ m / 2) := by
    rw [show 8 = m + (7 - m + 1) from by omega, lows_add, lows]
  rw [hs, List.getElem?_append_right (by rw [lows_len]; omega), lows_len]
  simp

/-- Rows as bytes, the last one filled up. -/
def pack (bs : List Bool) : List UInt8 := (List.range ((bs.length + 7) / 8)).map fun j => UInt8.ofNat (num ((bs.drop (8 * j)).take 8))
theorem pack_len (bs : List Bool) : (pack bs).length = (bs.length + 7) / 8 := by simp [pack]
theorem num_small (l : List Bool) (h : l.length ≤ 8) : num l < 256 :=
  Nat.lt_of_lt_of_le (num_lt l) (by rw [show (256 : Nat) = 2 ^ 8 from rfl]; exact Nat.pow_le_pow_right (by omega) h)
theorem ofNat_num (l : List Bool) (h : l.length ≤ 8) : (UInt8.ofNat (num l)).toNat = num l := by
  rw [UInt8.toNat_ofNat']; exact Nat.mod_eq_of_lt (num_small l h)
theorem pack_get (bs : List Bool) (j : Nat) (h : j < (bs.length + 7) / 8) : (pack bs)[j]'(by rw [pack_len]; exact h) = UInt8.ofNat (num ((bs.drop (8 * j)).take 8)) := by simp [pack]
theorem take_lows (b : UInt8) (t : List Bool) : num ((lows 8 b.toNat ++ t).take 8) = b.toNat := by
  rw [List.take_append_of_le_length (by rw [lows_len]; omega), List.take_of_length_le (by rw [lows_len]; omega), num_lows]
  have := b.toNat_lt
  omega
/-- Bytes and fewer than eight bits behind them. -/
theorem pack_bytes (l : List UInt8) (t : List Bool) (ht : t.length < 8) : pack (bitsOf l ++ t) = l ++ (if t.length = 0 then [] else [UInt8.ofNat (num t)]) := by
  have hlen : (bitsOf l ++ t).length = 8 * l.length + t.length := by rw [List.length_append, bitsOf_len]
  apply List.ext_getElem
  · rw [pack_len, hlen]; split <;> simp <;> omega
  · intro j h1 h2
    rw [pack_len, hlen] at h1
    rw [pack_get _ _ (by rw [hlen]; exact h1)]
    by_cases hj : j < l.length
    · rw [List.getElem_append_left hj]
      rw [List.drop_append_of_le_length (by rw [bitsOf_len]; omega), bitsOf_drop, List.drop_eq_getElem_cons hj, bitsOf_cons, List.append_assoc, take_lows]
      simp
    · have hje : j = l.length := by omega
      subst hje
      have h0 : t.length ≠ 0 := by omega
      rw [List.getElem_append_right (by omega)]
      simp only [if_neg h0, Nat.sub_self, List.getElem_cons_zero]
      rw [show 8 * l.length = (bitsOf l).length + 0 from by rw [bitsOf_len]; rfl, List.drop_append, List.take_of_length_le (by simp; omega)]
      simp
theorem pack_bitsOf (l : List UInt8) : pack (bitsOf l) = l := by
  have := pack_bytes l [] (by simp)
  simpa using this

/-- Filled up to a byte's end. -/
def pad (bs : List Bool) : List Bool := bs ++ List.replicate ((8 - bs.length % 8) % 8) false
theorem pad_len (bs : List Bool) : (pad bs).length = (bs.length + 7) / 8 * 8 := by
  unfold pad; simp; omega
theorem pad_full (bs : List Bool) (h : bs.length % 8 = 0) : pad bs = bs := by unfold pad; rw [h]; simp
theorem pad_bytes (l : List UInt8) (t : List Bool) (ht : t.length < 8) : pad (bitsOf l ++ t) = bitsOf (pack (bitsOf l ++ t)) := by
  rw [pack_bytes l t ht, bitsOf_append]
  unfold pad
  rw [List.append_assoc, List.length_append, bitsOf_len]
  congr 1
  split
  · have : t = [] := List.length_eq_zero_iff.1 (by assumption)
    subst this
    simp [bitsOf]
  · rw [bitsOf_one, ofNat_num t (by omega), show (8 * l.length + t.length) % 8 = t.length from by omega, Nat.mod_eq_of_lt (by omega)]
    conv => rhs; rw [show 8 = t.length + (8 - t.length) from by omega]
    rw [lows_add, lows_num, Nat.div_eq_of_lt (num_lt t), lows_zero]
/-- Every row is bytes and fewer than eight bits behind them. -/
theorem split_bytes (bs : List Bool) : ∃ (l : List UInt8) (t : List Bool), bs = bitsOf l ++ t ∧ t.length < 8 := by
  generalize hn : bs.length = n
  induction n using Nat.strongRecOn generalizing bs with
  | ind n ih =>
    by_cases h : bs.length < 8
    · exact ⟨[], bs, rfl, h⟩
    · obtain ⟨l, t, he, ht⟩ := ih (bs.drop 8).length (by simp; omega) (bs.drop 8) rfl
      refine ⟨UInt8.ofNat (num (bs.take 8)) :: l, t, ?_, ht⟩
      rw [bitsOf_cons, ofNat_num _ (by simp; omega), lows_num_of 8 _ (by simp; omega), List.append_assoc, ← he, List.take_append_drop]
theorem bitsOf_pack (bs : List Bool) : bitsOf (pack bs) = pad bs := by
  obtain ⟨l, t, rfl, ht⟩ := split_bytes bs
  exact (pad_bytes l t ht).symm

/-- The bits as a text. -/
def chB (b : Bool) : UInt8 := if b then 49 else 48
def txt (bs : List Bool) : ByteArray := ⟨(bs.map chB).toArray⟩
theorem txt_len (bs : List Bool) : (txt bs).size = bs.length := by
  show (bs.map chB).toArray.size = _
  simp
theorem txt_append (a b : List Bool) : txt a ++ txt b = txt (a ++ b) := by
  unfold txt
  apply ByteArray.ext
  simp [ByteArray.data_append]
theorem chB_inj (a b : Bool) (h : chB a = chB b) : a = b := by
  cases a <;> cases b <;> first | rfl | (revert h; decide)
theorem txt_get (bs : List Bool) (i : Nat) (h : i < (txt bs).size) : (txt bs)[i] = chB (bs[i]'(by rwa [txt_len] at h)) := by
  have e : (bs.map chB).toArray[i]'(by simpa [txt_len] using h) = chB (bs[i]'(by rwa [txt_len] at h)) := by simp
  exact e
theorem chB_nat (b : Bool) : (chB b).toNat = 48 + b.toNat := by cases b <;> rfl

/-- The number of a row turned round grows at its low end. -/
theorem num_turn (n v : Nat) : num (lows (n + 1) v).reverse = (v / 2 ^ n % 2) + 2 * num (lows n v).reverse := by
  rw [lows_snoc, List.reverse_append]
  simp [num, bit_nat]
theorem lows_turn (n v : Nat) : lows n (num (lows n v).reverse) = (lows n v).reverse := lows_num_of n _ (by simp [lows_len])
theorem num_snoc (l : List Bool) (b : Bool) : num (l ++ [b]) = num l + 2 ^ l.length * b.toNat := by
  rw [num_append]; simp [num]
end BitMath
end

section
/-
  What bytes a call makes of its own (namespace RefC), without functions of the document's answer: for seats where stevedoreref5's Of, Bytes, Number are not all called.
-/
namespace Go.Proofs.YtdbcendnibgcaaaGreatDoor.RefC
open Go.RowKit Go.My BitMath

theorem info5 : (Tryz.prog.info? 5).map (fun i => (i.zero, i.size, i.bytes)) = some (some (.int .u8 0), 1, 1) := by kernel_rfl

theorem ret_str {a b : ByteArray} (h : a = b) : Ending.returned (.string a) = .returned (.string b) := by rw [h]
/-! ### bytes written into a row of the call's own -/
theorem own_store {E : TypeId} {base : Nat} {w : World} {g n c : Nat} {l : List UInt8} (h : Own E base w (.slice (some ⟨g, 0, none⟩) n c) l) (hn : l.length = n) (i : Nat) (b : UInt8) :
    Own E base (w.setCell ⟨g, i, none⟩ (bv b)) (.slice (some ⟨g, 0, none⟩) n c) (l.set i b) := by
  subst hn
  have := (World.ownsRow.stored h i (bv b)).1
  unfold Own
  rw [List.length_set, List.map_set]
  exact this
theorem own_cell {E : TypeId} {base : Nat} {w : World} {g n c : Nat} {l : List UInt8} (h : Own E base w (.slice (some ⟨g, 0, none⟩) n c) l) (hn : l.length = n) (i : Nat) (hi : i < l.length) : w.cell? ⟨g, i, none⟩ = some (bv l[i]) := by
  subst hn
  have hl := h
  unfold Own at hl
  have hcell := World.ownsRow.cellAt hl i (by simpa using hi)
  rw [hcell, List.getElem?_map, List.getElem?_eq_getElem hi]
  rfl
theorem own_free {E : TypeId} {base : Nat} {w : World} {g n c : Nat} {l : List UInt8} (h : Own E base w (.slice (some ⟨g, 0, none⟩) n c) l) (hn : l.length = n) (i : Nat) : w.frozen? ⟨g, i, none⟩ = false := by
  subst hn
  exact World.ownsRow.frozenAt h i
end Go.Proofs.YtdbcendnibgcaaaGreatDoor.RefC
end
