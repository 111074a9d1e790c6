import Derived.Test.YtfnjokoeaboliaaRows
import Derived.Test.YtfnjokoeaboliaaLib
import Derived.Test.YtfnjokoeaboliaaBitMath
import Derived.Laws.Pointers
import Derived.Deep.QuietTactic
import Derived.BigQuiet
namespace Go.Proofs.Ytfnjokoeaboliaa.BitC
open Go.RowKit Go.My BitMath

theorem info5 : (Try.prog.info? 5).map (fun i => (i.zero, i.size, i.bytes)) = some (some (.int .u8 0), 1, 1) := by kernel_rfl

theorem fits_yes (n : Int) (w : World) (h1 : 1 ≤ n) (h2 : n ≤ 32) : Calls Try.prog 25 #[.int .i64 n] w fun e w' => e = .returned (.bool true) ∧ w = w' := by
  go_enter Try.func25, Try.ntmps25
  go_wp2
  go_ret
  exact ⟨by simp, rfl⟩
theorem fits_no (n : Int) (w : World) (h : n < 1 ∨ 32 < n) : Calls Try.prog 25 #[.int .i64 n] w fun e w' => e = .returned (.bool false) ∧ w = w' := by
  rcases h with h | h
  · go_enter Try.func25, Try.ntmps25
    go_wp2
    go_ret
    exact ⟨rfl, rfl⟩
  · have h1 : 1 ≤ n := by omega
    have h8 : ¬ n ≤ 32 := by omega
    go_enter Try.func25, Try.ntmps25
    go_wp2
    go_ret
    exact ⟨by simp, rfl⟩

theorem new_writer (w : World) : Calls Try.prog 7 #[] w fun e w' => e = .returned (.pointer (some ⟨w.heap.size, 0, none⟩)) ∧ w.alloc (.cells #[.slice none 0 0, .int .u64 0, .int .i64 0] 51) = w' := by
  go_enter Try.func7, Try.ntmps7
  go_wp2
  go_ret
  exact ⟨rfl, rfl⟩

theorem u32_bit (v k : Nat) (hv : v < 4294967296) : bits .and .u32 ((v : Int) / 2 ^ k) 1 = ((v / 2 ^ k % 2 : Nat) : Int) := by
  have e : (v : Int) / 2 ^ k = ((v / 2 ^ k : Nat) : Int) := by push_cast; rfl
  have hd := Nat.div_le_self v (2 ^ k)
  rw [e, show (1 : Int) = ((1 : Nat) : Int) from rfl, u32_and_nat _ _ (by omega) (by omega), Nat.and_one_is_mod]
theorem turn_step (t v k : Nat) (ht : t < 2147483648) (hv : v < 4294967296) : bits .or .u32 ((t : Int) * 2 % 4294967296) (bits .and .u32 ((v : Int) / 2 ^ k) 1) = ((v / 2 ^ k % 2 + 2 * t : Nat) : Int) := by
  rw [u32_bit v k hv, show (t : Int) * 2 % 4294967296 = ((t * 2 : Nat) : Int) from by omega]
  generalize hb : v / 2 ^ k % 2 = b
  have hb2 : b < 2 ^ 1 := by omega
  rw [u32_or_nat _ _ (by omega) (by omega), Nat.or_comm, show t * 2 = t * 2 ^ 1 from rfl, or_join 1 b t hb2]

set_option maxHeartbeats 1000000 in
theorem turned_any (v n : Nat) (w : World) (hn : n ≤ 32) (hv : v < 4294967296) :
    Calls Try.prog 26 #[.int .u32 (v : Int), .int .i64 (n : Int)] w fun e w' => e = .returned (.int .u32 ((num (lows n v).reverse : Nat) : Int)) ∧ w = w' := by
  go_enter Try.func26, Try.ntmps26
  go_wp2
  go_loop [5, 8] (fun t i => ∃ k : Nat, k ≤ n ∧ i = .int .i64 k ∧ t = .int .u32 ((num (lows k v).reverse : Nat) : Int)) (fun _ i => n - (intOf i).toNat)
  case atStart => exact ⟨0, Nat.zero_le _, rfl, rfl⟩
  case round =>
    obtain ⟨k, hk, rfl, rfl⟩ := hrel
    by_cases hlt : k < n
    · have hs := num_turn k v
      have hl := num_lt (lows k v).reverse
      rw [List.length_reverse, lows_len] at hl
      have hl2 : num (lows k v).reverse < 2147483648 := Nat.lt_of_lt_of_le hl (by rw [show 2147483648 = 2 ^ 31 from rfl]; exact Nat.pow_le_pow_right (by omega) (by omega))
      have HE := Lib.hid (turn_step _ v k hl2 hv)
      have HS := Lib.hid hs
      clear hs hl hl2
      go_wp2
      go_round
      case rel => exact ⟨k + 1, by omega, by go_num, by rw [HE.out, HS.out]⟩
      case measure => simp [intOf]; omega
    · obtain rfl : k = n := by omega
      go_wp2
      go_ret
      exact ⟨rfl, rfl⟩

theorem ret_str {a b : ByteArray} (h : a = b) : Ending.returned (.string a) = .returned (.string b) := by rw [h]
theorem refput_no (v n : Int) (w : World) (h : n < 1 ∨ 32 < n) :
    Calls Try.prog 10 #[.int .u32 v, .int .i64 n] w fun e w' => e = .returned (.string ⟨#[]⟩) ∧ w = w' := by
  by_cases h1 : n < 1
  · go_enter Try.func10, Try.ntmps10
    go_wp2
    go_ret
    exact ⟨rfl, rfl⟩
  · have h8 : decide (n > 32) = true := by simp; omega
    go_enter Try.func10, Try.ntmps10
    go_wp2
    go_ret
    exact ⟨rfl, rfl⟩

theorem txt_snoc (l : List Bool) (b : Bool) (q : ByteArray) (h : q = ⟨#[chB b]⟩) : txt l ++ q = txt (l ++ [b]) := by
  subst h
  rw [← txt_append]; rfl

set_option maxHeartbeats 1000000 in
theorem refput_any (v n : Nat) (w : World) (h1 : 1 ≤ n) (hn : n ≤ 32) (hv : v < 4294967296) :
    Calls Try.prog 10 #[.int .u32 (v : Int), .int .i64 (n : Int)] w fun e w' => e = .returned (.string (txt (lows n v))) ∧ w = w' := by
  have d8 : decide ((n : Int) > 32) = false := by simp; omega
  have d1 : decide ((n : Int) < 1) = false := by simp; omega
  go_enter Try.func10, Try.ntmps10
  go_wp2
  clear d8 d1
  go_loop [5, 6] (fun s i => ∃ (k : Nat) (t : ByteArray), k ≤ n ∧ i = .int .i64 k ∧ s = .string t ∧ Hid (t = txt (lows k v))) (fun _ i => n - (intOf i).toNat)
  case atStart => exact ⟨0, _, Nat.zero_le _, rfl, rfl, Lib.hid rfl⟩
  case round =>
    obtain ⟨k, t, hk, rfl, rfl, HT⟩ := hrel
    by_cases hlt : k < n
    · have hsz : t.size ≤ 1000 := by rw [HT.out, txt_len, lows_len]; omega
      have hb := u32_bit v k hv
      have hs := lows_snoc k v
      rcases Nat.mod_two_eq_zero_or_one (v / 2 ^ k) with h0 | h0
      · rw [h0] at hb hs
        have HS := Lib.hid hs
        clear hs h0
        go_wp2
        go_round
        case rel => exact ⟨k + 1, _, by omega, by go_num, rfl, Lib.hid (by rw [HT.out, txt_snoc _ false _ (by rfl), HS.out]; rfl)⟩
        case measure => simp [intOf]; omega
      · rw [h0] at hb hs
        have HS := Lib.hid hs
        clear hs h0
        go_wp2
        go_round
        case rel => exact ⟨k + 1, _, by omega, by go_num, rfl, Lib.hid (by rw [HT.out, txt_snoc _ true _ (by rfl), HS.out]; rfl)⟩
        case measure => simp [intOf]; omega
    · obtain rfl : k = n := by omega
      go_wp2
      go_ret
      exact ⟨ret_str HT.out, rfl⟩

/-! ### bytes written into a row of the call's own -/
theorem own_store {E : TypeId} {base : Nat} {w : World} {g n c : Nat} {l : List UInt8} (h : Own E base w (.slice (some ⟨g, 0, none⟩) n c) l) (hn : l.length = n) (i : Nat) (b : UInt8) :
    Own E base (w.setCell ⟨g, i, none⟩ (bv b)) (.slice (some ⟨g, 0, none⟩) n c) (l.set i b) := by
  subst hn
  have := (World.ownsRow.stored h i (bv b)).1
  unfold Own
  rw [List.length_set, List.map_set]
  exact this
theorem own_cell {E : TypeId} {base : Nat} {w : World} {g n c : Nat} {l : List UInt8} (h : Own E base w (.slice (some ⟨g, 0, none⟩) n c) l) (hn : l.length = n) (i : Nat) (hi : i < l.length) : w.cell? ⟨g, i, none⟩ = some (bv l[i]) := by
  subst hn
  have hl := h
  unfold Own at hl
  have hcell := World.ownsRow.cellAt hl i (by simpa using hi)
  rw [hcell, List.getElem?_map, List.getElem?_eq_getElem hi]
  rfl
theorem own_free {E : TypeId} {base : Nat} {w : World} {g n c : Nat} {l : List UInt8} (h : Own E base w (.slice (some ⟨g, 0, none⟩) n c) l) (hn : l.length = n) (i : Nat) : w.frozen? ⟨g, i, none⟩ = false := by
  subst hn
  exact World.ownsRow.frozenAt h i
end Go.Proofs.Ytfnjokoeaboliaa.BitC
