/-
  The document's own answer for bits (stevedoreref5): Put, Code alone: for seats that call Code and not Of, Bytes, Number.
-/
import Derived.Test.YtgmdbcmfncapdaaRows
import Derived.Test.YtgmdbcmfncapdaaLib
import Derived.Test.YtgmdbcmfncapdaaBitMath
import Derived.Laws.Pointers
import Derived.Deep.QuietTactic
import Derived.BigQuiet
namespace Go.Proofs.Ytgmdbcmfncapdaa.RefC
open Go.RowKit Go.My BitMath

theorem u32_bit (v k : Nat) (hv : v < 4294967296) : bits .and .u32 ((v : Int) / 2 ^ k) 1 = ((v / 2 ^ k % 2 : Nat) : Int) := by
  have e : (v : Int) / 2 ^ k = ((v / 2 ^ k : Nat) : Int) := by push_cast; rfl
  have hd := Nat.div_le_self v (2 ^ k)
  rw [e, show (1 : Int) = ((1 : Nat) : Int) from rfl, u32_and_nat _ _ (by omega) (by omega), Nat.and_one_is_mod]
theorem ret_str {a b : ByteArray} (h : a = b) : Ending.returned (.string a) = .returned (.string b) := by rw [h]
theorem refput_no (v n : Int) (w : World) (h : n < 1 ∨ 32 < n) :
    Calls Try.prog 21 #[.int .u32 v, .int .i64 n] w fun e w' => e = .returned (.string ⟨#[]⟩) ∧ w = w' := by
  by_cases h1 : n < 1
  · go_enter Try.func21, Try.ntmps21
    go_wp2
    go_ret
    exact ⟨rfl, rfl⟩
  · have h8 : decide (n > 32) = true := by simp; omega
    go_enter Try.func21, Try.ntmps21
    go_wp2
    go_ret
    exact ⟨rfl, rfl⟩

theorem txt_snoc (l : List Bool) (b : Bool) (q : ByteArray) (h : q = ⟨#[chB b]⟩) : txt l ++ q = txt (l ++ [b]) := by
  subst h
  rw [← txt_append]; rfl

set_option maxHeartbeats 1000000 in
theorem refput_any (v n : Nat) (w : World) (h1 : 1 ≤ n) (hn : n ≤ 32) (hv : v < 4294967296) :
    Calls Try.prog 21 #[.int .u32 (v : Int), .int .i64 (n : Int)] w fun e w' => e = .returned (.string (txt (lows n v))) ∧ w = w' := by
  have d8 : decide ((n : Int) > 32) = false := by simp; omega
  have d1 : decide ((n : Int) < 1) = false := by simp; omega
  go_enter Try.func21, Try.ntmps21
  go_wp2
  clear d8 d1
  go_loop [5, 6] (fun s i => ∃ (k : Nat) (t : ByteArray), k ≤ n ∧ i = .int .i64 k ∧ s = .string t ∧ Hid (t = txt (lows k v))) (fun _ i => n - (intOf i).toNat)
  case atStart => exact ⟨0, _, Nat.zero_le _, rfl, rfl, Lib.hid rfl⟩
  case round =>
    obtain ⟨k, t, hk, rfl, rfl, HT⟩ := hrel
    by_cases hlt : k < n
    · have hsz : t.size ≤ 1000 := by rw [HT.out, txt_len, lows_len]; omega
      have hb := u32_bit v k hv
      have hs := lows_snoc k v
      rcases Nat.mod_two_eq_zero_or_one (v / 2 ^ k) with h0 | h0
      · rw [h0] at hb hs
        have HS := Lib.hid hs
        clear hs h0
        go_wp2
        go_round
        case rel => exact ⟨k + 1, _, by omega, by go_num, rfl, Lib.hid (by rw [HT.out, txt_snoc _ false _ (by rfl), HS.out]; rfl)⟩
        case measure => simp [intOf]; omega
      · rw [h0] at hb hs
        have HS := Lib.hid hs
        clear hs h0
        go_wp2
        go_round
        case rel => exact ⟨k + 1, _, by omega, by go_num, rfl, Lib.hid (by rw [HT.out, txt_snoc _ true _ (by rfl), HS.out]; rfl)⟩
        case measure => simp [intOf]; omega
    · obtain rfl : k = n := by omega
      go_wp2
      go_ret
      exact ⟨ret_str HT.out, rfl⟩

theorem txt_extract (l : List Bool) (i : Nat) (h : i < l.length) : (txt l).extract i (i + 1) = txt [l[i]] := by
  apply ByteArray.ext
  rw [ByteArray.data_extract]
  unfold txt
  apply Array.ext'
  simp [List.extract_eq_take_drop]
  rw [List.drop_eq_getElem_cons (by simpa using h)]
  simp

theorem refcode_no (v n : Int) (w : World) (h : n < 1 ∨ 32 < n) :
    Calls Try.prog 19 #[.int .u32 v, .int .i64 n] w fun e w' => e = .returned (.string ⟨#[]⟩) ∧ w = w' := by
  go_enter Try.func19, Try.ntmps19
  go_wp2_with fail
  refine (refput_no v n w h).mono ?_
  rintro e w' ⟨rfl, rfl⟩
  go_wp2_with fail
  go_loop [6, 7] (fun s i => s = .string ⟨#[]⟩ ∧ i = .int .i64 (-1)) (fun _ i => (intOf i).toNat)
  case atStart => exact ⟨rfl, rfl⟩
  case round =>
    obtain ⟨rfl, rfl⟩ := hrel
    go_wp2
    go_ret
    exact ⟨rfl, rfl⟩

theorem rev_drop (l : List Bool) (p : Nat) (h : p < l.length) : (l.drop p).reverse = (l.drop (p + 1)).reverse ++ [l[p]] := by
  rw [List.drop_eq_getElem_cons h, List.reverse_cons]

set_option maxHeartbeats 1000000 in
theorem refcode_any (v n : Nat) (w : World) (h1 : 1 ≤ n) (hn : n ≤ 32) (hv : v < 4294967296) :
    Calls Try.prog 19 #[.int .u32 (v : Int), .int .i64 (n : Int)] w fun e w' => e = .returned (.string (txt (lows n v).reverse)) ∧ w = w' := by
  go_enter Try.func19, Try.ntmps19
  go_wp2_with fail
  refine (refput_any v n w h1 hn hv).mono ?_
  rintro e w' ⟨rfl, rfl⟩
  obtain ⟨l, hl⟩ : ∃ l, l = lows n v := ⟨_, rfl⟩
  have hln : l.length = n := by rw [hl, lows_len]
  rw [← hl]
  have HLV := Lib.hid hl
  clear hl
  have HLN := Lib.hid hln
  have htl := txt_len l
  rw [hln] at htl
  have HTL := Lib.hid htl
  have hsz : (txt l).size ≤ 32 := by omega
  have hsz2 : n ≤ (txt l).size := by omega
  clear hln htl
  obtain ⟨s, hs⟩ : ∃ s, s = txt l := ⟨_, rfl⟩
  rw [← hs] at hsz hsz2 ⊢
  have HS : Hid (s = txt l) := Lib.hid hs
  have HN : Hid (s.size = n) := Lib.hid (by rw [hs]; exact HTL.out)
  clear hs
  go_wp2_with fail
  go_loop [6, 7] (fun s i => ∃ (p : Nat) (t : ByteArray), p ≤ n ∧ i = .int .i64 ((p : Int) - 1) ∧ s = .string t ∧ Hid (t = txt (l.drop p).reverse)) (fun _ i => (intOf i + 1).toNat)
  case atStart => exact ⟨n, _, Nat.le_refl _, by rw [HN.out], rfl, Lib.hid (by rw [List.drop_of_length_le (by rw [HLN.out]; omega)]; rfl)⟩
  case round =>
    obtain ⟨p, t, hp, rfl, rfl, HT⟩ := hrel
    by_cases hlt : 0 < p
    · obtain ⟨q, rfl⟩ : ∃ q, p = q + 1 := ⟨p - 1, by omega⟩
      have hts : t.size ≤ 1000 := by rw [HT.out, txt_len]; simp; have := HLN.out; omega
      go_wp2
      go_round
      case rel => exact ⟨q, _, by omega, rfl, rfl, Lib.hid (by rw [HT.out, HS.out, txt_extract l q (by have := HLN.out; omega), txt_append, rev_drop l q (by have := HLN.out; omega)])⟩
      case measure => simp [intOf]
    · obtain rfl : p = 0 := by omega
      go_wp2
      go_ret
      exact ⟨ret_str (by rw [HT.out, List.drop_zero, HLV.out]), rfl⟩

end Go.Proofs.Ytgmdbcmfncapdaa.RefC
