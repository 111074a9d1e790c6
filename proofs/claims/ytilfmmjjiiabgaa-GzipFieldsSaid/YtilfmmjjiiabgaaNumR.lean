import Derived.Test.YtilfmmjjiiabgaaNumB
namespace Go.Proofs.Ytilfmmjjiiabgaa.NumC
open Go.RowKit Go.My NumMath

set_option maxRecDepth 100000 in
theorem number_short (a : Option Addr) (len cap : Nat) (at_ n : Int) (big : Bool) (w : World) (hl : len ≤ 9223372036854775807) (h1 : 1 ≤ n) (h2 : n ≤ 8) (h : at_ < 0 ∨ (len : Int) - n < at_) :
    Calls Try.prog 19 #[.slice a len cap, .int .i64 at_, .int .i64 n, .bool big] w fun e w' => e = .returned (.tuple #[.int .u64 0, .int .i64 5]) ∧ w = w' := by
  have d1 : decide (n < 1) = false := by simp; omega
  have d8 : decide (n > 8) = false := by simp; omega
  by_cases h0 : at_ < 0
  · go_enter Try.func19, Try.ntmps19
    go_wp2
    go_ret2
    exact ⟨rfl, rfl⟩
  have d0 : decide (at_ < 0) = false := by simp; omega
  by_cases hg : (len : Int) < at_
  · have dg : decide (at_ > (len : Int)) = true := by simpa using hg
    go_enter Try.func19, Try.ntmps19
    go_wp2
    go_ret2
    exact ⟨rfl, rfl⟩
  have dg : decide (at_ > (len : Int)) = false := by simp; omega
  have dn : decide (n > (len : Int) - at_) = true := by simp; omega
  go_enter Try.func19, Try.ntmps19
  go_wp2
  go_ret2
  exact ⟨rfl, rfl⟩

set_option maxRecDepth 100000 in
set_option maxHeartbeats 1000000 in
theorem number_ok (b off len cap k n : Nat) (l : List UInt8) (big : Bool) (w : World) (hb : Bytes w (some ⟨b, off, none⟩) len cap l) (h1 : 1 ≤ n) (h2 : n ≤ 8) (h : k + n ≤ len) :
    Calls Try.prog 19 #[.slice (some ⟨b, off, none⟩) len cap, .int .i64 (k : Int), .int .i64 (n : Int), .bool big] w fun e w' => e = .returned (.tuple #[.int .u64 ((num big ((l.drop k).take n) : Nat) : Int), .int .i64 0]) ∧ w = w' := by
  have hl := hb.le_cap
  have hc := hb.cap_le
  have hlen := hb.len_eq
  obtain ⟨L, hL, hLn, hat⟩ : ∃ L : List UInt8, (l.drop k).take n = L ∧ L.length = n ∧ ∀ i (h : i < L.length), w.cell? ⟨b, off + (k + i), none⟩ = some (.int .u8 (L[i].toNat : Int)) := by
    refine ⟨_, rfl, by simp; omega, fun i hi => ?_⟩
    rcases hb.at_ with h0 | ⟨b', off', he, _, hcc⟩
    · omega
    · cases he
      simp only [List.length_take, List.length_drop] at hi
      rw [hcc (k + i) (by omega)]
      simp
  rw [hL]
  clear hb hlen hL
  have HA := Lib.hid hat
  have HLn := Lib.hid hLn
  clear hat hLn
  have d1 : decide ((n : Int) < 1) = false := by simp; omega
  have d8 : decide ((n : Int) > 8) = false := by simp; omega
  have d0 : decide ((k : Int) < 0) = false := by simp
  have dg : decide ((k : Int) > (len : Int)) = false := by simp; omega
  have dn : decide ((n : Int) > (len : Int) - (k : Int)) = false := by simp; omega
  obtain ⟨M, hMl, hMr, hMt, hMf⟩ : ∃ M : List UInt8, M.length = n ∧ num big L = num true M ∧ (big = true → M = L) ∧ (big = false → M = L.reverse) :=
    ⟨if big then L else L.reverse, by cases big <;> simp [HLn.out], num_rev big L, fun h => by rw [h]; rfl, fun h => by rw [h]; rfl⟩
  have HM := Lib.hid hMl
  have HT := Lib.hid hMt
  have HF := Lib.hid hMf
  rw [hMr]
  clear hMl hMr hMt hMf
  go_enter Try.func19, Try.ntmps19
  go_wp2
  clear d1 d8 d0 dg dn
  go_loop [10, 11] (fun v i => ∃ j : Nat, j ≤ n ∧ i = .int .i64 j ∧ v = .int .u64 ((num true (M.take j) : Nat) : Int)) (fun _ i => n - (intOf i).toNat)
  case atStart => exact ⟨0, by omega, rfl, rfl⟩
  case round =>
    obtain ⟨j, hj, rfl, rfl⟩ := hrel
    by_cases hlt : j < n
    · have hjl : j < M.length := by rw [HM.out]; exact hlt
      have HN := Lib.hid (num_big M j hjl)
      have hv7 := num_lt7 true (M.take j) (by rw [List.length_take]; omega)
      have e := or_shl8 (num true (M.take j)) M[j].toNat hv7 (UInt8.toNat_lt _)
      have hx : (M[j].toNat : Int) < 256 := by have := M[j].toNat_lt; omega
      cases big
      · have hcell := HA.out (n - 1 - j) (by rw [HLn.out]; omega)
        have hq : L[n - 1 - j]'(by rw [HLn.out]; omega) = M[j] := by simp [HF.out rfl, HLn.out]
        rw [hq] at hcell
        clear hq
        go_wp2
        go_round
        case rel => exact ⟨j + 1, by omega, by go_num, by rw [HN.out]; go_num⟩
        case measure => simp [intOf]; omega
      · have hcell := HA.out j (by rw [HLn.out]; exact hlt)
        have hq : L[j]'(by rw [HLn.out]; omega) = M[j] := by simp [HT.out rfl]
        rw [hq] at hcell
        clear hq
        go_wp2
        go_round
        case rel => exact ⟨j + 1, by omega, by go_num, by rw [HN.out]; go_num⟩
        case measure => simp [intOf]; omega
    · obtain rfl : j = n := by omega
      go_wp2
      go_ret2
      exact ⟨ret_num (by rw [List.take_of_length_le (by rw [HM.out]; omega)]) rfl, rfl⟩
end Go.Proofs.Ytilfmmjjiiabgaa.NumC
