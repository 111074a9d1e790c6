import Derived.Test.YthjlemglfgamnaaDoorNumW
namespace Go.Proofs.YthjlemglfgamnaaDoor.NumC
open Go.RowKit Go.My NumMath

theorem i64_and15 (x : Nat) : bits .and .i64 (x : Int) 15 = ((x % 16 : Nat) : Int) := by
  rw [i64_and_mask (x : Int) 4 (by omega) 15 16 rfl rfl]; omega

theorem hex_at (d : Nat) (h : d < 16) : (⟨#[48, 49, 50, 51, 52, 53, 54, 55, 56, 57, 97, 98, 99, 100, 101, 102]⟩ : ByteArray).extract d (d + 1) = ⟨[ch d].toArray⟩ := by
  have hall : ∀ d : Fin 16, (([48, 49, 50, 51, 52, 53, 54, 55, 56, 57, 97, 98, 99, 100, 101, 102] : List UInt8).drop d.val).take 1 = [ch d.val] := by decide +kernel
  have h1 := hall ⟨d, h⟩
  have h2 := Lib.extract_data (⟨#[48, 49, 50, 51, 52, 53, 54, 55, 56, 57, 97, 98, 99, 100, 101, 102]⟩ : ByteArray) d (d + 1)
  rw [show d + 1 - d = 1 from by omega] at h2
  rw [← Lib.mk_data ((⟨#[48, 49, 50, 51, 52, 53, 54, 55, 56, 57, 97, 98, 99, 100, 101, 102]⟩ : ByteArray).extract d (d + 1)), h2]
  exact congrArg (fun l : List UInt8 => (⟨l.toArray⟩ : ByteArray)) h1
theorem shr_hex (v r : Nat) (hr : 1 ≤ r) : (v : Int) / 2 ^ (4 * r - 4) = ((v / 16 ^ (r - 1) : Nat) : Int) := by
  rw [show 4 * r - 4 = 4 * (r - 1) from by omega, Int.natCast_ediv, Int.natCast_pow, show ((16 : Nat) : Int) = 2 ^ 4 from rfl, ← Int.pow_mul]

set_option maxRecDepth 100000 in
theorem refputhex_range (v : Int) (w : World) (h : v < 0 ∨ 4294967295 < v) :
    Calls Tryd.prog 21 #[.int .i64 v] w fun e w' => e = .returned (.tuple #[.string ⟨#[]⟩, .int .i64 7]) ∧ w = w' := by
  by_cases h3 : v < 0
  · go_enter Tryd.func21, Tryd.ntmps21
    go_wp2_with fail
    go_ret2
    exact ⟨rfl, rfl⟩
  · have e1 : decide (v < 0) = false := by simp; omega
    have e2 : decide (v > 4294967295) = true := by simp; omega
    go_enter Tryd.func21, Tryd.ntmps21
    go_wp2_with fail
    go_ret2
    exact ⟨rfl, rfl⟩

set_option maxRecDepth 100000 in
set_option maxHeartbeats 4000000 in
theorem refputhex_any (v : Nat) (w : World) (hv : v ≤ 4294967295) :
    Calls Tryd.prog 21 #[.int .i64 (v : Int)] w fun e w' => e = .returned (.tuple #[.string ⟨(fix ch 16 8 v).toArray⟩, .int .i64 0]) ∧ w = w' := by
  have e1 : decide ((v : Int) < 0) = false := by simp
  have e2 : decide ((v : Int) > 4294967295) = false := by simp; omega
  go_enter Tryd.func21, Tryd.ntmps21
  go_wp2_with fail
  clear e1 e2
  go_loop [4, 5] (fun sv i => ∃ (r : Nat) (s : ByteArray), r ≤ 8 ∧ i = .int .i64 (4 * (r : Int) - 4) ∧ sv = .string s ∧ s.size ≤ 8 ∧ Hid (s.data.toList ++ fix ch 16 r v = fix ch 16 8 v)) (fun _ i => (intOf i + 4).toNat)
  case atStart => exact ⟨8, ⟨#[]⟩, by omega, rfl, rfl, by decide, Lib.hid (by simp)⟩
  case round =>
    obtain ⟨r, s, hr, rfl, rfl, hs, HS⟩ := hrel
    by_cases hlt : 1 ≤ r
    · obtain ⟨d, hd, hdx⟩ : ∃ d : Nat, d < 16 ∧ d = v / 16 ^ (r - 1) % 16 := ⟨_, Nat.mod_lt _ (by omega), rfl⟩
      have e : bits .and .i64 ((v : Int) / 2 ^ (4 * r - 4)) 15 = (d : Int) := by rw [shr_hex v r hlt, i64_and15, hdx]
      have hq := hex_at d hd
      have hqs : (⟨[ch d].toArray⟩ : ByteArray).size ≤ 1 := by rw [Lib.size_eq]; simp
      have HS1 : Hid ((s ++ ⟨[ch d].toArray⟩).data.toList ++ fix ch 16 (r - 1) v = fix ch 16 8 v) := Lib.hid (by
        have hf : fix ch 16 r v = ch d :: fix ch 16 (r - 1) v := by
          obtain ⟨m, rfl⟩ : ∃ m, r = m + 1 := ⟨r - 1, by omega⟩
          rw [fix, hdx]; rfl
        rw [← HS.out, hf, ByteArray.data_append]
        simp)
      have HZ : Hid ((s ++ (⟨[ch d].toArray⟩ : ByteArray)).size = s.size + 1) := Lib.hid (by rw [ByteArray.size_append]; congr 1)
      have HL : Hid (s.size + r = 8) := Lib.hid (by
        have h := congrArg List.length HS.out
        rw [List.length_append, fix_len, fix_len, ← Lib.size_eq] at h
        exact h)
      clear hdx
      generalize (⟨[ch d].toArray⟩ : ByteArray) = q at *
      go_wp2_with fail
      go_round
      case rel => exact ⟨r - 1, s ++ q, by omega, by go_num, rfl, by rw [HZ.out]; have := HL.out; omega, HS1⟩
      case measure => simp [intOf]; omega
    · obtain rfl : r = 0 := by omega
      have HE : Hid (s = ⟨(fix ch 16 8 v).toArray⟩) := Lib.hid (by
        rw [← HS.out, fix, List.append_nil, Lib.mk_data])
      go_wp2_with fail
      go_ret2
      exact ⟨ret_se HE.out rfl, rfl⟩
end Go.Proofs.YthjlemglfgamnaaDoor.NumC
