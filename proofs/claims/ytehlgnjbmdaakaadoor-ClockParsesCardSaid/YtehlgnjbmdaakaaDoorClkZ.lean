import Derived.Test.YtehlgnjbmdaakaaDoorClkT
namespace Go.Proofs.YtehlgnjbmdaakaaDoor.ClkC
open Go.RowKit Go.My Flt NumMath Txt

theorem ten_at (d : Nat) (h : d < 10) : (⟨#[48, 49, 50, 51, 52, 53, 54, 55, 56, 57]⟩ : ByteArray).extract d (d + 1) = ⟨[chr d].toArray⟩ := by
  have : ∀ d : Fin 10, (⟨#[48, 49, 50, 51, 52, 53, 54, 55, 56, 57]⟩ : ByteArray).extract d.val (d.val + 1) = ⟨[chr d.val].toArray⟩ := by decide +kernel
  exact this ⟨d, h⟩

set_option maxRecDepth 100000 in
set_option maxHeartbeats 4000000 in
theorem digits_any (n : Nat) (w : World) (h : n < 10 ^ 18) :
    Calls Tryd.prog 30 #[.int .i64 (n : Int)] w fun e w' => e = .returned (.string ⟨(Lib.decDigits n).toArray⟩) ∧ w = w' := by
  obtain ⟨T, hT⟩ : ∃ r : ByteArray, r = ⟨(Lib.decDigits n).toArray⟩ := ⟨_, rfl⟩
  rw [← hT]
  have HT := Lib.hid hT
  have HL : Hid ((Lib.decDigits n).length ≤ 20) := Lib.hid (by rw [dec_dg 20 _ (by omega) (by omega)]; exact dg_len 20 _)
  clear hT
  go_enter Tryd.func30, Tryd.ntmps30
  go_wp2_with fail
  go_loop [0, 3] (fun nv sv => ∃ (m : Nat) (q : ByteArray), nv = .int .i64 (m : Int) ∧ sv = .string q ∧ m < 10 ^ 18 ∧ Hid (Lib.decDigits n = Lib.decDigits m ++ q.data.toList)) (fun nv _ => (intOf nv).toNat)
  case atStart => exact ⟨n, _, rfl, rfl, h, Lib.hid (by simp)⟩
  case round =>
    obtain ⟨m, q, rfl, rfl, hm, HQ⟩ := hrel
    have hq : q.size ≤ 20 := by
      have := HL.out
      rw [HQ.out, List.length_append, ← Lib.size_eq] at this
      omega
    by_cases hlt : m < 10
    · have hx := ten_at m hlt
      have HE : Hid ((⟨[chr m].toArray⟩ : ByteArray) ++ q = T) := Lib.hid (by
        rw [HT.out, HQ.out, dec_dg 1 m (by omega) (by omega)]
        unfold dg; rw [if_pos hlt]
        apply ByteArray.ext
        rw [ByteArray.data_append]
        simp)
      go_wp2_with fail
      go_ret
      exact ⟨ret_str HE.out, rfl⟩
    · have hd : m % 10 < 10 := Nat.mod_lt _ (by decide)
      have hx := ten_at (m % 10) hd
      have HN : Hid (Lib.decDigits n = Lib.decDigits (m / 10) ++ ((⟨[chr (m % 10)].toArray⟩ : ByteArray) ++ q).data.toList) := Lib.hid (by
        rw [HQ.out, ByteArray.data_append, Lib.decDigits, dif_neg hlt]
        simp [chr])
      go_wp2_with fail
      go_round
      case rel => exact ⟨m / 10, _, by go_num, rfl, by omega, HN⟩
      case measure => simp [intOf]; omega
end Go.Proofs.YtehlgnjbmdaakaaDoor.ClkC
