import Derived.Test.YthjlemglfgamnaaDoorNumH
namespace Go.Proofs.YthjlemglfgamnaaDoor.NumC
open Go.RowKit Go.My NumMath

theorem i64_or_nat (a b : Nat) (ha : a < 2 ^ 63) (hb : b < 2 ^ 63) : bits .or .i64 (a : Int) (b : Int) = ((a ||| b : Nat) : Int) := by
  have h := Nat.or_lt_two_pow ha hb
  show IntKind.i64.wrap ((BitVec.ofInt 64 (a : Int) ||| BitVec.ofInt 64 (b : Int)).toNat : Int) = _
  rw [BitVec.toNat_or, BitVec.toNat_ofInt, BitVec.toNat_ofInt]
  rw [show ((a : Int) % ((2 ^ 64 : Nat) : Int)).toNat = a from by omega, show ((b : Int) % ((2 ^ 64 : Nat) : Int)).toNat = b from by omega]
  rw [IntKind.wrap_i64]
  omega
theorem i64_or8 (v c : Nat) (hv : v ≤ 18014398509481984) (hc : c < 256) : bits .or .i64 ((v : Int) * 256) (c : Int) = ((v * 256 + c : Nat) : Int) := by
  rw [show (v : Int) * 256 = ((v * 256 : Nat) : Int) from by omega, i64_or_nat _ _ (by omega) (by omega)]
  congr 1
  have := Nat.shiftLeft_add_eq_or_of_lt (i := 8) (a := v) (b := c) (by omega)
  rw [Nat.shiftLeft_eq] at this
  exact this.symm
theorem i64_or3 (v c : Nat) (hv : v ≤ 576460752303423488) (hc : c < 8) : bits .or .i64 ((v : Int) * 8) (c : Int) = ((v * 8 + c : Nat) : Int) := by
  rw [show (v : Int) * 8 = ((v * 8 : Nat) : Int) from by omega, i64_or_nat _ _ (by omega) (by omega)]
  congr 1
  have := Nat.shiftLeft_add_eq_or_of_lt (i := 3) (a := v) (b := c) (by omega)
  rw [Nat.shiftLeft_eq] at this
  exact this.symm

/-- What a loop that watches its limit holds: the number, or that it was passed. -/
def Held (b : Nat) (l : List UInt8) (k : Nat) (ov : Bool) (n : Nat) : Prop := (ov = false ∧ n = V (dig b) b (l.take k) ∧ n ≤ 4611686018427387904) ∨ (ov = true ∧ n = 0 ∧ 4611686018427387904 < V (dig b) b (l.take k))

theorem over_next (b : Nat) (l : List UInt8) (k : Nat) (h : k < l.length) (ho : 4611686018427387904 < V (dig b) b (l.take k) * b) : 4611686018427387904 < V (dig b) b (l.take (k + 1)) := by
  rw [V_take_succ _ _ _ _ h]; omega

set_option maxRecDepth 100000 in
set_option maxHeartbeats 4000000 in
theorem refoctal_256 (s : ByteArray) (w : World) (hs : s.size ≤ 1000000) (hp : 0 < s.size) (h1 : s[0].toNat = 128) :
    Calls Tryd.prog 15 #[.string s] w fun e w' => e = .returned (.tuple #[.int .i64 ((rngV (V (dig 256) 256 (s.data.toList.drop 1)) : Nat) : Int), .int .i64 ((rngE (V (dig 256) 256 (s.data.toList.drop 1)) : Nat) : Int)]) ∧ w = w' := by
  have hne := nonempty_of s hp
  have hb : ((s[0].toNat : Int) != 128) = false := by simp [h1]
  have hg : decide ((s[0].toNat : Int) ≥ 128) = true := by simp; omega
  obtain ⟨L, hL⟩ : ∃ L, L = s.data.toList.drop 1 := ⟨_, rfl⟩
  rw [← hL]
  have hlen : L.length = s.size - 1 := by rw [hL, List.length_drop, ← Lib.size_eq]
  have hget : ∀ k (h : k < s.size) (_ : 1 ≤ k) (hl : k - 1 < L.length), L[k - 1] = s[k] := fun k h h0 hl => by
    subst hL
    rw [List.getElem_drop, ← get_list s k h]
    congr 1; omega
  have HG := Lib.hid hget
  have HL := Lib.hid hlen
  clear hL hlen hget h1
  go_enter Tryd.func15, Tryd.ntmps15
  go_wp2_with fail
  clear hb hg
  go_loop [4, 5, 6] (fun n o i => ∃ (k : Nat) (ov : Bool) (v : Nat), 1 ≤ k ∧ k ≤ s.size ∧ i = .int .i64 k ∧ o = .bool ov ∧ n = .int .i64 (v : Int) ∧ Hid (Held 256 L (k - 1) ov v)) (fun _ _ i => s.size - (intOf i).toNat)
  case atStart => exact ⟨1, false, 0, by omega, by omega, rfl, rfl, rfl, Lib.hid (.inl ⟨rfl, rfl, by omega⟩)⟩
  case round =>
    obtain ⟨k, ov, v, hk1, hk2, rfl, rfl, rfl, HH⟩ := hrel
    by_cases hlt : k < s.size
    · have hkl : k - 1 < L.length := by rw [HL.out]; omega
      have HS : Hid (V (dig 256) 256 (L.take (k + 1 - 1)) = V (dig 256) 256 (L.take (k - 1)) * 256 + s[k].toNat) := Lib.hid (by
        rw [show k + 1 - 1 = (k - 1) + 1 from by omega, V_take_succ _ _ _ _ hkl, HG.out k hlt hk1 hkl]; rfl)
      have hc := s[k].toNat_lt
      rcases HH.out with ⟨rfl, hv, hm⟩ | ⟨rfl, rfl, hm⟩
      · by_cases hb : v ≤ 18014398509481984
        · have e := i64_or8 v s[k].toNat hb hc
          have hgt : decide ((v : Int) > 18014398509481984) = false := by simp; omega
          by_cases hn : v * 256 + s[k].toNat ≤ 4611686018427387904
          · have HN : Hid (Held 256 L (k + 1 - 1) false (v * 256 + s[k].toNat)) := Lib.hid (.inl ⟨rfl, by rw [HS.out, hv], hn⟩)
            clear hv
            go_wp2_with fail
            go_round
            case rel => exact ⟨k + 1, false, v * 256 + s[k].toNat, by omega, by omega, by go_num, by rw [decide_eq_false (by omega)], by go_num, HN⟩
            case measure => simp [intOf]; omega
          · have HN : Hid (Held 256 L (k + 1 - 1) true 0) := Lib.hid (.inr ⟨rfl, rfl, by rw [HS.out]; omega⟩)
            clear hv
            go_wp2_with fail
            go_round
            case rel => exact ⟨k + 1, true, 0, by omega, by omega, by go_num, by rw [decide_eq_true (by omega)], rfl, HN⟩
            case measure => simp [intOf]; omega
        · have hgt : decide ((v : Int) > 18014398509481984) = true := by simp; omega
          have HN : Hid (Held 256 L (k + 1 - 1) true 0) := Lib.hid (.inr ⟨rfl, rfl, by rw [HS.out]; omega⟩)
          clear hv
          go_wp2_with fail
          go_round
          case rel => exact ⟨k + 1, true, 0, by omega, by omega, by go_num, rfl, rfl, HN⟩
          case measure => simp [intOf]; omega
      · have HN : Hid (Held 256 L (k + 1 - 1) true 0) := Lib.hid (.inr ⟨rfl, rfl, by rw [HS.out]; omega⟩)
        go_wp2_with fail
        go_round
        case rel => exact ⟨k + 1, true, 0, by omega, by omega, by go_num, rfl, rfl, HN⟩
        case measure => simp [intOf]; omega
    · obtain rfl : k = s.size := by omega
      have e1 : L.take (s.size - 1) = L := List.take_of_length_le (by rw [HL.out]; omega)
      rcases HH.out with ⟨rfl, hv, hm⟩ | ⟨rfl, rfl, hm⟩
      · rw [e1] at hv
        subst hv
        clear e1
        go_wp2_with fail
        go_ret2
        exact ⟨ret_pair (by rw [show rngV (V (dig 256) 256 L) = _ from if_pos hm]) (by rw [show rngE (V (dig 256) 256 L) = 0 from if_pos hm]; rfl), rfl⟩
      · rw [e1] at hm
        clear e1
        go_wp2_with fail
        go_ret2
        exact ⟨ret_pair (by rw [show rngV (V (dig 256) 256 L) = 0 from if_neg (by omega)]; rfl) (by rw [show rngE (V (dig 256) 256 L) = 7 from if_neg (by omega)]; rfl), rfl⟩
end Go.Proofs.YthjlemglfgamnaaDoor.NumC
