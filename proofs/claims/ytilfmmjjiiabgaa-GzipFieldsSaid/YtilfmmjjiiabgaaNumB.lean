import Derived.Test.YtilfmmjjiiabgaaNumA
namespace Go.Proofs.Ytilfmmjjiiabgaa.NumC
open Go.RowKit Go.My NumMath

theorem mf : ∀ (fn : Fn) (first cap : Array Value) (w : World), (Instr.makeFunc fn first cap).run Try.prog w = .ok (.func fn first cap) w := fun _ _ _ _ => rfl

theorem or_shl (v c j : Nat) (hv : v < 256 ^ j) (hc : c < 256) (hj : j < 8) : bits .or .u64 (v : Int) (IntKind.u64.wrap (IntKind.u64.wrap (c : Int) * 2 ^ (8 * j))) = ((v + c * 256 ^ j : Nat) : Int) := by
  have e8 : (256 : Nat) ^ j = 2 ^ (8 * j) := by rw [show (256 : Nat) = 2 ^ 8 from rfl, ← Nat.pow_mul]
  have hle : (2 : Nat) ^ (8 * j) ≤ 2 ^ 56 := Nat.pow_le_pow_right (by omega) (by omega)
  have h1 : c * 2 ^ (8 * j) < 18446744073709551616 := by
    have := Nat.mul_le_mul (show c ≤ 255 by omega) hle
    omega
  generalize hm : c * 2 ^ (8 * j) = m at *
  rw [IntKind.wrap_u64, IntKind.wrap_u64, Int.emod_eq_of_lt (a := (c : Int)) (by omega) (by omega)]
  have ep : ((c : Int) * 2 ^ (8 * j)) = ((m : Nat) : Int) := by rw [← hm, Int.natCast_mul, Int.natCast_pow]; rfl
  rw [ep, Int.emod_eq_of_lt (by omega) (by omega)]
  rw [u64_or_nat _ _ (by rw [e8] at hv; omega) (by omega), e8, hm, ← hm]
  congr 1
  rw [← Nat.shiftLeft_eq, Nat.or_comm]
  rw [← Nat.shiftLeft_add_eq_or_of_lt (by rw [e8] at hv; exact hv)]
  omega

set_option maxRecDepth 100000 in
set_option maxHeartbeats 1000000 in
theorem little_short (a : Option Addr) (len cap : Nat) (at_ n : Int) (w : World) (hl : len ≤ 9223372036854775807) (h1 : 1 ≤ n) (h2 : n ≤ 8) (h : at_ < 0 ∨ (len : Int) - n < at_) :
    Calls Try.prog 41 #[.slice a len cap, .int .i64 at_, .int .i64 n] w fun e w' => e = .returned (.tuple #[.int .u64 0, .int .i64 5]) ∧ Below w.heap.size w w' := by
  have hmf := mf
  go_enter_defers Try.func41, Try.ntmps41
  go_wp2_with fail
  refine (part_short a len cap at_ n _ hl h1 h2 h).mono ?_
  rintro e w' ⟨rfl, rfl⟩
  go_wp2_with fail
  refine leaves_cons (f := 46) (args := #[.pointer (some ⟨w.heap.size, 0, none⟩)]) (by simp) (by simp [go_sem]) ?_
  refine (little_caught w.heap.size 5 at_ [] _ ?_ ?_ ?_).mono ?_
  · simp
  · simp [go_sem]
  · simp [go_sem]
  rintro e u' w'' ⟨rfl, rfl, hc, hb⟩
  simp [Leaves, settle, results, Try.results41, go_sem, hc]
  exact ((Below.refl _ _).alloc (Nat.le_refl _) _).trans hb

set_option maxRecDepth 100000 in
set_option maxHeartbeats 1000000 in
theorem little_ok (b off len cap k n : Nat) (l : List UInt8) (w : World) (hb : Bytes w (some ⟨b, off, none⟩) len cap l) (h1 : 1 ≤ n) (h2 : n ≤ 8) (h : k + n ≤ len) :
    Calls Try.prog 41 #[.slice (some ⟨b, off, none⟩) len cap, .int .i64 (k : Int), .int .i64 (n : Int)] w fun e w' => e = .returned (.tuple #[.int .u64 ((num false ((l.drop k).take n) : Nat) : Int), .int .i64 0]) ∧ Below w.heap.size w w' := by
  have hl := hb.le_cap
  have hc := hb.cap_le
  have H : Hid (Bytes w (some ⟨b, off + k, none⟩) n (cap - k) ((l.drop k).take n)) := Lib.hid ((hb.drop k (by omega)).take n (by omega))
  clear hb
  generalize (l.drop k).take n = L at *
  have hmf := mf
  go_enter_defers Try.func41, Try.ntmps41
  go_wp2_with fail
  refine (part_ok b off len cap k n _ hl hc h1 h2 h).mono ?_
  rintro e w' ⟨rfl, rfl⟩
  have HC : Hid (Bytes (w.alloc (.cells #[.int .i64 0] 28)) (some ⟨b, off + k, none⟩) n (cap - k) L) := Lib.hid (H.out.below (Nat.le_refl _) ((Below.refl _ _).alloc (Nat.le_refl _) _))
  have hcode : (w.alloc (.cells #[.int .i64 0] 28)).cell? ⟨w.heap.size, 0, none⟩ = some (.int .i64 0) := by simp [go_sem]
  have hfroz : (w.alloc (.cells #[.int .i64 0] 28)).frozen? ⟨w.heap.size, 0, none⟩ = false := by simp [go_sem]
  have HB : Hid (Below w.heap.size w (w.alloc (.cells #[.int .i64 0] 28))) := Lib.hid ((Below.refl _ _).alloc (Nat.le_refl _) _)
  have hsz : w.heap.size < (w.alloc (.cells #[.int .i64 0] 28)).heap.size := by simp
  generalize w.alloc (.cells #[.int .i64 0] 28) = w1 at *
  generalize hBe : w.heap.size = B at *
  have HE := Lib.hid hBe
  clear hBe
  go_wp2_with fail
  go_loop [6, 16] (fun v i => ∃ k : Nat, k ≤ n ∧ i = .int .i64 k ∧ v = .int .u64 ((num false (L.take k) : Nat) : Int)) (fun _ i => n - (intOf i).toNat)
  case atStart => exact ⟨0, by omega, rfl, rfl⟩
  case round =>
    obtain ⟨j, hj, rfl, rfl⟩ := hrel
    by_cases hlt : j < n
    · obtain ⟨hL, _, _, _, ha⟩ := HC.out
      have hjl : j < L.length := by omega
      have hcell : w1.cell? ⟨b, off + k + j, none⟩ = some (.int .u8 (L[j].toNat : Int)) := by
        rcases ha with h0 | ⟨b', off', he, _, hcc⟩
        · omega
        · cases he
          exact hcc j hjl
      have hv := num_lt false (L.take j)
      rw [List.length_take, Nat.min_eq_left (by omega)] at hv
      have HN := Lib.hid (num_little L j hjl)
      have e := or_shl (num false (L.take j)) L[j].toNat j hv L[j].toNat_lt (by omega)
      clear ha hL hv
      go_wp2
      go_round
      case rel => exact ⟨j + 1, by omega, by go_num, by rw [HN.out, Int.natCast_add, Int.natCast_mul, Int.natCast_pow]; rfl⟩
      case measure => simp [intOf]; omega
    · obtain rfl : j = n := by omega
      rw [List.take_of_length_le (by rw [H.out.len_eq]; omega)]
      have hc1 : (w1.setCell ⟨B, 0, none⟩ (.int .i64 0)).cell? ⟨B, 0, none⟩ = some (.int .i64 0) := World.cell?_setCell_same _ _ _ hcode
      go_wp2
      refine leaves_cons (f := 46) (args := #[.pointer (some ⟨B, 0, none⟩)]) (by simp) (by simp [go_sem]) ?_
      refine (little_idle B _ hc1 ?_).mono ?_
      · simp [hfroz]
      rintro e u' w'' ⟨rfl, rfl, rfl⟩
      simp [Leaves, settle, results, Try.results41, go_sem, hcode]
      rw [HE.out]
      exact (HB.out.setCell (p := ⟨B, 0, none⟩) (Nat.le_refl _) _).setCell (p := ⟨B, 0, none⟩) (Nat.le_refl _) _
theorem or_shl8 (v c : Nat) (hv : v < 72057594037927936) (hc : c < 256) : bits .or .u64 ((v : Int) * 256) (c : Int) = ((v * 256 + c : Nat) : Int) := by
  rw [show (v : Int) * 256 = ((v * 256 : Nat) : Int) from by omega, u64_or_nat _ _ (by omega) (by omega)]
  congr 1
  have := Nat.shiftLeft_add_eq_or_of_lt (i := 8) (a := v) (b := c) (by omega)
  rw [Nat.shiftLeft_eq] at this
  exact this.symm

end Go.Proofs.Ytilfmmjjiiabgaa.NumC
