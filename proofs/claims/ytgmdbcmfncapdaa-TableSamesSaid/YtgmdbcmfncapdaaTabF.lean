/-
  A table is asked: Find, Size.
-/
import Derived.Test.YtgmdbcmfncapdaaTabE
namespace Go.Proofs.Ytgmdbcmfncapdaa.TabC
open Go.RowKit Go.My BitMath CanMath TabMath

theorem quiet_below (w : World) (n : Nat) : Below w.heap.size w (w.drewN n) := ⟨rfl, rfl, rfl, Nat.le_refl _, fun _ _ => rfl⟩
/-- So many bits are there. -/
def cl (n : Int) : Nat := (min (max n 0) 15).toNat
theorem cl_le (n : Int) : cl n ≤ 15 := by unfold cl; omega
theorem cl_eq (n : Int) : ∃ k : Nat, (if n < 0 then (0 : Int) else n) = (k : Int) ∧ (if 15 < (k : Int) then (15 : Int) else (k : Int)) = ((cl n : Nat) : Int) ∧ (if (k : Int) < 15 then (k : Int) else (15 : Int)) = ((cl n : Nat) : Int) := by
  unfold cl
  refine ⟨(max n 0).toNat, ?_, ?_, ?_⟩
  · split <;> omega
  · split <;> omega
  · split <;> omega
/-- What Find answers of an element. -/
def ansV (e : El) (m : Nat) : Value := if e.l = 0 then .tuple #[.int .i64 0, .int .i64 0, .int .i64 2] else if m < e.l then .tuple #[.int .i64 0, .int .i64 0, .int .i64 5] else .tuple #[.int .i64 ((e.v : Nat) : Int), .int .i64 ((e.l : Nat) : Int), .int .i64 0]

theorem find_nil (v n : Int) (w : World) :
    Calls Try.prog 9 #[.pointer none, .int .u32 v, .int .i64 n] w fun e w' => e = .returned (.tuple #[.int .i64 0, .int .i64 0, .int .i64 1]) ∧ w = w' := by
  go_enter Try.func9, Try.ntmps9
  go_wp2_with fail
  go_ret3
  exact ⟨rfl, rfl⟩
theorem size_nil (w : World) :
    Calls Try.prog 10 #[.pointer none] w fun e w' => e = .returned (.int .i64 0) ∧ w = w' := by
  go_enter Try.func10, Try.ntmps10
  go_wp2_with fail
  go_ret
  exact ⟨rfl, rfl⟩
theorem size_any (g ge f n : Nat) (T : Nat → El) (w : World) (h : TabAt w g ge f n T) :
    Calls Try.prog 10 #[.pointer (some ⟨g, 0, none⟩)] w fun e w' => e = .returned (.int .i64 (n : Int)) ∧ w = w' := by
  have ht1 : w.cell? ⟨g, 1, none⟩ = some (.slice (some ⟨ge, 0, none⟩) n n) := by rw [h.tab.cell]; rfl
  go_enter Try.func10, Try.ntmps10
  go_wp2_with fail
  go_ret
  exact ⟨rfl, rfl⟩

set_option maxRecDepth 100000 in
set_option maxHeartbeats 4000000 in
theorem find_any (g ge f N v : Nat) (n : Int) (T : Nat → El) (w : World) (h : TabAt w g ge f N T) (hf : f ≤ 15) (hv : v < 4294967296)
    (hu : ∀ u, u < 32768 → u % 2 ^ f < N ∧ (T (u % 2 ^ f)).m ≤ 14 ∧ (0 < (T (u % 2 ^ f)).m → (T (u % 2 ^ f)).v + u / 2 ^ f % 2 ^ (T (u % 2 ^ f)).m < N) ∧ (T (u % 2 ^ f)).v < 65536 ∧ (lookT T f u = El.z ∨ (0 < (lookT T f u).l ∧ (lookT T f u).l ≤ 15 ∧ (lookT T f u).v < 65536))) :
    Calls Try.prog 9 #[.pointer (some ⟨g, 0, none⟩), .int .u32 (v : Int), .int .i64 n] w fun e w' => e = .returned (ansV (lookT T f (v % 2 ^ cl n)) (cl n)) ∧ Below w.heap.size w w' := by
  have HT := Lib.hid h
  have hc15 := cl_le n
  obtain ⟨k, hk1, hk2, hk3⟩ := cl_eq n
  generalize cl n = m at *
  have hus : v % 2 ^ m < 32768 := by
    have := Nat.mod_lt v (Nat.two_pow_pos m)
    have h2 := pow_le15 hc15
    omega
  obtain ⟨q1, q2, q3, q4, q5⟩ := hu _ hus
  have hand := u32_low v m hv hc15
  have HL := Lib.hid (look_any g ge f N (v % 2 ^ m) T w h hf hus q1 q2 q3 q4)
  clear h hu q1 q2 q3 q4
  generalize v % 2 ^ m = u at *
  generalize lookT T f u = y at *
  obtain ⟨yv, yl, ym⟩ := y
  have hml : (m : Int) < 16 := by omega
  go_enter Try.func9, Try.ntmps9
  go_wp2_with fail
  refine HL.out.mono ?_
  clear HL
  rintro e w2 ⟨rfl, hb⟩
  have HB := Lib.hid hb
  clear hb hk1 hk2 hk3 hand
  dsimp only [ec]
  rcases q5 with h0 | ⟨h1, h2, h3⟩
  · obtain ⟨rfl, rfl, rfl⟩ : yv = 0 ∧ yl = 0 ∧ ym = 0 := by simpa [El.z] using h0
    go_wp2_with fail
    go_ret3
    exact ⟨rfl, HB.out.alloc HB.out.size _⟩
  · have g1 : ((yl : Int) == 0) = false := by simp; omega
    by_cases hlt : m < yl
    · have g2 : decide ((yl : Int) > (m : Int)) = true := by simp; omega
      go_wp2_with fail
      go_ret3
      exact ⟨by unfold ansV; rw [if_neg (by simp; omega), if_pos hlt]; rfl, HB.out.alloc HB.out.size _⟩
    · have g2 : decide ((yl : Int) > (m : Int)) = false := by simp; omega
      go_wp2_with fail
      have e1 : IntKind.i64.wrap (yv : Int) = (yv : Int) := by rw [IntWalk.i64_in _ (by omega)]
      have e2 : IntKind.i64.wrap (yl : Int) = (yl : Int) := by rw [IntWalk.i64_in _ (by omega)]
      go_quiet (fail)
      have HB3 := Lib.hid ((HB.out.alloc HB.out.size (.cells #[.int .u16 (yv : Int), .int .u8 (yl : Int), .int .u8 (ym : Int)] 54)).trans ((quiet_below _ nq).mono (Nat.le_trans HB.out.size (by simp))))
      go_wp2_with fail
      go_ret3
      exact ⟨by unfold ansV; rw [if_neg (by simp; omega), if_neg hlt]; rfl, HB3.out⟩
end Go.Proofs.Ytgmdbcmfncapdaa.TabC
