import Derived.Test.YtilfmmjjiiabgaaRows
import Derived.Test.YtilfmmjjiiabgaaLib
import Derived.Test.YtilfmmjjiiabgaaNumMath
import Derived.WalkLawsBesides
import Derived.Defers
import Derived.Recover
import Derived.Laws.Pointers
namespace Go.Proofs.Ytilfmmjjiiabgaa.NumC
open Go.RowKit Go.My NumMath

theorem ret_len {a : Option Addr} {n m c : Nat} (h : n = m) : Ending.returned (.slice a n c) = .returned (.slice a m c) := by rw [h]
theorem ret_num {a b c d : Int} (h1 : a = c) (h2 : b = d) : Ending.returned (.tuple #[.int .u64 a, .int .i64 b]) = .returned (.tuple #[.int .u64 c, .int .i64 d]) := by rw [h1, h2]

theorem fits_yes (n : Int) (w : World) (h1 : 1 ≤ n) (h2 : n ≤ 8) : Calls Try.prog 37 #[.int .i64 n] w fun e w' => e = .returned (.bool true) ∧ w = w' := by
  go_enter Try.func37, Try.ntmps37
  go_wp2
  go_ret
  exact ⟨by simp, rfl⟩
/-- What a fault is, thrown. -/
def fault (c at_ : Int) : Value := .iface 64 (.agg #[.int .i64 c, .int .i64 at_])

set_option maxRecDepth 100000 in
theorem part_neg (a : Option Addr) (len cap : Nat) (at_ n : Int) (w : World) (h1 : 1 ≤ n) (h2 : n ≤ 8) (h : at_ < 0) :
    Calls Try.prog 48 #[.slice a len cap, .int .i64 at_, .int .i64 n] w fun e w' => e = .panicked [{ v := fault 5 at_, recovered := false }] ∧ w = w' := by
  go_enter Try.func48, Try.ntmps48
  go_wp2_with fail
  refine (fits_yes n w h1 h2).mono ?_
  rintro e w' ⟨rfl, rfl⟩
  go_wp2_with fail
  exact ⟨rfl, rfl, rfl⟩
set_option maxRecDepth 100000 in
theorem part_far (a : Option Addr) (len cap : Nat) (at_ n : Int) (w : World) (hl : len ≤ 9223372036854775807) (h1 : 1 ≤ n) (h2 : n ≤ 8) (h0 : 0 ≤ at_) (h : (len : Int) - n < at_) :
    Calls Try.prog 48 #[.slice a len cap, .int .i64 at_, .int .i64 n] w fun e w' => e = .panicked [{ v := fault 5 at_, recovered := false }] ∧ w = w' := by
  have hn : decide (at_ < 0) = false := by simpa using h0
  have hy : decide (at_ > (len : Int) - n) = true := by simpa using h
  go_enter Try.func48, Try.ntmps48
  go_wp2_with fail
  refine (fits_yes n w h1 h2).mono ?_
  rintro e w' ⟨rfl, rfl⟩
  go_wp2_with fail
  exact ⟨rfl, rfl, rfl⟩
theorem part_short (a : Option Addr) (len cap : Nat) (at_ n : Int) (w : World) (hl : len ≤ 9223372036854775807) (h1 : 1 ≤ n) (h2 : n ≤ 8) (h : at_ < 0 ∨ (len : Int) - n < at_) :
    Calls Try.prog 48 #[.slice a len cap, .int .i64 at_, .int .i64 n] w fun e w' => e = .panicked [{ v := fault 5 at_, recovered := false }] ∧ w = w' := by
  by_cases h0 : at_ < 0
  · exact part_neg a len cap at_ n w h1 h2 h0
  · exact part_far a len cap at_ n w hl h1 h2 (by omega) (by omega)
set_option maxRecDepth 100000 in
theorem part_ok (b off len cap k n : Nat) (w : World) (hl : len ≤ cap) (hc : cap ≤ 9223372036854775807) (h1 : 1 ≤ n) (h2 : n ≤ 8) (h : k + n ≤ len) :
    Calls Try.prog 48 #[.slice (some ⟨b, off, none⟩) len cap, .int .i64 (k : Int), .int .i64 (n : Int)] w fun e w' => e = .returned (.slice (some ⟨b, off + k, none⟩) n (cap - k)) ∧ w = w' := by
  have hn : decide ((k : Int) < 0) = false := by simp
  have hy : decide ((k : Int) > (len : Int) - (n : Int)) = false := by simp; omega
  go_enter Try.func48, Try.ntmps48
  go_wp2_with fail
  refine (fits_yes n w (by omega) (by omega)).mono ?_
  rintro e w' ⟨rfl, rfl⟩
  go_wp2_with fail
  go_ret
  exact ⟨ret_len (by omega), rfl⟩

theorem caught_nil (w : World) : Calls Try.prog 47 #[.nilIface] w fun e w' => e = .returned (.int .i64 0) ∧ w = w' := by
  go_enter Try.func47, Try.ntmps47
  go_wp2
  go_ret
  exact ⟨rfl, rfl⟩
set_option maxRecDepth 100000 in
theorem caught_fault (c at_ : Int) (w : World) : Calls Try.prog 47 #[fault c at_] w fun e w' => e = .returned (.int .i64 c) ∧ Below w.heap.size w w' := by
  unfold fault
  have hta : ∀ w, (Instr.typeAssert (.iface 64 (.agg #[.int .i64 c, .int .i64 at_])) 20 64 true).run Try.prog w = .ok (.tuple #[.agg #[.int .i64 c, .int .i64 at_], .bool true]) w := fun _ => by kernel_rfl
  go_enter Try.func47, Try.ntmps47
  go_wp2
  go_ret
  exact ⟨rfl, (Below.refl _ _).alloc (Nat.le_refl _) _⟩

/-- The error's variable of a face that catches (a block of its own). -/
theorem little_idle (B : Nat) (w : World) (hc : w.cell? ⟨B, 0, none⟩ = some (.int .i64 0)) (hz : w.frozen? ⟨B, 0, none⟩ = false) :
    CallsD Try.prog 46 #[.pointer (some ⟨B, 0, none⟩)] .returning w fun e u' w' => e = .returned (.tuple #[]) ∧ u' = .returning ∧ w.setCell ⟨B, 0, none⟩ (.int .i64 0) = w' := by
  refine callsD_of_wpS Try.func46 rfl fun c₀ cs hu => ?_
  apply wpS_region
  simp [wpOpsS, go_sem, recoverD, hu, Try.ntmps46]
  refine (caught_nil w).mono ?_
  rintro e w' ⟨rfl, rfl⟩
  cases c₀
  simp_all [go_sem, bodyPostS, results, Try.results46]
theorem little_caught (B : Nat) (c at_ : Int) (older : List PanicEntry) (w : World) (hB : B < w.heap.size) (hc : w.cell? ⟨B, 0, none⟩ = some (.int .i64 0)) (hz : w.frozen? ⟨B, 0, none⟩ = false) :
    CallsD Try.prog 46 #[.pointer (some ⟨B, 0, none⟩)] (.panicking ({ v := fault c at_, recovered := false } :: older)) w fun e u' w' =>
      e = .returned (.tuple #[]) ∧ u' = .panicking ({ v := fault c at_, recovered := true } :: older) ∧ w'.cell? ⟨B, 0, none⟩ = some (.int .i64 c) ∧ Below B w w' := by
  refine callsD_of_wpS Try.func46 rfl fun c₀ cs hu => ?_
  apply wpS_region
  simp [wpOpsS, go_sem, recoverD, hu, Try.ntmps46]
  refine (caught_fault c at_ w).mono ?_
  rintro e w1 ⟨rfl, hb⟩
  have h1 := hb.cell (p := ⟨B, 0, none⟩) hB
  have h2 := hb.frozen (p := ⟨B, 0, none⟩) hB
  rw [hc] at h1
  rw [hz] at h2
  cases c₀
  simp [go_sem, bodyPostS, results, Try.results46, h1, h2]
  exact (hb.mono (Nat.le_of_lt hB)).setCell (p := ⟨B, 0, none⟩) (Nat.le_refl _) _
end Go.Proofs.Ytilfmmjjiiabgaa.NumC
