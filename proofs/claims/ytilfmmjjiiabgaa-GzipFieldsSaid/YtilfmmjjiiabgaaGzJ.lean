/-
  The document's Wrap; the law's same and told.
-/
import Derived.Test.YtilfmmjjiiabgaaGzI
import Derived.Test.YtilfmmjjiiabgaaGzD
import Derived.Test.YtilfmmjjiiabgaaGzE
namespace Go.Proofs.Ytilfmmjjiiabgaa.GzC
open Go.RowKit Go.My GzMath Flt
open Go.My.NumMath (bytesOf)

set_option maxRecDepth 100000 in
set_option maxHeartbeats 2000000 in
theorem rwrap_ok (named : Bool) (name : List UInt8) (t : Nat) (a : Option Addr) (n c : Nat) (packed : List UInt8) (sum size : Nat) (w : World) (hb : badH named name = false) (hp : Bytes w a n c packed) (hn : n ≤ 1000000000) (h1 : sum < 4294967296) (h2 : size < 9223372036854775808) :
    Calls Try.prog 12 #[.agg #[.bool named, .string ⟨name.toArray⟩, .float .f64 t], .slice a n c, .int .u32 (sum : Int), .int .i64 (size : Int)] w fun e w' => e = .returned (.tuple #[.string ⟨(wrapB named name t packed sum size).toArray⟩, .int .i64 0]) ∧ Below w.heap.size w w' := by
  have HP := Lib.hid (And.intro hp hn)
  have hnl := badH_len hb
  have hge : ¬ (size : Int) < 0 := by omega
  have HPut := Lib.hid (fun w => rput_any named name t w (by omega))
  rw [hb] at HPut
  simp only [Bool.false_eq_true, if_false] at HPut
  have hql := putH_len named name (uT t)
  obtain ⟨S0, hS0⟩ : ∃ S0 : ByteArray, S0 = ⟨(putH named name (uT t)).toArray⟩ := ⟨_, rfl⟩
  obtain ⟨SP, hSP⟩ : ∃ SP : ByteArray, SP = ⟨packed.toArray⟩ := ⟨_, rfl⟩
  obtain ⟨T1, hT1⟩ : ∃ T1 : ByteArray, T1 = ⟨(bytesOf false 4 sum).toArray⟩ := ⟨_, rfl⟩
  obtain ⟨T2, hT2⟩ : ∃ T2 : ByteArray, T2 = ⟨(bytesOf false 4 size).toArray⟩ := ⟨_, rfl⟩
  have z0 : S0.size ≤ 65546 := by rw [hS0]; simp [ByteArray.size]; omega
  have zp : SP.size = n := by rw [hSP]; simp [ByteArray.size, hp.len_eq]
  have z1 : T1.size = 4 := by rw [hT1]; simp [ByteArray.size, Go.My.NumMath.bytesOf_len]
  have z2 : T2.size = 4 := by rw [hT2]; simp [ByteArray.size, Go.My.NumMath.bytesOf_len]
  have HQ : Hid (((S0 ++ SP) ++ T1) ++ T2 = ⟨(wrapB named name t packed sum size).toArray⟩) := Lib.hid (by
    subst hS0 hSP hT1 hT2
    apply ByteArray.ext
    unfold wrapB
    simp)
  have HB1 := Lib.hid (fun w => NumC.bytes_any sum 4 false w (by omega) (by omega))
  have HB2 := Lib.hid (fun w => NumC.bytes_any size 4 false w (by omega) (by omega))
  rw [← hS0] at HPut
  rw [← hT1] at HB1
  rw [← hT2] at HB2
  have HSP := Lib.hid hSP
  have u1 : IntKind.u64.wrap (sum : Int) = (sum : Int) := IntWalk.u64_in _ (by omega)
  have u2 : IntKind.u64.wrap (size : Int) = (size : Int) := IntWalk.u64_in _ (by omega)
  rw [← HQ.out]
  clear HQ hp hS0 hSP hT1 hT2 hql hb
  go_enter Try.func12, Try.ntmps12
  go_wp2_with fail
  refine (HPut.out _).mono ?_
  rintro e w1 ⟨rfl, hb1⟩
  have HBW : Hid (Below w.heap.size w w1) := Lib.hid (((Below.refl w.heap.size w).alloc (Nat.le_refl _) _).trans (hb1.mono (by simp)))
  have hcv : ∀ p : Later w1, (convert 22 9 (.slice a n c)).run Try.prog p.at' = .ok (.string SP) p.at' := fun p => by
    rw [HSP.out]
    exact run_string_bytes _ 22 9 5 Try.underlying22 Try.underlying5 Try.underlying9 ((HP.out.1.below (Nat.le_refl _) HBW.out).below (Nat.le_refl _) p.kept)
  have q1 : ¬ 9223372036854775807 < S0.size + n := by omega
  have q2 : ¬ 9223372036854775807 < S0.size + n + 4 := by omega
  have q3 : ¬ 9223372036854775807 < S0.size + n + 4 + 4 := by omega
  clear hb1
  go_wp2_with (refine wp_region_later (by kernel_rfl) (by kernel_rfl) ?_)
  repeat (go_big_quiet_step (first | (go_at_call 13; first | (with_reducible exact later_of (HB1.out _)) | (with_reducible exact later_of (HB2.out _)))))
  refine wpQuiet_nil ?_
  rintro _ ⟨p, rfl⟩
  have HK := Lib.hid (HBW.out.trans (p.kept.mono HBW.out.size))
  clear hcv
  go_wp2_with fail
  go_ret2
  exact ⟨rfl, HK.out⟩
theorem rwrap_bad (named : Bool) (name : List UInt8) (t : Nat) (v : Value) (sum size : Int) (w : World) (hb : badH named name = true) (hl : name.length ≤ 1099511627776) :
    Calls Try.prog 12 #[.agg #[.bool named, .string ⟨name.toArray⟩, .float .f64 t], v, .int .u32 sum, .int .i64 size] w fun e w' => e = .returned (.tuple #[.string ⟨#[]⟩, .int .i64 1]) ∧ Below w.heap.size w w' := by
  have HPut := Lib.hid (fun w => rput_any named name t w hl)
  simp only [hb, if_true] at HPut
  go_enter Try.func12, Try.ntmps12
  go_wp2_with fail
  refine (HPut.out _).mono ?_
  rintro e w1 ⟨rfl, hb1⟩
  have HB : Hid (Below w.heap.size w w1) := Lib.hid (((Below.refl w.heap.size w).alloc (Nat.le_refl _) _).trans (hb1.mono (by simp)))
  clear hb1
  go_wp2_with fail
  go_ret2
  exact ⟨rfl, HB.out⟩
theorem rwrap_neg (named : Bool) (name : List UInt8) (t : Nat) (v : Value) (sum size : Int) (w : World) (hb : badH named name = false) (hl : name.length ≤ 1099511627776) (hs : size < 0) :
    Calls Try.prog 12 #[.agg #[.bool named, .string ⟨name.toArray⟩, .float .f64 t], v, .int .u32 sum, .int .i64 size] w fun e w' => e = .returned (.tuple #[.string ⟨#[]⟩, .int .i64 7]) ∧ Below w.heap.size w w' := by
  have HPut := Lib.hid (fun w => rput_any named name t w hl)
  rw [hb] at HPut
  simp only [Bool.false_eq_true, if_false] at HPut
  generalize (⟨(putH named name (uT t)).toArray⟩ : ByteArray) = S0 at *
  go_enter Try.func12, Try.ntmps12
  go_wp2_with fail
  refine (HPut.out _).mono ?_
  rintro e w1 ⟨rfl, hb1⟩
  have HB : Hid (Below w.heap.size w w1) := Lib.hid (((Below.refl w.heap.size w).alloc (Nat.le_refl _) _).trans (hb1.mono (by simp)))
  clear hb1
  go_wp2_with fail
  go_ret2
  exact ⟨rfl, HB.out⟩
/-- Two headers that are the same. -/
theorem same_yes (named : Bool) (name : ByteArray) (x r : Nat) (w : World) (h : ClkC.Like x r) (hx : ClkC.sameF x r = true) :
    Calls Try.prog 8 #[.agg #[.bool named, .string name, .float .f64 x], .agg #[.bool named, .string name, .float .f64 r]] w fun e w' => e = .returned (.bool true) ∧ Below w.heap.size w w' := by
  have HS := Lib.hid (fun w => ClkC.refsame_any x r w)
  rw [hx] at HS
  have e0 : (named == named) = true := by cases named <;> rfl
  have e1 : (name.toList == name.toList) = true := by simp
  clear h hx
  go_enter Try.func8, Try.ntmps8
  go_wp2_with fail
  refine (HS.out _).mono ?_
  rintro e w1 ⟨rfl, rfl⟩
  go_wp2_with fail
  go_ret
  exact ⟨rfl, ((Below.refl w.heap.size w).alloc (Nat.le_refl _) _).alloc (by simp) _⟩
end Go.Proofs.Ytilfmmjjiiabgaa.GzC
