/-
  gzip.Put of a header that may not be put; tail, Wrap; Go's own slices.Concat of rows of bytes.
-/
import Derived.Test.YtilfmmjjiiabgaaGzF
import Derived.Test.YtilfmmjjiiabgaaRow
import Derived.Lib.AppendZerosOnto
namespace Go.Proofs.Ytilfmmjjiiabgaa.GzC
open Go.RowKit Go.My GzMath
open Go.My.NumMath (bytesOf)
set_option maxRecDepth 100000 in
set_option maxHeartbeats 2000000 in
theorem put_bad (named : Bool) (name : List UInt8) (t : Nat) (w : World) (hb : badH named name = true) :
    Calls Try.prog 9 #[.agg #[.bool named, .string ⟨name.toArray⟩, .float .f64 t]] w fun e w' => e = .returned (.tuple #[.slice none 0 0, .int .i64 1]) ∧ Below w.heap.size w w' := by
  have HC := Lib.hid (fun w => contains_zero ⟨name.toArray⟩ w)
  have hsz : (⟨name.toArray⟩ : ByteArray).size = name.length := by simp [ByteArray.size]
  have hb1 : Below w.heap.size w (w.alloc (.cells #[.bool named, .string ⟨name.toArray⟩, .float .f64 t] 27)) := (Below.refl _ _).alloc (Nat.le_refl _) _
  have HB := Lib.hid hb1
  clear hb1
  by_cases hA : named = false ∧ name ≠ []
  · obtain ⟨rfl, hne⟩ := hA
    have hstr : (name == []) = false := by simpa using hne
    clear hb
    go_enter Try.func9, Try.ntmps9
    go_wp2_with fail
    go_ret2
    exact ⟨rfl, HB.out⟩
  have hnm : named = true := by
    cases named
    · exfalso
      have hn : name = [] := Classical.byContradiction fun h => hA ⟨rfl, h⟩
      subst hn
      simp [badH, hasZ, zer] at hb
    · rfl
  subst hnm
  by_cases hB : 65535 < name.length
  · have hgt : decide ((name.length : Int) > 65535) = true := by simp; omega
    clear hb hA hB
    go_enter Try.func9, Try.ntmps9
    go_wp2_with fail
    go_ret2
    exact ⟨rfl, HB.out⟩
  · have hz : hasZ (⟨name.toArray⟩ : ByteArray).data.toList = true := by
      unfold badH at hb
      rw [decide_eq_false hB] at hb
      simpa using hb
    have hgt : decide ((name.length : Int) > 65535) = false := by simp; omega
    rw [hz] at HC
    clear hb hA hB hz
    go_enter Try.func9, Try.ntmps9
    go_wp2_with fail
    refine (HC.out _).mono ?_
    rintro e w' ⟨rfl, rfl⟩
    go_wp2_with fail
    go_ret2
    exact ⟨rfl, HB.out⟩

set_option maxHeartbeats 1000000 in
theorem tail_any (sum size : Nat) (w : World) (h1 : sum < 4294967296) (h2 : size < 9223372036854775808) :
    Calls Try.prog 28 #[.int .u32 (sum : Int), .int .i64 (size : Int)] w fun e w' => OwnRet 5 w (bytesOf false 4 sum ++ bytesOf false 4 size) e w' := by
  have w1 : IntKind.u64.wrap (sum : Int) = (sum : Int) := IntWalk.u64_in _ (by omega)
  have w2 : IntKind.u64.wrap (size : Int) = (size : Int) := IntWalk.u64_in _ (by omega)
  go_enter Try.func28, Try.ntmps28
  go_wp2_with fail
  refine (NumC.putlittle_any none 0 0 [] sum 4 w (nil_bytes w) (by simp) (by omega) (by omega)).mono ?_
  rintro e w1 ⟨v1, rfl, ho, hb⟩
  obtain ⟨a1, c1, rfl, hby⟩ := ho.bytes
  have HBY := Lib.hid hby
  have HB := Lib.hid hb
  have hl : ([] ++ bytesOf false 4 sum).length = 4 := by simp [Go.My.NumMath.bytesOf_len]
  clear ho hby hb
  go_wp2_with fail
  refine (NumC.putlittle_any a1 _ c1 _ size 4 w1 HBY.out (by omega) (by omega) (by omega)).mono ?_
  rintro e w2 ⟨v2, rfl, ho2, hb2⟩
  have HO2 := Lib.hid ho2
  have HB2 := Lib.hid hb2
  clear ho2 hb2
  go_wp2_with fail
  go_ret
  exact ⟨_, rfl, by have := own_low HO2.out HB.out.size; simpa using this, HB.out.trans (HB2.out.mono HB.out.size)⟩
end Go.Proofs.Ytilfmmjjiiabgaa.GzC
