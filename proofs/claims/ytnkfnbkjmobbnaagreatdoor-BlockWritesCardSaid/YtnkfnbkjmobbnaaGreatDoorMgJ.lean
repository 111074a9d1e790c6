import Derived.Test.YtnkfnbkjmobbnaaGreatDoorMgZ
import Derived.Test.YtnkfnbkjmobbnaaGreatDoorMgD
import Derived.Test.YtnkfnbkjmobbnaaGreatDoorMgW

section
/-
  law 14's from, at a byte's beginning.
-/
namespace Go.Proofs.YtnkfnbkjmobbnaaGreatDoor.BlkC
open Go.RowKit Go.My BitMath RefC
open InfMath (Rd)

/-- What from hands back. -/
def FromR (w : World) (B : List UInt8) (e : Ending) (w' : World) : Prop :=
  ∃ ov : Value, e = .returned (.tuple #[ov, .int .i64 0]) ∧ Own 5 w.heap.size w' ov B ∧ Below w.heap.size w w'
set_option maxRecDepth 100000 in
set_option maxHeartbeats 4000000 in
theorem from_zero (wide : Bool) (P : List UInt8) (X z : List Bool) (B : List UInt8) (w : World) (hl : P.length ≤ 100000) (hX : bitsOf P = X ++ z) (hr : Rd wide 0 X B true) (hB : B.length ≤ 1048576) :
    Calls Tryz.prog 18 #[.string (txt (bitsOf P)), .int .i64 0, .bool wide] w (FromR w B) := by
  have HR := Lib.hid hr
  have HX := Lib.hid hX
  have HP := Lib.hid (refbytes_any (bitsOf P) w (by rw [bitsOf_len]; omega))
  rw [pack_bitsOf, bitsOf_len, show (8 * P.length + 7) / 8 = P.length from by omega] at HP
  generalize txt (bitsOf P) = s at *
  clear hr hX
  go_enter Tryz.func18, Tryz.ntmps18
  go_wp2_with fail
  go_loopw [8] (fun fv wr => fv = .string ⟨#[]⟩ ∧ wr = w) (fun _ _ => 0)
  case atStart => exact ⟨rfl, rfl⟩
  case round =>
    obtain ⟨rfl, rfl⟩ := hrel
    go_wp2_with fail
    refine HP.out.mono ?_
    rintro e w1 ⟨rfl, ho, hb⟩
    clear HP
    obtain ⟨a1, c1, hv, hby⟩ := ho.out.bytes
    simp only [Value.slice.injEq, true_and] at hv
    obtain ⟨rfl, rfl⟩ := hv
    have HA := Lib.hid (RfC.all_shown wide 1048576 w1 hby (by omega) (by omega) HX.out HR.out hB)
    have HB := Lib.hid hb
    clear ho hb hby
    go_wp2_with fail
    refine HA.out.mono ?_
    rintro e w2 ⟨ov, n, rfl, ho, hb⟩
    have HB2 := Lib.hid (HB.out.trans (hb.mono HB.out.size))
    have HO2 := Lib.hid (LzC.own_from ho HB.out.size)
    clear HA ho hb
    go_wp2_with fail
    go_ret2
    exact ⟨ov, rfl, HO2.out, HB2.out⟩
end Go.Proofs.YtnkfnbkjmobbnaaGreatDoor.BlkC
end
