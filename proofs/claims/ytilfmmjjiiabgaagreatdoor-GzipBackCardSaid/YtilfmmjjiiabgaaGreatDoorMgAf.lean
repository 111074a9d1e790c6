import Derived.Test.YtilfmmjjiiabgaaGreatDoorMgAe
import Derived.Lib.SlBytesConst

section
namespace Go.Proofs.YtilfmmjjiiabgaaGreatDoor.CrcC
open Go.RowKit Go.My CrcMath

set_option maxRecDepth 100000 in
set_option maxHeartbeats 400000 in
theorem update_bv (c : BitVec 32) (a : Option Addr) (len cap : Nat) (l : List UInt8) (w : World) (hb : Bytes w a len cap l) :
    Calls Tryz.prog 46 #[.int .u32 (c.toNat : Int), .slice a len cap] w fun e w' => e = .returned (.int .u32 ((crc c l).toNat : Int)) ∧ Below w.heap.size w w' := by
  have H := Lib.hid hb
  clear hb
  have E : Hid (crc c l = reg (c ^^^ ones) l ^^^ ones) := Lib.hid rfl
  by_cases h : len < 200
  · go_enter Tryz.func46, Tryz.ntmps46
    go_wp2_with fail
    rw [bv_not]
    refine (bitByBit_bv (c ^^^ ones) a len cap l w H.out).mono ?_
    rintro e w' ⟨rfl, rfl⟩
    go_wp2_with fail
    go_ret
    exact ⟨ret_int (by rw [bv_not, E.out]), Below.refl _ _⟩
  · go_enter Tryz.func46, Tryz.ntmps46
    go_wp2_with fail
    rw [bv_not]
    refine (eight_bv (c ^^^ ones) a len cap l w H.out).mono ?_
    rintro e w' ⟨rfl, hw⟩
    go_wp2_with fail
    go_ret
    exact ⟨ret_int (by rw [bv_not, E.out]), hw⟩

set_option maxHeartbeats 400000 in
theorem sum_bv (a : Option Addr) (len cap : Nat) (l : List UInt8) (w : World) (hb : Bytes w a len cap l) :
    Calls Tryz.prog 33 #[.slice a len cap] w fun e w' => e = .returned (.int .u32 ((crc 0#32 l).toNat : Int)) ∧ Below w.heap.size w w' := by
  have H := Lib.hid hb
  clear hb
  go_enter Tryz.func33, Tryz.ntmps33
  go_wp2_with fail
  refine (update_bv 0#32 a len cap l w H.out).mono ?_
  rintro e w' ⟨rfl, hw⟩
  go_wp2_with fail
  go_ret
  exact ⟨rfl, hw⟩

end Go.Proofs.YtilfmmjjiiabgaaGreatDoor.CrcC
end
