import Derived.Test.YtilgaacodacffaaD
import Derived.Lib.SlBytesConst
namespace Go.Proofs.Ytilgaacodacffaa
open Go.RowKit Go.My CrcMath

set_option maxRecDepth 100000 in
set_option maxHeartbeats 400000 in
theorem update_bv (c : BitVec 32) (a : Option Addr) (len cap : Nat) (l : List UInt8) (w : World) (hb : Bytes w a len cap l) :
    Calls Try.prog 10 #[.int .u32 (c.toNat : Int), .slice a len cap] w fun e w' => e = .returned (.int .u32 ((crc c l).toNat : Int)) ∧ Below w.heap.size w w' := by
  have H := Lib.hid hb
  clear hb
  have E : Hid (crc c l = reg (c ^^^ ones) l ^^^ ones) := Lib.hid rfl
  by_cases h : len < 200
  · go_enter Try.func10, Try.ntmps10
    go_wp2_with fail
    rw [bv_not]
    refine (bitByBit_bv (c ^^^ ones) a len cap l w H.out).mono ?_
    rintro e w' ⟨rfl, rfl⟩
    go_wp2_with fail
    go_ret
    exact ⟨ret_int (by rw [bv_not, E.out]), Below.refl _ _⟩
  · go_enter Try.func10, Try.ntmps10
    go_wp2_with fail
    rw [bv_not]
    refine (eight_bv (c ^^^ ones) a len cap l w H.out).mono ?_
    rintro e w' ⟨rfl, hw⟩
    go_wp2_with fail
    go_ret
    exact ⟨ret_int (by rw [bv_not, E.out]), hw⟩

set_option maxHeartbeats 400000 in
theorem sum_bv (a : Option Addr) (len cap : Nat) (l : List UInt8) (w : World) (hb : Bytes w a len cap l) :
    Calls Try.prog 12 #[.slice a len cap] w fun e w' => e = .returned (.int .u32 ((crc 0#32 l).toNat : Int)) ∧ Below w.heap.size w w' := by
  have H := Lib.hid hb
  clear hb
  go_enter Try.func12, Try.ntmps12
  go_wp2_with fail
  refine (update_bv 0#32 a len cap l w H.out).mono ?_
  rintro e w' ⟨rfl, hw⟩
  go_wp2_with fail
  go_ret
  exact ⟨rfl, hw⟩

set_option maxHeartbeats 400000 in
theorem slices_bv (a : Option Addr) (len cap : Nat) (l : List UInt8) (w : World) (hb : Bytes w a len cap l) :
    Calls Try.prog 13 #[.slice a len cap] w fun e w' => e = .returned (.int .u32 ((crc 0#32 l).toNat : Int)) ∧ Below w.heap.size w w' := by
  have H := Lib.hid hb
  clear hb
  have E : Hid (crc 0#32 l = reg ones l ^^^ ones) := Lib.hid (by unfold crc; rw [BitVec.zero_xor])
  go_enter Try.func13, Try.ntmps13
  go_wp2_with fail
  refine (eight_bv ones a len cap l w H.out).mono ?_
  rintro e w' ⟨rfl, hw⟩
  go_wp2_with fail
  go_ret
  exact ⟨ret_int (by rw [bv_not, E.out]), hw⟩



def digits9 : List UInt8 := [49, 50, 51, 52, 53, 54, 55, 56, 57]
def nine : Obj := .cells #[.int .u8 49, .int .u8 50, .int .u8 51, .int .u8 52, .int .u8 53, .int .u8 54, .int .u8 55, .int .u8 56, .int .u8 57] 5 (9, 10)
theorem nine_bytes (w : World) : Bytes (w.alloc nine) (some ⟨w.heap.size, 0, none⟩) 9 9 digits9 := by
  refine ⟨rfl, by omega, by omega, (fun h => by cases h), .inr ⟨w.heap.size, 0, rfl, by simp, ?_⟩⟩
  intro i hi
  rw [cell_of_row _ _ _ _ _ _ (heap_alloc_new w nine)]
  match i, hi with
  | 0, _ | 1, _ | 2, _ | 3, _ | 4, _ | 5, _ | 6, _ | 7, _ | 8, _ => rfl
  | n + 9, h => simp [digits9] at h; omega

set_option maxHeartbeats 400000 in
theorem told_bv (w : World) : Calls Try.prog 9 #[] w fun e w' => e = .returned (.bool true) ∧ Below w.heap.size w w' := by
  have kc := fun (w : World) (C : Array Value) (n c : Nat) => Lib.run_convert_bytes_const (P := Try.prog) w 23 5 C n c Try.underlying23 Try.underlying5
  have h1 : (crc 0#32 digits9).toNat = 3421780262 := by decide +kernel
  have h2 : (crc 0#32 []).toNat = 0 := by decide +kernel
  have H1 := Lib.hid h1
  have H2 := Lib.hid h2
  clear h1 h2
  go_enter Try.func9, Try.ntmps9
  go_wp2_with fail
  refine (sum_bv _ 9 9 digits9 _ (nine_bytes w)).mono ?_
  rintro e w1 ⟨rfl, hw1⟩
  rw [H1.out]
  go_wp2_with fail
  refine (sum_bv none 0 0 [] w1 (nil_bytes w1)).mono ?_
  rintro e w2 ⟨rfl, hw2⟩
  rw [H2.out]
  go_wp2_with fail
  refine (slices_bv _ 9 9 digits9 _ (nine_bytes w2)).mono ?_
  rintro e w3 ⟨rfl, hw3⟩
  rw [H1.out]
  go_wp2_with fail
  go_ret
  refine ⟨rfl, ?_⟩
  have b1 := ((Below.refl w.heap.size w).alloc (Nat.le_refl _) nine).trans (hw1.mono (by simp))
  have b2 := b1.trans (hw2.mono b1.size)
  exact (b2.alloc b2.size nine).trans (hw3.mono (by have := b2.size; simp; omega))
end Go.Proofs.Ytilgaacodacffaa
