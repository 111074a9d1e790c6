import Derived.Test.YtfnjokoeaboliaaBitX
import Derived.Test.YtfnjokoeaboliaaBitR
namespace Go.Proofs.Ytfnjokoeaboliaa.BitC
open Go.RowKit Go.My BitMath

theorem Wr.apart {g : Nat} {w w' : World} {gw : Nat} {r : Option Nat} {bs : List Bool} {Bw : Nat} (hw : Wr Bw w gw r bs) (hk : Only (fun k => g = k) w w') (hg : g ≠ gw) (hr : r ≠ some g) : Wr Bw w' gw r bs :=
  hw.only hk hg (fun k hk e => hr (by rw [hk, ← e]))

theorem told_bits : pack ([] ++ lows 3 5 ++ (lows 3 6).reverse) = [29] := by decide +kernel

set_option maxRecDepth 100000 in
set_option maxHeartbeats 4000000 in
theorem told_any (w : World) : Calls Try.prog 8 #[] w fun e w' => e = .returned (.bool true) ∧ Below w.heap.size w w' := by
  go_enter Try.func8, Try.ntmps8
  go_wp2_with fail
  refine (new_writer w).mono ?_
  rintro e w1 ⟨rfl, hw1⟩
  have HW1 : Hid (Wr w.heap.size w1 w.heap.size none []) := Lib.hid (by rw [← hw1]; exact wr_new w)
  have HO1 : Hid (Below w.heap.size w w1) := Lib.hid (by rw [← hw1]; exact (Below.refl _ w).alloc (Nat.le_refl _) _)
  clear hw1
  go_wp2_with fail
  refine (put_any 5 3 w.heap.size w.heap.size none [] w1 (by omega) (by omega) (by omega) HW1.out (by simp)).mono ?_
  rintro e w2 ⟨r2, rfl, hw2, ho2, hn2⟩
  have HW2 := Lib.hid hw2
  have HO2 : Hid (Below w.heap.size w w2) := Lib.hid (HO1.out.trans (ho2.below HO1.out.size HW1.out.fp))
  clear hw2 ho2 hn2 HW1 HO1
  go_wp2_with fail
  refine (code_any 6 3 w.heap.size w.heap.size r2 _ w2 (by omega) (by omega) (by omega) HW2.out (by decide)).mono ?_
  rintro e w3 ⟨r3, rfl, hw3, ho3, hn3⟩
  have HW3 := Lib.hid hw3
  have HO3 : Hid (Below w.heap.size w w3) := Lib.hid (HO2.out.trans (ho3.below HO2.out.size HW2.out.fp))
  clear hw3 ho3 hn3 HW2 HO2
  go_wp2_with fail
  have hb : Bytes (w3.alloc (.cells #[.int .u8 29] 5)) (some ⟨w3.heap.size, 0, none⟩) 1 1 [29] := one_bytes 5 w3 29
  refine (new_reader _ 1 1 [29] _ hb (by omega)).mono ?_
  clear hb
  rintro e w4 ⟨g, rfl, hr4, hb4⟩
  have HR4 := Lib.hid hr4
  have hs4 := hr4.base
  simp at hs4
  have HW4 : Hid (Wr w.heap.size w4 w.heap.size r3 ([] ++ lows 3 5 ++ (lows 3 6).reverse)) := Lib.hid ((HW3.out.below ((Below.refl _ _).alloc (Nat.le_refl _) _)).below hb4)
  have HO4 : Hid (Below w.heap.size w w4) := Lib.hid ((HO3.out.alloc HO3.out.size _).trans (hb4.mono (by have := HO3.out.size; simp; omega)))
  have HG : Hid (g ≠ w.heap.size ∧ r3 ≠ some g) := Lib.hid ⟨by have := HO3.out.size; have := HW3.out.lt; omega, fun h => by have := (HW3.out.rlt g h).2; omega⟩
  have HGB : Hid (w.heap.size ≤ g) := Lib.hid (by have := HO3.out.size; omega)
  clear hr4 hb4 hs4 HW3 HO3
  go_wp2_with fail
  refine (get_any _ g 0 [29] w4 HR4.out (by decide) 3 (by omega) (by decide)).mono ?_
  rw [show num (got [29] 0 3) = 5 from by decide +kernel]
  rintro e w5 ⟨rfl, hr5, ho5⟩
  have HR5 := Lib.hid hr5
  have HW5 := Lib.hid (Wr.apart HW4.out ho5 HG.out.1 HG.out.2)
  have HO5 : Hid (Below w.heap.size w w5) := Lib.hid (HO4.out.trans (ho5.below HO4.out.size (fun k hk => by have := HGB.out; omega)))
  clear hr5 ho5 HW4 HO4 HR4
  go_wp2_with fail
  refine (get_short _ g 3 [29] w5 HR5.out (by decide) 6 (by omega) (by decide)).mono ?_
  rintro e w6 ⟨rfl, hr6, ho6⟩
  have HR6 := Lib.hid hr6
  have HW6 := Lib.hid (Wr.apart HW5.out ho6 HG.out.1 HG.out.2)
  have HO6 : Hid (Below w.heap.size w w6) := Lib.hid (HO5.out.trans (ho6.below HO5.out.size (fun k hk => by have := HGB.out; omega)))
  clear hr6 ho6 HW5 HO5 HR5
  go_wp2_with fail
  refine (bytes_any _ _ r3 _ w6 HW6.out (by decide)).mono ?_
  rw [told_bits]
  rintro e w7 ⟨v, rfl, hv, hb7⟩
  obtain ⟨a7, c7, rfl, hby⟩ := hv.bytes
  have hby1 : Bytes w7 a7 1 c7 [29] := hby
  have k1 := run_string_bytes (P := Try.prog) w7 26 9 5 Try.underlying26 Try.underlying5 Try.underlying9 hby1
  clear hby1
  have HW7 := Lib.hid (HW6.out.below hb7)
  have HR7 := Lib.hid (HR6.out.below hb7)
  have HO7 := Lib.hid (HO6.out.trans (hb7.mono HO6.out.size))
  clear hv hb7 hby HW6 HR6 HO6
  go_wp2_with fail
  refine (len_any _ _ r3 _ w7 HW7.out (by decide)).mono ?_
  rintro e w8 ⟨rfl, n8, rfl⟩
  go_wp2_with fail
  refine (at_any _ g 3 [29] _ (HR7.out.drewN n8)).mono ?_
  rintro e w9 ⟨rfl, rfl⟩
  go_wp2_with fail
  go_ret
  exact ⟨rfl, HO7.out.trans ⟨rfl, rfl, rfl, Nat.le_refl _, fun _ _ => rfl⟩⟩
end Go.Proofs.Ytfnjokoeaboliaa.BitC
