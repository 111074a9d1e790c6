/-
  law 14's told.
-/
import Derived.Test.YtaeoedapaiapdaaBkB
import Derived.Test.YtaeoedapaiapdaaBkE
import Derived.Test.YtaeoedapaiapdaaBkS
import Derived.Lib.SlBytesConst
namespace Go.Proofs.Ytaeoedapaiapdaa.BlkC
open Go.RowKit Go.My BitMath BitC
open LzMath (Tok)
open InfMath (stbs)

theorem conv_own {w : World} {a : Option Addr} {n c : Nat} {l : List UInt8} (h : Bytes w a n c l) : (convert 33 9 (.slice a n c)).run Try.prog w = .ok (.string ⟨l.toArray⟩) w :=
  run_string_bytes w 33 9 5 Try.underlying33 Try.underlying5 Try.underlying9 h
theorem told_sym : symV 11 false = .tuple #[.int .i64 265, .int .i64 1, .int .i64 0] := by
  unfold symV LzMath.ml
  rw [if_pos (by decide)]
  rfl
theorem told_reach : reachV 6 false = .tuple #[.int .i64 4, .int .i64 1, .int .i64 1] := by
  unfold reachV LzMath.md
  rw [if_pos (by decide)]
  rfl
theorem told_store : pack ([] ++ stbs ([] : List Bool).length [97] true) = [1, 1, 0, 254, 255, 97] := by
  rw [InfMath.stbs_one _ _ _ (by decide)]
  decide +kernel
set_option maxRecDepth 100000 in
set_option maxHeartbeats 8000000 in
theorem told_any (w : World) : Calls Try.prog 6 #[] w fun e w' => e = .returned (.bool true) ∧ Below w.heap.size w w' := by
  have kc := fun (w : World) (C : Array Value) (n c : Nat) => Lib.run_convert_bytes_const (P := Try.prog) w 33 5 C n c Try.underlying33 Try.underlying5
  have HS := Lib.hid (symbol_any 11 false w)
  rw [told_sym] at HS
  go_enter Try.func6, Try.ntmps6
  go_wp2_with fail
  refine HS.out.mono ?_
  rintro e w1 ⟨rfl, hb1⟩
  have HB1 := Lib.hid hb1
  have HR := Lib.hid (reach_any 6 false w1)
  rw [told_reach] at HR
  clear hb1 HS
  go_wp2_with fail
  refine HR.out.mono ?_
  rintro e w2 ⟨rfl, hb2⟩
  have HB2 := Lib.hid (HB1.out.trans (hb2.mono HB1.out.size))
  clear hb2 HB1 HR
  go_wp2_with fail
  refine (new_writer w2).mono ?_
  rintro e w3 ⟨rfl, h3⟩
  have HW3 : Hid (Wr w2.heap.size w3 w2.heap.size none []) := Lib.hid (by rw [← h3]; exact wr_new w2)
  have HB3 : Hid (Below w.heap.size w w3) := Lib.hid (by rw [← h3]; exact HB2.out.alloc HB2.out.size _)
  clear h3
  obtain ⟨X, hX⟩ : ∃ X, X = w3.alloc (.cells #[.int .u8 97] 5 (1, 2)) := ⟨_, rfl⟩
  have hX1 : Below w3.heap.size w3 X := by rw [hX]; exact (Below.refl _ _).alloc (Nat.le_refl _) _
  have HWX : Hid (Wr w2.heap.size X w2.heap.size none []) := Lib.hid (HW3.out.below hX1)
  have HBX : Hid (Below w.heap.size w X) := Lib.hid (HB3.out.trans (hX1.mono HB3.out.size))
  have HBY : Hid (Bytes X (some ⟨w3.heap.size, 0, none⟩) 1 1 [97]) := Lib.hid ⟨rfl, Nat.le_refl _, by omega, (fun e => by cases e), .inr ⟨w3.heap.size, 0, rfl, by rw [hX, World.size_alloc]; omega, fun i hi => by
    obtain rfl : i = 0 := by simpa using hi
    rw [hX, World.cell?_alloc_mark]; rfl⟩⟩
  have HST := Lib.hid (store_any w2.heap.size w2.heap.size none [] [97] true (some ⟨w3.heap.size, 0, none⟩) 1 1 X (by omega) HWX.out (by simp) HBY.out (fun _ b off hab => by
    injection hab with hab
    injection hab with hab _
    subst hab
    rintro (hk | hk)
    · have := HW3.out.lt; omega
    · cases hk))
  clear hX1 HWX HW3 HBY
  go_wp2_with fail
  rw [← hX]
  clear hX kc
  refine HST.out.mono ?_
  rintro e w4 ⟨r4, rfl, hw4, ho4, -⟩
  have HW4 := Lib.hid hw4
  have HB4 : Hid (Below w.heap.size w w4) := Lib.hid (HBX.out.trans (ho4.below (by have := HBX.out.size; omega) (fun k hk => by
    have := HB2.out.size
    rcases hk with rfl | hk
    · exact this
    · cases hk)))
  have HF := Lib.hid (fixed_nil false w4)
  clear hw4 ho4 HST HBX HB3 HB2
  go_wp2_with fail
  refine HF.out.mono ?_
  rintro e w5 ⟨rfl, hb5⟩
  have HW5 := Lib.hid (HW4.out.below hb5)
  have HB5 := Lib.hid (HB4.out.trans (hb5.mono HB4.out.size))
  have HSD := Lib.hid (stored_any 0 w5 (by omega))
  clear hb5 HF HW4 HB4
  go_wp2_with fail
  refine HSD.out.mono ?_
  rintro e w6 ⟨rfl, rfl⟩
  have HBB := Lib.hid (bytes_any w2.heap.size w2.heap.size r4 _ w5 HW5.out (by rw [InfMath.stbs_one _ _ _ (by decide)]; simp [InfMath.stb_len, InfMath.gap]))
  rw [told_store] at HBB
  clear HSD HW5
  have hst : (stoZ 0 : Int) = 5 := by decide
  go_wp2_with fail
  refine HBB.out.mono ?_
  rintro e w7 ⟨v, rfl, hown, hb7⟩
  obtain ⟨a7, c7, rfl, hby⟩ := hown.bytes
  have hcv := conv_own (show Bytes w7 a7 6 c7 [1, 1, 0, 254, 255, 97] from hby)
  have HB7 := Lib.hid (HB5.out.trans (hb7.mono HB5.out.size))
  clear hown hby hb7 HBB
  go_wp2_with fail
  go_ret
  exact ⟨rfl, HB7.out⟩
end Go.Proofs.Ytaeoedapaiapdaa.BlkC
