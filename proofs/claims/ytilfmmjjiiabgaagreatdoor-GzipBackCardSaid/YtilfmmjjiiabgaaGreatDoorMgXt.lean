import Derived.Test.YtilfmmjjiiabgaaGreatDoorMgLt
import Derived.Test.YtilfmmjjiiabgaaGreatDoorMgAm
import Derived.Test.YtilfmmjjiiabgaaGreatDoorMgBw
import Derived.Laws.CopyOwn

section
/-
  told of law 17.
-/
namespace Go.Proofs.YtilfmmjjiiabgaaGreatDoor.GzC
open Go.RowKit Go.My GzMath Flt
open Go.My.NumMath (bytesOf)

theorem row_lit (E : TypeId) (w : World) (l : List UInt8) (fr : Nat × Nat) (hl : l.length ≤ 1000) : Bytes (w.alloc (.cells (l.map fun c => Value.int .u8 (c.toNat : Int)).toArray E fr)) (some ⟨w.heap.size, 0, none⟩) l.length l.length l := by
  refine ⟨rfl, Nat.le_refl _, by omega, (fun h => by cases h), .inr ⟨w.heap.size, 0, rfl, by simp, ?_⟩⟩
  intro i hi
  have hh : (w.alloc (.cells (l.map fun c => Value.int .u8 (c.toNat : Int)).toArray E fr)).heap[w.heap.size]? = some (.cells (l.map fun c => Value.int .u8 (c.toNat : Int)).toArray E fr) := heap_alloc_new w _
  rw [World.cell?]
  simp only [hh]
  simp [hi]
theorem unix_nan {r : Nat} (h : isNaN r = true) : uT r = 0 := by
  unfold uT ClkC.unixT
  rw [h]; rfl
theorem five : (FloatKind.f64.format.order (ClkC.fromU 5) 4617315517961601024 == some .eq) = true := by decide +kernel
def lA : List UInt8 := [31, 139, 8, 8, 5, 0, 0, 0, 0, 255, 97, 98, 0, 122]
theorem rd_A : rd lA = .ok ⟨true, [97, 98], 5, 13⟩ := by decide +kernel
theorem rd_B : rd [31, 139] = .bad 5 := by decide +kernel
theorem like_same {x r : Nat} (h : ClkC.Like x r) : ClkC.sameF x r = true := by
  unfold ClkC.sameF
  rcases h with rfl | ⟨h1, h2⟩
  · cases isNaN r <;> simp
  · rw [h1, h2]; rfl
set_option maxRecDepth 100000 in
set_option maxHeartbeats 4000000 in
theorem told_any (w : World) : Calls Tryz.prog 6 #[] w fun e w' => e = .returned (.bool true) ∧ Below w.heap.size w w' := by
  go_enter Tryz.func6, Tryz.ntmps6
  go_wp2_with fail
  refine (ClkC.none_any w).mono ?_
  rintro e w1 ⟨⟨r, rfl, hr⟩, hb1⟩
  have HPut := Lib.hid (put_all false [] r w1 (by rfl))
  rw [unix_nan hr] at HPut
  have HB1 := Lib.hid hb1
  clear hr hb1
  go_wp2_with fail
  refine HPut.out.mono ?_
  rintro e w2 ⟨v2, rfl, ho2, hb2⟩
  obtain ⟨a2, c2, rfl, hby2⟩ := ho2.bytes
  have HBY2 := Lib.hid hby2
  have HB2 := Lib.hid (HB1.out.trans (hb2.mono HB1.out.size))
  obtain ⟨w3, hw3⟩ : ∃ w3, w3 = w2.alloc (.cells #[.int .u8 31, .int .u8 139, .int .u8 8, .int .u8 8, .int .u8 5, .int .u8 0, .int .u8 0, .int .u8 0, .int .u8 0, .int .u8 255, .int .u8 97, .int .u8 98, .int .u8 0, .int .u8 122] 5 (14, 15)) := ⟨_, rfl⟩
  have kc : (convert 25 25 (.slice (some ⟨w2.heap.size, 0, none⟩) 14 14)).run Tryz.prog (w2.alloc (.cells #[.int .u8 31, .int .u8 139, .int .u8 8, .int .u8 8, .int .u8 5, .int .u8 0, .int .u8 0, .int .u8 0, .int .u8 0, .int .u8 255, .int .u8 97, .int .u8 98, .int .u8 0, .int .u8 122] 5)) = .ok (.slice (some ⟨w2.heap.size, 0, none⟩) 14 14) w3 := by
    rw [hw3]
    exact Go.Lib.run_convert_bytes_const (P := Tryz.prog) w2 25 5 #[.int .u8 31, .int .u8 139, .int .u8 8, .int .u8 8, .int .u8 5, .int .u8 0, .int .u8 0, .int .u8 0, .int .u8 0, .int .u8 255, .int .u8 97, .int .u8 98, .int .u8 0, .int .u8 122] 14 14 Tryz.underlying25 Tryz.underlying5
  have hrow : Bytes w3 (some ⟨w2.heap.size, 0, none⟩) 14 14 lA := by rw [hw3]; exact row_lit 5 w2 lA (14, 15) (by decide)
  have hb3 : Below w2.heap.size w2 w3 := by rw [hw3]; exact (Below.refl _ _).alloc (Nat.le_refl _) _
  have HBY3 := Lib.hid (HBY2.out.below (Nat.le_refl _) hb3)
  have HB3 := Lib.hid (HB2.out.trans (hb3.mono HB2.out.size))
  have HR1 := Lib.hid (read_any _ 14 14 lA w3 hrow (by omega))
  rw [rd_A] at HR1
  clear ho2 hby2 hb2 HPut hw3 hrow hb3 HBY2 HB2
  go_wp2_with fail
  refine HR1.out.mono ?_
  rintro e w4 ⟨rfl, hb4⟩
  have HBY4 := Lib.hid (HBY3.out.below (Nat.le_refl _) hb4)
  have HB4 := Lib.hid (HB3.out.trans (hb4.mono HB3.out.size))
  unfold readV headV
  simp only []
  rw [show ((5 : Nat) : Int) = 5 from rfl]
  have h5 := five
  generalize ClkC.fromU 5 = t5 at *
  clear HR1 hb4 HBY3 HB3 kc
  go_wp2_with (first
    | (refine wpList_store_row rfl _ _ _ rfl w4.heap.size _ rfl rfl 27 zeroC (heap_alloc_new w4 _) (by kernel_rfl) rfl (by simp [Value.oneCell']) ?_))
  obtain ⟨g3, hg3⟩ : ∃ g3, g3 = w4.heap.size := ⟨_, rfl⟩
  obtain ⟨wr, hwr⟩ : ∃ wr, wr = (w4.alloc (.cells #[.bool false, .string ⟨#[]⟩, .float .f64 0] 27)).setRow w4.heap.size #[.bool true, .string ⟨#[97, 98]⟩, .float .f64 t5] := ⟨_, rfl⟩
  have hrs : wr.heap.size = g3 + 1 := by rw [hwr, hg3]; simp
  have hwb : Below w4.heap.size w4 wr := by rw [hwr]; exact below_setRow ((Below.refl _ _).alloc (Nat.le_refl _) _) (Nat.le_refl _) _
  have kr : Blk wr g3 27 #[.bool true, .string ⟨#[97, 98]⟩, .float .f64 t5] := by rw [hwr, hg3]; exact setRow_heap _ _ _ _ _ _ (heap_alloc_new w4 _)
  rw [← hwr, ← hg3, ← hrs]
  have hb5 : Below wr.heap.size wr (wr.alloc (.cells #[.int .u8 31, .int .u8 139] 5)) := (Below.refl _ _).alloc (Nat.le_refl _) _
  have HR2 := Lib.hid (read_any _ 2 2 [31, 139] _ (row_lit 5 wr [31, 139] (0, 0) (by decide)) (by omega))
  rw [rd_B] at HR2
  have HK3 := Lib.hid (kr.same (hb5.block g3 kr.lt))
  have HBY5 := Lib.hid ((HBY4.out.below (Nat.le_refl _) hwb).below (Nat.le_refl _) hb5)
  have HB5 := Lib.hid (HB4.out.trans ((hwb.trans (hb5.mono hwb.size)).mono HB4.out.size))
  clear HBY4 HB4 hwb kr hwr hrs hg3
  refine HR2.out.mono ?_
  rintro e w6 ⟨rfl, hb6⟩
  have HK6 := Lib.hid (HK3.out.same (hb6.block g3 HK3.out.lt))
  have HBY6 := Lib.hid (HBY5.out.below (Nat.le_refl _) hb6)
  have HB6 := Lib.hid (HB5.out.trans (hb6.mono HB5.out.size))
  clear HR2 hb6 hb5 HK3 HBY5 HB5
  unfold readV headV
  simp only []
  have d0 : w6.cell? ⟨g3, 0, none⟩ = some (.bool true) := HK6.out.cell 0
  have d1 : w6.cell? ⟨g3, 1, none⟩ = some (.string ⟨#[97, 98]⟩) := HK6.out.cell 1
  have d2 : w6.cell? ⟨g3, 2, none⟩ = some (.float .f64 t5) := HK6.out.cell 2
  have hput : putH false [] 0 = [31, 139, 8, 0, 0, 0, 0, 0, 0, 255] := by decide
  rw [hput] at HBY6 ⊢
  go_upto_region 4 with (first
    | (refine wpList_store_row rfl _ _ _ rfl w6.heap.size _ rfl rfl 27 zeroC (heap_alloc_new w6 _) (by kernel_rfl) rfl (by simp [Value.oneCell']) ?_))
  obtain ⟨w7, hw7⟩ : ∃ w7, w7 = (w6.alloc (.cells #[.bool false, .string ⟨#[]⟩, .float .f64 0] 27)).setRow w6.heap.size #[.bool false, .string ⟨#[]⟩, .float .f64 0] := ⟨_, rfl⟩
  have hb7 : Below w6.heap.size w6 w7 := by rw [hw7]; exact below_setRow ((Below.refl _ _).alloc (Nat.le_refl _) _) (Nat.le_refl _) _
  rw [← hw7]
  have HK7 := HK6.out.same (hb7.block g3 HK6.out.lt)
  have d0 : w7.cell? ⟨g3, 0, none⟩ = some (.bool true) := HK7.cell 0
  have d1 : w7.cell? ⟨g3, 1, none⟩ = some (.string ⟨#[97, 98]⟩) := HK7.cell 1
  have d2 : w7.cell? ⟨g3, 2, none⟩ = some (.float .f64 t5) := HK7.cell 2
  have HB7 := Lib.hid (HB6.out.trans (hb7.mono HB6.out.size))
  obtain ⟨S, hS⟩ : ∃ S : ByteArray, S = ⟨([31, 139, 8, 0, 0, 0, 0, 0, 0, 255] : List UInt8).toArray⟩ := ⟨_, rfl⟩
  have hcv : (convert 25 9 (.slice a2 10 c2)).run Tryz.prog w7 = .ok (.string S) w7 := by
    rw [hS]
    exact run_string_bytes _ 25 9 5 Tryz.underlying25 Tryz.underlying5 Tryz.underlying9 (HBY6.out.below (Nat.le_refl _) hb7)
  have eS : (S.toList == [31, 139, 8, 0, 0, 0, 0, 0, 0, 255]) = true := by rw [hS]; decide +kernel
  clear hS hw7 hb7 HK7
  go_wp2_with fail
  go_ret
  exact ⟨rfl, HB7.out⟩
end Go.Proofs.YtilfmmjjiiabgaaGreatDoor.GzC
end
