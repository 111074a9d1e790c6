/-
  gzip.Wrap; the document's Put and Wrap.
-/
import Derived.Test.YtilfmmjjiiabgaaGzG
import Derived.Test.YtilfmmjjiiabgaaSlb
namespace Go.Proofs.Ytilfmmjjiiabgaa.GzC
open Go.RowKit Go.My GzMath
open Go.My.NumMath (bytesOf)

/-- A time's number. -/
noncomputable def uT (t : Nat) : Nat := (ClkC.unixT t).toNat
theorem uT_eq (t : Nat) : ClkC.unixT t = (uT t : Int) := by
  unfold uT
  have : 0 ≤ ClkC.unixT t := by unfold ClkC.unixT; split <;> omega
  omega
theorem uT_le (t : Nat) : uT t ≤ 4294967295 := by
  unfold uT
  have : ClkC.unixT t ≤ 4294967295 := by unfold ClkC.unixT; split <;> omega
  omega
theorem badH_len {named : Bool} {name : List UInt8} (h : badH named name = false) : name.length ≤ 65535 := by
  unfold badH at h
  simp only [Bool.or_eq_false_iff] at h
  have := h.1.2
  simpa using this
theorem putH_len (named : Bool) (name : List UInt8) (u : Nat) : 10 ≤ (putH named name u).length ∧ (putH named name u).length ≤ 11 + name.length := by
  unfold putH
  cases named <;> simp [Go.My.NumMath.bytesOf_len] <;> omega
theorem put_all (named : Bool) (name : List UInt8) (t : Nat) (w : World) (hb : badH named name = false) :
    Calls Try.prog 9 #[.agg #[.bool named, .string ⟨name.toArray⟩, .float .f64 t]] w fun e w' => ∃ v, e = .returned (.tuple #[v, .int .i64 0]) ∧ Own 5 w.heap.size w' v (putH named name (uT t)) ∧ Below w.heap.size w w' :=
  put_ok named name t w hb (badH_len hb) (uT t) (uT_eq t) (uT_le t)
/-- A member's bytes. -/
noncomputable def wrapB (named : Bool) (name : List UInt8) (t : Nat) (packed : List UInt8) (sum size : Nat) : List UInt8 := putH named name (uT t) ++ packed ++ (bytesOf false 4 sum ++ bytesOf false 4 size)
theorem three_rows (E : TypeId) (w : World) (u v x : Value) : RowIn (w.alloc (.cells #[u, v, x] E)) (some ⟨w.heap.size, 0, none⟩) 3 3 [u, v, x] := by
  refine ⟨rfl, Nat.le_refl _, by omega, (fun h => by cases h), .inr ⟨w.heap.size, 0, rfl, by simp, fun i hi => ?_⟩⟩
  rw [cell_of_row _ _ _ _ _ _ (heap_alloc_new w _)]
  have : i = 0 ∨ i = 1 ∨ i = 2 := by simp at hi; omega
  rcases this with rfl | rfl | rfl <;> rfl
theorem wrap_bad (named : Bool) (name : List UInt8) (t : Nat) (v : Value) (sum size : Int) (w : World) (hb : badH named name = true) :
    Calls Try.prog 11 #[.agg #[.bool named, .string ⟨name.toArray⟩, .float .f64 t], v, .int .u32 sum, .int .i64 size] w fun e w' => e = .returned (.tuple #[.slice none 0 0, .int .i64 1]) ∧ Below w.heap.size w w' := by
  go_enter Try.func11, Try.ntmps11
  go_wp2_with fail
  refine (put_bad named name t _ hb).mono ?_
  rintro e w1 ⟨rfl, hb1⟩
  have HB : Hid (Below w.heap.size w w1) := Lib.hid (((Below.refl w.heap.size w).alloc (Nat.le_refl _) _).trans (hb1.mono (by simp)))
  clear hb1
  go_wp2_with fail
  go_ret2
  exact ⟨rfl, HB.out⟩
theorem wrap_neg (named : Bool) (name : List UInt8) (t : Nat) (v : Value) (sum size : Int) (w : World) (hb : badH named name = false) (hs : size < 0) :
    Calls Try.prog 11 #[.agg #[.bool named, .string ⟨name.toArray⟩, .float .f64 t], v, .int .u32 sum, .int .i64 size] w fun e w' => e = .returned (.tuple #[.slice none 0 0, .int .i64 7]) ∧ Below w.heap.size w w' := by
  go_enter Try.func11, Try.ntmps11
  go_wp2_with fail
  refine (put_all named name t _ hb).mono ?_
  rintro e w1 ⟨v1, rfl, ho, hb1⟩
  have HB : Hid (Below w.heap.size w w1) := Lib.hid (((Below.refl w.heap.size w).alloc (Nat.le_refl _) _).trans (hb1.mono (by simp)))
  clear hb1 ho
  go_wp2_with fail
  go_ret2
  exact ⟨rfl, HB.out⟩
set_option maxRecDepth 100000 in
set_option maxHeartbeats 1000000 in
theorem wrap_ok (named : Bool) (name : List UInt8) (t : Nat) (a : Option Addr) (n c : Nat) (packed : List UInt8) (sum size : Nat) (w : World) (hb : badH named name = false) (hp : Bytes w a n c packed) (hn : n ≤ 1000000000) (h1 : sum < 4294967296) (h2 : size < 9223372036854775808) :
    Calls Try.prog 11 #[.agg #[.bool named, .string ⟨name.toArray⟩, .float .f64 t], .slice a n c, .int .u32 (sum : Int), .int .i64 (size : Int)] w fun e w' => ∃ v, e = .returned (.tuple #[v, .int .i64 0]) ∧ Own 5 w.heap.size w' v (wrapB named name t packed sum size) ∧ Below w.heap.size w w' := by
  have HP := Lib.hid (And.intro hp hn)
  have hnl := badH_len hb
  have hge : ¬ (size : Int) < 0 := by omega
  clear hp
  go_enter Try.func11, Try.ntmps11
  go_wp2_with fail
  refine (put_all named name t _ hb).mono ?_
  rintro e w1 ⟨v1, rfl, ho, hb1⟩
  have HB : Hid (Below w.heap.size w w1) := Lib.hid (((Below.refl w.heap.size w).alloc (Nat.le_refl _) _).trans (hb1.mono (by simp)))
  obtain ⟨a1, c1, rfl, hby⟩ := ho.bytes
  have HBY := Lib.hid hby
  have HLH := Lib.hid (putH_len named name (uT t))
  have HQ : Hid (wrapB named name t packed sum size = putH named name (uT t) ++ packed ++ (bytesOf false 4 sum ++ bytesOf false 4 size)) := Lib.hid rfl
  generalize putH named name (uT t) = P at *
  clear hb1 ho hby
  go_wp2_with fail
  refine (tail_any sum size w1 h1 h2).mono ?_
  rintro e w2 ⟨v2, rfl, ho2, hb2⟩
  obtain ⟨a2, c2, rfl, hby2⟩ := ho2.bytes
  have hl2 : (bytesOf false 4 sum ++ bytesOf false 4 size).length = 8 := by simp [Go.My.NumMath.bytesOf_len]
  rw [hl2] at hby2 ⊢
  have HBY2 := Lib.hid hby2
  have HB2 := Lib.hid hb2
  have HL2 := Lib.hid hl2
  generalize bytesOf false 4 sum ++ bytesOf false 4 size = T at *
  clear ho2 hb2 hby2 hl2
  go_wp2_with fail
  have hal : Below w2.heap.size w2 (w2.alloc (.cells #[.slice a1 P.length c1, .slice a n c, .slice a2 8 c2] 22)) := (Below.refl _ _).alloc (Nat.le_refl _) _
  have hall := HB.out.trans ((HB2.out.trans (hal.mono HB2.out.size)).mono HB.out.size)
  refine (SlbC.concat_three w2.heap.size a1 a a2 P.length n 8 c1 c c2 P packed T _ (three_rows _ _ _ _ _) ((HBY.out.below (Nat.le_refl _) HB2.out).below (Nat.le_refl _) hal) (HP.out.1.below (Nat.le_refl _) hall) (HBY2.out.below (Nat.le_refl _) hal) ?_ ?_).mono ?_
  · have := HLH.out; simp; omega
  · have := HLH.out; have := HP.out.1.len_eq; have := HP.out.2; have := HL2.out; simp; omega
  rintro e w3 ⟨v3, rfl, ho3, hb3⟩
  have HO3 := Lib.hid ho3
  have HB3 := Lib.hid hb3
  have HAL := Lib.hid hall
  clear ho3 hb3 hal hall
  go_wp2_with fail
  go_ret2
  rw [HQ.out]
  exact ⟨v3, rfl, own_low HO3.out HAL.out.size, HAL.out.trans (HB3.out.mono HAL.out.size)⟩
end Go.Proofs.Ytilfmmjjiiabgaa.GzC
