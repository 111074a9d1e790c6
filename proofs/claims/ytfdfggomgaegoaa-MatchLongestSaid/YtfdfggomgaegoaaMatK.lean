/-
  law 13's long, told, same, again.
-/
import Derived.Test.YtfdfggomgaegoaaMatI
import Derived.Test.YtfdfggomgaegoaaMatD
import Derived.Lib.SlBytesConst
namespace Go.Proofs.Ytfdfggomgaegoaa.MatC
open Go.RowKit Go.My MatMath LzC

/-- A text so many times. -/
def rep (b : List UInt8) : Nat → List UInt8
  | 0 => []
  | k + 1 => rep b k ++ b
theorem rep_len (b : List UInt8) (k : Nat) : (rep b k).length = k * b.length := by
  induction k with
  | zero => simp [rep]
  | succ k ih => show (rep b k ++ b).length = _; rw [List.length_append, ih, Nat.succ_mul]
/-- How many times. -/
def times (n : Int) : Nat := 1 + (n % 8).toNat
theorem times_le (n : Int) : 1 ≤ times n ∧ times n ≤ 8 := by unfold times; omega

set_option maxHeartbeats 4000000 in
theorem long_any {a : Option Addr} {len cap : Nat} {b : List UInt8} (n : Int) (w : World) (hb : Bytes w a len cap b) (hl : len ≤ 100000) :
    Calls Try.prog 9 #[.slice a len cap, .int .i64 n] w (OwnRet 5 w (rep b (times n))) := by
  have HB := Lib.hid hb
  have HL := Lib.hid hb.len_eq
  clear hb
  have hm := i64_and_mask n 3 (by omega) 7 8 (by decide) (by decide)
  obtain ⟨t, ht⟩ : ∃ t, t = times n := ⟨_, rfl⟩
  have hn8 : (1 : Int) + n % 8 = (t : Int) := by rw [ht]; unfold times; omega
  have hn9 : 0 ≤ n % 8 ∧ n % 8 < 8 := by omega
  have ht8 := (times_le n).2
  rw [← ht] at ht8 ⊢
  clear ht
  generalize n % 8 = n8 at *
  go_enter Try.func9, Try.ntmps9
  go_wp2_with fail
  go_loopw [5, 6] (fun ov iv wr => ∃ (k : Nat) (aa : Option Addr) (ca : Nat), k ≤ t ∧ iv = .int .i64 (k : Int) ∧ ov = .slice aa (k * len) ca ∧ Hid (Own 5 w.heap.size wr (.slice aa (k * len) ca) (rep b k)) ∧ Hid (Below w.heap.size w wr)) (fun _ iv _ => t - (intOf iv).toNat)
  case atStart => exact ⟨0, none, 0, Nat.zero_le _, rfl, by simp, Lib.hid (by simpa [rep] using Own.nil _ _ _), Lib.hid (Below.refl _ _)⟩
  case round =>
    obtain ⟨k, aa, ca, hk, rfl, rfl, HO, HW⟩ := hrel
    by_cases hlt : k < t
    · have g1 : decide (k < t) = true := by simp; omega
      have HBr := Lib.hid (HB.out.below (Nat.le_refl _) HW.out)
      have HRL : Hid ((rep b k).length = k * len) := Lib.hid (by rw [rep_len, HL.out])
      have hkl : k * len ≤ 8 * 100000 := Nat.mul_le_mul (by omega) hl
      have hk1 : k * len + len = (k + 1) * len := by rw [Nat.succ_mul]
      obtain ⟨M, hM⟩ : ∃ M, M = k * len := ⟨_, rfl⟩
      rw [← hM] at HO HRL hkl hk1 ⊢
      have HK1 := Lib.hid hk1
      clear hk1 hM
      go_wp2_with (at_builtin; refine wpList_append_lie (by rfl) (.tmp 14) (.tmp 15) 22 (by rfl) w.heap.size 5 Try.underlying22 RefC.info5 (.slice aa M ca) (rep b k) (by rfl) HO.out a len cap b (by rfl) HBr.out (by rw [HRL.out]; omega) HW.out.size ?_)
      rw [HRL.out]
      intro a2 c2 w2 hown hg _
      have HO2 : Hid (Own 5 w.heap.size w2 (.slice a2 ((k + 1) * len) c2) (rep b (k + 1))) := Lib.hid (by rw [← HK1.out]; exact hown)
      have HW2 := Lib.hid (grown_below HO.out HW.out hg HW.out.size)
      clear hown hg HO HW
      go_wp2_with fail
      go_roundw
      case rel => exact ⟨k + 1, a2, c2, by omega, by go_num, by rw [HK1.out], HO2, HW2⟩
      case measure => simp [intOf]; omega
    · obtain rfl : k = t := by omega
      have g1 : decide (k < k) = false := by simp
      go_wp2_with fail
      go_ret
      exact ⟨_, rfl, HO.out, HW.out⟩

def abc : List UInt8 := [97, 98, 99, 97, 98, 99, 97, 98, 99]
def pl1 : Pl := ⟨false, 8, false, 100, false⟩
def pl2 : Pl := ⟨false, 1, false, 1, false⟩
theorem abc_many : Many pl1 abc 4 := ⟨by decide +kernel, by decide +kernel⟩
theorem abc_tk : (tk pl1 abc 3).len = 6 ∧ (tk pl1 abc 3).dist = 3 ∧ (tk pl1 abc 3).byte = 0 := by decide +kernel
theorem abc_find : pl2.find abc 6 = (3, 3) := by decide +kernel
theorem lit_bytes (w : World) (E : TypeId) (fr : Nat × Nat) (l : List UInt8) (hl : l.length ≤ 1000000) : Bytes (w.alloc (.cells ((l.map bv).toArray) E fr)) (some ⟨w.heap.size, 0, none⟩) l.length l.length l := by
  refine ⟨rfl, Nat.le_refl _, by omega, (fun h => by cases h), .inr ⟨w.heap.size, 0, rfl, by simp, fun i hi => ?_⟩⟩
  rw [cell_of_row _ _ _ _ _ _ (heap_alloc_new w _), Nat.zero_add]
  simp [hi, bv]

set_option maxRecDepth 100000 in
set_option maxHeartbeats 4000000 in
theorem told_any (w : World) : Calls Try.prog 8 #[] w fun e w' => e = .returned (.bool true) ∧ Below w.heap.size w w' := by
  have kc := fun (w : World) (C : Array Value) (n c : Nat) => Lib.run_convert_bytes_const (P := Try.prog) w 22 5 C n c Try.underlying22 Try.underlying5
  go_enter Try.func8, Try.ntmps8
  go_wp2_with fail
  have hb1 := lit_bytes w 5 (9, 10) abc (by decide)
  refine (tokens_any pl1 abc _ hb1 (by decide) (by decide)).mono ?_
  rintro e w2 ⟨v, K, rfl, ho, hm, hbl⟩
  obtain rfl : K = 4 := many_one hm abc_many
  obtain ⟨a2, c2, rfl, ht⟩ := ho.toks (fun i _ => tk_wf (by decide) i)
  have HT := Lib.hid ht
  have HB : Hid (Below w.heap.size w w2) := Lib.hid (((Below.refl _ w).alloc (Nat.le_refl _) _).trans (hbl.mono (by simp)))
  clear hb1 hm ht ho hbl
  go_wp2_with fail
  have hb2 := lit_bytes w2 5 (9, 10) abc (by decide)
  refine (new_any (s := abc) false 1 false 1 false _ hb2 (by decide)).mono ?_
  rintro e w3 ⟨g, rfl, hf, hb3, _⟩
  have hb3' := ((Below.refl w2.heap.size w2).alloc (Nat.le_refl _) (.cells ((abc.map bv).toArray) 5 (9, 10))).trans (hb3.mono (by simp))
  have HT3 := Lib.hid (HT.out.below (Nat.le_refl _) hb3')
  have HB3 := Lib.hid (HB.out.trans (hb3'.mono HB.out.size))
  have HF := Lib.hid hf
  clear hb2 hf hb3 hb3' HT HB
  go_wp2_with fail
  refine (find_all g pl2 abc 6 w3 HF.out (by decide) 3 3 abc_find).mono ?_
  rintro e w4 ⟨rfl, hd⟩
  obtain ⟨b, off, rfl, ht4⟩ := (HT3.out.below (Nat.le_refl _) hd.below).get (show 3 < 4 by omega)
  have HB4 := Lib.hid (HB3.out.trans (hd.below.mono HB3.out.size))
  have c0 := ht4.len
  have c1 := ht4.dist
  have c2' := ht4.byte
  rw [abc_tk.1] at c0
  rw [abc_tk.2.1] at c1
  rw [abc_tk.2.2] at c2'
  clear HT3 HB3 HF hd ht4 kc
  go_wp2_with fail
  go_ret
  exact ⟨rfl, HB4.out⟩
end Go.Proofs.Ytfdfggomgaegoaa.MatC
