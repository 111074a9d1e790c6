import Derived.Test.YtdbcendnibgcaaaDoorMgBk
import Derived.Test.YtdbcendnibgcaaaDoorMgAd

section
/-
  ZlibHeadsAll's law.
-/
namespace Go.Proofs.YtdbcendnibgcaaaDoor.ZlC
open Go.RowKit Go.My ZlMath InfC

theorem and_32 (k : Nat) (h : k < 256) : bits .and .i64 (k : Int) 32 = ((k / 32 % 2 * 32 : Nat) : Int) := by
  have : ∀ k : Fin 256, bits .and .i64 (k.val : Int) 32 = ((k.val / 32 % 2 * 32 : Nat) : Int) := by decide +kernel
  exact this ⟨k, h⟩
theorem shl_256 (q : Nat) (h : q ≤ 7) : wrap64 ((256 : Int) * 2 ^ q) = 2 ^ (q + 8) := by
  have : q = 0 ∨ q = 1 ∨ q = 2 ∨ q = 3 ∨ q = 4 ∨ q = 5 ∨ q = 6 ∨ q = 7 := by omega
  rcases this with rfl | rfl | rfl | rfl | rfl | rfl | rfl | rfl <;> decide +kernel
theorem lit_row (E : TypeId) (w : World) (C : Array Value) (l : List UInt8) (hC : C.toList = l.map bv) (hl : l.length ≤ 1000) : Bytes (w.alloc (.cells C E)) (some ⟨w.heap.size, 0, none⟩) l.length l.length l := by
  refine ⟨rfl, Nat.le_refl _, by omega, (fun h => by cases h), .inr ⟨w.heap.size, 0, rfl, by simp, ?_⟩⟩
  intro i hi
  rw [cell_of_row _ _ _ _ _ _ (heap_alloc_new w _), ← Array.getElem?_toList, hC]
  simp [hi, bv]
set_option maxRecDepth 100000 in
set_option maxHeartbeats 8000000 in
theorem headsall_law (x : UInt8) (w : World) (hO : Ordr w.heap.size w) :
    Calls Tryd.prog 3 #[.int .u8 (x.toNat : Int)] w fun e w' => e = .returned (.bool true) ∧ Below w.heap.size w w' := by
  have HO := Lib.hid hO
  have hx := x.toNat_lt
  clear hO
  go_enter Tryd.func3, Tryd.ntmps3
  go_wp2_with fail
  go_loopw [3, 4] (fun rv bv wr => ∃ k : Nat, k ≤ 256 ∧ rv = .int .i64 (cnt x.toNat k : Int) ∧ bv = .int .i64 (k : Int) ∧ Hid (Below w.heap.size w wr)) (fun _ bv _ => 256 - (intOf bv).toNat)
  case atStart => exact ⟨0, by omega, rfl, rfl, Lib.hid (Below.refl _ _)⟩
  case round =>
    obtain ⟨k, hk, rfl, rfl, HB⟩ := hrel
    by_cases hlt : k < 256
    · have hk8 : IntKind.u8.wrap (k : Int) = (k : Int) := IntWalk.u8_in _ (by omega)
      have hkt : (UInt8.ofNat k).toNat = k := by simp; omega
      have hal : Below wr.heap.size wr (wr.alloc (.cells #[.int .u8 (x.toNat : Int), .int .u8 (k : Int), .int .u8 7] 5)) := (Below.refl _ _).alloc (Nat.le_refl _) _
      have hrow : Bytes (wr.alloc (.cells #[.int .u8 (x.toNat : Int), .int .u8 (k : Int), .int .u8 7] 5)) (some ⟨wr.heap.size, 0, none⟩) 3 3 [x, UInt8.ofNat k, 7] := lit_row 5 wr _ [x, UInt8.ofNat k, 7] (by simp [bv, hkt]) (by simp)
      have hr := read_any _ 3 3 _ _ hrow
      simp only [rdN, rdC, hkt] at hr
      have HR := Lib.hid hr
      have HA := Lib.hid hal
      have hc := cnt_le x.toNat k
      have hcs : cnt x.toNat (k + 1) = cnt x.toNat k + if zbad x.toNat k then 0 else 1 := rfl
      clear hrow hr hal
      obtain ⟨N, hN⟩ : ∃ N, N = cnt x.toNat k := ⟨_, rfl⟩
      rw [← hN]
      rw [← hN] at hc hcs
      have HN := Lib.hid hN
      clear hN
      cases hz : zbad x.toNat k
      · rw [hz] at hcs HR
        simp only [Bool.false_eq_true, if_false] at hcs HR
        obtain ⟨p1, p2, p3, p4⟩ := good_parts hz
        have HC := Lib.hid hcs
        have e1 := and15 x.toNat hx
        have h1 : ((x.toNat : Int) % 16 != 8) = false := by simp; omega
        have h2 : decide (7 < (x.toNat : Int) / 16) = false := by simp; omega
        have h3 : (((x.toNat : Int) * 256 + (k : Int)) % 31 != 0) = false := by simp; omega
        have h4 : bits .and .i64 (k : Int) 32 = 0 := by rw [and_32 k hlt, p4]; rfl
        have h5 := shl_256 (x.toNat / 16) p2
        generalize x.toNat = X at *
        clear hcs hkt hz p4
        go_wp2_with fail
        refine HR.out.mono ?_
        rintro e w1 ⟨rfl, hb1⟩
        have HB1 := Lib.hid (HB.out.trans ((HA.out.trans (hb1.mono HA.out.size)).mono HB.out.size))
        clear hb1 HR HA
        go_wp2_with fail
        go_roundw
        case rel => exact ⟨k + 1, by omega, by rw [HC.out]; go_num, by go_num, HB1⟩
        case measure => simp [intOf]; omega
      · rw [hz] at hcs HR
        simp only [if_true] at hcs HR
        have HC := Lib.hid hcs
        generalize x.toNat = X at *
        clear hcs hkt hz
        go_wp2_with fail
        refine HR.out.mono ?_
        rintro e w1 ⟨rfl, hb1⟩
        have HB1 := Lib.hid (HB.out.trans ((HA.out.trans (hb1.mono HA.out.size)).mono HB.out.size))
        clear hb1 HR HA
        go_wp2_with fail
        go_roundw
        case rel => exact ⟨k + 1, by omega, by rw [HC.out, Nat.add_zero], by go_num, HB1⟩
        case measure => simp [intOf]; omega
    · obtain rfl : k = 256 := by omega
      have hall := cnt_all ⟨x.toNat, hx⟩
      have e1 := and15 x.toNat hx
      have HT := Lib.hid (told_any wr (HO.out.up HB.out))
      simp only at hall
      obtain ⟨N, hN⟩ : ∃ N, N = cnt x.toNat 256 := ⟨_, rfl⟩
      rw [← hN] at hall ⊢
      generalize x.toNat = X at *
      have h1 : decide ((N : Int) ≤ 8) = true := by have := hall.1; simp; omega
      have HALL := Lib.hid hall.2
      clear hN hlt hk hall
      go_wp2_with fail
      refine HT.out.mono ?_
      rintro e w1 ⟨rfl, hb1⟩
      have HB1 := Lib.hid (HB.out.trans (hb1.mono HB.out.size))
      clear hb1 HT HB
      have hall := HALL.out
      by_cases c1 : X % 16 = 8
      · have d1 : ((X : Int) % 16 == 8) = true := by simp; omega
        by_cases c2 : X / 16 ≤ 7
        · have d2 : decide ((X : Int) / 16 ≤ 7) = true := by simp; omega
          have d3 : decide (0 < N) = true := by
            rw [c1, decide_eq_true c2] at hall
            have := of_decide_eq_true hall
            simp; omega
          clear hall c1 c2 HALL
          go_wp2_with fail
          go_ret
          exact ⟨rfl, HB1.out⟩
        · have d2 : decide ((X : Int) / 16 ≤ 7) = false := by simp; omega
          have d3 : decide (0 < N) = false := by
            rw [c1, decide_eq_false c2] at hall
            have := of_decide_eq_false hall
            simp; omega
          clear hall c1 c2 HALL
          go_wp2_with fail
          go_ret
          exact ⟨rfl, HB1.out⟩
      · have d1 : ((X : Int) % 16 == 8) = false := by simp; omega
        have d3 : decide (0 < N) = false := by
          rw [beq_eq_false_iff_ne.2 c1, Bool.false_and] at hall
          have := of_decide_eq_false hall
          simp; omega
        clear hall c1 HALL
        go_wp2_with fail
        go_ret
        exact ⟨rfl, HB1.out⟩
end Go.Proofs.YtdbcendnibgcaaaDoor.ZlC
end
