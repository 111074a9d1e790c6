/-
  GzipHeads' law.
-/
import Derived.Test.YtilfmmjjiiabgaaGzL1
namespace Go.Proofs.Ytilfmmjjiiabgaa.GzC
open Go.RowKit Go.My GzMath Flt
open Go.My.NumMath (bytesOf)

set_option maxRecDepth 100000 in
set_option maxHeartbeats 8000000 in
theorem heads_law (a0 : Option Addr) (len0 cap0 : Nat) (l0 : List UInt8) (a1 : Bool) (name : List UInt8) (a3 : Nat) (a4 : Option Addr) (len4 cap4 : Nat) (l4 : List UInt8) (sum : Nat) (a6 : Int) (w : World)
    (h0 : Bytes w a0 len0 cap0 l0) (h4 : Bytes w a4 len4 cap4 l4) (h5 : sum < 4294967296) (h6 : a6 < 9223372036854775808) (hnl : name.length ≤ 9223372036854775807) :
    Calls Try.prog 3 #[.slice a0 len0 cap0, .bool a1, .string ⟨name.toArray⟩, .float .f64 a3, .slice a4 len4 cap4, .int .u32 (sum : Int), .int .i64 a6] w fun e w' => e = .returned (.bool true) ∧ Below w.heap.size w w' := by
  have hsz : (⟨name.toArray⟩ : ByteArray).size = name.length := by simp [ByteArray.size]
  by_cases hbig : (300 < len0 ∨ 300 < name.length) ∨ 100 < len4
  · have HT := Lib.hid (told_any w)
    by_cases x0 : 300 < len0
    · have d0 : decide ((len0 : Int) > 300) = true := by simp; omega
      clear hbig h0 h4
      go_enter Try.func3, Try.ntmps3
      go_wp2_with fail
      refine HT.out.mono ?_
      rintro e w1 ⟨rfl, hb⟩
      have HB := Lib.hid hb
      clear hb
      go_wp2_with fail
      go_ret
      exact ⟨rfl, HB.out⟩
    · have d0 : decide ((len0 : Int) > 300) = false := by simp; omega
      by_cases x1 : 300 < name.length
      · have d1 : decide ((name.length : Int) > 300) = true := by simp; omega
        clear hbig h0 h4
        go_enter Try.func3, Try.ntmps3
        go_wp2_with fail
        refine HT.out.mono ?_
        rintro e w1 ⟨rfl, hb⟩
        have HB := Lib.hid hb
        clear hb
        go_wp2_with fail
        go_ret
        exact ⟨rfl, HB.out⟩
      · have d1 : decide ((name.length : Int) > 300) = false := by simp; omega
        have d2 : decide ((len4 : Int) > 100) = true := by simp; omega
        clear hbig h0 h4
        go_enter Try.func3, Try.ntmps3
        go_wp2_with fail
        refine HT.out.mono ?_
        rintro e w1 ⟨rfl, hb⟩
        have HB := Lib.hid hb
        clear hb
        go_wp2_with fail
        go_ret
        exact ⟨rfl, HB.out⟩
  have d0 : decide ((len0 : Int) > 300) = false := by simp; omega
  have d1 : decide ((name.length : Int) > 300) = false := by simp; omega
  have d2 : decide ((len4 : Int) > 100) = false := by simp; omega
  have HI := Lib.hid (And.intro h0 (And.intro h4 hbig))
  obtain ⟨nm, ns, x, n, c, hp⟩ := parts l0
  have HRead := read_any a0 len0 cap0 l0 w h0 (by omega)
  rw [hp.got] at HRead
  have HRead := Lib.hid HRead
  have HPT := Lib.hid hp
  have hbd := hp.bad
  have HBD := Lib.hid hbd
  clear h0 h4 hbig hp hbd
  go_enter Try.func3, Try.ntmps3
  go_wp2_with fail
  refine HRead.out.mono ?_
  rintro e w1 ⟨rfl, hb1⟩
  have HB1 := Lib.hid hb1
  clear hb1 HRead
  go_wp2_with (first
    | (refine wpList_store_row rfl _ _ _ rfl w1.heap.size _ rfl rfl 27 zeroC (heap_alloc_new w1 _) (by kernel_rfl) rfl (by simp [Value.oneCell']) ?_))
  obtain ⟨g1, hg1⟩ : ∃ g1, g1 = w1.heap.size := ⟨_, rfl⟩
  obtain ⟨w2, hw2⟩ : ∃ w2, w2 = (w1.alloc (.cells #[.bool false, .string ⟨#[]⟩, .float .f64 0] 27)).setRow w1.heap.size #[.bool nm, .string ⟨ns.toArray⟩, .float .f64 x] := ⟨_, rfl⟩
  have hb2 : Below w1.heap.size w1 w2 := by rw [hw2]; exact below_setRow ((Below.refl _ _).alloc (Nat.le_refl _) _) (Nat.le_refl _) _
  have HK2 : Hid (Blk w2 g1 27 #[.bool nm, .string ⟨ns.toArray⟩, .float .f64 x]) := Lib.hid (by rw [hw2, hg1]; exact setRow_heap _ _ _ _ _ _ (heap_alloc_new w1 _))
  have HB2 := Lib.hid (HB1.out.trans (hb2.mono HB1.out.size))
  rw [← hw2, ← hg1]
  clear hw2 hg1 hb2 HB1
  refine (rread_both a0 len0 cap0 l0 w2 (HI.out.1.below (Nat.le_refl _) HB2.out) (by have := HI.out.2.2; omega) HPT.out).mono ?_
  rintro e w3 ⟨r, hlk, rfl, hb3⟩
  have HK3 := Lib.hid (HK2.out.same (hb3.out.block g1 HK2.out.lt))
  have HB3 := Lib.hid (HB2.out.trans (hb3.out.mono HB2.out.size))
  clear hb3 HK2 HB2 HPT
  go_upto_region 5 with (first
    | (refine wpList_store_row rfl _ _ _ rfl w3.heap.size _ rfl rfl 31 zeroC (heap_alloc_new w3 _) (by kernel_rfl) rfl (by simp [Value.oneCell']) ?_))
  obtain ⟨g3, hg3⟩ : ∃ g3, g3 = w3.heap.size := ⟨_, rfl⟩
  obtain ⟨w4, hw4⟩ : ∃ w4, w4 = (w3.alloc (.cells #[.bool false, .string ⟨#[]⟩, .float .f64 0] 31)).setRow w3.heap.size #[.bool nm, .string ⟨ns.toArray⟩, .float .f64 r] := ⟨_, rfl⟩
  have hb4 : Below w3.heap.size w3 w4 := by rw [hw4]; exact below_setRow ((Below.refl _ _).alloc (Nat.le_refl _) _) (Nat.le_refl _) _
  have HX4 : Hid (Blk w4 g3 31 #[.bool nm, .string ⟨ns.toArray⟩, .float .f64 r]) := Lib.hid (by rw [hw4, hg3]; exact setRow_heap _ _ _ _ _ _ (heap_alloc_new w3 _))
  have HK4 := Lib.hid (HK3.out.same (hb4.block g1 HK3.out.lt))
  have HB4 := Lib.hid (HB3.out.trans (hb4.mono HB3.out.size))
  rw [← hw4, ← hg3]
  clear hw4 hg3 hb4 HK3 HB3
  go_cut [17, 20, 85] (fun _ _ v wc => v = .bool false ∧ Hid (Below w.heap.size w wc))
  case first =>
    obtain ⟨NS, hNS⟩ : ∃ NS : ByteArray, NS = ⟨ns.toArray⟩ := ⟨_, rfl⟩
    have enn : ((n : Int) == (n : Int)) = true := by simp
    have ecc : ((c : Int) == (c : Int)) = true := by simp
    rw [← hNS] at HX4 HK4 ⊢
    have HSame := Lib.hid (same_yes nm NS x r w4 hlk.out (like_same hlk.out))
    by_cases hc : c = 0
    · clear HBD hNS
      go_wp2_with (first
        | (refine wpList_load_row rfl 27 _ rfl g1 rfl 27 #[.bool nm, .string NS, .float .f64 x] (0, 0) _ HK4.out Try.underlying27 rfl (by kernel_rfl) ?_)
        | (refine wpList_load_row rfl 31 _ rfl g3 rfl 31 #[.bool nm, .string NS, .float .f64 r] (0, 0) _ HX4.out Try.underlying31 rfl (by kernel_rfl) ?_))
      refine HSame.out.mono ?_
      rintro e w5 ⟨rfl, hb5⟩
      have HB5 := Lib.hid (HB4.out.trans (hb5.mono HB4.out.size))
      clear hb5
      go_wp2_with fail
      go_meet
      case rel => exact ⟨rfl, HB5⟩
    · obtain ⟨rfl, rfl⟩ := HBD.out hc
      subst hNS
      clear HBD
      go_wp2_with (first
        | (refine wpList_load_row rfl 27 _ rfl g1 rfl 27 #[.bool false, .string ⟨#[]⟩, .float .f64 x] (0, 0) _ HK4.out Try.underlying27 rfl (by kernel_rfl) ?_)
        | (refine wpList_load_row rfl 31 _ rfl g3 rfl 31 #[.bool false, .string ⟨#[]⟩, .float .f64 r] (0, 0) _ HX4.out Try.underlying31 rfl (by kernel_rfl) ?_))
      refine HSame.out.mono ?_
      rintro e w5 ⟨rfl, hb5⟩
      have HB5 := Lib.hid (HB4.out.trans (hb5.mono HB4.out.size))
      have k5 := HK4.out.same (hb5.block g1 HK4.out.lt)
      have d0 : w5.cell? ⟨g1, 0, none⟩ = some (.bool false) := k5.cell 0
      have d1 : w5.cell? ⟨g1, 1, none⟩ = some (.string ⟨#[]⟩) := k5.cell 1
      clear hb5 k5
      go_wp2_with fail
      go_meet
      case rel => exact ⟨rfl, HB5⟩
  obtain ⟨rfl, HBC⟩ := hcut
  go_upto_region 7 with (fail)
  obtain ⟨PC, hPC⟩ : ∃ PC, PC = putC a1 name := ⟨_, rfl⟩
  obtain ⟨PL, hPL⟩ : ∃ PL, PL = putL a1 name a3 := ⟨_, rfl⟩
  obtain ⟨WC, hWC⟩ : ∃ WC, WC = wrapC a1 name a6 := ⟨_, rfl⟩
  obtain ⟨WL, hWL⟩ : ∃ WL, WL = wrapL a1 name a3 l4 sum a6 := ⟨_, rfl⟩
  have HP := Lib.hid (fun w => put_both a1 name a3 w)
  have HQ := Lib.hid (fun w => rput_both a1 name a3 w (by have := HI.out.2.2; omega))
  have HW := Lib.hid (fun w h4 => wrap_both a1 name a3 a4 len4 cap4 l4 sum a6 w h4 (by have := HI.out.2.2; omega) h5 h6)
  have HV := Lib.hid (fun w h4 => rwrap_both a1 name a3 a4 len4 cap4 l4 sum a6 w h4 (by have := HI.out.2.2; omega) h5 h6 (by have := HI.out.2.2; omega))
  rw [← hPC, ← hPL] at HP HQ
  rw [← hWC, ← hWL] at HW HV
  have HT := Lib.hid (fun w => told_any w)
  have HI4 := Lib.hid (HI.out.2.1.below (Nat.le_refl _) HBC.out)
  clear hPC hPL hWC hWL HI HX4 HK4 HB4 hlk HBD
  go_wp2_with fail
  refine (HP.out _).mono ?_
  rintro e x1 ⟨p1, n1, c1, rfl, hby1, hb⟩
  have HI5 := Lib.hid (HI4.out.below (Nat.le_refl _) hb.out)
  have HB5 := Lib.hid (HBC.out.trans (hb.out.mono HBC.out.size))
  clear hb HP HI4 HBC
  go_wp2_with fail
  refine (HQ.out _).mono ?_
  rintro e x2 ⟨rfl, hb⟩
  have HI6 := Lib.hid (HI5.out.below (Nat.le_refl _) hb.out)
  have hby2 := Lib.hid (hby1.out.below (Nat.le_refl _) hb.out)
  have HB6 := Lib.hid (HB5.out.trans (hb.out.mono HB5.out.size))
  clear hb HQ HI5 HB5 hby1
  go_wp2_with fail
  refine (HW.out _ HI6.out).mono ?_
  rintro e x3 ⟨p3, n3, c3, rfl, hbz3, hb⟩
  have HI7 := Lib.hid (HI6.out.below (Nat.le_refl _) hb.out)
  have hby3 := Lib.hid (hby2.out.below (Nat.le_refl _) hb.out)
  have HB7 := Lib.hid (HB6.out.trans (hb.out.mono HB6.out.size))
  clear hb HW HI6 HB6 hby2
  go_wp2_with fail
  refine (HV.out _ HI7.out).mono ?_
  rintro e x4 ⟨rfl, hb⟩
  have hbz4 := Lib.hid (hbz3.out.below (Nat.le_refl _) hb.out)
  have hby4 := Lib.hid (hby3.out.below (Nat.le_refl _) hb.out)
  have HB8 := Lib.hid (HB7.out.trans (hb.out.mono HB7.out.size))
  clear hb HV HI7 HB7 hby3 hbz3
  go_wp2_with fail
  refine (HT.out _).mono ?_
  rintro e x5 ⟨rfl, hb⟩
  have hcv1 : (convert 22 9 (.slice p1 n1 c1)).run Try.prog x5 = .ok (.string ⟨PL.toArray⟩) x5 := run_string_bytes _ 22 9 5 Try.underlying22 Try.underlying5 Try.underlying9 (hby4.out.below (Nat.le_refl _) hb)
  have hcv2 : (convert 22 9 (.slice p3 n3 c3)).run Try.prog x5 = .ok (.string ⟨WL.toArray⟩) x5 := run_string_bytes _ 22 9 5 Try.underlying22 Try.underlying5 Try.underlying9 (hbz4.out.below (Nat.le_refl _) hb)
  have HB9 := Lib.hid (HB8.out.trans (hb.mono HB8.out.size))
  have epc : ((PC : Int) == (PC : Int)) = true := by simp
  have ewc : ((WC : Int) == (WC : Int)) = true := by simp
  obtain ⟨PS, hPS⟩ : ∃ PS : ByteArray, PS = ⟨PL.toArray⟩ := ⟨_, rfl⟩
  obtain ⟨WS, hWS⟩ : ∃ WS : ByteArray, WS = ⟨WL.toArray⟩ := ⟨_, rfl⟩
  rw [← hPS] at hcv1 ⊢
  rw [← hWS] at hcv2 ⊢
  have eps : (PS.toList == PS.toList) = true := by simp
  have ews : (WS.toList == WS.toList) = true := by simp
  clear hPS hWS hb HB8 hby4 hbz4 HT
  go_wp2_with fail
  go_ret
  exact ⟨rfl, HB9.out⟩
end Go.Proofs.Ytilfmmjjiiabgaa.GzC
