/-
  The document's Put and Wrap.
-/
import Derived.Test.YtilfmmjjiiabgaaGzH
import Derived.Test.YtilfmmjjiiabgaaClkEd
namespace Go.Proofs.Ytilfmmjjiiabgaa.GzC
open Go.RowKit Go.My GzMath
open Go.My.NumMath (bytesOf)

theorem lit_four (w : World) (c : UInt8) : (convert 22 9 (.slice (some ⟨w.heap.size, 0, none⟩) 4 4)).run Try.prog (w.alloc (.cells #[.int .u8 31, .int .u8 139, .int .u8 8, .int .u8 (c.toNat : Int)] 5)) = .ok (.string ⟨#[31, 139, 8, c]⟩) (w.alloc (.cells #[.int .u8 31, .int .u8 139, .int .u8 8, .int .u8 (c.toNat : Int)] 5)) ∧
    Bytes (w.alloc (.cells #[.int .u8 31, .int .u8 139, .int .u8 8, .int .u8 (c.toNat : Int)] 5)) (some ⟨w.heap.size, 0, none⟩) 4 4 [31, 139, 8, c] := by
  have hb : Bytes (w.alloc (.cells #[.int .u8 31, .int .u8 139, .int .u8 8, .int .u8 (c.toNat : Int)] 5)) (some ⟨w.heap.size, 0, none⟩) 4 4 [31, 139, 8, c] := by
    refine ⟨rfl, Nat.le_refl _, by omega, (fun h => by cases h), .inr ⟨w.heap.size, 0, rfl, by simp, fun i hi => ?_⟩⟩
    rw [cell_of_row _ _ _ _ _ _ (heap_alloc_new w _)]
    have : i = 0 ∨ i = 1 ∨ i = 2 ∨ i = 3 := by simp at hi; omega
    rcases this with rfl | rfl | rfl | rfl <;> rfl
  exact ⟨run_string_bytes _ 22 9 5 Try.underlying22 Try.underlying5 Try.underlying9 hb, hb⟩
set_option maxRecDepth 100000 in
set_option maxHeartbeats 2000000 in
theorem rput_any (named : Bool) (name : List UInt8) (t : Nat) (w : World) (hl : name.length ≤ 1099511627776) :
    Calls Try.prog 10 #[.agg #[.bool named, .string ⟨name.toArray⟩, .float .f64 t]] w fun e w' => e = .returned (if badH named name then .tuple #[.string ⟨#[]⟩, .int .i64 1] else .tuple #[.string ⟨(putH named name (uT t)).toArray⟩, .int .i64 0]) ∧ Below w.heap.size w w' := by
  have hsz : (⟨name.toArray⟩ : ByteArray).size = name.length := by simp [ByteArray.size]
  obtain ⟨g, hg⟩ : ∃ g, g = w.heap.size := ⟨_, rfl⟩
  obtain ⟨w1, hw1⟩ : ∃ w1, w1 = w.alloc (.cells #[.bool named, .string ⟨name.toArray⟩, .float .f64 t] 31) := ⟨_, rfl⟩
  have hk : Blk w1 g 31 #[.bool named, .string ⟨name.toArray⟩, .float .f64 t] := by rw [hw1, hg]; exact Blk.new _ _ _
  have HB1 : Hid (Below w.heap.size w w1) := Lib.hid (by rw [hw1]; exact (Below.refl _ _).alloc (Nat.le_refl _) _)
  have HK := Lib.hid hk
  have c0 : w1.cell? ⟨g, 0, none⟩ = some (.bool named) := hk.cell 0
  have c1 : w1.cell? ⟨g, 1, none⟩ = some (.string ⟨name.toArray⟩) := hk.cell 1
  by_cases hA : named = false ∧ name ≠ []
  · obtain ⟨rfl, hne⟩ := hA
    have hstr : (name == []) = false := by simpa using hne
    have HBD : Hid (badH false name = true) := Lib.hid (by unfold badH; simp [hne])
    rw [HBD.out, if_pos rfl]
    go_enter Try.func10, Try.ntmps10
    go_upto_region 1 with (fail)
    rw [← hw1, ← hg]
    clear hw1 hg
    go_wp2_with fail
    go_ret2
    exact ⟨rfl, HB1.out⟩
  by_cases hB : 65535 < name.length
  · have hnm : named = true := by
      cases named
      · exfalso
        have hn : name = [] := Classical.byContradiction fun h => hA ⟨rfl, h⟩
        subst hn
        simp at hB
      · rfl
    subst hnm
    have hgt : decide ((name.length : Int) > 65535) = true := by simp; omega
    have HBD : Hid (badH true name = true) := Lib.hid (by unfold badH; rw [decide_eq_true hB]; simp)
    rw [HBD.out, if_pos rfl]
    go_enter Try.func10, Try.ntmps10
    go_upto_region 1 with (fail)
    rw [← hw1, ← hg]
    clear hw1 hg
    go_wp2_with fail
    go_ret2
    exact ⟨rfl, HB1.out⟩
  have hgt : decide ((name.length : Int) > 65535) = false := by simp; omega
  have HN : Hid (named = false → name = []) := Lib.hid (fun hn => Classical.byContradiction fun h => hA ⟨hn, h⟩)
  have HBD : Hid (badH named name = hasZ name) := Lib.hid (by
    unfold badH
    rw [decide_eq_false hB]
    cases named
    · rw [HN.out rfl]; rfl
    · simp)
  have hB' : name.length ≤ 65535 := by omega
  clear hA hB hk
  rw [HBD.out]
  obtain ⟨Ans, hAns⟩ : ∃ Ans, Ans = (if hasZ name = true then Value.tuple #[.string ⟨#[]⟩, .int .i64 1] else .tuple #[.string ⟨(putH named name (uT t)).toArray⟩, .int .i64 0]) := ⟨_, rfl⟩
  rw [← hAns]
  have HZ1 : Hid (hasZ name = true → Ans = .tuple #[.string ⟨#[]⟩, .int .i64 1]) := Lib.hid (fun h => by rw [hAns, if_pos h])
  have HZ0 : Hid (hasZ name = false → Ans = .tuple #[.string ⟨(putH named name (uT t)).toArray⟩, .int .i64 0]) := Lib.hid (fun h => by rw [hAns, if_neg (by rw [h]; decide)])
  have HUX := Lib.hid (fun w => ClkC.refunix_any t w)
  simp only [uT_eq] at HUX
  have huL := uT_le t
  clear hAns
  go_enter Try.func10, Try.ntmps10
  go_upto_region 1 with (fail)
  rw [← hw1, ← hg]
  have HWG := Lib.hid (And.intro hw1 hg)
  clear hw1 hg
  cases named
  · obtain rfl := HN.out rfl
    have HA : Hid (Ans = .tuple #[.string ⟨(putH false [] (uT t)).toArray⟩, .int .i64 0]) := Lib.hid (HZ0.out rfl)
    clear HZ0 HZ1 hgt
    go_upto_region 4 with (fail)
    go_loop [4] (fun i => i = .int .i64 0) (fun _ => 0)
    case atStart => rfl
    case round =>
      obtain rfl := hrel
      go_upto_region 13 with (fail)
      have hw1 : True := trivial
      obtain ⟨S1, hS1⟩ : ∃ S1 : ByteArray, S1 = ⟨#[31, 139, 8, 0]⟩ := ⟨_, rfl⟩
      obtain ⟨S2, hS2⟩ : ∃ S2 : ByteArray, S2 = ⟨(bytesOf false 4 (uT t)).toArray⟩ := ⟨_, rfl⟩
      have z1 : S1.size = 4 := by rw [hS1]; rfl
      have z2 : S2.size = 4 := by rw [hS2]; simp [ByteArray.size, Go.My.NumMath.bytesOf_len]
      have k1 := (lit_four w1.drew 0).1
      have kb := (lit_four w1.drew 0).2
      have kW := fun W => (lit_four W 0).1
      rw [show ((0 : UInt8).toNat : Int) = 0 from rfl] at k1 kb
      simp only [show ((0 : UInt8).toNat : Int) = 0 from rfl] at kW
      rw [← hS1] at k1
      simp only [← hS1] at kW
      have k1' : (convert 22 9 (.slice (some ⟨w1.heap.size, 0, none⟩) 4 4)).run Try.prog (w1.alloc (.cells #[.int .u8 31, .int .u8 139, .int .u8 8, .int .u8 0] 5)).drew = .ok (.string S1) (w1.alloc (.cells #[.int .u8 31, .int .u8 139, .int .u8 8, .int .u8 0] 5)).drew := k1
      have d0 : w1.cell? ⟨g, 2, none⟩ = some (.float .f64 t) := HK.out.cell 2
      have e1 : ∀ o, (w1.alloc o).cell? ⟨g, 2, none⟩ = some (.float .f64 t) := fun o => Go.Lib.cell?_alloc_marked o d0
      have wu : IntKind.u64.wrap (uT t : Int) = (uT t : Int) := IntWalk.u64_in _ (by omega)
      have B1 : Hid (Calls Try.prog 13 #[.int .u64 (uT t : Int), .int .i64 4, .bool false] (w1.alloc (.cells #[.int .u8 31, .int .u8 139, .int .u8 8, .int .u8 0] 5)).drew fun e w' => e = .returned (.string S2) ∧ Hid (Below w.heap.size w w') ∧ (convert 22 9 (.slice (some ⟨w1.heap.size, 0, none⟩) 4 4)).run Try.prog w' = .ok (.string S1) w') := Lib.hid ((NumC.bytes_any (uT t) 4 false _ (by omega) (by omega)).mono fun e w' ⟨h1, h2⟩ => ⟨by rw [h1, hS2], Lib.hid (HB1.out.trans (((((Below.refl w1.heap.size w1).alloc (Nat.le_refl _) _).drew).trans (h2.mono (by simp))).mono HB1.out.size)), by
        rw [hS1]
        exact run_string_bytes _ 22 9 5 Try.underlying22 Try.underlying5 Try.underlying9 (kb.below (Nat.le_refl _) h2)⟩)
      have B2 : Hid (Calls Try.prog 13 #[.int .u64 (uT t : Int), .int .i64 4, .bool false] w1.drew fun e w' => e = .returned (.string S2) ∧ Hid (Below w.heap.size w w') ∧ (convert 22 9 (.slice (some ⟨w'.heap.size, 0, none⟩) 4 4)).run Try.prog (w'.alloc (.cells #[.int .u8 31, .int .u8 139, .int .u8 8, .int .u8 0] 5)) = .ok (.string S1) (w'.alloc (.cells #[.int .u8 31, .int .u8 139, .int .u8 8, .int .u8 0] 5)) ∧ Hid (Below w.heap.size w (w'.alloc (.cells #[.int .u8 31, .int .u8 139, .int .u8 8, .int .u8 0] 5)))) := Lib.hid ((NumC.bytes_any (uT t) 4 false _ (by omega) (by omega)).mono fun e w' ⟨h1, h2⟩ => ⟨by rw [h1, hS2], Lib.hid (HB1.out.trans ((((Below.refl w1.heap.size w1).drew).trans h2).mono HB1.out.size)), kW w', Lib.hid ((HB1.out.trans ((((Below.refl w1.heap.size w1).drew).trans h2).mono HB1.out.size)).alloc (by have h5 := HB1.out.size; have h6 := h2.size; have h7 : w1.drew.heap.size = w1.heap.size := rfl; omega) _)⟩)
      have HS12 : Hid (((S1 ++ S2) ++ (⟨#[0, 255]⟩ : ByteArray)) ++ ((⟨#[]⟩ : ByteArray)) = ⟨(putH false [] (uT t)).toArray⟩) := Lib.hid (by
        subst hS1 hS2
        apply ByteArray.ext
        unfold putH flagB
        simp)
      clear hS1 hS2 k1 kb kW hw1
      have hcat : ¬ 9223372036854775807 < 10 + 0 := by omega
      generalize uT t = ut at *
      go_region_law (first
        | (go_simp; go_at_call 26; refine (HUX.out _).mono ?_; rintro e wx ⟨rfl, rfl⟩)
        | (go_simp; go_at_call 13; first
          | (with_reducible refine B1.out.mono ?_; rintro e wx ⟨rfl, hbx, kx⟩)
          | (with_reducible refine B2.out.mono ?_; rintro e wx ⟨rfl, hbx, kx, hby⟩)))
      all_goals
        go_wp2_with fail
        go_ret2
        first
          | exact ⟨by rw [HA.out, ← HS12.out]; rfl, hbx.out⟩
          | exact ⟨by rw [HA.out, ← HS12.out]; rfl, hby.out⟩
  · go_upto_region 4 with (fail)
    have loopless : True := trivial
    go_loop [4] (fun i => ∃ k : Nat, k ≤ name.length ∧ i = .int .i64 (k : Int) ∧ Hid (k ≤ zer name)) (fun i => name.length - (intOf i).toNat)
    case atStart => exact ⟨0, Nat.zero_le _, rfl, Lib.hid (Nat.zero_le _)⟩
    case round =>
      obtain ⟨k, hk, rfl, HZ⟩ := hrel
      by_cases hlt : k < name.length
      · have hd : decide ((k : Int) < (name.length : Int)) = true := by simp; omega
        have hks : k < (⟨name.toArray⟩ : ByteArray).size := by rw [hsz]; exact hlt
        have hbx : ((⟨name.toArray⟩ : ByteArray)[k]'hks) = name.getD k 0 := by
          rw [List.getD, List.getElem?_eq_getElem hlt]
          rfl
        by_cases hz : name.getD k 0 = 0
        · have e1 : ((((⟨name.toArray⟩ : ByteArray)[k]'hks).toNat : Int) == 0) = true := by rw [hbx, hz]; rfl
          have hzz : zer name = k := by
            have := HZ.out
            by_cases h : k < zer name
            · exact absurd hz (zer_at name k h)
            · omega
          have HA : Hid (Ans = .tuple #[.string ⟨#[]⟩, .int .i64 1]) := Lib.hid (HZ1.out (by unfold hasZ; rw [hzz]; exact decide_eq_true hlt))
          clear hbx hz hzz
          go_wp2_with fail
          go_ret2
          exact ⟨by rw [HA.out]; rfl, HB1.out⟩
        · have e1 : ((((⟨name.toArray⟩ : ByteArray)[k]'hks).toNat : Int) == 0) = false := by
            rw [hbx]
            have : (name.getD k 0).toNat ≠ 0 := fun h => hz (UInt8.toNat_inj.1 (by rw [h]; rfl))
            simp only [beq_eq_false_iff_ne, ne_eq]
            omega
          have hzz : k + 1 ≤ zer name := by
            have := HZ.out
            by_cases h : k = zer name
            · exact absurd (by rw [h]; exact zer_zero name (by omega)) hz
            · omega
          have HZZ := Lib.hid hzz
          clear hbx hz hzz
          go_wp2_with fail
          go_round
          case rel => exact ⟨k + 1, by omega, by go_num, HZZ⟩
          case measure => simp [intOf]; omega
      · obtain rfl : k = name.length := by omega
        have HA : Hid (Ans = .tuple #[.string ⟨(putH true name (uT t)).toArray⟩, .int .i64 0]) := Lib.hid (HZ0.out (by unfold hasZ; exact decide_eq_false (by have := HZ.out; omega)))
        have hge : decide ((name.length : Int) < (name.length : Int)) = false := by simp
        clear HZ0 HZ1 HZ
        go_upto_region 13 with (fail)
        have hw1 : True := trivial
        obtain ⟨S1, hS1⟩ : ∃ S1 : ByteArray, S1 = ⟨#[31, 139, 8, 8]⟩ := ⟨_, rfl⟩
        obtain ⟨S2, hS2⟩ : ∃ S2 : ByteArray, S2 = ⟨(bytesOf false 4 (uT t)).toArray⟩ := ⟨_, rfl⟩
        have z1 : S1.size = 4 := by rw [hS1]; rfl
        have z2 : S2.size = 4 := by rw [hS2]; simp [ByteArray.size, Go.My.NumMath.bytesOf_len]
        have k1 := (lit_four w1.drew 8).1
        have kb := (lit_four w1.drew 8).2
        have kW := fun W => (lit_four W 8).1
        rw [show ((8 : UInt8).toNat : Int) = 8 from rfl] at k1 kb
        simp only [show ((8 : UInt8).toNat : Int) = 8 from rfl] at kW
        rw [← hS1] at k1
        simp only [← hS1] at kW
        have k1' : (convert 22 9 (.slice (some ⟨w1.heap.size, 0, none⟩) 4 4)).run Try.prog (w1.alloc (.cells #[.int .u8 31, .int .u8 139, .int .u8 8, .int .u8 8] 5)).drew = .ok (.string S1) (w1.alloc (.cells #[.int .u8 31, .int .u8 139, .int .u8 8, .int .u8 8] 5)).drew := k1
        have d0 : w1.cell? ⟨g, 2, none⟩ = some (.float .f64 t) := HK.out.cell 2
        have e1 : ∀ o, (w1.alloc o).cell? ⟨g, 2, none⟩ = some (.float .f64 t) := fun o => Go.Lib.cell?_alloc_marked o d0
        have wu : IntKind.u64.wrap (uT t : Int) = (uT t : Int) := IntWalk.u64_in _ (by omega)
        have B1 : Hid (Calls Try.prog 13 #[.int .u64 (uT t : Int), .int .i64 4, .bool false] (w1.alloc (.cells #[.int .u8 31, .int .u8 139, .int .u8 8, .int .u8 8] 5)).drew fun e w' => e = .returned (.string S2) ∧ Hid (Below w.heap.size w w') ∧ (convert 22 9 (.slice (some ⟨w1.heap.size, 0, none⟩) 4 4)).run Try.prog w' = .ok (.string S1) w') := Lib.hid ((NumC.bytes_any (uT t) 4 false _ (by omega) (by omega)).mono fun e w' ⟨h1, h2⟩ => ⟨by rw [h1, hS2], Lib.hid (HB1.out.trans (((((Below.refl w1.heap.size w1).alloc (Nat.le_refl _) _).drew).trans (h2.mono (by simp))).mono HB1.out.size)), by
          rw [hS1]
          exact run_string_bytes _ 22 9 5 Try.underlying22 Try.underlying5 Try.underlying9 (kb.below (Nat.le_refl _) h2)⟩)
        have B2 : Hid (Calls Try.prog 13 #[.int .u64 (uT t : Int), .int .i64 4, .bool false] w1.drew fun e w' => e = .returned (.string S2) ∧ Hid (Below w.heap.size w w') ∧ (convert 22 9 (.slice (some ⟨w'.heap.size, 0, none⟩) 4 4)).run Try.prog (w'.alloc (.cells #[.int .u8 31, .int .u8 139, .int .u8 8, .int .u8 8] 5)) = .ok (.string S1) (w'.alloc (.cells #[.int .u8 31, .int .u8 139, .int .u8 8, .int .u8 8] 5)) ∧ Hid (Below w.heap.size w (w'.alloc (.cells #[.int .u8 31, .int .u8 139, .int .u8 8, .int .u8 8] 5)))) := Lib.hid ((NumC.bytes_any (uT t) 4 false _ (by omega) (by omega)).mono fun e w' ⟨h1, h2⟩ => ⟨by rw [h1, hS2], Lib.hid (HB1.out.trans ((((Below.refl w1.heap.size w1).drew).trans h2).mono HB1.out.size)), kW w', Lib.hid ((HB1.out.trans ((((Below.refl w1.heap.size w1).drew).trans h2).mono HB1.out.size)).alloc (by have h5 := HB1.out.size; have h6 := h2.size; have h7 : w1.drew.heap.size = w1.heap.size := rfl; omega) _)⟩)
        have HS12 : Hid (((S1 ++ S2) ++ (⟨#[0, 255]⟩ : ByteArray)) ++ ((⟨name.toArray⟩ : ByteArray) ++ ⟨#[0]⟩) = ⟨(putH true name (uT t)).toArray⟩) := Lib.hid (by
          subst hS1 hS2
          apply ByteArray.ext
          unfold putH flagB
          simp)
        clear hS1 hS2 k1 kb kW hw1
        have hcat : ¬ 9223372036854775807 < 10 + (name.length + 1) := by omega
        generalize uT t = ut at *
        go_region_law (first
          | (go_simp; go_at_call 26; refine (HUX.out _).mono ?_; rintro e wx ⟨rfl, rfl⟩)
          | (go_simp; go_at_call 13; first
            | (with_reducible refine B1.out.mono ?_; rintro e wx ⟨rfl, hbx, kx⟩)
            | (with_reducible refine B2.out.mono ?_; rintro e wx ⟨rfl, hbx, kx, hby⟩)))
        all_goals
          go_wp2_with fail
          go_ret2
          first
            | exact ⟨by rw [HA.out, ← HS12.out]; rfl, hbx.out⟩
            | exact ⟨by rw [HA.out, ← HS12.out]; rfl, hby.out⟩
end Go.Proofs.Ytilfmmjjiiabgaa.GzC
