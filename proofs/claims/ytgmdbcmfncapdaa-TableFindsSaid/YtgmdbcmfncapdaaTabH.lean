/-
  TableFinds' law.
-/
import Derived.Test.YtgmdbcmfncapdaaTabG
namespace Go.Proofs.Ytgmdbcmfncapdaa.TabC
open Go.RowKit Go.My BitMath CanMath TabMath CanC RefC

theorem cl_eq2 (n : Int) : ∃ k : Int, (if 15 < n then (15 : Int) else n) = k ∧ (if (0 : Int) < k then k else (0 : Int)) = ((cl n : Nat) : Int) := by
  unfold cl
  refine ⟨if 15 < n then (15 : Int) else n, rfl, ?_⟩
  split <;> split <;> omega
theorem bits_any (v : Nat) (n : Int) (w : World) (hv : v < 4294967296) :
    Calls Try.prog 12 #[.int .u32 (v : Int), .int .i64 n] w fun e w' => e = .returned (.string (txt (lows (cl n) v))) ∧ w = w' := by
  have hc := cl_le n
  obtain ⟨k, h1, h2⟩ := cl_eq2 n
  generalize cl n = m at *
  go_enter Try.func12, Try.ntmps12
  go_wp2_with fail
  by_cases h0 : 1 ≤ m
  · refine (refput_any v m w h0 (by omega) hv).mono ?_
    rintro e w' ⟨rfl, rfl⟩
    obtain ⟨t, ht⟩ : ∃ t, t = txt (lows m v) := ⟨_, rfl⟩
    rw [← ht]
    have HT := Lib.hid ht
    clear ht
    go_wp2_with fail
    go_ret
    exact ⟨ret_str HT.out, rfl⟩
  · obtain rfl : m = 0 := by omega
    refine (refput_no (v : Int) ((0 : Nat) : Int) w (by omega)).mono ?_
    rintro e w' ⟨rfl, rfl⟩
    go_wp2_with fail
    go_ret
    exact ⟨rfl, rfl⟩

/-- New and the document's Codes where the lengths make no code. -/
structure NErr2 (zs : List Int) (q : Int) : Prop extends NErr zs q where
  ref : ∀ a len cap w, RowIn w a len cap (zs.map iv) → Calls Try.prog 8 #[.slice a len cap] w fun e w' => e = .returned (.tuple #[.slice none 0 0, .int .i64 q]) ∧ w = w'
theorem nerr2_bad {zs : List Int} (h : ¬ CanC.Good zs) : NErr2 zs 7 := ⟨nerr_bad h, fun _ _ _ _ hr => refcodes_bad hr h⟩
theorem nerr2_over {zs : List Int} (h : CanC.Good zs) (hk : 32768 < kr (nat zs)) : NErr2 zs 2 := ⟨nerr_over h hk, fun _ _ _ _ hr => refcodes_over hr h hk⟩

section
variable {a : Option Addr} {len cap : Nat} {zs : List Int} {w : World} {a1 : Option Addr} {len1 cap1 : Nat} {ys : List Nat}
set_option maxRecDepth 100000 in
set_option maxHeartbeats 2000000 in
theorem finds_big (f n : Int) (hlen : 320 < len) (hl : len ≤ 9223372036854775807) :
    Calls Try.prog 3 #[.slice a len cap, .int .i64 f, .slice a1 len1 cap1, .int .i64 n] w fun e w' => e = .returned (.bool true) ∧ Below w.heap.size w w' := by
  go_enter Try.func3, Try.ntmps3
  go_wp2_with fail
  refine (told_any w).mono ?_
  rintro e w' ⟨rfl, hb⟩
  have HB := Lib.hid hb
  clear hb
  go_wp2_with fail
  go_ret
  exact ⟨rfl, HB.out⟩
set_option maxRecDepth 100000 in
set_option maxHeartbeats 4000000 in
theorem finds_err (f n q : Int) (h : RowIn w a len cap (zs.map iv)) (hE : NErr2 zs q) (hlen : len ≤ 320) :
    Calls Try.prog 3 #[.slice a len cap, .int .i64 f, .slice a1 len1 cap1, .int .i64 n] w fun e w' => e = .returned (.bool true) ∧ Below w.heap.size w w' := by
  have HR := Lib.hid h
  have HE := Lib.hid hE
  have hq := hE.ne
  have hq2 : (q != 0) = true := by simp at hq ⊢; exact hq
  clear h hE
  go_enter Try.func3, Try.ntmps3
  go_wp2_with fail
  refine (HE.out.new _ _ _ _ _ HR.out).mono ?_
  rintro e w2 ⟨rfl, hb⟩
  have HB2 := Lib.hid hb
  have HR2 := Lib.hid (HR.out.below (Nat.le_refl _) hb)
  clear hb HR
  go_wp2_with fail
  refine (HE.out.ref _ _ _ _ HR2.out).mono ?_
  rintro e w' ⟨rfl, rfl⟩
  clear HR2 HE
  go_wp2_with fail
  refine (find_nil 0 3 w2).mono ?_
  rintro e w' ⟨rfl, rfl⟩
  go_wp2_with fail
  refine (told_any w2).mono ?_
  rintro e w3 ⟨rfl, hb⟩
  have HB3 := Lib.hid (HB2.out.trans (hb.mono HB2.out.size))
  clear hb HB2
  go_wp2_with fail
  refine (size_nil w3).mono ?_
  rintro e w' ⟨rfl, rfl⟩
  go_wp2_with fail
  go_ret
  exact ⟨rfl, HB3.out⟩
set_option maxRecDepth 100000 in
set_option maxHeartbeats 4000000 in
theorem finds_arg (f n : Int) (h : RowIn w a len cap (zs.map iv)) (hg : CanC.Good zs) (hk : kr (nat zs) ≤ 32768) (hf : f < 1 ∨ 15 < f) (hlen : len ≤ 320) :
    Calls Try.prog 3 #[.slice a len cap, .int .i64 f, .slice a1 len1 cap1, .int .i64 n] w fun e w' => e = .returned (.bool true) ∧ Below w.heap.size w w' := by
  have HR := Lib.hid h
  have HG := Lib.hid hg
  have HK := Lib.hid hk
  have HF := Lib.hid hf
  clear h hg hk hf
  go_enter Try.func3, Try.ntmps3
  go_wp2_with fail
  refine (new_arg f HR.out HG.out HK.out HF.out).mono ?_
  rintro e w2 ⟨rfl, hb⟩
  have HB2 := Lib.hid hb
  have HR2 := Lib.hid (HR.out.below (Nat.le_refl _) hb)
  clear hb HR
  go_wp2_with fail
  refine (refcodes_ok HR2.out HG.out HK.out).mono ?_
  rintro e w3 ⟨gd, rfl, _, _, hb⟩
  have HB3 := Lib.hid (HB2.out.trans (hb.mono HB2.out.size))
  clear hb HB2 HR2
  have hcut := HF.out
  rcases hcut with h1 | h1
  · have d1 : decide (f < 1) = true := by simp; omega
    go_wp2_with fail
    refine (find_nil 0 3 w3).mono ?_
    rintro e w' ⟨rfl, rfl⟩
    go_wp2_with fail
    refine (told_any w3).mono ?_
    rintro e w4 ⟨rfl, hb⟩
    have HB4 := Lib.hid (HB3.out.trans (hb.mono HB3.out.size))
    clear hb HB3
    go_wp2_with fail
    refine (size_nil w4).mono ?_
    rintro e w' ⟨rfl, rfl⟩
    go_wp2_with fail
    go_ret
    exact ⟨rfl, HB4.out⟩
  · have d1 : decide (f < 1) = false := by simp; omega
    have d2 : decide (f > 15) = true := by simp; omega
    go_wp2_with fail
    refine (find_nil 0 3 w3).mono ?_
    rintro e w' ⟨rfl, rfl⟩
    go_wp2_with fail
    refine (told_any w3).mono ?_
    rintro e w4 ⟨rfl, hb⟩
    have HB4 := Lib.hid (HB3.out.trans (hb.mono HB3.out.size))
    clear hb HB3
    go_wp2_with fail
    refine (size_nil w4).mono ?_
    rintro e w' ⟨rfl, rfl⟩
    go_wp2_with fail
    go_ret
    exact ⟨rfl, HB4.out⟩

set_option maxRecDepth 100000 in
set_option maxHeartbeats 16000000 in
theorem finds_ok (f : Nat) (n : Int) (h : RowIn w a len cap (zs.map iv)) (h1 : RowIn w a1 len1 cap1 (ys.map CanC.uv)) (hy : ∀ y ∈ ys, y < 4294967296) (hg : CanC.Good zs) (hk : kr (nat zs) ≤ 32768) (hf1 : 1 ≤ f) (hf : f ≤ 15) (hlen : len ≤ 320) :
    Calls Try.prog 3 #[.slice a len cap, .int .i64 (f : Int), .slice a1 len1 cap1, .int .i64 n] w fun e w' => e = .returned (.bool true) ∧ Below w.heap.size w w' := by
  have hzl : zs.length = len := by have := h.len_eq; simpa using this
  have hyl : ys.length = len1 := by have := h1.len_eq; simpa using this
  have hl1 : len1 ≤ 9223372036854775807 := Nat.le_trans h1.le_cap h1.cap_le
  have HZ := Lib.hid hzl
  have HYL := Lib.hid hyl
  have HLS : Hid ((nat zs).length = len) := Lib.hid (by rw [nat_len]; exact hzl)
  have HR := Lib.hid h
  have HR1 := Lib.hid h1
  have HY := Lib.hid hy
  have HG := Lib.hid hg
  have HK := Lib.hid hk
  have d1 : decide ((f : Int) < 1) = false := by simp; omega
  have d2 : decide ((f : Int) > 15) = false := by simp; omega
  clear h h1 hy hg hk hzl hyl
  go_enter Try.func3, Try.ntmps3
  go_wp2_with fail
  refine (new_ok f HR.out HG.out HK.out hf1 hf).mono ?_
  rintro e w2 ⟨g, rfl, ht, hb⟩
  have HB2 := Lib.hid hb
  have HT2 := Lib.hid ht
  have HR2 := Lib.hid (HR.out.below (Nat.le_refl _) hb)
  clear hb ht HR
  go_wp2_with fail
  refine (refcodes_ok HR2.out HG.out HK.out).mono ?_
  rintro e w3 ⟨gd, rfl, _, hown, hb⟩
  rw [HZ.out] at hown ⊢
  have HB3 := Lib.hid (HB2.out.trans (hb.mono HB2.out.size))
  have HT3 := Lib.hid (HT2.out.below hb)
  have HC3 : Hid (RowIn w3 (some ⟨gd, 0, none⟩) len len (texts (nat zs))) := Lib.hid (hown.rowIn (by rw [texts_len, HLS.out]))
  have HL3 := Lib.hid (HR1.out.below (Nat.le_refl _) HB3.out)
  clear hb hown HB2 HT2 HR2 HR1
  go_wp2_with fail
  clear d1 d2
  go_loopw [16, 17, 18, 19, 20, 21, 22, 23, 24, 25, 26, 27, 28, 29] (fun i _ _ _ _ _ _ _ _ _ _ _ _ _ wr => ∃ k : Nat, k ≤ len1 ∧ k ≤ 40 ∧ i = .int .i64 (k : Int) ∧ Hid (Below w3.heap.size w3 wr)) (fun i _ _ _ _ _ _ _ _ _ _ _ _ _ _ => 40 - (intOf i).toNat)
  case atStart => exact ⟨0, Nat.zero_le _, by omega, rfl, Lib.hid (Below.refl _ _)⟩
  case round =>
    obtain ⟨k, hk, hk40, rfl, HW⟩ := hrel
    by_cases hlt : k < len1 ∧ k < 40
    · obtain ⟨hlt, hlt40⟩ := hlt
      obtain ⟨b1, off1, rfl⟩ := HL3.out.some_ (by omega)
      have hky : k < ys.length := by rw [HYL.out]; exact hlt
      have hyk := HY.out ys[k] (List.getElem_mem hky)
      have HCY : Hid (∀ w', Below w3.heap.size w3 w' → w'.cell? ⟨b1, off1 + k, none⟩ = some (.int .u32 ((ys[k] : Nat) : Int))) := Lib.hid (fun w' hb => by
        rw [(HL3.out.below (Nat.le_refl _) hb).get k (by simpa using hky), List.getElem_map]; rfl)
      generalize ys[k] = v at *
      have hd : decide ((k : Int) < 40) = true := by simp; omega
      go_wp2_with fail
      clear hd
      go_loopw [17, 18, 19, 20, 21, 22, 23] (fun i _ _ _ _ _ _ wr => ∃ q : Nat, q ≤ 16 ∧ i = .int .i64 (q : Int) ∧ Hid (Below w3.heap.size w3 wr)) (fun i _ _ _ _ _ _ _ => 16 - (intOf i).toNat)
      case atStart => exact ⟨0, by omega, rfl, HW⟩
      case round =>
        clear HW
        obtain ⟨q, hq, rfl, HW⟩ := hrel
        by_cases hq15 : q ≤ 15
        · have hd : decide ((q : Int) ≤ 15) = true := by simp; omega
          have hcy := HCY.out _ HW.out
          obtain ⟨r1, r2, r3, hr⟩ := ansV_tuple (who (nat zs) (v % 2 ^ cl (q : Int))) (cl (q : Int))
          have HA := Lib.hid hr
          clear hr
          go_wp2_with fail
          refine (find_is (v := v) (n := (q : Int)) (HT3.out.below HW.out) HG.out HK.out hf1 hf hyk).mono ?_
          rw [HA.out]
          rintro e w5 ⟨rfl, hb⟩
          have HW5 := Lib.hid (HW.out.trans (hb.mono HW.out.size))
          have hcy5 := HCY.out _ HW5.out
          clear hb hcy HW
          go_wp2_with fail
          refine (bits_any v (q : Int) w5 hyk).mono ?_
          rintro e w' ⟨rfl, rfl⟩
          obtain ⟨t, ht⟩ : ∃ t, t = txt (lows (cl (q : Int)) v) := ⟨_, rfl⟩
          rw [← ht]
          have HTX := Lib.hid ht
          clear ht
          go_wp2_with fail
          refine (reffind_any v (cl (q : Int)) t (HC3.out.below (Nat.le_refl _) HW5.out) HTX.out (cl_le _) HG.out HK.out HLS.out).mono ?_
          rw [HA.out]
          rintro e w' ⟨rfl, rfl⟩
          clear HA HTX hcy5
          go_wp2_with fail
          go_roundw
          case rel => exact ⟨q + 1, by omega, by go_num, HW5⟩
          case measure => simp [intOf]; omega
        · have hd : decide ((q : Int) ≤ 15) = false := by simp; omega
          have hcy := HCY.out _ HW.out
          obtain ⟨r1, r2, r3, hr⟩ := ansV_tuple (who (nat zs) (v % 2 ^ cl n)) (cl n)
          have HA := Lib.hid hr
          clear hr
          go_wp2_with fail
          refine (find_is (v := v) (n := n) (HT3.out.below HW.out) HG.out HK.out hf1 hf hyk).mono ?_
          rw [HA.out]
          rintro e w5 ⟨rfl, hb⟩
          have HW5 := Lib.hid (HW.out.trans (hb.mono HW.out.size))
          have hcy5 := HCY.out _ HW5.out
          clear hb hcy HW hd
          go_wp2_with fail
          refine (bits_any v n w5 hyk).mono ?_
          rintro e w' ⟨rfl, rfl⟩
          obtain ⟨t, ht⟩ : ∃ t, t = txt (lows (cl n) v) := ⟨_, rfl⟩
          rw [← ht]
          have HTX := Lib.hid ht
          clear ht
          go_wp2_with fail
          refine (reffind_any v (cl n) t (HC3.out.below (Nat.le_refl _) HW5.out) HTX.out (cl_le _) HG.out HK.out HLS.out).mono ?_
          rw [HA.out]
          rintro e w' ⟨rfl, rfl⟩
          clear HA HTX hcy5
          go_wp2_with fail
          go_roundw
          case rel => exact ⟨k + 1, by omega, by omega, by go_num, HW5⟩
          case measure => simp [intOf]; omega
    · go_upto_region 13 with (fail)
      go_cut [90] (fun v wc => v = .bool false ∧ wc = wr)
      case first =>
        by_cases hkl : k < len1
        · have hd : decide ((k : Int) < 40) = false := by simp; omega
          go_wp2_with fail
          go_meet
          case rel => exact ⟨rfl, rfl⟩
        · have hd : decide (k < len1) = false := by simp; omega
          go_wp2_with fail
          go_meet
          case rel => exact ⟨rfl, rfl⟩
      obtain ⟨rfl, rfl⟩ := hcut
      have HT4 := Lib.hid (HT3.out.below HW.out)
      have hS := S_top (nat zs) f hf HG.out.all
      have hp := pow_le15 hf
      have hp2 : (2 : Int) ^ f = ((2 ^ f : Nat) : Int) := by push_cast; rfl
      obtain ⟨s, hs⟩ : ∃ s, s = S (nat zs) f (2 ^ f) := ⟨_, rfl⟩
      rw [← hs] at hS
      have HSE := Lib.hid hs
      clear hs
      obtain ⟨P, hP⟩ : ∃ P, P = 2 ^ f := ⟨_, rfl⟩
      rw [← hP] at hS hp hp2
      clear hP
      have g6 : (s : Int) ≤ 32768 + (P : Int) := by omega
      have g1 : IntKind.u64.wrap (f : Int) = (f : Int) := by rw [IntKind.wrap_u64]; omega
      have g3 : min f 64 = f := by omega
      have g4 : IntKind.i64.wrap (2 ^ f) = (P : Int) := by rw [hp2, IntWalk.i64_in _ (by omega)]
      have g5 : (1 : Int) * 2 ^ f = (P : Int) := by rw [hp2]; omega
      go_wp2_with fail
      refine (told_any wc).mono ?_
      rintro e w6 ⟨rfl, hb⟩
      have HB6 := Lib.hid ((HB3.out.trans (HW.out.mono HB3.out.size)).trans (hb.mono (Nat.le_trans HB3.out.size HW.out.size)))
      have HT6 := Lib.hid (HT4.out.below hb)
      clear hb HT4
      go_wp2_with fail
      refine (size_is HT6.out).mono ?_
      rw [← HSE.out]
      rintro e w' ⟨rfl, rfl⟩
      go_wp2_with fail
      refine (size_is HT6.out).mono ?_
      rw [← HSE.out]
      rintro e w' ⟨rfl, rfl⟩
      go_wp2_with fail
      go_ret
      exact ⟨rfl, HB6.out⟩
theorem finds_law (f n : Int) (h : RowIn w a len cap (zs.map iv)) (h1 : RowIn w a1 len1 cap1 (ys.map CanC.uv)) (hy : ∀ y ∈ ys, y < 4294967296) :
    Calls Try.prog 3 #[.slice a len cap, .int .i64 f, .slice a1 len1 cap1, .int .i64 n] w fun e w' => e = .returned (.bool true) ∧ Below w.heap.size w w' := by
  by_cases hb : 320 < len
  · exact finds_big f n hb (Nat.le_trans h.le_cap h.cap_le)
  · by_cases hg : CanC.Good zs
    · by_cases hk : kr (nat zs) ≤ 32768
      · by_cases hf : f < 1 ∨ 15 < f
        · exact finds_arg f n h hg hk hf (by omega)
        · obtain ⟨m, rfl⟩ : ∃ m : Nat, f = (m : Int) := ⟨f.toNat, by omega⟩
          exact finds_ok m n h h1 hy hg hk (by omega) (by omega) (by omega)
      · exact finds_err f n _ h (nerr2_over hg (by omega)) (by omega)
    · exact finds_err f n _ h (nerr2_bad hg) (by omega)
end
end Go.Proofs.Ytgmdbcmfncapdaa.TabC
