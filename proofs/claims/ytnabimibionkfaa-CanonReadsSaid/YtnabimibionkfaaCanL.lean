/-
  CanonCodes' law.
-/
import Derived.Test.YtnabimibionkfaaCanK
import Derived.Test.YtnabimibionkfaaCanG
namespace Go.Proofs.Ytnabimibionkfaa.CanC
open Go.RowKit Go.My BitMath CanMath RefC

theorem quiet_below (w : World) (n : Nat) : Below w.heap.size w (w.drewN n) := ⟨rfl, rfl, rfl, Nat.le_refl _, fun _ _ => rfl⟩
theorem code_quiet (v n k : Nat) (w : World) (h1 : 1 ≤ n) (hn : n ≤ 32) (hv : v < 4294967296) :
    Calls Try.prog 14 #[.int .u32 (v : Int), .int .i64 (n : Int)] (w.drewN k) fun e w'' => e = .returned (.string (txt (lows n v).reverse)) ∧ ∃ m, w'' = w.drewN m :=
  (refcode_any v n (w.drewN k) h1 hn hv).mono fun _ _ ⟨he, hm⟩ => ⟨he, k, hm.symm⟩

/-- What all calls answer where the lengths make no code. -/
structure Errs (zs : List Int) (q K X : Int) : Prop where
  ne : (q == 0) = false
  codes : ∀ a len cap w, RowIn w a len cap (zs.map iv) → Calls Try.prog 8 #[.slice a len cap] w fun e w' => e = .returned (.tuple #[.slice none 0 0, .int .i64 q]) ∧ Below w.heap.size w w'
  refcodes : ∀ a len cap w, RowIn w a len cap (zs.map iv) → Calls Try.prog 9 #[.slice a len cap] w fun e w' => e = .returned (.tuple #[.slice none 0 0, .int .i64 q]) ∧ w = w'
  kraft : ∀ a len cap w, RowIn w a len cap (zs.map iv) → Calls Try.prog 10 #[.slice a len cap] w fun e w' => e = .returned (.int .i64 K) ∧ Below w.heap.size w w'
  refkraft : ∀ a len cap w, RowIn w a len cap (zs.map iv) → Calls Try.prog 11 #[.slice a len cap] w fun e w' => e = .returned (.int .i64 K) ∧ w = w'
  kind : ∀ a len cap w, RowIn w a len cap (zs.map iv) → Calls Try.prog 12 #[.slice a len cap] w fun e w' => e = .returned (.int .i64 X) ∧ Below w.heap.size w w'
  refkind : ∀ a len cap w, RowIn w a len cap (zs.map iv) → Calls Try.prog 13 #[.slice a len cap] w fun e w' => e = .returned (.int .i64 X) ∧ w = w'
theorem errs_bad {zs : List Int} (h : ¬ Good zs) : Errs zs 7 (-1) 4 :=
  ⟨rfl, fun _ _ _ _ hr => codes_bad hr h, fun _ _ _ _ hr => refcodes_bad hr h, fun _ _ _ _ hr => kraft_bad hr h, fun _ _ _ _ hr => (refkraft_any hr).mono fun _ _ ⟨he, hw⟩ => ⟨he.2 h, hw⟩, fun _ _ _ _ hr => kind_bad hr h, fun _ _ _ _ hr => refkind_bad hr h⟩
theorem errs_over {zs : List Int} (h : Good zs) (hk : 32768 < kr (nat zs)) : Errs zs 2 ((kr (nat zs) : Nat) : Int) (kindN (nat zs)) :=
  ⟨rfl, fun _ _ _ _ hr => codes_over hr h hk, fun _ _ _ _ hr => refcodes_over hr h hk, fun _ _ _ _ hr => kraft_good hr h, fun _ _ _ _ hr => (refkraft_any hr).mono fun _ _ ⟨he, hw⟩ => ⟨he.1 h, hw⟩, fun _ _ _ _ hr => kind_good hr h, fun _ _ _ _ hr => refkind_good hr h⟩

section
variable {a : Option Addr} {len cap : Nat} {zs : List Int} {w : World}
set_option maxRecDepth 100000 in
set_option maxHeartbeats 8000000 in
theorem codes_law_err (q K X : Int) (h : RowIn w a len cap (zs.map iv)) (hE : Errs zs q K X) (hlen : len ≤ 320) :
    Calls Try.prog 3 #[.slice a len cap] w fun e w' => e = .returned (.bool true) ∧ Below w.heap.size w w' := by
  have hzl : zs.length = len := by have := h.len_eq; simpa using this
  have hlc := h.le_cap
  have hcl := h.cap_le
  have HZ := Lib.hid hzl
  have HR := Lib.hid h
  have HE := Lib.hid hE
  have hq := hE.ne
  clear h hzl hE
  go_enter Try.func3, Try.ntmps3
  have HN : Hid (OwnV 3 w.heap.size (w.alloc (.cells #[] 3)) (.slice (some ⟨w.heap.size, 0, none⟩) 0 0) []) := Lib.hid (OwnV.lit 3 w #[] (Nat.le_refl _) (by simp))
  have HR1 : Hid (RowIn (w.alloc (.cells #[] 3)) a len cap (zs.map iv)) := Lib.hid (HR.out.below (Nat.le_refl _) ((Below.refl _ w).alloc (Nat.le_refl _) _))
  have HB1 : Hid (Below w.heap.size w (w.alloc (.cells #[] 3))) := Lib.hid ((Below.refl _ w).alloc (Nat.le_refl _) _)
  go_wp2_with (at_builtin; refine wpList_append_row (by rfl) (.tmp 13) (.tmp 14) 22 rfl w.heap.size 3 (.int .i64 0) 8 Try.underlying22 info_int rfl (.slice (some ⟨w.heap.size, 0, none⟩) 0 0) [] rfl HN.out a len cap (zs.map iv) rfl HR1.out (iv_one _) (by simp; omega) (by simp; omega) (by simp) ?_)
  intro a2 c2 w2 hown2 hg2 _
  have HI2 : Hid (RowIn w2 a2 len c2 (zs.map iv)) := Lib.hid (OwnV.rowIn hown2 (by simp [HZ.out]))
  have HB2 : Hid (Below w.heap.size w w2) := Lib.hid (OwnV.grown HN.out HB1.out hg2 (by simp))
  clear hown2 hg2 HN HR1 HB1
  go_wp2_with fail
  refine (HE.out.codes _ _ _ _ HI2.out).mono ?_
  rintro e w3 ⟨rfl, hb3⟩
  have HB3 := Lib.hid (HB2.out.trans (hb3.mono HB2.out.size))
  have HI3 := Lib.hid (HI2.out.below (Nat.le_refl _) hb3)
  have HR3 := Lib.hid (HR.out.below (Nat.le_refl _) HB3.out)
  clear hb3 HB2 HI2
  go_wp2_with fail
  refine (HE.out.refcodes _ _ _ _ HR3.out).mono ?_
  rintro e w' ⟨rfl, rfl⟩
  go_wp2_with fail
  refine (HE.out.kraft _ _ _ _ HI3.out).mono ?_
  rintro e w4 ⟨rfl, hb4⟩
  have HB4 := Lib.hid (HB3.out.trans (hb4.mono HB3.out.size))
  have HI4 := Lib.hid (HI3.out.below (Nat.le_refl _) hb4)
  have HR4 := Lib.hid (HR.out.below (Nat.le_refl _) HB4.out)
  clear hb4 HB3 HI3 HR3
  go_wp2_with fail
  refine (HE.out.refkraft _ _ _ _ HR4.out).mono ?_
  rintro e w' ⟨rfl, rfl⟩
  go_wp2_with fail
  refine (HE.out.kind _ _ _ _ HI4.out).mono ?_
  rintro e w5 ⟨rfl, hb5⟩
  have HB5 := Lib.hid (HB4.out.trans (hb5.mono HB4.out.size))
  have HI5 := Lib.hid (HI4.out.below (Nat.le_refl _) hb5)
  have HR5 := Lib.hid (HR.out.below (Nat.le_refl _) HB5.out)
  clear hb5 HB4 HI4 HR4
  go_wp2_with fail
  refine (HE.out.refkind _ _ _ _ HR5.out).mono ?_
  rintro e w' ⟨rfl, rfl⟩
  clear HE
  go_wp2_with fail
  go_loopw [8] (fun i wr => ∃ k : Nat, k ≤ len ∧ i = .int .i64 (k : Int) ∧ Hid (Below w5.heap.size w5 wr)) (fun i _ => len - (intOf i).toNat)
  case atStart => exact ⟨0, Nat.zero_le _, rfl, Lib.hid (Below.refl _ _)⟩
  case round =>
    obtain ⟨k, hk, rfl, HW⟩ := hrel
    by_cases hlt : k < len
    · obtain ⟨b, off, rfl⟩ := HR.out.some_ (by omega)
      obtain ⟨b2, off2, rfl⟩ := HI5.out.some_ (by omega)
      have hkz : k < zs.length := by rw [HZ.out]; exact hlt
      have hc1 : wr.cell? ⟨b, off + k, none⟩ = some (.int .i64 zs[k]) := by
        rw [(HR5.out.below (Nat.le_refl _) HW.out).get k (by simpa using hkz)]
        simp [iv]
      have hc2 : wr.cell? ⟨b2, off2 + k, none⟩ = some (.int .i64 zs[k]) := by
        rw [(HI5.out.below (Nat.le_refl _) HW.out).get k (by simpa using hkz)]
        simp [iv]
      generalize zs[k] = z at *
      go_wp2_with fail
      go_quiet (fail)
      have HW2 : Hid (Below w5.heap.size w5 (wr.drewN nq)) := Lib.hid (HW.out.trans ((quiet_below wr nq).mono HW.out.size))
      generalize wr.drewN nq = w6 at *
      go_wp2_with fail
      go_roundw
      case rel => exact ⟨k + 1, by omega, by go_num, HW2⟩
      case measure => simp [intOf]; omega
    · obtain rfl : k = len := by omega
      go_wp2_with fail
      refine (told_any wr).mono ?_
      rintro e w' ⟨rfl, hb⟩
      have HB6 := Lib.hid ((HB5.out.trans (HW.out.mono HB5.out.size)).trans (hb.mono (Nat.le_trans HB5.out.size HW.out.size)))
      clear hb
      go_wp2_with fail
      go_ret
      exact ⟨rfl, HB6.out⟩

set_option maxRecDepth 100000 in
set_option maxHeartbeats 8000000 in
theorem codes_law_ok (h : RowIn w a len cap (zs.map iv)) (hg : Good zs) (hk : kr (nat zs) ≤ 32768) (hlen : len ≤ 320) :
    Calls Try.prog 3 #[.slice a len cap] w fun e w' => e = .returned (.bool true) ∧ Below w.heap.size w w' := by
  have hzl : zs.length = len := by have := h.len_eq; simpa using this
  have hlc := h.le_cap
  have hcl := h.cap_le
  have HZ := Lib.hid hzl
  have HR := Lib.hid h
  have HG := Lib.hid hg
  have HKR := Lib.hid hk
  have HLS : Hid ((nat zs).length = len) := Lib.hid (by rw [nat_len]; exact hzl)
  clear h hzl hg hk
  go_enter Try.func3, Try.ntmps3
  have HN : Hid (OwnV 3 w.heap.size (w.alloc (.cells #[] 3)) (.slice (some ⟨w.heap.size, 0, none⟩) 0 0) []) := Lib.hid (OwnV.lit 3 w #[] (Nat.le_refl _) (by simp))
  have HR1 : Hid (RowIn (w.alloc (.cells #[] 3)) a len cap (zs.map iv)) := Lib.hid (HR.out.below (Nat.le_refl _) ((Below.refl _ w).alloc (Nat.le_refl _) _))
  have HB1 : Hid (Below w.heap.size w (w.alloc (.cells #[] 3))) := Lib.hid ((Below.refl _ w).alloc (Nat.le_refl _) _)
  go_wp2_with (at_builtin; refine wpList_append_row (by rfl) (.tmp 13) (.tmp 14) 22 rfl w.heap.size 3 (.int .i64 0) 8 Try.underlying22 info_int rfl (.slice (some ⟨w.heap.size, 0, none⟩) 0 0) [] rfl HN.out a len cap (zs.map iv) rfl HR1.out (iv_one _) (by simp; omega) (by simp; omega) (by simp) ?_)
  intro a2 c2 w2 hown2 hg2 _
  have HI2 : Hid (RowIn w2 a2 len c2 (zs.map iv)) := Lib.hid (OwnV.rowIn hown2 (by simp [HZ.out]))
  have HB2 : Hid (Below w.heap.size w w2) := Lib.hid (OwnV.grown HN.out HB1.out hg2 (by simp))
  clear hown2 hg2 HN HR1 HB1
  go_wp2_with fail
  refine (codes_ok _ _ _ zs _ HI2.out HG.out HKR.out).mono ?_
  rintro e w3 ⟨gc, rfl, _, hown3, hb3⟩
  rw [HZ.out] at hown3 ⊢
  have HC3 : Hid (RowIn w3 (some ⟨gc, 0, none⟩) len len (allWords (nat zs))) := Lib.hid (hown3.rowIn (by rw [allWords_len, HLS.out]))
  have HB3 := Lib.hid (HB2.out.trans (hb3.mono HB2.out.size))
  have HI3 := Lib.hid (HI2.out.below (Nat.le_refl _) hb3)
  have HR3 := Lib.hid (HR.out.below (Nat.le_refl _) HB3.out)
  clear hb3 HB2 HI2 hown3
  go_wp2_with fail
  refine (refcodes_ok HR3.out HG.out HKR.out).mono ?_
  rintro e w4 ⟨gd, rfl, _, hown4, hb4⟩
  rw [HZ.out] at hown4 ⊢
  have HD4 : Hid (RowIn w4 (some ⟨gd, 0, none⟩) len len (texts (nat zs))) := Lib.hid (hown4.rowIn (by rw [texts_len, HLS.out]))
  have HC4 := Lib.hid (HC3.out.below (Nat.le_refl _) hb4)
  have HI4 := Lib.hid (HI3.out.below (Nat.le_refl _) hb4)
  have HB4 := Lib.hid (HB3.out.trans (hb4.mono HB3.out.size))
  have HR4 := Lib.hid (HR.out.below (Nat.le_refl _) HB4.out)
  clear hb4 HB3 HI3 HR3 HC3 hown4
  go_wp2_with fail
  refine (kraft_good HI4.out HG.out).mono ?_
  rintro e w5 ⟨rfl, hb5⟩
  have HB5 := Lib.hid (HB4.out.trans (hb5.mono HB4.out.size))
  have HI5 := Lib.hid (HI4.out.below (Nat.le_refl _) hb5)
  have HC5 := Lib.hid (HC4.out.below (Nat.le_refl _) hb5)
  have HD5 := Lib.hid (HD4.out.below (Nat.le_refl _) hb5)
  have HR5 := Lib.hid (HR.out.below (Nat.le_refl _) HB5.out)
  clear hb5 HB4 HI4 HR4 HC4 HD4
  go_wp2_with fail
  refine (refkraft_any HR5.out).mono ?_
  rintro e w' ⟨he, rfl⟩
  obtain rfl := he.1 HG.out
  clear he
  have HKL : Hid (kr (nat zs) ≤ 32768) := HKR
  generalize kr (nat zs) = K
  go_wp2_with fail
  refine (kind_good HI5.out HG.out).mono ?_
  rintro e w6 ⟨rfl, hb6⟩
  have HB6 := Lib.hid (HB5.out.trans (hb6.mono HB5.out.size))
  have HI6 := Lib.hid (HI5.out.below (Nat.le_refl _) hb6)
  have HC6 := Lib.hid (HC5.out.below (Nat.le_refl _) hb6)
  have HD6 := Lib.hid (HD5.out.below (Nat.le_refl _) hb6)
  have HR6 := Lib.hid (HR.out.below (Nat.le_refl _) HB6.out)
  clear hb6 HB5 HI5 HR5 HC5 HD5
  go_wp2_with fail
  refine (refkind_good HR6.out HG.out).mono ?_
  rintro e w' ⟨rfl, rfl⟩
  generalize kindN (nat zs) = X
  go_wp2_with fail
  go_loopw [8] (fun i wr => ∃ k : Nat, k ≤ len ∧ i = .int .i64 (k : Int) ∧ Hid (Below w6.heap.size w6 wr)) (fun i _ => len - (intOf i).toNat)
  case atStart => exact ⟨0, Nat.zero_le _, rfl, Lib.hid (Below.refl _ _)⟩
  case round =>
    obtain ⟨k, hk, rfl, HW⟩ := hrel
    by_cases hlt : k < len
    · obtain ⟨b, off, rfl⟩ := HR.out.some_ (by omega)
      obtain ⟨b2, off2, rfl⟩ := HI6.out.some_ (by omega)
      have hkz : k < zs.length := by rw [HZ.out]; exact hlt
      have hkn : k < (nat zs).length := by rw [HLS.out]; exact hlt
      have hc1 : wr.cell? ⟨b, off + k, none⟩ = some (.int .i64 zs[k]) := by
        rw [(HR6.out.below (Nat.le_refl _) HW.out).get k (by simpa using hkz)]
        simp [iv]
      have hc2 : wr.cell? ⟨b2, off2 + k, none⟩ = some (.int .i64 zs[k]) := by
        rw [(HI6.out.below (Nat.le_refl _) HW.out).get k (by simpa using hkz)]
        simp [iv]
      obtain ⟨n, hn⟩ : ∃ n : Nat, zs[k] = (n : Int) := ⟨zs[k].toNat, by have := HG.out.2 _ (List.getElem_mem hkz); omega⟩
      have hn2 : (nat zs)[k] = n := by rw [nat_get zs k hkz, hn]; rfl
      have hn15 : n ≤ 15 := by rw [← hn2]; exact HG.out.all _ (List.getElem_mem hkn)
      rw [hn] at hc1 hc2
      have hc3 : wr.cell? ⟨gc, k, none⟩ = some (uv (codeW (nat zs) k)) := by
        have := (HC6.out.below (Nat.le_refl _) HW.out).get k (by rw [allWords_len]; exact hkn)
        rw [Nat.zero_add, allWords_get _ k hkn] at this
        exact this
      have hc4 : wr.cell? ⟨gd, k, none⟩ = some (sv (nat zs) k) := by
        have := (HD6.out.below (Nat.le_refl _) HW.out).get k (by rw [texts_len]; exact hkn)
        rw [Nat.zero_add, texts_get _ k hkn] at this
        exact this
      have HCW := Lib.hid (codeW_eq (nat zs) k hkn)
      by_cases h0 : 0 < n
      · have hcl2 : codeN (nat zs) n k ≤ 98304 := codeN_le _ HG.out.all HKR.out (by rw [HLS.out]; omega) k n h0 hn15
        rw [HCW.out, hn2, if_neg (by omega)] at hc3
        unfold sv at hc4
        rw [bitsAt_eq _ k hkn, hn2] at hc4
        unfold uv at hc3
        clear hn hn2 HCW
        generalize codeN (nat zs) n k = x at *
        obtain ⟨t, ht⟩ : ∃ t, t = txt (lows n x).reverse := ⟨_, rfl⟩
        have hq := fun nq => code_quiet x n nq wr h0 (by omega) (by omega)
        rw [← ht] at hc4 hq
        have HQ := Lib.hid hq
        clear ht hq
        have hz0 : ((n : Int) == 0) = false := by simp; omega
        go_wp2_with fail
        go_quiet ((go_at_call 14; exact HQ.out _))
        have HW2 : Hid (Below w6.heap.size w6 (wr.drewN nq)) := Lib.hid (HW.out.trans ((quiet_below wr nq).mono HW.out.size))
        clear hc1 hc2 hc3 hc4 HQ hz0
        generalize wr.drewN nq = w7 at *
        go_wp2_with fail
        go_roundw
        case rel => exact ⟨k + 1, by omega, by go_num, HW2⟩
        case measure => simp [intOf]; omega
      · obtain rfl : n = 0 := by omega
        rw [HCW.out, hn2, if_pos rfl] at hc3
        unfold uv at hc3
        clear hn hn2 HCW hc4
        go_wp2_with fail
        go_quiet (fail)
        have HW2 : Hid (Below w6.heap.size w6 (wr.drewN nq)) := Lib.hid (HW.out.trans ((quiet_below wr nq).mono HW.out.size))
        clear hc1 hc2 hc3
        generalize wr.drewN nq = w7 at *
        go_wp2_with fail
        go_roundw
        case rel => exact ⟨k + 1, by omega, by go_num, HW2⟩
        case measure => simp [intOf]; omega
    · obtain rfl : k = len := by omega
      go_wp2_with fail
      refine (told_any wr).mono ?_
      rintro e w' ⟨rfl, hb⟩
      have HB7 := Lib.hid ((HB6.out.trans (HW.out.mono HB6.out.size)).trans (hb.mono (Nat.le_trans HB6.out.size HW.out.size)))
      clear hb
      go_wp2_with fail
      go_ret
      exact ⟨rfl, HB7.out⟩

set_option maxRecDepth 100000 in
set_option maxHeartbeats 2000000 in
theorem codes_law_big (hlen : 320 < len) (hl : len ≤ 9223372036854775807) :
    Calls Try.prog 3 #[.slice a len cap] w fun e w' => e = .returned (.bool true) ∧ Below w.heap.size w w' := by
  go_enter Try.func3, Try.ntmps3
  go_wp2_with fail
  refine (told_any w).mono ?_
  rintro e w' ⟨rfl, hb⟩
  have HB := Lib.hid hb
  clear hb
  go_wp2_with fail
  go_ret
  exact ⟨rfl, HB.out⟩
theorem codes_law (h : RowIn w a len cap (zs.map iv)) :
    Calls Try.prog 3 #[.slice a len cap] w fun e w' => e = .returned (.bool true) ∧ Below w.heap.size w w' := by
  by_cases hb : 320 < len
  · exact codes_law_big hb (Nat.le_trans h.le_cap h.cap_le)
  · by_cases hg : Good zs
    · by_cases hk : kr (nat zs) ≤ 32768
      · exact codes_law_ok h hg hk (by omega)
      · exact codes_law_err _ _ _ h (errs_over hg (by omega)) (by omega)
    · exact codes_law_err _ _ _ h (errs_bad hg) (by omega)
end
end Go.Proofs.Ytnabimibionkfaa.CanC
