/-
  LzWide's law.
-/
import Derived.Test.YtfjngfkehccigaaLzL1
namespace Go.Proofs.Ytfjngfkehccigaa.LzC
open Go.RowKit Go.My LzMath WinMath WinC

theorem own_get {E : TypeId} {B : Nat} {w : World} {aa : Option Addr} {n c : Nat} {L : List UInt8} (h : Own E B w (.slice aa n c) L) (hl : L.length = n) (i : Nat) (hi : i < n) (x : UInt8) (hx : L[i]? = some x) :
    ∃ ga, aa = some ⟨ga, 0, none⟩ ∧ w.cell? ⟨ga, i, none⟩ = some (.int .u8 (x.toNat : Int)) := by
  obtain ⟨ga, c', h1, _⟩ := h.some_ (by omega)
  simp only [Value.slice.injEq] at h1
  obtain ⟨rfl, -, -⟩ := h1
  refine ⟨ga, rfl, ?_⟩
  rw [own_cell h hl i (by omega)]
  rw [List.getElem?_eq_getElem (by omega)] at hx
  injection hx with hx
  rw [hx]
  rfl

set_option maxRecDepth 100000 in
set_option maxHeartbeats 8000000 in
theorem wide_all (a : Option Addr) (len c : Nat) (f : Nat → Tok) (w : World) (h : TokIn w a len c f) :
    Calls Try.prog 5 #[.slice a len c] w fun e w' => e = .returned (.bool true) ∧ Below w.heap.size w w' := by
  have H := Lib.hid h
  have hlc := h.le_cap
  have hcm := h.cap_le
  clear h
  go_enter Try.func5, Try.ntmps5
  go_wp2_with fail
  refine (few_any a len c f w H.out).mono ?_
  obtain ⟨q, hq⟩ : ∃ q, q = few f len := ⟨_, rfl⟩
  rw [← hq]
  have HQ := Lib.hid hq
  clear hq
  rintro e w' ⟨rfl, rfl⟩
  cases q
  · go_wp2_with fail
    refine (told_any w).mono ?_
    rintro e w2 ⟨rfl, hb⟩
    go_wp2_with fail
    go_ret
    exact ⟨rfl, hb⟩
  · have hF := few_tot HQ.out.symm
    obtain ⟨K, hE⟩ := ends_any false f len
    have HE := Lib.hid hE
    clear hE HQ
    by_cases hK : K < len
    · obtain ⟨K2, hE2⟩ := ends_any true f len
      have HE2 := Lib.hid hE2
      clear hE2
      go_wp2_with fail
      refine (expand_no false a len c f K w H.out HE.out hK (by omega)).mono ?_
      rintro e w2 ⟨rfl, HB2⟩
      have H2 := Lib.hid (H.out.below (Nat.le_refl _) HB2.out)
      go_wp2_with fail
      refine (expand_r true a len c f K2 w2 H2.out HE2.out (by omega)).mono ?_
      generalize outAt len K2 = A at *
      generalize outE len K2 = E at *
      rintro e w3 ⟨a1, n1, c1, rfl, -, hb⟩
      have HB3 := Lib.hid (HB2.out.trans (hb.out.mono HB2.out.size))
      clear hb HB2 H2 HE HE2
      go_wp2_with fail
      refine (told_any w3).mono ?_
      rintro e w4 ⟨rfl, hb⟩
      go_wp2_with fail
      go_ret
      exact ⟨rfl, HB3.out.trans (hb.mono HB3.out.size)⟩
    · obtain rfl : K = len := by have := HE.out.le; omega
      have HE2 : Hid (EndsT true f K K) := Lib.hid ⟨Nat.le_refl _, good_wide HE.out.good, fun h => by omega⟩
      obtain ⟨T, hT⟩ : ∃ T, T = tot f K := ⟨_, rfl⟩
      rw [← hT] at hF
      have HT := Lib.hid hT
      have HL : Hid ((ex f K).length = T) := Lib.hid (by rw [ex_len, hT])
      clear hT
      go_wp2_with fail
      refine (expand_ok false a K c f w H.out HE.out (by rw [← HT.out]; omega)).mono ?_
      rw [← HT.out]
      rintro e w2 ⟨a1, c1, rfl, HO1, HB2⟩
      have H2 := Lib.hid (H.out.below (Nat.le_refl _) HB2.out)
      go_wp2_with fail
      refine (expand_ok true a K c f w2 H2.out HE2.out (by rw [← HT.out]; omega)).mono ?_
      rw [← HT.out]
      rintro e w3 ⟨a2, c2, rfl, HO2, hb⟩
      have HO3 := Lib.hid (HO1.out.below (Nat.le_refl _) hb.out)
      have HB3 := Lib.hid (HB2.out.trans (hb.out.mono HB2.out.size))
      have H3 := Lib.hid (H2.out.below (Nat.le_refl _) hb.out)
      have cv1 := conv_any HO3.out
      have cv2 := conv_any HO2.out
      clear hb H2 HB2 HO1 HE2 HO2
      go_wp2_with fail
      clear cv1 cv2
      go_loopw [9, 10] (fun av i wr => ∃ k : Nat, k ≤ K ∧ i = .int .i64 (k : Int) ∧ av = .int .i64 (tot f k : Int) ∧ Hid (Below w3.heap.size w3 wr)) (fun _ i _ => K - (intOf i).toNat)
      case atStart => exact ⟨0, Nat.zero_le _, rfl, rfl, Lib.hid (Below.refl _ _)⟩
      case round =>
        obtain ⟨k, hk, rfl, rfl, HB⟩ := hrel
        by_cases hlt : k < K
        · obtain ⟨b, off, rfl, ho⟩ := (H3.out.below (Nat.le_refl _) HB.out).get hlt
          obtain ⟨k0, k1, k2, hbl, wf⟩ := ho
          have hok := HE.out.good k hlt
          have hm := tot_mono f (k + 1) K hlt
          rw [← HT.out] at hm
          have HOr := Lib.hid (HO3.out.below (Nat.le_refl _) HB.out)
          by_cases h0 : (f k).len = 0
          · obtain ⟨ch, hfk, -, htk⟩ := lit_nums hok h0
            obtain ⟨hl1, hl2⟩ := lit_at f k K hlt h0
            rw [hfk] at k0 k1 k2 hl2
            simp only at k0 k1 k2 hl2
            rw [HL.out] at hl1
            obtain ⟨ga, rfl, hx⟩ := own_get HOr.out HL.out _ hl1 ch hl2
            have HTK := Lib.hid htk
            obtain ⟨N, hN⟩ : ∃ N, N = tot f k := ⟨_, rfl⟩
            rw [← hN] at HTK hx hl1 ⊢
            have hNT : decide (T ≤ N) = false := by simp; omega
            have hNb : N ≤ 1000000 := by omega
            clear hl2 h0 hfk htk hok hm hN wf
            go_upto_region 14 with (fail)
            go_quiet (fail)
            have HBq : Hid (Below w3.heap.size w3 (wr.drewN nq)) := Lib.hid (below_drewN HB.out nq)
            clear hx k0 k1 k2 HB HOr
            generalize wr.drewN nq = w4 at *
            go_wp2_with fail
            go_roundw
            case rel => exact ⟨k + 1, by omega, by go_num, by rw [HTK.out]; go_num, HBq⟩
            case measure => simp [intOf]; omega
          · obtain ⟨d, n, hfk, hn3, hn, hd1, hdS, hdN, -, htk⟩ := mat_nums hok h0
            have hmat := fun j => mat_at f k K j hlt h0 (by rw [hfk]; simp only; omega) hok.2
            rw [hfk] at k0 k1 k2 hmat
            simp only [Int.toNat_natCast, Int.ofNat_lt] at k0 k1 k2 hmat
            have HTK := Lib.hid htk
            obtain ⟨N, hN⟩ : ∃ N, N = tot f k := ⟨_, rfl⟩
            rw [← hN] at HTK hmat htk hdN ⊢
            have HMAT := Lib.hid hmat
            have hn0 : ((n : Int) == 0) = false := by simp; omega
            have hNb : N + n ≤ 1000000 := by omega
            have HH := Lib.hid (And.intro k0 (And.intro k1 hbl))
            clear hmat h0 hfk htk hok hm hN wf
            go_wp2_with fail
            clear k0 k1 k2
            generalize wr = u at *
            go_loopw [9, 11] (fun av j wx => ∃ i : Nat, i ≤ n ∧ j = .int .i64 (i : Int) ∧ av = .int .i64 ((N + i : Nat) : Int) ∧ Hid (Below u.heap.size u wx)) (fun _ j _ => n - (intOf j).toNat)
            case atStart => exact ⟨0, Nat.zero_le _, rfl, rfl, Lib.hid (Below.refl _ _)⟩
            case round =>
              obtain ⟨i, hi, rfl, rfl, HB2⟩ := hrel
              have k0 : wr.cell? ⟨b, off + k * 3, none⟩ = some (.int .i64 (n : Int)) := by rw [HB2.out.cell (p := ⟨b, off + k * 3, none⟩) HH.out.2.2]; exact HH.out.1
              by_cases hin : i < n
              · have k1 : wr.cell? ⟨b, off + k * 3 + 1, none⟩ = some (.int .i64 (d : Int)) := by rw [HB2.out.cell (p := ⟨b, off + k * 3 + 1, none⟩) HH.out.2.2]; exact HH.out.2.1
                obtain ⟨m1, m2, m3⟩ := HMAT.out i hin
                rw [HL.out] at m1
                obtain ⟨P, hP⟩ : ∃ P, P = N + i := ⟨_, rfl⟩
                rw [← hP] at m1 m2 m3 ⊢
                obtain ⟨I, hI⟩ : ∃ I, I = P - d := ⟨_, rfl⟩
                rw [← hI] at m3
                obtain ⟨x, hx⟩ : ∃ x, (ex f K)[P]? = some x := ⟨_, List.getElem?_eq_getElem (by rw [HL.out]; exact m1)⟩
                have HOw := Lib.hid (HOr.out.below (Nat.le_refl _) HB2.out)
                obtain ⟨ga, rfl, y1⟩ := own_get HOw.out HL.out P m1 x hx
                obtain ⟨ga', hga, y2⟩ := own_get HOw.out HL.out I (by omega) x (by rw [← m3]; exact hx)
                simp only [Option.some.injEq, Addr.mk.injEq, and_true] at hga
                subst hga
                have hPT : decide (T ≤ P) = false := by simp; omega
                have hPb : P ≤ 1000000 := by omega
                have hIP : (P : Int) - (d : Int) = (I : Int) := by omega
                have hIT : I < T := by omega
                have hI0 : decide ((I : Int) < 0) = false := by simp
                have HP := Lib.hid hP
                clear m3 hI hx HOw hP
                go_upto_region 20 with (fail)
                go_quiet (fail)
                have HBq : Hid (Below u.heap.size u (wr.drewN nq)) := Lib.hid (below_drewN HB2.out nq)
                clear k0 k1 y1 y2 HB2
                generalize wr.drewN nq = w4 at *
                go_wp2_with fail
                go_roundw
                case rel => exact ⟨i + 1, by omega, by go_num, by rw [← Nat.add_assoc, ← HP.out]; go_num, HBq⟩
                case measure => simp [intOf]; omega
              · obtain rfl : i = n := by omega
                have HBq : Hid (Below w3.heap.size w3 wr) := Lib.hid (HB.out.trans (HB2.out.mono HB.out.size))
                clear HB2 HB
                go_wp2_with fail
                go_roundw
                case rel => exact ⟨k + 1, by omega, by go_num, by rw [HTK.out], HBq⟩
                case measure => simp [intOf]; omega
        · obtain rfl : k = K := by omega
          go_wp2_with fail
          refine (told_any wr).mono ?_
          rintro e w4 ⟨rfl, hb⟩
          rw [← HT.out]
          go_wp2_with fail
          go_ret
          exact ⟨rfl, HB3.out.trans ((HB.out.trans (hb.mono HB.out.size)).mono HB3.out.size)⟩
end Go.Proofs.Ytfjngfkehccigaa.LzC
