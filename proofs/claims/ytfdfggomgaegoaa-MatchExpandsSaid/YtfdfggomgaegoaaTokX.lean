/-
  The document's own Expand of right tokens, with any limit.
-/
import Derived.Test.YtfdfggomgaegoaaTok
namespace Go.Proofs.Ytfdfggomgaegoaa.LzC
open Go.RowKit Go.My LzMath WinMath

/-- What the document's Expand hands back of right tokens. -/
def RGood (f : Nat → Tok) (len most : Nat) (w : World) (e : Ending) (w' : World) : Prop :=
  Below w.heap.size w w' ∧ (tot f len ≤ most ∧ (∃ a c, e = .returned (.tuple #[.slice a (tot f len) c, .int .i64 0, .int .i64 0]) ∧ Own 5 w.heap.size w' (.slice a (tot f len) c) (ex f len)) ∨ most < tot f len ∧ ∃ k : Nat, e = .returned (.tuple #[.slice none 0 0, .int .i64 (k : Int), .int .i64 3]))

set_option maxRecDepth 100000 in
set_option maxHeartbeats 16000000 in
theorem rexpand_good (wide : Bool) (most : Nat) (hmost : most ≤ 1073741824) (a : Option Addr) (len c : Nat) (f : Nat → Tok) (w : World) (h : TokIn w a len c f) (hE : GoodT wide f len) (ht : tot f len ≤ 1000000) :
    Calls Try.prog 16 #[.slice a len c, .bool wide, .int .i64 (most : Int)] w (RGood f len most w) := by
  have H := Lib.hid h
  have hlc := h.le_cap
  have hcm := h.cap_le
  have HE := Lib.hid hE
  have H0 : Hid (Ro w w none (tot f 0) 0 (ex f 0)) := Lib.hid ⟨Own.nil _ _ _, rfl, Below.refl _ _⟩
  clear h hE
  go_enter Try.func16, Try.ntmps16
  go_wp2_with fail
  go_loopw [9, 10] (fun ov i wr => ∃ (k : Nat) (aa : Option Addr) (ca : Nat), k ≤ len ∧ tot f k ≤ most ∧ i = .int .i64 (k : Int) ∧ ov = .slice aa (tot f k) ca ∧ Hid (Ro w wr aa (tot f k) ca (ex f k))) (fun _ i _ => len - (intOf i).toNat)
  case atStart => exact ⟨0, none, 0, Nat.zero_le _, Nat.zero_le _, rfl, rfl, H0⟩
  case round =>
    clear H0
    obtain ⟨k, aa, ca, hk, hkm, rfl, rfl, HK⟩ := hrel
    by_cases hlt : k < len
    · obtain ⟨b, off, rfl, ho⟩ := (H.out.below (Nat.le_refl _) HK.out.below).get hlt
      obtain ⟨c0, c1, c2, hbl, wf⟩ := ho
      have hm := tot_mono f (k + 1) len hlt
      have hT1 : tot f (k + 1) ≤ 1000000 := by omega
      have hT0 : tot f k ≤ 1000000 := Nat.le_trans (tot_mono f k (k + 1) (by omega)) hT1
      have hel := ex_len f k
      obtain ⟨X, hX⟩ : ∃ X, X = wr.alloc (.cells (tc (f k)) 45) := ⟨_, rfl⟩
      have HBL : Hid (Blk X wr.heap.size 45 (tc (f k))) := Lib.hid (by rw [hX]; exact Blk.new wr _ _)
      have HX : Hid (Ro w X aa (tot f k) ca (ex f k)) := Lib.hid (by rw [hX]; exact HK.out.later ((Below.refl _ _).alloc (Nat.le_refl _) _))
      clear HK wf
      have hok := HE.out k hlt
      have HMY : Hid (decide (May wide (f k)) = true) := Lib.hid (by simpa using hok.1)
      by_cases h0 : (f k).len = 0
      · obtain ⟨ch, hfk, hex, htk⟩ := lit_nums hok h0
        have HFK := Lib.hid hfk
        have HEX := Lib.hid hex
        have HTK := Lib.hid htk
        rw [hfk] at c0 c1 c2 hX HBL
        unfold tc at hX HBL
        simp only at c0 c1 c2 hX HBL
        obtain ⟨N, hN⟩ : ∃ N, N = tot f k := ⟨_, rfl⟩
        rw [← hN] at HTK HX hel hT0 hkm ⊢
        have HEL := Lib.hid hel
        have HMO := Lib.hid hm
        clear h0 hfk hex htk hok hel hN hT1 hm
        go_upto_region 6 with (fail)
        rw [← hX]
        clear hX c0 c1 c2 hbl
        generalize wr.heap.size = g at *
        have x0 : X.cell? ⟨g, 0, none⟩ = some (.int .i64 0) := HBL.out.cell 0
        have x1 : X.cell? ⟨g, 1, none⟩ = some (.int .i64 0) := HBL.out.cell 1
        have x2 : X.cell? ⟨g, 2, none⟩ = some (.int .u8 (ch.toNat : Int)) := HBL.out.cell 2
        go_wp2_with fail
        refine (rmay_any wide ⟨0, 0, ch⟩ X).mono ?_
        rw [← HFK.out, HMY.out]
        rintro e w3 ⟨rfl, hb⟩
        have HB3 : Hid (Blk w3 g 45 #[.int .i64 0, .int .i64 0, .int .u8 (ch.toNat : Int)]) := Lib.hid (HBL.out.same (hb.block g HBL.out.lt))
        have H3 := Lib.hid (HX.out.later hb)
        clear x0 x1 x2 hb HBL HX
        have x0 : w3.cell? ⟨g, 0, none⟩ = some (.int .i64 0) := HB3.out.cell 0
        have x1 : w3.cell? ⟨g, 1, none⟩ = some (.int .i64 0) := HB3.out.cell 1
        have x2 : w3.cell? ⟨g, 2, none⟩ = some (.int .u8 (ch.toNat : Int)) := HB3.out.cell 2
        by_cases hov : N + 1 ≤ most
        · have hnb : ¬ ((most : Int) - (N : Int) < 1) := by omega
          have HOV := Lib.hid hov
          clear hov
          have hB : w.heap.size ≤ w3.heap.size := H3.out.below.size
          have ho3 : Own 5 w.heap.size (w3.alloc (.cells #[.int .u8 (ch.toNat : Int)] 5)) (.slice aa N ca) (ex f k) := (H3.out.later ((Below.refl _ _).alloc (Nat.le_refl _) _)).own
          have hb1 : Bytes (w3.alloc (.cells #[.int .u8 (ch.toNat : Int)] 5)) (some ⟨w3.heap.size, 0, none⟩) 1 1 [ch] := one_bytes 5 w3 ch
          have HO := Lib.hid ho3
          have HB1 := Lib.hid hb1
          clear ho3 hb1
          go_wp2_with (at_builtin; refine wpList_append_lie (by rfl) (.tmp 49) (.tmp 52) 22 (by rfl) w.heap.size 5 Try.underlying22 RefC.info5 (.slice aa N ca) (ex f k) (by rfl) HO.out (some ⟨w3.heap.size, 0, none⟩) 1 1 [ch] (by rfl) HB1.out (by rw [HEL.out]; omega) (by simp; omega) ?_)
          rw [HEL.out]
          intro a4 c4 w4 hown hgrow hnext
          have H4 : Hid (Ro w w4 a4 (tot f (k + 1)) c4 (ex f (k + 1))) := Lib.hid (by
            rw [HEX.out, HTK.out]
            exact H3.out.app hown hgrow)
          clear H3 HO HB1 HB3 x0 x1 x2 hown hgrow hnext
          go_wp2_with fail
          go_roundw
          case rel => exact ⟨k + 1, a4, c4, by omega, by rw [HTK.out]; exact HOV.out, by go_num, by rw [HTK.out], H4⟩
          case measure => simp [intOf]; omega
        · have hnb : (most : Int) - (N : Int) < 1 := by omega
          have HOV := Lib.hid hov
          clear hov
          go_wp2_with fail
          go_ret3
          exact ⟨H3.out.below, .inr ⟨by have := HMO.out; have := HTK.out; have := HOV.out; omega, k, rfl⟩⟩
      · obtain ⟨d, n, hfk, hn3, hn, hd1, hdS, hdN, hex, htk⟩ := mat_nums hok h0
        obtain ⟨ch, hch⟩ : ∃ ch : UInt8, ch = 0 := ⟨_, rfl⟩
        rw [← hch] at hfk
        have HFK := Lib.hid hfk
        have HEX := Lib.hid hex
        have HTK := Lib.hid htk
        rw [hfk] at c0 c1 c2 hX HBL
        unfold tc at hX HBL
        simp only at c0 c1 c2 hX HBL
        obtain ⟨N, hN⟩ : ∃ N, N = tot f k := ⟨_, rfl⟩
        rw [← hN] at HTK HX hel hT0 hdN hkm ⊢
        have HMO := Lib.hid hm
        have hNn : N + n ≤ 1000000 := by omega
        have HEL := Lib.hid hel
        have hn0 : ((n : Int) == 0) = false := by simp; omega
        have hdl : decide (N < d) = false := by simp; omega
        have hnm : ¬ (n : Int) < 1 := by omega
        clear h0 hfk hex htk hok hel hN hT1 hch hm
        go_upto_region 6 with (fail)
        rw [← hX]
        clear hX c0 c1 c2 hbl
        generalize wr.heap.size = g at *
        have x0 : X.cell? ⟨g, 0, none⟩ = some (.int .i64 (n : Int)) := HBL.out.cell 0
        have x1 : X.cell? ⟨g, 1, none⟩ = some (.int .i64 (d : Int)) := HBL.out.cell 1
        have x2 : X.cell? ⟨g, 2, none⟩ = some (.int .u8 (ch.toNat : Int)) := HBL.out.cell 2
        go_wp2_with fail
        refine (rmay_any wide ⟨n, d, ch⟩ X).mono ?_
        rw [← HFK.out, HMY.out]
        rintro e w3 ⟨rfl, hb⟩
        have HB3 : Hid (Blk w3 g 45 #[.int .i64 (n : Int), .int .i64 (d : Int), .int .u8 (ch.toNat : Int)]) := Lib.hid (HBL.out.same (hb.block g HBL.out.lt))
        have H3 := Lib.hid (HX.out.later hb)
        clear x0 x1 x2 hb HBL HX
        by_cases hov : N + n ≤ most
        · have hnb : decide ((most : Int) - (N : Int) < (n : Int)) = false := by simp; omega
          have HOV := Lib.hid hov
          clear hov
          have x0 : w3.cell? ⟨g, 0, none⟩ = some (.int .i64 (n : Int)) := HB3.out.cell 0
          have x1 : w3.cell? ⟨g, 1, none⟩ = some (.int .i64 (d : Int)) := HB3.out.cell 1
          go_wp2_with fail
          clear x0 x1
          go_loopw [9, 13] (fun ov j wr2 => ∃ (i : Nat) (a2 : Option Addr) (c2 : Nat), i ≤ n ∧ j = .int .i64 (i : Int) ∧ ov = .slice a2 (N + i) c2 ∧ Hid (Ro w wr2 a2 (N + i) c2 (grow (ex f k) d i)) ∧ Hid (Blk wr2 g 45 #[.int .i64 (n : Int), .int .i64 (d : Int), .int .u8 (ch.toNat : Int)])) (fun _ j _ => n - (intOf j).toNat)
          case atStart => exact ⟨0, aa, ca, Nat.zero_le _, rfl, rfl, H3, HB3⟩
          case round =>
            clear H3 HB3
            obtain ⟨i, a2, c2, hi, rfl, rfl, H3, HB3⟩ := hrel
            have x0 : wr.cell? ⟨g, 0, none⟩ = some (.int .i64 (n : Int)) := HB3.out.cell 0
            by_cases hin : i < n
            · have x1 : wr.cell? ⟨g, 1, none⟩ = some (.int .i64 (d : Int)) := HB3.out.cell 1
              have hgs := grow_succ (ex f k) d i
              have hgl := grow_len (ex f k) d i
              rw [HEL.out] at hgl
              obtain ⟨M, hM⟩ : ∃ M, M = N + i := ⟨_, rfl⟩
              rw [← hM] at H3 hgl ⊢
              obtain ⟨I, hI⟩ : ∃ I, I = M - d := ⟨_, rfl⟩
              rw [hgl, ← hI] at hgs
              obtain ⟨ga, rfl, hx⟩ := H3.out.get I (by omega)
              generalize (grow (ex f k) d i).getD I 0 = x at *
              unfold bv at hx
              have hIM : ((M : Nat) : Int) - (d : Int) = (I : Int) := by omega
              have hMb : M ≤ 1000000 := by omega
              have hdM : d ≤ M := by omega
              have hIM2 : I < M := by omega
              have HGS := Lib.hid hgs
              have HGL := Lib.hid hgl
              have HM := Lib.hid hM
              clear hgs hgl hI hM
              have hB : w.heap.size ≤ wr.heap.size := H3.out.below.size
              have ho3 : Own 5 w.heap.size (wr.alloc (.cells #[.int .u8 (x.toNat : Int)] 5)) (.slice (some ⟨ga, 0, none⟩) M c2) (grow (ex f k) d i) := (H3.out.later ((Below.refl _ _).alloc (Nat.le_refl _) _)).own
              have hb1 : Bytes (wr.alloc (.cells #[.int .u8 (x.toNat : Int)] 5)) (some ⟨wr.heap.size, 0, none⟩) 1 1 [x] := one_bytes 5 wr x
              have HO := Lib.hid ho3
              have HB1 := Lib.hid hb1
              clear ho3 hb1
              go_wp2_with (at_builtin; refine wpList_append_lie (by rfl) (.tmp 60) (.tmp 69) 22 (by rfl) w.heap.size 5 Try.underlying22 RefC.info5 (.slice (some ⟨ga, 0, none⟩) M c2) (grow (ex f k) d i) (by rfl) HO.out (some ⟨wr.heap.size, 0, none⟩) 1 1 [x] (by rfl) HB1.out (by rw [HGL.out]; omega) (by simp; omega) ?_)
              rw [HGL.out]
              intro a4 c4 w4 hown hgrow hnext
              have H4 : Hid (Ro w w4 a4 (N + (i + 1)) c4 (grow (ex f k) d (i + 1))) := Lib.hid (by
                rw [HGS.out, ← Nat.add_assoc, ← HM.out]
                exact H3.out.app hown hgrow)
              have HB4 := Lib.hid (H3.out.blk hgrow HB3.out)
              clear H3 HO HB1 HB3 x0 x1 hx hown hgrow hnext
              go_wp2_with fail
              go_roundw
              case rel => exact ⟨i + 1, a4, c4, by omega, by go_num, by rw [HM.out, Nat.add_assoc], H4, HB4⟩
              case measure => simp [intOf]; omega
            · obtain rfl : i = n := by omega
              have H4 : Hid (Ro w wr a2 (tot f (k + 1)) c2 (ex f (k + 1))) := Lib.hid (by rw [HEX.out, HTK.out]; exact H3.out)
              clear H3
              go_wp2_with fail
              go_roundw
              case rel => exact ⟨k + 1, a2, c2, by omega, by rw [HTK.out]; exact HOV.out, by go_num, by rw [HTK.out], H4⟩
              case measure => simp [intOf]; omega
        · have hnb : decide ((most : Int) - (N : Int) < (n : Int)) = true := by simp; omega
          have HOV := Lib.hid hov
          clear hov
          have x0 : w3.cell? ⟨g, 0, none⟩ = some (.int .i64 (n : Int)) := HB3.out.cell 0
          have x1 : w3.cell? ⟨g, 1, none⟩ = some (.int .i64 (d : Int)) := HB3.out.cell 1
          go_wp2_with fail
          go_ret3
          exact ⟨H3.out.below, .inr ⟨by have := HMO.out; have := HTK.out; have := HOV.out; omega, k, rfl⟩⟩
    · obtain rfl : k = len := by omega
      go_wp2_with fail
      go_ret3
      exact ⟨HK.out.below, .inl ⟨hkm, aa, ca, rfl, HK.out.own⟩⟩
end Go.Proofs.Ytfdfggomgaegoaa.LzC
