import Derived.Test.YtnkfnbkjmobbnaaGreatDoorMgX

section
/-
  Law 12's tokens: right ones, out of any row of T; the row is the call's own.
-/
namespace Go.Proofs.YtnkfnbkjmobbnaaGreatDoor.LzC
open Go.RowKit Go.My LzMath WinMath

set_option maxRecDepth 100000 in
set_option maxHeartbeats 8000000 in
theorem tokens_own (a : Option Addr) (len c : Nat) (g : Nat → Tok) (w : World) (h : TokIn w a len c g) :
    Calls Tryz.prog 27 #[.slice a len c] w fun e w' => ∃ (f : Nat → Tok) (n : Nat) (a' : Option Addr) (c' : Nat), e = .returned (.slice a' n c') ∧ n ≤ 61 ∧ tot f n ≤ 258 * n ∧ GoodT false f n ∧ Hid (TokIn w' a' n c' f) ∧ Hid (Below w.heap.size w w') ∧ Hid (OwnT w.heap.size w' (.slice a' n c') n f) ∧ Hid (∀ i, i < n → Wf (f i)) := by
  have H := Lib.hid h
  have hlc := h.le_cap
  have hcm := h.cap_le
  clear h
  go_enter Tryz.func27, Tryz.ntmps27
  go_wp2_with fail
  go_loopw [3, 4, 5] (fun ov hv iv wr => ∃ (k N : Nat) (f : Nat → Tok), k ≤ len ∧ k ≤ 61 ∧ N ≤ 258 * k ∧ iv = .int .i64 (k : Int) ∧ hv = .int .i64 (N : Int) ∧ Hid (N = tot f k ∧ GoodT false f k) ∧ Hid (∀ i, i < k → Wf (f i)) ∧ Hid (OwnT w.heap.size wr ov k f) ∧ Hid (Below w.heap.size w wr)) (fun _ _ iv _ => 61 - (intOf iv).toNat)
  case atStart => exact ⟨0, 0, fun _ => ⟨0, 0, 0⟩, Nat.zero_le _, by omega, by omega, rfl, rfl, Lib.hid ⟨rfl, good_zero _ _⟩, Lib.hid (fun i h => by omega), Lib.hid (World.ownsRow_nil _ _ _ _), Lib.hid (Below.refl _ _)⟩
  case round =>
    obtain ⟨k, N, f, hk, hk61, hN, rfl, rfl, HG, HW, HOw, HB⟩ := hrel
    by_cases hlt : k < len
    · by_cases hlt2 : k < 61
      · have hlt3 : (k : Int) < 61 := by omega
        obtain ⟨b, off, rfl, ho⟩ := (H.out.below (Nat.le_refl _) HB.out).get hlt
        obtain ⟨c0, c1, c2, hbl, wf⟩ := ho
        obtain ⟨t, ht⟩ : ∃ t, t = g k := ⟨_, rfl⟩
        rw [← ht] at c0 c1 c2 wf
        obtain ⟨X, hX⟩ : ∃ X, X = wr.alloc (.cells (tc t) 92) := ⟨_, rfl⟩
        have HBL : Hid (Blk X wr.heap.size 92 (tc t)) := Lib.hid (by rw [hX]; exact Blk.new wr _ _)
        have HBX : Hid (Below w.heap.size w X) := Lib.hid (by rw [hX]; exact HB.out.alloc HB.out.size _)
        have hb0 : Below wr.heap.size wr X := by rw [hX]; exact (Below.refl _ _).alloc (Nat.le_refl _) _
        have HO := HOw.out
        have HOX : Hid (OwnT w.heap.size X _ k f) := Lib.hid (ownT_below HO hb0)
        have HWF := Lib.hid wf
        unfold tc at hX
        clear ht hb0 HO HOw HB wf
        go_upto_region 7 with (fail)
        rw [← hX]
        clear hX c0 c1 c2 hbl
        generalize wr.heap.size = q at *
        have x0 : X.cell? ⟨q, 0, none⟩ = some (.int .i64 t.len) := HBL.out.cell 0
        have x1 : X.cell? ⟨q, 1, none⟩ = some (.int .i64 t.dist) := HBL.out.cell 1
        have x2 : X.cell? ⟨q, 2, none⟩ = some (.int .u8 (t.byte.toNat : Int)) := HBL.out.cell 2
        by_cases h0 : t.len = 0
        · have hl0 : (t.len == 0) = true := by simp [h0]
          clear h0
          have HMAY : Hid (May false (⟨0, 0, t.byte⟩ : Tok)) := Lib.hid (.inl ⟨rfl, rfl⟩)
          have HDI : Hid (((⟨0, 0, t.byte⟩ : Tok)).dist ≤ (N : Int)) := Lib.hid (by show (0 : Int) ≤ _; omega)
          have HWT : Hid (Wf (⟨0, 0, t.byte⟩ : Tok)) := Lib.hid ⟨⟨by show -9223372036854775808 ≤ (0 : Int); omega, by show (0 : Int) ≤ 9223372036854775807; omega⟩, by show -9223372036854775808 ≤ (0 : Int); omega, by show (0 : Int) ≤ 9223372036854775807; omega⟩
          have HOA := Lib.hid (ownT_below HOX.out ((Below.refl _ X).alloc (Nat.le_refl _) (.cells (tc (⟨0, 0, t.byte⟩ : Tok)) 54)))
          have HBA := Lib.hid (HBX.out.alloc HBX.out.size (.cells (tc (⟨0, 0, t.byte⟩ : Tok)) 54))
          go_wp2_with (at_builtin; refine wpList_append_toks (by rfl) (.tmp 29) (.tmp 33) (by rfl) w.heap.size _ k f (by rfl) HOA.out (some ⟨X.heap.size, 0, none⟩) 1 1 (fun _ => (⟨0, 0, t.byte⟩ : Tok)) (by rfl) (one_tok X (⟨0, 0, t.byte⟩ : Tok) HWT.out) (by omega) (by have := HBX.out.size; simp; omega) ?_)
          intro v2 w2 hown hg
          have HB2 := Lib.hid (HOA.out.grown HBA.out hg HBA.out.size)
          have hgm := good_more (t := (⟨0, 0, t.byte⟩ : Tok)) HG.out.2 HMAY.out (by rw [← HG.out.1]; exact HDI.out)
          rw [← HG.out.1] at hgm
          have HG2 := Lib.hid hgm
          have HW2 : Hid (∀ i, i < k + 1 → Wf (LzMath.join f k (fun _ => (⟨0, 0, t.byte⟩ : Tok)) i)) := Lib.hid (fun i hi => by
            by_cases h1 : i < k
            · rw [join_left h1]; exact HW.out i h1
            · obtain rfl : i = k := by omega
              have e1 : LzMath.join f i (fun _ => (⟨0, 0, t.byte⟩ : Tok)) (i + 0) = (⟨0, 0, t.byte⟩ : Tok) := join_right
              rw [Nat.add_zero] at e1
              rw [e1]; exact HWT.out)
          have HO2 := Lib.hid hown
          clear hown hg hgm HOA HBA HG HW HOX HBX HMAY HDI HWT
          go_wp2_with fail
          go_roundw
          case rel => exact ⟨k + 1, N + 1, LzMath.join f k (fun _ => (⟨0, 0, t.byte⟩ : Tok)), by omega, by omega, by omega, by go_num, by go_num, Lib.hid ⟨by rw [HG2.out.2]; rfl, HG2.out.1⟩, HW2, HO2, HB2⟩
          case measure => simp [intOf]; omega
        · have hl0 : (t.len == 0) = false := by simp [h0]
          clear h0
          by_cases hN0 : N = 0
          · have hn0 : ((N : Int) == 0) = true := by simp; omega
            clear hN0
            have HMAY : Hid (May false (⟨0, 0, t.byte⟩ : Tok)) := Lib.hid (.inl ⟨rfl, rfl⟩)
            have HDI : Hid (((⟨0, 0, t.byte⟩ : Tok)).dist ≤ (N : Int)) := Lib.hid (by show (0 : Int) ≤ _; omega)
            have HWT : Hid (Wf (⟨0, 0, t.byte⟩ : Tok)) := Lib.hid ⟨⟨by show -9223372036854775808 ≤ (0 : Int); omega, by show (0 : Int) ≤ 9223372036854775807; omega⟩, by show -9223372036854775808 ≤ (0 : Int); omega, by show (0 : Int) ≤ 9223372036854775807; omega⟩
            have HOA := Lib.hid (ownT_below HOX.out ((Below.refl _ X).alloc (Nat.le_refl _) (.cells (tc (⟨0, 0, t.byte⟩ : Tok)) 54)))
            have HBA := Lib.hid (HBX.out.alloc HBX.out.size (.cells (tc (⟨0, 0, t.byte⟩ : Tok)) 54))
            go_wp2_with (at_builtin; refine wpList_append_toks (by rfl) (.tmp 29) (.tmp 33) (by rfl) w.heap.size _ k f (by rfl) HOA.out (some ⟨X.heap.size, 0, none⟩) 1 1 (fun _ => (⟨0, 0, t.byte⟩ : Tok)) (by rfl) (one_tok X (⟨0, 0, t.byte⟩ : Tok) HWT.out) (by omega) (by have := HBX.out.size; simp; omega) ?_)
            intro v2 w2 hown hg
            have HB2 := Lib.hid (HOA.out.grown HBA.out hg HBA.out.size)
            have hgm := good_more (t := (⟨0, 0, t.byte⟩ : Tok)) HG.out.2 HMAY.out (by rw [← HG.out.1]; exact HDI.out)
            rw [← HG.out.1] at hgm
            have HG2 := Lib.hid hgm
            have HW2 : Hid (∀ i, i < k + 1 → Wf (LzMath.join f k (fun _ => (⟨0, 0, t.byte⟩ : Tok)) i)) := Lib.hid (fun i hi => by
              by_cases h1 : i < k
              · rw [join_left h1]; exact HW.out i h1
              · obtain rfl : i = k := by omega
                have e1 : LzMath.join f i (fun _ => (⟨0, 0, t.byte⟩ : Tok)) (i + 0) = (⟨0, 0, t.byte⟩ : Tok) := join_right
                rw [Nat.add_zero] at e1
                rw [e1]; exact HWT.out)
            have HO2 := Lib.hid hown
            clear hown hg hgm HOA HBA HG HW HOX HBX HMAY HDI HWT
            go_wp2_with fail
            go_roundw
            case rel => exact ⟨k + 1, N + 1, LzMath.join f k (fun _ => (⟨0, 0, t.byte⟩ : Tok)), by omega, by omega, by omega, by go_num, by go_num, Lib.hid ⟨by rw [HG2.out.2]; rfl, HG2.out.1⟩, HW2, HO2, HB2⟩
            case measure => simp [intOf]; omega
          · have hn0 : ((N : Int) == 0) = false := by simp; omega
            have hN1 : 1 ≤ N ∧ N ≤ 32768 := by omega
            have HL := Lib.hid (lay_L t.len)
            have HD := Lib.hid (lay_D t.dist N N hN1.1 (Nat.le_refl _) hN1.2)
            have hM64 : IntKind.u64.wrap (N : Int) = (N : Int) := IntWalk.u64_in _ (by omega)
            have hMz : ¬ N = 0 := by omega
            have HMM := Lib.hid (And.intro hM64 hMz)
            clear hM64 hMz hN1
            go_upto_region 11 with (fail)
            obtain ⟨L, hL2, hL3, eL⟩ := HL.out
            rw [eL]
            obtain ⟨R, D, hD1, hD2, hD3, hRD⟩ := HD.out
            have HRD := Lib.hid hRD
            clear eL hRD
            have HMAY : Hid (May false (⟨(L : Int), (D : Int), 0⟩ : Tok)) := Lib.hid (.inr ⟨rfl, by show (3 : Int) ≤ (L : Int); omega, by show (L : Int) ≤ 258; omega, by show (1 : Int) ≤ (D : Int); omega, by show (D : Int) ≤ ((32768 : Nat) : Int); omega⟩)
            have HDI : Hid ((⟨(L : Int), (D : Int), 0⟩ : Tok).dist ≤ (N : Int)) := Lib.hid (by show (D : Int) ≤ _; omega)
            have HWT : Hid (Wf (⟨(L : Int), (D : Int), 0⟩ : Tok)) := Lib.hid ⟨⟨by show -9223372036854775808 ≤ (L : Int); omega, by show (L : Int) ≤ 9223372036854775807; omega⟩, by show -9223372036854775808 ≤ (D : Int); omega, by show (D : Int) ≤ 9223372036854775807; omega⟩
            have HSZ : Hid (sz (⟨(L : Int), (D : Int), 0⟩ : Tok) = L) := Lib.hid (by unfold sz; simp only; rw [if_neg (by omega)]; omega)
            have HOA := Lib.hid (ownT_below HOX.out ((Below.refl _ X).alloc (Nat.le_refl _) (.cells (tc (⟨(L : Int), (D : Int), 0⟩ : Tok)) 54)))
            have HBA := Lib.hid (HBX.out.alloc HBX.out.size (.cells (tc (⟨(L : Int), (D : Int), 0⟩ : Tok)) 54))
            clear hn0
            obtain ⟨eR, eR2, eD, eD2⟩ := HRD.out
            obtain ⟨hM64, hMz⟩ := HMM.out
            go_wp2_with (at_builtin; refine wpList_append_toks (by rfl) (.tmp 43) (.tmp 55) (by rfl) w.heap.size _ k f (by rfl) HOA.out (some ⟨X.heap.size, 0, none⟩) 1 1 (fun _ => (⟨(L : Int), (D : Int), 0⟩ : Tok)) (by rfl) (one_tok X (⟨(L : Int), (D : Int), 0⟩ : Tok) HWT.out) (by omega) (by have := HBX.out.size; simp; omega) ?_)
            intro v2 w2 hown hg
            clear eR eR2 eD eD2 hM64 hMz
            have HB2 := Lib.hid (HOA.out.grown HBA.out hg HBA.out.size)
            have hgm := good_more (t := (⟨(L : Int), (D : Int), 0⟩ : Tok)) HG.out.2 HMAY.out (by rw [← HG.out.1]; exact HDI.out)
            rw [← HG.out.1] at hgm
            have HG2 := Lib.hid hgm
            have HW2 : Hid (∀ i, i < k + 1 → Wf (LzMath.join f k (fun _ => (⟨(L : Int), (D : Int), 0⟩ : Tok)) i)) := Lib.hid (fun i hi => by
              by_cases h1 : i < k
              · rw [join_left h1]; exact HW.out i h1
              · obtain rfl : i = k := by omega
                have e1 : LzMath.join f i (fun _ => (⟨(L : Int), (D : Int), 0⟩ : Tok)) (i + 0) = (⟨(L : Int), (D : Int), 0⟩ : Tok) := join_right
                rw [Nat.add_zero] at e1
                rw [e1]; exact HWT.out)
            have HO2 := Lib.hid hown
            clear hown hg hgm HOA HBA HG HW HOX HBX HMAY HDI HWT
            go_wp2_with fail
            go_roundw
            case rel => exact ⟨k + 1, N + L, LzMath.join f k (fun _ => (⟨(L : Int), (D : Int), 0⟩ : Tok)), by omega, by omega, by omega, by go_num, by go_num, Lib.hid ⟨by rw [HG2.out.2, HSZ.out], HG2.out.1⟩, HW2, HO2, HB2⟩
            case measure => simp [intOf]; omega
      · obtain rfl : k = 61 := by omega
        go_wp2_with fail
        obtain ⟨a', c', rfl, hin⟩ := OwnT.toks HOw.out HW.out
        go_ret
        exact ⟨f, 61, a', c', rfl, by omega, by rw [← HG.out.1]; exact hN, HG.out.2, Lib.hid hin, HB, HOw, HW⟩
    · obtain rfl : k = len := by omega
      go_wp2_with fail
      obtain ⟨a', c', rfl, hin⟩ := OwnT.toks HOw.out HW.out
      go_ret
      exact ⟨f, k, a', c', rfl, hk61, by rw [← HG.out.1]; exact hN, HG.out.2, Lib.hid hin, HB, HOw, HW⟩
end Go.Proofs.YtnkfnbkjmobbnaaGreatDoor.LzC
end

section
/-
  The document's Expand with the limit 2^20 (TokF with another limit).
-/
namespace Go.Proofs.YtnkfnbkjmobbnaaGreatDoor.LzC
open Go.RowKit Go.My LzMath WinMath
open RefC (info5)


/-- What the document's Expand hands back where token K is the first that may not stand there. -/
def RExpanded (f : Nat → Tok) (len K : Nat) (w : World) (e : Ending) (w' : World) : Prop :=
  Below w.heap.size w w' ∧ (K = len ∧ (∃ a c, e = .returned (.tuple #[.slice a (tot f len) c, .int .i64 0, .int .i64 0]) ∧ Own 5 w.heap.size w' (.slice a (tot f len) c) (ex f len)) ∨ K < len ∧ e = .returned (.tuple #[.slice none 0 0, .int .i64 (K : Int), .int .i64 2]))

set_option maxRecDepth 100000 in
set_option maxHeartbeats 16000000 in
theorem rexpand_all (wide : Bool) (a : Option Addr) (len c : Nat) (f : Nat → Tok) (K : Nat) (w : World) (h : TokIn w a len c f) (hE : EndsT wide f len K) (ht : tot f len ≤ 1000000) :
    Calls Tryz.prog 8 #[.slice a len c, .bool wide, .int .i64 1048576] w (RExpanded f len K w) := by
  have H := Lib.hid h
  have hlc := h.le_cap
  have hcm := h.cap_le
  have HE := Lib.hid hE
  have hKl := hE.le
  have H0 : Hid (Ro w w none (tot f 0) 0 (ex f 0)) := Lib.hid ⟨Own.nil _ _ _, rfl, Below.refl _ _⟩
  clear h hE
  go_enter Tryz.func8, Tryz.ntmps8
  go_wp2_with fail
  go_loopw [9, 10] (fun ov i wr => ∃ (k : Nat) (aa : Option Addr) (ca : Nat), k ≤ K ∧ i = .int .i64 (k : Int) ∧ ov = .slice aa (tot f k) ca ∧ Hid (Ro w wr aa (tot f k) ca (ex f k))) (fun _ i _ => len - (intOf i).toNat)
  case atStart => exact ⟨0, none, 0, Nat.zero_le _, rfl, rfl, H0⟩
  case round =>
    clear H0
    obtain ⟨k, aa, ca, hk, rfl, rfl, HK⟩ := hrel
    by_cases hlt : k < len
    · obtain ⟨b, off, rfl, ho⟩ := (H.out.below (Nat.le_refl _) HK.out.below).get hlt
      obtain ⟨c0, c1, c2, hbl, wf⟩ := ho
      have hm := tot_mono f (k + 1) len hlt
      have hT1 : tot f (k + 1) ≤ 1000000 := by omega
      have hT0 : tot f k ≤ 1000000 := Nat.le_trans (tot_mono f k (k + 1) (by omega)) hT1
      have hel := ex_len f k
      obtain ⟨X, hX⟩ : ∃ X, X = wr.alloc (.cells (tc (f k)) 54) := ⟨_, rfl⟩
      have HBL : Hid (Blk X wr.heap.size 54 (tc (f k))) := Lib.hid (by rw [hX]; exact Blk.new wr _ _)
      have HX : Hid (Ro w X aa (tot f k) ca (ex f k)) := Lib.hid (by rw [hX]; exact HK.out.later ((Below.refl _ _).alloc (Nat.le_refl _) _))
      clear HK hm wf
      by_cases hkK : k < K
      · have hok := HE.out.good k hkK
        have HMY : Hid (decide (May wide (f k)) = true) := Lib.hid (by simpa using hok.1)
        by_cases h0 : (f k).len = 0
        · obtain ⟨ch, hfk, hex, htk⟩ := lit_nums hok h0
          have HFK := Lib.hid hfk
          have HEX := Lib.hid hex
          have HTK := Lib.hid htk
          rw [hfk] at c0 c1 c2 hX HBL
          unfold tc at hX HBL
          simp only at c0 c1 c2 hX HBL
          obtain ⟨N, hN⟩ : ∃ N, N = tot f k := ⟨_, rfl⟩
          rw [← hN] at HTK HX hel hT0 ⊢
          have HEL := Lib.hid hel
          clear h0 hfk hex htk hok hel hN hT1
          go_upto_region 6 with (fail)
          rw [← hX]
          clear hX c0 c1 c2 hbl
          generalize wr.heap.size = g at *
          have x0 : X.cell? ⟨g, 0, none⟩ = some (.int .i64 0) := HBL.out.cell 0
          have x1 : X.cell? ⟨g, 1, none⟩ = some (.int .i64 0) := HBL.out.cell 1
          have x2 : X.cell? ⟨g, 2, none⟩ = some (.int .u8 (ch.toNat : Int)) := HBL.out.cell 2
          go_wp2_with fail
          refine (rmay_any wide ⟨0, 0, ch⟩ X).mono ?_
          rw [← HFK.out, HMY.out]
          rintro e w3 ⟨rfl, hb⟩
          have HB3 : Hid (Blk w3 g 54 #[.int .i64 0, .int .i64 0, .int .u8 (ch.toNat : Int)]) := Lib.hid (HBL.out.same (hb.block g HBL.out.lt))
          have H3 := Lib.hid (HX.out.later hb)
          clear x0 x1 x2 hb HBL HX
          have x0 : w3.cell? ⟨g, 0, none⟩ = some (.int .i64 0) := HB3.out.cell 0
          have x1 : w3.cell? ⟨g, 1, none⟩ = some (.int .i64 0) := HB3.out.cell 1
          have x2 : w3.cell? ⟨g, 2, none⟩ = some (.int .u8 (ch.toNat : Int)) := HB3.out.cell 2
          have hB : w.heap.size ≤ w3.heap.size := H3.out.below.size
          have ho3 : Own 5 w.heap.size (w3.alloc (.cells #[.int .u8 (ch.toNat : Int)] 5)) (.slice aa N ca) (ex f k) := (H3.out.later ((Below.refl _ _).alloc (Nat.le_refl _) _)).own
          have hb1 : Bytes (w3.alloc (.cells #[.int .u8 (ch.toNat : Int)] 5)) (some ⟨w3.heap.size, 0, none⟩) 1 1 [ch] := one_bytes 5 w3 ch
          have HO := Lib.hid ho3
          have HB1 := Lib.hid hb1
          clear ho3 hb1
          go_wp2_with (at_builtin; refine wpList_append_lie (by rfl) (.tmp 49) (.tmp 52) 27 (by rfl) w.heap.size 5 Tryz.underlying27 info5 (.slice aa N ca) (ex f k) (by rfl) HO.out (some ⟨w3.heap.size, 0, none⟩) 1 1 [ch] (by rfl) HB1.out (by rw [HEL.out]; omega) (by simp; omega) ?_)
          rw [HEL.out]
          intro a4 c4 w4 hown hgrow hnext
          have H4 : Hid (Ro w w4 a4 (tot f (k + 1)) c4 (ex f (k + 1))) := Lib.hid (by
            rw [HEX.out, HTK.out]
            exact H3.out.app hown hgrow)
          clear H3 HO HB1 HB3 x0 x1 x2 hown hgrow hnext
          go_wp2_with fail
          go_roundw
          case rel => exact ⟨k + 1, a4, c4, by omega, by go_num, by rw [HTK.out], H4⟩
          case measure => simp [intOf]; omega
        · obtain ⟨d, n, hfk, hn3, hn, hd1, hdS, hdN, hex, htk⟩ := mat_nums hok h0
          obtain ⟨ch, hch⟩ : ∃ ch : UInt8, ch = 0 := ⟨_, rfl⟩
          rw [← hch] at hfk
          have HFK := Lib.hid hfk
          have HEX := Lib.hid hex
          have HTK := Lib.hid htk
          rw [hfk] at c0 c1 c2 hX HBL
          unfold tc at hX HBL
          simp only at c0 c1 c2 hX HBL
          obtain ⟨N, hN⟩ : ∃ N, N = tot f k := ⟨_, rfl⟩
          rw [← hN] at HTK HX hel hT0 hdN ⊢
          have hNn : N + n ≤ 1000000 := by omega
          have HEL := Lib.hid hel
          have hn0 : ((n : Int) == 0) = false := by simp; omega
          have hdl : decide (N < d) = false := by simp; omega
          have hnm : ¬ (n : Int) < 1 := by omega
          have hnb : decide (1048576 - (N : Int) < (n : Int)) = false := by simp; omega
          clear h0 hfk hex htk hok hel hN hT1 hch
          go_upto_region 6 with (fail)
          rw [← hX]
          clear hX c0 c1 c2 hbl
          generalize wr.heap.size = g at *
          have x0 : X.cell? ⟨g, 0, none⟩ = some (.int .i64 (n : Int)) := HBL.out.cell 0
          have x1 : X.cell? ⟨g, 1, none⟩ = some (.int .i64 (d : Int)) := HBL.out.cell 1
          have x2 : X.cell? ⟨g, 2, none⟩ = some (.int .u8 (ch.toNat : Int)) := HBL.out.cell 2
          go_wp2_with fail
          refine (rmay_any wide ⟨n, d, ch⟩ X).mono ?_
          rw [← HFK.out, HMY.out]
          rintro e w3 ⟨rfl, hb⟩
          have HB3 : Hid (Blk w3 g 54 #[.int .i64 (n : Int), .int .i64 (d : Int), .int .u8 (ch.toNat : Int)]) := Lib.hid (HBL.out.same (hb.block g HBL.out.lt))
          have H3 := Lib.hid (HX.out.later hb)
          clear x0 x1 x2 hb HBL HX
          have x0 : w3.cell? ⟨g, 0, none⟩ = some (.int .i64 (n : Int)) := HB3.out.cell 0
          have x1 : w3.cell? ⟨g, 1, none⟩ = some (.int .i64 (d : Int)) := HB3.out.cell 1
          go_wp2_with fail
          clear x0 x1
          go_loopw [9, 13] (fun ov j wr2 => ∃ (i : Nat) (a2 : Option Addr) (c2 : Nat), i ≤ n ∧ j = .int .i64 (i : Int) ∧ ov = .slice a2 (N + i) c2 ∧ Hid (Ro w wr2 a2 (N + i) c2 (grow (ex f k) d i)) ∧ Hid (Blk wr2 g 54 #[.int .i64 (n : Int), .int .i64 (d : Int), .int .u8 (ch.toNat : Int)])) (fun _ j _ => n - (intOf j).toNat)
          case atStart => exact ⟨0, aa, ca, Nat.zero_le _, rfl, rfl, H3, HB3⟩
          case round =>
            clear H3 HB3
            obtain ⟨i, a2, c2, hi, rfl, rfl, H3, HB3⟩ := hrel
            have x0 : wr.cell? ⟨g, 0, none⟩ = some (.int .i64 (n : Int)) := HB3.out.cell 0
            by_cases hin : i < n
            · have x1 : wr.cell? ⟨g, 1, none⟩ = some (.int .i64 (d : Int)) := HB3.out.cell 1
              have hgs := grow_succ (ex f k) d i
              have hgl := grow_len (ex f k) d i
              rw [HEL.out] at hgl
              obtain ⟨M, hM⟩ : ∃ M, M = N + i := ⟨_, rfl⟩
              rw [← hM] at H3 hgl ⊢
              obtain ⟨I, hI⟩ : ∃ I, I = M - d := ⟨_, rfl⟩
              rw [hgl, ← hI] at hgs
              obtain ⟨ga, rfl, hx⟩ := H3.out.get I (by omega)
              generalize (grow (ex f k) d i).getD I 0 = x at *
              unfold bv at hx
              have hIM : ((M : Nat) : Int) - (d : Int) = (I : Int) := by omega
              have hMb : M ≤ 1000000 := by omega
              have hdM : d ≤ M := by omega
              have hIM2 : I < M := by omega
              have HGS := Lib.hid hgs
              have HGL := Lib.hid hgl
              have HM := Lib.hid hM
              clear hgs hgl hI hM
              have hB : w.heap.size ≤ wr.heap.size := H3.out.below.size
              have ho3 : Own 5 w.heap.size (wr.alloc (.cells #[.int .u8 (x.toNat : Int)] 5)) (.slice (some ⟨ga, 0, none⟩) M c2) (grow (ex f k) d i) := (H3.out.later ((Below.refl _ _).alloc (Nat.le_refl _) _)).own
              have hb1 : Bytes (wr.alloc (.cells #[.int .u8 (x.toNat : Int)] 5)) (some ⟨wr.heap.size, 0, none⟩) 1 1 [x] := one_bytes 5 wr x
              have HO := Lib.hid ho3
              have HB1 := Lib.hid hb1
              clear ho3 hb1
              go_wp2_with (at_builtin; refine wpList_append_lie (by rfl) (.tmp 60) (.tmp 69) 27 (by rfl) w.heap.size 5 Tryz.underlying27 info5 (.slice (some ⟨ga, 0, none⟩) M c2) (grow (ex f k) d i) (by rfl) HO.out (some ⟨wr.heap.size, 0, none⟩) 1 1 [x] (by rfl) HB1.out (by rw [HGL.out]; omega) (by simp; omega) ?_)
              rw [HGL.out]
              intro a4 c4 w4 hown hgrow hnext
              have H4 : Hid (Ro w w4 a4 (N + (i + 1)) c4 (grow (ex f k) d (i + 1))) := Lib.hid (by
                rw [HGS.out, ← Nat.add_assoc, ← HM.out]
                exact H3.out.app hown hgrow)
              have HB4 := Lib.hid (H3.out.blk hgrow HB3.out)
              clear H3 HO HB1 HB3 x0 x1 hx hown hgrow hnext
              go_wp2_with fail
              go_roundw
              case rel => exact ⟨i + 1, a4, c4, by omega, by go_num, by rw [HM.out, Nat.add_assoc], H4, HB4⟩
              case measure => simp [intOf]; omega
            · obtain rfl : i = n := by omega
              have H4 : Hid (Ro w wr a2 (tot f (k + 1)) c2 (ex f (k + 1))) := Lib.hid (by rw [HEX.out, HTK.out]; exact H3.out)
              clear H3
              go_wp2_with fail
              go_roundw
              case rel => exact ⟨k + 1, a2, c2, by omega, by go_num, by rw [HTK.out], H4⟩
              case measure => simp [intOf]; omega
      · obtain rfl : k = K := by omega
        have hno := ok_no (HE.out.bad hlt)
        obtain ⟨N, hN⟩ : ∃ N, N = tot f k := ⟨_, rfl⟩
        obtain ⟨t, hte⟩ : ∃ t, t = f k := ⟨_, rfl⟩
        rw [← hN] at hno HX hel hT0 ⊢
        rw [← hte] at hno c0 c1 c2 hX HBL
        clear hel hT1 hN hte
        unfold tc at hX
        go_upto_region 6 with (fail)
        rw [← hX]
        clear hX c0 c1 c2 hbl
        generalize wr.heap.size = g at *
        have x0 : X.cell? ⟨g, 0, none⟩ = some (.int .i64 t.len) := HBL.out.cell 0
        have x1 : X.cell? ⟨g, 1, none⟩ = some (.int .i64 t.dist) := HBL.out.cell 1
        have x2 : X.cell? ⟨g, 2, none⟩ = some (.int .u8 (t.byte.toNat : Int)) := HBL.out.cell 2
        go_wp2_with fail
        refine (rmay_any wide t X).mono ?_
        rintro e w3 ⟨rfl, hb⟩
        have x1 : w3.cell? ⟨g, 1, none⟩ = some (.int .i64 t.dist) := (HBL.out.same (hb.block g HBL.out.lt)).cell 1
        have H3 := Lib.hid (HX.out.later hb)
        clear x0 x2 hb HBL HX
        rcases hno with hm | ⟨hm, hd⟩
        · rw [hm]
          clear hm
          go_wp2_with fail
          go_ret3
          exact ⟨H3.out.below, .inr ⟨hlt, rfl⟩⟩
        · rw [hm]
          clear hm
          go_wp2_with fail
          go_ret3
          exact ⟨H3.out.below, .inr ⟨hlt, rfl⟩⟩
    · obtain rfl : k = len := by omega
      obtain rfl : K = k := by omega
      go_wp2_with fail
      go_ret3
      exact ⟨HK.out.below, .inl ⟨rfl, aa, ca, rfl, HK.out.own⟩⟩
end Go.Proofs.YtnkfnbkjmobbnaaGreatDoor.LzC
end
