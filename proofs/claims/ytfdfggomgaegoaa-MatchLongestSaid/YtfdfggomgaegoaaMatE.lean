/-
  Find.
-/
import Derived.Test.YtfdfggomgaegoaaMatC
namespace Go.Proofs.Ytfdfggomgaegoaa.MatC
open Go.RowKit Go.My MatMath

theorem at_cell {w : World} {b off cap : Nat} {s : List UInt8} (h : Bytes w (some ⟨b, off, none⟩) s.length cap s) (i : Nat) (hi : i < s.length) : w.cell? ⟨b, off + i, none⟩ = some (.int .u8 ((at_ s i).toNat : Int)) := by
  rw [byte_at h i hi]
  simp [at_, List.getD_eq_getElem?_getD, List.getElem?_eq_getElem hi]
theorem ret_nd {a b c d : Int} (h1 : a = c) (h2 : b = d) : Ending.returned (.tuple #[.int .i64 a, .int .i64 b]) = .returned (.tuple #[.int .i64 c, .int .i64 d]) := by rw [h1, h2]
/-- What Find hands back. -/
def nd (p : Nat × Nat) : Value := .tuple #[.int .i64 (p.1 : Int), .int .i64 (p.2 : Int)]
theorem ret_pair {x : Nat × Nat} {n d : Nat} (h : (n, d) = x) : Ending.returned (.tuple #[.int .i64 (n : Int), .int .i64 (d : Int)]) = .returned (nd x) := by rw [← h]; rfl

/-- Where the search stands. -/
structure Fs (s : List UInt8) (far m : Nat) (chain good : Int) (a : Nat) (R : Nat × Nat) (len dist from_ i : Nat) : Prop where
  le : from_ ≤ a
  eq3 : tri s from_ a = true
  lt : len < m
  less : (len : Int) < gd good
  here : scan s far m chain good a from_ i len dist = R

theorem Fs.pass {s : List UInt8} {far m : Nat} {chain good : Int} {a : Nat} {R : Nat × Nat} {len dist e i : Nat} (hR : R = scan s far m chain good a (e + 1) i len dist) (hf : a - e ≤ far) (hi : (i : Int) < chain) (ht : MatMath.tri s e a = true) (hle : e ≤ a)
    (h1 : len < m) (h2 : (len : Int) < gd good) (h3 : ml s e a m ≤ len) : Fs s far m chain good a R len dist e (i + 1) :=
  ⟨hle, ht, h1, h2, by rw [hR, scan_less ⟨hf, hi⟩ ht (by omega) (by omega)]⟩
theorem Fs.take {s : List UInt8} {far m : Nat} {chain good : Int} {a : Nat} {R : Nat × Nat} {len dist e i : Nat} (hR : R = scan s far m chain good a (e + 1) i len dist) (hf : a - e ≤ far) (hi : (i : Int) < chain) (ht : MatMath.tri s e a = true) (hle : e ≤ a)
    (h1 : ml s e a m < m) (h2 : (ml s e a m : Int) < gd good) (h3 : len < ml s e a m) : Fs s far m chain good a R (ml s e a m) (a - e) e (i + 1) :=
  ⟨hle, ht, h1, h2, by rw [hR, scan_more ⟨hf, hi⟩ ht (by omega) (by omega)]⟩

set_option maxRecDepth 100000 in
set_option maxHeartbeats 4000000 in
theorem find_no (g : Nat) (store : Bool) (chain : Int) (lazy : Bool) (good : Int) (wide : Bool) (s : List UInt8) (at' : Int) (w : World) (h : Fnd w g store chain lazy good wide s) (hno : at' < 0 ∨ (s.length : Int) < at' + 3) :
    Calls Try.prog 11 #[.pointer (some ⟨g, 0, none⟩), .int .i64 at'] w fun e w' => e = .returned (nd (findI s chain good wide at')) ∧ Drew w w' := by
  obtain ⟨⟨ad, c, G, hk, hb, hr⟩, hl⟩ := h
  have HF : Hid (findI s chain good wide at' = (0, 0)) := Lib.hid (by
    unfold findI find
    split
    · rw [if_neg (by omega)]
    · rfl)
  have x7 : w.cell? ⟨g, 7, none⟩ = some (.slice (some ⟨G, 0, none⟩) (s.length - 2) (s.length - 2)) := hk.cell 7
  clear hk hb hr
  generalize s.length = L at *
  obtain ⟨m, hm⟩ : ∃ m, m = L - 2 := ⟨_, rfl⟩
  rw [← hm] at x7
  have hm2 : m + 2 = L ∨ m = 0 := by omega
  clear hm
  by_cases h0 : at' < 0
  · go_enter Try.func11, Try.ntmps11
    go_wp2_with fail
    go_ret2
    exact ⟨ret_pair HF.out.symm, Drew.refl _⟩
  · have h1 : (m : Int) ≤ at' := by omega
    go_enter Try.func11, Try.ntmps11
    go_wp2_with fail
    go_ret2
    exact ⟨ret_pair HF.out.symm, Drew.refl _⟩

set_option maxRecDepth 100000 in
set_option maxHeartbeats 8000000 in
theorem find_yes (g : Nat) (store : Bool) (chain : Int) (lazy : Bool) (good : Int) (wide : Bool) (s : List UInt8) (a : Nat) (w : World) (h : Fnd w g store chain lazy good wide s) (ha : a + 3 ≤ s.length) (hch : (Lit.int .i64 chain).wf = true) :
    Calls Try.prog 11 #[.pointer (some ⟨g, 0, none⟩), .int .i64 (a : Int)] w fun e w' => e = .returned (nd (find s chain good wide a)) ∧ Drew w w' := by
  obtain ⟨⟨ad, c, G, hk, hb, hr⟩, hl⟩ := h
  obtain ⟨b, off, rfl⟩ := hb.some_ (by omega)
  have hcl := hb.le_cap
  have hcm := hb.cap_le
  have HFI : Hid (find s chain good wide a = scan s (far_ wide) (min (long_ wide) (s.length - a)) chain good a a 0 0 0) := Lib.hid (by unfold find; rw [if_pos ha])
  have HK := Lib.hid hk
  have HB := Lib.hid hb
  have HR := Lib.hid hr
  clear hk hb hr
  obtain ⟨R, hR⟩ : ∃ R, R = find s chain good wide a := ⟨_, rfl⟩
  rw [← hR]
  have hlg := long_ge wide
  have hfg := far_ge wide
  unfold fc at HK
  generalize far_ wide = far at *
  generalize long_ wide = lg at *
  obtain ⟨m, hm⟩ : ∃ m, m = min lg (s.length - a) := ⟨_, rfl⟩
  rw [← hm] at HFI
  have HS : Hid (Fs s far m chain good a R 0 0 a 0) := Lib.hid ⟨Nat.le_refl _, tri_refl _ _, by omega, by unfold gd; split <;> omega, by rw [hR, HFI.out]⟩
  have hmin : (if (s.length : Int) - (a : Int) < (lg : Int) then (s.length : Int) - (a : Int) else (lg : Int)) = (m : Int) := by split <;> omega
  have hm3 : 3 ≤ m := by omega
  have hml : a + m ≤ s.length := by omega
  clear hm hR HFI
  obtain ⟨L, hL⟩ : ∃ L, L = s.length := ⟨_, rfl⟩
  rw [← hL] at HK HB HR hl ha hcl hmin hml
  have HL := Lib.hid hL
  clear hL
  obtain ⟨n, hn⟩ : ∃ n, n = L - 2 := ⟨_, rfl⟩
  rw [← hn] at HK HR
  have hnL : n + 2 = L := by omega
  clear hn
  have x0 : w.cell? ⟨g, 0, none⟩ = some (.slice (some ⟨b, off, none⟩) L c) := HK.out.cell 0
  have x2 : w.cell? ⟨g, 2, none⟩ = some (.int .i64 chain) := HK.out.cell 2
  have x5 : w.cell? ⟨g, 5, none⟩ = some (.int .i64 (lg : Int)) := HK.out.cell 5
  have x7 : w.cell? ⟨g, 7, none⟩ = some (.slice (some ⟨G, 0, none⟩) n n) := HK.out.cell 7
  have g0 : decide ((a : Int) < 0) = false := by simp
  have g1 : decide (n ≤ a) = false := by simp; omega
  have e1 : IntKind.i64.wrap ((L : Int) - (a : Int)) = (L : Int) - (a : Int) := IntWalk.i64_in _ (by omega)
  go_enter Try.func11, Try.ntmps11
  go_upto_region 3 with (fail)
  go_quiet (fail)
  clear x0 x2 x5 x7 g0 g1 e1 hmin hlg
  have HD0 : Hid (Drew w (w.drewN nq)) := Lib.hid ((Drew.refl w).more nq)
  generalize w.drewN nq = w1 at *
  have x2 : w1.cell? ⟨g, 2, none⟩ = some (.int .i64 chain) := (HD0.out.below.cell (p := ⟨g, 2, none⟩) HK.out.lt).trans (HK.out.cell 2)
  have hch2 : -9223372036854775808 ≤ chain ∧ chain ≤ 9223372036854775807 := wf_int hch
  clear hch
  go_wp2_with fail
  clear x2
  go_loopw [7, 8, 9, 45] (fun lv dv fv iv wr => ∃ len dist fr i : Nat, lv = .int .i64 (len : Int) ∧ dv = .int .i64 (dist : Int) ∧ fv = .int .i64 (fr : Int) ∧ iv = .int .i64 (i : Int) ∧ Hid (Fs s far m chain good a R len dist fr i) ∧ Hid (Drew w wr)) (fun _ _ _ iv _ => (chain - intOf iv).toNat)
  case atStart => exact ⟨0, 0, a, 0, rfl, rfl, rfl, rfl, HS, HD0⟩
  case round =>
    clear HS HD0
    obtain ⟨len, dist, fr, i, rfl, rfl, rfl, rfl, HS, HD⟩ := hrel
    have HKr : Hid (Blk wr g 49 #[.slice (some ⟨b, off, none⟩) L c, .bool store, .int .i64 chain, .bool lazy, .int .i64 good, .int .i64 (lg : Int), .int .i64 (far : Int), .slice (some ⟨G, 0, none⟩) n n]) := Lib.hid ((HD.out.below.block g HK.out.lt).trans HK.out)
    by_cases hic : (i : Int) < chain
    · have hfr := HS.out.le
      have y7 : wr.cell? ⟨g, 7, none⟩ = some (.slice (some ⟨G, 0, none⟩) n n) := HKr.out.cell 7
      have y6 : wr.cell? ⟨g, 6, none⟩ = some (.int .i64 (far : Int)) := HKr.out.cell 6
      have hrow := (HR.out.below (Nat.le_refl _) HD.out.below).get fr (by rw [bks_len]; omega)
      rw [bks_get _ _ _ _ _ (by omega)] at hrow
      unfold bk at hrow
      rw [if_pos (show fr < n by omega), Nat.zero_add] at hrow
      obtain ⟨hb1, hb2⟩ := back_le s far fr
      by_cases h0 : back s far fr = 0
      · have HE : Hid ((len, dist) = R) := Lib.hid (by rw [← HS.out.here, step_none HS.out.eq3 HS.out.le h0])
        rw [h0, show ((0 : Nat) : Int) = 0 from rfl] at hrow
        clear hb1 hb2 h0 HS
        go_wp2_with fail
        go_ret2
        exact ⟨ret_pair HE.out, HD.out⟩
      · obtain ⟨e, he1, he2, he3, he4⟩ := step_some (m := m) (chain := chain) (good := good) HS.out.eq3 (show 0 < back s far fr by omega)
        have HH := Lib.hid (he4 i len dist)
        rw [HS.out.here] at HH
        have hsub : (fr : Int) - ((back s far fr : Nat) : Int) = (e : Int) := by omega
        generalize back s far fr = bk_ at *
        clear he4
        have g2 : ((bk_ : Int) == 0) = false := by simp; omega
        by_cases hfar : far < a - e
        · have g3 : decide ((a : Int) - (e : Int) > (far : Int)) = true := by simp; omega
          have HE : Hid ((len, dist) = R) := Lib.hid (by rw [HH.out]; exact (scan_stop (by omega)).symm)
          clear hb1 hb2 he2 h0 HS HH he3
          go_wp2_with fail
          go_ret2
          exact ⟨ret_pair HE.out, HD.out⟩
        · have g3 : decide ((a : Int) - (e : Int) > (far : Int)) = false := by simp; omega
          have hml2 := HS.out.lt
          have hgl := HS.out.less
          have y0 : wr.cell? ⟨g, 0, none⟩ = some (.slice (some ⟨b, off, none⟩) L c) := HKr.out.cell 0
          clear hb1 hb2 he2 h0 HS
          obtain ⟨P, hP⟩ : ∃ P, P = e + len := ⟨_, rfl⟩
          obtain ⟨Q, hQ⟩ : ∃ Q, Q = a + len := ⟨_, rfl⟩
          have hPL : P < L := by omega
          have hQL : Q < L := by omega
          have eP : (e : Int) + (len : Int) = (P : Int) := by omega
          have eQ : (a : Int) + (len : Int) = (Q : Int) := by omega
          have eP2 : IntKind.i64.wrap (P : Int) = (P : Int) := IntWalk.i64_in _ (by omega)
          have eQ2 : IntKind.i64.wrap (Q : Int) = (Q : Int) := IntWalk.i64_in _ (by omega)
          have HBr := HD.out.bytes HB.out
          rw [HL.out] at HBr hPL hQL
          have z1 := at_cell HBr P hPL
          have z2 := at_cell HBr Q hQL
          rw [← HL.out] at hPL hQL
          have HZ : Hid (at_ s P = at_ s (e + len) ∧ at_ s Q = at_ s (a + len)) := Lib.hid (by rw [hP, hQ]; exact ⟨rfl, rfl⟩)
          clear HBr hP hQ
          have HWR := Lib.hid (HD.out)
          go_upto_region 10 with (fail)
          by_cases hne : at_ s P = at_ s Q
          · rw [hne] at z1
            have HEQ := Lib.hid hne
            obtain ⟨A, hA⟩ : ∃ A, A = a + m := ⟨_, rfl⟩
            have hAL : A ≤ L := by omega
            have eA : (a : Int) + (m : Int) = (A : Int) := by omega
            have eA2 : IntKind.i64.wrap (A : Int) = (A : Int) := IntWalk.i64_in _ (by omega)
            have eA3 : A - a = m := by omega
            have HAM : Hid (a + m ≤ s.length) := Lib.hid (by rw [← HL.out]; omega)
            clear hne hA
            have g4 : (((at_ s Q).toNat : Int) != ((at_ s Q).toNat : Int)) = false := by simp
            generalize (at_ s Q).toNat = y1 at *
            go_quiet (fail)
            have HD2 := Lib.hid (HD.out.more nq)
            clear HD HWR z1 z2 g4 eP eQ eP2 eQ2 g2 g3 y0 y6 y7
            generalize wr.drewN nq = w2 at *
            obtain ⟨N, hN⟩ : ∃ N, N = ml s e a m := ⟨_, rfl⟩
            have HQ : Hid (∀ q, Calls Try.prog 20 #[.slice (some ⟨b, off + e, none⟩) (L - e) (c - e), .slice (some ⟨b, off + a, none⟩) m (c - a)] (w2.drewN q) fun e w' => e = .returned (.int .i64 (N : Int)) ∧ ∃ k, w' = (w2.drewN q).drewN k) := Lib.hid fun q => by
              have h1 := ((HD2.out.more q).bytes HB.out).drop e (by omega)
              have h2 := (((HD2.out.more q).bytes HB.out).drop a (by omega)).take m (by omega)
              refine (alike_any (w2.drewN q) h1 h2 (by omega)).mono fun e' w' ⟨h3, h4⟩ => ⟨by rw [h3, pre_ml s e a m HAM.out (by omega), hN], h4⟩
            have HN := Lib.hid hN
            clear hN
            have HK2 : Hid (Blk w2 g 49 #[.slice (some ⟨b, off, none⟩) L c, .bool store, .int .i64 chain, .bool lazy, .int .i64 good, .int .i64 (lg : Int), .int .i64 (far : Int), .slice (some ⟨G, 0, none⟩) n n]) := Lib.hid ((HD2.out.below.block g HK.out.lt).trans HK.out)
            have y0 : w2.cell? ⟨g, 0, none⟩ = some (.slice (some ⟨b, off, none⟩) L c) := HK2.out.cell 0
            have f1 : ¬ c = e := by omega
            have f2 : ¬ c = a := by omega
            have f3 : (A : Int) ≤ (c : Int) := by omega
            have f4 : (e : Int) ≤ (L : Int) := by omega
            have f5 : (a : Int) ≤ (A : Int) := by omega
            go_upto_region 11 with (fail)
            go_quiet ((go_at_call 20; refine Calls.quiet_of (HQ.out _)))
            have HD3 := Lib.hid (HD2.out.more nq)
            clear HD2 HK2 HQ y0 f1 f2 f3 f4 f5 eA eA2 eA3
            generalize w2.drewN nq = w3 at *
            have hNm : N ≤ m := by rw [HN.out]; exact ml_le s m e a
            have hN3 : 3 ≤ N := by rw [HN.out]; exact ml_tri he3 (by omega)
            by_cases hnl : N ≤ len
            · have HS2 := Lib.hid (Fs.pass HH.out (by omega) hic he3 (by omega) hml2 hgl (by rw [← HN.out]; exact hnl))
              have g5 : decide (N ≤ len) = true := by simp; omega
              clear HH HN HZ HEQ
              go_wp2_with fail
              go_roundw
              case rel => exact ⟨len, dist, e, i + 1, rfl, rfl, rfl, by go_num, HS2, HD3⟩
              case measure => simp [intOf]; omega
            · have g5 : decide (N ≤ len) = false := by simp; omega
              obtain ⟨D, hDe⟩ : ∃ D, D = a - e := ⟨_, rfl⟩
              have eD : (a : Int) - (e : Int) = (D : Int) := by omega
              have HDE := Lib.hid hDe
              clear hDe
              have HK3 : Hid (Blk w3 g 49 #[.slice (some ⟨b, off, none⟩) L c, .bool store, .int .i64 chain, .bool lazy, .int .i64 good, .int .i64 (lg : Int), .int .i64 (far : Int), .slice (some ⟨G, 0, none⟩) n n]) := Lib.hid ((HD3.out.below.block g HK.out.lt).trans HK.out)
              have y4 : w3.cell? ⟨g, 4, none⟩ = some (.int .i64 good) := HK3.out.cell 4
              by_cases hgo : good ≤ (N : Int)
              · have HE : Hid ((N, D) = R) := Lib.hid (by rw [HH.out, scan_good ⟨by omega, hic⟩ he3 (by rw [← HN.out]; unfold gd; split <;> omega), ← HN.out, HDE.out])
                have g6 : decide (good ≤ (N : Int)) = true := by simp; omega
                clear HH HN HZ HEQ HDE
                go_wp2_with fail
                go_ret2
                exact ⟨ret_pair HE.out, HD3.out⟩
              · have hgd : (N : Int) < gd good := by unfold gd; split <;> omega
                have g6 : decide (good ≤ (N : Int)) = false := by simp; omega
                by_cases hnm : N = m
                · have HE : Hid ((N, D) = R) := Lib.hid (by
                    rw [HH.out, scan_more ⟨by omega, hic⟩ he3 (by rw [← HN.out]; omega) (by rw [← HN.out]; omega), ← HN.out, scan_top hnm hgd, HDE.out])
                  have g7 : ((N : Int) == (m : Int)) = true := by simp; omega
                  clear HH HN HZ HEQ HDE hnm hgd
                  go_wp2_with fail
                  go_ret2
                  exact ⟨ret_pair HE.out, HD3.out⟩
                · have g7 : ((N : Int) == (m : Int)) = false := by simp; omega
                  have hS := Fs.take HH.out (by omega) hic he3 (by omega) (by rw [← HN.out]; omega) (by rw [← HN.out]; exact hgd) (by rw [← HN.out]; omega)
                  rw [← HN.out, ← HDE.out] at hS
                  have HS2 := Lib.hid hS
                  clear HH HN HZ HEQ HDE hnm hgd hS
                  go_wp2_with fail
                  go_roundw
                  case rel => exact ⟨N, D, e, i + 1, rfl, rfl, rfl, by go_num, HS2, HD3⟩
                  case measure => simp [intOf]; omega
          · have hml3 : ml s e a m ≤ len := by
              by_cases hlt : len < ml s e a m
              · exact absurd (ml_same s m e a len hlt) (by rw [← HZ.out.1, ← HZ.out.2]; exact hne)
              · omega
            have g4 : (((at_ s P).toNat : Int) != ((at_ s Q).toNat : Int)) = true := by
              simp only [bne_iff_ne, ne_eq]
              exact fun h => hne (UInt8.toNat_inj.1 (by omega))
            generalize (at_ s P).toNat = y1 at *
            generalize (at_ s Q).toNat = y2 at *
            go_quiet (fail)
            have HS2 := Lib.hid (Fs.pass HH.out (by omega) hic he3 (by omega) hml2 hgl hml3)
            have HD2 := Lib.hid (HD.out.more nq)
            clear HD HWR z1 z2 g4 eP eQ eP2 eQ2 g2 g3 y0 y6 y7 HH HZ hne hml3
            generalize wr.drewN nq = w2 at *
            go_wp2_with fail
            go_roundw
            case rel => exact ⟨len, dist, e, i + 1, rfl, rfl, rfl, by go_num, HS2, HD2⟩
            case measure => simp [intOf]; omega
    · have HE : Hid ((len, dist) = R) := Lib.hid (by rw [← HS.out.here]; exact (scan_out (by omega)).symm)
      clear HS
      go_wp2_with fail
      go_ret2
      exact ⟨ret_pair HE.out, HD.out⟩
end Go.Proofs.Ytfdfggomgaegoaa.MatC
