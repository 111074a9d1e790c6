import Derived.Test.YtbjjkhlebdaoaaaGreatDoorMgMa
import Derived.Test.YtbjjkhlebdaoaaaGreatDoorMgX
import Derived.Test.YtbjjkhlebdaoaaaGreatDoorMgA

section
/-
  Find.
-/
namespace Go.Proofs.YtbjjkhlebdaoaaaGreatDoor.MatC
open Go.RowKit Go.My MatMath

theorem at_cell {w : World} {b off cap : Nat} {s : List UInt8} (h : Bytes w (some ⟨b, off, none⟩) s.length cap s) (i : Nat) (hi : i < s.length) : w.cell? ⟨b, off + i, none⟩ = some (.int .u8 ((at_ s i).toNat : Int)) := by
  rw [byte_at h i hi]
  simp [at_, List.getD_eq_getElem?_getD, List.getElem?_eq_getElem hi]
/-- What Find hands back. -/
def nd (p : Nat × Nat) : Value := .tuple #[.int .i64 (p.1 : Int), .int .i64 (p.2 : Int)]
theorem ret_pair {x : Nat × Nat} {n d : Nat} (h : (n, d) = x) : Ending.returned (.tuple #[.int .i64 (n : Int), .int .i64 (d : Int)]) = .returned (nd x) := by rw [← h]; rfl

/-- Where the search stands. -/
structure Fs (s : List UInt8) (far m : Nat) (chain good : Int) (a : Nat) (R : Nat × Nat) (len dist from_ i : Nat) : Prop where
  le : from_ ≤ a
  eq3 : tri s from_ a = true
  lt : len < m
  less : (len : Int) < gd good
  here : scan s far m chain good a from_ i len dist = R

theorem Fs.pass {s : List UInt8} {far m : Nat} {chain good : Int} {a : Nat} {R : Nat × Nat} {len dist e i : Nat} (hR : R = scan s far m chain good a (e + 1) i len dist) (hf : a - e ≤ far) (hi : (i : Int) < chain) (ht : MatMath.tri s e a = true) (hle : e ≤ a)
    (h1 : len < m) (h2 : (len : Int) < gd good) (h3 : ml s e a m ≤ len) : Fs s far m chain good a R len dist e (i + 1) :=
  ⟨hle, ht, h1, h2, by rw [hR, scan_less ⟨hf, hi⟩ ht (by omega) (by omega)]⟩
theorem Fs.take {s : List UInt8} {far m : Nat} {chain good : Int} {a : Nat} {R : Nat × Nat} {len dist e i : Nat} (hR : R = scan s far m chain good a (e + 1) i len dist) (hf : a - e ≤ far) (hi : (i : Int) < chain) (ht : MatMath.tri s e a = true) (hle : e ≤ a)
    (h1 : ml s e a m < m) (h2 : (ml s e a m : Int) < gd good) (h3 : len < ml s e a m) : Fs s far m chain good a R (ml s e a m) (a - e) e (i + 1) :=
  ⟨hle, ht, h1, h2, by rw [hR, scan_more ⟨hf, hi⟩ ht (by omega) (by omega)]⟩

set_option maxRecDepth 100000 in
set_option maxHeartbeats 4000000 in
theorem find_no (g : Nat) (store : Bool) (chain : Int) (lazy : Bool) (good : Int) (wide : Bool) (s : List UInt8) (at' : Int) (w : World) (h : Fnd w g store chain lazy good wide s) (hno : at' < 0 ∨ (s.length : Int) < at' + 3) :
    Calls Tryz.prog 49 #[.pointer (some ⟨g, 0, none⟩), .int .i64 at'] w fun e w' => e = .returned (nd (findI s chain good wide at')) ∧ Drew w w' := by
  obtain ⟨⟨ad, c, G, hk, hb, hr⟩, hl⟩ := h
  have HF : Hid (findI s chain good wide at' = (0, 0)) := Lib.hid (by
    unfold findI find
    split
    · rw [if_neg (by omega)]
    · rfl)
  have x7 : w.cell? ⟨g, 7, none⟩ = some (.slice (some ⟨G, 0, none⟩) (s.length - 2) (s.length - 2)) := hk.cell 7
  clear hk hb hr
  generalize s.length = L at *
  obtain ⟨m, hm⟩ : ∃ m, m = L - 2 := ⟨_, rfl⟩
  rw [← hm] at x7
  have hm2 : m + 2 = L ∨ m = 0 := by omega
  clear hm
  by_cases h0 : at' < 0
  · go_enter Tryz.func49, Tryz.ntmps49
    go_wp2_with fail
    go_ret2
    exact ⟨ret_pair HF.out.symm, Drew.refl _⟩
  · have h1 : (m : Int) ≤ at' := by omega
    go_enter Tryz.func49, Tryz.ntmps49
    go_wp2_with fail
    go_ret2
    exact ⟨ret_pair HF.out.symm, Drew.refl _⟩

set_option maxRecDepth 100000 in
set_option maxHeartbeats 8000000 in
theorem find_yes (g : Nat) (store : Bool) (chain : Int) (lazy : Bool) (good : Int) (wide : Bool) (s : List UInt8) (a : Nat) (w : World) (h : Fnd w g store chain lazy good wide s) (ha : a + 3 ≤ s.length) (hch : (Lit.int .i64 chain).wf = true) :
    Calls Tryz.prog 49 #[.pointer (some ⟨g, 0, none⟩), .int .i64 (a : Int)] w fun e w' => e = .returned (nd (find s chain good wide a)) ∧ Drew w w' := by
  obtain ⟨⟨ad, c, G, hk, hb, hr⟩, hl⟩ := h
  obtain ⟨b, off, rfl⟩ := hb.some_ (by omega)
  have hcl := hb.le_cap
  have hcm := hb.cap_le
  have HFI : Hid (find s chain good wide a = scan s (far_ wide) (min (long_ wide) (s.length - a)) chain good a a 0 0 0) := Lib.hid (by unfold find; rw [if_pos ha])
  have HK := Lib.hid hk
  have HB := Lib.hid hb
  have HR := Lib.hid hr
  clear hk hb hr
  obtain ⟨R, hR⟩ : ∃ R, R = find s chain good wide a := ⟨_, rfl⟩
  rw [← hR]
  have hlg := long_ge wide
  have hfg := far_ge wide
  unfold fc at HK
  generalize far_ wide = far at *
  generalize long_ wide = lg at *
  obtain ⟨m, hm⟩ : ∃ m, m = min lg (s.length - a) := ⟨_, rfl⟩
  rw [← hm] at HFI
  have HS : Hid (Fs s far m chain good a R 0 0 a 0) := Lib.hid ⟨Nat.le_refl _, tri_refl _ _, by omega, by unfold gd; split <;> omega, by rw [hR, HFI.out]⟩
  have hmin : (if (s.length : Int) - (a : Int) < (lg : Int) then (s.length : Int) - (a : Int) else (lg : Int)) = (m : Int) := by split <;> omega
  have hm3 : 3 ≤ m := by omega
  have hml : a + m ≤ s.length := by omega
  clear hm hR HFI
  obtain ⟨L, hL⟩ : ∃ L, L = s.length := ⟨_, rfl⟩
  rw [← hL] at HK HB HR hl ha hcl hmin hml
  have HL := Lib.hid hL
  clear hL
  obtain ⟨n, hn⟩ : ∃ n, n = L - 2 := ⟨_, rfl⟩
  rw [← hn] at HK HR
  have hnL : n + 2 = L := by omega
  clear hn
  have x0 : w.cell? ⟨g, 0, none⟩ = some (.slice (some ⟨b, off, none⟩) L c) := HK.out.cell 0
  have x2 : w.cell? ⟨g, 2, none⟩ = some (.int .i64 chain) := HK.out.cell 2
  have x5 : w.cell? ⟨g, 5, none⟩ = some (.int .i64 (lg : Int)) := HK.out.cell 5
  have x7 : w.cell? ⟨g, 7, none⟩ = some (.slice (some ⟨G, 0, none⟩) n n) := HK.out.cell 7
  have g0 : decide ((a : Int) < 0) = false := by simp
  have g1 : decide (n ≤ a) = false := by simp; omega
  have e1 : IntKind.i64.wrap ((L : Int) - (a : Int)) = (L : Int) - (a : Int) := IntWalk.i64_in _ (by omega)
  go_enter Tryz.func49, Tryz.ntmps49
  go_upto_region 3 with (fail)
  go_quiet (fail)
  clear x0 x2 x5 x7 g0 g1 e1 hmin hlg
  have HD0 : Hid (Drew w (w.drewN nq)) := Lib.hid ((Drew.refl w).more nq)
  generalize w.drewN nq = w1 at *
  have x2 : w1.cell? ⟨g, 2, none⟩ = some (.int .i64 chain) := (HD0.out.below.cell (p := ⟨g, 2, none⟩) HK.out.lt).trans (HK.out.cell 2)
  have hch2 : -9223372036854775808 ≤ chain ∧ chain ≤ 9223372036854775807 := wf_int hch
  clear hch
  go_wp2_with fail
  clear x2
  go_loopw [7, 8, 9, 45] (fun lv dv fv iv wr => ∃ len dist fr i : Nat, lv = .int .i64 (len : Int) ∧ dv = .int .i64 (dist : Int) ∧ fv = .int .i64 (fr : Int) ∧ iv = .int .i64 (i : Int) ∧ Hid (Fs s far m chain good a R len dist fr i) ∧ Hid (Drew w wr)) (fun _ _ _ iv _ => (chain - intOf iv).toNat)
  case atStart => exact ⟨0, 0, a, 0, rfl, rfl, rfl, rfl, HS, HD0⟩
  case round =>
    clear HS HD0
    obtain ⟨len, dist, fr, i, rfl, rfl, rfl, rfl, HS, HD⟩ := hrel
    have HKr : Hid (Blk wr g 130 #[.slice (some ⟨b, off, none⟩) L c, .bool store, .int .i64 chain, .bool lazy, .int .i64 good, .int .i64 (lg : Int), .int .i64 (far : Int), .slice (some ⟨G, 0, none⟩) n n]) := Lib.hid ((HD.out.below.block g HK.out.lt).trans HK.out)
    by_cases hic : (i : Int) < chain
    · have hfr := HS.out.le
      have y7 : wr.cell? ⟨g, 7, none⟩ = some (.slice (some ⟨G, 0, none⟩) n n) := HKr.out.cell 7
      have y6 : wr.cell? ⟨g, 6, none⟩ = some (.int .i64 (far : Int)) := HKr.out.cell 6
      have hrow := (HR.out.below (Nat.le_refl _) HD.out.below).get fr (by rw [bks_len]; omega)
      rw [bks_get _ _ _ _ _ (by omega)] at hrow
      unfold bk at hrow
      rw [if_pos (show fr < n by omega), Nat.zero_add] at hrow
      obtain ⟨hb1, hb2⟩ := back_le s far fr
      by_cases h0 : back s far fr = 0
      · have HE : Hid ((len, dist) = R) := Lib.hid (by rw [← HS.out.here, step_none HS.out.eq3 HS.out.le h0])
        rw [h0, show ((0 : Nat) : Int) = 0 from rfl] at hrow
        clear hb1 hb2 h0 HS
        go_wp2_with fail
        go_ret2
        exact ⟨ret_pair HE.out, HD.out⟩
      · obtain ⟨e, he1, he2, he3, he4⟩ := step_some (m := m) (chain := chain) (good := good) HS.out.eq3 (show 0 < back s far fr by omega)
        have HH := Lib.hid (he4 i len dist)
        rw [HS.out.here] at HH
        have hsub : (fr : Int) - ((back s far fr : Nat) : Int) = (e : Int) := by omega
        generalize back s far fr = bk_ at *
        clear he4
        have g2 : ((bk_ : Int) == 0) = false := by simp; omega
        by_cases hfar : far < a - e
        · have g3 : decide ((a : Int) - (e : Int) > (far : Int)) = true := by simp; omega
          have HE : Hid ((len, dist) = R) := Lib.hid (by rw [HH.out]; exact (scan_stop (by omega)).symm)
          clear hb1 hb2 he2 h0 HS HH he3
          go_wp2_with fail
          go_ret2
          exact ⟨ret_pair HE.out, HD.out⟩
        · have g3 : decide ((a : Int) - (e : Int) > (far : Int)) = false := by simp; omega
          have hml2 := HS.out.lt
          have hgl := HS.out.less
          have y0 : wr.cell? ⟨g, 0, none⟩ = some (.slice (some ⟨b, off, none⟩) L c) := HKr.out.cell 0
          clear hb1 hb2 he2 h0 HS
          obtain ⟨P, hP⟩ : ∃ P, P = e + len := ⟨_, rfl⟩
          obtain ⟨Q, hQ⟩ : ∃ Q, Q = a + len := ⟨_, rfl⟩
          have hPL : P < L := by omega
          have hQL : Q < L := by omega
          have eP : (e : Int) + (len : Int) = (P : Int) := by omega
          have eQ : (a : Int) + (len : Int) = (Q : Int) := by omega
          have eP2 : IntKind.i64.wrap (P : Int) = (P : Int) := IntWalk.i64_in _ (by omega)
          have eQ2 : IntKind.i64.wrap (Q : Int) = (Q : Int) := IntWalk.i64_in _ (by omega)
          have HBr := HD.out.bytes HB.out
          rw [HL.out] at HBr hPL hQL
          have z1 := at_cell HBr P hPL
          have z2 := at_cell HBr Q hQL
          rw [← HL.out] at hPL hQL
          have HZ : Hid (at_ s P = at_ s (e + len) ∧ at_ s Q = at_ s (a + len)) := Lib.hid (by rw [hP, hQ]; exact ⟨rfl, rfl⟩)
          clear HBr hP hQ
          have HWR := Lib.hid (HD.out)
          go_upto_region 10 with (fail)
          by_cases hne : at_ s P = at_ s Q
          · rw [hne] at z1
            have HEQ := Lib.hid hne
            obtain ⟨A, hA⟩ : ∃ A, A = a + m := ⟨_, rfl⟩
            have hAL : A ≤ L := by omega
            have eA : (a : Int) + (m : Int) = (A : Int) := by omega
            have eA2 : IntKind.i64.wrap (A : Int) = (A : Int) := IntWalk.i64_in _ (by omega)
            have eA3 : A - a = m := by omega
            have HAM : Hid (a + m ≤ s.length) := Lib.hid (by rw [← HL.out]; omega)
            clear hne hA
            have g4 : (((at_ s Q).toNat : Int) != ((at_ s Q).toNat : Int)) = false := by simp
            generalize (at_ s Q).toNat = y1 at *
            go_quiet (fail)
            have HD2 := Lib.hid (HD.out.more nq)
            clear HD HWR z1 z2 g4 eP eQ eP2 eQ2 g2 g3 y0 y6 y7
            generalize wr.drewN nq = w2 at *
            obtain ⟨N, hN⟩ : ∃ N, N = ml s e a m := ⟨_, rfl⟩
            have HQ : Hid (∀ q, Calls Tryz.prog 79 #[.slice (some ⟨b, off + e, none⟩) (L - e) (c - e), .slice (some ⟨b, off + a, none⟩) m (c - a)] (w2.drewN q) fun e w' => e = .returned (.int .i64 (N : Int)) ∧ ∃ k, w' = (w2.drewN q).drewN k) := Lib.hid fun q => by
              have h1 := ((HD2.out.more q).bytes HB.out).drop e (by omega)
              have h2 := (((HD2.out.more q).bytes HB.out).drop a (by omega)).take m (by omega)
              refine (alike_any (w2.drewN q) h1 h2 (by omega)).mono fun e' w' ⟨h3, h4⟩ => ⟨by rw [h3, pre_ml s e a m HAM.out (by omega), hN], h4⟩
            have HN := Lib.hid hN
            clear hN
            have HK2 : Hid (Blk w2 g 130 #[.slice (some ⟨b, off, none⟩) L c, .bool store, .int .i64 chain, .bool lazy, .int .i64 good, .int .i64 (lg : Int), .int .i64 (far : Int), .slice (some ⟨G, 0, none⟩) n n]) := Lib.hid ((HD2.out.below.block g HK.out.lt).trans HK.out)
            have y0 : w2.cell? ⟨g, 0, none⟩ = some (.slice (some ⟨b, off, none⟩) L c) := HK2.out.cell 0
            have f1 : ¬ c = e := by omega
            have f2 : ¬ c = a := by omega
            have f3 : (A : Int) ≤ (c : Int) := by omega
            have f4 : (e : Int) ≤ (L : Int) := by omega
            have f5 : (a : Int) ≤ (A : Int) := by omega
            go_upto_region 11 with (fail)
            go_quiet ((go_at_call 79; refine Calls.quiet_of (HQ.out _)))
            have HD3 := Lib.hid (HD2.out.more nq)
            clear HD2 HK2 HQ y0 f1 f2 f3 f4 f5 eA eA2 eA3
            generalize w2.drewN nq = w3 at *
            have hNm : N ≤ m := by rw [HN.out]; exact ml_le s m e a
            have hN3 : 3 ≤ N := by rw [HN.out]; exact ml_tri he3 (by omega)
            by_cases hnl : N ≤ len
            · have HS2 := Lib.hid (Fs.pass HH.out (by omega) hic he3 (by omega) hml2 hgl (by rw [← HN.out]; exact hnl))
              have g5 : decide (N ≤ len) = true := by simp; omega
              clear HH HN HZ HEQ
              go_wp2_with fail
              go_roundw
              case rel => exact ⟨len, dist, e, i + 1, rfl, rfl, rfl, by go_num, HS2, HD3⟩
              case measure => simp [intOf]; omega
            · have g5 : decide (N ≤ len) = false := by simp; omega
              obtain ⟨D, hDe⟩ : ∃ D, D = a - e := ⟨_, rfl⟩
              have eD : (a : Int) - (e : Int) = (D : Int) := by omega
              have HDE := Lib.hid hDe
              clear hDe
              have HK3 : Hid (Blk w3 g 130 #[.slice (some ⟨b, off, none⟩) L c, .bool store, .int .i64 chain, .bool lazy, .int .i64 good, .int .i64 (lg : Int), .int .i64 (far : Int), .slice (some ⟨G, 0, none⟩) n n]) := Lib.hid ((HD3.out.below.block g HK.out.lt).trans HK.out)
              have y4 : w3.cell? ⟨g, 4, none⟩ = some (.int .i64 good) := HK3.out.cell 4
              by_cases hgo : good ≤ (N : Int)
              · have HE : Hid ((N, D) = R) := Lib.hid (by rw [HH.out, scan_good ⟨by omega, hic⟩ he3 (by rw [← HN.out]; unfold gd; split <;> omega), ← HN.out, HDE.out])
                have g6 : decide (good ≤ (N : Int)) = true := by simp; omega
                clear HH HN HZ HEQ HDE
                go_wp2_with fail
                go_ret2
                exact ⟨ret_pair HE.out, HD3.out⟩
              · have hgd : (N : Int) < gd good := by unfold gd; split <;> omega
                have g6 : decide (good ≤ (N : Int)) = false := by simp; omega
                by_cases hnm : N = m
                · have HE : Hid ((N, D) = R) := Lib.hid (by
                    rw [HH.out, scan_more ⟨by omega, hic⟩ he3 (by rw [← HN.out]; omega) (by rw [← HN.out]; omega), ← HN.out, scan_top hnm hgd, HDE.out])
                  have g7 : ((N : Int) == (m : Int)) = true := by simp; omega
                  clear HH HN HZ HEQ HDE hnm hgd
                  go_wp2_with fail
                  go_ret2
                  exact ⟨ret_pair HE.out, HD3.out⟩
                · have g7 : ((N : Int) == (m : Int)) = false := by simp; omega
                  have hS := Fs.take HH.out (by omega) hic he3 (by omega) (by rw [← HN.out]; omega) (by rw [← HN.out]; exact hgd) (by rw [← HN.out]; omega)
                  rw [← HN.out, ← HDE.out] at hS
                  have HS2 := Lib.hid hS
                  clear HH HN HZ HEQ HDE hnm hgd hS
                  go_wp2_with fail
                  go_roundw
                  case rel => exact ⟨N, D, e, i + 1, rfl, rfl, rfl, by go_num, HS2, HD3⟩
                  case measure => simp [intOf]; omega
          · have hml3 : ml s e a m ≤ len := by
              by_cases hlt : len < ml s e a m
              · exact absurd (ml_same s m e a len hlt) (by rw [← HZ.out.1, ← HZ.out.2]; exact hne)
              · omega
            have g4 : (((at_ s P).toNat : Int) != ((at_ s Q).toNat : Int)) = true := by
              simp only [bne_iff_ne, ne_eq]
              exact fun h => hne (UInt8.toNat_inj.1 (by omega))
            generalize (at_ s P).toNat = y1 at *
            generalize (at_ s Q).toNat = y2 at *
            go_quiet (fail)
            have HS2 := Lib.hid (Fs.pass HH.out (by omega) hic he3 (by omega) hml2 hgl hml3)
            have HD2 := Lib.hid (HD.out.more nq)
            clear HD HWR z1 z2 g4 eP eQ eP2 eQ2 g2 g3 y0 y6 y7 HH HZ hne hml3
            generalize wr.drewN nq = w2 at *
            go_wp2_with fail
            go_roundw
            case rel => exact ⟨len, dist, e, i + 1, rfl, rfl, rfl, by go_num, HS2, HD2⟩
            case measure => simp [intOf]; omega
    · have HE : Hid ((len, dist) = R) := Lib.hid (by rw [← HS.out.here]; exact (scan_out (by omega)).symm)
      clear HS
      go_wp2_with fail
      go_ret2
      exact ⟨ret_pair HE.out, HD.out⟩
end Go.Proofs.YtbjjkhlebdaoaaaGreatDoor.MatC
end

section
/-
  literal, literals, longer.
-/
namespace Go.Proofs.YtbjjkhlebdaoaaaGreatDoor.MatC
open Go.RowKit Go.My MatMath LzC

theorem lit_ret {a : Act} {w : World} {g : Nat} {C : Array Value} {R : Ending → World → Prop} (hd : a.defers = []) (hp : a.tmps.getD 2 undef = .pointer (some ⟨g, 0, none⟩))
    (hg : Blk w g 96 C) (hs : C.size = 3) (h : R (.returned (.agg C)) w) :
    bodyPost Tryz.prog Tryz.f51 R .ret a w := by
  refine bodyPost_ret (v := .agg C) ?_ hd h
  have hp' : a.tmps[2]?.getD undef = .pointer (some ⟨g, 0, none⟩) := by simpa using hp
  have hi : (Tryz.prog.info? 96).map (·.size) = some 3 := by kernel_rfl
  simp [results, hp', asAddr, run_loadVar_row (P := Tryz.prog) w g 96 96 C (0, 0) _ hg Tryz.underlying96 rfl (by rw [hs]; exact hi)]
theorem literal_any (c : UInt8) (w : World) : Calls Tryz.prog 51 #[.int .u8 (c.toNat : Int)] w fun e w' => e = .returned (.agg #[.int .i64 0, .int .i64 0, .int .u8 (c.toNat : Int)]) ∧ Below w.heap.size w w' := by
  go_enter Tryz.func51, Tryz.ntmps51
  go_wp2_with fail
  refine lit_ret rfl rfl (Blk.new w _ _) rfl ⟨rfl, (Below.refl _ _).alloc (Nat.le_refl _) _⟩

/-- A block of one token. -/
theorem one_tok (w : World) (t : LzMath.Tok) (h : Wf t) : TokIn (w.alloc (.cells (tc t) 96)) (some ⟨w.heap.size, 0, none⟩) 1 1 (fun _ => t) := by
  refine ⟨Nat.le_refl _, by omega, (fun h => by cases h), .inr ⟨w.heap.size, 0, rfl, fun i hi => ?_⟩⟩
  obtain rfl : i = 0 := by omega
  have hk := Blk.new w 96 (tc t)
  exact ⟨by rw [hk.cell]; rfl, by rw [hk.cell]; rfl, by rw [hk.cell]; rfl, by simp, h⟩
theorem join_next (f : Nat → LzMath.Tok) (n : Nat) (t : LzMath.Tok) (h : f n = t) : ∀ i, i < n + 1 → LzMath.join f n (fun _ => t) i = f i := by
  intro i hi
  by_cases h1 : i < n
  · exact LzMath.join_left h1
  · obtain rfl : i = n := by omega
    have := LzMath.join_right (f := f) (g := fun _ => t) (n := i) (k := 0)
    rw [Nat.add_zero] at this
    rw [this, h]
theorem OwnT_congr {base n : Nat} {w : World} {v : Value} {f g : Nat → LzMath.Tok} (h : OwnT base w v n f) (e : ∀ i, i < n → f i = g i) : OwnT base w v n g := by
  unfold OwnT at *
  rw [← toks_congr f g n e]
  exact h
theorem ownT_below {base n : Nat} {w w' : World} {v : Value} {f : Nat → LzMath.Tok} (h : OwnT base w v n f) {B : Nat} (hB : w.heap.size ≤ B) (hb : Below B w w') : OwnT base w' v n f := by
  refine World.ownsRow.kept h (row := none) ⟨hb.os, hb.tape, hb.output, hb.size, fun k hk _ => hb.block k (by omega)⟩ ?_
  by_cases hv : v.ownBlock = none
  · exact .inl hv
  · exact .inr hv

/-- Find at any index, its numbers. -/
theorem find_all (g : Nat) (p : Pl) (s : List UInt8) (a : Nat) (w : World) (h : Fnd w g p.store p.chain p.lazy p.good p.wide s) (hch : (Lit.int .i64 p.chain).wf = true) (n d : Nat) (hf : p.find s a = (n, d)) :
    Calls Tryz.prog 49 #[.pointer (some ⟨g, 0, none⟩), .int .i64 (a : Int)] w fun e w' => e = .returned (.tuple #[.int .i64 (n : Int), .int .i64 (d : Int)]) ∧ Drew w w' := by
  have e : nd (p.find s a) = .tuple #[.int .i64 (n : Int), .int .i64 (d : Int)] := by rw [hf]; rfl
  rw [← e]
  by_cases ha : a + 3 ≤ s.length
  · exact find_yes g p.store p.chain p.lazy p.good p.wide s a w h ha hch
  · have := find_no g p.store p.chain p.lazy p.good p.wide s (a : Int) w h (.inr (by omega))
    have e2 : findI s p.chain p.good p.wide (a : Int) = p.find s a := by unfold findI Pl.find; rw [if_pos (by omega)]; simp
    rw [e2] at this
    exact this
theorem longer_any (g : Nat) (p : Pl) (s : List UInt8) (a k : Nat) (w : World) (h : Fnd w g p.store p.chain p.lazy p.good p.wide s) (hch : (Lit.int .i64 p.chain).wf = true) (K : Bool) (hK : decide (k < (p.find s a).1) = K) :
    Calls Tryz.prog 50 #[.pointer (some ⟨g, 0, none⟩), .int .i64 (a : Int), .int .i64 (k : Int)] w fun e w' => e = .returned (.bool K) ∧ Drew w w' := by
  obtain ⟨n, d, hf⟩ : ∃ n d, p.find s a = (n, d) := ⟨_, _, rfl⟩
  have HC := Lib.hid (find_all g p s a w h hch n d hf)
  rw [hf] at hK
  simp only at hK
  clear hf h
  go_enter Tryz.func50, Tryz.ntmps50
  go_wp2_with fail
  refine HC.out.mono ?_
  rintro e w2 ⟨rfl, hd⟩
  have HD := Lib.hid hd
  clear HC hd
  go_wp2_with fail
  go_ret
  exact ⟨rfl, HD.out⟩
end Go.Proofs.YtbjjkhlebdaoaaaGreatDoor.MatC
end

section
/-
  Tokens, without Store.
-/
namespace Go.Proofs.YtbjjkhlebdaoaaaGreatDoor.MatC
open Go.RowKit Go.My MatMath LzC

/-- Where the loop stands: k tokens. -/
structure Tl (p : Pl) (s : List UInt8) (w wr : World) (v : Value) (k : Nat) : Prop where
  own : OwnT w.heap.size wr v k (tk p s)
  all : ∀ j, j < k → pos p s j < s.length
  below : Below w.heap.size w wr
theorem Tl.later {p : Pl} {s : List UInt8} {w wr w' : World} {v : Value} {k : Nat} (h : Tl p s w wr v k) (hb : Below wr.heap.size wr w') : Tl p s w w' v k :=
  ⟨ownT_below h.own (Nat.le_refl _) hb, h.all, h.below.trans (hb.mono h.below.size)⟩
theorem Tl.next {p : Pl} {s : List UInt8} {w wr w' : World} {v v' : Value} {k : Nat} {t : LzMath.Tok} (h : Tl p s w wr v k) (hlt : pos p s k < s.length) (ht : tk p s k = t) (hown : OwnT w.heap.size w' v' (k + 1) (LzMath.join (tk p s) k (fun _ => t))) (hg : wr.grownBy w' v.ownBlock) : Tl p s w w' v' (k + 1) :=
  ⟨OwnT_congr hown (join_next _ _ _ ht), fun j hj => by
    by_cases e : j < k
    · exact h.all j e
    · obtain rfl : j = k := by omega
      exact hlt, h.own.grown h.below hg h.below.size⟩

theorem ownT_mono {b1 b2 n : Nat} {w : World} {v : Value} {f : Nat → LzMath.Tok} (h : OwnT b2 w v n f) (hb : b1 ≤ b2) : OwnT b1 w v n f := by
  refine ⟨h.1, ?_⟩
  rcases h.2 with hn | ⟨g, cap, cur, rfl, hg, rest⟩
  · exact .inl hn
  · exact .inr ⟨g, cap, cur, rfl, Nat.le_trans hb hg, rest⟩
theorem ownT_nil (b : Nat) (w : World) (f : Nat → LzMath.Tok) : OwnT b w (.slice none 0 0) 0 f := World.ownsRow_nil _ _ _ _
/-- Tokens of the call's own. -/
def TokRet (p : Pl) (s : List UInt8) (w : World) (e : Ending) (w' : World) : Prop := ∃ v K, e = .returned v ∧ OwnT w.heap.size w' v K (tk p s) ∧ Many p s K ∧ Below w.heap.size w w'

set_option maxRecDepth 100000 in
set_option maxHeartbeats 8000000 in
theorem tokens_pack {a : Option Addr} {c : Nat} (p : Pl) (s : List UInt8) (w : World) (hb : Bytes w a s.length c s) (hl : s.length ≤ 900000) (hch : (Lit.int .i64 p.chain).wf = true) (hst : p.store = false) :
    Calls Tryz.prog 23 #[.slice a s.length c, pv p.store p.chain p.lazy p.good, .bool p.wide] w (TokRet p s w) := by
  obtain ⟨W, hW⟩ : ∃ W, W = w.alloc (.cells #[.bool p.store, .int .i64 p.chain, .bool p.lazy, .int .i64 p.good] 35) := ⟨_, rfl⟩
  have hbl : Below w.heap.size w W := by rw [hW]; exact (Below.refl _ w).alloc (Nat.le_refl _) _
  have HBW := Lib.hid (hb.below (Nat.le_refl _) hbl)
  have HK : Hid (Blk W w.heap.size 35 #[.bool p.store, .int .i64 p.chain, .bool p.lazy, .int .i64 p.good]) := Lib.hid (by rw [hW]; exact Blk.new _ _ _)
  have hgl := HK.out.lt
  have HBL := Lib.hid hbl
  rw [hst] at hW
  have HW := Lib.hid hW
  clear hb hW hbl
  have HFI : Hid (Calls Tryz.prog 48 #[.slice a s.length c, pv p.store p.chain p.lazy p.good, .bool p.wide] W fun e w' => ∃ g, e = .returned (.pointer (some ⟨g, 0, none⟩)) ∧ Fnd w' g p.store p.chain p.lazy p.good p.wide s ∧ Below W.heap.size W w' ∧ W.heap.size ≤ g) := Lib.hid (finder_any p.store p.chain p.lazy p.good p.wide W HBW.out (by omega))
  unfold pv at HFI ⊢
  rw [hst] at HFI ⊢
  have HST := Lib.hid hst
  clear hst
  obtain ⟨G, hG⟩ : ∃ G, G = w.heap.size := ⟨_, rfl⟩
  go_enter Tryz.func23, Tryz.ntmps23
  go_wp2_with fail
  rw [← HW.out, ← hG]
  rw [← hG] at HK hgl
  refine HFI.out.mono ?_
  rintro e w3 ⟨g, rfl, hf, hb3, hgg⟩
  have HF : Hid (Fnd w3 g p.store p.chain p.lazy p.good p.wide s) := Lib.hid (by rw [HST.out]; exact hf)
  have HK3 : Hid (Blk w3 G 35 #[.bool p.store, .int .i64 p.chain, .bool p.lazy, .int .i64 p.good]) := Lib.hid ((hb3.block G hgl).trans HK.out)
  have HB3 := Lib.hid (HBW.out.below (Nat.le_refl _) hb3)
  have HBE := Lib.hid (HBL.out.trans (hb3.mono HBL.out.size))
  have HG := Lib.hid hG
  clear hf hb3 hgg HK HBW HBL HFI hgl hG
  go_wp2_with fail
  clear HW
  go_loopw [7, 9] (fun v av wr => ∃ (k a : Nat) (aa : Option Addr) (ca : Nat), v = .slice aa k ca ∧ av = .int .i64 (a : Int) ∧ a ≤ s.length ∧ Hid (a = pos p s k) ∧ Hid (Tl p s w3 wr (.slice aa k ca) k)) (fun _ av _ => s.length - (intOf av).toNat)
  case atStart => exact ⟨0, 0, none, 0, rfl, rfl, Nat.zero_le _, Lib.hid rfl, Lib.hid ⟨ownT_nil _ _ _, fun j hj => by omega, Below.refl _ _⟩⟩
  case round =>
    obtain ⟨k, i, aa, ca, rfl, rfl, hiL, HI, HT⟩ := hrel
    obtain ⟨L, hL⟩ : ∃ L, L = s.length := ⟨_, rfl⟩
    rw [← hL] at hl hiL ⊢
    have HL := Lib.hid hL
    clear hL
    by_cases hlt : i < L
    · obtain ⟨n, d, hnd⟩ : ∃ n d, p.find s i = (n, d) := ⟨_, _, rfl⟩
      have HC := Lib.hid (find_all g p s i wr (HF.out.below HT.out.below) hch n d hnd)
      have hnn : n = 0 ∧ d = 0 ∨ 3 ≤ n ∧ i + n ≤ L ∧ d ≤ i := by
        obtain ⟨n', d', h1, h2⟩ := find_nums s p.chain p.good p.wide i
        have h3 : (n, d) = (n', d') := hnd.symm.trans h1
        injection h3 with h3 h4
        subst h3 h4
        rw [HL.out]
        rcases h2 with h2 | h2
        · exact .inl h2
        · exact .inr ⟨h2.1, h2.2.2.1, h2.2.2.2.2.2.1⟩
      have HND := Lib.hid hnd
      clear hnd
      go_wp2_with fail
      refine HC.out.mono ?_
      rintro e w4 ⟨rfl, hd⟩
      have HT4 := Lib.hid (HT.out.later hd.below)
      clear HC HT hd
      go_upto_region 8 with (fail)
      go_cut [48] (fun v wc => v = .bool (lit p s i) ∧ Hid (Tl p s w3 wc (.slice aa k ca) k))
      case first =>
        have hKr : Blk w4 G 35 #[.bool p.store, .int .i64 p.chain, .bool p.lazy, .int .i64 p.good] := (HT4.out.below.block G HK3.out.lt).trans HK3.out
        have x2 : w4.cell? ⟨G, 2, none⟩ = some (.bool p.lazy) := hKr.cell 2
        have x3 : w4.cell? ⟨G, 3, none⟩ = some (.int .i64 p.good) := hKr.cell 3
        clear hKr
        have hlit : lit p s i = ((n : Nat) == 0 || p.lazy && (decide ((n : Int) < p.good) && decide (n < (p.find s (i + 1)).1))) := by unfold lit; rw [HST.out, HND.out, Bool.false_or]
        have HLIT := Lib.hid hlit
        obtain ⟨Kb, hKb⟩ : ∃ Kb, decide (n < (p.find s (i + 1)).1) = Kb := ⟨_, rfl⟩
        rw [hKb] at HLIT
        have hc2 := longer_any g p s (i + 1) n w4 (HF.out.below HT4.out.below) hch Kb hKb
        rw [show ((i + 1 : Nat) : Int) = (i : Int) + 1 by omega] at hc2
        have HC2 := Lib.hid hc2
        clear hlit hKb hc2
        by_cases hn0 : n = 0
        · have g0 : ((n : Int) == 0) = true := by simp; omega
          have HE : Hid (lit p s i = true) := Lib.hid (by rw [HLIT.out, hn0]; rfl)
          clear hn0
          go_wp2_with fail
          go_meet
          case rel => exact ⟨by rw [HE.out], HT4⟩
        · have g0 : ((n : Int) == 0) = false := by simp; omega
          have h0 : (n == 0) = false := by simp; omega
          obtain ⟨lz, hlz⟩ : ∃ lz, p.lazy = lz := ⟨_, rfl⟩
          rw [hlz] at x2 HLIT
          clear hlz
          cases lz with
          | false =>
            have HE : Hid (lit p s i = false) := Lib.hid (by rw [HLIT.out, h0]; rfl)
            clear hn0 h0
            go_wp2_with fail
            go_meet
            case rel => exact ⟨by rw [HE.out], HT4⟩
          | true =>
            by_cases hng : (n : Int) < p.good
            · have g2 : decide ((n : Int) < p.good) = true := by simp; omega
              have HE : Hid (lit p s i = Kb) := Lib.hid (by rw [HLIT.out, h0, g2]; rfl)
              clear hn0 h0
              go_wp2_with fail
              refine HC2.out.mono ?_
              rintro e w5 ⟨rfl, hd5⟩
              have HT5 := Lib.hid (HT4.out.later hd5.below)
              clear HC2 HT4 hd5 x2 x3
              go_wp2_with fail
              go_meet
              case rel => exact ⟨by rw [HE.out], HT5⟩
            · have g2 : decide ((n : Int) < p.good) = false := by simp; omega
              have HE : Hid (lit p s i = false) := Lib.hid (by rw [HLIT.out, h0, g2]; rfl)
              clear hn0 h0
              go_wp2_with fail
              go_meet
              case rel => exact ⟨by rw [HE.out], HT4⟩
      obtain ⟨rfl, HT5⟩ := hcut
      have HPN : Hid (pos p s (k + 1) = i + stp p s i) := Lib.hid (by rw [HI.out]; rfl)
      have hlt2 : Hid (pos p s k < s.length) := Lib.hid (by rw [← HI.out, ← HL.out]; exact hlt)
      have hkk : k ≤ 900000 := by have h1 := pos_ge (p := p) (s := s) k; have := hlt2.out; rw [← HL.out] at this; omega
      clear HT4
      cases hli : lit p s i with
      | true =>
        have HTK : Hid (tk p s k = ⟨0, 0, at_ s i⟩) := Lib.hid (by unfold tk tkAt; rw [← HI.out, hli]; rfl)
        have HST1 : Hid (i + 1 = pos p s (k + 1)) := Lib.hid (by rw [HPN.out]; unfold stp; rw [hli]; rfl)
        clear hli HPN
        have hBw := HB3.out.below (Nat.le_refl _) HT5.out.below
        obtain ⟨b, off, rfl⟩ := hBw.some_ (by rw [← HL.out]; omega)
        have x0 := at_cell hBw i (by rw [← HL.out]; exact hlt)
        clear hBw
        have HC3 := Lib.hid (literal_any (at_ s i) wc)
        generalize at_ s i = ch at *
        generalize wc = w5 at *
        go_wp2_with fail
        refine HC3.out.mono ?_
        rintro e w6 ⟨rfl, hb6⟩
        have HT6 := Lib.hid (HT5.out.later hb6)
        have HT7 := Lib.hid (HT6.out.later ((Below.refl _ w6).alloc (Nat.le_refl _) (.cells (tc ⟨0, 0, ch⟩) 96)))
        have HWT : Hid (Wf (⟨0, 0, ch⟩ : LzMath.Tok)) := Lib.hid ⟨⟨by show -9223372036854775808 ≤ (0 : Int); omega, by show (0 : Int) ≤ 9223372036854775807; omega⟩, by show -9223372036854775808 ≤ (0 : Int); omega, by show (0 : Int) ≤ 9223372036854775807; omega⟩
        clear HC3 HT5 hb6 x0
        go_wp2_with (at_builtin; refine wpList_append_toks (by rfl) (.tmp 49) (.tmp 55) (by rfl) w3.heap.size _ k (tk p s) (by rfl) HT7.out.own (some ⟨w6.heap.size, 0, none⟩) 1 1 (fun _ => (⟨0, 0, ch⟩ : LzMath.Tok)) (by rfl) (one_tok w6 (⟨0, 0, ch⟩ : LzMath.Tok) HWT.out) (by omega) (by have := HT6.out.below.size; simp; omega) ?_)
        intro v2 w7 hown hg
        have HT8 := Lib.hid (HT7.out.next hlt2.out HTK.out hown hg)
        obtain ⟨a7, c7, rfl, _⟩ := hown.toks (fun j hj => by rw [join_next _ _ _ HTK.out j hj]; exact tk_wf (by rw [← HL.out]; omega) j)
        clear hown hg HT6 HT7
        go_wp2_with fail
        go_roundw
        case rel => exact ⟨k + 1, i + 1, a7, c7, rfl, by go_num, by omega, HST1, HT8⟩
        case measure => simp [intOf]; omega
      | false =>
        have hnpos : 3 ≤ n ∧ i + n ≤ L ∧ d ≤ i := by
          rcases hnn with h | h
          · exfalso
            have h2 : lit p s i = true := by unfold lit; rw [HND.out, h.1]; simp
            rw [hli] at h2
            cases h2
          · exact h
        obtain ⟨hn3, hnL, hdi⟩ := hnpos
        have HTK : Hid (tk p s k = ⟨(n : Int), (d : Int), 0⟩) := Lib.hid (by unfold tk tkAt; rw [← HI.out, hli, HND.out]; rfl)
        have HST1 : Hid (i + n = pos p s (k + 1)) := Lib.hid (by rw [HPN.out]; unfold stp; rw [hli, HND.out]; rfl)
        clear hli HPN hnn
        generalize wc = w6 at *
        have HT7 := Lib.hid (HT5.out.later ((Below.refl _ w6).alloc (Nat.le_refl _) (.cells (tc ⟨(n : Int), (d : Int), 0⟩) 96)))
        have HWT : Hid (Wf (⟨(n : Int), (d : Int), 0⟩ : LzMath.Tok)) := Lib.hid ⟨⟨by show -9223372036854775808 ≤ (n : Int); omega, by show (n : Int) ≤ 9223372036854775807; omega⟩, by show -9223372036854775808 ≤ (d : Int); omega, by show (d : Int) ≤ 9223372036854775807; omega⟩
        go_wp2_with (at_builtin; refine wpList_append_toks (by rfl) (.tmp 59) (.tmp 63) (by rfl) w3.heap.size _ k (tk p s) (by rfl) HT7.out.own (some ⟨w6.heap.size, 0, none⟩) 1 1 (fun _ => (⟨(n : Int), (d : Int), 0⟩ : LzMath.Tok)) (by rfl) (one_tok w6 (⟨(n : Int), (d : Int), 0⟩ : LzMath.Tok) HWT.out) (by omega) (by have := HT5.out.below.size; simp; omega) ?_)
        intro v2 w7 hown hg
        have HT8 := Lib.hid (HT7.out.next hlt2.out HTK.out hown hg)
        obtain ⟨a7, c7, rfl, _⟩ := hown.toks (fun j hj => by rw [join_next _ _ _ HTK.out j hj]; exact tk_wf (by rw [← HL.out]; omega) j)
        clear hown hg HT5 HT7
        go_wp2_with fail
        go_roundw
        case rel => exact ⟨k + 1, i + n, a7, c7, rfl, by go_num, by omega, HST1, HT8⟩
        case measure => simp [intOf]; omega
    · have HMN : Hid (Many p s k) := Lib.hid ⟨HT.out.all, by rw [← HI.out, ← HL.out]; omega⟩
      have hle : w.heap.size ≤ w3.heap.size := HBE.out.size
      go_wp2_with fail
      go_ret
      exact ⟨_, k, rfl, ownT_mono HT.out.own hle, HMN.out, HBE.out.trans (HT.out.below.mono hle)⟩
end Go.Proofs.YtbjjkhlebdaoaaaGreatDoor.MatC
end

section
/-
  literals; Tokens with Store.
-/
namespace Go.Proofs.YtbjjkhlebdaoaaaGreatDoor.MatC
open Go.RowKit Go.My MatMath LzC

def upd (f : Nat → LzMath.Tok) (i : Nat) (t : LzMath.Tok) : Nat → LzMath.Tok := fun j => if j = i then t else f j
theorem toks_set (f : Nat → LzMath.Tok) (i : Nat) (t : LzMath.Tok) (n : Nat) (hi : i < n) :
    (((toks f n).set (i * 3) (.int .i64 t.len)).set (i * 3 + 1) (.int .i64 t.dist)).set (i * 3 + 2) (.int .u8 (t.byte.toNat : Int)) = toks (upd f i t) n := by
  induction n with
  | zero => omega
  | succ n ih =>
    have hl := toks_len f n
    show (((toks f n ++ [Value.int .i64 (f n).len, Value.int .i64 (f n).dist, Value.int .u8 ((f n).byte.toNat : Int)]).set (i * 3) _).set (i * 3 + 1) _).set (i * 3 + 2) _ = toks (upd f i t) n ++ [Value.int .i64 (upd f i t n).len, Value.int .i64 (upd f i t n).dist, Value.int .u8 ((upd f i t n).byte.toNat : Int)]
    by_cases h : i < n
    · rw [List.set_append_left _ _ (by omega), List.set_append_left _ _ (by rw [List.length_set]; omega), List.set_append_left _ _ (by rw [List.length_set, List.length_set]; omega), ih h]
      have e : upd f i t n = f n := by unfold upd; rw [if_neg (by omega)]
      rw [e]
    · obtain rfl : i = n := by omega
      have e : upd f i t i = t := by unfold upd; rw [if_pos rfl]
      have e2 : toks (upd f i t) i = toks f i := toks_congr _ _ _ (fun j hj => by unfold upd; rw [if_neg (by omega)])
      rw [List.set_append_right _ _ (by omega), List.set_append_right _ _ (by omega), List.set_append_right _ _ (by omega), hl, e, e2, Nat.sub_self, show i * 3 + 1 - i * 3 = 1 by omega, show i * 3 + 2 - i * 3 = 2 by omega]
      rfl
theorem ownT_put {base g n c : Nat} {w : World} {f : Nat → LzMath.Tok} (h : OwnT base w (.slice (some ⟨g, 0, none⟩) n c) n f) (i : Nat) (t : LzMath.Tok) (hi : i < n) :
    OwnT base (((w.setCell ⟨g, i * 3, none⟩ (.int .i64 t.len)).setCell ⟨g, i * 3 + 1, none⟩ (.int .i64 t.dist)).setCell ⟨g, i * 3 + 2, none⟩ (.int .u8 (t.byte.toNat : Int))) (.slice (some ⟨g, 0, none⟩) n c) n (upd f i t) := by
  have h1 := (World.ownsRow.stored h (i * 3) (.int .i64 t.len)).1
  have h2 := (World.ownsRow.stored h1 (i * 3 + 1) (.int .i64 t.dist)).1
  have h3 := (World.ownsRow.stored h2 (i * 3 + 2) (.int .u8 (t.byte.toNat : Int))).1
  rw [toks_set f i t n hi] at h3
  exact h3
theorem ownT_at {base g n c : Nat} {w : World} {f : Nat → LzMath.Tok} (h : OwnT base w (.slice (some ⟨g, 0, none⟩) n c) n f) (i : Nat) (hi : i < n) :
    (w.cell? ⟨g, i * 3, none⟩ = some (.int .i64 (f i).len) ∧ w.cell? ⟨g, i * 3 + 1, none⟩ = some (.int .i64 (f i).dist) ∧ w.cell? ⟨g, i * 3 + 2, none⟩ = some (.int .u8 ((f i).byte.toNat : Int))) ∧ ∀ j, w.frozen? ⟨g, j, none⟩ = false := by
  obtain ⟨h1, h2, h3⟩ := toks_get f n i hi
  exact ⟨⟨by rw [World.ownsRow.cellAt h _ (by omega)]; exact h1, by rw [World.ownsRow.cellAt h _ (by omega)]; exact h2, by rw [World.ownsRow.cellAt h _ (by omega)]; exact h3⟩, fun j => World.ownsRow.frozenAt h j⟩
theorem made_toks (n : Nat) : (madeCells (Value.cells (.agg #[.int .i64 0, .int .i64 0, .int .u8 0])) (n * 3)).toList = toks (fun _ => ⟨0, 0, 0⟩) n := by
  apply List.ext_getElem?
  intro j
  by_cases hj : j < n * 3
  · obtain ⟨h1, h2, h3⟩ := toks_get (fun _ => (⟨0, 0, 0⟩ : LzMath.Tok)) n (j / 3) (by omega)
    have e : (madeCells (Value.cells (.agg #[.int .i64 0, .int .i64 0, .int .u8 0])) (n * 3)).toList[j]? = some ((#[.int .i64 0, .int .i64 0, .int .u8 0] : Array Value)[j % 3]!) := by
      simp [madeCells, Value.cells, hj]
    have hr : j % 3 = 0 ∨ j % 3 = 1 ∨ j % 3 = 2 := by omega
    rcases hr with hr | hr | hr
    · rw [e, hr]
      rw [show j = j / 3 * 3 by omega, h1]; rfl
    · rw [e, hr]
      rw [show j = j / 3 * 3 + 1 by omega, h2]; rfl
    · rw [e, hr]
      rw [show j = j / 3 * 3 + 2 by omega, h3]; rfl
  · rw [List.getElem?_eq_none (by rw [Array.length_toList, size_madeCells]; omega), List.getElem?_eq_none (by rw [toks_len]; omega)]
/-- The row behind k rounds. -/
def lts (s : List UInt8) (k : Nat) : Nat → LzMath.Tok := fun i => if i < k then ⟨0, 0, at_ s i⟩ else ⟨0, 0, 0⟩
theorem lts_next (s : List UInt8) (k : Nat) : upd (lts s k) k ⟨0, 0, at_ s k⟩ = lts s (k + 1) := by
  funext j
  unfold upd lts
  by_cases h1 : j = k
  · subst h1; rw [if_pos rfl, if_pos (by omega)]
  · rw [if_neg h1]
    by_cases h2 : j < k
    · rw [if_pos h2, if_pos (by omega)]
    · rw [if_neg h2, if_neg (by omega)]

set_option maxRecDepth 100000 in
set_option maxHeartbeats 4000000 in
theorem literals_any {a : Option Addr} {c : Nat} (s : List UInt8) (w : World) (hb : Bytes w a s.length c s) (hl : s.length ≤ 900000) :
    Calls Tryz.prog 47 #[.slice a s.length c] w fun e w' => ∃ g, e = .returned (.slice (some ⟨g, 0, none⟩) s.length s.length) ∧ OwnT w.heap.size w' (.slice (some ⟨g, 0, none⟩) s.length s.length) s.length (fun i => ⟨0, 0, at_ s i⟩) ∧ Below w.heap.size w w' := by
  have HB := Lib.hid hb
  clear hb
  obtain ⟨L, hL⟩ : ∃ L, L = s.length := ⟨_, rfl⟩
  rw [← hL] at HB hl ⊢
  have HL := Lib.hid hL
  clear hL
  obtain ⟨i0, hi, hz0, hz2, hz3⟩ := info_parts infoT
  have HI := Lib.hid (And.intro hi (And.intro hz0 (And.intro hz2 hz3)))
  clear hi hz0 hz2 hz3
  go_enter Tryz.func47, Tryz.ntmps47
  go_upto_region 1 with (fail)
  go_wp2_with (at_make; refine wpList_make_full _ rfl _ _ 48 rfl w.heap.size 96 i0 (.agg #[.int .i64 0, .int .i64 0, .int .u8 0]) 3 Tryz.underlying48 HI.out.1 HI.out.2.1 HI.out.2.2.1 .i64 .i64 _ _ L rfl rfl rfl rfl (by rw [HI.out.2.2.2]; omega) (by unfold maxLen; omega) (Nat.le_refl _) ?_)
  intro w1 hown hg
  replace hown : OwnT w.heap.size w1 (.slice (some ⟨w.heap.size, 0, none⟩) L L) L (fun _ => ⟨0, 0, 0⟩) := by unfold OwnT; rw [← made_toks]; exact hown
  obtain ⟨G, hG⟩ : ∃ G, G = w.heap.size := ⟨_, rfl⟩
  have hGw : w.heap.size ≤ G := by omega
  rw [← hG] at hown ⊢
  have HO : Hid (OwnT w.heap.size w1 (.slice (some ⟨G, 0, none⟩) L L) L (lts s 0)) := Lib.hid (by
    have e : lts s 0 = fun _ => (⟨0, 0, 0⟩ : LzMath.Tok) := by funext j; unfold lts; rw [if_neg (by omega)]
    rw [e, ← hG]; exact hown)
  have HBE : Hid (Below w.heap.size w w1) := Lib.hid ((Below.refl _ w).grown hg (Nat.le_refl _) (fun k hk => by cases hk))
  clear hown hg hG
  go_wp2_with fail
  go_loopw [11] (fun v wr => ∃ k : Nat, k ≤ L ∧ v = .int .i64 (k : Int) ∧ Hid (OwnT w.heap.size wr (.slice (some ⟨G, 0, none⟩) L L) L (lts s k)) ∧ Hid (Below w.heap.size w wr)) (fun v _ => L - (intOf v).toNat)
  case atStart => exact ⟨0, Nat.zero_le _, rfl, HO, HBE⟩
  case round =>
    clear HO HBE
    obtain ⟨k, hk, rfl, HO, HBE⟩ := hrel
    by_cases hlt : k < L
    · have hBw := HB.out.below (Nat.le_refl _) HBE.out
      obtain ⟨b, off, rfl⟩ := hBw.some_ (by omega)
      rw [HL.out] at hBw
      have x0 := at_cell hBw k (by rw [← HL.out]; exact hlt)
      clear hBw
      have HC := Lib.hid (literal_any (at_ s k))
      have HLN := Lib.hid (lts_next s k)
      generalize at_ s k = ch at *
      go_wp2_with fail
      refine (HC.out _).mono ?_
      rintro e w3 ⟨rfl, hb3⟩
      have ho3 := ownT_below HO.out (Nat.le_refl _) hb3
      have HB3 := Lib.hid (HBE.out.trans (hb3.mono HBE.out.size))
      obtain ⟨⟨c0, c1, c2⟩, hfr⟩ := ownT_at ho3 k hlt
      have f0 := hfr (k * 3)
      have f1 := hfr (k * 3 + 1)
      have f2 := hfr (k * 3 + 2)
      have HN : Hid (OwnT w.heap.size (((w3.setCell ⟨G, k * 3, none⟩ (.int .i64 0)).setCell ⟨G, k * 3 + 1, none⟩ (.int .i64 0)).setCell ⟨G, k * 3 + 2, none⟩ (.int .u8 (ch.toNat : Int))) (.slice (some ⟨G, 0, none⟩) L L) L (lts s (k + 1))) := Lib.hid (by
        have := ownT_put ho3 k ⟨0, 0, ch⟩ hlt
        rw [HLN.out] at this
        exact this)
      have HB4 : Hid (Below w.heap.size w (((w3.setCell ⟨G, k * 3, none⟩ (.int .i64 0)).setCell ⟨G, k * 3 + 1, none⟩ (.int .i64 0)).setCell ⟨G, k * 3 + 2, none⟩ (.int .u8 (ch.toNat : Int)))) := Lib.hid (((HB3.out.setCell hGw _).setCell hGw _).setCell hGw _)
      clear hfr ho3 hb3 HO HBE x0
      go_wp2_with fail
      go_roundw
      case rel => exact ⟨k + 1, by omega, by go_num, HN, HB4⟩
      case measure => simp [intOf]; omega
    · obtain rfl : k = L := by omega
      go_wp2_with fail
      go_ret
      refine ⟨G, rfl, OwnT_congr HO.out (fun i hi => ?_), HBE.out⟩
      unfold lts
      rw [if_pos hi]

set_option maxRecDepth 100000 in
set_option maxHeartbeats 4000000 in
theorem tokens_store {a : Option Addr} {c : Nat} (p : Pl) (s : List UInt8) (w : World) (hb : Bytes w a s.length c s) (hl : s.length ≤ 900000) (hst : p.store = true) :
    Calls Tryz.prog 23 #[.slice a s.length c, pv p.store p.chain p.lazy p.good, .bool p.wide] w (TokRet p s w) := by
  obtain ⟨W, hW⟩ : ∃ W, W = w.alloc (.cells #[.bool true, .int .i64 p.chain, .bool p.lazy, .int .i64 p.good] 35) := ⟨_, rfl⟩
  have hbl : Below w.heap.size w W := by rw [hW]; exact (Below.refl _ w).alloc (Nat.le_refl _) _
  have HBL := Lib.hid hbl
  have HLI := Lib.hid (literals_any s W (hb.below (Nat.le_refl _) hbl) hl)
  have HW := Lib.hid hW
  clear hb hW hbl
  unfold pv
  rw [hst]
  have HST := Lib.hid hst
  clear hst
  go_enter Tryz.func23, Tryz.ntmps23
  go_wp2_with fail
  rw [← HW.out]
  refine HLI.out.mono ?_
  rintro e w3 ⟨g, rfl, ho, hb3⟩
  have HO := Lib.hid ho
  have HB := Lib.hid (HBL.out.trans (hb3.mono HBL.out.size))
  have hle := HBL.out.size
  clear ho hb3 HLI HW HBL
  go_wp2_with fail
  go_ret
  refine ⟨_, s.length, rfl, ownT_mono (OwnT_congr HO.out (fun i _ => ?_)) hle, many_store HST.out, HB.out⟩
  unfold tk tkAt
  rw [pos_store HST.out, lit_store HST.out]
  rfl
theorem tokens_any {a : Option Addr} {c : Nat} (p : Pl) (s : List UInt8) (w : World) (hb : Bytes w a s.length c s) (hl : s.length ≤ 900000) (hch : (Lit.int .i64 p.chain).wf = true) :
    Calls Tryz.prog 23 #[.slice a s.length c, pv p.store p.chain p.lazy p.good, .bool p.wide] w (TokRet p s w) := by
  by_cases h : p.store = true
  · exact tokens_store p s w hb hl h
  · exact tokens_pack p s w hb hl hch (by simpa using h)
end Go.Proofs.YtbjjkhlebdaoaaaGreatDoor.MatC
end
