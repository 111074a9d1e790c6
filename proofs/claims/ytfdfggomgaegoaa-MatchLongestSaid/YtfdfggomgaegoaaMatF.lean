/-
  The document's Find.
-/
import Derived.Test.YtfdfggomgaegoaaMatE
namespace Go.Proofs.Ytfdfggomgaegoaa.MatC
open Go.RowKit Go.My MatMath

theorem take3 {s : List UInt8} {k a : Nat} (hk : k + 3 ≤ s.length) (ha : a + 3 ≤ s.length) : (((s.drop k).take 3) == ((s.drop a).take 3)) = tri s k a := by
  have h3 : ∀ i, i + 3 ≤ s.length → (s.drop i).take 3 = [at_ s i, at_ s (i + 1), at_ s (i + 2)] := fun i hi => by
    apply List.ext_getElem
    · simp; omega
    · intro j h1 h2
      simp at h2
      rw [List.getElem_take, List.getElem_drop]
      match j, h2 with
      | 0, _ => simp [at_, List.getD_eq_getElem?_getD, List.getElem?_eq_getElem (show i < s.length by omega)]
      | 1, _ => simp [at_, List.getD_eq_getElem?_getD, List.getElem?_eq_getElem (show i + 1 < s.length by omega)]
      | 2, _ => simp [at_, List.getD_eq_getElem?_getD, List.getElem?_eq_getElem (show i + 2 < s.length by omega)]
  rw [h3 k hk, h3 a ha]
  simp [tri, Bool.and_assoc]

theorem rfind_no {ad : Option Addr} {c : Nat} (store : Bool) (chain : Int) (lazy : Bool) (good : Int) (wide : Bool) (s : List UInt8) (at' : Int) (w : World) (hl : s.length ≤ 1000000000) (hno : at' < 0 ∨ (s.length : Int) < at' + 3) :
    Calls Try.prog 12 #[.slice ad s.length c, pv store chain lazy good, .bool wide, .int .i64 at'] w fun e w' => e = .returned (nd (findI s chain good wide at')) ∧ Below w.heap.size w w' := by
  have HF : Hid (findI s chain good wide at' = (0, 0)) := Lib.hid (by
    unfold findI find
    split
    · rw [if_neg (by omega)]
    · rfl)
  unfold pv
  generalize s.length = L at *
  by_cases h0 : at' < 0
  · go_enter Try.func12, Try.ntmps12
    go_wp2_with fail
    go_ret2
    exact ⟨ret_pair HF.out.symm, (Below.refl _ _).alloc (Nat.le_refl _) _⟩
  · have h1 : (L : Int) - 3 < at' := by omega
    go_enter Try.func12, Try.ntmps12
    go_wp2_with fail
    go_ret2
    exact ⟨ret_pair HF.out.symm, (Below.refl _ _).alloc (Nat.le_refl _) _⟩

set_option maxRecDepth 100000 in
set_option maxHeartbeats 8000000 in
theorem rfind_yes {ad : Option Addr} {c : Nat} (store : Bool) (chain : Int) (lazy : Bool) (good : Int) (wide : Bool) (s : List UInt8) (a : Nat) (w : World) (hb : Bytes w ad s.length c s) (hl : s.length ≤ 1000000000) (ha : a + 3 ≤ s.length) (hch : (Lit.int .i64 chain).wf = true) :
    Calls Try.prog 12 #[.slice ad s.length c, pv store chain lazy good, .bool wide, .int .i64 (a : Int)] w fun e w' => e = .returned (nd (find s chain good wide a)) ∧ Below w.heap.size w w' := by
  obtain ⟨b, off, rfl⟩ := hb.some_ (by omega)
  have hcl := hb.le_cap
  have hcm := hb.cap_le
  have HFI : Hid (find s chain good wide a = scan s (far_ wide) (min (long_ wide) (s.length - a)) chain good a a 0 0 0) := Lib.hid (by unfold find; rw [if_pos ha])
  obtain ⟨R, hR⟩ : ∃ R, R = find s chain good wide a := ⟨_, rfl⟩
  rw [← hR] at HFI ⊢
  have HR0 := HFI
  clear hR HFI
  obtain ⟨W, hW⟩ : ∃ W, W = w.alloc (.cells #[.bool store, .int .i64 chain, .bool lazy, .int .i64 good] 24) := ⟨_, rfl⟩
  have hbl : Below w.heap.size w W := by rw [hW]; exact (Below.refl _ w).alloc (Nat.le_refl _) _
  have HB := Lib.hid (hb.below (Nat.le_refl _) hbl)
  have HK : Hid (Blk W w.heap.size 24 #[.bool store, .int .i64 chain, .bool lazy, .int .i64 good]) := Lib.hid (by rw [hW]; exact Blk.new _ _ _)
  have HBL := Lib.hid hbl
  have HW := Lib.hid hW
  clear hb hW hbl
  obtain ⟨L, hL⟩ : ∃ L, L = s.length := ⟨_, rfl⟩
  rw [← hL] at HB hl ha hcl HR0 ⊢
  have HL := Lib.hid hL
  clear hL
  have hch2 : -9223372036854775808 ≤ chain ∧ chain ≤ 9223372036854775807 := wf_int hch
  clear hch
  have hgdd : (if good < 1 then (1 : Int) else good) = gd good := rfl
  have hgd1 : 1 ≤ gd good := by unfold gd; split <;> omega
  obtain ⟨GD, hGD⟩ : ∃ GD, GD = gd good := ⟨_, rfl⟩
  rw [← hGD] at hgdd hgd1
  have HGD := Lib.hid hGD
  clear hGD
  unfold pv
  obtain ⟨g, hg⟩ : ∃ g, g = w.heap.size := ⟨_, rfl⟩
  rw [← hg] at HK
  have HG := Lib.hid hg
  clear hg
  have g0 : decide ((a : Int) < 0) = false := by simp
  have g1 : decide ((L : Int) - 3 < (a : Int)) = false := by simp; omega
  go_enter Try.func12, Try.ntmps12
  go_upto_if 26 with (fail)
  rw [← HW.out, ← HG.out]
  go_cut [10, 11] (fun x y wc => x = .int .i64 ((far_ wide : Nat) : Int) ∧ y = .int .i64 ((long_ wide : Nat) : Int) ∧ wc = W)
  case first =>
    cases wide
    · go_wp2_with fail
      go_meet
      case rel => exact ⟨rfl, rfl, rfl⟩
    · go_wp2_with fail
      go_meet
      case rel => exact ⟨rfl, rfl, rfl⟩
  obtain ⟨rfl, rfl, rfl⟩ := hcut
  have hlg := long_ge wide
  have hfg := far_ge wide
  generalize far_ wide = far at *
  generalize long_ wide = lg at *
  obtain ⟨m, hm⟩ : ∃ m, m = min lg (L - a) := ⟨_, rfl⟩
  rw [← hm] at HR0
  have hmlg : m ≤ lg := by omega
  have hml : a + m ≤ L := by omega
  have hm3 : 3 ≤ m := by omega
  have hmx : m = lg ∨ a + m = L := by omega
  clear hm
  go_wp2_with fail
  generalize wc = W1 at *
  clear g0 g1
  go_loopw [12, 13, 14, 15] (fun bv dv sv qv wr => ∃ best dist seen q : Nat, bv = .int .i64 (best : Int) ∧ dv = .int .i64 (dist : Int) ∧ sv = .int .i64 (seen : Int) ∧ qv = .int .i64 ((q : Int) - 1) ∧ q ≤ a ∧ seen + q ≤ a ∧ Hid (R = scan s far m chain good a q seen best dist) ∧ Hid (Drew W1 wr)) (fun _ _ _ qv _ => (intOf qv + 1).toNat)
  case atStart => exact ⟨0, 0, 0, a, rfl, rfl, rfl, rfl, Nat.le_refl _, by omega, HR0, Lib.hid (Drew.refl _)⟩
  case round =>
    clear HR0
    obtain ⟨best, dist, seen, q, rfl, rfl, rfl, rfl, hq, hsq, HR, HD⟩ := hrel
    have hKr : Blk wr g 24 #[.bool store, .int .i64 chain, .bool lazy, .int .i64 good] := (HD.out.below.block g HK.out.lt).trans HK.out
    have y1 : wr.cell? ⟨g, 1, none⟩ = some (.int .i64 chain) := hKr.cell 1
    have HDW : Hid (Below w.heap.size w wr) := Lib.hid (HBL.out.trans (HD.out.below.mono HBL.out.size))
    clear hKr
    rcases q with _ | q
    · have HE : Hid ((best, dist) = R) := Lib.hid (by rw [HR.out]; rfl)
      have e0 : ((0 : Nat) : Int) - 1 = -1 := rfl
      clear HR
      go_wp2_with fail
      go_ret2
      exact ⟨ret_pair HE.out, HDW.out⟩
    · rw [show ((q + 1 : Nat) : Int) - 1 = (q : Int) by omega]
      have f0 : (0 : Int) ≤ (q : Int) := by omega
      by_cases hok : a - q ≤ far ∧ (seen : Int) < chain
      · obtain ⟨hof, hoc⟩ := hok
        have g2 : decide ((a : Int) - (q : Int) ≤ (far : Int)) = true := by simp; omega
        have g3 : decide ((seen : Int) < chain) = true := by simp; omega
        have HS1 : Hid (q + 3 ≤ s.length ∧ a + 3 ≤ s.length) := Lib.hid (by rw [← HL.out]; omega)
        have HT := Lib.hid (take3 HS1.out.1 HS1.out.2)
        obtain ⟨K, hK⟩ : ∃ K, K = tri s q a := ⟨_, rfl⟩
        have hcmp : (((s.drop q).take 3) == ((s.drop a).take 3)) = K := by rw [HT.out, hK]
        have HKt := Lib.hid hK
        have HB1 := (HD.out.bytes HB.out).drop q (by omega)
        have HB2 := (HD.out.bytes HB.out).drop a (by omega)
        have k1 : ∀ j, (convert 22 9 (.slice (some ⟨b, off + q, none⟩) 3 (c - q))).run Try.prog (wr.drewN j) = .ok (.string ⟨((s.drop q).take 3).toArray⟩) (wr.drewN j) := fun j => run_string_bytes (wr.drewN j) 22 9 5 Try.underlying22 Try.underlying5 Try.underlying9 ((HB1.take 3 (by omega)).below (Nat.le_refl _) (quiet_below _ j))
        have k2 : ∀ j, (convert 22 9 (.slice (some ⟨b, off + a, none⟩) 3 (c - a))).run Try.prog (wr.drewN j) = .ok (.string ⟨((s.drop a).take 3).toArray⟩) (wr.drewN j) := fun j => run_string_bytes (wr.drewN j) 22 9 5 Try.underlying22 Try.underlying5 Try.underlying9 ((HB2.take 3 (by omega)).below (Nat.le_refl _) (quiet_below _ j))
        clear hK HB1 HB2 HT
        have e1 : IntKind.i64.wrap ((q : Int) + 3) = (q : Int) + 3 := IntWalk.i64_in _ (by omega)
        have e2 : IntKind.i64.wrap ((a : Int) + 3) = (a : Int) + 3 := IntWalk.i64_in _ (by omega)
        have e3 : ((q : Int) + 3).toNat = q + 3 := by omega
        have e4 : ((a : Int) + 3).toNat = a + 3 := by omega
        have f1 : (0 : Int) ≤ (q : Int) + 3 := by omega
        have f2 : (0 : Int) ≤ (a : Int) + 3 := by omega
        have f3 : (q : Int) + 3 ≤ (c : Int) := by omega
        have f4 : (a : Int) + 3 ≤ (c : Int) := by omega
        have f5 : ¬ c = q := by omega
        have f6 : ¬ c = a := by omega
        go_upto_region 10 with (fail)
        go_quiet (fail)
        have HD2 := Lib.hid (HD.out.more nq)
        clear HD HDW y1 k1 k2 e1 e2 e3 e4 f1 f2 f3 f4 f5 f6 g2 g3 hcmp
        generalize wr.drewN nq = w2 at *
        cases K
        · have HR2 : Hid (R = scan s far m chain good a q seen best dist) := Lib.hid (by rw [HR.out, scan_pass HKt.out.symm])
          clear HR HKt
          go_wp2_with fail
          go_roundw
          case rel => exact ⟨best, dist, seen, q, rfl, rfl, rfl, rfl, by omega, by omega, HR2, HD2⟩
          case measure => first | (simp [intOf]; done) | (simp [intOf]; omega)
        · have ht : tri s q a = true := HKt.out.symm
          have HT := Lib.hid ht
          clear HKt ht
          go_wp2_with fail
          clear f0
          generalize w2 = w3 at *
          go_loopw [16] (fun v wr => ∃ n : Nat, v = .int .i64 (n : Int) ∧ n ≤ m ∧ Hid (∀ i, i < n → at_ s (q + i) = at_ s (a + i)) ∧ Hid (Drew W1 wr)) (fun v _ => m - (intOf v).toNat)
          case atStart => exact ⟨0, rfl, by omega, Lib.hid (fun i hi => by omega), HD2⟩
          case round =>
            clear HD2
            obtain ⟨n, rfl, hnm, HE, HD⟩ := hrel
            go_upto_region 13 with (fail)
            go_cut [86] (fun v wc => ∃ K : Bool, v = .bool K ∧ Hid (Drew W1 wc) ∧ Hid (K = true → n < m ∧ at_ s (q + n) = at_ s (a + n)) ∧ Hid (K = false → ml s q a m = n))
            case first =>
              obtain ⟨P, hP⟩ : ∃ P, P = q + n := ⟨_, rfl⟩
              obtain ⟨Q, hQ⟩ : ∃ Q, Q = a + n := ⟨_, rfl⟩
              have eP : (q : Int) + (n : Int) = (P : Int) := by omega
              have eQ : (a : Int) + (n : Int) = (Q : Int) := by omega
              have eP2 : IntKind.i64.wrap (P : Int) = (P : Int) := IntWalk.i64_in _ (by omega)
              have eQ2 : IntKind.i64.wrap (Q : Int) = (Q : Int) := IntWalk.i64_in _ (by omega)
              by_cases hlt : n < m
              · have g1 : decide (Q < L) = true := by simp; omega
                have g2 : decide (n < lg) = true := by simp; omega
                have hPL : P < s.length := by rw [← HL.out]; omega
                have hQL : Q < s.length := by rw [← HL.out]; omega
                have HBr := HD.out.bytes HB.out
                rw [HL.out] at HBr
                have z1 := at_cell HBr P hPL
                have z2 := at_cell HBr Q hQL
                have hPL2 : P < L := by omega
                have hQL2 : Q < L := by omega
                clear HBr hPL hQL
                by_cases hxy : at_ s P = at_ s Q
                · have HF : Hid (at_ s (q + n) = at_ s (a + n)) := Lib.hid (by rw [← hP, ← hQ]; exact hxy)
                  rw [hxy] at z1
                  have g4 : (((at_ s Q).toNat : Int) == ((at_ s Q).toNat : Int)) = true := by simp
                  generalize (at_ s Q).toNat = y1 at *
                  clear hP hQ hxy
                  go_quiet (fail)
                  clear z1 z2 g1 g2 g4 eP eQ eP2 eQ2
                  go_wp2_with fail
                  go_meet
                  case rel => exact ⟨true, rfl, Lib.hid (HD.out.more nq), Lib.hid (fun _ => ⟨hlt, HF.out⟩), Lib.hid (fun e => by cases e)⟩
                · have HF : Hid (ml s q a m = n) := Lib.hid (ml_eq hnm HE.out (.inr (by rw [← hP, ← hQ]; exact hxy)))
                  have g4 : (((at_ s P).toNat : Int) == ((at_ s Q).toNat : Int)) = false := by
                    simp only [beq_eq_false_iff_ne, ne_eq]
                    exact fun h => hxy (UInt8.toNat_inj.1 (by omega))
                  generalize (at_ s P).toNat = y1 at *
                  generalize (at_ s Q).toNat = y2 at *
                  clear hP hQ hxy
                  go_quiet (fail)
                  clear z1 z2 g1 g2 g4 eP eQ eP2 eQ2
                  go_wp2_with fail
                  go_meet
                  case rel => exact ⟨false, rfl, Lib.hid (HD.out.more nq), Lib.hid (fun e => by cases e), Lib.hid (fun _ => HF.out)⟩
              · have HF : Hid (ml s q a m = n) := Lib.hid (ml_eq hnm HE.out (.inl (by omega)))
                by_cases hQL : Q < L
                · have g1 : decide (Q < L) = true := by simp; omega
                  have g2 : decide (n < lg) = false := by simp; omega
                  clear hP hQ
                  go_quiet (fail)
                  clear g1 g2 eP eQ eP2 eQ2
                  go_wp2_with fail
                  go_meet
                  case rel => exact ⟨false, rfl, Lib.hid (HD.out.more nq), Lib.hid (fun e => by cases e), Lib.hid (fun _ => HF.out)⟩
                · have g1 : decide (Q < L) = false := by simp; omega
                  clear hP hQ
                  go_quiet (fail)
                  clear g1 eP eQ eP2 eQ2
                  go_wp2_with fail
                  go_meet
                  case rel => exact ⟨false, rfl, Lib.hid (HD.out.more nq), Lib.hid (fun e => by cases e), Lib.hid (fun _ => HF.out)⟩
            obtain ⟨K, rfl, HD2, HK1, HK0⟩ := hcut
            cases K
            · have hn := HK0.out rfl
              have HN := Lib.hid hn
              clear hn HK0 HK1 HE HD
              have hKw : Blk wc g 24 #[.bool store, .int .i64 chain, .bool lazy, .int .i64 good] := (HD2.out.below.block g HK.out.lt).trans HK.out
              have y3 : wc.cell? ⟨g, 3, none⟩ = some (.int .i64 good) := hKw.cell 3
              have HDW : Hid (Below w.heap.size w wc) := Lib.hid (HBL.out.trans (HD2.out.below.mono HBL.out.size))
              obtain ⟨D, hDe⟩ : ∃ D, D = a - q := ⟨_, rfl⟩
              have eD : (a : Int) - (q : Int) = (D : Int) := by omega
              have HDE := Lib.hid hDe
              clear hDe hKw
              by_cases hgo : GD ≤ (n : Int)
              · have HE : Hid ((n, D) = R) := Lib.hid (by rw [HR.out, scan_good ⟨hof, hoc⟩ HT.out (by rw [HN.out, ← HGD.out]; exact hgo), HN.out, HDE.out])
                have g1 : decide (GD ≤ (n : Int)) = true := by simp; omega
                by_cases hbn : best < n
                · have g2 : decide (best < n) = true := by simp; omega
                  clear HR HN HT HDE
                  go_wp2_with fail
                  go_ret2
                  exact ⟨ret_pair HE.out, HDW.out⟩
                · have g2 : decide (best < n) = false := by simp; omega
                  clear HR HN HT HDE
                  go_wp2_with fail
                  go_ret2
                  exact ⟨ret_pair HE.out, HDW.out⟩
              · have g1 : decide (GD ≤ (n : Int)) = false := by simp; omega
                by_cases hbn : best < n
                · have g2 : decide (best < n) = true := by simp; omega
                  have HR2 : Hid (R = scan s far m chain good a q (seen + 1) n D) := Lib.hid (by rw [HR.out, scan_more ⟨hof, hoc⟩ HT.out (by rw [HN.out, ← HGD.out]; exact hgo) (by rw [HN.out]; exact hbn), HN.out, HDE.out])
                  clear HR HN HT HDE
                  go_wp2_with fail
                  go_roundw
                  case rel => exact ⟨n, D, seen + 1, q, rfl, rfl, by go_num, rfl, by omega, by omega, HR2, HD2⟩
                  case measure => first | (simp [intOf]; done) | (simp [intOf]; omega)
                · have g2 : decide (best < n) = false := by simp; omega
                  have HR2 : Hid (R = scan s far m chain good a q (seen + 1) best dist) := Lib.hid (by rw [HR.out, scan_less ⟨hof, hoc⟩ HT.out (by rw [HN.out, ← HGD.out]; exact hgo) (by rw [HN.out]; exact hbn)])
                  clear HR HN HT HDE
                  go_wp2_with fail
                  go_roundw
                  case rel => exact ⟨best, dist, seen + 1, q, rfl, rfl, by go_num, rfl, by omega, by omega, HR2, HD2⟩
                  case measure => first | (simp [intOf]; done) | (simp [intOf]; omega)
            · obtain ⟨h1, h2⟩ := HK1.out rfl
              have HE2 : Hid (∀ i, i < n + 1 → at_ s (q + i) = at_ s (a + i)) := Lib.hid (fun i hi => by
                by_cases hin : i < n
                · exact HE.out i hin
                · obtain rfl : i = n := by omega
                  exact h2)
              clear HE h2 HK0 HK1 HD
              go_wp2_with fail
              go_roundw
              case rel => exact ⟨n + 1, by go_num, h1, HE2, HD2⟩
              case measure => simp [intOf]; omega
      · have HE : Hid ((best, dist) = R) := Lib.hid (by rw [HR.out]; exact (scan_stop (by omega)).symm)
        by_cases hof : a - q ≤ far
        · have g2 : decide ((a : Int) - (q : Int) ≤ (far : Int)) = true := by simp; omega
          have g3 : decide ((seen : Int) < chain) = false := by simp; omega
          clear HR
          go_wp2_with fail
          go_ret2
          exact ⟨ret_pair HE.out, HDW.out⟩
        · have g2 : decide ((a : Int) - (q : Int) ≤ (far : Int)) = false := by simp; omega
          clear HR
          go_wp2_with fail
          go_ret2
          exact ⟨ret_pair HE.out, HDW.out⟩
end Go.Proofs.Ytfdfggomgaegoaa.MatC
