/-
  The document's Tokens.
-/
import Derived.Test.YtfdfggomgaegoaaMatI
import Derived.Test.YtfdfggomgaegoaaMatF
namespace Go.Proofs.Ytfdfggomgaegoaa.MatC
open Go.RowKit Go.My MatMath LzC

theorem rfind_all {ad : Option Addr} {c : Nat} (p : Pl) (s : List UInt8) (a : Nat) (w : World) (hb : Bytes w ad s.length c s) (hl : s.length ≤ 1000000000) (hch : (Lit.int .i64 p.chain).wf = true) (n d : Nat) (hf : p.find s a = (n, d)) :
    Calls Try.prog 12 #[.slice ad s.length c, pv p.store p.chain p.lazy p.good, .bool p.wide, .int .i64 (a : Int)] w fun e w' => e = .returned (.tuple #[.int .i64 (n : Int), .int .i64 (d : Int)]) ∧ Below w.heap.size w w' := by
  have e : nd (p.find s a) = .tuple #[.int .i64 (n : Int), .int .i64 (d : Int)] := by rw [hf]; rfl
  rw [← e]
  by_cases ha : a + 3 ≤ s.length
  · exact rfind_yes p.store p.chain p.lazy p.good p.wide s a w hb hl ha hch
  · have := rfind_no (ad := ad) (c := c) p.store p.chain p.lazy p.good p.wide s (a : Int) w hl (.inr (by omega))
    have e2 : findI s p.chain p.good p.wide (a : Int) = p.find s a := by unfold findI Pl.find; rw [if_pos (by omega)]; simp
    rw [e2] at this
    exact this

set_option maxRecDepth 100000 in
set_option maxHeartbeats 8000000 in
theorem rtokens_any {a : Option Addr} {c : Nat} (p : Pl) (s : List UInt8) (w : World) (hb : Bytes w a s.length c s) (hl : s.length ≤ 900000) (hch : (Lit.int .i64 p.chain).wf = true) :
    Calls Try.prog 15 #[.slice a s.length c, pv p.store p.chain p.lazy p.good, .bool p.wide] w (TokRet p s w) := by
  obtain ⟨W, hW⟩ : ∃ W, W = w.alloc (.cells #[.bool p.store, .int .i64 p.chain, .bool p.lazy, .int .i64 p.good] 24) := ⟨_, rfl⟩
  have hbl : Below w.heap.size w W := by rw [hW]; exact (Below.refl _ w).alloc (Nat.le_refl _) _
  have HB3 := Lib.hid (hb.below (Nat.le_refl _) hbl)
  have HK3 : Hid (Blk W w.heap.size 24 #[.bool p.store, .int .i64 p.chain, .bool p.lazy, .int .i64 p.good]) := Lib.hid (by rw [hW]; exact Blk.new _ _ _)
  have hgl := HK3.out.lt
  have HBE := Lib.hid hbl
  have HW := Lib.hid hW
  clear hb hW hbl
  unfold pv
  obtain ⟨G, hG⟩ : ∃ G, G = w.heap.size := ⟨_, rfl⟩
  go_enter Try.func15, Try.ntmps15
  go_wp2_with fail
  rw [← HW.out, ← hG]
  rw [← hG] at HK3 hgl
  have HG := Lib.hid hG
  clear hG HW
  go_loopw [7, 8] (fun v av wr => ∃ (k a : Nat) (aa : Option Addr) (ca : Nat), v = .slice aa k ca ∧ av = .int .i64 (a : Int) ∧ a ≤ s.length ∧ Hid (a = pos p s k) ∧ Hid (Tl p s W wr (.slice aa k ca) k)) (fun _ av _ => s.length - (intOf av).toNat)
  case atStart => exact ⟨0, 0, none, 0, rfl, rfl, Nat.zero_le _, Lib.hid rfl, Lib.hid ⟨ownT_nil _ _ _, fun j hj => by omega, Below.refl _ _⟩⟩
  case round =>
    obtain ⟨k, i, aa, ca, rfl, rfl, hiL, HI, HT⟩ := hrel
    obtain ⟨L, hL⟩ : ∃ L, L = s.length := ⟨_, rfl⟩
    rw [← hL] at hl hiL ⊢
    have HL := Lib.hid hL
    clear hL
    by_cases hlt : i < L
    · obtain ⟨n, d, hnd⟩ : ∃ n d, (if p.store then (0, 0) else p.find s i) = (n, d) := ⟨_, _, rfl⟩
      have hnn : n = 0 ∧ d = 0 ∨ 3 ≤ n ∧ i + n ≤ L ∧ d ≤ i := by
        cases hst : p.store with
        | true =>
          rw [hst] at hnd
          injection hnd with h3 h4
          exact .inl ⟨h3.symm, h4.symm⟩
        | false =>
          rw [hst] at hnd
          obtain ⟨n', d', h1, h2⟩ := find_nums s p.chain p.good p.wide i
          have h3 : (n, d) = (n', d') := hnd.symm.trans h1
          injection h3 with h3 h4
          subst h3 h4
          rw [HL.out]
          rcases h2 with h2 | h2
          · exact .inl h2
          · exact .inr ⟨h2.1, h2.2.2.1, h2.2.2.2.2.2.1⟩
      have HND := Lib.hid hnd
      clear hnd
      have hKr : Blk wr G 24 #[.bool p.store, .int .i64 p.chain, .bool p.lazy, .int .i64 p.good] := (HT.out.below.block G hgl).trans HK3.out
      obtain ⟨st, hst⟩ : ∃ st, p.store = st := ⟨_, rfl⟩
      have y0 : wr.cell? ⟨G, 0, none⟩ = some (.bool st) := by rw [← hst]; exact hKr.cell 0
      have y1 : wr.cell? ⟨G, 1, none⟩ = some (.int .i64 p.chain) := hKr.cell 1
      have y2 : wr.cell? ⟨G, 2, none⟩ = some (.bool p.lazy) := hKr.cell 2
      have y3 : wr.cell? ⟨G, 3, none⟩ = some (.int .i64 p.good) := hKr.cell 3
      clear hKr
      have HS := Lib.hid hst
      clear hst
      go_upto_if 19 with (fail)
      go_cut [9, 10] (fun nv dv wc => nv = .int .i64 (n : Int) ∧ dv = .int .i64 (d : Int) ∧ Hid (Tl p s W wc (.slice aa k ca) k))
      case first =>
        cases st with
        | true =>
          have hnd := HND.out
          rw [HS.out] at hnd
          injection hnd with hn0 hd0
          have HN0 := Lib.hid hn0
          have HD0 := Lib.hid hd0
          clear hn0 hd0
          go_wp2_with fail
          go_meet
          case rel => exact ⟨by rw [← HN0.out]; rfl, by rw [← HD0.out]; rfl, HT⟩
        | false =>
          have hnd := HND.out
          rw [HS.out] at hnd
          have hc := rfind_all p s i wr (HB3.out.below (Nat.le_refl _) HT.out.below) (by rw [← HL.out]; omega) hch n d hnd
          unfold pv at hc
          rw [HS.out, ← HL.out] at hc
          have HC := Lib.hid hc
          clear hc hnd
          go_wp2_with fail
          refine HC.out.mono ?_
          rintro e w4 ⟨rfl, hb4⟩
          have HT4 := Lib.hid (HT.out.later hb4)
          clear HC hb4
          go_wp2_with fail
          go_meet
          case rel => exact ⟨rfl, rfl, HT4⟩
      obtain ⟨rfl, rfl, HT5⟩ := hcut
      clear HT y0 y1 y2 y3
      have HLIT : Hid (lit p s i = ((n : Nat) == 0 || p.lazy && (decide ((n : Int) < p.good) && decide (n < (p.find s (i + 1)).1)))) := Lib.hid (by
        unfold lit
        have hnd := HND.out
        cases hst : p.store with
        | true => rw [hst] at hnd; injection hnd with hn0 hd0; rw [← hn0]; rfl
        | false => rw [hst] at hnd; rw [show p.find s i = (n, d) from hnd, Bool.false_or])
      have HPN : Hid (pos p s (k + 1) = i + stp p s i) := Lib.hid (by rw [HI.out]; rfl)
      have hlt2 : Hid (pos p s k < s.length) := Lib.hid (by rw [← HI.out, ← HL.out]; exact hlt)
      have hkk : k ≤ 900000 := by have h1 := pos_ge (p := p) (s := s) k; have := hlt2.out; rw [← HL.out] at this; omega
      generalize wc = w4 at *
      have hKr : Blk w4 G 24 #[.bool p.store, .int .i64 p.chain, .bool p.lazy, .int .i64 p.good] := (HT5.out.below.block G hgl).trans HK3.out
      obtain ⟨lz, hlz⟩ : ∃ lz, p.lazy = lz := ⟨_, rfl⟩
      have y0 : w4.cell? ⟨G, 0, none⟩ = some (.bool st) := by rw [← HS.out]; exact hKr.cell 0
      have y1 : w4.cell? ⟨G, 1, none⟩ = some (.int .i64 p.chain) := hKr.cell 1
      have y2 : w4.cell? ⟨G, 2, none⟩ = some (.bool lz) := by rw [← hlz]; exact hKr.cell 2
      have y3 : w4.cell? ⟨G, 3, none⟩ = some (.int .i64 p.good) := hKr.cell 3
      rw [hlz] at HLIT
      have HLZ := Lib.hid hlz
      clear hKr hlz
      obtain ⟨Kc, hKc⟩ : ∃ Kc, Kc = (!(n == 0) && (lz && decide ((n : Int) < p.good))) := ⟨_, rfl⟩
      have HKC := Lib.hid hKc
      clear hKc
      go_upto_region 7 with (fail)
      go_cut [39] (fun v wc => v = .bool Kc ∧ wc = w4)
      case first =>
        by_cases hn0 : n = 0
        · have g0 : decide ((n : Int) > 0) = false := by simp; omega
          have g0' : decide (0 < n) = false := by simp; omega
          have HE : Hid (Kc = false) := Lib.hid (by rw [HKC.out, hn0]; rfl)
          clear hn0
          go_wp2_with fail
          go_meet
          case rel => exact ⟨by rw [HE.out], rfl⟩
        · have g0 : decide ((n : Int) > 0) = true := by simp; omega
          have g0' : decide (0 < n) = true := by simp; omega
          have h0 : (n == 0) = false := by simp; omega
          cases lz with
          | false =>
            have HE : Hid (Kc = false) := Lib.hid (by rw [HKC.out, h0]; rfl)
            clear hn0 h0
            go_wp2_with fail
            go_meet
            case rel => exact ⟨by rw [HE.out], rfl⟩
          | true =>
            by_cases hng : (n : Int) < p.good
            · have g2 : decide ((n : Int) < p.good) = true := by simp; omega
              have HE : Hid (Kc = true) := Lib.hid (by rw [HKC.out, h0, g2]; rfl)
              clear hn0 h0
              go_wp2_with fail
              go_meet
              case rel => exact ⟨by rw [HE.out], rfl⟩
            · have g2 : decide ((n : Int) < p.good) = false := by simp; omega
              have HE : Hid (Kc = false) := Lib.hid (by rw [HKC.out, h0, g2]; rfl)
              clear hn0 h0
              go_wp2_with fail
              go_meet
              case rel => exact ⟨by rw [HE.out], rfl⟩
      obtain ⟨rfl, rfl⟩ := hcut
      generalize wc = w4 at *
      obtain ⟨N2, hN2⟩ : ∃ N2, N2 = if lit p s i then 0 else n := ⟨_, rfl⟩
      have HN2 := Lib.hid hN2
      clear hN2
      go_upto_if 39 with (fail)
      go_cut [9] (fun nv wc => nv = .int .i64 (N2 : Int) ∧ Hid (Tl p s W wc (.slice aa k ca) k))
      case first =>
        cases Kc with
        | false =>
          have HE : Hid (N2 = n) := Lib.hid (by
            rw [HN2.out]
            have h1 := HKC.out
            split
            · next hl =>
              rw [HLIT.out] at hl
              by_cases hn0 : n = 0
              · exact hn0.symm
              · exfalso
                have h0 : (n == 0) = false := by simp; omega
                rw [h0, Bool.false_or, ← Bool.and_assoc] at hl
                rw [h0, Bool.not_false, Bool.true_and] at h1
                rw [← h1] at hl
                cases hl
            · rfl)
          go_wp2_with fail
          go_meet
          case rel => exact ⟨by rw [HE.out], HT5⟩
        | true =>
          obtain ⟨m2, d2, hnd2⟩ : ∃ m2 d2, p.find s (i + 1) = (m2, d2) := ⟨_, _, rfl⟩
          have hc := rfind_all p s (i + 1) w4 (HB3.out.below (Nat.le_refl _) HT5.out.below) (by rw [← HL.out]; omega) hch m2 d2 hnd2
          unfold pv at hc
          rw [HS.out, HLZ.out, ← HL.out, show ((i + 1 : Nat) : Int) = (i : Int) + 1 by omega] at hc
          have HC := Lib.hid hc
          have HE : Hid (N2 = if n < m2 then 0 else n) := Lib.hid (by
            have h1 := HKC.out
            have h2 := HLIT.out
            rw [hnd2, ← Bool.and_assoc] at h2
            have h3 : (n == 0) = false := by cases h : (n == 0) with
              | false => rfl
              | true => rw [h] at h1; cases h1
            rw [h3, Bool.not_false, Bool.true_and] at h1
            rw [h3, ← h1, Bool.false_or, Bool.true_and] at h2
            rw [HN2.out, h2]
            simp)
          clear hc hnd2
          go_wp2_with fail
          refine HC.out.mono ?_
          rintro e w5 ⟨rfl, hb5⟩
          have HT6 := Lib.hid (HT5.out.later hb5)
          clear HC hb5 HT5 y0 y1 y2 y3
          by_cases hlm : n < m2
          · have g3 : decide (n < m2) = true := by simp; omega
            have HE2 : Hid (N2 = 0) := Lib.hid (by rw [HE.out, if_pos hlm])
            go_wp2_with fail
            go_meet
            case rel => exact ⟨by rw [HE2.out]; rfl, HT6⟩
          · have g3 : decide (n < m2) = false := by simp; omega
            have HE2 : Hid (N2 = n) := Lib.hid (by rw [HE.out, if_neg hlm])
            go_wp2_with fail
            go_meet
            case rel => exact ⟨by rw [HE2.out], HT6⟩
      obtain ⟨rfl, HT6⟩ := hcut
      clear HT5 HKC y0 y1 y2 y3
      cases hli : lit p s i with
      | true =>
        have HTK : Hid (tk p s k = ⟨0, 0, at_ s i⟩) := Lib.hid (by unfold tk tkAt; rw [← HI.out, hli]; rfl)
        have HST1 : Hid (i + 1 = pos p s (k + 1)) := Lib.hid (by rw [HPN.out]; unfold stp; rw [hli]; rfl)
        have hn2 : N2 = 0 := by rw [HN2.out, hli]; rfl
        have g0 : ((N2 : Int) == 0) = true := by simp; omega
        clear hli HPN hn2
        have hBw := HB3.out.below (Nat.le_refl _) HT6.out.below
        obtain ⟨b, off, rfl⟩ := hBw.some_ (by rw [← HL.out]; omega)
        have x0 := at_cell hBw i (by rw [← HL.out]; exact hlt)
        clear hBw
        generalize at_ s i = ch at *
        generalize wc = w6 at *
        have HT7 := Lib.hid (HT6.out.later ((Below.refl _ w6).alloc (Nat.le_refl _) (.cells (tc ⟨0, 0, ch⟩) 45)))
        have HWT : Hid (Wf (⟨0, 0, ch⟩ : LzMath.Tok)) := Lib.hid ⟨⟨by show -9223372036854775808 ≤ (0 : Int); omega, by show (0 : Int) ≤ 9223372036854775807; omega⟩, by show -9223372036854775808 ≤ (0 : Int); omega, by show (0 : Int) ≤ 9223372036854775807; omega⟩
        go_wp2_with (at_builtin; refine wpList_append_toks (by rfl) (.tmp 54) (.tmp 60) (by rfl) W.heap.size _ k (tk p s) (by rfl) HT7.out.own (some ⟨w6.heap.size, 0, none⟩) 1 1 (fun _ => (⟨0, 0, ch⟩ : LzMath.Tok)) (by rfl) (one_tok w6 (⟨0, 0, ch⟩ : LzMath.Tok) HWT.out) (by omega) (by have := HT6.out.below.size; simp; omega) ?_)
        intro v2 w7 hown hg
        have HT8 := Lib.hid (HT7.out.next hlt2.out HTK.out hown hg)
        obtain ⟨a7, c7, rfl, _⟩ := hown.toks (fun j hj => by rw [join_next _ _ _ HTK.out j hj]; exact tk_wf (by rw [← HL.out]; omega) j)
        clear hown hg HT6 HT7
        go_wp2_with fail
        go_roundw
        case rel => exact ⟨k + 1, i + 1, a7, c7, rfl, by go_num, by omega, HST1, HT8⟩
        case measure => simp [intOf]; omega
      | false =>
        have hnpos : 3 ≤ n ∧ i + n ≤ L ∧ d ≤ i := by
          rcases hnn with h | h
          · exfalso
            have h2 : lit p s i = true := by rw [HLIT.out, h.1]; rfl
            rw [hli] at h2
            cases h2
          · exact h
        obtain ⟨hn3, hnL, hdi⟩ := hnpos
        have hfi : p.find s i = (n, d) := by
          have hnd := HND.out
          cases hst : p.store with
          | true => rw [hst] at hnd; injection hnd with hn0 hd0; omega
          | false => rw [hst] at hnd; exact hnd
        have HTK : Hid (tk p s k = ⟨(n : Int), (d : Int), 0⟩) := Lib.hid (by unfold tk tkAt; rw [← HI.out, hli, hfi]; rfl)
        have HST1 : Hid (i + n = pos p s (k + 1)) := Lib.hid (by rw [HPN.out]; unfold stp; rw [hli, hfi]; rfl)
        have hn2 : N2 = n := by rw [HN2.out, hli]; rfl
        rw [hn2]
        clear hn2
        have g0 : ((n : Int) == 0) = false := by simp; omega
        clear hli HPN hnn hfi HND HN2 HLIT
        generalize wc = w6 at *
        have HT7 := Lib.hid (HT6.out.later ((Below.refl _ w6).alloc (Nat.le_refl _) (.cells (tc ⟨(n : Int), (d : Int), 0⟩) 45)))
        have HWT : Hid (Wf (⟨(n : Int), (d : Int), 0⟩ : LzMath.Tok)) := Lib.hid ⟨⟨by show -9223372036854775808 ≤ (n : Int); omega, by show (n : Int) ≤ 9223372036854775807; omega⟩, by show -9223372036854775808 ≤ (d : Int); omega, by show (d : Int) ≤ 9223372036854775807; omega⟩
        go_wp2_with (at_builtin; refine wpList_append_toks (by rfl) (.tmp 64) (.tmp 68) (by rfl) W.heap.size _ k (tk p s) (by rfl) HT7.out.own (some ⟨w6.heap.size, 0, none⟩) 1 1 (fun _ => (⟨(n : Int), (d : Int), 0⟩ : LzMath.Tok)) (by rfl) (one_tok w6 (⟨(n : Int), (d : Int), 0⟩ : LzMath.Tok) HWT.out) (by omega) (by have := HT6.out.below.size; simp; omega) ?_)
        intro v2 w7 hown hg
        have HT8 := Lib.hid (HT7.out.next hlt2.out HTK.out hown hg)
        obtain ⟨a7, c7, rfl, _⟩ := hown.toks (fun j hj => by rw [join_next _ _ _ HTK.out j hj]; exact tk_wf (by rw [← HL.out]; omega) j)
        clear hown hg HT6 HT7
        go_wp2_with fail
        go_roundw
        case rel => exact ⟨k + 1, i + n, a7, c7, rfl, by go_num, by omega, HST1, HT8⟩
        case measure => simp [intOf]; omega
    · have HMN : Hid (Many p s k) := Lib.hid ⟨HT.out.all, by rw [← HI.out, ← HL.out]; omega⟩
      have hle : w.heap.size ≤ W.heap.size := HBE.out.size
      go_wp2_with fail
      go_ret
      exact ⟨_, k, rfl, ownT_mono HT.out.own hle, HMN.out, HBE.out.trans (HT.out.below.mono hle)⟩
end Go.Proofs.Ytfdfggomgaegoaa.MatC
