/-
  Tokens, without Store.
-/
import Derived.Test.YtfdfggomgaegoaaMatG
namespace Go.Proofs.Ytfdfggomgaegoaa.MatC
open Go.RowKit Go.My MatMath LzC

/-- Where the loop stands: k tokens. -/
structure Tl (p : Pl) (s : List UInt8) (w wr : World) (v : Value) (k : Nat) : Prop where
  own : OwnT w.heap.size wr v k (tk p s)
  all : ∀ j, j < k → pos p s j < s.length
  below : Below w.heap.size w wr
theorem Tl.later {p : Pl} {s : List UInt8} {w wr w' : World} {v : Value} {k : Nat} (h : Tl p s w wr v k) (hb : Below wr.heap.size wr w') : Tl p s w w' v k :=
  ⟨ownT_below h.own (Nat.le_refl _) hb, h.all, h.below.trans (hb.mono h.below.size)⟩
theorem Tl.next {p : Pl} {s : List UInt8} {w wr w' : World} {v v' : Value} {k : Nat} {t : LzMath.Tok} (h : Tl p s w wr v k) (hlt : pos p s k < s.length) (ht : tk p s k = t) (hown : OwnT w.heap.size w' v' (k + 1) (LzMath.join (tk p s) k (fun _ => t))) (hg : wr.grownBy w' v.ownBlock) : Tl p s w w' v' (k + 1) :=
  ⟨OwnT_congr hown (join_next _ _ _ ht), fun j hj => by
    by_cases e : j < k
    · exact h.all j e
    · obtain rfl : j = k := by omega
      exact hlt, h.own.grown h.below hg h.below.size⟩

theorem ownT_mono {b1 b2 n : Nat} {w : World} {v : Value} {f : Nat → LzMath.Tok} (h : OwnT b2 w v n f) (hb : b1 ≤ b2) : OwnT b1 w v n f := by
  refine ⟨h.1, ?_⟩
  rcases h.2 with hn | ⟨g, cap, cur, rfl, hg, rest⟩
  · exact .inl hn
  · exact .inr ⟨g, cap, cur, rfl, Nat.le_trans hb hg, rest⟩
theorem ownT_nil (b : Nat) (w : World) (f : Nat → LzMath.Tok) : OwnT b w (.slice none 0 0) 0 f := World.ownsRow_nil _ _ _ _
/-- Tokens of the call's own. -/
def TokRet (p : Pl) (s : List UInt8) (w : World) (e : Ending) (w' : World) : Prop := ∃ v K, e = .returned v ∧ OwnT w.heap.size w' v K (tk p s) ∧ Many p s K ∧ Below w.heap.size w w'

set_option maxRecDepth 100000 in
set_option maxHeartbeats 8000000 in
theorem tokens_pack {a : Option Addr} {c : Nat} (p : Pl) (s : List UInt8) (w : World) (hb : Bytes w a s.length c s) (hl : s.length ≤ 900000) (hch : (Lit.int .i64 p.chain).wf = true) (hst : p.store = false) :
    Calls Try.prog 14 #[.slice a s.length c, pv p.store p.chain p.lazy p.good, .bool p.wide] w (TokRet p s w) := by
  obtain ⟨W, hW⟩ : ∃ W, W = w.alloc (.cells #[.bool p.store, .int .i64 p.chain, .bool p.lazy, .int .i64 p.good] 24) := ⟨_, rfl⟩
  have hbl : Below w.heap.size w W := by rw [hW]; exact (Below.refl _ w).alloc (Nat.le_refl _) _
  have HBW := Lib.hid (hb.below (Nat.le_refl _) hbl)
  have HK : Hid (Blk W w.heap.size 24 #[.bool p.store, .int .i64 p.chain, .bool p.lazy, .int .i64 p.good]) := Lib.hid (by rw [hW]; exact Blk.new _ _ _)
  have hgl := HK.out.lt
  have HBL := Lib.hid hbl
  rw [hst] at hW
  have HW := Lib.hid hW
  clear hb hW hbl
  have HFI : Hid (Calls Try.prog 18 #[.slice a s.length c, pv p.store p.chain p.lazy p.good, .bool p.wide] W fun e w' => ∃ g, e = .returned (.pointer (some ⟨g, 0, none⟩)) ∧ Fnd w' g p.store p.chain p.lazy p.good p.wide s ∧ Below W.heap.size W w' ∧ W.heap.size ≤ g) := Lib.hid (finder_any p.store p.chain p.lazy p.good p.wide W HBW.out (by omega))
  unfold pv at HFI ⊢
  rw [hst] at HFI ⊢
  have HST := Lib.hid hst
  clear hst
  obtain ⟨G, hG⟩ : ∃ G, G = w.heap.size := ⟨_, rfl⟩
  go_enter Try.func14, Try.ntmps14
  go_wp2_with fail
  rw [← HW.out, ← hG]
  rw [← hG] at HK hgl
  refine HFI.out.mono ?_
  rintro e w3 ⟨g, rfl, hf, hb3, hgg⟩
  have HF : Hid (Fnd w3 g p.store p.chain p.lazy p.good p.wide s) := Lib.hid (by rw [HST.out]; exact hf)
  have HK3 : Hid (Blk w3 G 24 #[.bool p.store, .int .i64 p.chain, .bool p.lazy, .int .i64 p.good]) := Lib.hid ((hb3.block G hgl).trans HK.out)
  have HB3 := Lib.hid (HBW.out.below (Nat.le_refl _) hb3)
  have HBE := Lib.hid (HBL.out.trans (hb3.mono HBL.out.size))
  have HG := Lib.hid hG
  clear hf hb3 hgg HK HBW HBL HFI hgl hG
  go_wp2_with fail
  clear HW
  go_loopw [7, 9] (fun v av wr => ∃ (k a : Nat) (aa : Option Addr) (ca : Nat), v = .slice aa k ca ∧ av = .int .i64 (a : Int) ∧ a ≤ s.length ∧ Hid (a = pos p s k) ∧ Hid (Tl p s w3 wr (.slice aa k ca) k)) (fun _ av _ => s.length - (intOf av).toNat)
  case atStart => exact ⟨0, 0, none, 0, rfl, rfl, Nat.zero_le _, Lib.hid rfl, Lib.hid ⟨ownT_nil _ _ _, fun j hj => by omega, Below.refl _ _⟩⟩
  case round =>
    obtain ⟨k, i, aa, ca, rfl, rfl, hiL, HI, HT⟩ := hrel
    obtain ⟨L, hL⟩ : ∃ L, L = s.length := ⟨_, rfl⟩
    rw [← hL] at hl hiL ⊢
    have HL := Lib.hid hL
    clear hL
    by_cases hlt : i < L
    · obtain ⟨n, d, hnd⟩ : ∃ n d, p.find s i = (n, d) := ⟨_, _, rfl⟩
      have HC := Lib.hid (find_all g p s i wr (HF.out.below HT.out.below) hch n d hnd)
      have hnn : n = 0 ∧ d = 0 ∨ 3 ≤ n ∧ i + n ≤ L ∧ d ≤ i := by
        obtain ⟨n', d', h1, h2⟩ := find_nums s p.chain p.good p.wide i
        have h3 : (n, d) = (n', d') := hnd.symm.trans h1
        injection h3 with h3 h4
        subst h3 h4
        rw [HL.out]
        rcases h2 with h2 | h2
        · exact .inl h2
        · exact .inr ⟨h2.1, h2.2.2.1, h2.2.2.2.2.2.1⟩
      have HND := Lib.hid hnd
      clear hnd
      go_wp2_with fail
      refine HC.out.mono ?_
      rintro e w4 ⟨rfl, hd⟩
      have HT4 := Lib.hid (HT.out.later hd.below)
      clear HC HT hd
      go_upto_region 8 with (fail)
      go_cut [48] (fun v wc => v = .bool (lit p s i) ∧ Hid (Tl p s w3 wc (.slice aa k ca) k))
      case first =>
        have hKr : Blk w4 G 24 #[.bool p.store, .int .i64 p.chain, .bool p.lazy, .int .i64 p.good] := (HT4.out.below.block G HK3.out.lt).trans HK3.out
        have x2 : w4.cell? ⟨G, 2, none⟩ = some (.bool p.lazy) := hKr.cell 2
        have x3 : w4.cell? ⟨G, 3, none⟩ = some (.int .i64 p.good) := hKr.cell 3
        clear hKr
        have hlit : lit p s i = ((n : Nat) == 0 || p.lazy && (decide ((n : Int) < p.good) && decide (n < (p.find s (i + 1)).1))) := by unfold lit; rw [HST.out, HND.out, Bool.false_or]
        have HLIT := Lib.hid hlit
        obtain ⟨Kb, hKb⟩ : ∃ Kb, decide (n < (p.find s (i + 1)).1) = Kb := ⟨_, rfl⟩
        rw [hKb] at HLIT
        have hc2 := longer_any g p s (i + 1) n w4 (HF.out.below HT4.out.below) hch Kb hKb
        rw [show ((i + 1 : Nat) : Int) = (i : Int) + 1 by omega] at hc2
        have HC2 := Lib.hid hc2
        clear hlit hKb hc2
        by_cases hn0 : n = 0
        · have g0 : ((n : Int) == 0) = true := by simp; omega
          have HE : Hid (lit p s i = true) := Lib.hid (by rw [HLIT.out, hn0]; rfl)
          clear hn0
          go_wp2_with fail
          go_meet
          case rel => exact ⟨by rw [HE.out], HT4⟩
        · have g0 : ((n : Int) == 0) = false := by simp; omega
          have h0 : (n == 0) = false := by simp; omega
          obtain ⟨lz, hlz⟩ : ∃ lz, p.lazy = lz := ⟨_, rfl⟩
          rw [hlz] at x2 HLIT
          clear hlz
          cases lz with
          | false =>
            have HE : Hid (lit p s i = false) := Lib.hid (by rw [HLIT.out, h0]; rfl)
            clear hn0 h0
            go_wp2_with fail
            go_meet
            case rel => exact ⟨by rw [HE.out], HT4⟩
          | true =>
            by_cases hng : (n : Int) < p.good
            · have g2 : decide ((n : Int) < p.good) = true := by simp; omega
              have HE : Hid (lit p s i = Kb) := Lib.hid (by rw [HLIT.out, h0, g2]; rfl)
              clear hn0 h0
              go_wp2_with fail
              refine HC2.out.mono ?_
              rintro e w5 ⟨rfl, hd5⟩
              have HT5 := Lib.hid (HT4.out.later hd5.below)
              clear HC2 HT4 hd5 x2 x3
              go_wp2_with fail
              go_meet
              case rel => exact ⟨by rw [HE.out], HT5⟩
            · have g2 : decide ((n : Int) < p.good) = false := by simp; omega
              have HE : Hid (lit p s i = false) := Lib.hid (by rw [HLIT.out, h0, g2]; rfl)
              clear hn0 h0
              go_wp2_with fail
              go_meet
              case rel => exact ⟨by rw [HE.out], HT4⟩
      obtain ⟨rfl, HT5⟩ := hcut
      have HPN : Hid (pos p s (k + 1) = i + stp p s i) := Lib.hid (by rw [HI.out]; rfl)
      have hlt2 : Hid (pos p s k < s.length) := Lib.hid (by rw [← HI.out, ← HL.out]; exact hlt)
      have hkk : k ≤ 900000 := by have h1 := pos_ge (p := p) (s := s) k; have := hlt2.out; rw [← HL.out] at this; omega
      clear HT4
      cases hli : lit p s i with
      | true =>
        have HTK : Hid (tk p s k = ⟨0, 0, at_ s i⟩) := Lib.hid (by unfold tk tkAt; rw [← HI.out, hli]; rfl)
        have HST1 : Hid (i + 1 = pos p s (k + 1)) := Lib.hid (by rw [HPN.out]; unfold stp; rw [hli]; rfl)
        clear hli HPN
        have hBw := HB3.out.below (Nat.le_refl _) HT5.out.below
        obtain ⟨b, off, rfl⟩ := hBw.some_ (by rw [← HL.out]; omega)
        have x0 := at_cell hBw i (by rw [← HL.out]; exact hlt)
        clear hBw
        have HC3 := Lib.hid (literal_any (at_ s i) wc)
        generalize at_ s i = ch at *
        generalize wc = w5 at *
        go_wp2_with fail
        refine HC3.out.mono ?_
        rintro e w6 ⟨rfl, hb6⟩
        have HT6 := Lib.hid (HT5.out.later hb6)
        have HT7 := Lib.hid (HT6.out.later ((Below.refl _ w6).alloc (Nat.le_refl _) (.cells (tc ⟨0, 0, ch⟩) 45)))
        have HWT : Hid (Wf (⟨0, 0, ch⟩ : LzMath.Tok)) := Lib.hid ⟨⟨by show -9223372036854775808 ≤ (0 : Int); omega, by show (0 : Int) ≤ 9223372036854775807; omega⟩, by show -9223372036854775808 ≤ (0 : Int); omega, by show (0 : Int) ≤ 9223372036854775807; omega⟩
        clear HC3 HT5 hb6 x0
        go_wp2_with (at_builtin; refine wpList_append_toks (by rfl) (.tmp 49) (.tmp 55) (by rfl) w3.heap.size _ k (tk p s) (by rfl) HT7.out.own (some ⟨w6.heap.size, 0, none⟩) 1 1 (fun _ => (⟨0, 0, ch⟩ : LzMath.Tok)) (by rfl) (one_tok w6 (⟨0, 0, ch⟩ : LzMath.Tok) HWT.out) (by omega) (by have := HT6.out.below.size; simp; omega) ?_)
        intro v2 w7 hown hg
        have HT8 := Lib.hid (HT7.out.next hlt2.out HTK.out hown hg)
        obtain ⟨a7, c7, rfl, _⟩ := hown.toks (fun j hj => by rw [join_next _ _ _ HTK.out j hj]; exact tk_wf (by rw [← HL.out]; omega) j)
        clear hown hg HT6 HT7
        go_wp2_with fail
        go_roundw
        case rel => exact ⟨k + 1, i + 1, a7, c7, rfl, by go_num, by omega, HST1, HT8⟩
        case measure => simp [intOf]; omega
      | false =>
        have hnpos : 3 ≤ n ∧ i + n ≤ L ∧ d ≤ i := by
          rcases hnn with h | h
          · exfalso
            have h2 : lit p s i = true := by unfold lit; rw [HND.out, h.1]; simp
            rw [hli] at h2
            cases h2
          · exact h
        obtain ⟨hn3, hnL, hdi⟩ := hnpos
        have HTK : Hid (tk p s k = ⟨(n : Int), (d : Int), 0⟩) := Lib.hid (by unfold tk tkAt; rw [← HI.out, hli, HND.out]; rfl)
        have HST1 : Hid (i + n = pos p s (k + 1)) := Lib.hid (by rw [HPN.out]; unfold stp; rw [hli, HND.out]; rfl)
        clear hli HPN hnn
        generalize wc = w6 at *
        have HT7 := Lib.hid (HT5.out.later ((Below.refl _ w6).alloc (Nat.le_refl _) (.cells (tc ⟨(n : Int), (d : Int), 0⟩) 45)))
        have HWT : Hid (Wf (⟨(n : Int), (d : Int), 0⟩ : LzMath.Tok)) := Lib.hid ⟨⟨by show -9223372036854775808 ≤ (n : Int); omega, by show (n : Int) ≤ 9223372036854775807; omega⟩, by show -9223372036854775808 ≤ (d : Int); omega, by show (d : Int) ≤ 9223372036854775807; omega⟩
        go_wp2_with (at_builtin; refine wpList_append_toks (by rfl) (.tmp 59) (.tmp 63) (by rfl) w3.heap.size _ k (tk p s) (by rfl) HT7.out.own (some ⟨w6.heap.size, 0, none⟩) 1 1 (fun _ => (⟨(n : Int), (d : Int), 0⟩ : LzMath.Tok)) (by rfl) (one_tok w6 (⟨(n : Int), (d : Int), 0⟩ : LzMath.Tok) HWT.out) (by omega) (by have := HT5.out.below.size; simp; omega) ?_)
        intro v2 w7 hown hg
        have HT8 := Lib.hid (HT7.out.next hlt2.out HTK.out hown hg)
        obtain ⟨a7, c7, rfl, _⟩ := hown.toks (fun j hj => by rw [join_next _ _ _ HTK.out j hj]; exact tk_wf (by rw [← HL.out]; omega) j)
        clear hown hg HT5 HT7
        go_wp2_with fail
        go_roundw
        case rel => exact ⟨k + 1, i + n, a7, c7, rfl, by go_num, by omega, HST1, HT8⟩
        case measure => simp [intOf]; omega
    · have HMN : Hid (Many p s k) := Lib.hid ⟨HT.out.all, by rw [← HI.out, ← HL.out]; omega⟩
      have hle : w.heap.size ≤ w3.heap.size := HBE.out.size
      go_wp2_with fail
      go_ret
      exact ⟨_, k, rfl, ownT_mono HT.out.own hle, HMN.out, HBE.out.trans (HT.out.below.mono hle)⟩
end Go.Proofs.Ytfdfggomgaegoaa.MatC
