import Derived.Test.YtihcebpkbkgmcaaFeedD
import Derived.StillTailTactics
namespace Go.Proofs.Ytihcebpkbkgmcaa.FeedC
open Go.RowKit Go.My BitMath RefC

/-- A Feed: its block, its queue's, the pieces; the word, how many bits it has, how many bytes were pushed. -/
structure FAt (B : Nat) (w : World) (f q : Nat) (ps : List Pc) (word count pushed : Nat) (ended : Bool) : Prop where
  blk : Blk w f 49 #[.int .u64 (word : Int), .int .i64 (count : Int), .pointer (some ⟨q, 0, none⟩), .int .i64 (pushed : Int), .bool ended]
  que : QAt B w q ps (cat ps).length
  base : B ≤ f
  small : word < 2 ^ count
  most : count ≤ 64

/-- All blocks of a Feed. -/
def FFoot (f q : Nat) (ps : List Pc) : Nat → Prop := fun k => k = f ∨ QFoot q ps k

theorem FAt.far {B : Nat} {w : World} {f q : Nat} {ps : List Pc} {word count pushed : Nat} {ended : Bool} (h : FAt B w f q ps word count pushed ended) : ¬ QFoot q ps f := by
  rintro (e | e)
  · exact Blk.ne h.blk h.que.blk (by decide) e
  · exact Chain.far h.blk (by decide) (by decide) h.que.chain e
theorem FAt.lt {B : Nat} {w : World} {f q : Nat} {ps : List Pc} {word count pushed : Nat} {ended : Bool} (h : FAt B w f q ps word count pushed ended) : ∀ k, FFoot f q ps k → B ≤ k ∧ k < w.heap.size := by
  rintro k (rfl | hk)
  · exact ⟨h.base, h.blk.lt⟩
  · exact h.que.lt k hk
theorem FAt.only {B : Nat} {w w' : World} {f q : Nat} {ps : List Pc} {word count pushed : Nat} {ended : Bool} {S : Nat → Prop} (h : FAt B w f q ps word count pushed ended) (hk : Only S w w') (hs : ∀ k, FFoot f q ps k → ¬ S k) : FAt B w' f q ps word count pushed ended :=
  ⟨hk.blk h.blk (hs _ (.inl rfl)), h.que.only hk (hs _ (.inr (.inl rfl))) (fun k hk => hs k (.inr (.inr hk))), h.base, h.small, h.most⟩
theorem FAt.word_lt {B : Nat} {w : World} {f q : Nat} {ps : List Pc} {word count pushed : Nat} {ended : Bool} (h : FAt B w f q ps word count pushed ended) : word < 18446744073709551616 :=
  Nat.lt_of_lt_of_le h.small (by rw [show 18446744073709551616 = 2 ^ 64 from rfl]; exact Nat.pow_le_pow_right (by omega) h.most)

/-- The bits that are there. -/
def bits' (word count : Nat) (ps : List Pc) : List Bool := lows count word ++ bitsOf (cat ps)

theorem byte_in {word C : Nat} (c : UInt8) (hw : word < 2 ^ C) (h8 : C ≤ 56) :
    IntKind.u64.wrap (c.toNat : Int) = (c.toNat : Int) ∧ IntKind.u64.wrap ((c.toNat : Int) * 2 ^ C) = (c.toNat : Int) * 2 ^ C ∧ bits .or .u64 (word : Int) ((c.toNat : Int) * 2 ^ C) = ((word + 2 ^ C * c.toNat : Nat) : Int) ∧ word + 2 ^ C * c.toNat < 2 ^ (C + 8) ∧ lows (C + 8) (word + 2 ^ C * c.toNat) = lows C word ++ lows 8 c.toNat := by
  have hb := c.toNat_lt
  generalize c.toNat = b at hb
  have h56 : 2 ^ C ≤ 2 ^ 56 := Nat.pow_le_pow_right (by omega) (by omega)
  have hm : b * 2 ^ C ≤ 255 * 2 ^ C := Nat.mul_le_mul_right _ (by omega)
  have e : (b : Int) * 2 ^ C = ((b * 2 ^ C : Nat) : Int) := by push_cast; rfl
  refine ⟨IntWalk.u64_in _ (by omega), ?_, ?_, ?_, lows_join C 8 word b hw⟩
  · rw [e, IntWalk.u64_in _ (by omega)]
  · rw [e, u64_or_nat _ _ (by omega) (by omega), or_join C word b hw]
  · rw [Nat.pow_add, Nat.mul_comm (2 ^ C) b]
    omega

/-- What the inner loop of fill keeps: j bytes have gone into the word. -/
structure Fills (w : World) (f q pushed : Nat) (ended : Bool) (word count : Nat) (l : List UInt8) (j : Nat) (wr : World) (W C : Nat) : Prop where
  blk : Blk wr f 49 #[.int .u64 (W : Int), .int .i64 (C : Int), .pointer (some ⟨q, 0, none⟩), .int .i64 (pushed : Int), .bool ended]
  only : Only (fun k => k = f) w wr
  small : W < 2 ^ C
  cnt : C = count + 8 * j
  eq : lows C W = lows count word ++ bitsOf (l.take j)

theorem fills_step {w : World} {f q pushed : Nat} {ended : Bool} {word count : Nat} {l : List UInt8} {j : Nat} {wr : World} {W C : Nat} (h : Fills w f q pushed ended word count l j wr W C) (hj : j < l.length) (h8 : C ≤ 56) (w2 : World) (hw2 : Only (fun k => k = f) wr w2)
    (hb : Blk w2 f 49 #[.int .u64 ((W + 2 ^ C * l[j].toNat : Nat) : Int), .int .i64 ((C + 8 : Nat) : Int), .pointer (some ⟨q, 0, none⟩), .int .i64 (pushed : Int), .bool ended]) :
    Fills w f q pushed ended word count l (j + 1) w2 (W + 2 ^ C * l[j].toNat) (C + 8) := by
  obtain ⟨_, _, _, p4, p5⟩ := byte_in l[j] h.small h8
  refine ⟨hb, h.only.trans hw2 (fun i _ e => e), p4, by have := h.cnt; omega, ?_⟩
  rw [p5, h.eq, List.take_succ_eq_append_getElem hj, bitsOf_append, bitsOf_one, List.append_assoc]

/-- What fill keeps and leaves. -/
structure Filled (B f q : Nat) (ps : List Pc) (word count pushed : Nat) (ended : Bool) (w wr : World) (ps1 : List Pc) (word1 count1 : Nat) : Prop where
  at_ : FAt B wr f q ps1 word1 count1 pushed ended
  eq : bits' word1 count1 ps1 = bits' word count ps
  only : Only (FFoot f q ps) w wr
  sub : ∀ j, QFoot q ps1 j → QFoot q ps j

def sizeAt (w : World) (q : Nat) : Nat := match w.cell? ⟨q, 2, none⟩ with | some (.int _ n) => n.toNat | _ => 0
theorem sizeAt_of {B : Nat} {w : World} {q n : Nat} {ps : List Pc} (h : QAt B w q ps n) : sizeAt w q = n := by
  have := h.blk.cell 2
  simp only [List.getElem?_toArray, List.getElem?_cons_zero, List.getElem?_cons_succ] at this
  unfold sizeAt
  rw [this]
  simp

theorem fill_step {B f q : Nat} {ps : List Pc} {word count pushed : Nat} {ended : Bool} {w w1 wr w5 : World} {ps1 ps5 : List Pc} {word1 count1 M W C : Nat} {lm : List UInt8} (h : Filled B f q ps word count pushed ended w w1 ps1 word1 count1)
    (hf : Fills w1 f q pushed ended word1 count1 lm M wr W C) (hm : lm.length = M) (h8 : count1 + 8 * M ≤ 64) (hcc : cat ps1 = lm ++ (cat ps1).drop M)
    (hq : QAt B w5 q ps5 ((cat ps1).length - M)) (hc : cat ps5 = (cat ps1).drop M) (ho : Only (QFoot q ps1) wr w5) (hs : ∀ j, QFoot q ps5 j → QFoot q ps1 j) : Filled B f q ps word count pushed ended w w5 ps5 W C := by
  have hfar := h.at_.far
  have hcnt := hf.cnt
  refine ⟨⟨ho.blk hf.blk hfar, ?_, h.at_.base, hf.small, by omega⟩, ?_, ?_, fun j hj => h.sub j (hs j hj)⟩
  · rw [hc, List.length_drop]; exact hq
  · rw [← h.eq]
    unfold bits'
    rw [hf.eq, List.take_of_length_le (by omega), hc, List.append_assoc, ← bitsOf_append, ← hcc]
  · refine h.only.trans ((hf.only.mono (T := FFoot f q ps1) (fun k _ e => .inl e)).trans ho (fun i _ e => .inr e)) ?_
    intro i _ e
    rcases e with e | e
    · exact .inl e
    · exact .inr (h.sub i e)

set_option maxRecDepth 100000 in
set_option maxHeartbeats 4000000 in
theorem fill_any (B f q : Nat) (ps : List Pc) (word count pushed : Nat) (ended : Bool) (w : World) (h : FAt B w f q ps word count pushed ended) (hl : (cat ps).length ≤ 100000000000) :
    Calls Try.prog 21 #[.pointer (some ⟨f, 0, none⟩)] w fun e w' => e = .returned (.tuple #[]) ∧ ∃ ps1 word1 count1, Filled B f q ps word count pushed ended w w' ps1 word1 count1 ∧ (32 ≤ count1 ∨ cat ps1 = []) := by
  have HF0 : Hid (Filled B f q ps word count pushed ended w w ps word count) := Lib.hid ⟨h, rfl, Only.refl _ _, fun _ h => h⟩
  clear h
  go_enter Try.func21, Try.ntmps21
  go_wp2_with fail
  go_loopw [2] (fun _ wr => ∃ (ps1 : List Pc) (word1 count1 : Nat), (cat ps1).length ≤ 100000000000 ∧ Hid (Filled B f q ps word count pushed ended w wr ps1 word1 count1)) (fun _ wr => sizeAt wr q)
  case atStart => exact ⟨ps, word, count, hl, HF0⟩
  case round =>
    clear HF0 hl
    obtain ⟨ps1, word1, count1, hl1, HF⟩ := hrel
    have hc1 := HF.out.at_.blk.cell 1
    have hc2 := HF.out.at_.blk.cell 2
    have hs2 := HF.out.at_.que.blk.cell 2
    simp only [List.getElem?_toArray, List.getElem?_cons_zero, List.getElem?_cons_succ] at hc1 hc2 hs2
    obtain ⟨w1, rfl⟩ : ∃ w1, w1 = wr := ⟨_, rfl⟩
    have hmost := HF.out.at_.most
    by_cases hlt : count1 < 32
    · by_cases hpos : 0 < (cat ps1).length
      · obtain ⟨p, t, rfl⟩ : ∃ p t, ps1 = p :: t := by
          cases ps1 with
          | nil => simp [cat] at hpos
          | cons p t => exact ⟨p, t, rfl⟩
        have hq0 := HF.out.at_.que.blk.cell 0
        have hz0 := HF.out.at_.que.chain.1.blk.cell 0
        simp only [List.getElem?_toArray, List.getElem?_cons_zero, hd] at hq0 hz0
        have hpp : 0 < p.l.length := by
          by_cases ht : t = []
          · subst ht; rw [cat_one] at hpos; exact hpos
          · exact full_pos HF.out.at_.que.full ht
        have hby : Bytes w1 (some ⟨p.d, 0, none⟩) p.l.length p.c p.l := by
          obtain ⟨a, c, e, hb⟩ := HF.out.at_.que.chain.1.own.bytes
          simp only [Value.slice.injEq] at e
          obtain ⟨rfl, -, rfl⟩ := e
          exact hb
        obtain ⟨M, hM0, hM1, hM2, hmin⟩ : ∃ M : Nat, 0 < M ∧ M ≤ p.l.length ∧ count1 + 8 * M ≤ 64 ∧ (if (64 - (count1 : Int)) / 8 < (p.l.length : Int) then (64 - (count1 : Int)) / 8 else (p.l.length : Int)) = (M : Int) := by
          by_cases hm : (64 - (count1 : Int)) / 8 < (p.l.length : Int)
          · exact ⟨(64 - count1) / 8, by omega, by omega, by omega, by rw [if_pos hm]; omega⟩
          · exact ⟨p.l.length, by omega, by omega, by omega, by rw [if_neg hm]⟩
        have hMc : M ≤ p.c := by have := hby.le_cap; omega
        have hlc : p.l.length ≤ 64 := HF.out.at_.que.chain.1.most
        have HBY := Lib.hid (hby.take M hM1)
        have HLT : Hid (M ≤ (cat (p :: t)).length) := Lib.hid (by rw [cat_cons, List.length_append]; omega)
        have hll : (p.l.take M).length = M := by simp; omega
        have HLL := Lib.hid hll
        have hne : p.d ≠ f := HF.out.at_.que.chain.1.far HF.out.at_.blk (by decide)
        have HNE := Lib.hid hne
        have HFI : Hid (Fills w1 f q pushed ended word1 count1 (p.l.take M) 0 w1 word1 count1) := Lib.hid ⟨HF.out.at_.blk, Only.refl _ _, HF.out.at_.small, rfl, by simp [bitsOf]⟩
        have HCC : Hid (cat (p :: t) = p.l.take M ++ (cat (p :: t)).drop M ) := Lib.hid (by
          rw [cat_cons, List.drop_append, show M - p.l.length = 0 from by omega, List.drop_zero, ← List.append_assoc, List.take_append_drop])
        obtain ⟨lm, hlm⟩ : ∃ lm, lm = p.l.take M := ⟨_, rfl⟩
        rw [← hlm] at HBY HLL HFI HCC
        clear hlm hll hne hby
        go_wp2_with fail
        clear hmin hz0 hq0 hc1 hc2 hs2
        go_loopw [43] (fun i wx => ∃ (j W C : Nat), j ≤ M ∧ i = .int .i64 (j : Int) ∧ Hid (Fills w1 f q pushed ended word1 count1 lm j wx W C)) (fun i _ => M - (intOf i).toNat)
        case atStart => exact ⟨0, word1, count1, by omega, rfl, HFI⟩
        case round =>
          clear HFI
          obtain ⟨j, W, C, hj, rfl, HFI⟩ := hrel
          by_cases hjl : j < M
          · have hjs : j < lm.length := by rw [HLL.out]; exact hjl
            have hcell : wr.cell? ⟨p.d, j, none⟩ = some (.int .u8 (lm[j].toNat : Int)) := by
              rcases HBY.out.at_ with h0 | ⟨b, off, hab, hs, hc⟩
              · omega
              · simp only [Option.some.injEq, Addr.mk.injEq, and_true] at hab
                obtain ⟨rfl, rfl⟩ := hab
                rw [HFI.out.only.cell (p := ⟨p.d, j, none⟩) hs HNE.out]
                have := hc j hjs
                rwa [Nat.zero_add] at this
            have hC8 : C ≤ 56 := by have := HFI.out.cnt; omega
            have hst := fun w2 h1 h2 => fills_step HFI.out hjs hC8 w2 h1 h2
            have HST := Lib.hid hst
            obtain ⟨p1, p2, p3, p4, p5⟩ := byte_in lm[j] HFI.out.small hC8
            have hW := HFI.out.small
            have hW2 : W < 18446744073709551616 := Nat.lt_of_lt_of_le hW (by rw [show 18446744073709551616 = 2 ^ 64 from rfl]; exact Nat.pow_le_pow_right (by omega) (by omega))
            have hb0 := HFI.out.blk.cell 0
            have hb1 := HFI.out.blk.cell 1
            have hf0 := HFI.out.blk.frozen 0
            have hf1 := HFI.out.blk.frozen 1
            simp only [List.getElem?_toArray, List.getElem?_cons_zero, List.getElem?_cons_succ] at hb0 hb1
            have hv8 : (lm[j].toNat : Int) < 256 := by have := lm[j].toNat_lt; omega
            clear hst p4 p5 hW
            generalize lm[j].toNat = v at *
            generalize W + 2 ^ C * v = W2 at *
            go_wp2_with fail
            go_still_tail 14, (by kernel_rfl)
            change wpList _ _ _ _ _ wr.drew
            have hc0' : wr.drew.cell? ⟨f, 0, none⟩ = some (.int .u64 (W : Int)) := hb0
            have hc1' : wr.drew.cell? ⟨f, 1, none⟩ = some (.int .i64 (C : Int)) := hb1
            have hf0' : wr.drew.frozen? ⟨f, 0, none⟩ = false := hf0
            have hf1' : wr.drew.frozen? ⟨f, 1, none⟩ = false := hf1
            have hod : Only (fun k => k = f) wr wr.drew := (Only.refl _ wr).drew
            have hbd := HFI.out.blk.drew
            have hend := Lib.hid (HST.out _ ((hod.setCell (p := ⟨f, 0, none⟩) (fun _ => rfl) (.int .u64 (W2 : Int))).setCell (p := ⟨f, 1, none⟩) (fun _ => rfl) (.int .i64 ((C : Int) + 8))) (by
              have hx := (hbd.set_ 0 (.int .u64 (W2 : Int))).set_ 1 (.int .i64 ((C : Int) + 8))
              rw [show ((C + 8 : Nat) : Int) = (C : Int) + 8 from by omega]
              exact hx))
            clear hb0 hb1 hf0 hf1 p1 p2 p3 hcell HST hod hbd
            generalize wr.drew = wd at *
            go_wp2_with fail
            go_roundw
            case rel => exact ⟨j + 1, _, _, by omega, by go_num, hend⟩
            case measure => simp [intOf]; omega
          · obtain rfl : j = M := by omega
            have hc2 := HFI.out.blk.cell 2
            simp only [List.getElem?_toArray, List.getElem?_cons_zero, List.getElem?_cons_succ] at hc2
            have hdr := drop_any B q (cat (p :: t)).length j p t wr (HF.out.at_.que.only HFI.out.only (fun e => HF.out.at_.far (Or.inl e.symm)) (fun k hk e => HF.out.at_.far (Or.inr (e ▸ hk)))) HLT.out HLT.out hl1
            have HDR := Lib.hid hdr
            clear hdr
            go_wp2_with fail
            refine HDR.out.mono ?_
            rintro e w5 ⟨rfl, ps5, hne5, hq5, hcat5, ho5, hsub5⟩
            have hst := fill_step HF.out HFI.out HLL.out hM2 HCC.out hq5 hcat5 ho5 hsub5
            have HST := Lib.hid hst
            have hms : sizeAt w5 q < sizeAt w1 q := by rw [sizeAt_of hq5, sizeAt_of HF.out.at_.que]; omega
            have hl5 : (cat ps5).length ≤ 100000000000 := by rw [hcat5, List.length_drop]; omega
            clear hne5 hq5 hcat5 ho5 hsub5 hst hc2 HFI HDR
            go_wp2_with fail
            go_roundw
            case rel => exact ⟨ps5, _, _, hl5, HST⟩
            case measure => exact hms
      · have hnil : cat ps1 = [] := List.length_eq_zero_iff.1 (by omega)
        have HNIL := Lib.hid hnil
        rw [hnil] at hs2
        clear hnil hpos
        simp only [List.length_nil] at hs2
        go_wp2_with fail
        go_end0
        exact ⟨rfl, ps1, word1, count1, HF.out, .inr HNIL.out⟩
    · have hge : ¬ (count1 : Int) < 32 := by omega
      go_wp2_with fail
      go_end0
      exact ⟨rfl, ps1, word1, count1, HF.out, .inl (by omega)⟩
end Go.Proofs.Ytihcebpkbkgmcaa.FeedC
