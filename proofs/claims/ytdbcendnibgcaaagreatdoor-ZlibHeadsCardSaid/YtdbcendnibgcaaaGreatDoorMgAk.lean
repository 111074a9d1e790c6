import Derived.Test.YtdbcendnibgcaaaGreatDoorMgAj
import Derived.StillTailTactics
import Derived.Deep.RegionLaw

section
namespace Go.Proofs.YtdbcendnibgcaaaGreatDoor.FeedC
open Go.RowKit Go.My BitMath RefC

/-- A Feed: its block, its queue's, the pieces; the word, how many bits it has, how many bytes were pushed. -/
structure FAt (B : Nat) (w : World) (f q : Nat) (ps : List Pc) (word count pushed : Nat) (ended : Bool) : Prop where
  blk : Blk w f 123 #[.int .u64 (word : Int), .int .i64 (count : Int), .pointer (some ⟨q, 0, none⟩), .int .i64 (pushed : Int), .bool ended]
  que : QAt B w q ps (cat ps).length
  base : B ≤ f
  small : word < 2 ^ count
  most : count ≤ 64

/-- All blocks of a Feed. -/
def FFoot (f q : Nat) (ps : List Pc) : Nat → Prop := fun k => k = f ∨ QFoot q ps k

theorem FAt.far {B : Nat} {w : World} {f q : Nat} {ps : List Pc} {word count pushed : Nat} {ended : Bool} (h : FAt B w f q ps word count pushed ended) : ¬ QFoot q ps f := by
  rintro (e | e)
  · exact Blk.ne h.blk h.que.blk (by decide) e
  · exact Chain.far h.blk (by decide) (by decide) h.que.chain e
theorem FAt.lt {B : Nat} {w : World} {f q : Nat} {ps : List Pc} {word count pushed : Nat} {ended : Bool} (h : FAt B w f q ps word count pushed ended) : ∀ k, FFoot f q ps k → B ≤ k ∧ k < w.heap.size := by
  rintro k (rfl | hk)
  · exact ⟨h.base, h.blk.lt⟩
  · exact h.que.lt k hk
theorem FAt.only {B : Nat} {w w' : World} {f q : Nat} {ps : List Pc} {word count pushed : Nat} {ended : Bool} {S : Nat → Prop} (h : FAt B w f q ps word count pushed ended) (hk : Only S w w') (hs : ∀ k, FFoot f q ps k → ¬ S k) : FAt B w' f q ps word count pushed ended :=
  ⟨hk.blk h.blk (hs _ (.inl rfl)), h.que.only hk (hs _ (.inr (.inl rfl))) (fun k hk => hs k (.inr (.inr hk))), h.base, h.small, h.most⟩
theorem FAt.word_lt {B : Nat} {w : World} {f q : Nat} {ps : List Pc} {word count pushed : Nat} {ended : Bool} (h : FAt B w f q ps word count pushed ended) : word < 18446744073709551616 :=
  Nat.lt_of_lt_of_le h.small (by rw [show 18446744073709551616 = 2 ^ 64 from rfl]; exact Nat.pow_le_pow_right (by omega) h.most)

/-- The bits that are there. -/
def bits' (word count : Nat) (ps : List Pc) : List Bool := lows count word ++ bitsOf (cat ps)

theorem byte_in {word C : Nat} (c : UInt8) (hw : word < 2 ^ C) (h8 : C ≤ 56) :
    IntKind.u64.wrap (c.toNat : Int) = (c.toNat : Int) ∧ IntKind.u64.wrap ((c.toNat : Int) * 2 ^ C) = (c.toNat : Int) * 2 ^ C ∧ bits .or .u64 (word : Int) ((c.toNat : Int) * 2 ^ C) = ((word + 2 ^ C * c.toNat : Nat) : Int) ∧ word + 2 ^ C * c.toNat < 2 ^ (C + 8) ∧ lows (C + 8) (word + 2 ^ C * c.toNat) = lows C word ++ lows 8 c.toNat := by
  have hb := c.toNat_lt
  generalize c.toNat = b at hb
  have h56 : 2 ^ C ≤ 2 ^ 56 := Nat.pow_le_pow_right (by omega) (by omega)
  have hm : b * 2 ^ C ≤ 255 * 2 ^ C := Nat.mul_le_mul_right _ (by omega)
  have e : (b : Int) * 2 ^ C = ((b * 2 ^ C : Nat) : Int) := by push_cast; rfl
  refine ⟨IntWalk.u64_in _ (by omega), ?_, ?_, ?_, lows_join C 8 word b hw⟩
  · rw [e, IntWalk.u64_in _ (by omega)]
  · rw [e, u64_or_nat _ _ (by omega) (by omega), or_join C word b hw]
  · rw [Nat.pow_add, Nat.mul_comm (2 ^ C) b]
    omega

/-- What the inner loop of fill keeps: j bytes have gone into the word. -/
structure Fills (w : World) (f q pushed : Nat) (ended : Bool) (word count : Nat) (l : List UInt8) (j : Nat) (wr : World) (W C : Nat) : Prop where
  blk : Blk wr f 123 #[.int .u64 (W : Int), .int .i64 (C : Int), .pointer (some ⟨q, 0, none⟩), .int .i64 (pushed : Int), .bool ended]
  only : Only (fun k => k = f) w wr
  small : W < 2 ^ C
  cnt : C = count + 8 * j
  eq : lows C W = lows count word ++ bitsOf (l.take j)

theorem fills_step {w : World} {f q pushed : Nat} {ended : Bool} {word count : Nat} {l : List UInt8} {j : Nat} {wr : World} {W C : Nat} (h : Fills w f q pushed ended word count l j wr W C) (hj : j < l.length) (h8 : C ≤ 56) (w2 : World) (hw2 : Only (fun k => k = f) wr w2)
    (hb : Blk w2 f 123 #[.int .u64 ((W + 2 ^ C * l[j].toNat : Nat) : Int), .int .i64 ((C + 8 : Nat) : Int), .pointer (some ⟨q, 0, none⟩), .int .i64 (pushed : Int), .bool ended]) :
    Fills w f q pushed ended word count l (j + 1) w2 (W + 2 ^ C * l[j].toNat) (C + 8) := by
  obtain ⟨_, _, _, p4, p5⟩ := byte_in l[j] h.small h8
  refine ⟨hb, h.only.trans hw2 (fun i _ e => e), p4, by have := h.cnt; omega, ?_⟩
  rw [p5, h.eq, List.take_succ_eq_append_getElem hj, bitsOf_append, bitsOf_one, List.append_assoc]

/-- What fill keeps and leaves. -/
structure Filled (B f q : Nat) (ps : List Pc) (word count pushed : Nat) (ended : Bool) (w wr : World) (ps1 : List Pc) (word1 count1 : Nat) : Prop where
  at_ : FAt B wr f q ps1 word1 count1 pushed ended
  eq : bits' word1 count1 ps1 = bits' word count ps
  only : Only (FFoot f q ps) w wr
  sub : ∀ j, QFoot q ps1 j → QFoot q ps j

def sizeAt (w : World) (q : Nat) : Nat := match w.cell? ⟨q, 2, none⟩ with | some (.int _ n) => n.toNat | _ => 0
theorem sizeAt_of {B : Nat} {w : World} {q n : Nat} {ps : List Pc} (h : QAt B w q ps n) : sizeAt w q = n := by
  have := h.blk.cell 2
  simp only [List.getElem?_toArray, List.getElem?_cons_zero, List.getElem?_cons_succ] at this
  unfold sizeAt
  rw [this]
  simp

theorem fill_step {B f q : Nat} {ps : List Pc} {word count pushed : Nat} {ended : Bool} {w w1 wr w5 : World} {ps1 ps5 : List Pc} {word1 count1 M W C : Nat} {lm : List UInt8} (h : Filled B f q ps word count pushed ended w w1 ps1 word1 count1)
    (hf : Fills w1 f q pushed ended word1 count1 lm M wr W C) (hm : lm.length = M) (h8 : count1 + 8 * M ≤ 64) (hcc : cat ps1 = lm ++ (cat ps1).drop M)
    (hq : QAt B w5 q ps5 ((cat ps1).length - M)) (hc : cat ps5 = (cat ps1).drop M) (ho : Only (QFoot q ps1) wr w5) (hs : ∀ j, QFoot q ps5 j → QFoot q ps1 j) : Filled B f q ps word count pushed ended w w5 ps5 W C := by
  have hfar := h.at_.far
  have hcnt := hf.cnt
  refine ⟨⟨ho.blk hf.blk hfar, ?_, h.at_.base, hf.small, by omega⟩, ?_, ?_, fun j hj => h.sub j (hs j hj)⟩
  · rw [hc, List.length_drop]; exact hq
  · rw [← h.eq]
    unfold bits'
    rw [hf.eq, List.take_of_length_le (by omega), hc, List.append_assoc, ← bitsOf_append, ← hcc]
  · refine h.only.trans ((hf.only.mono (T := FFoot f q ps1) (fun k _ e => .inl e)).trans ho (fun i _ e => .inr e)) ?_
    intro i _ e
    rcases e with e | e
    · exact .inl e
    · exact .inr (h.sub i e)

set_option maxRecDepth 100000 in
set_option maxHeartbeats 4000000 in
theorem fill_any (B f q : Nat) (ps : List Pc) (word count pushed : Nat) (ended : Bool) (w : World) (h : FAt B w f q ps word count pushed ended) (hl : (cat ps).length ≤ 100000000000) :
    Calls Tryz.prog 72 #[.pointer (some ⟨f, 0, none⟩)] w fun e w' => e = .returned (.tuple #[]) ∧ ∃ ps1 word1 count1, Filled B f q ps word count pushed ended w w' ps1 word1 count1 ∧ (32 ≤ count1 ∨ cat ps1 = []) := by
  have HF0 : Hid (Filled B f q ps word count pushed ended w w ps word count) := Lib.hid ⟨h, rfl, Only.refl _ _, fun _ h => h⟩
  clear h
  go_enter Tryz.func72, Tryz.ntmps72
  go_wp2_with fail
  go_loopw [2] (fun _ wr => ∃ (ps1 : List Pc) (word1 count1 : Nat), (cat ps1).length ≤ 100000000000 ∧ Hid (Filled B f q ps word count pushed ended w wr ps1 word1 count1)) (fun _ wr => sizeAt wr q)
  case atStart => exact ⟨ps, word, count, hl, HF0⟩
  case round =>
    clear HF0 hl
    obtain ⟨ps1, word1, count1, hl1, HF⟩ := hrel
    have hc1 := HF.out.at_.blk.cell 1
    have hc2 := HF.out.at_.blk.cell 2
    have hs2 := HF.out.at_.que.blk.cell 2
    simp only [List.getElem?_toArray, List.getElem?_cons_zero, List.getElem?_cons_succ] at hc1 hc2 hs2
    obtain ⟨w1, rfl⟩ : ∃ w1, w1 = wr := ⟨_, rfl⟩
    have hmost := HF.out.at_.most
    by_cases hlt : count1 < 32
    · by_cases hpos : 0 < (cat ps1).length
      · obtain ⟨p, t, rfl⟩ : ∃ p t, ps1 = p :: t := by
          cases ps1 with
          | nil => simp [cat] at hpos
          | cons p t => exact ⟨p, t, rfl⟩
        have hq0 := HF.out.at_.que.blk.cell 0
        have hz0 := HF.out.at_.que.chain.1.blk.cell 0
        simp only [List.getElem?_toArray, List.getElem?_cons_zero, hd] at hq0 hz0
        have hpp : 0 < p.l.length := by
          by_cases ht : t = []
          · subst ht; rw [cat_one] at hpos; exact hpos
          · exact full_pos HF.out.at_.que.full ht
        have hby : Bytes w1 (some ⟨p.d, 0, none⟩) p.l.length p.c p.l := by
          obtain ⟨a, c, e, hb⟩ := HF.out.at_.que.chain.1.own.bytes
          simp only [Value.slice.injEq] at e
          obtain ⟨rfl, -, rfl⟩ := e
          exact hb
        obtain ⟨M, hM0, hM1, hM2, hmin⟩ : ∃ M : Nat, 0 < M ∧ M ≤ p.l.length ∧ count1 + 8 * M ≤ 64 ∧ (if (64 - (count1 : Int)) / 8 < (p.l.length : Int) then (64 - (count1 : Int)) / 8 else (p.l.length : Int)) = (M : Int) := by
          by_cases hm : (64 - (count1 : Int)) / 8 < (p.l.length : Int)
          · exact ⟨(64 - count1) / 8, by omega, by omega, by omega, by rw [if_pos hm]; omega⟩
          · exact ⟨p.l.length, by omega, by omega, by omega, by rw [if_neg hm]⟩
        have hMc : M ≤ p.c := by have := hby.le_cap; omega
        have hlc : p.l.length ≤ 64 := HF.out.at_.que.chain.1.most
        have HBY := Lib.hid (hby.take M hM1)
        have HLT : Hid (M ≤ (cat (p :: t)).length) := Lib.hid (by rw [cat_cons, List.length_append]; omega)
        have hll : (p.l.take M).length = M := by simp; omega
        have HLL := Lib.hid hll
        have hne : p.d ≠ f := HF.out.at_.que.chain.1.far HF.out.at_.blk (by decide)
        have HNE := Lib.hid hne
        have HFI : Hid (Fills w1 f q pushed ended word1 count1 (p.l.take M) 0 w1 word1 count1) := Lib.hid ⟨HF.out.at_.blk, Only.refl _ _, HF.out.at_.small, rfl, by simp [bitsOf]⟩
        have HCC : Hid (cat (p :: t) = p.l.take M ++ (cat (p :: t)).drop M ) := Lib.hid (by
          rw [cat_cons, List.drop_append, show M - p.l.length = 0 from by omega, List.drop_zero, ← List.append_assoc, List.take_append_drop])
        obtain ⟨lm, hlm⟩ : ∃ lm, lm = p.l.take M := ⟨_, rfl⟩
        rw [← hlm] at HBY HLL HFI HCC
        clear hlm hll hne hby
        go_wp2_with fail
        clear hmin hz0 hq0 hc1 hc2 hs2
        go_loopw [43] (fun i wx => ∃ (j W C : Nat), j ≤ M ∧ i = .int .i64 (j : Int) ∧ Hid (Fills w1 f q pushed ended word1 count1 lm j wx W C)) (fun i _ => M - (intOf i).toNat)
        case atStart => exact ⟨0, word1, count1, by omega, rfl, HFI⟩
        case round =>
          clear HFI
          obtain ⟨j, W, C, hj, rfl, HFI⟩ := hrel
          by_cases hjl : j < M
          · have hjs : j < lm.length := by rw [HLL.out]; exact hjl
            have hcell : wr.cell? ⟨p.d, j, none⟩ = some (.int .u8 (lm[j].toNat : Int)) := by
              rcases HBY.out.at_ with h0 | ⟨b, off, hab, hs, hc⟩
              · omega
              · simp only [Option.some.injEq, Addr.mk.injEq, and_true] at hab
                obtain ⟨rfl, rfl⟩ := hab
                rw [HFI.out.only.cell (p := ⟨p.d, j, none⟩) hs HNE.out]
                have := hc j hjs
                rwa [Nat.zero_add] at this
            have hC8 : C ≤ 56 := by have := HFI.out.cnt; omega
            have hst := fun w2 h1 h2 => fills_step HFI.out hjs hC8 w2 h1 h2
            have HST := Lib.hid hst
            obtain ⟨p1, p2, p3, p4, p5⟩ := byte_in lm[j] HFI.out.small hC8
            have hW := HFI.out.small
            have hW2 : W < 18446744073709551616 := Nat.lt_of_lt_of_le hW (by rw [show 18446744073709551616 = 2 ^ 64 from rfl]; exact Nat.pow_le_pow_right (by omega) (by omega))
            have hb0 := HFI.out.blk.cell 0
            have hb1 := HFI.out.blk.cell 1
            have hf0 := HFI.out.blk.frozen 0
            have hf1 := HFI.out.blk.frozen 1
            simp only [List.getElem?_toArray, List.getElem?_cons_zero, List.getElem?_cons_succ] at hb0 hb1
            have hv8 : (lm[j].toNat : Int) < 256 := by have := lm[j].toNat_lt; omega
            clear hst p4 p5 hW
            generalize lm[j].toNat = v at *
            generalize W + 2 ^ C * v = W2 at *
            go_wp2_with fail
            go_still_tail 14, (by kernel_rfl)
            change wpList _ _ _ _ _ wr.drew
            have hc0' : wr.drew.cell? ⟨f, 0, none⟩ = some (.int .u64 (W : Int)) := hb0
            have hc1' : wr.drew.cell? ⟨f, 1, none⟩ = some (.int .i64 (C : Int)) := hb1
            have hf0' : wr.drew.frozen? ⟨f, 0, none⟩ = false := hf0
            have hf1' : wr.drew.frozen? ⟨f, 1, none⟩ = false := hf1
            have hod : Only (fun k => k = f) wr wr.drew := (Only.refl _ wr).drew
            have hbd := HFI.out.blk.drew
            have hend := Lib.hid (HST.out _ ((hod.setCell (p := ⟨f, 0, none⟩) (fun _ => rfl) (.int .u64 (W2 : Int))).setCell (p := ⟨f, 1, none⟩) (fun _ => rfl) (.int .i64 ((C : Int) + 8))) (by
              have hx := (hbd.set_ 0 (.int .u64 (W2 : Int))).set_ 1 (.int .i64 ((C : Int) + 8))
              rw [show ((C + 8 : Nat) : Int) = (C : Int) + 8 from by omega]
              exact hx))
            clear hb0 hb1 hf0 hf1 p1 p2 p3 hcell HST hod hbd
            generalize wr.drew = wd at *
            go_wp2_with fail
            go_roundw
            case rel => exact ⟨j + 1, _, _, by omega, by go_num, hend⟩
            case measure => simp [intOf]; omega
          · obtain rfl : j = M := by omega
            have hc2 := HFI.out.blk.cell 2
            simp only [List.getElem?_toArray, List.getElem?_cons_zero, List.getElem?_cons_succ] at hc2
            have hdr := drop_any B q (cat (p :: t)).length j p t wr (HF.out.at_.que.only HFI.out.only (fun e => HF.out.at_.far (Or.inl e.symm)) (fun k hk e => HF.out.at_.far (Or.inr (e ▸ hk)))) HLT.out HLT.out hl1
            have HDR := Lib.hid hdr
            clear hdr
            go_wp2_with fail
            refine HDR.out.mono ?_
            rintro e w5 ⟨rfl, ps5, hne5, hq5, hcat5, ho5, hsub5⟩
            have hst := fill_step HF.out HFI.out HLL.out hM2 HCC.out hq5 hcat5 ho5 hsub5
            have HST := Lib.hid hst
            have hms : sizeAt w5 q < sizeAt w1 q := by rw [sizeAt_of hq5, sizeAt_of HF.out.at_.que]; omega
            have hl5 : (cat ps5).length ≤ 100000000000 := by rw [hcat5, List.length_drop]; omega
            clear hne5 hq5 hcat5 ho5 hsub5 hst hc2 HFI HDR
            go_wp2_with fail
            go_roundw
            case rel => exact ⟨ps5, _, _, hl5, HST⟩
            case measure => exact hms
      · have hnil : cat ps1 = [] := List.length_eq_zero_iff.1 (by omega)
        have HNIL := Lib.hid hnil
        rw [hnil] at hs2
        clear hnil hpos
        simp only [List.length_nil] at hs2
        go_wp2_with fail
        go_end0
        exact ⟨rfl, ps1, word1, count1, HF.out, .inr HNIL.out⟩
    · have hge : ¬ (count1 : Int) < 32 := by omega
      go_wp2_with fail
      go_end0
      exact ⟨rfl, ps1, word1, count1, HF.out, .inl (by omega)⟩
end Go.Proofs.YtdbcendnibgcaaaGreatDoor.FeedC
end

section
namespace Go.Proofs.YtdbcendnibgcaaaGreatDoor.FeedC
open Go.RowKit Go.My BitMath RefC

theorem bits_len (word count : Nat) (ps : List Pc) : (bits' word count ps).length = count + 8 * (cat ps).length := by
  unfold bits'; rw [List.length_append, lows_len, bitsOf_len]

theorem shift_step {B : Nat} {w : World} {f q : Nat} {ps : List Pc} {word count pushed : Nat} {ended : Bool} (h : FAt B w f q ps word count pushed ended) (m : Nat) (hm : m ≤ count) :
    FAt B ((w.setCell ⟨f, 0, none⟩ (.int .u64 ((word : Int) / 2 ^ m))).setCell ⟨f, 1, none⟩ (.int .i64 ((count : Int) - (m : Int)))) f q ps (word / 2 ^ m) (count - m) pushed ended ∧ bits' (word / 2 ^ m) (count - m) ps = (bits' word count ps).drop m := by
  have hO : Only (fun k => k = f) w ((w.setCell ⟨f, 0, none⟩ (.int .u64 ((word : Int) / 2 ^ m))).setCell ⟨f, 1, none⟩ (.int .i64 ((count : Int) - (m : Int)))) :=
    ((Only.refl (fun k => k = f) w).setCell (p := ⟨f, 0, none⟩) (fun _ => rfl) _).setCell (p := ⟨f, 1, none⟩) (fun _ => rfl) _
  have hb := (h.blk.set_ 0 (.int .u64 ((word : Int) / 2 ^ m))).set_ 1 (.int .i64 ((count : Int) - (m : Int)))
  have hsm := h.small
  have hmo := h.most
  refine ⟨⟨?_, h.que.only hO (fun e => h.far (Or.inl e.symm)) (fun k hk e => h.far (Or.inr (e ▸ hk))), h.base, ?_, by omega⟩, ?_⟩
  · have e1 : ((word / 2 ^ m : Nat) : Int) = (word : Int) / 2 ^ m := by push_cast; rfl
    have e2 : ((count - m : Nat) : Int) = (count : Int) - (m : Int) := by omega
    rw [e1, e2]
    exact hb
  · rw [show count = m + (count - m) from by omega, Nat.pow_add] at hsm
    exact Nat.div_lt_of_lt_mul hsm
  · unfold bits'
    rw [List.drop_append, lows_len, show m - count = 0 from by omega, List.drop_zero]
    congr 1
    have e := lows_add m (count - m) word
    rw [show m + (count - m) = count from by omega] at e
    rw [e, List.drop_append, lows_len, Nat.sub_self, List.drop_zero, List.drop_of_length_le (by rw [lows_len]; omega)]
    rfl

/-- What use leaves. -/
structure Used_ (B f q : Nat) (ps : List Pc) (bs : List Bool) (pushed : Nat) (ended : Bool) (w w' : World) (ps1 : List Pc) (word1 count1 : Nat) : Prop where
  at_ : FAt B w' f q ps1 word1 count1 pushed ended
  eq : bits' word1 count1 ps1 = bs
  full : 32 ≤ count1 ∨ cat ps1 = []
  only : Only (FFoot f q ps) w w'
  sub : ∀ j, QFoot q ps1 j → QFoot q ps j

theorem only_f {f q : Nat} {ps : List Pc} {w w2 : World} (a b : Value) (h : w2 = (w.setCell ⟨f, 0, none⟩ a).setCell ⟨f, 1, none⟩ b) : Only (FFoot f q ps) w w2 := by
  subst h
  exact ((Only.refl (FFoot f q ps) w).setCell (p := ⟨f, 0, none⟩) (fun _ => .inl rfl) _).setCell (p := ⟨f, 1, none⟩) (fun _ => .inl rfl) _

set_option maxRecDepth 100000 in
set_option maxHeartbeats 4000000 in
theorem use_few (B f q : Nat) (ps : List Pc) (word count pushed n : Nat) (ended : Bool) (w : World) (h : FAt B w f q ps word count pushed ended) (hn : n ≤ count) (hl : (cat ps).length ≤ 10000000000) :
    Calls Tryz.prog 110 #[.pointer (some ⟨f, 0, none⟩), .int .i64 (n : Int)] w fun e w' => e = .returned (.tuple #[]) ∧ ∃ ps1 word1 count1, Used_ B f q ps ((bits' word count ps).drop n) pushed ended w w' ps1 word1 count1 := by
  obtain ⟨hs1, hs2⟩ := shift_step h n hn
  have hc0 := h.blk.cell 0
  have hc1 := h.blk.cell 1
  have hf0 := h.blk.frozen 0
  have hf1 := h.blk.frozen 1
  simp only [List.getElem?_toArray, List.getElem?_cons_zero, List.getElem?_cons_succ] at hc0 hc1
  have hmo := h.most
  have hwl := h.word_lt
  have HS1 := Lib.hid hs1
  have HS2 := Lib.hid hs2
  have hlt : ¬ count < n := by omega
  clear hs1 hs2 h
  go_enter Tryz.func110, Tryz.ntmps110
  go_wp2_with fail
  refine (fill_any B f q ps _ _ pushed ended _ HS1.out (by omega)).mono ?_
  rintro e w2 ⟨rfl, ps1, word1, count1, hF, h32⟩
  have HF := Lib.hid hF
  have H32 := Lib.hid h32
  clear hF h32
  go_wp2_with fail
  go_end0
  exact ⟨rfl, ps1, word1, count1, HF.out.at_, by rw [HF.out.eq, HS2.out], H32.out, (only_f (w := w) _ _ rfl).trans HF.out.only (fun i _ e => e), HF.out.sub⟩

set_option maxRecDepth 100000 in
set_option maxHeartbeats 4000000 in
theorem use_many (B f q : Nat) (p : Pc) (t : List Pc) (word count pushed n : Nat) (ended : Bool) (w : World) (h : FAt B w f q (p :: t) word count pushed ended) (hn : count < n) (hn2 : n ≤ (bits' word count (p :: t)).length) (hl : (cat (p :: t)).length ≤ 10000000000) :
    Calls Tryz.prog 110 #[.pointer (some ⟨f, 0, none⟩), .int .i64 (n : Int)] w fun e w' => e = .returned (.tuple #[]) ∧ ∃ ps1 word1 count1, Used_ B f q (p :: t) ((bits' word count (p :: t)).drop n) pushed ended w w' ps1 word1 count1 := by
  rw [bits_len] at hn2
  have hmo := h.most
  have hc1 := h.blk.cell 1
  have hc2 := h.blk.cell 2
  have hf0 := h.blk.frozen 0
  have hf1 := h.blk.frozen 1
  have hc0 := h.blk.cell 0
  simp only [List.getElem?_toArray, List.getElem?_cons_zero, List.getElem?_cons_succ] at hc0 hc1 hc2
  have hO : Only (fun k => k = f) w ((w.setCell ⟨f, 0, none⟩ (.int .u64 0)).setCell ⟨f, 1, none⟩ (.int .i64 0)) :=
    ((Only.refl (fun k => k = f) w).setCell (p := ⟨f, 0, none⟩) (fun _ => rfl) _).setCell (p := ⟨f, 1, none⟩) (fun _ => rfl) _
  have hA : FAt B ((w.setCell ⟨f, 0, none⟩ (.int .u64 0)).setCell ⟨f, 1, none⟩ (.int .i64 0)) f q (p :: t) 0 0 pushed ended :=
    ⟨(h.blk.set_ 0 (.int .u64 0)).set_ 1 (.int .i64 0), h.que.only hO (fun e => h.far (Or.inl e.symm)) (fun k hk e => h.far (Or.inr (e ▸ hk))), h.base, by omega, by omega⟩
  have hOF : Only (FFoot f q (p :: t)) w ((w.setCell ⟨f, 0, none⟩ (.int .u64 0)).setCell ⟨f, 1, none⟩ (.int .i64 0)) := only_f _ _ rfl
  have HA := Lib.hid hA
  have HOF := Lib.hid hOF
  have hx := h.que.blk.cell 2
  obtain ⟨m, hm, hmi⟩ : ∃ m : Nat, m = (n - count) / 8 ∧ ((n : Int) - (count : Int)) / 8 = (m : Int) := ⟨(n - count) / 8, rfl, by omega⟩
  obtain ⟨r, hr, hri⟩ : ∃ r : Nat, r = (n - count) % 8 ∧ ((n : Int) - (count : Int)) % 8 = (r : Int) := ⟨(n - count) % 8, rfl, by omega⟩
  have hni : (count : Int) < (n : Int) := by omega
  have HM := Lib.hid (And.intro hm hr)
  have hml : m ≤ (cat (p :: t)).length := by omega
  have hdr := drop_any B q (cat (p :: t)).length m p t _ HA.out.que hml hml (by omega)
  have HDR := Lib.hid hdr
  have hbits : (bits' word count (p :: t)).drop n = (bitsOf ((cat (p :: t)).drop m)).drop r := by
    unfold bits'
    rw [List.drop_append, lows_len, List.drop_of_length_le (by rw [lows_len]; omega), List.nil_append, show n - count = 8 * m + r from by omega, ← bitsOf_drop, List.drop_drop]
  have HB := Lib.hid hbits
  have hra : r ≤ 8 * ((cat (p :: t)).length - m) := by omega
  have HRA := Lib.hid hra
  clear hA hOF hO hm hr hdr hbits hx h hra
  go_enter Tryz.func110, Tryz.ntmps110
  go_wp2_with fail
  refine HDR.out.mono ?_
  rintro e w2 ⟨rfl, ps2, hne2, hq2, hcat2, ho2, hsub2⟩
  have hA2 : FAt B w2 f q ps2 0 0 pushed ended := ⟨ho2.blk HA.out.blk HA.out.far, by rw [hcat2, List.length_drop]; exact hq2, HA.out.base, by omega, by omega⟩
  have HA2 := Lib.hid hA2
  have HO2 : Hid (Only (FFoot f q (p :: t)) w w2) := Lib.hid (HOF.out.trans ho2 (fun i _ e => .inr e))
  have HS2 := Lib.hid hsub2
  have HC2 := Lib.hid hcat2
  have hl2 : (cat ps2).length ≤ 10000000000 := by rw [hcat2, List.length_drop]; omega
  clear hA2 ho2 hsub2 hcat2 hq2 hne2 HDR HA
  go_wp2_with fail
  refine (fill_any B f q ps2 0 0 pushed ended w2 HA2.out (by omega)).mono ?_
  rintro e w3 ⟨rfl, ps3, word3, count3, hF3, h32⟩
  have heq3 : bits' word3 count3 ps3 = bitsOf ((cat (p :: t)).drop m) := by
    rw [hF3.eq, ← HC2.out]; unfold bits'; simp [lows]
  have hr8 : r < 8 := by have := HM.out.2; omega
  have hrc : r ≤ count3 := by
    rcases h32 with h | h
    · omega
    · have hlen := congrArg List.length heq3
      rw [bits_len, h, bitsOf_len, List.length_drop] at hlen
      have := HRA.out
      simp at hlen
      omega
  have hl3 : (cat ps3).length ≤ 10000000000 := by
    have hlen := congrArg List.length heq3
    rw [bits_len, bitsOf_len, List.length_drop] at hlen
    omega
  obtain ⟨hs1, hs2⟩ := shift_step hF3.at_ r hrc
  have hd0 := hF3.at_.blk.cell 0
  have hd1 := hF3.at_.blk.cell 1
  have hg0 := hF3.at_.blk.frozen 0
  have hg1 := hF3.at_.blk.frozen 1
  simp only [List.getElem?_toArray, List.getElem?_cons_zero, List.getElem?_cons_succ] at hd0 hd1
  have hmo3 := hF3.at_.most
  have hwl3 := hF3.at_.word_lt
  have HO3 : Hid (Only (FFoot f q (p :: t)) w w3) := Lib.hid (HO2.out.trans hF3.only (fun i _ e => by
    rcases e with e | e
    · exact .inl e
    · exact .inr (HS2.out i e)))
  have HSub3 : Hid (∀ j, QFoot q ps3 j → QFoot q (p :: t) j) := Lib.hid (fun j hj => HS2.out j (hF3.sub j hj))
  have HS1 := Lib.hid hs1
  have HE3 : Hid (bits' (word3 / 2 ^ r) (count3 - r) ps3 = (bits' word count (p :: t)).drop n) := Lib.hid (by rw [hs2, heq3, HB.out])
  clear hs1 hs2 hF3 h32 heq3
  go_wp2_with fail
  refine (fill_any B f q ps3 _ _ pushed ended _ HS1.out (by omega)).mono ?_
  rintro e w4 ⟨rfl, ps4, word4, count4, hF4, h32⟩
  have HF4 := Lib.hid hF4
  have H32 := Lib.hid h32
  clear hF4 h32
  go_wp2_with fail
  go_end0
  refine ⟨rfl, ps4, word4, count4, HF4.out.at_, by rw [HF4.out.eq, HE3.out], H32.out, ?_, fun j hj => HSub3.out j (HF4.out.sub j hj)⟩
  refine HO3.out.trans ((only_f (f := f) (q := q) (ps := ps3) (w := w3) _ _ rfl).trans HF4.out.only (fun i _ e => e)) (fun i _ e => ?_)
  rcases e with e | e
  · exact .inl e
  · exact .inr (HSub3.out i e)

theorem use_any (B f q : Nat) (ps : List Pc) (word count pushed n : Nat) (ended : Bool) (w : World) (h : FAt B w f q ps word count pushed ended) (hn : n ≤ (bits' word count ps).length) (hl : (cat ps).length ≤ 10000000000) :
    Calls Tryz.prog 110 #[.pointer (some ⟨f, 0, none⟩), .int .i64 (n : Int)] w fun e w' => e = .returned (.tuple #[]) ∧ ∃ ps1 word1 count1, Used_ B f q ps ((bits' word count ps).drop n) pushed ended w w' ps1 word1 count1 := by
  by_cases hc : n ≤ count
  · exact use_few B f q ps word count pushed n ended w h hc hl
  · cases ps with
    | nil => rw [bits_len, cat_nil] at hn; simp at hn; omega
    | cons p t => exact use_many B f q p t word count pushed n ended w h (by omega) hn hl
end Go.Proofs.YtdbcendnibgcaaaGreatDoor.FeedC
end

section
namespace Go.Proofs.YtdbcendnibgcaaaGreatDoor.FeedC
open Go.RowKit Go.My BitMath RefC

/-- What the loop of complete keeps. -/
structure Comps (B B2 : Nat) (ps : List Pc) (w : World) (n : Nat) (lb : List UInt8) (wr : World) (ys : List Pc) (a : Option Addr) (len cap : Nat) (l : List UInt8) : Prop where
  own : Own 5 B2 wr (.slice a len cap) l
  len_ : l.length = len
  eq : l ++ (cat ys).take (n - len) = lb ++ (cat ps).take (n - lb.length)
  le : len ≤ n
  enough : n ≤ len + (cat ys).length
  chain : Chain B wr ys none
  full : Full ys
  foot : ∀ k, Foot ys k → k < B2
  below : Below B2 w wr
  base : B2 ≤ wr.heap.size

theorem comps_step {B B2 : Nat} {ps : List Pc} {w : World} {n : Nat} {lb : List UInt8} {wr w3 : World} {p : Pc} {t : List Pc} {a a1 : Option Addr} {len cap c1 M : Nat} {l : List UInt8} (h : Comps B B2 ps w n lb wr (p :: t) a len cap l)
    (hM : M = p.l.length ∧ p.l.length ≤ n - len ∨ M = n - len ∧ n - len < p.l.length)
    (hown : Own 5 B2 w3 (.slice a1 (len + M) c1) (l ++ p.l.take M)) (hgrow : wr.drew.grownBy w3 (Value.ownBlock (.slice a len cap))) :
    Comps B B2 ps w n lb w3 t a1 (len + M) c1 (l ++ p.l.take M) := by
  have hlen := h.len_
  have he := h.eq
  have hen := h.enough
  have hl1 := h.le
  rw [cat_cons] at he hen
  rw [List.take_append] at he
  rw [List.length_append] at hen
  have hb : Below B2 w w3 := h.below.trans (Below.grown (Below.refl B2 wr).drew hgrow h.base (fun k hk => (World.ownsRow.lt h.own k hk).1))
  have hb3 : Below B2 wr w3 := (Below.refl B2 wr).drew.grown hgrow h.base (fun k hk => (World.ownsRow.lt h.own k hk).1)
  refine ⟨hown, by simp; omega, ?_, by omega, ?_, ?_, ?_, ?_, hb, Nat.le_trans h.base hb3.size⟩
  · rw [← he, List.append_assoc, show n - (len + M) = n - len - M from by omega]
    rcases hM with ⟨rfl, hM⟩ | ⟨rfl, hM⟩
    · rw [List.take_of_length_le (Nat.le_refl _), List.take_of_length_le hM]
    · rw [show n - len - (n - len) = 0 from by omega, show n - len - p.l.length = 0 from by omega]
  · rcases hM with ⟨rfl, hM⟩ | ⟨rfl, hM⟩ <;> omega
  · refine Chain.only (S := fun k => B2 ≤ k) ⟨hb3.os, hb3.tape, hb3.output, hb3.size, fun k hk hs => hb3.block k (by omega)⟩ h.chain.2 (fun k hk => ?_)
    have := h.foot k (let ⟨r, hr, hj⟩ := hk; ⟨r, by simp [hr], hj⟩)
    omega
  · intro r hr
    refine h.full r ?_
    cases t with
    | nil => simp at hr
    | cons y t => rw [List.dropLast_cons_cons]; exact List.mem_cons_of_mem _ hr
  · exact fun k ⟨r, hr, hj⟩ => h.foot k ⟨r, by simp [hr], hj⟩

theorem comps_pos {B B2 : Nat} {ps : List Pc} {w : World} {n : Nat} {lb : List UInt8} {wr : World} {p : Pc} {t : List Pc} {a : Option Addr} {len cap : Nat} {l : List UInt8} (h : Comps B B2 ps w n lb wr (p :: t) a len cap l) (hl : len < n) : 0 < p.l.length := by
  by_cases ht : t = []
  · subst ht
    have := h.enough
    rw [cat_one] at this
    omega
  · have := h.full p (by cases t with | nil => exact absurd rfl ht | cons y t => simp)
    exact List.length_pos_iff.2 this

set_option maxRecDepth 100000 in
set_option maxHeartbeats 4000000 in
theorem complete_any (B q nq B2 n : Nat) (ps : List Pc) (w : World) (h : QAt B w q ps nq) (hB : ∀ k, QFoot q ps k → k < B2) (hB2 : B2 ≤ w.heap.size) (a : Option Addr) (len cap : Nat) (lb : List UInt8) (hown : Own 5 B2 w (.slice a len cap) lb) (hlen : lb.length = len)
    (h1 : len ≤ n) (h2 : n ≤ len + (cat ps).length) (hn : n ≤ 100000000000) :
    Calls Tryz.prog 123 #[.pointer (some ⟨q, 0, none⟩), .slice a len cap, .int .i64 (n : Int)] w fun e w' => ∃ v, e = .returned v ∧ Own 5 B2 w' v (lb ++ (cat ps).take (n - len)) ∧ Below B2 w w' := by
  have hq0 := h.blk.cell 0
  simp only [List.getElem?_toArray, List.getElem?_cons_zero] at hq0
  have hC0 : Comps B B2 ps w n lb w ps a len cap lb := ⟨hown, hlen, by rw [hlen], h1, h2, h.chain, h.full, fun k hk => hB k (.inr hk), Below.refl _ _, hB2⟩
  have HC0 := Lib.hid hC0
  have HL := Lib.hid hlen
  obtain ⟨P0, hP0⟩ : ∃ P0, P0 = hd ps none := ⟨_, rfl⟩
  rw [← hP0] at hq0
  have HP0 := Lib.hid hP0
  clear h hB hown hC0 hlen h2 hP0
  go_enter Tryz.func123, Tryz.ntmps123
  go_wp2_with fail
  clear hq0
  go_loopw [1, 7] (fun sb pv wr => ∃ (ys : List Pc) (a' : Option Addr) (len' cap' : Nat) (l' : List UInt8), sb = .slice a' len' cap' ∧ pv = .pointer (hd ys none) ∧ len' ≤ n ∧ Hid (Comps B B2 ps w n lb wr ys a' len' cap' l')) (fun sb _ _ => n - (match sb with | .slice _ k _ => k | _ => 0))
  case atStart => exact ⟨ps, a, len, cap, lb, rfl, by rw [HP0.out], h1, HC0⟩
  case round =>
    clear HC0
    obtain ⟨ys, a', len', cap', l', rfl, rfl, hle, HC⟩ := hrel
    obtain rfl := HC.out.len_
    rcases ys with _ | ⟨p, t⟩
    · simp only [hd]
      go_wp2_with fail
      go_ret
      have he := HC.out.eq
      have hen := HC.out.enough
      rw [cat_nil] at he hen
      simp only [List.take_nil, List.append_nil] at he
      exact ⟨.slice a' l'.length cap', rfl, by rw [← HL.out, ← he]; exact HC.out.own, HC.out.below⟩
    · simp only [hd]
      by_cases hlt : l'.length < n
      · have hpos := comps_pos HC.out hlt
        have hz0 := HC.out.chain.1.blk.cell 0
        have hz1 := HC.out.chain.1.blk.cell 1
        simp only [List.getElem?_toArray, List.getElem?_cons_zero, List.getElem?_cons_succ] at hz0 hz1
        have hbg := HC.out.chain.1.blk
        have hown := HC.out.own
        have hsrc : Bytes wr (some ⟨p.d, 0, none⟩) p.l.length p.c p.l := by
          obtain ⟨a, c, e, hb⟩ := HC.out.chain.1.own.bytes
          simp only [Value.slice.injEq] at e
          obtain ⟨rfl, -, rfl⟩ := e
          exact hb
        have hpl := HC.out.chain.1.most
        have hlc := hsrc.le_cap
        obtain ⟨M, hM, hmin⟩ : ∃ M : Nat, (M = p.l.length ∧ p.l.length ≤ n - l'.length ∨ M = n - l'.length ∧ n - l'.length < p.l.length) ∧ (if (n : Int) - (l'.length : Int) < (p.l.length : Int) then (n : Int) - (l'.length : Int) else (p.l.length : Int)) = (M : Int) := by
          by_cases hm : p.l.length ≤ n - l'.length
          · exact ⟨p.l.length, .inl ⟨rfl, hm⟩, by rw [if_neg (by omega)]⟩
          · exact ⟨n - l'.length, .inr ⟨rfl, by omega⟩, by rw [if_pos (by omega)]; omega⟩
        have hw1 : IntKind.i64.wrap ((n : Int) - (l'.length : Int)) = (n : Int) - (l'.length : Int) := IntWalk.i64_in _ (by omega)
        have hMp : M ≤ p.l.length := by omega
        have hMc : M ≤ p.c := by omega
        have hM0 : 0 < M := by omega
        have hMn : l'.length + M ≤ n := by omega
        have HM := Lib.hid hM
        clear hM
        go_wp2_with fail
        go_region_law
          ((refine step_append_lie (by rfl) _ _ _ (by rfl) B2 5 Tryz.underlying22 info5 (.slice a' l'.length cap') l' (by rfl) (hown.below (Nat.le_refl _) (Below.refl _ wr).drew) (some ⟨p.d, 0, none⟩) M p.c (p.l.take M) (by rfl) ((hsrc.take M hMp).below (Nat.le_refl _) (Below.refl _ wr).drew) (by omega) HC.out.base ?_; intro a1 c1 w3 hown1 hgrow hnext))
        all_goals
          have hc1 := comps_step HC.out HM.out hown1 hgrow
          have hbg3 := hc1.below
          have hz13 : w3.cell? ⟨p.g, 1, none⟩ = some (.pointer (hd t none)) := by
            have hb3 : Below B2 wr w3 := (Below.refl B2 wr).drew.grown hgrow HC.out.base (fun k hk => (World.ownsRow.lt hown k hk).1)
            have hlt2 := HC.out.foot p.g ⟨p, by simp, .inl rfl⟩
            rw [hb3.cell (p := ⟨p.g, 1, none⟩) hlt2]
            exact hz1
          obtain ⟨P1, hP1⟩ : ∃ P1, P1 = hd t none := ⟨_, rfl⟩
          rw [← hP1] at hz13
          have HC1 := Lib.hid hc1
          have HP1 := Lib.hid hP1
          clear hc1 hbg3 hown1 hgrow hnext hz0 hz1 hP1 hown hbg hsrc hmin hw1
          go_wp2_with fail
          go_roundw
          case rel => exact ⟨t, _, _, _, _, rfl, by rw [HP1.out]; cases t <;> rfl, hMn, HC1⟩
          case measure => simp; omega
      · have hlt2 : l'.length = n := by omega
        have he := HC.out.eq
        rw [hlt2, Nat.sub_self, List.take_zero, List.append_nil] at he
        have HE := Lib.hid he
        subst hlt2
        clear he hlt
        go_wp2_with fail
        go_ret
        exact ⟨.slice a' l'.length cap', rfl, by rw [← HL.out, ← HE.out]; exact HC.out.own, HC.out.below⟩
end Go.Proofs.YtdbcendnibgcaaaGreatDoor.FeedC
end
