import Derived.Test.YtihcebpkbkgmcaaFeedE
namespace Go.Proofs.Ytihcebpkbkgmcaa.FeedC
open Go.RowKit Go.My BitMath RefC

theorem push_ended (B f pushed : Nat) (F : Nat → Prop) (bs : List Bool) (w : World) (h : Fed B w f F bs pushed true) (v : Value) :
    Calls Try.prog 7 #[.pointer (some ⟨f, 0, none⟩), v] w fun e w' => e = .returned (.tuple #[]) ∧ w = w' := by
  obtain ⟨q, ps, word, count, h1, h2, h3, rfl⟩ := h
  have hc := h1.blk.cell 4
  simp only [List.getElem?_toArray, List.getElem?_cons_zero, List.getElem?_cons_succ] at hc
  clear h1 h2 h3
  go_enter Try.func7, Try.ntmps7
  go_wp2_with fail
  exact bodyPost_ret (results_none rfl _ _ _) rfl ⟨rfl, rfl⟩

set_option maxRecDepth 100000 in
set_option maxHeartbeats 2000000 in
theorem push_open (B f pushed : Nat) (F : Nat → Prop) (bs : List Bool) (w : World) (h : Fed B w f F bs pushed false) (a : Option Addr) (len cap : Nat) (l : List UInt8) (hb : Bytes w a len cap l) (hfar : ∀ b off, a = some ⟨b, off, none⟩ → ¬ F b)
    (hl : bs.length ≤ 1000000000) (hp : pushed ≤ 1000000000) (hlen : len ≤ 1000000000) :
    Calls Try.prog 7 #[.pointer (some ⟨f, 0, none⟩), .slice a len cap] w fun e w' => e = .returned (.tuple #[]) ∧ Done B f F w (bs ++ bitsOf l) (pushed + len) false w' := by
  obtain ⟨q, ps, word, count, h1, h2, h3, rfl⟩ := h
  have hc4 := h1.blk.cell 4
  have hc2 := h1.blk.cell 2
  have hc3 := h1.blk.cell 3
  have hf3 := h1.blk.frozen 3
  simp only [List.getElem?_toArray, List.getElem?_cons_zero, List.getElem?_cons_succ] at hc2 hc3 hc4
  have hO : Only (fun k => k = f) w (w.setCell ⟨f, 3, none⟩ (.int .i64 ((pushed : Int) + (len : Int)))) := (Only.refl (fun k => k = f) w).setCell (p := ⟨f, 3, none⟩) (fun _ => rfl) _
  have hA : FAt B (w.setCell ⟨f, 3, none⟩ (.int .i64 ((pushed : Int) + (len : Int)))) f q ps word count (pushed + len) false := by
    refine ⟨?_, h1.que.only hO (fun e => h1.far (Or.inl e.symm)) (fun k hk e => h1.far (Or.inr (e ▸ hk))), h1.base, h1.small, h1.most⟩
    rw [show ((pushed + len : Nat) : Int) = (pushed : Int) + (len : Int) from by omega]
    exact h1.blk.set_ 3 _
  have hby := hO.bytes hb (fun b off e hbf => hfar b off e (Or.inl hbf))
  have hbl : bs.length = count + 8 * (cat ps).length := by rw [h3, bits_len]
  have hpu := push_any B q (cat ps).length ps _ hA.que a len cap l hby (fun b off e hq => hfar b off e (Or.inr hq)) (by omega) (by omega)
  have HPU := Lib.hid hpu
  have HA := Lib.hid hA
  have HO : Hid (Only (FFoot f q ps) w (w.setCell ⟨f, 3, none⟩ (.int .i64 ((pushed : Int) + (len : Int))))) := Lib.hid (hO.mono (fun k _ e => .inl e))
  have H3 := Lib.hid h3
  have HL := Lib.hid hb.len_eq
  clear h1 h2 h3 hO hA hby hpu hb hfar
  go_enter Try.func7, Try.ntmps7
  go_wp2_with fail
  refine HPU.out.mono ?_
  rintro e w2 ⟨rfl, ps2, hq2, hc2', ho2, hn2⟩
  have hA2 : FAt B w2 f q ps2 word count (pushed + len) false := ⟨ho2.blk HA.out.blk HA.out.far, by rw [hc2', List.length_append, HL.out]; exact hq2, HA.out.base, HA.out.small, HA.out.most⟩
  have HA2 := Lib.hid hA2
  have HO2 := Lib.hid ho2
  have HN2 := Lib.hid hn2
  have HC2 := Lib.hid hc2'
  have hl2 : (cat ps2).length ≤ 100000000000 := by rw [hc2', List.length_append, HL.out]; omega
  clear hA2 ho2 hn2 hc2' hq2 HPU
  go_wp2_with fail
  refine (fill_any B f q ps2 word count (pushed + len) false w2 HA2.out hl2).mono ?_
  rintro e w3 ⟨rfl, ps3, word3, count3, hF, h32⟩
  have HF := Lib.hid hF
  have H32 := Lib.hid h32
  clear hF h32
  go_wp2_with fail
  go_end0
  have hO2 : Only (FFoot f q ps) w w2 := HO.out.trans HO2.out (fun i _ e => .inr e)
  have hs1 := HO.out.size
  have hs2 := hO2.size
  have hsub : ∀ k, FFoot f q ps2 k → FFoot f q ps k ∨ w.heap.size ≤ k := by
    rintro k (e | e)
    · exact .inl (.inl e)
    · rcases HN2.out k e with e | e
      · exact .inl (.inr e)
      · exact .inr (by omega)
  refine ⟨rfl, FFoot f q ps3, ⟨q, ps3, word3, count3, HF.out.at_, H32.out, ?_, rfl⟩, hO2.trans HF.out.only (fun i hi e => ?_), fun k hk => ?_⟩
  · rw [HF.out.eq, H3.out]
    unfold bits'
    rw [HC2.out, bitsOf_append, List.append_assoc]
  · rcases hsub i e with e | e
    · exact e
    · omega
  · refine hsub k ?_
    rcases hk with e | e
    · exact .inl e
    · exact .inr (HF.out.sub k e)

/-! ### Take -/
/-- What Take tells: the bytes, an error, the bits that are left. -/
def takeBits (bs : List Bool) (n : Int) : List Bool := if n < 0 then bs else if ((bs.length / 8 : Nat) : Int) < n then bs.drop (bs.length % 8) else (bs.drop (bs.length % 8)).drop (8 * n.toNat)
def takeCode (bs : List Bool) (n : Int) : Int := if n < 0 then 1 else if ((bs.length / 8 : Nat) : Int) < n then 5 else 0
def takeBytes (bs : List Bool) (n : Int) : List Bool := if n < 0 then [] else if ((bs.length / 8 : Nat) : Int) < n then [] else (bs.drop (bs.length % 8)).take (8 * n.toNat)

def Taken (B f : Nat) (F : Nat → Prop) (bs : List Bool) (pushed : Nat) (ended : Bool) (n : Int) (w : World) (e : Ending) (w' : World) : Prop :=
  ∃ a c l, e = .returned (.tuple #[.slice a l.length c, .int .i64 (takeCode bs n)]) ∧ Bytes w' a l.length c l ∧ bitsOf l = takeBytes bs n ∧ Done B f F w (takeBits bs n) pushed ended w'

theorem next_fed (n : Nat) (B f pushed : Nat) (F : Nat → Prop) (bs : List Bool) (ended : Bool) (w : World) (h : Fed B w f F bs pushed ended) (h8 : bs.length % 8 = 0) (hn : 8 * n ≤ bs.length) (hl : bs.length ≤ 10000000000) :
    Calls Try.prog 23 #[.pointer (some ⟨f, 0, none⟩), .int .i64 (n : Int)] w fun e w' => ∃ v l, e = .returned v ∧ Own 5 w.heap.size w' v l ∧ Below w.heap.size w w' ∧ bitsOf l = bs.take (8 * n) := by
  obtain ⟨q, ps, word, count, h1, h2, rfl, rfl⟩ := h
  rw [bits_len] at h8 hn hl
  exact next_any B f q ps word count pushed n ended w h1 (by omega) hn (by omega)

set_option maxHeartbeats 2000000 in
theorem take_any (n : Int) (B f pushed : Nat) (F : Nat → Prop) (bs : List Bool) (ended : Bool) (w : World) (h : Fed B w f F bs pushed ended) (hl : bs.length ≤ 1000000000) :
    Calls Try.prog 13 #[.pointer (some ⟨f, 0, none⟩), .int .i64 n] w (Taken B f F bs pushed ended n w) := by
  have H := Lib.hid h
  clear h
  by_cases h0 : n < 0
  · have HC : Hid (takeCode bs n = 1 ∧ takeBits bs n = bs ∧ takeBytes bs n = []) := Lib.hid ⟨if_pos h0, if_pos h0, if_pos h0⟩
    go_enter Try.func13, Try.ntmps13
    go_wp2_with fail
    go_ret2
    exact ⟨none, 0, [], by rw [HC.out.1]; rfl, nil_bytes _, by rw [HC.out.2.2]; rfl, by rw [HC.out.2.1]; exact Done.refl H.out⟩
  · obtain ⟨m, rfl⟩ : ∃ m : Nat, n = (m : Int) := ⟨n.toNat, by omega⟩
    obtain ⟨bs1, hbs1⟩ : ∃ x, x = bs.drop (bs.length % 8) := ⟨_, rfl⟩
    have hl1 : bs1.length = 8 * (bs.length / 8) := by rw [hbs1, List.length_drop]; omega
    have HB := Lib.hid hbs1
    have HL1 := Lib.hid hl1
    have hl2 : bs1.length ≤ 1000000000 := by omega
    have hdv : bs1.length / 8 = bs.length / 8 := by omega
    have HDV := Lib.hid hdv
    clear hbs1
    by_cases hm : bs1.length / 8 < m
    · have HC : Hid (takeCode bs m = 5 ∧ takeBits bs m = bs1 ∧ takeBytes bs m = []) := Lib.hid ⟨by unfold takeCode; rw [if_neg h0, if_pos (by omega)], by unfold takeBits; rw [if_neg h0, if_pos (by omega), HB.out], by unfold takeBytes; rw [if_neg h0, if_pos (by omega)]⟩
      clear hl1 hdv
      go_enter Try.func13, Try.ntmps13
      go_wp2_with fail
      refine (align_any B f pushed F bs ended w H.out (by omega)).mono ?_
      rw [← HB.out]
      rintro e w1 ⟨rfl, F1, hf1, ho1, hs1⟩
      have HF1 := Lib.hid hf1
      have HO1 := Lib.hid ho1
      have HS1 := Lib.hid hs1
      clear hf1 ho1 hs1
      go_wp2_with fail
      refine (bits_any B f pushed F1 bs1 ended w1 HF1.out (by omega)).mono ?_
      rintro e w' ⟨rfl, k, rfl⟩
      go_wp2_with fail
      go_ret2
      exact ⟨none, 0, [], by rw [HC.out.1]; rfl, nil_bytes _, by rw [HC.out.2.2]; rfl, by rw [HC.out.2.1]; exact Done.trans HO1.out HS1.out (Done.drewN HF1.out k)⟩
    · have HC : Hid (takeCode bs m = 0 ∧ takeBits bs m = bs1.drop (8 * m) ∧ takeBytes bs m = bs1.take (8 * m)) := Lib.hid ⟨by unfold takeCode; rw [if_neg h0, if_neg (by omega)], by unfold takeBits; rw [if_neg h0, if_neg (by omega), HB.out]; rfl, by unfold takeBytes; rw [if_neg h0, if_neg (by omega), HB.out]; rfl⟩
      have hm8 : 8 * m ≤ bs1.length := by omega
      have h8 : bs1.length % 8 = 0 := by omega
      have H8 := Lib.hid h8
      clear hl1 hdv h8
      by_cases hz : m = 0
      · subst hz
        go_enter Try.func13, Try.ntmps13
        go_wp2_with fail
        refine (align_any B f pushed F bs ended w H.out (by omega)).mono ?_
        rw [← HB.out]
        rintro e w1 ⟨rfl, F1, hf1, ho1, hs1⟩
        have HF1 := Lib.hid hf1
        have HO1 := Lib.hid ho1
        have HS1 := Lib.hid hs1
        clear hf1 ho1 hs1
        go_wp2_with fail
        refine (bits_any B f pushed F1 bs1 ended w1 HF1.out (by omega)).mono ?_
        rintro e w' ⟨rfl, k, rfl⟩
        go_wp2_with fail
        go_ret2
        exact ⟨none, 0, [], by rw [HC.out.1]; rfl, nil_bytes _, by rw [HC.out.2.2]; rfl, by rw [HC.out.2.1]; exact Done.trans HO1.out HS1.out (Done.drewN HF1.out k)⟩
      · have hmz : ((m : Int) == 0) = false := by simp; omega
        have hw8 : IntKind.i64.wrap (8 * (m : Int)) = ((8 * m : Nat) : Int) := by rw [IntWalk.i64_in _ (by omega)]; omega
        go_enter Try.func13, Try.ntmps13
        go_wp2_with fail
        refine (align_any B f pushed F bs ended w H.out (by omega)).mono ?_
        rw [← HB.out]
        rintro e w1 ⟨rfl, F1, hf1, ho1, hs1⟩
        have HF1 := Lib.hid hf1
        have HO1 := Lib.hid ho1
        have HS1 := Lib.hid hs1
        clear hf1 ho1 hs1
        go_wp2_with fail
        refine (bits_any B f pushed F1 bs1 ended w1 HF1.out (by omega)).mono ?_
        rintro e w' ⟨rfl, k, rfl⟩
        go_wp2_with fail
        refine (next_fed m B f pushed F1 bs1 ended _ (HF1.out.drewN k) H8.out hm8 (by omega)).mono ?_
        rintro e w2 ⟨v, l, rfl, hv, hb2, hbl⟩
        have HV := Lib.hid hv
        have HB2 := Lib.hid hb2
        have HBL := Lib.hid hbl
        have HF2 := Lib.hid ((HF1.out.drewN k).below hb2)
        obtain ⟨a, c, rfl, hby⟩ := hv.bytes
        clear hv hb2 hbl hby
        go_wp2_with fail
        refine (use_fed (8 * m) B f pushed F1 bs1 ended w2 HF2.out hm8 (by omega)).mono ?_
        rintro e w3 ⟨rfl, hd⟩
        have HD := Lib.hid hd
        clear hd
        go_wp2_with fail
        go_ret2
        have hO2 : Only F w w2 := (HO1.out.drewN k).then_below HB2.out
        have hsz := HB2.out.size
        refine ⟨a, c, l, by rw [HC.out.1]; rfl, ?_, by rw [HC.out.2.2]; exact HBL.out, ?_⟩
        · obtain ⟨F3, h1, h2, h3⟩ := HD.out
          have ho := h2.own HV.out (fun j hj hF => by
            have hlt := (HF1.out.lt j hF).2
            have hge := (World.ownsRow.lt HV.out j hj).1
            simp [World.drewN] at hge
            omega)
          obtain ⟨a', c', heq, hby⟩ := ho.bytes
          simp only [Value.slice.injEq, true_and] at heq
          obtain ⟨rfl, rfl⟩ := heq
          exact hby
        · rw [HC.out.2.1]
          exact Done.trans hO2 HS1.out HD.out
end Go.Proofs.Ytihcebpkbkgmcaa.FeedC
