import Derived.Test.YtihcebpkbkgmcaaFeedF
namespace Go.Proofs.Ytihcebpkbkgmcaa.FeedC
open Go.RowKit Go.My BitMath RefC

theorem bits_len (word count : Nat) (ps : List Pc) : (bits' word count ps).length = count + 8 * (cat ps).length := by
  unfold bits'; rw [List.length_append, lows_len, bitsOf_len]

theorem shift_step {B : Nat} {w : World} {f q : Nat} {ps : List Pc} {word count pushed : Nat} {ended : Bool} (h : FAt B w f q ps word count pushed ended) (m : Nat) (hm : m ≤ count) :
    FAt B ((w.setCell ⟨f, 0, none⟩ (.int .u64 ((word : Int) / 2 ^ m))).setCell ⟨f, 1, none⟩ (.int .i64 ((count : Int) - (m : Int)))) f q ps (word / 2 ^ m) (count - m) pushed ended ∧ bits' (word / 2 ^ m) (count - m) ps = (bits' word count ps).drop m := by
  have hO : Only (fun k => k = f) w ((w.setCell ⟨f, 0, none⟩ (.int .u64 ((word : Int) / 2 ^ m))).setCell ⟨f, 1, none⟩ (.int .i64 ((count : Int) - (m : Int)))) :=
    ((Only.refl (fun k => k = f) w).setCell (p := ⟨f, 0, none⟩) (fun _ => rfl) _).setCell (p := ⟨f, 1, none⟩) (fun _ => rfl) _
  have hb := (h.blk.set_ 0 (.int .u64 ((word : Int) / 2 ^ m))).set_ 1 (.int .i64 ((count : Int) - (m : Int)))
  have hsm := h.small
  have hmo := h.most
  refine ⟨⟨?_, h.que.only hO (fun e => h.far (Or.inl e.symm)) (fun k hk e => h.far (Or.inr (e ▸ hk))), h.base, ?_, by omega⟩, ?_⟩
  · have e1 : ((word / 2 ^ m : Nat) : Int) = (word : Int) / 2 ^ m := by push_cast; rfl
    have e2 : ((count - m : Nat) : Int) = (count : Int) - (m : Int) := by omega
    rw [e1, e2]
    exact hb
  · rw [show count = m + (count - m) from by omega, Nat.pow_add] at hsm
    exact Nat.div_lt_of_lt_mul hsm
  · unfold bits'
    rw [List.drop_append, lows_len, show m - count = 0 from by omega, List.drop_zero]
    congr 1
    have e := lows_add m (count - m) word
    rw [show m + (count - m) = count from by omega] at e
    rw [e, List.drop_append, lows_len, Nat.sub_self, List.drop_zero, List.drop_of_length_le (by rw [lows_len]; omega)]
    rfl

/-- What use leaves. -/
structure Used_ (B f q : Nat) (ps : List Pc) (bs : List Bool) (pushed : Nat) (ended : Bool) (w w' : World) (ps1 : List Pc) (word1 count1 : Nat) : Prop where
  at_ : FAt B w' f q ps1 word1 count1 pushed ended
  eq : bits' word1 count1 ps1 = bs
  full : 32 ≤ count1 ∨ cat ps1 = []
  only : Only (FFoot f q ps) w w'
  sub : ∀ j, QFoot q ps1 j → QFoot q ps j

theorem only_f {f q : Nat} {ps : List Pc} {w w2 : World} (a b : Value) (h : w2 = (w.setCell ⟨f, 0, none⟩ a).setCell ⟨f, 1, none⟩ b) : Only (FFoot f q ps) w w2 := by
  subst h
  exact ((Only.refl (FFoot f q ps) w).setCell (p := ⟨f, 0, none⟩) (fun _ => .inl rfl) _).setCell (p := ⟨f, 1, none⟩) (fun _ => .inl rfl) _

set_option maxRecDepth 100000 in
set_option maxHeartbeats 4000000 in
theorem use_few (B f q : Nat) (ps : List Pc) (word count pushed n : Nat) (ended : Bool) (w : World) (h : FAt B w f q ps word count pushed ended) (hn : n ≤ count) (hl : (cat ps).length ≤ 10000000000) :
    Calls Try.prog 22 #[.pointer (some ⟨f, 0, none⟩), .int .i64 (n : Int)] w fun e w' => e = .returned (.tuple #[]) ∧ ∃ ps1 word1 count1, Used_ B f q ps ((bits' word count ps).drop n) pushed ended w w' ps1 word1 count1 := by
  obtain ⟨hs1, hs2⟩ := shift_step h n hn
  have hc0 := h.blk.cell 0
  have hc1 := h.blk.cell 1
  have hf0 := h.blk.frozen 0
  have hf1 := h.blk.frozen 1
  simp only [List.getElem?_toArray, List.getElem?_cons_zero, List.getElem?_cons_succ] at hc0 hc1
  have hmo := h.most
  have hwl := h.word_lt
  have HS1 := Lib.hid hs1
  have HS2 := Lib.hid hs2
  have hlt : ¬ count < n := by omega
  clear hs1 hs2 h
  go_enter Try.func22, Try.ntmps22
  go_wp2_with fail
  refine (fill_any B f q ps _ _ pushed ended _ HS1.out (by omega)).mono ?_
  rintro e w2 ⟨rfl, ps1, word1, count1, hF, h32⟩
  have HF := Lib.hid hF
  have H32 := Lib.hid h32
  clear hF h32
  go_wp2_with fail
  go_end0
  exact ⟨rfl, ps1, word1, count1, HF.out.at_, by rw [HF.out.eq, HS2.out], H32.out, (only_f (w := w) _ _ rfl).trans HF.out.only (fun i _ e => e), HF.out.sub⟩

set_option maxRecDepth 100000 in
set_option maxHeartbeats 4000000 in
theorem use_many (B f q : Nat) (p : Pc) (t : List Pc) (word count pushed n : Nat) (ended : Bool) (w : World) (h : FAt B w f q (p :: t) word count pushed ended) (hn : count < n) (hn2 : n ≤ (bits' word count (p :: t)).length) (hl : (cat (p :: t)).length ≤ 10000000000) :
    Calls Try.prog 22 #[.pointer (some ⟨f, 0, none⟩), .int .i64 (n : Int)] w fun e w' => e = .returned (.tuple #[]) ∧ ∃ ps1 word1 count1, Used_ B f q (p :: t) ((bits' word count (p :: t)).drop n) pushed ended w w' ps1 word1 count1 := by
  rw [bits_len] at hn2
  have hmo := h.most
  have hc1 := h.blk.cell 1
  have hc2 := h.blk.cell 2
  have hf0 := h.blk.frozen 0
  have hf1 := h.blk.frozen 1
  have hc0 := h.blk.cell 0
  simp only [List.getElem?_toArray, List.getElem?_cons_zero, List.getElem?_cons_succ] at hc0 hc1 hc2
  have hO : Only (fun k => k = f) w ((w.setCell ⟨f, 0, none⟩ (.int .u64 0)).setCell ⟨f, 1, none⟩ (.int .i64 0)) :=
    ((Only.refl (fun k => k = f) w).setCell (p := ⟨f, 0, none⟩) (fun _ => rfl) _).setCell (p := ⟨f, 1, none⟩) (fun _ => rfl) _
  have hA : FAt B ((w.setCell ⟨f, 0, none⟩ (.int .u64 0)).setCell ⟨f, 1, none⟩ (.int .i64 0)) f q (p :: t) 0 0 pushed ended :=
    ⟨(h.blk.set_ 0 (.int .u64 0)).set_ 1 (.int .i64 0), h.que.only hO (fun e => h.far (Or.inl e.symm)) (fun k hk e => h.far (Or.inr (e ▸ hk))), h.base, by omega, by omega⟩
  have hOF : Only (FFoot f q (p :: t)) w ((w.setCell ⟨f, 0, none⟩ (.int .u64 0)).setCell ⟨f, 1, none⟩ (.int .i64 0)) := only_f _ _ rfl
  have HA := Lib.hid hA
  have HOF := Lib.hid hOF
  have hx := h.que.blk.cell 2
  obtain ⟨m, hm, hmi⟩ : ∃ m : Nat, m = (n - count) / 8 ∧ ((n : Int) - (count : Int)) / 8 = (m : Int) := ⟨(n - count) / 8, rfl, by omega⟩
  obtain ⟨r, hr, hri⟩ : ∃ r : Nat, r = (n - count) % 8 ∧ ((n : Int) - (count : Int)) % 8 = (r : Int) := ⟨(n - count) % 8, rfl, by omega⟩
  have hni : (count : Int) < (n : Int) := by omega
  have HM := Lib.hid (And.intro hm hr)
  have hml : m ≤ (cat (p :: t)).length := by omega
  have hdr := drop_any B q (cat (p :: t)).length m p t _ HA.out.que hml hml (by omega)
  have HDR := Lib.hid hdr
  have hbits : (bits' word count (p :: t)).drop n = (bitsOf ((cat (p :: t)).drop m)).drop r := by
    unfold bits'
    rw [List.drop_append, lows_len, List.drop_of_length_le (by rw [lows_len]; omega), List.nil_append, show n - count = 8 * m + r from by omega, ← bitsOf_drop, List.drop_drop]
  have HB := Lib.hid hbits
  have hra : r ≤ 8 * ((cat (p :: t)).length - m) := by omega
  have HRA := Lib.hid hra
  clear hA hOF hO hm hr hdr hbits hx h hra
  go_enter Try.func22, Try.ntmps22
  go_wp2_with fail
  refine HDR.out.mono ?_
  rintro e w2 ⟨rfl, ps2, hne2, hq2, hcat2, ho2, hsub2⟩
  have hA2 : FAt B w2 f q ps2 0 0 pushed ended := ⟨ho2.blk HA.out.blk HA.out.far, by rw [hcat2, List.length_drop]; exact hq2, HA.out.base, by omega, by omega⟩
  have HA2 := Lib.hid hA2
  have HO2 : Hid (Only (FFoot f q (p :: t)) w w2) := Lib.hid (HOF.out.trans ho2 (fun i _ e => .inr e))
  have HS2 := Lib.hid hsub2
  have HC2 := Lib.hid hcat2
  have hl2 : (cat ps2).length ≤ 10000000000 := by rw [hcat2, List.length_drop]; omega
  clear hA2 ho2 hsub2 hcat2 hq2 hne2 HDR HA
  go_wp2_with fail
  refine (fill_any B f q ps2 0 0 pushed ended w2 HA2.out (by omega)).mono ?_
  rintro e w3 ⟨rfl, ps3, word3, count3, hF3, h32⟩
  have heq3 : bits' word3 count3 ps3 = bitsOf ((cat (p :: t)).drop m) := by
    rw [hF3.eq, ← HC2.out]; unfold bits'; simp [lows]
  have hr8 : r < 8 := by have := HM.out.2; omega
  have hrc : r ≤ count3 := by
    rcases h32 with h | h
    · omega
    · have hlen := congrArg List.length heq3
      rw [bits_len, h, bitsOf_len, List.length_drop] at hlen
      have := HRA.out
      simp at hlen
      omega
  have hl3 : (cat ps3).length ≤ 10000000000 := by
    have hlen := congrArg List.length heq3
    rw [bits_len, bitsOf_len, List.length_drop] at hlen
    omega
  obtain ⟨hs1, hs2⟩ := shift_step hF3.at_ r hrc
  have hd0 := hF3.at_.blk.cell 0
  have hd1 := hF3.at_.blk.cell 1
  have hg0 := hF3.at_.blk.frozen 0
  have hg1 := hF3.at_.blk.frozen 1
  simp only [List.getElem?_toArray, List.getElem?_cons_zero, List.getElem?_cons_succ] at hd0 hd1
  have hmo3 := hF3.at_.most
  have hwl3 := hF3.at_.word_lt
  have HO3 : Hid (Only (FFoot f q (p :: t)) w w3) := Lib.hid (HO2.out.trans hF3.only (fun i _ e => by
    rcases e with e | e
    · exact .inl e
    · exact .inr (HS2.out i e)))
  have HSub3 : Hid (∀ j, QFoot q ps3 j → QFoot q (p :: t) j) := Lib.hid (fun j hj => HS2.out j (hF3.sub j hj))
  have HS1 := Lib.hid hs1
  have HE3 : Hid (bits' (word3 / 2 ^ r) (count3 - r) ps3 = (bits' word count (p :: t)).drop n) := Lib.hid (by rw [hs2, heq3, HB.out])
  clear hs1 hs2 hF3 h32 heq3
  go_wp2_with fail
  refine (fill_any B f q ps3 _ _ pushed ended _ HS1.out (by omega)).mono ?_
  rintro e w4 ⟨rfl, ps4, word4, count4, hF4, h32⟩
  have HF4 := Lib.hid hF4
  have H32 := Lib.hid h32
  clear hF4 h32
  go_wp2_with fail
  go_end0
  refine ⟨rfl, ps4, word4, count4, HF4.out.at_, by rw [HF4.out.eq, HE3.out], H32.out, ?_, fun j hj => HSub3.out j (HF4.out.sub j hj)⟩
  refine HO3.out.trans ((only_f (f := f) (q := q) (ps := ps3) (w := w3) _ _ rfl).trans HF4.out.only (fun i _ e => e)) (fun i _ e => ?_)
  rcases e with e | e
  · exact .inl e
  · exact .inr (HSub3.out i e)

theorem use_any (B f q : Nat) (ps : List Pc) (word count pushed n : Nat) (ended : Bool) (w : World) (h : FAt B w f q ps word count pushed ended) (hn : n ≤ (bits' word count ps).length) (hl : (cat ps).length ≤ 10000000000) :
    Calls Try.prog 22 #[.pointer (some ⟨f, 0, none⟩), .int .i64 (n : Int)] w fun e w' => e = .returned (.tuple #[]) ∧ ∃ ps1 word1 count1, Used_ B f q ps ((bits' word count ps).drop n) pushed ended w w' ps1 word1 count1 := by
  by_cases hc : n ≤ count
  · exact use_few B f q ps word count pushed n ended w h hc hl
  · cases ps with
    | nil => rw [bits_len, cat_nil] at hn; simp at hn; omega
    | cons p t => exact use_many B f q p t word count pushed n ended w h (by omega) hn hl
end Go.Proofs.Ytihcebpkbkgmcaa.FeedC
