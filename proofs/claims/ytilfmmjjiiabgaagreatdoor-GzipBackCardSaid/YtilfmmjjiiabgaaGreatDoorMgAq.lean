import Derived.Test.YtilfmmjjiiabgaaGreatDoorMgAp
import Derived.Test.YtilfmmjjiiabgaaGreatDoorMgAo
import Derived.Deep.RegionLaw
import Derived.Laws.MakeOwn

section
namespace Go.Proofs.YtilfmmjjiiabgaaGreatDoor.FeedC
open Go.RowKit Go.My BitMath RefC

theorem bits_len (word count : Nat) (ps : List Pc) : (bits' word count ps).length = count + 8 * (cat ps).length := by
  unfold bits'; rw [List.length_append, lows_len, bitsOf_len]

theorem shift_step {B : Nat} {w : World} {f q : Nat} {ps : List Pc} {word count pushed : Nat} {ended : Bool} (h : FAt B w f q ps word count pushed ended) (m : Nat) (hm : m ≤ count) :
    FAt B ((w.setCell ⟨f, 0, none⟩ (.int .u64 ((word : Int) / 2 ^ m))).setCell ⟨f, 1, none⟩ (.int .i64 ((count : Int) - (m : Int)))) f q ps (word / 2 ^ m) (count - m) pushed ended ∧ bits' (word / 2 ^ m) (count - m) ps = (bits' word count ps).drop m := by
  have hO : Only (fun k => k = f) w ((w.setCell ⟨f, 0, none⟩ (.int .u64 ((word : Int) / 2 ^ m))).setCell ⟨f, 1, none⟩ (.int .i64 ((count : Int) - (m : Int)))) :=
    ((Only.refl (fun k => k = f) w).setCell (p := ⟨f, 0, none⟩) (fun _ => rfl) _).setCell (p := ⟨f, 1, none⟩) (fun _ => rfl) _
  have hb := (h.blk.set_ 0 (.int .u64 ((word : Int) / 2 ^ m))).set_ 1 (.int .i64 ((count : Int) - (m : Int)))
  have hsm := h.small
  have hmo := h.most
  refine ⟨⟨?_, h.que.only hO (fun e => h.far (Or.inl e.symm)) (fun k hk e => h.far (Or.inr (e ▸ hk))), h.base, ?_, by omega⟩, ?_⟩
  · have e1 : ((word / 2 ^ m : Nat) : Int) = (word : Int) / 2 ^ m := by push_cast; rfl
    have e2 : ((count - m : Nat) : Int) = (count : Int) - (m : Int) := by omega
    rw [e1, e2]
    exact hb
  · rw [show count = m + (count - m) from by omega, Nat.pow_add] at hsm
    exact Nat.div_lt_of_lt_mul hsm
  · unfold bits'
    rw [List.drop_append, lows_len, show m - count = 0 from by omega, List.drop_zero]
    congr 1
    have e := lows_add m (count - m) word
    rw [show m + (count - m) = count from by omega] at e
    rw [e, List.drop_append, lows_len, Nat.sub_self, List.drop_zero, List.drop_of_length_le (by rw [lows_len]; omega)]
    rfl

/-- What use leaves. -/
structure Used_ (B f q : Nat) (ps : List Pc) (bs : List Bool) (pushed : Nat) (ended : Bool) (w w' : World) (ps1 : List Pc) (word1 count1 : Nat) : Prop where
  at_ : FAt B w' f q ps1 word1 count1 pushed ended
  eq : bits' word1 count1 ps1 = bs
  full : 32 ≤ count1 ∨ cat ps1 = []
  only : Only (FFoot f q ps) w w'
  sub : ∀ j, QFoot q ps1 j → QFoot q ps j

theorem only_f {f q : Nat} {ps : List Pc} {w w2 : World} (a b : Value) (h : w2 = (w.setCell ⟨f, 0, none⟩ a).setCell ⟨f, 1, none⟩ b) : Only (FFoot f q ps) w w2 := by
  subst h
  exact ((Only.refl (FFoot f q ps) w).setCell (p := ⟨f, 0, none⟩) (fun _ => .inl rfl) _).setCell (p := ⟨f, 1, none⟩) (fun _ => .inl rfl) _

set_option maxRecDepth 100000 in
set_option maxHeartbeats 4000000 in
theorem use_few (B f q : Nat) (ps : List Pc) (word count pushed n : Nat) (ended : Bool) (w : World) (h : FAt B w f q ps word count pushed ended) (hn : n ≤ count) (hl : (cat ps).length ≤ 10000000000) :
    Calls Tryz.prog 115 #[.pointer (some ⟨f, 0, none⟩), .int .i64 (n : Int)] w fun e w' => e = .returned (.tuple #[]) ∧ ∃ ps1 word1 count1, Used_ B f q ps ((bits' word count ps).drop n) pushed ended w w' ps1 word1 count1 := by
  obtain ⟨hs1, hs2⟩ := shift_step h n hn
  have hc0 := h.blk.cell 0
  have hc1 := h.blk.cell 1
  have hf0 := h.blk.frozen 0
  have hf1 := h.blk.frozen 1
  simp only [List.getElem?_toArray, List.getElem?_cons_zero, List.getElem?_cons_succ] at hc0 hc1
  have hmo := h.most
  have hwl := h.word_lt
  have HS1 := Lib.hid hs1
  have HS2 := Lib.hid hs2
  have hlt : ¬ count < n := by omega
  clear hs1 hs2 h
  go_enter Tryz.func115, Tryz.ntmps115
  go_wp2_with fail
  refine (fill_any B f q ps _ _ pushed ended _ HS1.out (by omega)).mono ?_
  rintro e w2 ⟨rfl, ps1, word1, count1, hF, h32⟩
  have HF := Lib.hid hF
  have H32 := Lib.hid h32
  clear hF h32
  go_wp2_with fail
  go_end0
  exact ⟨rfl, ps1, word1, count1, HF.out.at_, by rw [HF.out.eq, HS2.out], H32.out, (only_f (w := w) _ _ rfl).trans HF.out.only (fun i _ e => e), HF.out.sub⟩

set_option maxRecDepth 100000 in
set_option maxHeartbeats 4000000 in
theorem use_many (B f q : Nat) (p : Pc) (t : List Pc) (word count pushed n : Nat) (ended : Bool) (w : World) (h : FAt B w f q (p :: t) word count pushed ended) (hn : count < n) (hn2 : n ≤ (bits' word count (p :: t)).length) (hl : (cat (p :: t)).length ≤ 10000000000) :
    Calls Tryz.prog 115 #[.pointer (some ⟨f, 0, none⟩), .int .i64 (n : Int)] w fun e w' => e = .returned (.tuple #[]) ∧ ∃ ps1 word1 count1, Used_ B f q (p :: t) ((bits' word count (p :: t)).drop n) pushed ended w w' ps1 word1 count1 := by
  rw [bits_len] at hn2
  have hmo := h.most
  have hc1 := h.blk.cell 1
  have hc2 := h.blk.cell 2
  have hf0 := h.blk.frozen 0
  have hf1 := h.blk.frozen 1
  have hc0 := h.blk.cell 0
  simp only [List.getElem?_toArray, List.getElem?_cons_zero, List.getElem?_cons_succ] at hc0 hc1 hc2
  have hO : Only (fun k => k = f) w ((w.setCell ⟨f, 0, none⟩ (.int .u64 0)).setCell ⟨f, 1, none⟩ (.int .i64 0)) :=
    ((Only.refl (fun k => k = f) w).setCell (p := ⟨f, 0, none⟩) (fun _ => rfl) _).setCell (p := ⟨f, 1, none⟩) (fun _ => rfl) _
  have hA : FAt B ((w.setCell ⟨f, 0, none⟩ (.int .u64 0)).setCell ⟨f, 1, none⟩ (.int .i64 0)) f q (p :: t) 0 0 pushed ended :=
    ⟨(h.blk.set_ 0 (.int .u64 0)).set_ 1 (.int .i64 0), h.que.only hO (fun e => h.far (Or.inl e.symm)) (fun k hk e => h.far (Or.inr (e ▸ hk))), h.base, by omega, by omega⟩
  have hOF : Only (FFoot f q (p :: t)) w ((w.setCell ⟨f, 0, none⟩ (.int .u64 0)).setCell ⟨f, 1, none⟩ (.int .i64 0)) := only_f _ _ rfl
  have HA := Lib.hid hA
  have HOF := Lib.hid hOF
  have hx := h.que.blk.cell 2
  obtain ⟨m, hm, hmi⟩ : ∃ m : Nat, m = (n - count) / 8 ∧ ((n : Int) - (count : Int)) / 8 = (m : Int) := ⟨(n - count) / 8, rfl, by omega⟩
  obtain ⟨r, hr, hri⟩ : ∃ r : Nat, r = (n - count) % 8 ∧ ((n : Int) - (count : Int)) % 8 = (r : Int) := ⟨(n - count) % 8, rfl, by omega⟩
  have hni : (count : Int) < (n : Int) := by omega
  have HM := Lib.hid (And.intro hm hr)
  have hml : m ≤ (cat (p :: t)).length := by omega
  have hdr := drop_any B q (cat (p :: t)).length m p t _ HA.out.que hml hml (by omega)
  have HDR := Lib.hid hdr
  have hbits : (bits' word count (p :: t)).drop n = (bitsOf ((cat (p :: t)).drop m)).drop r := by
    unfold bits'
    rw [List.drop_append, lows_len, List.drop_of_length_le (by rw [lows_len]; omega), List.nil_append, show n - count = 8 * m + r from by omega, ← bitsOf_drop, List.drop_drop]
  have HB := Lib.hid hbits
  have hra : r ≤ 8 * ((cat (p :: t)).length - m) := by omega
  have HRA := Lib.hid hra
  clear hA hOF hO hm hr hdr hbits hx h hra
  go_enter Tryz.func115, Tryz.ntmps115
  go_wp2_with fail
  refine HDR.out.mono ?_
  rintro e w2 ⟨rfl, ps2, hne2, hq2, hcat2, ho2, hsub2⟩
  have hA2 : FAt B w2 f q ps2 0 0 pushed ended := ⟨ho2.blk HA.out.blk HA.out.far, by rw [hcat2, List.length_drop]; exact hq2, HA.out.base, by omega, by omega⟩
  have HA2 := Lib.hid hA2
  have HO2 : Hid (Only (FFoot f q (p :: t)) w w2) := Lib.hid (HOF.out.trans ho2 (fun i _ e => .inr e))
  have HS2 := Lib.hid hsub2
  have HC2 := Lib.hid hcat2
  have hl2 : (cat ps2).length ≤ 10000000000 := by rw [hcat2, List.length_drop]; omega
  clear hA2 ho2 hsub2 hcat2 hq2 hne2 HDR HA
  go_wp2_with fail
  refine (fill_any B f q ps2 0 0 pushed ended w2 HA2.out (by omega)).mono ?_
  rintro e w3 ⟨rfl, ps3, word3, count3, hF3, h32⟩
  have heq3 : bits' word3 count3 ps3 = bitsOf ((cat (p :: t)).drop m) := by
    rw [hF3.eq, ← HC2.out]; unfold bits'; simp [lows]
  have hr8 : r < 8 := by have := HM.out.2; omega
  have hrc : r ≤ count3 := by
    rcases h32 with h | h
    · omega
    · have hlen := congrArg List.length heq3
      rw [bits_len, h, bitsOf_len, List.length_drop] at hlen
      have := HRA.out
      simp at hlen
      omega
  have hl3 : (cat ps3).length ≤ 10000000000 := by
    have hlen := congrArg List.length heq3
    rw [bits_len, bitsOf_len, List.length_drop] at hlen
    omega
  obtain ⟨hs1, hs2⟩ := shift_step hF3.at_ r hrc
  have hd0 := hF3.at_.blk.cell 0
  have hd1 := hF3.at_.blk.cell 1
  have hg0 := hF3.at_.blk.frozen 0
  have hg1 := hF3.at_.blk.frozen 1
  simp only [List.getElem?_toArray, List.getElem?_cons_zero, List.getElem?_cons_succ] at hd0 hd1
  have hmo3 := hF3.at_.most
  have hwl3 := hF3.at_.word_lt
  have HO3 : Hid (Only (FFoot f q (p :: t)) w w3) := Lib.hid (HO2.out.trans hF3.only (fun i _ e => by
    rcases e with e | e
    · exact .inl e
    · exact .inr (HS2.out i e)))
  have HSub3 : Hid (∀ j, QFoot q ps3 j → QFoot q (p :: t) j) := Lib.hid (fun j hj => HS2.out j (hF3.sub j hj))
  have HS1 := Lib.hid hs1
  have HE3 : Hid (bits' (word3 / 2 ^ r) (count3 - r) ps3 = (bits' word count (p :: t)).drop n) := Lib.hid (by rw [hs2, heq3, HB.out])
  clear hs1 hs2 hF3 h32 heq3
  go_wp2_with fail
  refine (fill_any B f q ps3 _ _ pushed ended _ HS1.out (by omega)).mono ?_
  rintro e w4 ⟨rfl, ps4, word4, count4, hF4, h32⟩
  have HF4 := Lib.hid hF4
  have H32 := Lib.hid h32
  clear hF4 h32
  go_wp2_with fail
  go_end0
  refine ⟨rfl, ps4, word4, count4, HF4.out.at_, by rw [HF4.out.eq, HE3.out], H32.out, ?_, fun j hj => HSub3.out j (HF4.out.sub j hj)⟩
  refine HO3.out.trans ((only_f (f := f) (q := q) (ps := ps3) (w := w3) _ _ rfl).trans HF4.out.only (fun i _ e => e)) (fun i _ e => ?_)
  rcases e with e | e
  · exact .inl e
  · exact .inr (HSub3.out i e)

theorem use_any (B f q : Nat) (ps : List Pc) (word count pushed n : Nat) (ended : Bool) (w : World) (h : FAt B w f q ps word count pushed ended) (hn : n ≤ (bits' word count ps).length) (hl : (cat ps).length ≤ 10000000000) :
    Calls Tryz.prog 115 #[.pointer (some ⟨f, 0, none⟩), .int .i64 (n : Int)] w fun e w' => e = .returned (.tuple #[]) ∧ ∃ ps1 word1 count1, Used_ B f q ps ((bits' word count ps).drop n) pushed ended w w' ps1 word1 count1 := by
  by_cases hc : n ≤ count
  · exact use_few B f q ps word count pushed n ended w h hc hl
  · cases ps with
    | nil => rw [bits_len, cat_nil] at hn; simp at hn; omega
    | cons p t => exact use_many B f q p t word count pushed n ended w h (by omega) hn hl
end Go.Proofs.YtilfmmjjiiabgaaGreatDoor.FeedC
end

section
namespace Go.Proofs.YtilfmmjjiiabgaaGreatDoor.FeedC
open Go.RowKit Go.My BitMath RefC

/-- What the loop of complete keeps. -/
structure Comps (B B2 : Nat) (ps : List Pc) (w : World) (n : Nat) (lb : List UInt8) (wr : World) (ys : List Pc) (a : Option Addr) (len cap : Nat) (l : List UInt8) : Prop where
  own : Own 5 B2 wr (.slice a len cap) l
  len_ : l.length = len
  eq : l ++ (cat ys).take (n - len) = lb ++ (cat ps).take (n - lb.length)
  le : len ≤ n
  enough : n ≤ len + (cat ys).length
  chain : Chain B wr ys none
  full : Full ys
  foot : ∀ k, Foot ys k → k < B2
  below : Below B2 w wr
  base : B2 ≤ wr.heap.size

theorem comps_step {B B2 : Nat} {ps : List Pc} {w : World} {n : Nat} {lb : List UInt8} {wr w3 : World} {p : Pc} {t : List Pc} {a a1 : Option Addr} {len cap c1 M : Nat} {l : List UInt8} (h : Comps B B2 ps w n lb wr (p :: t) a len cap l)
    (hM : M = p.l.length ∧ p.l.length ≤ n - len ∨ M = n - len ∧ n - len < p.l.length)
    (hown : Own 5 B2 w3 (.slice a1 (len + M) c1) (l ++ p.l.take M)) (hgrow : wr.drew.grownBy w3 (Value.ownBlock (.slice a len cap))) :
    Comps B B2 ps w n lb w3 t a1 (len + M) c1 (l ++ p.l.take M) := by
  have hlen := h.len_
  have he := h.eq
  have hen := h.enough
  have hl1 := h.le
  rw [cat_cons] at he hen
  rw [List.take_append] at he
  rw [List.length_append] at hen
  have hb : Below B2 w w3 := h.below.trans (Below.grown (Below.refl B2 wr).drew hgrow h.base (fun k hk => (World.ownsRow.lt h.own k hk).1))
  have hb3 : Below B2 wr w3 := (Below.refl B2 wr).drew.grown hgrow h.base (fun k hk => (World.ownsRow.lt h.own k hk).1)
  refine ⟨hown, by simp; omega, ?_, by omega, ?_, ?_, ?_, ?_, hb, Nat.le_trans h.base hb3.size⟩
  · rw [← he, List.append_assoc, show n - (len + M) = n - len - M from by omega]
    rcases hM with ⟨rfl, hM⟩ | ⟨rfl, hM⟩
    · rw [List.take_of_length_le (Nat.le_refl _), List.take_of_length_le hM]
    · rw [show n - len - (n - len) = 0 from by omega, show n - len - p.l.length = 0 from by omega]
  · rcases hM with ⟨rfl, hM⟩ | ⟨rfl, hM⟩ <;> omega
  · refine Chain.only (S := fun k => B2 ≤ k) ⟨hb3.os, hb3.tape, hb3.output, hb3.size, fun k hk hs => hb3.block k (by omega)⟩ h.chain.2 (fun k hk => ?_)
    have := h.foot k (let ⟨r, hr, hj⟩ := hk; ⟨r, by simp [hr], hj⟩)
    omega
  · intro r hr
    refine h.full r ?_
    cases t with
    | nil => simp at hr
    | cons y t => rw [List.dropLast_cons_cons]; exact List.mem_cons_of_mem _ hr
  · exact fun k ⟨r, hr, hj⟩ => h.foot k ⟨r, by simp [hr], hj⟩

theorem comps_pos {B B2 : Nat} {ps : List Pc} {w : World} {n : Nat} {lb : List UInt8} {wr : World} {p : Pc} {t : List Pc} {a : Option Addr} {len cap : Nat} {l : List UInt8} (h : Comps B B2 ps w n lb wr (p :: t) a len cap l) (hl : len < n) : 0 < p.l.length := by
  by_cases ht : t = []
  · subst ht
    have := h.enough
    rw [cat_one] at this
    omega
  · have := h.full p (by cases t with | nil => exact absurd rfl ht | cons y t => simp)
    exact List.length_pos_iff.2 this

set_option maxRecDepth 100000 in
set_option maxHeartbeats 4000000 in
theorem complete_any (B q nq B2 n : Nat) (ps : List Pc) (w : World) (h : QAt B w q ps nq) (hB : ∀ k, QFoot q ps k → k < B2) (hB2 : B2 ≤ w.heap.size) (a : Option Addr) (len cap : Nat) (lb : List UInt8) (hown : Own 5 B2 w (.slice a len cap) lb) (hlen : lb.length = len)
    (h1 : len ≤ n) (h2 : n ≤ len + (cat ps).length) (hn : n ≤ 100000000000) :
    Calls Tryz.prog 128 #[.pointer (some ⟨q, 0, none⟩), .slice a len cap, .int .i64 (n : Int)] w fun e w' => ∃ v, e = .returned v ∧ Own 5 B2 w' v (lb ++ (cat ps).take (n - len)) ∧ Below B2 w w' := by
  have hq0 := h.blk.cell 0
  simp only [List.getElem?_toArray, List.getElem?_cons_zero] at hq0
  have hC0 : Comps B B2 ps w n lb w ps a len cap lb := ⟨hown, hlen, by rw [hlen], h1, h2, h.chain, h.full, fun k hk => hB k (.inr hk), Below.refl _ _, hB2⟩
  have HC0 := Lib.hid hC0
  have HL := Lib.hid hlen
  obtain ⟨P0, hP0⟩ : ∃ P0, P0 = hd ps none := ⟨_, rfl⟩
  rw [← hP0] at hq0
  have HP0 := Lib.hid hP0
  clear h hB hown hC0 hlen h2 hP0
  go_enter Tryz.func128, Tryz.ntmps128
  go_wp2_with fail
  clear hq0
  go_loopw [1, 7] (fun sb pv wr => ∃ (ys : List Pc) (a' : Option Addr) (len' cap' : Nat) (l' : List UInt8), sb = .slice a' len' cap' ∧ pv = .pointer (hd ys none) ∧ len' ≤ n ∧ Hid (Comps B B2 ps w n lb wr ys a' len' cap' l')) (fun sb _ _ => n - (match sb with | .slice _ k _ => k | _ => 0))
  case atStart => exact ⟨ps, a, len, cap, lb, rfl, by rw [HP0.out], h1, HC0⟩
  case round =>
    clear HC0
    obtain ⟨ys, a', len', cap', l', rfl, rfl, hle, HC⟩ := hrel
    obtain rfl := HC.out.len_
    rcases ys with _ | ⟨p, t⟩
    · simp only [hd]
      go_wp2_with fail
      go_ret
      have he := HC.out.eq
      have hen := HC.out.enough
      rw [cat_nil] at he hen
      simp only [List.take_nil, List.append_nil] at he
      exact ⟨.slice a' l'.length cap', rfl, by rw [← HL.out, ← he]; exact HC.out.own, HC.out.below⟩
    · simp only [hd]
      by_cases hlt : l'.length < n
      · have hpos := comps_pos HC.out hlt
        have hz0 := HC.out.chain.1.blk.cell 0
        have hz1 := HC.out.chain.1.blk.cell 1
        simp only [List.getElem?_toArray, List.getElem?_cons_zero, List.getElem?_cons_succ] at hz0 hz1
        have hbg := HC.out.chain.1.blk
        have hown := HC.out.own
        have hsrc : Bytes wr (some ⟨p.d, 0, none⟩) p.l.length p.c p.l := by
          obtain ⟨a, c, e, hb⟩ := HC.out.chain.1.own.bytes
          simp only [Value.slice.injEq] at e
          obtain ⟨rfl, -, rfl⟩ := e
          exact hb
        have hpl := HC.out.chain.1.most
        have hlc := hsrc.le_cap
        obtain ⟨M, hM, hmin⟩ : ∃ M : Nat, (M = p.l.length ∧ p.l.length ≤ n - l'.length ∨ M = n - l'.length ∧ n - l'.length < p.l.length) ∧ (if (n : Int) - (l'.length : Int) < (p.l.length : Int) then (n : Int) - (l'.length : Int) else (p.l.length : Int)) = (M : Int) := by
          by_cases hm : p.l.length ≤ n - l'.length
          · exact ⟨p.l.length, .inl ⟨rfl, hm⟩, by rw [if_neg (by omega)]⟩
          · exact ⟨n - l'.length, .inr ⟨rfl, by omega⟩, by rw [if_pos (by omega)]; omega⟩
        have hw1 : IntKind.i64.wrap ((n : Int) - (l'.length : Int)) = (n : Int) - (l'.length : Int) := IntWalk.i64_in _ (by omega)
        have hMp : M ≤ p.l.length := by omega
        have hMc : M ≤ p.c := by omega
        have hM0 : 0 < M := by omega
        have hMn : l'.length + M ≤ n := by omega
        have HM := Lib.hid hM
        clear hM
        go_wp2_with fail
        go_region_law
          ((refine step_append_lie (by rfl) _ _ _ (by rfl) B2 5 Tryz.underlying25 info5 (.slice a' l'.length cap') l' (by rfl) (hown.below (Nat.le_refl _) (Below.refl _ wr).drew) (some ⟨p.d, 0, none⟩) M p.c (p.l.take M) (by rfl) ((hsrc.take M hMp).below (Nat.le_refl _) (Below.refl _ wr).drew) (by omega) HC.out.base ?_; intro a1 c1 w3 hown1 hgrow hnext))
        all_goals
          have hc1 := comps_step HC.out HM.out hown1 hgrow
          have hbg3 := hc1.below
          have hz13 : w3.cell? ⟨p.g, 1, none⟩ = some (.pointer (hd t none)) := by
            have hb3 : Below B2 wr w3 := (Below.refl B2 wr).drew.grown hgrow HC.out.base (fun k hk => (World.ownsRow.lt hown k hk).1)
            have hlt2 := HC.out.foot p.g ⟨p, by simp, .inl rfl⟩
            rw [hb3.cell (p := ⟨p.g, 1, none⟩) hlt2]
            exact hz1
          obtain ⟨P1, hP1⟩ : ∃ P1, P1 = hd t none := ⟨_, rfl⟩
          rw [← hP1] at hz13
          have HC1 := Lib.hid hc1
          have HP1 := Lib.hid hP1
          clear hc1 hbg3 hown1 hgrow hnext hz0 hz1 hP1 hown hbg hsrc hmin hw1
          go_wp2_with fail
          go_roundw
          case rel => exact ⟨t, _, _, _, _, rfl, by rw [HP1.out]; cases t <;> rfl, hMn, HC1⟩
          case measure => simp; omega
      · have hlt2 : l'.length = n := by omega
        have he := HC.out.eq
        rw [hlt2, Nat.sub_self, List.take_zero, List.append_nil] at he
        have HE := Lib.hid he
        subst hlt2
        clear he hlt
        go_wp2_with fail
        go_ret
        exact ⟨.slice a' l'.length cap', rfl, by rw [← HL.out, ← HE.out]; exact HC.out.own, HC.out.below⟩
end Go.Proofs.YtilfmmjjiiabgaaGreatDoor.FeedC
end

section
namespace Go.Proofs.YtilfmmjjiiabgaaGreatDoor.FeedC
open Go.RowKit Go.My BitMath RefC

theorem bitsOf_take (l : List UInt8) (k : Nat) : (bitsOf l).take (8 * k) = bitsOf (l.take k) := by
  by_cases h : k ≤ l.length
  · conv => lhs; rw [← List.take_append_drop k l, bitsOf_append]
    rw [List.take_append_of_le_length (by rw [bitsOf_len, List.length_take]; omega)]
    exact List.take_of_length_le (by rw [bitsOf_len, List.length_take]; omega)
  · rw [List.take_of_length_le (l := l) (by omega)]
    exact List.take_of_length_le (by rw [bitsOf_len]; omega)

/-- The first bytes of a word. -/
def wb (word j : Nat) : List UInt8 := (List.range j).map fun i => UInt8.ofNat (word / 2 ^ (8 * i))
theorem wb_len (word j : Nat) : (wb word j).length = j := by simp [wb]
theorem wb_succ (word j : Nat) : wb word (j + 1) = wb word j ++ [UInt8.ofNat (word / 2 ^ (8 * j))] := by simp [wb, List.range_succ]
theorem wb_bits (word j : Nat) : bitsOf (wb word j) = lows (8 * j) word := by
  induction j with
  | zero => rfl
  | succ j ih =>
    rw [wb_succ, bitsOf_append, ih, bitsOf_one, Nat.mul_add, lows_add]
    congr 1
    rw [UInt8.toNat_ofNat']
    exact lows_mod 8 _

set_option maxRecDepth 100000 in
set_option maxHeartbeats 4000000 in
theorem next_any (B f q : Nat) (ps : List Pc) (word count pushed n : Nat) (ended : Bool) (w : World) (h : FAt B w f q ps word count pushed ended) (h8 : count % 8 = 0) (hn : 8 * n ≤ count + 8 * (cat ps).length) (hl : (cat ps).length ≤ 10000000000) :
    Calls Tryz.prog 114 #[.pointer (some ⟨f, 0, none⟩), .int .i64 (n : Int)] w fun e w' => ∃ v l, e = .returned v ∧ Own 5 w.heap.size w' v l ∧ Below w.heap.size w w' ∧ bitsOf l = (bits' word count ps).take (8 * n) := by
  have HA := Lib.hid h
  have hmo := h.most
  have hwl := h.word_lt
  obtain ⟨K, hK1, hK2, hK3, hmin⟩ : ∃ K : Nat, K ≤ n ∧ 8 * K ≤ count ∧ (n = K ∨ 8 * K = count) ∧ (if (count : Int) / 8 < (n : Int) then (count : Int) / 8 else (n : Int)) = (K : Int) := by
    by_cases hm : (count : Int) / 8 < (n : Int)
    · exact ⟨count / 8, by omega, by omega, by omega, by rw [if_pos hm]; omega⟩
    · exact ⟨n, by omega, by omega, by omega, by rw [if_neg hm]⟩
  have HK := Lib.hid hK3
  have hn2 : n ≤ 10000000008 := by omega
  have hc1 : ∀ w', Below w.heap.size w w' → w'.cell? ⟨f, 1, none⟩ = some (.int .i64 (count : Int)) := fun w' hb => by
    rw [hb.cell (p := ⟨f, 1, none⟩) h.blk.lt]; exact h.blk.cell 1
  have hc0 : ∀ w', Below w.heap.size w w' → w'.cell? ⟨f, 0, none⟩ = some (.int .u64 (word : Int)) := fun w' hb => by
    rw [hb.cell (p := ⟨f, 0, none⟩) h.blk.lt]; exact h.blk.cell 0
  have hc2 : ∀ w', Below w.heap.size w w' → w'.cell? ⟨f, 2, none⟩ = some (.pointer (some ⟨q, 0, none⟩)) := fun w' hb => by
    rw [hb.cell (p := ⟨f, 2, none⟩) h.blk.lt]; exact h.blk.cell 2
  have HC0 := Lib.hid hc0
  have HC1 := Lib.hid hc1
  have HC2 := Lib.hid hc2
  clear h hc0 hc1 hc2 hK3
  go_enter Tryz.func114, Tryz.ntmps114
  go_wp2_with (at_make; refine wpList_make_cap _ rfl _ _ 25 rfl w.heap.size 5 Tryz.underlying25 info5 .i64 .i64 _ n rfl rfl rfl (by omega) (Nat.le_refl _) ?_)
  intro w1 hown hg
  have hb1 := grown_none_below (Below.refl w.heap.size w) hg (Nat.le_refl _)
  have hc1 := HC1.out w1 hb1
  have HO1 : Hid (Own 5 w.heap.size w1 (.slice (some ⟨w.heap.size, 0, none⟩) 0 n) (wb word 0)) := Lib.hid hown
  have HB1 := Lib.hid hb1
  clear hown hg hb1
  go_wp2_with fail
  clear hc1
  generalize hG : w.heap.size = G at *
  go_loopw [5, 16] (fun sb iv wr => ∃ (j : Nat) (a : Option Addr) (cap : Nat), j ≤ K ∧ iv = .int .i64 (j : Int) ∧ sb = .slice a j cap ∧ Hid (Own 5 G wr (.slice a j cap) (wb word j)) ∧ Hid (Below G w wr)) (fun _ iv _ => K - (intOf iv).toNat)
  case atStart => exact ⟨0, _, _, by omega, rfl, rfl, HO1, HB1⟩
  case round =>
    clear HO1 HB1
    obtain ⟨j, a, cap, hj, rfl, rfl, HO, HB⟩ := hrel
    by_cases hlt : j < K
    · have hc0 := HC0.out wr HB.out
      have hcb : (wr.alloc (.cells #[.int .u8 ((word : Int) / 2 ^ (8 * j) % 256)] 5)) = wr.alloc (.cells #[.int .u8 ((UInt8.ofNat (word / 2 ^ (8 * j))).toNat : Int)] 5) := by
        have e : ((word / 2 ^ (8 * j) : Nat) : Int) = (word : Int) / 2 ^ (8 * j) := by push_cast; rfl
        rw [UInt8.toNat_ofNat', ← e]; rfl
      have hnb : Bytes (wr.alloc (.cells #[.int .u8 ((word : Int) / 2 ^ (8 * j) % 256)] 5)) (some ⟨wr.heap.size, 0, none⟩) 1 1 [UInt8.ofNat (word / 2 ^ (8 * j))] := by
        rw [hcb]; exact one_bytes 5 wr _
      have HNB := Lib.hid hnb
      have hGs : G ≤ wr.heap.size := by have := HB.out.size; omega
      have hwl2 := wb_len word j
      clear hcb hnb
      go_wp2_with (at_builtin; refine wpList_append_lie (by rfl) (.tmp 19) (.tmp 28) 25 rfl G 5 Tryz.underlying25 info5 (.slice a j cap) (wb word j) rfl (HO.out.below (Nat.le_refl _) ((Below.refl _ wr).alloc (Nat.le_refl _) _)) (some ⟨wr.heap.size, 0, none⟩) 1 1 [UInt8.ofNat (word / 2 ^ (8 * j))] rfl HNB.out (by omega) (by simp; omega) ?_)
      intro a3 c3 w3 hown hgrow hnext
      have HO3 : Hid (Own 5 G w3 (.slice a3 (j + 1) c3) (wb word (j + 1))) := Lib.hid (by rw [wb_succ]; exact hown)
      have HB3 : Hid (Below G w w3) := Lib.hid ((HB.out.alloc hGs _).grown hgrow (by simp; omega) (fun k hk => (World.ownsRow.lt HO.out k hk).1))
      clear hown hgrow hnext
      clear hwl2 hc0
      go_wp2_with fail
      go_roundw
      case rel => exact ⟨j + 1, a3, c3, by omega, by go_num, rfl, HO3, HB3⟩
      case measure => simp [intOf]; omega
    · obtain rfl : j = K := by omega
      have hc2 := HC2.out wr HB.out
      go_wp2_with fail
      subst hG
      have hq := HA.out.que.below HB.out
      refine (complete_any B q _ w.heap.size n ps wr hq (fun k hk => (HA.out.que.lt k hk).2) HB.out.size a j cap (wb word j) HO.out (wb_len _ _) hK1 (by have := HK.out; omega) (by omega)).mono ?_
      rintro e w5 ⟨v, rfl, hv, hb⟩
      have HV := Lib.hid hv
      have HB5 := Lib.hid (HB.out.trans hb)
      clear hv hb hq
      go_wp2_with fail
      go_ret
      refine ⟨v, _, rfl, HV.out, HB5.out, ?_⟩
      rw [bitsOf_append, wb_bits]
      unfold bits'
      rcases HK.out with e | e
      · subst e
        rw [Nat.sub_self, List.take_zero, bitsOf_nil, List.append_nil, List.take_append_of_le_length (by rw [lows_len]; omega)]
        have e := lows_add (8 * n) (count - 8 * n) word
        rw [show 8 * n + (count - 8 * n) = count from by omega] at e
        rw [e, List.take_append_of_le_length (by rw [lows_len]; omega), List.take_of_length_le (by rw [lows_len]; omega)]
      · rw [e, List.take_append (l₁ := lows count word), lows_len, List.take_of_length_le (l := lows count word) (by rw [lows_len]; omega)]
        congr 1
        rw [show 8 * n - count = 8 * (n - j) from by omega]
        exact (bitsOf_take _ _).symm
end Go.Proofs.YtilfmmjjiiabgaaGreatDoor.FeedC
end
