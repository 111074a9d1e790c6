import Derived.Test.YtnkfnbkjmobbnaaGreatDoorMgBn
import Derived.Test.YtnkfnbkjmobbnaaGreatDoorMgBw
import Derived.Test.YtnkfnbkjmobbnaaGreatDoorMgBa
import Derived.Test.YtnkfnbkjmobbnaaGreatDoorMgBx
import Derived.Test.YtnkfnbkjmobbnaaGreatDoorMgXw

section
/-
  BlockWrites' law.
-/
namespace Go.Proofs.YtnkfnbkjmobbnaaGreatDoor.BlkC
open Go.RowKit Go.My BitMath BitC RefC
open LzMath (Tok tot sz GoodT Ok ex)
open LzC (TokIn EndsT OwnT Wf few few_any few_tot tokens_own RExpanded rexpand_all)
open InfMath (Rd)

/-- What Tokens hands back, its own row. -/
def ToksO (w : World) (e : Ending) (w' : World) : Prop :=
  ∃ (f : Nat → Tok) (n : Nat) (a : Option Addr) (c : Nat), e = .returned (.slice a n c) ∧ n ≤ 61 ∧ tot f n ≤ 258 * n ∧ GoodT false f n ∧ Hid (TokIn w' a n c f) ∧ Hid (Below w.heap.size w w') ∧ Hid (OwnT w.heap.size w' (.slice a n c) n f) ∧ Hid (∀ i, i < n → Wf (f i))
set_option maxRecDepth 100000 in
theorem toks_own (a : Option Addr) (len c : Nat) (g : Nat → Tok) (w : World) (h : TokIn w a len c g) :
    Calls Tryz.prog 7 #[.slice a len c] w (ToksO w) := by
  have HT := Lib.hid (tokens_own a len c g w h)
  go_enter Tryz.func7, Tryz.ntmps7
  go_wp2_with fail
  refine HT.out.mono ?_
  rintro e w1 ⟨f, n, a', c', rfl, h⟩
  go_wp2_with fail
  go_ret
  exact ⟨f, n, a', c', rfl, h⟩
theorem low7 (n : Int) : ∃ K : Nat, K < 8 ∧ bits .and .i64 n 7 = (K : Int) := by
  have h := i64_and_mask n 3 (by omega) 7 8 rfl rfl
  rw [h]
  have h1 := Int.emod_nonneg n (show (8 : Int) ≠ 0 by omega)
  have h2 := Int.emod_lt_of_pos n (show (0 : Int) < 8 by omega)
  generalize n % 8 = r at *
  exact ⟨r.toNat, by omega, by omega⟩
/-- Put of fewer than eight bits. -/
theorem put_few (v q B g : Nat) (r : Option Nat) (bs : List Bool) (w : World) (hv : v < 4294967296) (hq : q < 8) (hw : Wr B w g r bs) (hl : bs.length ≤ 100000000) :
    Calls Tryz.prog 10 #[.pointer (some ⟨g, 0, none⟩), .int .u32 (v : Int), .int .i64 (q : Int)] w (Wrote B g r w (bs ++ lows q v)) := by
  by_cases h0 : q = 0
  · subst h0
    refine (put_no (v : Int) ((0 : Nat) : Int) g w (.inl (by omega))).mono ?_
    rintro e w' ⟨rfl, rfl⟩
    exact ⟨r, rfl, by simpa [lows] using hw, Only.refl _ _, .inl rfl⟩
  · exact put_any v q B g r bs w hv (by omega) (by omega) hw (by omega)
/-- Behind any bits of a byte. -/
theorem from_both (wide : Bool) (q : Nat) (hq : q < 8) (L X z : List Bool) (B : List UInt8) (w : World) (hl : L.length ≤ 700000) (hL : L = X ++ z) (h8 : (q + L.length) % 8 = 0) (hr : Rd wide q X B true) (hB : B.length ≤ 1048575) :
    Calls Tryz.prog 18 #[.string (txt L), .int .i64 (q : Int), .bool wide] w (FromB w B) := by
  by_cases h0 : q = 0
  · subst h0
    have e : bitsOf (pack L) = L := by rw [bitsOf_pack, pad_full _ (by omega)]
    have := from_zero wide (pack L) X z B w (by rw [pack_len]; omega) (by rw [e]; exact hL) hr (by omega)
    rw [e] at this
    refine this.mono ?_
    rintro e w' ⟨ov, rfl, ho, hb⟩
    obtain ⟨a, c, rfl, hby⟩ := ho.bytes
    exact ⟨a, _, c, rfl, hby, hb⟩
  · exact from_any wide q L X z B w (by omega) hq hl hL h8 hr hB
/-- What is put behind a block that is not the last one: a stored block of no bytes. -/
theorem shut_bits (l : List Bool) : pad (l ++ lows 1 1 ++ lows 2 0) ++ bitsOf [0, 0, 255, 255] = l ++ InfMath.stb l.length [] true := by
  have e : lows 1 1 ++ lows 2 0 = lows 3 (InfMath.bn 0 true) := by decide
  have e2 : lows 16 0 ++ lows 16 65535 = bitsOf [0, 0, 255, 255] := by decide
  unfold InfMath.stb
  rw [List.append_assoc l, e]
  unfold pad InfMath.gap
  have hl : (l ++ lows 3 (InfMath.bn 0 true)).length = l.length + 3 := by rw [List.length_append, lows_len]
  rw [hl, ← e2]
  simp only [List.append_assoc, bitsOf, List.length_nil]
  rfl
/-- A literal of four bytes. -/
theorem four_bytes (w : World) : Bytes (w.alloc (.cells #[.int .u8 0, .int .u8 0, .int .u8 255, .int .u8 255] 5)) (some ⟨w.heap.size, 0, none⟩) 4 4 [0, 0, 255, 255] := by
  refine ⟨rfl, Nat.le_refl _, by omega, fun h => (by cases h), .inr ⟨w.heap.size, 0, rfl, by rw [World.size_alloc]; omega, fun i hi => ?_⟩⟩
  have hb : Blk (w.alloc (.cells #[.int .u8 0, .int .u8 0, .int .u8 255, .int .u8 255] 5)) w.heap.size 5 #[.int .u8 0, .int .u8 0, .int .u8 255, .int .u8 255] := Blk.new w _ _
  have hc := hb.cell i
  have : i = 0 ∨ i = 1 ∨ i = 2 ∨ i = 3 := by simp at hi; omega
  rcases this with rfl | rfl | rfl | rfl <;> exact hc
theorem gap_le (p : Nat) : InfMath.gap p ≤ 7 := by unfold InfMath.gap; omega
theorem sto_ge (n : Nat) : 5 ≤ sto n := by unfold sto; omega
theorem bits_bound {M p n : Nat} (h : M ≤ 3 + InfMath.gap p + 8 * (sto n - 1)) : M ≤ 8 * sto n + 8 := by
  have := gap_le p
  have := sto_ge n
  omega
theorem txt_from (L : List Bool) (q n : Nat) (h : n = L.length) : (txt L).extract q n = txt (L.drop q) := by
  subst h
  apply ByteArray.ext
  rw [ByteArray.data_extract]
  unfold txt
  apply Array.ext'
  simp [List.extract_eq_take_drop, List.map_drop]
  rw [List.take_of_length_le (by simp)]
/-- What the Writer holds in the end, cut off at the bits that stood there first. -/
structure Tail (q : Nat) (B0 : List UInt8) (wide : Bool) (Y : List Bool) : Prop where
  ex : ∃ (L X z : List Bool), (bitsOf (pack Y)).drop q = L ∧ L = X ++ z ∧ (q + L.length) % 8 = 0 ∧ L.length ≤ 700000 ∧ Rd wide q X B0 true ∧ (bitsOf (pack Y)).length = q + L.length
theorem tail_of {wide : Bool} {q v : Nat} {X : List Bool} {B0 : List UInt8} {Y : List Bool} (hY : Y = lows q v ++ X) (hl : X.length ≤ 690000) (hr : Rd wide q X B0 true) : Tail q B0 wide Y := by
  have hl8 := lows_len q v
  have hp : bitsOf (pack Y) = lows q v ++ (X ++ List.replicate ((8 - Y.length % 8) % 8) false) := by
    rw [bitsOf_pack]
    unfold pad
    rw [hY]
    simp only [List.append_assoc]
  have hlen : (bitsOf (pack Y)).length % 8 = 0 := by rw [bitsOf_len]; omega
  refine ⟨_, X, List.replicate ((8 - Y.length % 8) % 8) false, rfl, ?_, ?_, ?_, hr, ?_⟩
  · rw [hp, List.drop_left' hl8]
  · rw [hp] at hlen ⊢
    rw [List.drop_left' hl8]
    rw [List.length_append, hl8] at hlen
    exact hlen
  · rw [hp, List.drop_left' hl8, List.length_append, List.length_replicate]; omega
  · rw [hp, List.drop_left' hl8, List.length_append, hl8]
set_option maxRecDepth 100000 in
set_option maxHeartbeats 8000000 in
theorem writes_law (a1 : Option Addr) (len1 cap1 : Nat) (g1 : Nat → Tok) (a2 : Option Addr) (len2 cap2 : Nat) (g2 : Nat → Tok) (wide : Bool) (z : Int) (last : Bool) (w : World) (h1 : TokIn w a1 len1 cap1 g1) (h2 : TokIn w a2 len2 cap2 g2) (hT : Tbls w.heap.size w) :
    Calls Tryz.prog 3 #[.slice a1 len1 cap1, .slice a2 len2 cap2, .bool wide, .int .i64 z, .bool last] w fun e w' => e = .returned (.bool true) ∧ Below w.heap.size w w' := by
  have H1 := Lib.hid h1
  have H2 := Lib.hid h2
  have HT0 := Lib.hid hT
  have hl1 := h1.le_cap
  have hm1 := h1.cap_le
  have hl2 := h2.le_cap
  have hm2 := h2.cap_le
  have HF := Lib.hid (few_any a2 len2 cap2 g2 w h2)
  clear h1 h2 hT
  go_enter Tryz.func3, Tryz.ntmps3
  have HTO := Lib.hid (told_any w)
  cases hfw : few g2 len2 with
  | false =>
    rw [hfw] at HF
    go_wp2_with fail
    refine HF.out.mono ?_
    rintro e w1 ⟨rfl, rfl⟩
    go_wp2_with fail
    refine HTO.out.mono ?_
    rintro e w2 ⟨rfl, hb⟩
    go_wp2_with fail
    go_ret
    exact ⟨rfl, hb⟩
  | true =>
    rw [hfw] at HF
    obtain ⟨hf1, hf2⟩ := few_tot hfw
    clear hfw
    by_cases hlt : 60 < len1
    · go_wp2_with fail
      refine HF.out.mono ?_
      rintro e w1 ⟨rfl, rfl⟩
      go_wp2_with fail
      refine HTO.out.mono ?_
      rintro e w2 ⟨rfl, hb⟩
      go_wp2_with fail
      go_ret
      exact ⟨rfl, hb⟩
    · have HK1 := Lib.hid (toks_own a1 len1 cap1 g1 w H1.out)
      clear HTO
      go_wp2_with fail
      refine HF.out.mono ?_
      rintro e w1 ⟨rfl, rfl⟩
      clear HF
      go_wp2_with fail
      refine HK1.out.mono ?_
      rintro e w1 ⟨f1, n1, b1, c1, rfl, hn1, ht1, hg1, hi1, hb1, ho1, hwf⟩
      clear HK1
      obtain ⟨f, hf⟩ : ∃ f, f = LzMath.join f1 n1 g2 := ⟨_, rfl⟩
      obtain ⟨len, hlen⟩ : ∃ len, len = n1 + len2 := ⟨_, rfl⟩
      have hlen100 : len ≤ 200 := by omega
      have HTT : Hid (tot f len ≤ 90000) := Lib.hid (by rw [hf, hlen, LzMath.tot_join]; omega)
      have HI2 := Lib.hid (H2.out.below (Nat.le_refl _) hb1.out)
      have HWF : Hid (∀ i, i < len → Wf (f i)) := Lib.hid (fun i hi => by
        rw [hf]
        by_cases hin : i < n1
        · rw [LzMath.join_left hin]; exact hwf.out i hin
        · obtain ⟨m, rfl⟩ : ∃ m, i = n1 + m := ⟨i - n1, by omega⟩
          rw [LzMath.join_right]
          obtain ⟨_, _, _, _, _, _, _, h⟩ := H2.out.get (i := m) (by omega)
          exact h)
      have hsz1 := hb1.out.size
      have HB1 := Lib.hid hb1.out
      clear hi1 hb1 hg1 hwf H1 H2 ht1
      go_wp2_with (at_builtin; refine LzC.wpList_append_toks (by rfl) (.tmp 32) (.tmp 33) (by rfl) w.heap.size _ n1 f1 (by rfl) ho1.out a2 len2 cap2 g2 (by rfl) HI2.out (by omega) hsz1 ?_)
      intro v2 w2 hown hg
      rw [← hf, ← hlen] at hown
      have HB2 := Lib.hid (ho1.out.grown HB1.out hg hsz1)
      obtain ⟨a, c, rfl, hin⟩ := OwnT.toks hown HWF.out
      have HI := Lib.hid hin
      have hlc := hin.le_cap
      have hcm := hin.cap_le
      clear hown hg hin HB1 ho1 HI2 HWF hsz1 hf hn1
      obtain ⟨K, hE⟩ := LzC.ends_any wide f len
      have HE := Lib.hid hE
      have hKl := hE.le
      have HX := Lib.hid (rexpand_all wide a len c f K w2 HI.out hE (by have := HTT.out; omega))
      clear hE hf2 hlen
      go_wp2_with fail
      refine HX.out.mono ?_
      rintro e w3 ⟨hb3, hans⟩
      have HB3 := Lib.hid (HB2.out.trans (hb3.mono HB2.out.size))
      have HI3 := Lib.hid (HI.out.below (Nat.le_refl _) hb3)
      clear HX hb3 HB2 HI
      have HS1 : Hid (∀ b off, 0 < len → a = some ⟨b, off, none⟩ → b < w3.heap.size) := Lib.hid (fun b off h0 e => by
        obtain ⟨b', off', e', -, -, -, hlt', -⟩ := HI3.out.get h0
        rw [e] at e'
        injection e' with e'
        injection e' with e' _
        omega)
      obtain ⟨q, hq, hqz⟩ := low7 z
      obtain ⟨v, hv, hvz⟩ : ∃ v : Nat, v < 4294967296 ∧ z % 4294967296 / 8 = (v : Int) := ⟨(z % 4294967296 / 8).toNat, by omega, by omega⟩
      have hans2 : ∃ (aw : Option Addr) (lw cw : Nat) (x er : Int), e = .returned (.tuple #[.slice aw lw cw, .int .i64 x, .int .i64 er]) := by
        rcases hans with ⟨-, a', c', rfl, -⟩ | ⟨-, rfl⟩
        · exact ⟨_, _, _, _, _, rfl⟩
        · exact ⟨_, _, _, _, _, rfl⟩
      obtain ⟨aw, lw, cw, x, er, rfl⟩ := hans2
      go_wp2_with fail
      refine (new_writer w3).mono ?_
      rintro e w4 ⟨rfl, h4⟩
      have HW4 : Hid (Wr w3.heap.size w4 w3.heap.size none []) := Lib.hid (by rw [← h4]; exact wr_new w3)
      have hb34 : Below w3.heap.size w3 w4 := by rw [← h4]; exact (Below.refl _ w3).alloc (Nat.le_refl _) _
      have HB34 := Lib.hid hb34
      clear h4 hb34
      have HP := Lib.hid (put_few v q w3.heap.size w3.heap.size none [] w4 hv hq HW4.out (by simp))
      have HVZ := Lib.hid hvz
      clear hvz HW4
      go_wp2_with fail
      rw [HVZ.out]
      refine HP.out.mono ?_
      rintro e w5 ⟨r5, rfl, hw5, ho5, -⟩
      have hb35 : Below w3.heap.size w3 w5 := HB34.out.trans (ho5.below HB34.out.size (fun k hk => by
        rcases hk with rfl | hk
        · exact Nat.le_refl _
        · cases hk))
      have HW5 : Hid (Wr w3.heap.size w5 w3.heap.size r5 (lows q v)) := Lib.hid hw5
      have HB35 := Lib.hid hb35
      have HT3 := Lib.hid ((HT0.out.below HB3.out (Nat.le_refl _)).more HB3.out.size)
      have HWR := Lib.hid (write_any w3.heap.size w3.heap.size r5 (lows q v) wide last a len c f K w5 (HI3.out.below (Nat.le_refl _) hb35) (fun h0 b off e hk => by
        have := HS1.out b off h0 e
        have := hw5.fp b hk
        omega) HE.out (by have := HTT.out; omega) (by omega) HW5.out (by rw [lows_len]; omega) (HT3.out.below hb35 (Nat.le_refl _)))
      clear HP hw5 ho5 hb35 HB34
      go_wp2_with fail
      refine HWR.out.mono ?_
      rintro e w6 hwr
      have hb5 : Below w.heap.size w w5 := HB3.out.trans (HB35.out.mono HB3.out.size)
      rcases hwr with ⟨hk, rfl, hb6⟩ | ⟨hk, rfl, X, r6, hw6, ho6, -, hr6, hx1, hx2⟩
      · have he : er = 2 := by
          rcases hans with ⟨hk', -⟩ | ⟨-, he⟩
          · omega
          · simp at he; exact he.2.2
        subst he
        have HB6 := Lib.hid (hb5.trans (hb6.mono hb5.size))
        have HW6 := Lib.hid (HW5.out.below hb6)
        have HTO := Lib.hid (told_any w6)
        have hq8 : (lows q v).length = q := lows_len _ _
        clear hans hb5 hb6 HWR HW5 HB35 HT3 HB3
        go_wp2_with fail
        refine HTO.out.mono ?_
        rintro e w7 ⟨rfl, hb7⟩
        have HB7 := Lib.hid (HB6.out.trans (hb7.mono HB6.out.size))
        have HLN := Lib.hid (len_any w3.heap.size w3.heap.size r5 (lows q v) w7 (HW6.out.below hb7) (by rw [lows_len]; omega))
        rw [hq8] at HLN
        clear HTO hb7 HW6 HB6 hq8
        go_wp2_with fail
        refine HLN.out.mono ?_
        rintro e w8 ⟨rfl, nn, rfl⟩
        go_wp2_with fail
        go_ret
        exact ⟨rfl, LzC.below_drewN HB7.out nn⟩
      · subst hk
        have hg := HE.out.good
        obtain ⟨N, hN⟩ : ∃ N, N = tot f K := ⟨_, rfl⟩
        have hres : ∃ (_ : lw = N ∧ x = 0 ∧ er = 0), My.Own 5 w2.heap.size w3 (.slice aw N cw) (ex f K) := by
          rcases hans with ⟨-, a', c', he, ho⟩ | ⟨hk', -⟩
          · simp at he
            obtain ⟨⟨rfl, rfl, rfl⟩, rfl, rfl⟩ := he
            exact ⟨⟨hN.symm, rfl, rfl⟩, by rw [hN]; exact ho⟩
          · omega
        obtain ⟨⟨hlw, rfl, rfl⟩, how⟩ := hres
        subst hlw
        have HN := Lib.hid hN
        have hb36 : Below w3.heap.size w3 w6 := HB35.out.trans (ho6.below HB35.out.size HW5.out.fp)
        have HB36 := Lib.hid hb36
        have HOW := Lib.hid how
        have HR6 : Hid (Rd wide q X (ex f K) last) := Lib.hid (by rw [lows_len] at hr6; exact hr6)
        obtain ⟨M, hM⟩ : ∃ M, M = X.length := ⟨_, rfl⟩
        have HM := Lib.hid hM
        obtain ⟨Y, hY⟩ : ∃ Y, Y = lows q v ++ X := ⟨_, rfl⟩
        rw [← hY] at hw6
        have HY := Lib.hid hY
        have HW6 := Lib.hid hw6
        obtain ⟨T, hT⟩ : ∃ T, T = Y.length := ⟨_, rfl⟩
        have hT2 : T = q + M := by rw [hT, hY, List.length_append, lows_len, hM]
        have hTq : (T : Int) - (q : Int) = (M : Int) := by omega
        have HN9 : Hid (lw ≤ 90000) := Lib.hid (by rw [HN.out]; exact HTT.out)
        obtain ⟨F, hF⟩ : ∃ F, F = rfx wide f K := ⟨_, rfl⟩
        obtain ⟨ST, hST⟩ : ∃ ST, ST = sto lw := ⟨_, rfl⟩
        have hMF : M ≤ F := by omega
        have hMS : M ≤ 8 * ST + 8 := by rw [hST, HN.out, hM]; exact bits_bound hx2
        have hS2 : ST ≤ 100000 := by have := HN9.out; rw [hST]; unfold sto; omega
        have hF2 : F ≤ 100000 := by
          have := rfx_le (wide := wide) (f := f) (n := K) (fun i hi => (hg i hi).1)
          omega
        have hM2 : M ≤ 100000 := by omega
        have hYT : Y.length ≤ 100010 := by omega
        have HFX := Lib.hid (fun w' hb => rfixed_of wide a K c f w' (HI3.out.below (Nat.le_refl _) hb) (by omega) (Nat.le_refl K) (fun i hi => (hg i hi).1) (fun h => absurd h (Nat.lt_irrefl _)))
        have hfz : fixZ wide f K K = (F : Int) := by unfold fixZ; rw [if_neg (Nat.lt_irrefl _), hF]
        simp only [hfz] at HFX
        have HST := Lib.hid (fun w => rstored_num (lw : Int) w ⟨by omega, by have := HN9.out; omega⟩)
        have hsz : stoZ (lw : Int) = ST := by
          have := HN9.out
          unfold stoZ
          rw [if_neg (by omega), hST]
          congr 1
          omega
        simp only [hsz] at HST
        have HLN := Lib.hid (len_any w3.heap.size w3.heap.size r6 Y w6 hw6 (by omega))
        rw [← hT] at HLN
        have hlw := HN9.out
        clear hans how hb36 hb5 hw6 ho6 hr6 hx1 hx2 HWR HW5 HB35 hT hN hM hY hST hF hg hfz hsz HTT
        clear HT3
        go_wp2_with fail
        refine HLN.out.mono ?_
        rintro e w7 ⟨rfl, nn, hw7⟩
        have hb67 : Below w6.heap.size w6 w7 := by rw [hw7]; exact LzC.below_drewN (Below.refl _ _) nn
        have HB37 := Lib.hid (HB36.out.trans (hb67.mono HB36.out.size))
        have HW7 := Lib.hid (HW6.out.below hb67)
        have HFX7 := Lib.hid (HFX.out w7 HB37.out)
        clear HLN hw7 hb67 HW6 HB36 HFX
        have c1 : decide (F < M) = false := decide_eq_false (by omega)
        have c2 : decide ((F : Int) < (M : Int)) = false := decide_eq_false (by omega)
        have c3 : decide (8 * (ST : Int) + 8 < (M : Int)) = false := decide_eq_false (by omega)
        go_wp2_with fail
        refine HFX7.out.mono ?_
        rintro e w8 ⟨rfl, hb8⟩
        have HB38 := Lib.hid (HB37.out.trans (hb8.mono HB37.out.size))
        have HW8 := Lib.hid (HW7.out.below hb8)
        clear HFX7 hb8 HB37 HW7
        go_wp2_with fail
        refine (HST.out w8).mono ?_
        rintro e w' ⟨rfl, rfl⟩
        clear HST
        have hg8 := HW8.out.lt
        cases last with
        | true =>
          have HTL : Hid (Tail q (LzMath.ex f K) wide Y) := Lib.hid (tail_of HY.out (by rw [← HM.out]; omega) HR6.out)
          clear HR6 HY HM c1 c2 c3
          have HBB := Lib.hid (bytes_any w3.heap.size w3.heap.size r6 Y w8 HW8.out (by omega))
          obtain ⟨L, X1, z1, hL, hLX, h8, hLl, hrd, hbl⟩ := HTL.out.ex
          have HL := Lib.hid hL
          have HLX := Lib.hid hLX
          have HRD := Lib.hid hrd
          have hpk : (pack Y).length ≤ 100000 := by rw [pack_len]; omega
          obtain ⟨PB, hPB⟩ : ∃ PB, PB = pack Y := ⟨_, rfl⟩
          rw [← hPB] at HBB HL hbl hpk
          clear hL hLX hrd hPB HTL
          go_wp2_with fail
          refine HBB.out.mono ?_
          rintro e wb ⟨vb, rfl, hob, hbb⟩
          obtain ⟨ab, cb, rfl, hbyb⟩ := hob.bytes
          have HBb := Lib.hid (HB38.out.trans (hbb.mono HB38.out.size))
          have HOF := Lib.hid (refof_any ab PB.length cb PB wb hbyb (by omega))
          obtain ⟨sY, hsY⟩ : ∃ sY, sY = txt (bitsOf PB) := ⟨_, rfl⟩
          rw [← hsY] at HOF
          have hsz : sY.size = q + L.length := by rw [hsY, txt_size]; exact hbl
          obtain ⟨LL, hLL⟩ : ∃ LL, LL = L.length := ⟨_, rfl⟩
          rw [← hLL] at hsz h8 hLl
          have hcut : sY.extract q (q + LL) = txt L := by
            rw [← hsz, hsY, txt_from _ _ _ (txt_size _), HL.out]
          obtain ⟨sL, hsL⟩ : ∃ sL, sL = txt L := ⟨_, rfl⟩
          rw [← hsL] at hcut
          clear hob hbb hbyb HBB HW8 HB38 hsY hbl HL
          go_wp2_with fail
          refine HOF.out.mono ?_
          rintro e wc ⟨rfl, hbc⟩
          have HBc := Lib.hid (HBb.out.trans (hbc.mono HBb.out.size))
          have HFR := Lib.hid (from_both wide q hq L X1 z1 (LzMath.ex f K) wc (by omega) HLX.out (by omega) HRD.out (by rw [LzMath.ex_len, ← HN.out]; omega))
          rw [← hsL] at HFR
          clear HOF hbc HBb HLX HRD hsL hLL
          go_wp2_with fail
          refine HFR.out.mono ?_
          rintro e wd ⟨ad, nd, cd, rfl, hbyd, hbd⟩
          have HBd := Lib.hid (HBc.out.trans (hbd.mono HBc.out.size))
          have HTO := Lib.hid (told_any wd)
          have HBY := Lib.hid hbyd
          clear HFR hbd HBc hbyd
          go_wp2_with fail
          refine HTO.out.mono ?_
          rintro e we ⟨rfl, hbe⟩
          have HBe := Lib.hid (HBd.out.trans (hbe.mono HBd.out.size))
          have hcx := conv_own (HBY.out.below (Nat.le_refl _) hbe)
          have how := ((Only.of_below HBe.out (fun _ => False)).own HOW.out (fun _ _ h => h)).bytes
          obtain ⟨ap', cp', ep, hbp⟩ := how
          simp only [Value.slice.injEq] at ep
          obtain ⟨rfl, ep, rfl⟩ := ep
          have hcw := conv_own hbp
          rw [← ep] at hcw
          have HEND := Lib.hid (HB3.out.trans (HBe.out.mono HB3.out.size))
          obtain ⟨WS, hWS⟩ : ∃ WS : ByteArray, WS = ⟨(LzMath.ex f K).toArray⟩ := ⟨_, rfl⟩
          rw [← hWS] at hcx hcw
          clear HTO hbe HBY hbp ep hWS HBd HBe
          go_wp2_with fail
          go_ret
          exact ⟨rfl, HEND.out⟩
        | false =>
          have HP1 : Hid (Calls Tryz.prog 10 #[.pointer (some ⟨w3.heap.size, 0, none⟩), .int .u32 1, .int .i64 1] w8 (Wrote w3.heap.size w3.heap.size r6 w8 (Y ++ lows 1 1))) := Lib.hid (put_any 1 1 w3.heap.size w3.heap.size r6 Y w8 (by omega) (by omega) (by omega) HW8.out (by omega))
          clear c1 c2 c3
          go_wp2_with fail
          refine HP1.out.mono ?_
          rintro e w9 ⟨r9, rfl, hw9, ho9, -⟩
          have HB39 := Lib.hid (HB38.out.trans (ho9.below HB38.out.size HW8.out.fp))
          have HP2 : Hid (Calls Tryz.prog 10 #[.pointer (some ⟨w3.heap.size, 0, none⟩), .int .u32 0, .int .i64 2] w9 (Wrote w3.heap.size w3.heap.size r9 w9 (Y ++ lows 1 1 ++ lows 2 0))) := Lib.hid (put_any 0 2 w3.heap.size w3.heap.size r9 (Y ++ lows 1 1) w9 (by omega) (by omega) (by omega) hw9 (by rw [List.length_append, lows_len]; omega))
          have HW9 := Lib.hid hw9
          clear HP1 hw9 ho9 HB38 HW8
          go_wp2_with fail
          refine HP2.out.mono ?_
          rintro e w10 ⟨r10, rfl, hw10, ho10, -⟩
          have HB310 := Lib.hid (HB39.out.trans (ho10.below HB39.out.size HW9.out.fp))
          have hb1011 : Below w10.heap.size w10 (w10.alloc (.cells #[.int .u8 0, .int .u8 0, .int .u8 255, .int .u8 255] 5)) := (Below.refl _ w10).alloc (Nat.le_refl _) _
          have HB311 := Lib.hid (HB310.out.trans (hb1011.mono HB310.out.size))
          have HW11 := Lib.hid (hw10.below hb1011)
          have HRW := Lib.hid (raw_any w3.heap.size w3.heap.size r10 (Y ++ lows 1 1 ++ lows 2 0) _ HW11.out (by rw [List.length_append, List.length_append, lows_len, lows_len]; omega) _ 4 4 [0, 0, 255, 255] (four_bytes w10) (fun b off e hk => by
            injection e with e
            injection e with e _
            subst e
            rcases hk with hk | hk
            · have := hw10.lt; omega
            · have := (hw10.rlt _ hk).2; omega) (by omega))
          have hshut : pad (Y ++ lows 1 1 ++ lows 2 0) ++ bitsOf [0, 0, 255, 255] = Y ++ InfMath.stb Y.length [] true := shut_bits Y
          rw [hshut] at HRW
          clear HP2 ho10 hw10 HB39 HW9 hb1011 HB310 hshut
          go_wp2_with fail
          refine HRW.out.mono ?_
          rintro e w12 ⟨r12, rfl, hw12, ho12, -⟩
          have HB312 := Lib.hid (HB311.out.trans (ho12.below HB311.out.size HW11.out.fp))
          obtain ⟨Z, hZ⟩ : ∃ Z, Z = Y ++ InfMath.stb Y.length [] true := ⟨_, rfl⟩
          rw [← hZ] at hw12
          have hYl : Y.length = q + X.length := by rw [HY.out, List.length_append, lows_len]
          have hsl : ∀ p, (InfMath.stb p [] true).length ≤ 50 := fun p => by rw [InfMath.stb_len]; have := gap_le p; simp; omega
          have HTL : Hid (Tail q (LzMath.ex f K) wide Z) := Lib.hid (tail_of (X := X ++ InfMath.stb (q + X.length) [] true) (by rw [hZ, hYl, HY.out, List.append_assoc]) (by have h1 := hsl (q + X.length); have h2 := HM.out; rw [List.length_append]; omega) (by
            have := Rd.app HR6.out (Rd.one wide (q + X.length) [] true (by simp))
            rw [List.append_nil] at this
            exact this))
          have hZl : Z.length ≤ 690000 := by have h1 := hsl Y.length; rw [hZ, List.length_append]; omega
          have HW12 := Lib.hid hw12
          clear HR6 HY HM HRW hw12 ho12 HB311 HW11 hZ hYl hsl
          have HBB := Lib.hid (bytes_any w3.heap.size w3.heap.size r12 Z w12 HW12.out (by omega))
          obtain ⟨L, X1, z1, hL, hLX, h8, hLl, hrd, hbl⟩ := HTL.out.ex
          have HL := Lib.hid hL
          have HLX := Lib.hid hLX
          have HRD := Lib.hid hrd
          have hpk : (pack Z).length ≤ 100000 := by rw [pack_len]; omega
          obtain ⟨PB, hPB⟩ : ∃ PB, PB = pack Z := ⟨_, rfl⟩
          rw [← hPB] at HBB HL hbl hpk
          clear hL hLX hrd hPB HTL
          go_wp2_with fail
          refine HBB.out.mono ?_
          rintro e wb ⟨vb, rfl, hob, hbb⟩
          obtain ⟨ab, cb, rfl, hbyb⟩ := hob.bytes
          have HBb := Lib.hid (HB312.out.trans (hbb.mono HB312.out.size))
          have HOF := Lib.hid (refof_any ab PB.length cb PB wb hbyb (by omega))
          obtain ⟨sY, hsY⟩ : ∃ sY, sY = txt (bitsOf PB) := ⟨_, rfl⟩
          rw [← hsY] at HOF
          have hsz : sY.size = q + L.length := by rw [hsY, txt_size]; exact hbl
          obtain ⟨LL, hLL⟩ : ∃ LL, LL = L.length := ⟨_, rfl⟩
          rw [← hLL] at hsz h8 hLl
          have hcut : sY.extract q (q + LL) = txt L := by
            rw [← hsz, hsY, txt_from _ _ _ (txt_size _), HL.out]
          obtain ⟨sL, hsL⟩ : ∃ sL, sL = txt L := ⟨_, rfl⟩
          rw [← hsL] at hcut
          clear hob hbb hbyb HBB HW12 HB312 hsY hbl HL
          go_wp2_with fail
          refine HOF.out.mono ?_
          rintro e wc ⟨rfl, hbc⟩
          have HBc := Lib.hid (HBb.out.trans (hbc.mono HBb.out.size))
          have HFR := Lib.hid (from_both wide q hq L X1 z1 (LzMath.ex f K) wc (by omega) HLX.out (by omega) HRD.out (by rw [LzMath.ex_len, ← HN.out]; omega))
          rw [← hsL] at HFR
          clear HOF hbc HBb HLX HRD hsL hLL
          go_wp2_with fail
          refine HFR.out.mono ?_
          rintro e wd ⟨ad, nd, cd, rfl, hbyd, hbd⟩
          have HBd := Lib.hid (HBc.out.trans (hbd.mono HBc.out.size))
          have HTO := Lib.hid (told_any wd)
          have HBY := Lib.hid hbyd
          clear HFR hbd HBc hbyd
          go_wp2_with fail
          refine HTO.out.mono ?_
          rintro e we ⟨rfl, hbe⟩
          have HBe := Lib.hid (HBd.out.trans (hbe.mono HBd.out.size))
          have hcx := conv_own (HBY.out.below (Nat.le_refl _) hbe)
          have how := ((Only.of_below HBe.out (fun _ => False)).own HOW.out (fun _ _ h => h)).bytes
          obtain ⟨ap', cp', ep, hbp⟩ := how
          simp only [Value.slice.injEq] at ep
          obtain ⟨rfl, ep, rfl⟩ := ep
          have hcw := conv_own hbp
          rw [← ep] at hcw
          have HEND := Lib.hid (HB3.out.trans (HBe.out.mono HB3.out.size))
          obtain ⟨WS, hWS⟩ : ∃ WS : ByteArray, WS = ⟨(LzMath.ex f K).toArray⟩ := ⟨_, rfl⟩
          rw [← hWS] at hcx hcw
          clear HTO hbe HBY hbp ep hWS HBd HBe
          go_wp2_with fail
          go_ret
          exact ⟨rfl, HEND.out⟩
end Go.Proofs.YtnkfnbkjmobbnaaGreatDoor.BlkC
end
