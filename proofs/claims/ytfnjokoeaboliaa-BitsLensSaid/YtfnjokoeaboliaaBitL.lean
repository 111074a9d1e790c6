import Derived.Test.YtfnjokoeaboliaaBitT
import Derived.Test.YtfnjokoeaboliaaBitB
namespace Go.Proofs.Ytfnjokoeaboliaa.BitC
open Go.RowKit Go.My BitMath

theorem ones_pow (m : Nat) : (lows (m + 1) (2 ^ m)).count true = 1 := by
  have e : lows m (2 ^ m) = List.replicate m false := by rw [← lows_zero]; exact lows_eq_of_mod (by simp)
  rw [lows_snoc, e, List.count_append, Nat.div_self (Nat.two_pow_pos m)]
  simp [List.count_replicate]
theorem ones_pad (bs : List Bool) : (pad bs).count true = bs.count true := by
  unfold pad; simp [List.count_append, List.count_replicate]

/-- A slice of ints that came in. -/
def IntsIn (w : World) (a : Option Addr) (len cap : Nat) (zs : List Int) : Prop :=
  len ≤ cap ∧ cap ≤ 9223372036854775807 ∧ zs.length = cap ∧ (len = 0 ∨ ∃ b off, a = some ⟨b, off, none⟩ ∧ b < w.heap.size ∧ ∀ i (h : i < zs.length), w.cell? ⟨b, off + i, none⟩ = some (.int .i64 zs[i]))
theorem ints_in {w : World} {a : Option Addr} {len cap : Nat} {zs : List Int}
    (h : (a = none ∧ len = 0 ∧ cap = 0 ∧ zs = []) ∨
      ∃ x, a = some x ∧ len ≤ cap ∧ cap ≤ maxLen ∧ zs.length = cap ∧ (∀ i, i < zs.length → w.cell? (x.add i) = some (.int .i64 (zs.getD i 0))) ∧ ∀ n ∈ zs, (Lit.int .i64 n).wf = true) : IntsIn w a len cap zs := by
  rcases h with ⟨rfl, rfl, rfl, rfl⟩ | ⟨x, rfl, h1, h2, h3, h4, _⟩
  · exact ⟨Nat.le_refl _, by omega, rfl, .inl rfl⟩
  · unfold maxLen at h2
    by_cases h0 : len = 0
    · exact ⟨h1, h2, h3, .inl h0⟩
    · obtain ⟨b, off, spot⟩ := x
      have hc := h4 0 (by omega)
      obtain rfl : spot = Option.none := by simpa [Addr.add] using World.cell?_spot hc
      refine ⟨h1, h2, h3, .inr ⟨b, off, rfl, block_lt_of_cell hc, fun i hi => ?_⟩⟩
      have := h4 i hi
      rw [addr_add] at this
      rw [this, List.getD_eq_getElem?_getD, List.getElem?_eq_getElem hi]
      rfl

/-- What the loop of BitsLens keeps behind k rounds. -/
structure LensAt (w : World) (wr : World) (r : Option Nat) (bs : List Bool) (k n : Nat) : Prop where
  writer : Wr w.heap.size wr w.heap.size r bs
  len : bs.length = n
  ones : bs.count true = k
  below : Below w.heap.size w wr

theorem LensAt.put {w wr w2 : World} {r r' : Option Nat} {bs : List Bool} {k n m : Nat} (h : LensAt w wr r bs k n) (hw : Wr w.heap.size w2 w.heap.size r' (bs ++ lows (1 + m) (2 ^ m))) (ho : Only (Fp w.heap.size r) wr w2) : LensAt w w2 r' (bs ++ lows (1 + m) (2 ^ m)) (k + 1) (n + (1 + m)) :=
  ⟨hw, by rw [List.length_append, lows_len, h.len], by rw [List.count_append, h.ones, Nat.add_comm 1 m, ones_pow], h.below.trans (ho.below h.below.size h.writer.fp)⟩
theorem LensAt.align {w wr w2 : World} {r r' : Option Nat} {bs : List Bool} {k n : Nat} (h : LensAt w wr r bs k n) (hw : Wr w.heap.size w2 w.heap.size r' (pad bs)) (ho : Only (Fp w.heap.size r) wr w2) : LensAt w w2 r' (pad bs) k ((n + 7) / 8 * 8) :=
  ⟨hw, by rw [pad_len, h.len], by rw [ones_pad, h.ones], h.below.trans (ho.below h.below.size h.writer.fp)⟩
theorem LensAt.later {w wr w2 : World} {r : Option Nat} {bs : List Bool} {k n : Nat} (h : LensAt w wr r bs k n) (hb : Below wr.heap.size wr w2) : LensAt w w2 r bs k n :=
  ⟨h.writer.below hb, h.len, h.ones, h.below.trans (hb.mono h.below.size)⟩

set_option maxRecDepth 100000 in
set_option maxHeartbeats 8000000 in
theorem lens_law (a : Option Addr) (len cap : Nat) (zs : List Int) (w : World) (h : IntsIn w a len cap zs) :
    Calls Try.prog 6 #[.slice a len cap] w fun e w' => e = .returned (.bool true) ∧ Below w.heap.size w w' := by
  obtain ⟨hlc, hcm, hzl, hat⟩ := h
  have HAT := Lib.hid hat
  have HZ := Lib.hid hzl
  clear hat hzl
  go_enter Try.func6, Try.ntmps6
  go_wp2_with fail
  refine (new_writer w).mono ?_
  rintro e w1 ⟨rfl, hw1⟩
  have HL : Hid (LensAt w w1 none [] 0 0) := Lib.hid (by
    rw [← hw1]
    exact ⟨wr_new w, rfl, rfl, (Below.refl _ w).alloc (Nat.le_refl _) _⟩)
  clear hw1
  go_wp2_with fail
  go_loopw [4, 5] (fun nv i wr => ∃ (k n : Nat) (r : Option Nat) (bs : List Bool), k ≤ len ∧ k ≤ 60 ∧ n ≤ 40 * k ∧ i = .int .i64 (k : Int) ∧ nv = .int .i64 (n : Int) ∧ Hid (LensAt w wr r bs k n)) (fun _ i _ => 60 - (intOf i).toNat)
  case atStart => exact ⟨0, 0, none, [], Nat.zero_le _, by omega, by omega, rfl, rfl, HL⟩
  case round =>
    clear HL
    obtain ⟨k, n, r, bs, hk, hk60, hn, rfl, rfl, HL⟩ := hrel
    by_cases hlt : k < len
    · by_cases hlt60 : k < 60
      · have hkz : k < zs.length := by rw [HZ.out]; omega
        obtain ⟨b, off, rfl, hb, hcz⟩ : ∃ b off, a = some ⟨b, off, none⟩ ∧ b < w.heap.size ∧ wr.cell? ⟨b, off + k, none⟩ = some (.int .i64 zs[k]) := by
          rcases HAT.out with h0 | ⟨b, off, ha, hb, hc⟩
          · omega
          · exact ⟨b, off, ha, hb, by rw [HL.out.below.cell (p := ⟨b, off + k, none⟩) hb]; exact hc k hkz⟩
        generalize zs[k] = z at hcz
        obtain ⟨m, hm, hz⟩ : ∃ m : Nat, m < 32 ∧ (IntKind.u64.wrap z).tmod 32 = (m : Int) := by
          refine ⟨((IntKind.u64.wrap z) % 32).toNat, by omega, ?_⟩
          rw [Int.tmod_eq_emod_of_nonneg (by rw [IntKind.wrap_u64]; omega)]
          omega
        have hmin : min m 32 = m := by omega
        have h31 : 2 ^ m ≤ 2 ^ 31 := Nat.pow_le_pow_right (by omega) (by omega)
        obtain ⟨p, hp, hpe⟩ : ∃ p : Nat, (2 : Int) ^ m % 4294967296 = (p : Int) ∧ p = 2 ^ m := ⟨2 ^ m, by
          have e : (2 : Int) ^ m = ((2 ^ m : Nat) : Int) := by push_cast; rfl
          rw [e]
          generalize 2 ^ m = q at *
          omega, rfl⟩
        have hpl : p < 4294967296 := by omega
        have hput := put_any p (1 + m) w.heap.size w.heap.size r bs wr hpl (by omega) (by omega) HL.out.writer (by rw [HL.out.len]; omega)
        rw [show ((1 + m : Nat) : Int) = 1 + (m : Int) from by omega, hpe] at hput
        rw [← hpe] at hput
        have HPUT := Lib.hid hput
        have HPE := Lib.hid hpe
        have hm1 : 1 + m - 1 = m := by omega
        have hk5 : (k : Int).tmod 5 = (k : Int) % 5 := Int.tmod_eq_emod_of_nonneg (by omega)
        clear hpe hput h31
        by_cases h5 : k % 5 = 4
        · have hd5 : ((k : Int) % 5 == 4) = true := by simp; omega
          clear h5
          obtain ⟨N, hN, hN2, hN3⟩ : ∃ N : Nat, ((n : Int) + (1 + (m : Int)) + 7) / 8 * 8 = (N : Int) ∧ N = (n + (1 + m) + 7) / 8 * 8 ∧ (N + 7) / 8 * 8 = N := ⟨(n + (1 + m) + 7) / 8 * 8, by omega, rfl, by omega⟩
          have hNb : N ≤ 40 * (k + 1) := by omega
          have HN2 := Lib.hid hN2
          have HN3 := Lib.hid hN3
          clear hN2 hN3
          go_wp2_with fail
          refine HPUT.out.mono ?_
          rintro e w2 ⟨r2, rfl, hw2, ho2, _⟩
          have HL2 : Hid (LensAt w w2 r2 (bs ++ lows (1 + m) p) (k + 1) (n + (1 + m))) := Lib.hid (by rw [HPE.out] at hw2 ⊢; exact HL.out.put hw2 ho2)
          clear hw2 ho2
          go_wp2_with fail
          refine (align_any _ _ r2 _ w2 HL2.out.writer (by rw [HL2.out.len]; omega)).mono ?_
          rintro e w3 ⟨r3, rfl, hw3, ho3, _⟩
          have HL3 : Hid (LensAt w w3 r3 (pad (bs ++ lows (1 + m) p)) (k + 1) N) := Lib.hid (by rw [HN2.out]; exact HL2.out.align hw3 ho3)
          clear hw3 ho3
          go_wp2_with fail
          refine (align_any _ _ r3 _ w3 HL3.out.writer (by rw [HL3.out.len]; omega)).mono ?_
          rintro e w4 ⟨r4, rfl, hw4, ho4, _⟩
          have HL4 : Hid (LensAt w w4 r4 (pad (pad (bs ++ lows (1 + m) p))) (k + 1) N) := Lib.hid (by have := HL3.out.align hw4 ho4; rwa [HN3.out] at this)
          clear hw4 ho4
          generalize pad (pad (bs ++ lows (1 + m) p)) = bs4 at *
          go_wp2_with fail
          have hlen := len_any _ _ r4 bs4 w4 HL4.out.writer (by rw [HL4.out.len]; omega)
          rw [HL4.out.len] at hlen
          refine hlen.mono ?_
          clear hlen
          rintro e w' ⟨rfl, nq, rfl⟩
          have HL6 := Lib.hid (HL4.out.later (w2 := w4.drewN nq) ⟨rfl, rfl, rfl, Nat.le_refl _, fun _ _ => rfl⟩)
          generalize w4.drewN nq = w6 at *
          go_wp2_with fail
          refine (bytes_any _ _ r4 bs4 w6 HL6.out.writer (by rw [HL6.out.len]; omega)).mono ?_
          rintro e w7 ⟨v, rfl, hv, hb7⟩
          obtain ⟨a7, c7, rfl, _⟩ := hv.bytes
          have hpk := pack_len bs4
          rw [HL6.out.len] at hpk
          have HL7 := Lib.hid (HL6.out.later hb7)
          generalize (pack bs4).length = M at *
          have hM : ((N : Int) + 7) / 8 = (M : Int) := by omega
          clear hv hb7 hpk
          go_wp2_with fail
          go_roundw
          case rel => exact ⟨k + 1, N, r4, bs4, by omega, by omega, by omega, by go_num, by go_num, HL7⟩
          case measure => simp [intOf]; omega
        · have hd5 : ((k : Int) % 5 == 4) = false := by simp; omega
          clear h5
          obtain ⟨N, hN, hN2⟩ : ∃ N : Nat, (n : Int) + (1 + (m : Int)) = (N : Int) ∧ N = n + (1 + m) := ⟨n + (1 + m), by omega, rfl⟩
          have hNb : N ≤ 40 * (k + 1) := by omega
          have HN2 := Lib.hid hN2
          clear hN2
          go_wp2_with fail
          refine HPUT.out.mono ?_
          rintro e w2 ⟨r2, rfl, hw2, ho2, _⟩
          have HL2 : Hid (LensAt w w2 r2 (bs ++ lows (1 + m) p) (k + 1) N) := Lib.hid (by rw [HN2.out]; rw [HPE.out] at hw2 ⊢; exact HL.out.put hw2 ho2)
          clear hw2 ho2
          generalize bs ++ lows (1 + m) p = bs2 at *
          go_wp2_with fail
          have hlen := len_any _ _ r2 bs2 w2 HL2.out.writer (by rw [HL2.out.len]; omega)
          rw [HL2.out.len] at hlen
          refine hlen.mono ?_
          clear hlen
          rintro e w' ⟨rfl, nq, rfl⟩
          have HL6 := Lib.hid (HL2.out.later (w2 := w2.drewN nq) ⟨rfl, rfl, rfl, Nat.le_refl _, fun _ _ => rfl⟩)
          generalize w2.drewN nq = w6 at *
          go_wp2_with fail
          refine (bytes_any _ _ r2 bs2 w6 HL6.out.writer (by rw [HL6.out.len]; omega)).mono ?_
          rintro e w7 ⟨v, rfl, hv, hb7⟩
          obtain ⟨a7, c7, rfl, _⟩ := hv.bytes
          have hpk := pack_len bs2
          rw [HL6.out.len] at hpk
          have HL7 := Lib.hid (HL6.out.later hb7)
          generalize (pack bs2).length = M at *
          have hM : ((N : Int) + 7) / 8 = (M : Int) := by omega
          clear hv hb7 hpk
          go_wp2_with fail
          go_roundw
          case rel => exact ⟨k + 1, N, r2, bs2, by omega, by omega, by omega, by go_num, by go_num, HL7⟩
          case measure => simp [intOf]; omega
      · obtain rfl : k = 60 := by omega
        clear HAT
        go_wp2_with fail
        refine (bytes_any _ _ r bs wr HL.out.writer (by rw [HL.out.len]; omega)).mono ?_
        rintro e w2 ⟨v, rfl, hv, hb2⟩
        obtain ⟨a2, c2, rfl, hby⟩ := hv.bytes
        have HB2 := Lib.hid (HL.out.below.trans (hb2.mono HL.out.below.size))
        have HBY := Lib.hid hby
        have hpk := pack_len bs
        rw [HL.out.len] at hpk
        have hpl : (pack bs).length ≤ 1000 := by omega
        have HONE : Hid ((pad bs).count true = 60) := Lib.hid (by rw [ones_pad, HL.out.ones])
        have HPAD := Lib.hid (bitsOf_pack bs)
        have HPL : Hid ((pad bs).length ≤ 3000) := Lib.hid (by rw [pad_len, HL.out.len]; omega)
        generalize pack bs = lp at *
        generalize pad bs = L at *
        clear hv hb2 hby hpk
        go_wp2_with fail
        refine (refof_any a2 _ c2 lp w2 HBY.out (by omega)).mono ?_
        rw [HPAD.out]
        rintro e w3 ⟨rfl, hb3⟩
        have HB3 := Lib.hid (HB2.out.trans (hb3.mono HB2.out.size))
        have htl := txt_len L
        obtain ⟨s, hs⟩ : ∃ s, s = txt L := ⟨_, rfl⟩
        have hg : ∀ k (h : k < L.length) (h2 : k < s.size), s[k] = chB L[k] := by
          subst hs; intro k h h2; exact txt_get L k h2
        rw [← hs] at htl ⊢
        have HG := Lib.hid hg
        have HTL := Lib.hid htl
        have hsz : s.size ≤ 3000 := by have := HPL.out; omega
        clear hg hs htl hb3
        go_wp2_with fail
        go_loop [8, 9] (fun o i => ∃ j : Nat, j ≤ s.size ∧ i = .int .i64 (j : Int) ∧ o = .int .i64 (((L.take j).count true : Nat) : Int)) (fun _ i => s.size - (intOf i).toNat)
        case atStart => exact ⟨0, Nat.zero_le _, rfl, rfl⟩
        case round =>
          obtain ⟨j, hj, rfl, rfl⟩ := hrel
          by_cases hjs : j < s.size
          · have hjL : j < L.length := by have := HTL.out; omega
            have hs1 := HG.out j hjL hjs
            have hcs : (L.take (j + 1)).count true = (L.take j).count true + (if L[j] = true then 1 else 0) := by
              rw [List.take_succ_eq_append_getElem hjL, List.count_append]
              cases L[j] <;> simp
            have hcl : (L.take j).count true ≤ 3000 := Nat.le_trans (List.count_le_length) (by rw [List.length_take]; omega)
            cases hb : L[j]
            · rw [hb] at hs1 hcs
              have hn : (chB false).toNat = 48 := rfl
              have HCS := Lib.hid hcs
              clear hcs hb
              generalize (L.take j).count true = x at *
              go_wp2_with fail
              go_round
              case rel => exact ⟨j + 1, by omega, by go_num, by rw [HCS.out]; rfl⟩
              case measure => simp [intOf]; omega
            · rw [hb] at hs1 hcs
              have hn : (chB true).toNat = 49 := rfl
              have HCS := Lib.hid hcs
              clear hcs hb
              generalize (L.take j).count true = x at *
              go_wp2_with fail
              go_round
              case rel => exact ⟨j + 1, by omega, by go_num, by rw [HCS.out]; go_num⟩
              case measure => simp [intOf]; omega
          · obtain rfl : j = s.size := by omega
            rw [show L.take s.size = L from List.take_of_length_le (by rw [HTL.out]; omega), HONE.out]
            go_wp2_with fail
            refine (told_any w3).mono ?_
            rintro e w4 ⟨rfl, hb4⟩
            have HB4 := Lib.hid (HB3.out.trans (hb4.mono HB3.out.size))
            clear hb4
            have hmin : min (len : Int) 60 = 60 := by omega
            go_wp2_with fail
            go_ret
            exact ⟨by simp, HB4.out⟩
    · obtain rfl : k = len := by omega
      clear HAT
      go_wp2_with fail
      refine (bytes_any _ _ r bs wr HL.out.writer (by rw [HL.out.len]; omega)).mono ?_
      rintro e w2 ⟨v, rfl, hv, hb2⟩
      obtain ⟨a2, c2, rfl, hby⟩ := hv.bytes
      have HB2 := Lib.hid (HL.out.below.trans (hb2.mono HL.out.below.size))
      have HBY := Lib.hid hby
      have hpk := pack_len bs
      rw [HL.out.len] at hpk
      have hpl : (pack bs).length ≤ 1000 := by omega
      have HONE : Hid ((pad bs).count true = k) := Lib.hid (by rw [ones_pad, HL.out.ones])
      have HPAD := Lib.hid (bitsOf_pack bs)
      have HPL : Hid ((pad bs).length ≤ 3000) := Lib.hid (by rw [pad_len, HL.out.len]; omega)
      generalize pack bs = lp at *
      generalize pad bs = L at *
      clear hv hb2 hby hpk
      go_wp2_with fail
      refine (refof_any a2 _ c2 lp w2 HBY.out (by omega)).mono ?_
      rw [HPAD.out]
      rintro e w3 ⟨rfl, hb3⟩
      have HB3 := Lib.hid (HB2.out.trans (hb3.mono HB2.out.size))
      have htl := txt_len L
      obtain ⟨s, hs⟩ : ∃ s, s = txt L := ⟨_, rfl⟩
      have hg : ∀ k (h : k < L.length) (h2 : k < s.size), s[k] = chB L[k] := by
        subst hs; intro k h h2; exact txt_get L k h2
      rw [← hs] at htl ⊢
      have HG := Lib.hid hg
      have HTL := Lib.hid htl
      have hsz : s.size ≤ 3000 := by have := HPL.out; omega
      clear hg hs htl hb3
      go_wp2_with fail
      go_loop [8, 9] (fun o i => ∃ j : Nat, j ≤ s.size ∧ i = .int .i64 (j : Int) ∧ o = .int .i64 (((L.take j).count true : Nat) : Int)) (fun _ i => s.size - (intOf i).toNat)
      case atStart => exact ⟨0, Nat.zero_le _, rfl, rfl⟩
      case round =>
        obtain ⟨j, hj, rfl, rfl⟩ := hrel
        by_cases hjs : j < s.size
        · have hjL : j < L.length := by have := HTL.out; omega
          have hs1 := HG.out j hjL hjs
          have hcs : (L.take (j + 1)).count true = (L.take j).count true + (if L[j] = true then 1 else 0) := by
            rw [List.take_succ_eq_append_getElem hjL, List.count_append]
            cases L[j] <;> simp
          have hcl : (L.take j).count true ≤ 3000 := Nat.le_trans (List.count_le_length) (by rw [List.length_take]; omega)
          cases hb : L[j]
          · rw [hb] at hs1 hcs
            have hn : (chB false).toNat = 48 := rfl
            have HCS := Lib.hid hcs
            clear hcs hb
            generalize (L.take j).count true = x at *
            go_wp2_with fail
            go_round
            case rel => exact ⟨j + 1, by omega, by go_num, by rw [HCS.out]; rfl⟩
            case measure => simp [intOf]; omega
          · rw [hb] at hs1 hcs
            have hn : (chB true).toNat = 49 := rfl
            have HCS := Lib.hid hcs
            clear hcs hb
            generalize (L.take j).count true = x at *
            go_wp2_with fail
            go_round
            case rel => exact ⟨j + 1, by omega, by go_num, by rw [HCS.out]; go_num⟩
            case measure => simp [intOf]; omega
        · obtain rfl : j = s.size := by omega
          rw [show L.take s.size = L from List.take_of_length_le (by rw [HTL.out]; omega), HONE.out]
          go_wp2_with fail
          refine (told_any w3).mono ?_
          rintro e w4 ⟨rfl, hb4⟩
          have HB4 := Lib.hid (HB3.out.trans (hb4.mono HB3.out.size))
          clear hb4
          have hmin : min (k : Int) 60 = (k : Int) := by omega
          go_wp2_with fail
          go_ret
          exact ⟨by simp, HB4.out⟩
end Go.Proofs.Ytfnjokoeaboliaa.BitC
