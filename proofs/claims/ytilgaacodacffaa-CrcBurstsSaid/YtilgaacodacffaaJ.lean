import Derived.Test.YtilgaacodacffaaI
namespace Go.Proofs.Ytilgaacodacffaa
open Go.RowKit Go.My CrcMath

theorem own_some {E : TypeId} {base : Nat} {w : World} {v : Value} {l : List UInt8} (h : Own E base w v l) (hl : 0 < l.length) : ∃ g c, v = .slice (some ⟨g, 0, none⟩) l.length c ∧ base ≤ g ∧ l.length ≤ c ∧ c ≤ 9223372036854775807 := by
  rcases h.2 with ⟨_, h0⟩ | ⟨g, cap, cur, rfl, hg, _, hn, hm, _⟩
  · omega
  · exact ⟨g, cap, rfl, hg, hn, hm⟩

theorem first_in (at_ : Int) (n : Nat) (hn : 0 < n) (hn2 : n ≤ 2400) (_h1 : -9223372036854775808 ≤ at_) (_h2 : at_ ≤ 9223372036854775807) : ∃ f : Nat, f < n ∧ (wrap64 (at_.tmod (n : Int) + n)).tmod n = (f : Int) := by
  have e1 := Int.tmod_lt_of_pos at_ (show (0 : Int) < n by omega)
  have e2 : -(n : Int) < at_.tmod n := by
    have h := Int.tmod_lt_of_pos (-at_) (show (0 : Int) < n by omega)
    rw [Int.neg_tmod] at h
    omega
  rw [IntWalk.wrap64_in _ ⟨by omega, by omega⟩, Int.tmod_eq_emod_of_nonneg (by omega)]
  have e3 := Int.emod_nonneg (at_.tmod n + n) (show (n : Int) ≠ 0 by omega)
  have e4 := Int.emod_lt_of_pos (at_.tmod n + n) (show (0 : Int) < n by omega)
  exact ⟨((at_.tmod n + n) % n).toNat, by omega, by omega⟩

theorem ext_pow : ∀ s : Fin 8, ext (UInt8.ofNat (2 ^ s.val)) = 1#32 <<< s.val := by decide
theorem nat_pow8 : ∀ s : Fin 8, (2 ^ s.val % 256 : Int) = ((UInt8.ofNat (2 ^ s.val)).toNat : Int) := by decide
theorem bit_at (p : BitVec 32) (k : Nat) : (bits .and .u32 ((p.toNat : Int) / 2 ^ k) 1 == 1) = p.getLsbD k := by
  have h : ((p.toNat : Int) / 2 ^ k) = ((p >>> k).toNat : Int) := by
    rw [BitVec.toNat_ushiftRight, Nat.shiftRight_eq_div_pow]; simp
  rw [h, bv_low, BitVec.getLsbD_ushiftRight, Nat.add_zero]

set_option maxRecDepth 100000 in
set_option maxHeartbeats 4000000 in
theorem bursts_law (a1 : Option Addr) (len1 cap1 : Nat) (l1 : List UInt8) (at_ : Int) (p : BitVec 32) (hn1 : -9223372036854775808 ≤ at_) (hn2 : at_ ≤ 9223372036854775807) (w : World) (hb1 : Bytes w a1 len1 cap1 l1) :
    Calls Try.prog 7 #[.slice a1 len1 cap1, .int .i64 at_, .int .u32 (p.toNat : Int)] w fun e w' => e = .returned (.bool true) ∧ Below w.heap.size w w' := by
  have H1 := Lib.hid hb1
  have hm1 := hb1.cap_le
  have hl1 := hb1.le_cap
  clear hb1
  by_cases h : len1 = 0 ∨ 300 < len1
  · rcases h with h | h
    · subst h
      go_enter Try.func7, Try.ntmps7
      go_wp2_with fail
      refine (told_bv w).mono ?_
      rintro e w' ⟨rfl, hw⟩
      go_wp2_with fail
      go_ret
      exact ⟨rfl, hw⟩
    · have h0 : ((len1 : Int) == 0) = false := by simp; omega
      go_enter Try.func7, Try.ntmps7
      go_wp2_with fail
      refine (told_bv w).mono ?_
      rintro e w' ⟨rfl, hw⟩
      go_wp2_with fail
      go_ret
      exact ⟨rfl, hw⟩
  · have hpos : 0 < len1 := by omega
    have hle : len1 ≤ 300 := by omega
    have h0 : ((len1 : Int) == 0) = false := by simp; omega
    obtain rfl : len1 = l1.length := H1.out.len_eq.symm
    go_enter Try.func7, Try.ntmps7
    go_wp2_with (at_builtin; refine wpList_append_bytes rfl (.tmp 22) (.tmp 23) 23 rfl w.heap.size 5 Try.underlying23 info5 _ [] rfl (Own.empty 5 w (Nat.le_refl _)) a1 l1.length cap1 l1 rfl (H1.out.below (Nat.le_refl _) ((Below.refl _ _).alloc (Nat.le_refl _) _)) (by simp; omega) (by simp) ?_)
    intro v' w1 hown hg
    go_wp2_with fail
    obtain ⟨f, hf, hff⟩ := first_in at_ (8 * l1.length) (by omega) (by omega) hn1 hn2
    have e8 : ((8 * l1.length : Nat) : Int) = 8 * (l1.length : Int) := by omega
    rw [e8] at hff
    rw [hff]
    clear hff e8
    have hw1 := cloned_below hown hg
    obtain ⟨g, c, rfl, hg0, hgc, hgm⟩ := own_some hown (by omega)
    have HO := Lib.hid hown
    have HB := Lib.hid hw1
    clear hown hg hw1
    go_loopw [10, 11] (fun t i wr => ∃ (k : Nat) (b : Bool) (lc : List UInt8), k ≤ 32 ∧ f + k ≤ 8 * l1.length ∧ t = .bool b ∧ i = .int .i64 (k : Int) ∧ Hid (b = true ↔ low p k ≠ 0#32) ∧ Hid (Own 5 w.heap.size wr (.slice (some ⟨g, 0, none⟩) l1.length c) lc) ∧ Hid (lc.length = l1.length) ∧ Hid (crc 0#32 lc = crc 0#32 l1 ^^^ cstepN (8 * l1.length - f) (low p k)) ∧ Hid (Below w.heap.size w wr)) (fun _ i _ => 32 - (intOf i).toNat)
    case atStart => exact ⟨0, false, l1, by omega, by omega, rfl, rfl, Lib.hid (by simp [low]), HO, Lib.hid rfl, Lib.hid (by rw [low, cstepN_zero, BitVec.xor_zero]), HB⟩
    case round =>
      clear HO HB
      obtain ⟨k, b, lc, hk, hfk, rfl, rfl, HBI, HO, HLEN, HC, HB⟩ := hrel
      by_cases hlt : k < 32 ∧ f + k < 8 * l1.length
      · obtain ⟨hlt1, hlt2⟩ := hlt
        have hbit := bit_at p k
        cases hpk : p.getLsbD k <;> rw [hpk] at hbit
        · have HPK := Lib.hid hpk
          clear hpk
          go_wp2_with fail
          go_roundw
          case rel => exact ⟨k + 1, b, lc, by omega, by omega, rfl, by go_num, by rw [low_succ_not p k HPK.out]; exact HBI, HO, HLEN, by rw [low_succ_not p k HPK.out]; exact HC, HB⟩
          case measure => simp [intOf]; omega
        · have HPK := Lib.hid hpk
          clear hpk
          have hq : (f + k) / 8 < lc.length := by have := HLEN.out; omega
          have HL := HO.out
          unfold Own at HL
          rw [HLEN.out] at HL
          have hcell := World.ownsRow.cellAt HL ((f + k) / 8) (by omega)
          rw [List.getElem?_map, List.getElem?_eq_getElem hq] at hcell
          simp only [Option.map_some, bv] at hcell
          have hfr := World.ownsRow.frozenAt HL ((f + k) / 8)
          have HLL := Lib.hid HL
          have HQ := Lib.hid hq
          clear HL
          generalize hx : lc[(f + k) / 8] = x at *
          have HX := Lib.hid hx
          clear hx
          go_wp2_with fail
          go_roundw
          case rel =>
            have hs : (f + k) % 8 < 8 := Nat.mod_lt _ (by omega)
            have he := ext_pow ⟨(f + k) % 8, hs⟩
            have hv := nat_pow8 ⟨(f + k) % 8, hs⟩
            simp only at he hv
            have hval : Value.int IntKind.u8 (bits BinOp.xor IntKind.u8 (x.toNat : Int) (2 ^ ((f + k) % 8) % 256)) = bv (x ^^^ UInt8.ofNat (2 ^ ((f + k) % 8))) := by
              rw [hv, u8_xor_nat _ _ x.toNat_lt (UInt8.toNat_lt _), ← UInt8.toNat_xor]; rfl
            rw [hval]
            refine ⟨k + 1, true, lc.set ((f + k) / 8) (x ^^^ UInt8.ofNat (2 ^ ((f + k) % 8))), by omega, by omega, rfl, by go_num, Lib.hid ⟨fun _ => (low_succ_set p k hlt1 HPK.out).2, fun _ => rfl⟩, Lib.hid ?_, Lib.hid (by rw [List.length_set, HLEN.out]), Lib.hid ?_, Lib.hid (HB.out.setCell hg0 _)⟩
            · have := (HLL.out.stored ((f + k) / 8) (bv (x ^^^ UInt8.ofNat (2 ^ ((f + k) % 8))))).1
              unfold Own
              rw [List.length_set, HLEN.out, List.map_set]
              exact this
            · have hfl := crc_flip lc ((f + k) / 8) ((f + k) % 8) hq hs _ he
              have hxx : lc[(f + k) / 8]'hq = x := HX.out
              simp only [hxx] at hfl
              rw [hfl, HC.out, burst_step p (8 * l1.length - f) k hlt1 (by omega) HPK.out, HLEN.out, BitVec.xor_assoc]
              congr 3
              omega
          case measure => simp [intOf]; omega
      · have hfin : Hid ((((crc 0#32 l1).toNat : Int) != ((crc 0#32 lc).toNat : Int)) = b) := Lib.hid (by
          rw [Bool.eq_iff_iff, bne_iff_ne, HBI.out, ← ne_of_burst _ _ _ _ HC.out]
          constructor
          · intro h he; exact h (by rw [he])
          · intro h he; exact h (BitVec.eq_of_toNat_eq (by omega)))
        obtain ⟨ac, cc, hec, hbc⟩ := HO.out.bytes
        rw [HLEN.out] at hec hbc
        simp only [Value.slice.injEq, true_and] at hec
        obtain ⟨rfl, rfl⟩ := hec
        have HBC := Lib.hid hbc
        have HB1 := Lib.hid (H1.out.below (Nat.le_refl _) HB.out)
        clear hbc
        rcases (show k = 32 ∨ (k < 32 ∧ f + k = 8 * l1.length) from by omega) with hc | ⟨hc1, hc2⟩
        all_goals
          go_wp2_with fail
          refine (told_bv wr).mono ?_
          rintro e w2 ⟨rfl, hw2⟩
          have b2 := HB.out.trans (hw2.mono HB.out.size)
          have HB2 := Lib.hid (HB1.out.below (Nat.le_refl _) hw2)
          have HC2 := Lib.hid (HBC.out.below (Nat.le_refl _) hw2)
          go_wp2_with fail
          refine (sum_bv _ _ _ l1 w2 HB2.out).mono ?_
          rintro e w3 ⟨rfl, hw3⟩
          have b3 := b2.trans (hw3.mono b2.size)
          have HC3 := Lib.hid (HC2.out.below (Nat.le_refl _) hw3)
          go_wp2_with fail
          refine (sum_bv _ _ _ lc w3 HC3.out).mono ?_
          rintro e w4 ⟨rfl, hw4⟩
          have b4 := b3.trans (hw4.mono b3.size)
          go_wp2_with fail
          rw [hfin.out]
          go_ret
          exact ⟨by simp, b4⟩

theorem wf_u32 {a : Int} (h : (Lit.int .u32 a).wf = true) : ∃ c : BitVec 32, a = (c.toNat : Int) := by
  simp [Lit.wf, IntKind.min, IntKind.max, IntKind.bits, IntKind.signed] at h
  exact u32_ex a (by omega) (by omega)
theorem wf_i64 {a : Int} (h : (Lit.int .i64 a).wf = true) : -9223372036854775808 ≤ a ∧ a ≤ 9223372036854775807 := by
  simp [Lit.wf, IntKind.min, IntKind.max, IntKind.bits, IntKind.signed] at h
  omega
end Go.Proofs.Ytilgaacodacffaa
