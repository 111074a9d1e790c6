import Derived.Test.YtilfmmjjiiabgaaCrcC
namespace Go.Proofs.Ytilfmmjjiiabgaa.CrcC
open Go.RowKit Go.My CrcMath
def sliceLen : Value → Nat | .slice _ n _ => n | _ => 0
def Z38 : Array Value := Array.replicate 2048 (.int .u32 0)
theorem zero38 (w : World) : (zeroValue 86).run Try.prog w = .ok (.agg Z38) w := by kernel_rfl
theorem tab_new (w : World) : TabW w.heap.size (w.alloc (.cells Z38 86)) (w.alloc (.cells Z38 86)) (fun _ => 0#32) := by
  have hg : (w.alloc (.cells Z38 86)).heap[w.heap.size]? = some (.cells Z38 86 (0, 0)) := heap_alloc_new w _
  refine ⟨fun o ho => ?_, fun o => frozen_of_row _ _ _ _ _ hg, OnlyB.refl _ _⟩
  rw [cell_of_row _ _ _ _ _ _ hg]
  unfold Z38
  simp [ho]
/-! ### four bytes as one row -/
theorem ext_mod (b : UInt8) : (b.toNat : Int) % 4294967296 = ((ext b).toNat : Int) := by
  rw [ext_toNat]; have := b.toNat_lt; omega
theorem ext_shl (b : UInt8) (k : Nat) (c : Int) (hc : c = 2 ^ k) : (b.toNat : Int) % 4294967296 * c % 4294967296 = ((ext b <<< k).toNat : Int) := by
  rw [ext_mod, BitVec.toNat_shiftLeft, Nat.shiftLeft_eq, hc]; simp
theorem word_eq (x : BitVec 32) (b0 b1 b2 b3 : UInt8) :
    bits .xor .u32 (x.toNat : Int) (bits .or .u32 (bits .or .u32 (bits .or .u32 ((b0.toNat : Int) % 4294967296) ((b1.toNat : Int) % 4294967296 * 256 % 4294967296)) ((b2.toNat : Int) % 4294967296 * 65536 % 4294967296)) ((b3.toNat : Int) % 4294967296 * 16777216 % 4294967296))
      = ((x ^^^ word b0 b1 b2 b3).toNat : Int) := by
  rw [ext_mod, ext_shl b1 8 256 (by decide), ext_shl b2 16 65536 (by decide), ext_shl b3 24 16777216 (by decide), bv_or, bv_or, bv_or, bv_xor]
  rfl

theorem u8_xor_bv (x : BitVec 32) (b : UInt8) : bits .xor .u8 ((x.toNat : Int) % 256) (b.toNat : Int) = ((x.setWidth 8 ^^^ b.toBitVec).toNat : Int) := by
  have h : ((x.toNat : Int) % 256) = ((x.setWidth 8).toNat : Int) := by rw [BitVec.toNat_setWidth]; simp
  rw [h, u8_xor_nat _ _ (BitVec.isLt _) b.toNat_lt, BitVec.toNat_xor]; rfl

set_option maxRecDepth 100000 in
set_option maxHeartbeats 1000000 in
theorem eight_bv (r : BitVec 32) (a : Option Addr) (len cap : Nat) (l : List UInt8) (w : World) (hb : Bytes w a len cap l) :
    Calls Try.prog 52 #[.int .u32 (r.toNat : Int), .slice a len cap] w fun e w' => e = .returned (.int .u32 ((reg r l).toNat : Int)) ∧ Below w.heap.size w w' := by
  have hz := zero38
  have HB := Lib.hid hb
  clear hb
  go_enter Try.func52, Try.ntmps52
  go_wp2_with fail
  refine (fill_bv _ _ _ (tab_new w) rfl).mono ?_
  rintro e w2 ⟨rfl, F, hF, hT⟩
  have HF := Lib.hid hF
  have HT := Lib.hid hT
  clear hF hT
  have HB2 : Hid (Bytes w2 a len cap l) := Lib.hid (HB.out.below (Nat.le_refl _) (((Below.refl _ _).alloc (Nat.le_refl _) _).trans (HF.out.only.below (Nat.le_refl _))))
  have HBel : Hid (Below w.heap.size w w2) := Lib.hid (((Below.refl _ _).alloc (Nat.le_refl _) _).trans (HF.out.only.below (Nat.le_refl _)))
  go_wp2_with fail
  go_loopw [0, 1] (fun x b wr => ∃ (n : Nat) (a : Option Addr) (len cap : Nat) (l1 l2 : List UInt8), Hid (wr = w2.drewN n) ∧ b = .slice a len cap ∧ Hid (Bytes w2 a len cap l2) ∧ Hid (l = l1 ++ l2) ∧ x = .int .u32 ((reg r l1).toNat : Int)) (fun _ b _ => sliceLen b)
  case atStart => exact ⟨0, a, len, cap, [], l, Lib.hid rfl, rfl, HB2, Lib.hid rfl, rfl⟩
  case round =>
    clear HB HB2
    obtain ⟨n, a, len, cap, l1, l2, HW, rfl, HB, HL, rfl⟩ := hrel
    have hlc := HB.out.le_cap
    have hm := HB.out.cap_le
    obtain rfl := HW.out
    clear HW
    by_cases h8 : 8 ≤ len
    · obtain ⟨hlen, _, _, _, hb0⟩ := HB.out
      rcases hb0 with h0 | ⟨b, off, rfl, hbs, hc⟩
      · omega
      obtain ⟨b0, b1, b2, b3, b4, b5, b6, b7, l3, rfl⟩ : ∃ b0 b1 b2 b3 b4 b5 b6 b7 l3, l2 = b0 :: b1 :: b2 :: b3 :: b4 :: b5 :: b6 :: b7 :: l3 := by
        match l2, hlen with
        | b0 :: b1 :: b2 :: b3 :: b4 :: b5 :: b6 :: b7 :: l3, _ => exact ⟨b0, b1, b2, b3, b4, b5, b6, b7, l3, rfl⟩
        | [], h | [_], h | [_, _], h | [_, _, _], h | [_, _, _, _], h | [_, _, _, _, _], h | [_, _, _, _, _, _], h | [_, _, _, _, _, _, _], h => simp at h; omega
      have c0 := hc 0 (by simp)
      have c1 := hc 1 (by simp)
      have c2 := hc 2 (by simp)
      have c3 := hc 3 (by simp)
      have c4 := hc 4 (by simp)
      have c5 := hc 5 (by simp)
      have c6 := hc 6 (by simp)
      have c7 := hc 7 (by simp)
      simp only [List.getElem_cons_zero, List.getElem_cons_succ, Nat.add_zero] at c0 c1 c2 c3 c4 c5 c6 c7
      have hlen' : Hid (l3.length + 8 = len) := Lib.hid (by simpa using hlen)
      have Hc := Lib.hid hc
      clear hc hlen
      have i0 : (0 : Int) < (len : Int) := by omega
      have i1 : (1 : Int) < (len : Int) := by omega
      have i2 : (2 : Int) < (len : Int) := by omega
      have i3 : (3 : Int) < (len : Int) := by omega
      generalize hx : reg r l1 = x at *
      have HX := Lib.hid hx
      clear hx
      go_wp2_with fail
      go_quiet (fail)
      rw [word_eq]
      generalize hy : x ^^^ word b0 b1 b2 b3 = y
      have HY := Lib.hid hy
      clear hy
      have i4 : (4 : Int) < (len : Int) := by omega
      have i5 : (5 : Int) < (len : Int) := by omega
      have i6 : (6 : Int) < (len : Int) := by omega
      have i7 : (7 : Int) < (len : Int) := by omega
      have hy1 : y.toNat < 4294967296 := y.isLt
      have v4 := b4.toNat_lt
      have v5 := b5.toNat_lt
      have v6 := b6.toNat_lt
      have v7 := b7.toNat_lt
      have t0 := HF.out.cells (b7.toNat) (by omega)
      have t1 := HF.out.cells (256 + b6.toNat) (by omega)
      have t2 := HF.out.cells (512 + b5.toNat) (by omega)
      have t3 := HF.out.cells (768 + b4.toNat) (by omega)
      have t4 := HF.out.cells (1024 + y.toNat / 16777216) (by omega)
      have t5 := HF.out.cells (1280 + y.toNat / 65536 % 256) (by omega)
      have t6 := HF.out.cells (1536 + y.toNat / 256 % 256) (by omega)
      have t7 := HF.out.cells (1792 + y.toNat % 256) (by omega)
      go_wp2_with fail
      go_quiet (fail)
      have hF8 : Hid (bits BinOp.xor IntKind.u32 (bits BinOp.xor IntKind.u32 (bits BinOp.xor IntKind.u32 (bits BinOp.xor IntKind.u32 (bits BinOp.xor IntKind.u32 (bits BinOp.xor IntKind.u32 (bits BinOp.xor IntKind.u32
          ((F (1792 + y.toNat % 256)).toNat : Int) ((F (1536 + y.toNat / 256 % 256)).toNat : Int)) ((F (1280 + y.toNat / 65536 % 256)).toNat : Int)) ((F (1024 + y.toNat / 16777216)).toNat : Int)) ((F (768 + b4.toNat)).toNat : Int)) ((F (512 + b5.toNat)).toNat : Int)) ((F (256 + b6.toNat)).toNat : Int)) ((F b7.toNat).toNat : Int)
          = ((reg r (l1 ++ [b0, b1, b2, b3, b4, b5, b6, b7])).toNat : Int)) := Lib.hid (by
        rw [reg_append, HX.out, ← tab8 x b0 b1 b2 b3 b4 b5 b6 b7 y HY.out]
        have e0 := HT.out 0 b7.toNat (by omega) (by omega)
        rw [Nat.mul_zero, Nat.zero_add] at e0
        simp only [bv_xor, e0, HT.out 1 b6.toNat (by omega) (by omega), HT.out 2 b5.toNat (by omega) (by omega), HT.out 3 b4.toNat (by omega) (by omega),
          HT.out 4 (y.toNat / 16777216) (by omega) (by omega), HT.out 5 (y.toNat / 65536 % 256) (by omega) (by omega), HT.out 6 (y.toNat / 256 % 256) (by omega) (by omega), HT.out 7 (y.toNat % 256) (by omega) (by omega),
          show 1024 = 256 * 4 from rfl, show 1280 = 256 * 5 from rfl, show 1536 = 256 * 6 from rfl, show 1792 = 256 * 7 from rfl, show 512 = 256 * 2 from rfl, show 768 = 256 * 3 from rfl])
      by_cases hcap : cap = 8
      · have hl8 : len = 8 := by omega
        subst hcap hl8
        go_wp2_with fail
        go_roundw
        case rel => exact ⟨_, _, _, _, l1 ++ [b0, b1, b2, b3, b4, b5, b6, b7], l3, Lib.hid rfl, rfl, Lib.hid ⟨by have := hlen'.out; omega, by omega, by omega, (fun h => by cases h), .inl rfl⟩, Lib.hid (by rw [HL.out]; simp), by rw [hF8.out]⟩
        case measure => simp [sliceLen]
      · go_wp2_with fail
        go_roundw
        case rel =>
          refine ⟨_, _, _, _, l1 ++ [b0, b1, b2, b3, b4, b5, b6, b7], l3, Lib.hid rfl, rfl, Lib.hid ⟨by have := hlen'.out; omega, by omega, by omega, (fun h => by cases h), .inr ⟨b, off + 8, rfl, hbs, fun i hi => ?_⟩⟩, Lib.hid (by rw [HL.out]; simp), by rw [hF8.out]⟩
          have := Hc.out (i + 8) (by simp; omega)
          simpa [Nat.add_assoc, Nat.add_comm 8] using this
        case measure => simp [sliceLen]; omega
    · obtain ⟨rfl, _, _, _, hb0⟩ := HB.out
      clear HB
      go_wp2_with fail
      go_loop [0, 94] (fun x i => ∃ k : Nat, k ≤ l2.length ∧ i = .int .i64 k ∧ x = .int .u32 ((reg r (l1 ++ l2.take k)).toNat : Int)) (fun _ i => l2.length - (intOf i).toNat)
      case atStart => exact ⟨0, Nat.zero_le _, rfl, by simp⟩
      case round =>
        obtain ⟨k, hk, rfl, rfl⟩ := hrel
        by_cases hlt : k < l2.length
        · rcases hb0 with h0 | ⟨b, off, rfl, hbs, hc⟩
          · omega
          have hck := hc k hlt
          have hk1 : Hid (reg r (l1 ++ l2.take (k + 1)) = byteCstep (reg r (l1 ++ l2.take k)) l2[k]) :=
            Lib.hid (by rw [List.take_succ_eq_append_getElem hlt, ← List.append_assoc, reg_append]; rfl)
          generalize hx : reg r (l1 ++ l2.take k) = x at *
          generalize hb : l2[k] = b at *
          have hv := b.toNat_lt
          have hbx := u8_xor_bv x b
          generalize hq : (x.setWidth 8 ^^^ b.toBitVec).toNat = q at *
          have hq256 : q < 256 := by rw [← hq]; exact BitVec.isLt _
          have ht := HF.out.cells q (by omega)
          have HT1 := HT.out 0 q (by omega) hq256
          rw [Nat.mul_zero, Nat.zero_add] at HT1
          have HQ := Lib.hid hq
          have HX := Lib.hid hx
          have HBB := Lib.hid hb
          have H1 := Lib.hid HT1
          clear hc hx hq hb HT1
          go_wp2_with fail
          go_round
          case rel => exact ⟨k + 1, by omega, by go_num, by rw [bv_shr8, bv_xor, hk1.out, ← tab1, H1.out, HQ.out]⟩
          case measure => simp [intOf]; omega
        · go_wp2_with fail
          go_ret
          exact ⟨ret_int (by rw [List.take_of_length_le (by omega), ← HL.out]), below_drewN HBel.out n⟩
end Go.Proofs.Ytilfmmjjiiabgaa.CrcC
