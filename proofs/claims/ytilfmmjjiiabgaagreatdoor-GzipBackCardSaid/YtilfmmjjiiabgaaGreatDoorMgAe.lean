import Derived.Test.YtilfmmjjiiabgaaGreatDoorMgAd
import Derived.StillTailTactics
import Derived.Deep.QuietTactic
import Derived.BigQuiet
import Derived.Deep.MidRow

section
namespace Go.Proofs.YtilfmmjjiiabgaaGreatDoor.CrcC
open Go.RowKit Go.My CrcMath
theorem bv_not (c : BitVec 32) : bits .xor .u32 IntKind.u32.max (c.toNat : Int) = ((c ^^^ ones).toNat : Int) := by
  rw [BitVec.xor_comm, ← bv_xor]; rfl
theorem bv_and1 (c : BitVec 32) : bits .and .u32 (c.toNat : Int) 1 = if c.getLsbD 0 then 1 else 0 := by
  have h := bv_low c
  rw [show (1 : Int) = ((1#32 : BitVec 32).toNat : Int) from rfl, bv_and] at *
  have : (c &&& 1#32).toNat = c.toNat % 2 := by
    rw [BitVec.toNat_and]; simp [Nat.and_one_is_mod]
  rw [this] at *
  rw [BitVec.getLsbD, Nat.testBit_zero]
  simp
  split <;> omega
set_option maxHeartbeats 400000 in
theorem ref_bv (c : BitVec 32) (a : Option Addr) (len cap : Nat) (l : List UInt8) (w : World) (hb : Bytes w a len cap l) :
    Calls Tryz.prog 9 #[.int .u32 (c.toNat : Int), .slice a len cap] w fun e w' => e = .returned (.int .u32 ((crc c l).toNat : Int)) ∧ w = w' := by
  obtain ⟨rfl, hlc, hcm, _, hb⟩ := hb
  have hm : l.length ≤ 9223372036854775807 := by omega
  clear hlc hcm
  go_enter Tryz.func9, Tryz.ntmps9
  go_wp2
  go_loop [5, 6] (fun x i => ∃ k : Nat, k ≤ l.length ∧ i = .int .i64 k ∧ x = .int .u32 ((reg (c ^^^ ones) (l.take k)).toNat : Int)) (fun _ i => l.length - (intOf i).toNat)
  case atStart => exact ⟨0, Nat.zero_le _, rfl, by rw [bv_not]; rfl⟩
  case round =>
    obtain ⟨k, hk, rfl, rfl⟩ := hrel
    by_cases hlt : k < l.length
    · rcases hb with h0 | ⟨b, off, rfl, hbs, hc⟩
      · omega
      have hck := hc k hlt
      have hv : (l[k].toNat : Int) < 256 := by have := l[k].toNat_lt; omega
      clear hc
      go_wp2
      go_loop [5, 7] (fun x i => ∃ j : Nat, j ≤ 8 ∧ i = .int .i64 j ∧ x = .int .u32 ((cstepN j (reg (c ^^^ ones) (l.take k) ^^^ ext l[k])).toNat : Int)) (fun _ i => 8 - (intOf i).toNat)
      case atStart => exact ⟨0, by omega, rfl, by rw [cstepN, ← bv_xor, ext_toNat]⟩
      case round =>
        obtain ⟨j, hj, rfl, rfl⟩ := hrel
        clear hck hv
        by_cases hlt8 : j < 8
        · generalize hz : cstepN j (reg (c ^^^ ones) (l.take k) ^^^ ext l[k]) = z
          have HZ := Lib.hid hz
          clear hz
          have h1 := bv_and1 z
          cases hb0 : z.getLsbD 0
          · rw [hb0] at h1
            simp only [Bool.false_eq_true, if_false] at h1
            go_wp2
            go_round
            case rel => exact ⟨j + 1, by omega, by go_num, by rw [cstepN_succ', HZ.out, bv_half, cstep, if_neg (by rw [hb0]; simp)]⟩
            case measure => simp [intOf]; omega
          · rw [hb0] at h1
            simp only [if_true] at h1
            go_wp2
            go_round
            case rel => exact ⟨j + 1, by omega, by go_num, by rw [cstepN_succ', HZ.out, bv_half, cstep, if_pos hb0, ← bv_xor]; rfl⟩
            case measure => simp [intOf]; omega
        · obtain rfl : j = 8 := by omega
          go_wp2
          go_round
          case rel => exact ⟨k + 1, by omega, by go_num, by rw [List.take_succ_eq_append_getElem hlt, reg_append]; rfl⟩
          case measure => simp [intOf]; omega
    · go_wp2
      go_ret
      exact ⟨ret_int (by rw [bv_not, List.take_of_length_le (by omega)]; rfl), rfl⟩

end Go.Proofs.YtilfmmjjiiabgaaGreatDoor.CrcC
end

section
namespace Go.Proofs.YtilfmmjjiiabgaaGreatDoor.CrcC
open Go.RowKit Go.My CrcMath

/-- Only block B may have changed. -/
structure OnlyB (B : Nat) (w w' : World) : Prop where
  os : w'.os = w.os
  tape : w'.tape = w.tape
  output : w'.output = w.output
  size : w'.heap.size = w.heap.size
  block : ∀ k, k ≠ B → w'.heap[k]? = w.heap[k]?

theorem OnlyB.refl (B : Nat) (w : World) : OnlyB B w w := ⟨rfl, rfl, rfl, rfl, fun _ _ => rfl⟩
theorem OnlyB.trans {B : Nat} {a b c : World} (h : OnlyB B a b) (k : OnlyB B b c) : OnlyB B a c :=
  ⟨k.os.trans h.os, k.tape.trans h.tape, k.output.trans h.output, k.size.trans h.size, fun i hi => (k.block i hi).trans (h.block i hi)⟩
theorem OnlyB.drew {B : Nat} {a w : World} (h : OnlyB B a w) : OnlyB B a w.drew := ⟨h.os, h.tape, h.output, h.size, h.block⟩
theorem OnlyB.drewN {B : Nat} {a w : World} (h : OnlyB B a w) (n : Nat) : OnlyB B a (w.drewN n) := ⟨h.os, h.tape, h.output, h.size, h.block⟩
theorem OnlyB.set {B : Nat} {a w : World} (h : OnlyB B a w) (o : Nat) (u : Value) : OnlyB B a (w.setCell ⟨B, o, none⟩ u) :=
  h.trans ⟨rfl, rfl, rfl, by simp [World.setCell], fun k hk => Below.heap_setCell _ _ _ _ hk⟩
theorem OnlyB.below {B : Nat} {a w : World} (h : OnlyB B a w) {C : Nat} (hC : C ≤ B) : Below C a w :=
  ⟨h.os, h.tape, h.output, by rw [h.size]; exact Nat.le_refl _, fun k hk => h.block k (by omega)⟩

def upd (F : Nat → BitVec 32) (o : Nat) (x : BitVec 32) : Nat → BitVec 32 := fun i => if i = o then x else F i

structure TabW (B : Nat) (w0 w : World) (F : Nat → BitVec 32) : Prop where
  cells : ∀ o, o < 2048 → w.cell? ⟨B, o, none⟩ = some (.int .u32 ((F o).toNat : Int))
  free : ∀ o, w.frozen? ⟨B, o, none⟩ = false
  only : OnlyB B w0 w

theorem TabW.drew {B : Nat} {w0 w : World} {F : Nat → BitVec 32} (h : TabW B w0 w F) : TabW B w0 w.drew F := ⟨h.cells, h.free, h.only.drew⟩
theorem TabW.drewN {B : Nat} {w0 w : World} {F : Nat → BitVec 32} (h : TabW B w0 w F) (n : Nat) : TabW B w0 (w.drewN n) F := ⟨h.cells, h.free, h.only.drewN n⟩
theorem TabW.set {B : Nat} {w0 w : World} {F : Nat → BitVec 32} (h : TabW B w0 w F) (o : Nat) (ho : o < 2048) (x : BitVec 32) :
    TabW B w0 (w.setCell ⟨B, o, none⟩ (.int .u32 (x.toNat : Int))) (upd F o x) := by
  refine ⟨fun i hi => ?_, fun i => by simp [h.free], h.only.set o _⟩
  by_cases e : i = o
  · subst e
    rw [World.cell?_setCell_same _ _ _ (h.cells i hi)]
    simp [upd]
  · rw [World.cell?_setCell_other _ _ _ _ (by intro hh; injection hh with _ h2 _; exact e h2.symm), h.cells i hi]
    simp [upd, e]



/-! ### the first table: finite facts, by the kernel -/
def bitF (j : Nat) : Nat := 256 / 2 ^ (j + 1)
theorem bitF_facts : ∀ j : Fin 8, 0 < bitF j.val ∧ bitF j.val ≤ 128 ∧ bitF j.val / 2 = bitF (j.val + 1) ∧ 2 * bitF j.val * 2 ^ j.val = 256 ∧ 2 ^ (8 - j.val) = 2 * bitF j.val ∧ 2 ^ (8 - (j.val + 1)) = bitF j.val := by decide
theorem T_half : ∀ j : Fin 8, ∀ m : Fin 128, 2 * bitF j.val * m.val < 256 → T 0 (2 * bitF j.val * m.val + bitF j.val) = T 0 (2 * bitF j.val * m.val) ^^^ cstep (cstepN j.val 1#32) := by decide +kernel

theorem half_next {G : Nat → BitVec 32} {bit m : Nat} (hb : 0 < bit) {x : BitVec 32} (hx : x = T 0 (2 * bit * m + bit))
    (hG : ∀ u, u < 256 → ((u < 2 * bit * m ∧ u % bit = 0) ∨ u % (2 * bit) = 0) → G u = T 0 u) :
    ∀ u, u < 256 → ((u < 2 * bit * (m + 1) ∧ u % bit = 0) ∨ u % (2 * bit) = 0) → upd G (2 * bit * m + bit) x u = T 0 u := by
  intro u hu h
  unfold upd
  by_cases e : u = 2 * bit * m + bit
  · rw [if_pos e, hx, e]
  · rw [if_neg e]
    apply hG u hu
    rcases h with ⟨h1, h2⟩ | h
    · by_cases h3 : u % (2 * bit) = 0
      · exact .inr h3
      · refine .inl ⟨?_, h2⟩
        obtain ⟨q, rfl⟩ := Nat.dvd_of_mod_eq_zero h2
        have e1 : 2 * bit * (m + 1) = bit * (2 * m + 2) := by rw [Nat.mul_comm 2 bit, Nat.mul_assoc]; congr 1
        have e2 : 2 * bit * m + bit = bit * (2 * m + 1) := by rw [Nat.mul_comm 2 bit, Nat.mul_assoc, Nat.mul_add]; omega
        have e3 : 2 * bit * m = bit * (2 * m) := by rw [Nat.mul_comm 2 bit, Nat.mul_assoc]
        rw [e1] at h1
        rw [e2] at e
        rw [e3]
        have hq : q < 2 * m + 2 := Nat.lt_of_mul_lt_mul_left h1
        have hq2 : q ≠ 2 * m + 1 := fun hh => e (by rw [hh])
        exact Nat.mul_lt_mul_of_pos_left (by
          by_cases hq3 : q < 2 * m
          · exact hq3
          · exfalso
            have : q = 2 * m := by omega
            apply h3
            rw [this, ← e3, Nat.mul_mod_right]) hb
    · exact .inr h

/-! ### the further tables -/
theorem T_next (k v : Nat) : T (k + 1) v = (T k v) >>> 8 ^^^ T 0 ((T k v).setWidth 8).toNat := by
  unfold T
  have h : (BitVec.ofNat 32 ((cstepN (8 * (k + 1)) (BitVec.ofNat 32 v)).setWidth 8).toNat) = ((cstepN (8 * (k + 1)) (BitVec.ofNat 32 v)).setWidth 8).setWidth 32 := by
    apply BitVec.eq_of_toNat_eq
    simp
  rw [h, show 8 * (k + 1 + 1) = 8 * (k + 1) + 8 from by omega, cstepN_add, cstepN_8]

def rowL (F : Nat → BitVec 32) (k : Nat) : List Value := (List.range 256).map fun v => .int .u32 ((F (256 * k + v)).toNat : Int)

theorem rowL_at {B k : Nat} {w0 w : World} {F : Nat → BitVec 32} (h : TabW B w0 w F) (hk : k < 8) : w.rangeAt B (k * 256) (rowL F k) := by
  rw [Nat.mul_comm]
  intro j v hv
  unfold rowL at hv
  have hj : j < 256 := by
    by_cases hj : j < 256
    · exact hj
    · rw [List.getElem?_eq_none (by simp; omega)] at hv; cases hv
  simp [hj] at hv
  rw [h.cells _ (by omega), hv]

theorem bv_shr8 (a : BitVec 32) : (a.toNat : Int) / (256 : Int) = ((a >>> 8).toNat : Int) := by
  rw [BitVec.toNat_ushiftRight, Nat.shiftRight_eq_div_pow]; simp

theorem rowL_len (F : Nat → BitVec 32) (k : Nat) : (rowL F k).length = 256 := by simp [rowL]
theorem info37 (F : Nat → BitVec 32) (k : Nat) : (Tryz.prog.info? 117).map (·.size) = some (rowL F k).length := by
  rw [rowL_len]; kernel_rfl
theorem index_row (F : Nat → BitVec 32) (k v : Nat) (hv : v < 256) (w : World) :
    (Instr.index 117 (.agg (rowL F k).toArray) (.int .i64 (v : Int))).run Tryz.prog w = .ok (.int .u32 ((F (256 * k + v)).toNat : Int)) w := by
  have hs : (sizeOf 32).run Tryz.prog w = .ok 1 w := by kernel_rfl
  have hu : Tryz.prog.underlying 117 = some (.array 256 32) := by kernel_rfl
  have hget : (rowL F k)[v]? = some (.int .u32 ((F (256 * k + v)).toNat : Int)) := by
    simp [rowL, hv]
  simp [Instr.index, asIntOf, Sem.run_bind, run_underlying hu w, hs, part, hget, hv]

set_option maxRecDepth 100000 in
set_option maxHeartbeats 1000000 in
theorem fill_bv (B : Nat) (w : World) (F0 : Nat → BitVec 32) (h0 : TabW B w w F0) (hz : F0 0 = 0#32) :
    Calls Tryz.prog 77 #[.pointer (some ⟨B, 0, none⟩)] w fun e w' => e = .returned (.tuple #[]) ∧ ∃ F, TabW B w w' F ∧ ∀ k v, k < 8 → v < 256 → F (256 * k + v) = T k v := by
  have H0 := Lib.hid h0
  have HZ := Lib.hid hz
  clear h0 hz
  go_enter Tryz.func77, Tryz.ntmps77
  go_wp2
  go_loopw [2, 3] (fun r i wr => ∃ j : Nat, j ≤ 8 ∧ i = .int .i64 (bitF j : Int) ∧ r = .int .u32 ((cstepN j 1#32).toNat : Int) ∧ Hid (∃ F, TabW B w wr F ∧ ∀ v, v < 256 → v % 2 ^ (8 - j) = 0 → F v = T 0 v)) (fun _ i _ => (intOf i).toNat)
  case atStart => exact ⟨0, by omega, rfl, rfl, Lib.hid ⟨F0, H0.out, fun v hv hm => by
    have hm' : v % 256 = 0 := hm
    obtain rfl : v = 0 := by omega
    rw [HZ.out]; rfl⟩⟩
  case round =>
    obtain ⟨j, hj, rfl, rfl, HF⟩ := hrel
    by_cases hlt : j < 8
    · obtain ⟨hpos, hle, hhalf, hall, hpow, hpow'⟩ := bitF_facts ⟨j, hlt⟩
      have hT := T_half ⟨j, hlt⟩
      simp only at hpos hle hhalf hall hpow hpow' hT
      have HH := Lib.hid hhalf
      have HA := Lib.hid hall
      have HP := Lib.hid hpow
      have HP' := Lib.hid hpow'
      have HT := Lib.hid hT
      clear hhalf hall hpow hpow' hT
      go_wp2_with (go_at_call 76; refine (step_bv _ _).mono ?_; rintro e w' ⟨rfl, rfl⟩)
      go_loopw [4] (fun i wr => ∃ m : Nat, m ≤ 2 ^ j ∧ i = .int .i64 ((2 * bitF j * m : Nat) : Int) ∧ Hid (∃ F, TabW B w wr F ∧ ∀ v, v < 256 → ((v < 2 * bitF j * m ∧ v % bitF j = 0) ∨ v % (2 * bitF j) = 0) → F v = T 0 v)) (fun i _ => 256 - (intOf i).toNat)
      case atStart =>
        obtain ⟨F, hF, hFT⟩ := HF.out
        exact ⟨0, Nat.zero_le _, rfl, Lib.hid ⟨F, hF, fun v hv h => hFT v hv (by
          rw [HP.out]
          rcases h with h | h
          · omega
          · exact h)⟩⟩
      case round =>
        obtain ⟨m, hm, rfl, HG⟩ := hrel
        have hm2 : 2 * bitF j * m ≤ 256 := by rw [← HA.out]; exact Nat.mul_le_mul_left _ hm
        by_cases hlv : 2 * bitF j * m < 256
        · have hmj : m < 2 ^ j := by
            apply Nat.lt_of_mul_lt_mul_left (a := 2 * bitF j)
            rw [HA.out]; exact hlv
          have hm3 : 2 * bitF j * (m + 1) ≤ 256 := by rw [← HA.out]; exact Nat.mul_le_mul_left _ hmj
          have hm128 : m < 128 := by
            have : 1 * m ≤ bitF j * m := Nat.mul_le_mul_right _ hpos
            rw [Nat.mul_assoc] at hlv
            omega
          have ht := HT.out ⟨m, hm128⟩ hlv
          simp only at ht
          obtain ⟨G, hG, hGT⟩ := HG.out
          have hnext : 2 * bitF j * (m + 1) = 2 * bitF j * m + 2 * bitF j := Nat.mul_succ _ _
          have hGv : G (2 * bitF j * m) = T 0 (2 * bitF j * m) := hGT _ hlv (.inr (Nat.mul_mod_right _ _))
          have hnew := half_next (x := G (2 * bitF j * m) ^^^ cstep (cstepN j 1#32)) hpos (by rw [ht, hGv]) hGT
          have HN := Lib.hid hnew
          have HNE := Lib.hid hnext
          clear hnew hGv ht hGT
          generalize hv : 2 * bitF j * m = v at *
          generalize hb : bitF j = bit at *
          generalize hv2 : 2 * bit * (m + 1) = v2 at *
          have hvb : v + bit < 256 := by omega
          have hc1 := hG.cells v (by omega)
          have hc2 := hG.cells (v + bit) (by omega)
          have hfr := hG.free (v + bit)
          have HHG := Lib.hid hG
          have HB := Lib.hid hb
          have HV := Lib.hid hv
          have HV2 := Lib.hid hv2
          clear hG HG hb hv hv2 hnext
          go_wp2_with fail
          go_region
          go_wp2
          go_roundw
          case rel =>
            refine ⟨m + 1, hmj, ?_, Lib.hid ⟨_, ?_, fun u hu h => HN.out u hu (by rw [HV2.out] at h; exact h)⟩⟩
            · rw [HV2.out, HNE.out]; simp
            · rw [bv_xor]
              exact (HHG.out.set _ (by omega) _).drew
          case measure => simp [intOf]; omega
        · obtain ⟨G, hG, hGT⟩ := HG.out
          have hv256 : 2 * bitF j * m = 256 := by omega
          have HGT : Hid (∀ u, u < 256 → u % 2 ^ (8 - (j + 1)) = 0 → G u = T 0 u) := Lib.hid (by rw [HP'.out]; intro u hu h; exact hGT u hu (.inl ⟨by omega, h⟩))
          have HHG := Lib.hid hG
          have HV := Lib.hid hv256
          clear hG hGT HG hv256
          generalize hvv : 2 * bitF j * m = v at *
          clear hvv
          go_wp2
          go_roundw
          case rel => exact ⟨j + 1, by omega, by rw [← HH.out]; simp, by rw [cstepN_succ'], Lib.hid ⟨G, HHG.out, HGT.out⟩⟩
          case measure => simp [intOf]; omega
    · obtain rfl : j = 8 := by omega
      have h8 : ((bitF 8 : Nat) : Int) = 0 := rfl
      rw [h8]
      clear h8
      obtain ⟨G, hG, hGT⟩ := HF.out
      have HG : Hid (∃ F, TabW B w wr F ∧ ∀ k v, k < 0 + 1 → v < 256 → F (256 * k + v) = T k v) :=
        Lib.hid ⟨G, hG, fun k v hk hv => by obtain rfl : k = 0 := by omega
                                            rw [Nat.mul_zero, Nat.zero_add]; exact hGT v hv (Nat.mod_one v)⟩
      clear HF hG hGT
      go_wp2
      go_loopw [35] (fun i wr => ∃ k : Nat, k ≤ 7 ∧ i = .int .i64 (k : Int) ∧ Hid (∃ F, TabW B w wr F ∧ ∀ k' v, k' < k + 1 → v < 256 → F (256 * k' + v) = T k' v)) (fun i _ => 7 - (intOf i).toNat)
      case atStart => exact ⟨0, by omega, rfl, HG⟩
      case round =>
        clear HG
        obtain ⟨k, hk, rfl, HF⟩ := hrel
        by_cases hk7 : k < 7
        · obtain ⟨F, hF, hFT⟩ := HF.out
          have hrow := rowL_at hF (by omega : k < 8)
          have hidx := fun v hv w => index_row F k v hv w
          have HI := Lib.hid hidx
          have HR := Lib.hid hrow
          clear hidx hrow HF
          go_wp2_with (refine wpList_load_mid rfl 117 _ rfl B (k * 256) rfl (rowL F k) _ HR.out Tryz.underlying117 rfl (info37 F k) ?_)
          obtain ⟨wo, rfl⟩ : ∃ wo : World, wo = wr := ⟨_, rfl⟩
          go_loopw [43] (fun i wr => ∃ v : Nat, v ≤ 256 ∧ i = .int .i64 (v : Int) ∧ Hid (∃ G, TabW B w wr G ∧ (∀ k' u, k' < k + 1 → u < 256 → G (256 * k' + u) = T k' u) ∧ ∀ u, u < v → G (256 * (k + 1) + u) = T (k + 1) u)) (fun i _ => 256 - (intOf i).toNat)
          case atStart => exact ⟨0, by omega, rfl, Lib.hid ⟨F, hF, hFT, fun u hu => by omega⟩⟩
          case round =>
            clear hF HR
            have HFT := Lib.hid hFT
            clear hFT
            obtain ⟨v, hv, rfl, HG⟩ := hrel
            by_cases hv256 : v < 256
            · obtain ⟨G, hG, hGT, hGU⟩ := HG.out
              have hidx := HI.out v hv256 wr
              have hTx : F (256 * k + v) = T k v := HFT.out k v (by omega) hv256
              generalize hx : F (256 * k + v) = x at *
              have hx8 : x.toNat % 256 < 256 := Nat.mod_lt _ (by omega)
              have hc1 := hG.cells (x.toNat % 256) (by omega)
              have hc2 := hG.cells ((k + 1) * 256 + v) (by omega)
              have hfr := hG.free ((k + 1) * 256 + v)
              have HTX := Lib.hid hTx
              have HX := Lib.hid hx
              have HHG := Lib.hid hG
              have HGT := Lib.hid hGT
              have HGU := Lib.hid hGU
              clear hTx hx hG hGT hGU HG
              go_wp2_with fail
              go_region
              go_wp2
              go_roundw
              case rel =>
                refine ⟨v + 1, by omega, by go_num, Lib.hid ⟨upd G (256 * (k + 1) + v) (x >>> 8 ^^^ G (x.toNat % 256)), ?_, ?_, ?_⟩⟩
                · rw [bv_shr8, bv_xor, Nat.mul_comm 256]
                  exact (HHG.out.set _ (by omega) _).drew
                · intro k' u hk' hu
                  rw [upd, if_neg (by omega)]
                  exact HGT.out k' u hk' hu
                · intro u hu
                  by_cases e : u = v
                  · subst e
                    rw [upd, if_pos rfl, T_next, ← HTX.out, BitVec.toNat_setWidth]
                    have := HGT.out 0 (x.toNat % 256) (by omega) hx8
                    rw [Nat.mul_zero, Nat.zero_add] at this
                    rw [this]
                  · rw [upd, if_neg (by omega)]
                    exact HGU.out u (by omega)
              case measure => simp [intOf]; omega
            · obtain rfl : v = 256 := by omega
              go_wp2
              go_roundw
              case rel =>
                obtain ⟨G, hG, hGT, hGU⟩ := HG.out
                exact ⟨k + 1, by omega, by go_num, Lib.hid ⟨G, hG, fun k' u hk' hu => by
                  by_cases e : k' = k + 1
                  · subst e; exact hGU u hu
                  · exact hGT k' u (by omega) hu⟩⟩
              case measure => simp [intOf]; omega
        · obtain rfl : k = 7 := by omega
          go_wp2
          go_end0
          obtain ⟨F, hF, hFT⟩ := HF.out
          exact ⟨rfl, F, hF, fun k v hk hv => hFT k v hk hv⟩
end Go.Proofs.YtilfmmjjiiabgaaGreatDoor.CrcC
end

section
namespace Go.Proofs.YtilfmmjjiiabgaaGreatDoor.CrcC
open Go.RowKit Go.My CrcMath
def sliceLen : Value → Nat | .slice _ n _ => n | _ => 0
def Z38 : Array Value := Array.replicate 2048 (.int .u32 0)
theorem zero38 (w : World) : (zeroValue 118).run Tryz.prog w = .ok (.agg Z38) w := by kernel_rfl
theorem tab_new (w : World) : TabW w.heap.size (w.alloc (.cells Z38 118)) (w.alloc (.cells Z38 118)) (fun _ => 0#32) := by
  have hg : (w.alloc (.cells Z38 118)).heap[w.heap.size]? = some (.cells Z38 118 (0, 0)) := heap_alloc_new w _
  refine ⟨fun o ho => ?_, fun o => frozen_of_row _ _ _ _ _ hg, OnlyB.refl _ _⟩
  rw [cell_of_row _ _ _ _ _ _ hg]
  unfold Z38
  simp [ho]
/-! ### four bytes as one row -/
theorem ext_mod (b : UInt8) : (b.toNat : Int) % 4294967296 = ((ext b).toNat : Int) := by
  rw [ext_toNat]; have := b.toNat_lt; omega
theorem ext_shl (b : UInt8) (k : Nat) (c : Int) (hc : c = 2 ^ k) : (b.toNat : Int) % 4294967296 * c % 4294967296 = ((ext b <<< k).toNat : Int) := by
  rw [ext_mod, BitVec.toNat_shiftLeft, Nat.shiftLeft_eq, hc]; simp
theorem word_eq (x : BitVec 32) (b0 b1 b2 b3 : UInt8) :
    bits .xor .u32 (x.toNat : Int) (bits .or .u32 (bits .or .u32 (bits .or .u32 ((b0.toNat : Int) % 4294967296) ((b1.toNat : Int) % 4294967296 * 256 % 4294967296)) ((b2.toNat : Int) % 4294967296 * 65536 % 4294967296)) ((b3.toNat : Int) % 4294967296 * 16777216 % 4294967296))
      = ((x ^^^ word b0 b1 b2 b3).toNat : Int) := by
  rw [ext_mod, ext_shl b1 8 256 (by decide), ext_shl b2 16 65536 (by decide), ext_shl b3 24 16777216 (by decide), bv_or, bv_or, bv_or, bv_xor]
  rfl

theorem u8_xor_bv (x : BitVec 32) (b : UInt8) : bits .xor .u8 ((x.toNat : Int) % 256) (b.toNat : Int) = ((x.setWidth 8 ^^^ b.toBitVec).toNat : Int) := by
  have h : ((x.toNat : Int) % 256) = ((x.setWidth 8).toNat : Int) := by rw [BitVec.toNat_setWidth]; simp
  rw [h, u8_xor_nat _ _ (BitVec.isLt _) b.toNat_lt, BitVec.toNat_xor]; rfl

set_option maxRecDepth 100000 in
set_option maxHeartbeats 1000000 in
theorem eight_bv (r : BitVec 32) (a : Option Addr) (len cap : Nat) (l : List UInt8) (w : World) (hb : Bytes w a len cap l) :
    Calls Tryz.prog 62 #[.int .u32 (r.toNat : Int), .slice a len cap] w fun e w' => e = .returned (.int .u32 ((reg r l).toNat : Int)) ∧ Below w.heap.size w w' := by
  have hz := zero38
  have HB := Lib.hid hb
  clear hb
  go_enter Tryz.func62, Tryz.ntmps62
  go_wp2_with fail
  refine (fill_bv _ _ _ (tab_new w) rfl).mono ?_
  rintro e w2 ⟨rfl, F, hF, hT⟩
  have HF := Lib.hid hF
  have HT := Lib.hid hT
  clear hF hT
  have HB2 : Hid (Bytes w2 a len cap l) := Lib.hid (HB.out.below (Nat.le_refl _) (((Below.refl _ _).alloc (Nat.le_refl _) _).trans (HF.out.only.below (Nat.le_refl _))))
  have HBel : Hid (Below w.heap.size w w2) := Lib.hid (((Below.refl _ _).alloc (Nat.le_refl _) _).trans (HF.out.only.below (Nat.le_refl _)))
  go_wp2_with fail
  go_loopw [0, 1] (fun x b wr => ∃ (n : Nat) (a : Option Addr) (len cap : Nat) (l1 l2 : List UInt8), Hid (wr = w2.drewN n) ∧ b = .slice a len cap ∧ Hid (Bytes w2 a len cap l2) ∧ Hid (l = l1 ++ l2) ∧ x = .int .u32 ((reg r l1).toNat : Int)) (fun _ b _ => sliceLen b)
  case atStart => exact ⟨0, a, len, cap, [], l, Lib.hid rfl, rfl, HB2, Lib.hid rfl, rfl⟩
  case round =>
    clear HB HB2
    obtain ⟨n, a, len, cap, l1, l2, HW, rfl, HB, HL, rfl⟩ := hrel
    have hlc := HB.out.le_cap
    have hm := HB.out.cap_le
    obtain rfl := HW.out
    clear HW
    by_cases h8 : 8 ≤ len
    · obtain ⟨hlen, _, _, _, hb0⟩ := HB.out
      rcases hb0 with h0 | ⟨b, off, rfl, hbs, hc⟩
      · omega
      obtain ⟨b0, b1, b2, b3, b4, b5, b6, b7, l3, rfl⟩ : ∃ b0 b1 b2 b3 b4 b5 b6 b7 l3, l2 = b0 :: b1 :: b2 :: b3 :: b4 :: b5 :: b6 :: b7 :: l3 := by
        match l2, hlen with
        | b0 :: b1 :: b2 :: b3 :: b4 :: b5 :: b6 :: b7 :: l3, _ => exact ⟨b0, b1, b2, b3, b4, b5, b6, b7, l3, rfl⟩
        | [], h | [_], h | [_, _], h | [_, _, _], h | [_, _, _, _], h | [_, _, _, _, _], h | [_, _, _, _, _, _], h | [_, _, _, _, _, _, _], h => simp at h; omega
      have c0 := hc 0 (by simp)
      have c1 := hc 1 (by simp)
      have c2 := hc 2 (by simp)
      have c3 := hc 3 (by simp)
      have c4 := hc 4 (by simp)
      have c5 := hc 5 (by simp)
      have c6 := hc 6 (by simp)
      have c7 := hc 7 (by simp)
      simp only [List.getElem_cons_zero, List.getElem_cons_succ, Nat.add_zero] at c0 c1 c2 c3 c4 c5 c6 c7
      have hlen' : Hid (l3.length + 8 = len) := Lib.hid (by simpa using hlen)
      have Hc := Lib.hid hc
      clear hc hlen
      have i0 : (0 : Int) < (len : Int) := by omega
      have i1 : (1 : Int) < (len : Int) := by omega
      have i2 : (2 : Int) < (len : Int) := by omega
      have i3 : (3 : Int) < (len : Int) := by omega
      generalize hx : reg r l1 = x at *
      have HX := Lib.hid hx
      clear hx
      go_wp2_with fail
      go_quiet (fail)
      rw [word_eq]
      generalize hy : x ^^^ word b0 b1 b2 b3 = y
      have HY := Lib.hid hy
      clear hy
      have i4 : (4 : Int) < (len : Int) := by omega
      have i5 : (5 : Int) < (len : Int) := by omega
      have i6 : (6 : Int) < (len : Int) := by omega
      have i7 : (7 : Int) < (len : Int) := by omega
      have hy1 : y.toNat < 4294967296 := y.isLt
      have v4 := b4.toNat_lt
      have v5 := b5.toNat_lt
      have v6 := b6.toNat_lt
      have v7 := b7.toNat_lt
      have t0 := HF.out.cells (b7.toNat) (by omega)
      have t1 := HF.out.cells (256 + b6.toNat) (by omega)
      have t2 := HF.out.cells (512 + b5.toNat) (by omega)
      have t3 := HF.out.cells (768 + b4.toNat) (by omega)
      have t4 := HF.out.cells (1024 + y.toNat / 16777216) (by omega)
      have t5 := HF.out.cells (1280 + y.toNat / 65536 % 256) (by omega)
      have t6 := HF.out.cells (1536 + y.toNat / 256 % 256) (by omega)
      have t7 := HF.out.cells (1792 + y.toNat % 256) (by omega)
      go_wp2_with fail
      go_quiet (fail)
      have hF8 : Hid (bits BinOp.xor IntKind.u32 (bits BinOp.xor IntKind.u32 (bits BinOp.xor IntKind.u32 (bits BinOp.xor IntKind.u32 (bits BinOp.xor IntKind.u32 (bits BinOp.xor IntKind.u32 (bits BinOp.xor IntKind.u32
          ((F (1792 + y.toNat % 256)).toNat : Int) ((F (1536 + y.toNat / 256 % 256)).toNat : Int)) ((F (1280 + y.toNat / 65536 % 256)).toNat : Int)) ((F (1024 + y.toNat / 16777216)).toNat : Int)) ((F (768 + b4.toNat)).toNat : Int)) ((F (512 + b5.toNat)).toNat : Int)) ((F (256 + b6.toNat)).toNat : Int)) ((F b7.toNat).toNat : Int)
          = ((reg r (l1 ++ [b0, b1, b2, b3, b4, b5, b6, b7])).toNat : Int)) := Lib.hid (by
        rw [reg_append, HX.out, ← tab8 x b0 b1 b2 b3 b4 b5 b6 b7 y HY.out]
        have e0 := HT.out 0 b7.toNat (by omega) (by omega)
        rw [Nat.mul_zero, Nat.zero_add] at e0
        simp only [bv_xor, e0, HT.out 1 b6.toNat (by omega) (by omega), HT.out 2 b5.toNat (by omega) (by omega), HT.out 3 b4.toNat (by omega) (by omega),
          HT.out 4 (y.toNat / 16777216) (by omega) (by omega), HT.out 5 (y.toNat / 65536 % 256) (by omega) (by omega), HT.out 6 (y.toNat / 256 % 256) (by omega) (by omega), HT.out 7 (y.toNat % 256) (by omega) (by omega),
          show 1024 = 256 * 4 from rfl, show 1280 = 256 * 5 from rfl, show 1536 = 256 * 6 from rfl, show 1792 = 256 * 7 from rfl, show 512 = 256 * 2 from rfl, show 768 = 256 * 3 from rfl])
      by_cases hcap : cap = 8
      · have hl8 : len = 8 := by omega
        subst hcap hl8
        go_wp2_with fail
        go_roundw
        case rel => exact ⟨_, _, _, _, l1 ++ [b0, b1, b2, b3, b4, b5, b6, b7], l3, Lib.hid rfl, rfl, Lib.hid ⟨by have := hlen'.out; omega, by omega, by omega, (fun h => by cases h), .inl rfl⟩, Lib.hid (by rw [HL.out]; simp), by rw [hF8.out]⟩
        case measure => simp [sliceLen]
      · go_wp2_with fail
        go_roundw
        case rel =>
          refine ⟨_, _, _, _, l1 ++ [b0, b1, b2, b3, b4, b5, b6, b7], l3, Lib.hid rfl, rfl, Lib.hid ⟨by have := hlen'.out; omega, by omega, by omega, (fun h => by cases h), .inr ⟨b, off + 8, rfl, hbs, fun i hi => ?_⟩⟩, Lib.hid (by rw [HL.out]; simp), by rw [hF8.out]⟩
          have := Hc.out (i + 8) (by simp; omega)
          simpa [Nat.add_assoc, Nat.add_comm 8] using this
        case measure => simp [sliceLen]; omega
    · obtain ⟨rfl, _, _, _, hb0⟩ := HB.out
      clear HB
      go_wp2_with fail
      go_loop [0, 94] (fun x i => ∃ k : Nat, k ≤ l2.length ∧ i = .int .i64 k ∧ x = .int .u32 ((reg r (l1 ++ l2.take k)).toNat : Int)) (fun _ i => l2.length - (intOf i).toNat)
      case atStart => exact ⟨0, Nat.zero_le _, rfl, by simp⟩
      case round =>
        obtain ⟨k, hk, rfl, rfl⟩ := hrel
        by_cases hlt : k < l2.length
        · rcases hb0 with h0 | ⟨b, off, rfl, hbs, hc⟩
          · omega
          have hck := hc k hlt
          have hk1 : Hid (reg r (l1 ++ l2.take (k + 1)) = byteCstep (reg r (l1 ++ l2.take k)) l2[k]) :=
            Lib.hid (by rw [List.take_succ_eq_append_getElem hlt, ← List.append_assoc, reg_append]; rfl)
          generalize hx : reg r (l1 ++ l2.take k) = x at *
          generalize hb : l2[k] = b at *
          have hv := b.toNat_lt
          have hbx := u8_xor_bv x b
          generalize hq : (x.setWidth 8 ^^^ b.toBitVec).toNat = q at *
          have hq256 : q < 256 := by rw [← hq]; exact BitVec.isLt _
          have ht := HF.out.cells q (by omega)
          have HT1 := HT.out 0 q (by omega) hq256
          rw [Nat.mul_zero, Nat.zero_add] at HT1
          have HQ := Lib.hid hq
          have HX := Lib.hid hx
          have HBB := Lib.hid hb
          have H1 := Lib.hid HT1
          clear hc hx hq hb HT1
          go_wp2_with fail
          go_round
          case rel => exact ⟨k + 1, by omega, by go_num, by rw [bv_shr8, bv_xor, hk1.out, ← tab1, H1.out, HQ.out]⟩
          case measure => simp [intOf]; omega
        · go_wp2_with fail
          go_ret
          exact ⟨ret_int (by rw [List.take_of_length_le (by omega), ← HL.out]), below_drewN HBel.out n⟩
end Go.Proofs.YtilfmmjjiiabgaaGreatDoor.CrcC
end
