import Derived.Test.YtilfmmjjiiabgaaCrcB
import Derived.StillTailTactics
import Derived.Deep.QuietTactic
import Derived.BigQuiet
import Derived.Deep.MidRow
namespace Go.Proofs.Ytilfmmjjiiabgaa.CrcC
open Go.RowKit Go.My CrcMath

/-- Only block B may have changed. -/
structure OnlyB (B : Nat) (w w' : World) : Prop where
  os : w'.os = w.os
  tape : w'.tape = w.tape
  output : w'.output = w.output
  size : w'.heap.size = w.heap.size
  block : ∀ k, k ≠ B → w'.heap[k]? = w.heap[k]?

theorem OnlyB.refl (B : Nat) (w : World) : OnlyB B w w := ⟨rfl, rfl, rfl, rfl, fun _ _ => rfl⟩
theorem OnlyB.trans {B : Nat} {a b c : World} (h : OnlyB B a b) (k : OnlyB B b c) : OnlyB B a c :=
  ⟨k.os.trans h.os, k.tape.trans h.tape, k.output.trans h.output, k.size.trans h.size, fun i hi => (k.block i hi).trans (h.block i hi)⟩
theorem OnlyB.drew {B : Nat} {a w : World} (h : OnlyB B a w) : OnlyB B a w.drew := ⟨h.os, h.tape, h.output, h.size, h.block⟩
theorem OnlyB.drewN {B : Nat} {a w : World} (h : OnlyB B a w) (n : Nat) : OnlyB B a (w.drewN n) := ⟨h.os, h.tape, h.output, h.size, h.block⟩
theorem OnlyB.set {B : Nat} {a w : World} (h : OnlyB B a w) (o : Nat) (u : Value) : OnlyB B a (w.setCell ⟨B, o, none⟩ u) :=
  h.trans ⟨rfl, rfl, rfl, by simp [World.setCell], fun k hk => Below.heap_setCell _ _ _ _ hk⟩
theorem OnlyB.below {B : Nat} {a w : World} (h : OnlyB B a w) {C : Nat} (hC : C ≤ B) : Below C a w :=
  ⟨h.os, h.tape, h.output, by rw [h.size]; exact Nat.le_refl _, fun k hk => h.block k (by omega)⟩

def upd (F : Nat → BitVec 32) (o : Nat) (x : BitVec 32) : Nat → BitVec 32 := fun i => if i = o then x else F i

structure TabW (B : Nat) (w0 w : World) (F : Nat → BitVec 32) : Prop where
  cells : ∀ o, o < 2048 → w.cell? ⟨B, o, none⟩ = some (.int .u32 ((F o).toNat : Int))
  free : ∀ o, w.frozen? ⟨B, o, none⟩ = false
  only : OnlyB B w0 w

theorem TabW.drew {B : Nat} {w0 w : World} {F : Nat → BitVec 32} (h : TabW B w0 w F) : TabW B w0 w.drew F := ⟨h.cells, h.free, h.only.drew⟩
theorem TabW.drewN {B : Nat} {w0 w : World} {F : Nat → BitVec 32} (h : TabW B w0 w F) (n : Nat) : TabW B w0 (w.drewN n) F := ⟨h.cells, h.free, h.only.drewN n⟩
theorem TabW.set {B : Nat} {w0 w : World} {F : Nat → BitVec 32} (h : TabW B w0 w F) (o : Nat) (ho : o < 2048) (x : BitVec 32) :
    TabW B w0 (w.setCell ⟨B, o, none⟩ (.int .u32 (x.toNat : Int))) (upd F o x) := by
  refine ⟨fun i hi => ?_, fun i => by simp [h.free], h.only.set o _⟩
  by_cases e : i = o
  · subst e
    rw [World.cell?_setCell_same _ _ _ (h.cells i hi)]
    simp [upd]
  · rw [World.cell?_setCell_other _ _ _ _ (by intro hh; injection hh with _ h2 _; exact e h2.symm), h.cells i hi]
    simp [upd, e]



/-! ### the first table: finite facts, by the kernel -/
def bitF (j : Nat) : Nat := 256 / 2 ^ (j + 1)
theorem bitF_facts : ∀ j : Fin 8, 0 < bitF j.val ∧ bitF j.val ≤ 128 ∧ bitF j.val / 2 = bitF (j.val + 1) ∧ 2 * bitF j.val * 2 ^ j.val = 256 ∧ 2 ^ (8 - j.val) = 2 * bitF j.val ∧ 2 ^ (8 - (j.val + 1)) = bitF j.val := by decide
theorem T_half : ∀ j : Fin 8, ∀ m : Fin 128, 2 * bitF j.val * m.val < 256 → T 0 (2 * bitF j.val * m.val + bitF j.val) = T 0 (2 * bitF j.val * m.val) ^^^ cstep (cstepN j.val 1#32) := by decide +kernel

theorem half_next {G : Nat → BitVec 32} {bit m : Nat} (hb : 0 < bit) {x : BitVec 32} (hx : x = T 0 (2 * bit * m + bit))
    (hG : ∀ u, u < 256 → ((u < 2 * bit * m ∧ u % bit = 0) ∨ u % (2 * bit) = 0) → G u = T 0 u) :
    ∀ u, u < 256 → ((u < 2 * bit * (m + 1) ∧ u % bit = 0) ∨ u % (2 * bit) = 0) → upd G (2 * bit * m + bit) x u = T 0 u := by
  intro u hu h
  unfold upd
  by_cases e : u = 2 * bit * m + bit
  · rw [if_pos e, hx, e]
  · rw [if_neg e]
    apply hG u hu
    rcases h with ⟨h1, h2⟩ | h
    · by_cases h3 : u % (2 * bit) = 0
      · exact .inr h3
      · refine .inl ⟨?_, h2⟩
        obtain ⟨q, rfl⟩ := Nat.dvd_of_mod_eq_zero h2
        have e1 : 2 * bit * (m + 1) = bit * (2 * m + 2) := by rw [Nat.mul_comm 2 bit, Nat.mul_assoc]; congr 1
        have e2 : 2 * bit * m + bit = bit * (2 * m + 1) := by rw [Nat.mul_comm 2 bit, Nat.mul_assoc, Nat.mul_add]; omega
        have e3 : 2 * bit * m = bit * (2 * m) := by rw [Nat.mul_comm 2 bit, Nat.mul_assoc]
        rw [e1] at h1
        rw [e2] at e
        rw [e3]
        have hq : q < 2 * m + 2 := Nat.lt_of_mul_lt_mul_left h1
        have hq2 : q ≠ 2 * m + 1 := fun hh => e (by rw [hh])
        exact Nat.mul_lt_mul_of_pos_left (by
          by_cases hq3 : q < 2 * m
          · exact hq3
          · exfalso
            have : q = 2 * m := by omega
            apply h3
            rw [this, ← e3, Nat.mul_mod_right]) hb
    · exact .inr h

/-! ### the further tables -/
theorem T_next (k v : Nat) : T (k + 1) v = (T k v) >>> 8 ^^^ T 0 ((T k v).setWidth 8).toNat := by
  unfold T
  have h : (BitVec.ofNat 32 ((cstepN (8 * (k + 1)) (BitVec.ofNat 32 v)).setWidth 8).toNat) = ((cstepN (8 * (k + 1)) (BitVec.ofNat 32 v)).setWidth 8).setWidth 32 := by
    apply BitVec.eq_of_toNat_eq
    simp
  rw [h, show 8 * (k + 1 + 1) = 8 * (k + 1) + 8 from by omega, cstepN_add, cstepN_8]

def rowL (F : Nat → BitVec 32) (k : Nat) : List Value := (List.range 256).map fun v => .int .u32 ((F (256 * k + v)).toNat : Int)

theorem rowL_at {B k : Nat} {w0 w : World} {F : Nat → BitVec 32} (h : TabW B w0 w F) (hk : k < 8) : w.rangeAt B (k * 256) (rowL F k) := by
  rw [Nat.mul_comm]
  intro j v hv
  unfold rowL at hv
  have hj : j < 256 := by
    by_cases hj : j < 256
    · exact hj
    · rw [List.getElem?_eq_none (by simp; omega)] at hv; cases hv
  simp [hj] at hv
  rw [h.cells _ (by omega), hv]

theorem bv_shr8 (a : BitVec 32) : (a.toNat : Int) / (256 : Int) = ((a >>> 8).toNat : Int) := by
  rw [BitVec.toNat_ushiftRight, Nat.shiftRight_eq_div_pow]; simp

theorem rowL_len (F : Nat → BitVec 32) (k : Nat) : (rowL F k).length = 256 := by simp [rowL]
theorem info37 (F : Nat → BitVec 32) (k : Nat) : (Try.prog.info? 85).map (·.size) = some (rowL F k).length := by
  rw [rowL_len]; kernel_rfl
theorem index_row (F : Nat → BitVec 32) (k v : Nat) (hv : v < 256) (w : World) :
    (Instr.index 85 (.agg (rowL F k).toArray) (.int .i64 (v : Int))).run Try.prog w = .ok (.int .u32 ((F (256 * k + v)).toNat : Int)) w := by
  have hs : (sizeOf 24).run Try.prog w = .ok 1 w := by kernel_rfl
  have hu : Try.prog.underlying 85 = some (.array 256 24) := by kernel_rfl
  have hget : (rowL F k)[v]? = some (.int .u32 ((F (256 * k + v)).toNat : Int)) := by
    simp [rowL, hv]
  simp [Instr.index, asIntOf, Sem.run_bind, run_underlying hu w, hs, part, hget, hv]

set_option maxRecDepth 100000 in
set_option maxHeartbeats 1000000 in
theorem fill_bv (B : Nat) (w : World) (F0 : Nat → BitVec 32) (h0 : TabW B w w F0) (hz : F0 0 = 0#32) :
    Calls Try.prog 58 #[.pointer (some ⟨B, 0, none⟩)] w fun e w' => e = .returned (.tuple #[]) ∧ ∃ F, TabW B w w' F ∧ ∀ k v, k < 8 → v < 256 → F (256 * k + v) = T k v := by
  have H0 := Lib.hid h0
  have HZ := Lib.hid hz
  clear h0 hz
  go_enter Try.func58, Try.ntmps58
  go_wp2
  go_loopw [2, 3] (fun r i wr => ∃ j : Nat, j ≤ 8 ∧ i = .int .i64 (bitF j : Int) ∧ r = .int .u32 ((cstepN j 1#32).toNat : Int) ∧ Hid (∃ F, TabW B w wr F ∧ ∀ v, v < 256 → v % 2 ^ (8 - j) = 0 → F v = T 0 v)) (fun _ i _ => (intOf i).toNat)
  case atStart => exact ⟨0, by omega, rfl, rfl, Lib.hid ⟨F0, H0.out, fun v hv hm => by
    have hm' : v % 256 = 0 := hm
    obtain rfl : v = 0 := by omega
    rw [HZ.out]; rfl⟩⟩
  case round =>
    obtain ⟨j, hj, rfl, rfl, HF⟩ := hrel
    by_cases hlt : j < 8
    · obtain ⟨hpos, hle, hhalf, hall, hpow, hpow'⟩ := bitF_facts ⟨j, hlt⟩
      have hT := T_half ⟨j, hlt⟩
      simp only at hpos hle hhalf hall hpow hpow' hT
      have HH := Lib.hid hhalf
      have HA := Lib.hid hall
      have HP := Lib.hid hpow
      have HP' := Lib.hid hpow'
      have HT := Lib.hid hT
      clear hhalf hall hpow hpow' hT
      go_wp2_with (go_at_call 57; refine (step_bv _ _).mono ?_; rintro e w' ⟨rfl, rfl⟩)
      go_loopw [4] (fun i wr => ∃ m : Nat, m ≤ 2 ^ j ∧ i = .int .i64 ((2 * bitF j * m : Nat) : Int) ∧ Hid (∃ F, TabW B w wr F ∧ ∀ v, v < 256 → ((v < 2 * bitF j * m ∧ v % bitF j = 0) ∨ v % (2 * bitF j) = 0) → F v = T 0 v)) (fun i _ => 256 - (intOf i).toNat)
      case atStart =>
        obtain ⟨F, hF, hFT⟩ := HF.out
        exact ⟨0, Nat.zero_le _, rfl, Lib.hid ⟨F, hF, fun v hv h => hFT v hv (by
          rw [HP.out]
          rcases h with h | h
          · omega
          · exact h)⟩⟩
      case round =>
        obtain ⟨m, hm, rfl, HG⟩ := hrel
        have hm2 : 2 * bitF j * m ≤ 256 := by rw [← HA.out]; exact Nat.mul_le_mul_left _ hm
        by_cases hlv : 2 * bitF j * m < 256
        · have hmj : m < 2 ^ j := by
            apply Nat.lt_of_mul_lt_mul_left (a := 2 * bitF j)
            rw [HA.out]; exact hlv
          have hm3 : 2 * bitF j * (m + 1) ≤ 256 := by rw [← HA.out]; exact Nat.mul_le_mul_left _ hmj
          have hm128 : m < 128 := by
            have : 1 * m ≤ bitF j * m := Nat.mul_le_mul_right _ hpos
            rw [Nat.mul_assoc] at hlv
            omega
          have ht := HT.out ⟨m, hm128⟩ hlv
          simp only at ht
          obtain ⟨G, hG, hGT⟩ := HG.out
          have hnext : 2 * bitF j * (m + 1) = 2 * bitF j * m + 2 * bitF j := Nat.mul_succ _ _
          have hGv : G (2 * bitF j * m) = T 0 (2 * bitF j * m) := hGT _ hlv (.inr (Nat.mul_mod_right _ _))
          have hnew := half_next (x := G (2 * bitF j * m) ^^^ cstep (cstepN j 1#32)) hpos (by rw [ht, hGv]) hGT
          have HN := Lib.hid hnew
          have HNE := Lib.hid hnext
          clear hnew hGv ht hGT
          generalize hv : 2 * bitF j * m = v at *
          generalize hb : bitF j = bit at *
          generalize hv2 : 2 * bit * (m + 1) = v2 at *
          have hvb : v + bit < 256 := by omega
          have hc1 := hG.cells v (by omega)
          have hc2 := hG.cells (v + bit) (by omega)
          have hfr := hG.free (v + bit)
          have HHG := Lib.hid hG
          have HB := Lib.hid hb
          have HV := Lib.hid hv
          have HV2 := Lib.hid hv2
          clear hG HG hb hv hv2 hnext
          go_wp2_with fail
          go_region
          go_wp2
          go_roundw
          case rel =>
            refine ⟨m + 1, hmj, ?_, Lib.hid ⟨_, ?_, fun u hu h => HN.out u hu (by rw [HV2.out] at h; exact h)⟩⟩
            · rw [HV2.out, HNE.out]; simp
            · rw [bv_xor]
              exact (HHG.out.set _ (by omega) _).drew
          case measure => simp [intOf]; omega
        · obtain ⟨G, hG, hGT⟩ := HG.out
          have hv256 : 2 * bitF j * m = 256 := by omega
          have HGT : Hid (∀ u, u < 256 → u % 2 ^ (8 - (j + 1)) = 0 → G u = T 0 u) := Lib.hid (by rw [HP'.out]; intro u hu h; exact hGT u hu (.inl ⟨by omega, h⟩))
          have HHG := Lib.hid hG
          have HV := Lib.hid hv256
          clear hG hGT HG hv256
          generalize hvv : 2 * bitF j * m = v at *
          clear hvv
          go_wp2
          go_roundw
          case rel => exact ⟨j + 1, by omega, by rw [← HH.out]; simp, by rw [cstepN_succ'], Lib.hid ⟨G, HHG.out, HGT.out⟩⟩
          case measure => simp [intOf]; omega
    · obtain rfl : j = 8 := by omega
      have h8 : ((bitF 8 : Nat) : Int) = 0 := rfl
      rw [h8]
      clear h8
      obtain ⟨G, hG, hGT⟩ := HF.out
      have HG : Hid (∃ F, TabW B w wr F ∧ ∀ k v, k < 0 + 1 → v < 256 → F (256 * k + v) = T k v) :=
        Lib.hid ⟨G, hG, fun k v hk hv => by obtain rfl : k = 0 := by omega
                                            rw [Nat.mul_zero, Nat.zero_add]; exact hGT v hv (Nat.mod_one v)⟩
      clear HF hG hGT
      go_wp2
      go_loopw [35] (fun i wr => ∃ k : Nat, k ≤ 7 ∧ i = .int .i64 (k : Int) ∧ Hid (∃ F, TabW B w wr F ∧ ∀ k' v, k' < k + 1 → v < 256 → F (256 * k' + v) = T k' v)) (fun i _ => 7 - (intOf i).toNat)
      case atStart => exact ⟨0, by omega, rfl, HG⟩
      case round =>
        clear HG
        obtain ⟨k, hk, rfl, HF⟩ := hrel
        by_cases hk7 : k < 7
        · obtain ⟨F, hF, hFT⟩ := HF.out
          have hrow := rowL_at hF (by omega : k < 8)
          have hidx := fun v hv w => index_row F k v hv w
          have HI := Lib.hid hidx
          have HR := Lib.hid hrow
          clear hidx hrow HF
          go_wp2_with (refine wpList_load_mid rfl 85 _ rfl B (k * 256) rfl (rowL F k) _ HR.out Try.underlying85 rfl (info37 F k) ?_)
          obtain ⟨wo, rfl⟩ : ∃ wo : World, wo = wr := ⟨_, rfl⟩
          go_loopw [43] (fun i wr => ∃ v : Nat, v ≤ 256 ∧ i = .int .i64 (v : Int) ∧ Hid (∃ G, TabW B w wr G ∧ (∀ k' u, k' < k + 1 → u < 256 → G (256 * k' + u) = T k' u) ∧ ∀ u, u < v → G (256 * (k + 1) + u) = T (k + 1) u)) (fun i _ => 256 - (intOf i).toNat)
          case atStart => exact ⟨0, by omega, rfl, Lib.hid ⟨F, hF, hFT, fun u hu => by omega⟩⟩
          case round =>
            clear hF HR
            have HFT := Lib.hid hFT
            clear hFT
            obtain ⟨v, hv, rfl, HG⟩ := hrel
            by_cases hv256 : v < 256
            · obtain ⟨G, hG, hGT, hGU⟩ := HG.out
              have hidx := HI.out v hv256 wr
              have hTx : F (256 * k + v) = T k v := HFT.out k v (by omega) hv256
              generalize hx : F (256 * k + v) = x at *
              have hx8 : x.toNat % 256 < 256 := Nat.mod_lt _ (by omega)
              have hc1 := hG.cells (x.toNat % 256) (by omega)
              have hc2 := hG.cells ((k + 1) * 256 + v) (by omega)
              have hfr := hG.free ((k + 1) * 256 + v)
              have HTX := Lib.hid hTx
              have HX := Lib.hid hx
              have HHG := Lib.hid hG
              have HGT := Lib.hid hGT
              have HGU := Lib.hid hGU
              clear hTx hx hG hGT hGU HG
              go_wp2_with fail
              go_region
              go_wp2
              go_roundw
              case rel =>
                refine ⟨v + 1, by omega, by go_num, Lib.hid ⟨upd G (256 * (k + 1) + v) (x >>> 8 ^^^ G (x.toNat % 256)), ?_, ?_, ?_⟩⟩
                · rw [bv_shr8, bv_xor, Nat.mul_comm 256]
                  exact (HHG.out.set _ (by omega) _).drew
                · intro k' u hk' hu
                  rw [upd, if_neg (by omega)]
                  exact HGT.out k' u hk' hu
                · intro u hu
                  by_cases e : u = v
                  · subst e
                    rw [upd, if_pos rfl, T_next, ← HTX.out, BitVec.toNat_setWidth]
                    have := HGT.out 0 (x.toNat % 256) (by omega) hx8
                    rw [Nat.mul_zero, Nat.zero_add] at this
                    rw [this]
                  · rw [upd, if_neg (by omega)]
                    exact HGU.out u (by omega)
              case measure => simp [intOf]; omega
            · obtain rfl : v = 256 := by omega
              go_wp2
              go_roundw
              case rel =>
                obtain ⟨G, hG, hGT, hGU⟩ := HG.out
                exact ⟨k + 1, by omega, by go_num, Lib.hid ⟨G, hG, fun k' u hk' hu => by
                  by_cases e : k' = k + 1
                  · subst e; exact hGU u hu
                  · exact hGT k' u (by omega) hu⟩⟩
              case measure => simp [intOf]; omega
        · obtain rfl : k = 7 := by omega
          go_wp2
          go_end0
          obtain ⟨F, hF, hFT⟩ := HF.out
          exact ⟨rfl, F, hF, fun k v hk hv => hFT k v hk hv⟩
end Go.Proofs.Ytilfmmjjiiabgaa.CrcC
