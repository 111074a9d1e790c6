/-
  Fixed of any tokens; the document's Fixed.
-/
import Derived.Test.YtaeoedapaiapdaaBkC
import Derived.Test.YtaeoedapaiapdaaBkE
import Derived.Test.YtaeoedapaiapdaaRfSy
import Derived.Test.YtaeoedapaiapdaaTok
namespace Go.Proofs.Ytaeoedapaiapdaa.BlkC
open Go.RowKit Go.My BitMath CanMath TabMath
open LzMath (Tok May)
open LzC (TokIn tc may_any rmay_any)
open PackMath (sm)
open InfMath (Pc lp dp symL litc dstc xtr lite cst fixL fixD)

/-! ### what the document adds up -/
def fxl (s : Nat) : Nat := if s < 144 ∨ 280 ≤ s then 8 else if s < 256 then 9 else 7
def rtk (wide : Bool) (t : Tok) : Nat := fxl (symL wide t) + if t.len = 0 then 0 else (lp t.len.toNat wide).x + 5 + (dp t.dist.toNat).x
def rfx (wide : Bool) (f : Nat → Tok) : Nat → Nat
  | 0 => 10
  | k + 1 => rfx wide f k + rtk wide (f k)
theorem fixL_size : ∀ v : Fin 288, ln fixL v.val = fxl v.val := by decide +kernel
theorem tkb_len {wide : Bool} {t : Tok} (h : May wide t) : (InfMath.tkb fixL fixD wide t).length = rtk wide t := by
  have hs := InfMath.sym_small h
  have h1 := fixL_size ⟨symL wide t, by omega⟩
  simp only at h1
  unfold InfMath.tkb rtk
  rw [← h1]
  unfold symL
  by_cases h0 : t.len = 0
  · rw [if_pos h0, if_pos h0, if_pos h0, InfMath.bits_ln, Nat.add_zero]
  · have h2 := InfMath.fixD_ln ⟨(dp t.dist.toNat).s, InfMath.dist_small h h0⟩
    simp only at h2
    rw [if_neg h0, if_neg h0, if_neg h0]
    unfold InfMath.pbits
    simp only [List.length_append, InfMath.bits_ln, lows_len]
    omega
theorem rfx_cst {wide : Bool} {f : Nat → Tok} {n : Nat} (hM : ∀ i, i < n → May wide (f i)) : rfx wide f n = 3 + cst wide f n (ln fixL) (ln fixD) := by
  rw [← InfMath.blk_cost fixL fixD wide f n hM, List.length_append, InfMath.bits_ln]
  have h7 : ln fixL 256 = 7 := fixL_size ⟨256, by omega⟩
  have h : ∀ k, k ≤ n → rfx wide f k = 10 + (InfMath.tks fixL fixD wide f k).length := by
    intro k
    induction k with
    | zero => intro _; rfl
    | succ k ih =>
      intro hk
      rw [rfx, ih (by omega), InfMath.tks, List.length_append, tkb_len (hM k (by omega))]
      omega
  rw [h n (Nat.le_refl _), h7]
  omega
theorem rtk_le {wide : Bool} {t : Tok} (h : May wide t) : rtk wide t ≤ 50 := by
  unfold rtk fxl
  by_cases h0 : t.len = 0
  · rw [if_pos h0]; split
    · omega
    · split <;> omega
  · rw [if_neg h0]
    obtain ⟨q1, q2, q3, q4, -⟩ := InfMath.mat_of h h0
    obtain ⟨l, -, -, -, -, -, a6⟩ := InfMath.lp_base t.len.toNat wide q1 q2
    obtain ⟨d, -, -, -, -, b5⟩ := InfMath.dp_far t.dist.toNat wide q3 q4
    split
    · omega
    · split <;> omega
theorem rfx_le {wide : Bool} {f : Nat → Tok} : ∀ {n : Nat}, (∀ i, i < n → May wide (f i)) → rfx wide f n ≤ 10 + 50 * n
  | 0, _ => Nat.le_refl _
  | n + 1, h => by
    have := rfx_le (n := n) fun i hi => h i (by omega)
    have := rtk_le (h n (by omega))
    rw [rfx]
    omega
/-- Up to the first token that may not be. -/
theorem first_bad (wide : Bool) (f : Nat → Tok) (len : Nat) : ∃ K, K ≤ len ∧ (∀ i, i < K → May wide (f i)) ∧ (K < len → ¬ May wide (f K)) := by
  induction len with
  | zero => exact ⟨0, Nat.le_refl _, fun i hi => by omega, fun h => by omega⟩
  | succ n ih =>
    obtain ⟨K, h1, h2, h3⟩ := ih
    by_cases e : K < n
    · exact ⟨K, by omega, h2, fun _ => h3 e⟩
    · obtain rfl : K = n := by omega
      by_cases hm : May wide (f K)
      · exact ⟨K + 1, Nat.le_refl _, fun i hi => by
          by_cases e2 : i = K
          · subst e2; exact hm
          · exact h2 i (by omega), fun h => by omega⟩
      · exact ⟨K, by omega, h2, fun _ => hm⟩
/-- What Fixed answers. -/
def fixZ (wide : Bool) (f : Nat → Tok) (len K : Nat) : Int := if K < len then -1 else (rfx wide f len : Int)
theorem sm_bound (n c : Nat) (F : Nat → Nat) (h : ∀ j, j < n → F j ≤ c) : sm n F ≤ n * c := by
  induction n with
  | zero => exact Nat.zero_le _
  | succ n ih =>
    show sm n F + F n ≤ _
    have := ih fun j hj => h j (by omega)
    have := h n (by omega)
    rw [Nat.succ_mul]
    omega
theorem ln15 {ls : List Nat} (h : ∀ x ∈ ls, x ≤ 15) (j : Nat) : ln ls j ≤ 15 := ln_le h j
theorem cost_small {n m : Nat} {F : Nat → Nat} {ls : List Nat} (h : ∀ x ∈ ls, x ≤ 15) (hF : ∀ j, F j ≤ m) (hm : m ≤ 1000000) (hn : n ≤ 1000) : sm n (fun j => F j * ln ls j) ≤ 1000000000000 := by
  have := sm_bound n (1000000 * 15) (fun j => F j * ln ls j) fun j _ => Nat.mul_le_mul (Nat.le_trans (hF j) hm) (ln15 h j)
  have h2 : n * (1000000 * 15) ≤ 1000 * (1000000 * 15) := Nat.mul_le_mul_right _ hn
  omega
set_option maxRecDepth 100000 in
set_option maxHeartbeats 8000000 in
theorem fixed_of (wide : Bool) (a : Option Addr) (len c : Nat) (f : Nat → Tok) (w : World) (h : TokIn w a len c f) (hn : len ≤ 100000) {K : Nat} (hK : K ≤ len) (hM : ∀ i, i < K → May wide (f i)) (hB : K < len → ¬ May wide (f K)) :
    Calls Try.prog 11 #[.slice a len c, .bool wide] w fun e w' => e = .returned (.int .i64 (fixZ wide f len K)) ∧ Below w.heap.size w w' := by
  have H := Lib.hid h
  have HM := Lib.hid hM
  have HNB := Lib.hid hB
  have hlc := h.le_cap
  have hcm := h.cap_le
  clear h hM hB
  go_enter Try.func11, Try.ntmps11
  go_wp2_with fail
  go_loopw [9] (fun iv wr => ∃ k : Nat, k ≤ K ∧ iv = .int .i64 (k : Int) ∧ Hid (Below w.heap.size w wr)) (fun iv _ => len - (intOf iv).toNat)
  case atStart => exact ⟨0, Nat.zero_le _, rfl, Lib.hid (Below.refl _ _)⟩
  case round =>
    obtain ⟨k, hk, rfl, HB⟩ := hrel
    by_cases hlt : k < len
    · obtain ⟨b, off, rfl, ho⟩ := (H.out.below (Nat.le_refl _) HB.out).get hlt
      obtain ⟨c0, c1, c2, hbl, wf⟩ := ho
      obtain ⟨t, ht⟩ : ∃ t, t = f k := ⟨_, rfl⟩
      rw [← ht] at c0 c1 c2
      obtain ⟨X, hX⟩ : ∃ X, X = wr.alloc (.cells (tc t) 44) := ⟨_, rfl⟩
      have HBL : Hid (Blk X wr.heap.size 44 (tc t)) := Lib.hid (by rw [hX]; exact Blk.new wr _ _)
      have HBX : Hid (Below w.heap.size w X) := Lib.hid (by rw [hX]; exact HB.out.alloc HB.out.size _)
      have HT := Lib.hid ht
      unfold tc at hX
      clear wf ht
      go_upto_region 4 with (fail)
      rw [← hX]
      clear hX c0 c1 c2 hbl
      generalize wr.heap.size = g at *
      have x0 : X.cell? ⟨g, 0, none⟩ = some (.int .i64 t.len) := HBL.out.cell 0
      have x1 : X.cell? ⟨g, 1, none⟩ = some (.int .i64 t.dist) := HBL.out.cell 1
      have x2 : X.cell? ⟨g, 2, none⟩ = some (.int .u8 (t.byte.toNat : Int)) := HBL.out.cell 2
      go_wp2_with fail
      refine (may_any wide t X).mono ?_
      rintro e w1 ⟨rfl, hb⟩
      have HB1 : Hid (Below w.heap.size w w1) := Lib.hid (HBX.out.trans (hb.mono HBX.out.size))
      clear hb x0 x1 x2 HBL HBX
      by_cases hkK : k < K
      · have hm : decide (May wide t) = true := by rw [HT.out]; exact decide_eq_true (HM.out k hkK)
        rw [hm]
        clear hm
        go_wp2_with fail
        go_roundw
        case rel => exact ⟨k + 1, by omega, by go_num, HB1⟩
        case measure => simp [intOf]; omega
      · obtain rfl : k = K := by omega
        have hm : decide (May wide t) = false := by rw [HT.out]; exact decide_eq_false (HNB.out hlt)
        rw [hm]
        clear hm
        have HZ : Hid (fixZ wide f len k = -1) := Lib.hid (by unfold fixZ; rw [if_pos hlt])
        go_wp2_with fail
        go_ret
        exact ⟨by rw [HZ.out]; rfl, HB1.out⟩
    · obtain rfl : k = len := by omega
      obtain rfl : K = k := by omega
      have HFX := Lib.hid (fixed_any wr)
      go_wp2_with fail
      refine HFX.out.mono ?_
      rintro e w1 ⟨a1, c1, b1, a2, c2, b2, rfl, hc1, hc2, hb⟩
      have H1 := Lib.hid hc1
      have H2 := Lib.hid hc2
      have HB1 := Lib.hid (HB.out.trans (hb.mono HB.out.size))
      have HCN := Lib.hid (count_any wide a K c f w1 (H.out.below (Nat.le_refl _) HB1.out) HM.out (by omega))
      clear hc1 hc2 hb HFX HB
      go_wp2_with fail
      refine HCN.out.mono ?_
      rintro e w2 ⟨g1, g2, rfl, hF, hG, -, -, -, hb2⟩
      have hx := xtr_le HM.out
      have HBT := Lib.hid (bits_any (B := wr.heap.size) w2 a1 a2 (some ⟨b1, 0, none⟩) (some ⟨b2, 0, none⟩) 288 32 c1 c2 288 32 fixL fixD g1 g2 (xtr wide f K) _ _ (H1.out.below hb2) (H2.out.below hb2) hF hG (by rw [InfMath.fixL_len]; omega) (by rw [InfMath.fixD_len]; omega) InfMath.fixL_ok.all InfMath.fixD_ok.all (fun j => by have := InfMath.lite_le wide f K j; omega) (fun j => by have := InfMath.dstc_le f K j; omega) (by omega) _ _ rfl rfl
        (cost_small (m := 100001) InfMath.fixL_ok.all (fun j => by have := InfMath.lite_le wide f K j; omega) (by omega) (by omega)) (cost_small (m := 100001) InfMath.fixD_ok.all (fun j => by have := InfMath.dstc_le f K j; omega) (by omega) (by omega)))
      have HB2 := Lib.hid (HB1.out.trans (hb2.mono HB1.out.size))
      have hle := rfx_le HM.out
      have HZ : Hid (fixZ wide f K K = (rfx wide f K : Int) ∧ rfx wide f K = 3 + (sm 286 (fun j => lite wide f K j * ln fixL j) + sm 32 (fun j => dstc f K j * ln fixD j) + xtr wide f K)) := Lib.hid ⟨by unfold fixZ; rw [if_neg (by omega)], rfx_cst HM.out⟩
      obtain ⟨T, hT⟩ : ∃ T, T = sm 286 (fun j => lite wide f K j * ln fixL j) + sm 32 (fun j => dstc f K j * ln fixD j) + xtr wide f K := ⟨_, rfl⟩
      rw [← hT] at HBT HZ
      have hTb : T ≤ 10000000 := by have := HZ.out.2; omega
      clear hF hG hb2 HCN H1 H2 HB1 hx hle hT
      go_wp2_with fail
      refine HBT.out.mono ?_
      rintro e w3 ⟨rfl, hb3⟩
      go_wp2_with fail
      go_ret
      exact ⟨by rw [HZ.out.1, HZ.out.2, Int.natCast_add]; rfl, HB2.out.trans (hb3.mono HB2.out.size)⟩
end Go.Proofs.Ytaeoedapaiapdaa.BlkC
