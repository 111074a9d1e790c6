/-
  codes.bits: what was counted takes in codes; Fixed of no tokens.
-/
import Derived.Test.YtaeoedapaiapdaaBkD
namespace Go.Proofs.Ytaeoedapaiapdaa.BlkC
open Go.RowKit Go.My BitMath CanMath TabMath
open CanC (iv allWords)
open PkC (cel lv prd cost_any)
open PackMath (sm)
open InfMath (CodeOk fixL fixD)

theorem cel_row {w : World} {g n : Nat} {F : Nat → Nat} (h : Blk w g 3 (cel n F).toArray) (hn : n ≤ 1000000) : RowIn w (some ⟨g, 0, none⟩) n n (lv ((List.range n).map F)) := by
  rw [← PkC.cel_lv]
  have hl : (cel n F).length = n := by simp [cel]
  refine ⟨hl, Nat.le_refl _, by omega, (fun e => by cases e), .inr ⟨g, 0, rfl, h.lt, fun i hi => ?_⟩⟩
  rw [h.cell, Nat.zero_add, List.getElem?_toArray, List.getElem?_eq_getElem hi]
theorem prd_sm (n m : Nat) (F : Nat → Nat) (B : List Nat) (h : ∀ j, m ≤ j → j < n → B.getD j 0 = 0) : prd ((List.range n).map F) B (min n m) = sm n (fun j => F j * B.getD j 0) := by
  unfold prd
  have h1 : ∀ k, k ≤ n → sm k (fun j => ((List.range n).map F).getD j 0 * B.getD j 0) = sm k (fun j => F j * B.getD j 0) := fun k hk => PackMath.sm_congr fun j hj => by
    congr 1
    simp [List.getD_eq_getElem?_getD, show j < n by omega]
  have h2 : ∀ k, min n m + k ≤ n → sm (min n m + k) (fun j => F j * B.getD j 0) = sm (min n m) (fun j => F j * B.getD j 0) := by
    intro k hk
    induction k with
    | zero => rfl
    | succ k ih =>
      show sm (min n m + k) _ + F (min n m + k) * B.getD (min n m + k) 0 = _
      rw [ih (by omega), h _ (by omega) (by omega), Nat.mul_zero, Nat.add_zero]
  rw [h1 _ (Nat.min_le_left _ _)]
  have := h2 (n - min n m) (by omega)
  rw [show min n m + (n - min n m) = n from by omega] at this
  exact this.symm
theorem modest_of {n : Nat} {F : Nat → Nat} {B : List Nat} (hn : n ≤ 1000) (hF : ∀ j, F j ≤ 1073741824) (hB : B.length ≤ 1000) (h15 : ∀ x ∈ B, x ≤ 15) : PkC.Modest ((List.range n).map F) B := by
  refine ⟨by simpa using hn, hB, fun j => ?_, fun j => ?_⟩
  · by_cases hj : j < n
    · simp [List.getD_eq_getElem?_getD, hj, hF j]
    · simp [List.getD_eq_getElem?_getD, hj]
  · by_cases hj : j < B.length
    · rw [List.getD_eq_getElem?_getD, List.getElem?_eq_getElem hj]; have := h15 _ (List.getElem_mem hj); simp; omega
    · simp [List.getD_eq_getElem?_getD, hj]
theorem sum_nums {s t x : Nat} (hs : s ≤ 1000000000000) (ht : t ≤ 1000000000000) (hx : x ≤ 1000000000) : wrap64 ((s : Int) + (t : Int)) = (s : Int) + (t : Int) ∧ wrap64 ((s : Int) + (t : Int) + (x : Int)) = (s : Int) + (t : Int) + (x : Int) :=
  ⟨IntWalk.wrap64_in _ (by omega), IntWalk.wrap64_in _ (by omega)⟩
theorem blk_drewN {w : World} {g : Nat} {t : TypeId} {cs : Array Value} (h : Blk w g t cs) (q : Nat) : Blk (w.drewN q) g t cs := h
theorem row_drewN {w : World} {a : Option Addr} {n c : Nat} {vs : List Value} (h : RowIn w a n c vs) (q : Nat) : RowIn (w.drewN q) a n c vs := ⟨h.1, h.2, h.3, h.4, h.5⟩
set_option maxRecDepth 100000 in
set_option maxHeartbeats 4000000 in
/-- codes.bits where no symbol beyond the lengths is counted. -/
theorem bits_any {B : Nat} (w : World) (a1 a2 : Option Addr) (b1 b2 : Option Addr) (n1 n2 c1 c2 d1 d2 : Nat) (L D : List Nat) (g1 g2 x : Nat) (F G : Nat → Nat)
    (h1 : CodeIn B w a1 b1 n1 c1 d1 L) (h2 : CodeIn B w a2 b2 n2 c2 d2 D) (hF : Blk w g1 3 (cel 286 F).toArray) (hG : Blk w g2 3 (cel 32 G).toArray)
    (hL : L.length ≤ 1000) (hD : D.length ≤ 1000) (hL15 : ∀ y ∈ L, y ≤ 15) (hD15 : ∀ y ∈ D, y ≤ 15) (hFm : ∀ j, F j ≤ 1000000) (hGm : ∀ j, G j ≤ 1000000) (hx : x ≤ 1000000000) (s t : Nat) (hs : sm 286 (fun j => F j * ln L j) = s) (ht : sm 32 (fun j => G j * ln D j) = t)
    (hsl : s ≤ 1000000000000) (htl : t ≤ 1000000000000) :
    Calls Try.prog 26 #[.agg #[.slice a1 n1 c1, .slice b1 n1 d1, .slice a2 n2 c2, .slice b2 n2 d2], .agg #[.slice (some ⟨g1, 0, none⟩) 286 286, .slice (some ⟨g2, 0, none⟩) 32 32, .int .i64 (x : Int)]] w
      fun e w' => e = .returned (.int .i64 ((s + t + x : Nat) : Int)) ∧ Below w.heap.size w w' := by
  have hl1 := PkC.lv_size h1.lens
  have hl2 := PkC.lv_size h2.lens
  have e1 : prd ((List.range 286).map F) L (min 286 n1) = s := by rw [prd_sm 286 n1 F L (fun j hj _ => by rw [List.getD_eq_getElem?_getD, List.getElem?_eq_none (by omega)]; rfl)]; exact hs
  have e2 : prd ((List.range 32).map G) D (min 32 n2) = t := by rw [prd_sm 32 n2 G D (fun j hj _ => by rw [List.getD_eq_getElem?_getD, List.getElem?_eq_none (by omega)]; rfl)]; exact ht
  obtain ⟨X, hX⟩ : ∃ X, X = (w.alloc (.cells #[.slice a1 n1 c1, .slice b1 n1 d1, .slice a2 n2 c2, .slice b2 n2 d2] 54)).alloc (.cells #[.slice (some ⟨g1, 0, none⟩) 286 286, .slice (some ⟨g2, 0, none⟩) 32 32, .int .i64 (x : Int)] 58) := ⟨_, rfl⟩
  have hXB : Below w.heap.size w X := by rw [hX]; exact ((Below.refl _ _).alloc (Nat.le_refl _) _).alloc (by rw [World.size_alloc]; omega) _
  have HC : Hid (Blk X w.heap.size 54 #[.slice a1 n1 c1, .slice b1 n1 d1, .slice a2 n2 c2, .slice b2 n2 d2]) := Lib.hid (by rw [hX]; exact (Blk.new w _ _).alloc _)
  have HT : Hid (Blk X (w.heap.size + 1) 58 #[.slice (some ⟨g1, 0, none⟩) 286 286, .slice (some ⟨g2, 0, none⟩) 32 32, .int .i64 (x : Int)]) := Lib.hid (by
    have := Blk.new (w.alloc (.cells #[.slice a1 n1 c1, .slice b1 n1 d1, .slice a2 n2 c2, .slice b2 n2 d2] 54)) 58 #[.slice (some ⟨g1, 0, none⟩) 286 286, .slice (some ⟨g2, 0, none⟩) 32 32, .int .i64 (x : Int)]
    rw [World.size_alloc] at this
    rw [hX]; exact this)
  have hF' : Blk X g1 3 (cel 286 F).toArray := hF.same (hXB.block g1 hF.lt)
  have hG' : Blk X g2 3 (cel 32 G).toArray := hG.same (hXB.block g2 hG.lt)
  have HK1 : Hid (∀ q, Calls Try.prog 37 #[.slice (some ⟨g1, 0, none⟩) 286 286, .slice a1 n1 c1] (X.drewN q) fun e w' => e = .returned (.int .i64 ((s : Nat) : Int)) ∧ ∃ q', w' = (X.drewN q).drewN q') := Lib.hid fun q => by
    have h := cost_any (w := X.drewN q) (cel_row (blk_drewN hF' q) (by omega)) (row_drewN (h1.lens.below (Nat.le_refl _) hXB) q) (modest_of (by omega) (fun j => Nat.le_trans (hFm j) (by omega)) hL hL15)
    rw [e1] at h
    exact h
  have HK2 : Hid (∀ q, Calls Try.prog 37 #[.slice (some ⟨g2, 0, none⟩) 32 32, .slice a2 n2 c2] (X.drewN q) fun e w' => e = .returned (.int .i64 ((t : Nat) : Int)) ∧ ∃ q', w' = (X.drewN q).drewN q') := Lib.hid fun q => by
    have h := cost_any (w := X.drewN q) (cel_row (blk_drewN hG' q) (by omega)) (row_drewN (h2.lens.below (Nat.le_refl _) hXB) q) (modest_of (by omega) (fun j => Nat.le_trans (hGm j) (by omega)) hD hD15)
    rw [e2] at h
    exact h
  have HXB := Lib.hid hXB
  obtain ⟨w1, w2⟩ := sum_nums hsl htl hx
  have HZ : Hid ((((s : Int) + (t : Int)) + (x : Int)) = ((s + t + x : Nat) : Int)) := Lib.hid (by push_cast; rfl)
  clear hsl htl hx
  clear h1 h2 hF hG hL hD hL15 hD15 hFm hGm e1 e2 hF' hG' hl1 hl2 hs ht hXB
  go_enter Try.func26, Try.ntmps26
  go_upto_region 1 with (fail)
  rw [← hX]
  clear hX
  have k0 : X.cell? ⟨w.heap.size, 0, none⟩ = some (.slice a1 n1 c1) := HC.out.cell 0
  have k2 : X.cell? ⟨w.heap.size, 2, none⟩ = some (.slice a2 n2 c2) := HC.out.cell 2
  have t0 : X.cell? ⟨w.heap.size + 1, 0, none⟩ = some (.slice (some ⟨g1, 0, none⟩) 286 286) := HT.out.cell 0
  have t1 : X.cell? ⟨w.heap.size + 1, 1, none⟩ = some (.slice (some ⟨g2, 0, none⟩) 32 32) := HT.out.cell 1
  have t2 : X.cell? ⟨w.heap.size + 1, 2, none⟩ = some (.int .i64 (x : Int)) := HT.out.cell 2
  go_quiet (first
    | (go_at_call 37; first | with_reducible exact Calls.quiet_of (HK1.out _) | with_reducible exact Calls.quiet_of (HK2.out _)))
  go_wp2_with fail
  go_ret
  exact ⟨ret_int (by rw [w2]; exact HZ.out), ⟨HXB.out.os, HXB.out.tape, HXB.out.output, HXB.out.size, HXB.out.block⟩⟩

/-! ### Fixed of no tokens -/
set_option maxRecDepth 100000 in
theorem cost_none : sm 286 (fun j => (if j = 256 then 1 else 0) * ln fixL j) = 7 ∧ sm 32 (fun j => (fun _ => 0) j * ln fixD j) = 0 := by decide +kernel
set_option maxRecDepth 100000 in
set_option maxHeartbeats 4000000 in
theorem fixed_nil (wide : Bool) (w : World) : Calls Try.prog 11 #[.slice none 0 0, .bool wide] w fun e w' => e = .returned (.int .i64 10) ∧ Below w.heap.size w w' := by
  have HFX := Lib.hid (fixed_any w)
  go_enter Try.func11, Try.ntmps11
  go_wp2_with fail
  go_loop [9] (fun v => v = .int .i64 0) (fun _ => 0)
  case atStart => rfl
  case round =>
    subst hrel
    go_wp2_with fail
    refine HFX.out.mono ?_
    rintro e w1 ⟨a1, c1, b1, a2, c2, b2, rfl, hc1, hc2, hb⟩
    have H1 := Lib.hid hc1
    have H2 := Lib.hid hc2
    have HB := Lib.hid hb
    have HCN := Lib.hid (count_nil wide w1)
    clear hc1 hc2 hb HFX
    go_wp2_with fail
    refine HCN.out.mono ?_
    rintro e w2 ⟨g1, g2, rfl, hF, hG, -, -, -, hb2⟩
    have HBT := Lib.hid (bits_any (B := w.heap.size) w2 a1 a2 (some ⟨b1, 0, none⟩) (some ⟨b2, 0, none⟩) 288 32 c1 c2 288 32 fixL fixD g1 g2 0 _ _ (H1.out.below hb2) (H2.out.below hb2) hF hG (by rw [InfMath.fixL_len]; omega) (by rw [InfMath.fixD_len]; omega) InfMath.fixL_ok.all InfMath.fixD_ok.all (fun j => by split <;> omega) (fun j => by omega) (by omega) 7 0 cost_none.1 cost_none.2 (by omega) (by omega))
    have HB2 := Lib.hid (HB.out.trans (hb2.mono HB.out.size))
    clear hF hG hb2 HCN H1 H2 HB
    go_wp2_with fail
    refine HBT.out.mono ?_
    rintro e w3 ⟨rfl, hb3⟩
    go_wp2_with fail
    go_ret
    exact ⟨rfl, HB2.out.trans (hb3.mono HB2.out.size)⟩
end Go.Proofs.Ytaeoedapaiapdaa.BlkC
