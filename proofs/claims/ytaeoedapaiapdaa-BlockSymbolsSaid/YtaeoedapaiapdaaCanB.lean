/-
  canon's counts: Kraft's sum of them, their kind.
-/
import Derived.Test.YtaeoedapaiapdaaCanA
import Derived.StillTailTactics
namespace Go.Proofs.Ytaeoedapaiapdaa.CanC
open Go.RowKit Go.My BitMath CanMath

theorem part_any (C : Array Value) (f : Nat → Nat) (h : Cnts C f) (k : Nat) (hk : k < 16) (w : World) : (Instr.index 84 (.agg C) (.int .i64 (k : Int))).run Try.prog w = .ok (.int .i64 ((f k : Nat) : Int)) w := by
  have hc := h.at_ k hk
  have hs : (sizeOf 3).run Try.prog w = .ok 1 w := by kernel_rfl
  unfold Instr.index
  simp [run_underlying Try.underlying84, asIntOf, hs, hk, Go.part, hc]

/-- Kraft's sum of counts. -/
def ksum (f : Nat → Nat) : Nat → Nat
  | 0 => 0
  | k + 1 => ksum f k + f k * 2 ^ (15 - k)
theorem ksum_low (ls : List Nat) (k : Nat) : ksum (cf ls) k = low ls k := by
  induction k with
  | zero => rw [low_zero]; rfl
  | succ k ih =>
    rw [ksum, ih, low_succ]
    unfold cf share
    by_cases h : k = 0
    · subst h; simp
    · rw [if_neg h, if_neg h]
theorem ksum_le (f : Nat → Nat) (hf : ∀ i, f i ≤ 65536) (k : Nat) : ksum f k ≤ 2147483648 * k := by
  induction k with
  | zero => simp [ksum]
  | succ k ih =>
    rw [ksum]
    have h1 : 2 ^ (15 - k) ≤ 2 ^ 15 := Nat.pow_le_pow_right (by omega) (by omega)
    have h2 : f k * 2 ^ (15 - k) ≤ 65536 * 2 ^ 15 := Nat.mul_le_mul (hf k) h1
    omega

set_option maxRecDepth 100000 in
set_option maxHeartbeats 2000000 in
theorem kraft_any (C : Array Value) (f : Nat → Nat) (w : World) (h : Cnts C f) (hf : ∀ i, f i ≤ 65536) :
    Calls Try.prog 49 #[.agg C] w fun e w' => e = .returned (.int .i64 ((ksum f 16 : Nat) : Int)) ∧ Below w.heap.size w w' := by
  have HN := Lib.hid h
  have HF := Lib.hid hf
  have HS : Hid ((Try.prog.info? 84).map (·.size) = some C.size) := Lib.hid (by rw [h.size]; exact info_cnt)
  clear h hf
  go_enter Try.func49, Try.ntmps49
  go_upto_region 2 with (fail)
  have HB : Hid (Below w.heap.size w (w.alloc (.cells C 84))) := Lib.hid ((Below.refl _ w).alloc (Nat.le_refl _) _)
  have HC : Hid (Blk (w.alloc (.cells C 84)) w.heap.size 84 C) := Lib.hid (Blk.new w _ _)
  generalize w.alloc (.cells C 84) = w1 at *
  go_wp2_with (refine wpList_load_row rfl 84 _ rfl w.heap.size rfl 84 C (0, 0) _ HC.out Try.underlying84 rfl HS.out ?_)
  go_loop [3, 4, 5, 7] (fun s _ _ i => ∃ k : Nat, k ≤ 16 ∧ i = .int .i64 (k : Int) ∧ s = .int .i64 ((ksum f k : Nat) : Int)) (fun _ _ _ i => 16 - (intOf i).toNat)
  case atStart => exact ⟨0, by omega, rfl, rfl⟩
  case round =>
    obtain ⟨k, hk, rfl, rfl⟩ := hrel
    by_cases hlt : k < 16
    · have hp := fun wx => part_any C f HN.out k hlt wx
      have hk1 := HF.out k
      have hks := ksum_le f HF.out k
      have h1 : 2 ^ (15 - k) ≤ 2 ^ 15 := Nat.pow_le_pow_right (by omega) (by omega)
      have h2 : f k * 2 ^ (15 - k) ≤ 65536 * 2 ^ 15 := Nat.mul_le_mul hk1 h1
      have HK : Hid (ksum f (k + 1) = ksum f k + f k * 2 ^ (15 - k)) := Lib.hid rfl
      generalize hx : f k = x at *
      have hm : (15 - (k : Int)).toNat = 15 - k := by omega
      have hm2 : min (15 - k) 64 = 15 - k := by omega
      have hsh : IntKind.i64.wrap ((x : Int) * 2 ^ (15 - k)) = ((x * 2 ^ (15 - k) : Nat) : Int) := by
        have e : (x : Int) * 2 ^ (15 - k) = ((x * 2 ^ (15 - k) : Nat) : Int) := by push_cast; rfl
        rw [e, IntWalk.i64_in _ (by omega)]
      generalize ksum f k = s at *
      generalize x * 2 ^ (15 - k) = y at *
      clear hx h1
      go_wp2_with fail
      go_round
      case rel => exact ⟨k + 1, by omega, by go_num, by rw [HK.out]; go_num⟩
      case measure => simp [intOf]; omega
    · obtain rfl : k = 16 := by omega
      go_wp2_with fail
      go_ret
      exact ⟨rfl, HB.out⟩

/-- What lengths are. -/
def kindN (ls : List Nat) : Int := if 32768 < kr ls then 4 else if kr ls = 0 then 0 else if kr ls = 32768 then 1 else if kr ls = 16384 ∧ ls.count 1 = 1 then 2 else 3

set_option maxRecDepth 100000 in
set_option maxHeartbeats 2000000 in
theorem kind_any (C : Array Value) (ls : List Nat) (w : World) (h : Cnts C (cf ls)) (hall : ∀ x ∈ ls, x ≤ 15) (hlen : ls.length ≤ 65536) :
    Calls Try.prog 47 #[.agg C] w fun e w' => e = .returned (.int .i64 (kindN ls)) ∧ Below w.heap.size w w' := by
  have HK : Hid (ksum (cf ls) 16 = kr ls) := Lib.hid (by rw [ksum_low, low_all ls hall])
  have HKN : Hid (kindN ls = if 32768 < kr ls then 4 else if kr ls = 0 then 0 else if kr ls = 32768 then 1 else if kr ls = 16384 ∧ ls.count 1 = 1 then 2 else 3) := Lib.hid rfl
  have HF : Hid (∀ i, cf ls i ≤ 65536) := Lib.hid fun i => Nat.le_trans (cf_le ls i) hlen
  have HC1 : Hid (C[1]? = some (.int .i64 ((ls.count 1 : Nat) : Int))) := Lib.hid (by have := h.at_ 1 (by omega); simpa [cf] using this)
  have hc1 : ls.count 1 ≤ 65536 := Nat.le_trans List.count_le_length hlen
  have HN := Lib.hid h
  have hkr : kr ls ≤ 16384 * ls.length := kr_le ls
  have HS : Hid ((Try.prog.info? 84).map (·.size) = some C.size) := Lib.hid (by rw [h.size]; exact info_cnt)
  clear h hall
  generalize kindN ls = X at *
  go_enter Try.func47, Try.ntmps47
  go_upto_region 1 with (fail)
  have HB : Hid (Below w.heap.size w (w.alloc (.cells C 84))) := Lib.hid ((Below.refl _ w).alloc (Nat.le_refl _) _)
  have HC : Hid (Blk (w.alloc (.cells C 84)) w.heap.size 84 C) := Lib.hid (Blk.new w _ _)
  generalize w.alloc (.cells C 84) = w1 at *
  go_wp2_with (refine wpList_load_row rfl 84 _ rfl w.heap.size rfl 84 C (0, 0) _ HC.out Try.underlying84 rfl HS.out ?_)
  refine (kraft_any C _ w1 HN.out HF.out).mono ?_
  rw [HK.out]
  rintro e w2 ⟨rfl, hb2⟩
  have HB2 := Lib.hid (HB.out.trans (hb2.mono HB.out.size))
  have HC2 : Hid (Blk w2 w.heap.size 84 C) := Lib.hid (HC.out.same (hb2.block _ HC.out.lt))
  have hcell : w2.cell? ⟨w.heap.size, 1, none⟩ = some (.int .i64 ((ls.count 1 : Nat) : Int)) := by rw [HC2.out.cell 1]; exact HC1.out
  clear hb2 HC HB HK HN HF HC1
  generalize ls.count 1 = c at *
  generalize kr ls = K at *
  by_cases h1 : 32768 < K
  · go_wp2_with fail
    go_ret
    exact ⟨ret_int (by rw [HKN.out, if_pos h1]), HB2.out⟩
  · by_cases h2 : K = 0
    · subst h2
      go_wp2_with fail
      go_ret
      exact ⟨ret_int (by rw [HKN.out]; rfl), HB2.out⟩
    · by_cases h3 : K = 32768
      · subst h3
        go_wp2_with fail
        go_ret
        exact ⟨ret_int (by rw [HKN.out]; rfl), HB2.out⟩
      · have e2 : ((K : Int) == 0) = false := by simp; omega
        have e3 : ((K : Int) == 32768) = false := by simp; omega
        by_cases h4 : K = 16384
        · subst h4
          by_cases h5 : c = 1
          · subst h5
            clear h1 h2 h3 e2 e3
            go_wp2_with fail
            go_ret
            exact ⟨ret_int (by rw [HKN.out]; rfl), HB2.out⟩
          · have e5 : ((c : Int) == 1) = false := by simp; omega
            have H5 := Lib.hid h5
            clear h1 h2 h3 e2 e3 h5
            go_wp2_with fail
            go_ret
            exact ⟨ret_int (by rw [HKN.out, if_neg (by omega), if_neg (by omega), if_neg (by omega), if_neg (fun hh => H5.out hh.2)]), HB2.out⟩
        · have e4 : ((K : Int) == 16384) = false := by simp; omega
          have H2 := Lib.hid h2
          have H3 := Lib.hid h3
          have H4 := Lib.hid h4
          clear h2 h3 h4
          go_wp2_with fail
          go_ret
          exact ⟨ret_int (by rw [HKN.out, if_neg h1, if_neg H2.out, if_neg H3.out, if_neg (fun hh => H4.out hh.1)]), HB2.out⟩
end Go.Proofs.Ytaeoedapaiapdaa.CanC
