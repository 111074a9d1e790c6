/-
  Sizes of tokens: Size, the document's Size, Few.
-/
import Derived.Test.YtaeoedapaiapdaaDoorTokM
namespace Go.Proofs.YtaeoedapaiapdaaDoor.LzC
open Go.RowKit Go.My LzMath

theorem size_any (t : Tok) (w : World) : Calls Tryd.prog 40 #[.agg (tc t)] w fun e w' => e = .returned (.int .i64 (sz t : Int)) ∧ Below w.heap.size w w' := by
  obtain ⟨l, d, b⟩ := t
  unfold tc
  dsimp only
  by_cases h0 : l = 0
  · subst h0
    go_enter Tryd.func40, Tryd.ntmps40
    go_wp2_with fail
    go_ret
    exact ⟨rfl, (Below.refl _ _).alloc (Nat.le_refl _) _⟩
  · have HS : Hid ((sz ⟨l, d, b⟩ : Nat) = l.toNat) := Lib.hid (by unfold sz; rw [if_neg h0])
    by_cases h1 : l < 0
    · go_enter Tryd.func40, Tryd.ntmps40
      go_wp2_with fail
      go_ret
      exact ⟨by rw [HS.out]; exact ret_int (by omega), (Below.refl _ _).alloc (Nat.le_refl _) _⟩
    · go_enter Tryd.func40, Tryd.ntmps40
      go_wp2_with fail
      go_ret
      exact ⟨by rw [HS.out]; exact ret_int (by omega), (Below.refl _ _).alloc (Nat.le_refl _) _⟩

theorem sz_le (t : Tok) (h : Wf t) : sz t ≤ 9223372036854775807 := by
  have := h.1.2
  unfold sz
  split <;> omega

/-- The number of bytes, no more than 2^40. -/
def cap (f : Nat → Tok) (k : Nat) : Nat := min (tot f k) 1099511627776
theorem cap_zero (f : Nat → Tok) : cap f 0 = 0 := rfl

set_option maxRecDepth 100000 in
set_option maxHeartbeats 4000000 in
theorem size_all (a : Option Addr) (len c : Nat) (f : Nat → Tok) (w : World) (h : TokIn w a len c f) :
    Calls Tryd.prog 24 #[.slice a len c] w fun e w' => e = .returned (.int .i64 (cap f len : Int)) ∧ Below w.heap.size w w' := by
  have H := Lib.hid h
  have hlc := h.le_cap
  have hcm := h.cap_le
  clear h
  go_enter Tryd.func24, Tryd.ntmps24
  go_wp2_with fail
  go_loopw [3, 8] (fun n i wr => ∃ k : Nat, k ≤ len ∧ i = .int .i64 (k : Int) ∧ n = .int .i64 (cap f k : Int) ∧ Hid (Below w.heap.size w wr)) (fun _ i _ => len - (intOf i).toNat)
  case atStart => exact ⟨0, Nat.zero_le _, rfl, rfl, Lib.hid (Below.refl _ _)⟩
  case round =>
    obtain ⟨k, hk, rfl, rfl, HB⟩ := hrel
    by_cases hlt : k < len
    · obtain ⟨b, off, rfl, ho⟩ := (H.out.below (Nat.le_refl _) HB.out).get hlt
      obtain ⟨c0, c1, c2, hbl, wf⟩ := ho
      have hs : cap f (k + 1) = min (cap f k + sz (f k)) 1099511627776 := by show min (tot f k + sz (f k)) _ = _; unfold cap; omega
      have hN : cap f k ≤ 1099511627776 := by unfold cap; omega
      have hz := sz_le (f k) wf
      obtain ⟨N, hNe⟩ : ∃ N, N = cap f k := ⟨_, rfl⟩
      obtain ⟨t, ht⟩ : ∃ t, t = f k := ⟨_, rfl⟩
      obtain ⟨z, hze⟩ : ∃ z, z = sz t := ⟨_, rfl⟩
      rw [← hNe] at hs hN ⊢
      rw [← ht] at c0 c1 c2 wf hs hz
      rw [← hze] at hs hz
      obtain ⟨M, hM⟩ : ∃ M, M = min z (1099511627776 - N) := ⟨_, rfl⟩
      have hmin : (if (1099511627776 : Int) - (N : Int) < (z : Int) then (1099511627776 : Int) - (N : Int) else (z : Int)) = (M : Int) := by split <;> omega
      have hMb : N + M ≤ 1099511627776 := by omega
      have HS : Hid (cap f (k + 1) = N + M) := Lib.hid (by omega)
      have HZ := Lib.hid hze
      clear hs hM hNe ht hze
      go_wp2_with fail
      refine (size_any t _).mono ?_
      rw [← HZ.out]
      rintro e w1 ⟨rfl, hb⟩
      have HB1 : Hid (Below w.heap.size w w1) := Lib.hid ((HB.out.alloc HB.out.size _).trans (hb.mono (by have := HB.out.size; simp; omega)))
      clear hb
      go_wp2_with fail
      go_roundw
      case rel => exact ⟨k + 1, by omega, by go_num, by rw [HS.out]; go_num, HB1⟩
      case measure => simp [intOf]; omega
    · obtain rfl : k = len := by omega
      go_wp2_with fail
      go_ret
      exact ⟨rfl, HB.out⟩

theorem cap_full (f : Nat → Tok) (k n : Nat) (hk : k < n) (h : 1099511627776 < tot f (k + 1)) : cap f n = 1099511627776 := by
  have := tot_mono f (k + 1) n hk
  unfold cap
  omega

set_option maxRecDepth 100000 in
set_option maxHeartbeats 4000000 in
theorem rsize_all (a : Option Addr) (len c : Nat) (f : Nat → Tok) (w : World) (h : TokIn w a len c f) :
    Calls Tryd.prog 7 #[.slice a len c] w fun e w' => e = .returned (.int .i64 (cap f len : Int)) ∧ w = w' := by
  have H := Lib.hid h
  have hlc := h.le_cap
  have hcm := h.cap_le
  clear h
  go_enter Tryd.func7, Tryd.ntmps7
  go_wp2_with fail
  go_loop [3, 4] (fun n i => ∃ k : Nat, k ≤ len ∧ i = .int .i64 (k : Int) ∧ n = .int .i64 (cap f k : Int) ∧ tot f k ≤ 1099511627776) (fun _ i => len - (intOf i).toNat)
  case atStart => exact ⟨0, Nat.zero_le _, rfl, rfl, by show 0 ≤ _; omega⟩
  case round =>
    obtain ⟨k, hk, rfl, rfl, hT⟩ := hrel
    by_cases hlt : k < len
    · obtain ⟨b, off, rfl, ho⟩ := H.out.get hlt
      obtain ⟨c0, c1, c2, hbl, wf⟩ := ho
      have hN : cap f k = tot f k := by unfold cap; omega
      have hs : tot f (k + 1) = tot f k + sz (f k) := rfl
      have hz := sz_le (f k) wf
      have hz2 : sz (f k) = if (f k).len = 0 then 1 else (f k).len.toNat := rfl
      rw [hN]
      obtain ⟨N, hNe⟩ : ∃ N, N = tot f k := ⟨_, rfl⟩
      obtain ⟨t, ht⟩ : ∃ t, t = f k := ⟨_, rfl⟩
      obtain ⟨z, hze⟩ : ∃ z, z = sz t := ⟨_, rfl⟩
      rw [← hNe] at hs hT ⊢
      rw [← ht] at c0 wf hs hz hz2
      rw [← hze] at hs hz hz2
      have HS := Lib.hid hs
      clear hs hN hNe ht hze c1 c2
      obtain ⟨l, d, bt⟩ := t
      have wl := wf.1
      dsimp only at c0 hz2 wl
      clear wf
      go_upto_if 23 with (fail)
      go_cut [5] (fun v wc => v = .int .i64 (z : Int) ∧ wc = w)
      case first =>
        by_cases h0 : l = 0
        · subst h0
          rw [if_pos rfl] at hz2
          subst hz2
          go_wp2_with fail
          go_meet
          case rel => exact ⟨rfl, rfl⟩
        · rw [if_neg h0] at hz2
          by_cases h1 : l < 0
          · obtain rfl : z = 0 := by omega
            go_wp2_with fail
            go_meet
            case rel => exact ⟨rfl, rfl⟩
          · have HZ : Hid (l = (z : Int)) := Lib.hid (by omega)
            clear hz2
            go_wp2_with fail
            go_meet
            case rel => exact ⟨by show Value.int .i64 l = _; rw [HZ.out], rfl⟩
      obtain ⟨rfl, rfl⟩ := hcut
      clear c0 hz2 wl
      by_cases hbig : 1099511627776 - (N : Int) < (z : Int)
      · have HC := Lib.hid (cap_full f k len hlt (by have := HS.out; omega))
        go_wp2_with fail
        go_ret
        exact ⟨by rw [HC.out]; rfl, rfl⟩
      · have HC : Hid (cap f (k + 1) = N + z) := Lib.hid (by unfold cap; rw [HS.out]; omega)
        go_wp2_with fail
        go_round
        case rel => exact ⟨k + 1, by omega, by go_num, by rw [HC.out]; go_num, by rw [HS.out]; omega⟩
        case measure => simp [intOf]; omega
    · obtain rfl : k = len := by omega
      go_wp2_with fail
      go_ret
      exact ⟨rfl, rfl⟩

/-- Few tells whether tokens are few, and their bytes. -/
def few (f : Nat → Tok) (len : Nat) : Bool := decide (len ≤ 100 ∧ cap f len ≤ 70000)
theorem few_tot {f : Nat → Tok} {len : Nat} (h : few f len = true) : len ≤ 100 ∧ tot f len ≤ 70000 := by
  unfold few cap at h
  simp only [decide_eq_true_eq] at h
  omega
set_option maxRecDepth 100000 in
theorem few_any (a : Option Addr) (len c : Nat) (f : Nat → Tok) (w : World) (h : TokIn w a len c f) :
    Calls Tryd.prog 4 #[.slice a len c] w fun e w' => e = .returned (.bool (few f len)) ∧ w = w' := by
  have H := Lib.hid h
  have hlc := h.le_cap
  have hcm := h.cap_le
  clear h
  by_cases h1 : len ≤ 100
  · have HF : Hid (few f len = decide ((cap f len : Int) ≤ 70000)) := Lib.hid (by unfold few; exact decide_eq_decide.2 (by omega))
    go_enter Tryd.func4, Tryd.ntmps4
    go_wp2_with fail
    refine (rsize_all a len c f w H.out).mono ?_
    generalize cap f len = N at *
    rintro e w' ⟨rfl, rfl⟩
    go_wp2_with fail
    go_ret
    exact ⟨by rw [HF.out]; rfl, rfl⟩
  · have HF : Hid (few f len = false) := Lib.hid (by unfold few; simp [h1])
    go_enter Tryd.func4, Tryd.ntmps4
    go_wp2_with fail
    go_ret
    exact ⟨by rw [HF.out]; rfl, rfl⟩
end Go.Proofs.YtaeoedapaiapdaaDoor.LzC
