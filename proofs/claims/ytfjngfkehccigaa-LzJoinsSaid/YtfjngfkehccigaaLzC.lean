/-
  measure: how many bytes, or a fault that is thrown.
-/
import Derived.Test.YtfjngfkehccigaaLzB
import Derived.Defers
import Derived.Recover
namespace Go.Proofs.Ytfjngfkehccigaa.LzC
open Go.RowKit Go.My LzMath

/-- What a fault is, thrown. -/
def fault (c at_ : Int) : Value := .iface 45 (.agg #[.int .i64 c, .int .i64 at_])
/-- Token K is the first that may not stand there, or there is none. -/
structure EndsT (wide : Bool) (f : Nat → Tok) (len K : Nat) : Prop where
  le : K ≤ len
  good : GoodT wide f K
  bad : K < len → ¬ Ok wide f K
theorem ends_any (wide : Bool) (f : Nat → Tok) (len : Nat) : ∃ K, EndsT wide f len K := by
  rcases good_or wide f len with h | ⟨k, h1, h2, h3⟩
  · exact ⟨len, Nat.le_refl _, h, fun h => by omega⟩
  · exact ⟨k, by omega, h2, fun _ => h3⟩
theorem ok_no {wide : Bool} {f : Nat → Tok} {k : Nat} (h : ¬ Ok wide f k) : decide (May wide (f k)) = false ∨ decide (May wide (f k)) = true ∧ (tot f k : Int) < (f k).dist := by
  by_cases hm : May wide (f k)
  · exact .inr ⟨by simpa using hm, by have : ¬ (f k).dist ≤ (tot f k : Int) := fun h2 => h ⟨hm, h2⟩
                                      omega⟩
  · exact .inl (by simpa using hm)

set_option maxRecDepth 100000 in
set_option maxHeartbeats 4000000 in
theorem measure_any (wide : Bool) (a : Option Addr) (len c : Nat) (f : Nat → Tok) (K : Nat) (w : World) (h : TokIn w a len c f) (hE : EndsT wide f len K) (ht : tot f len ≤ 1000000) :
    Calls Try.prog 19 #[.slice a len c, .bool wide] w fun e w' =>
      (K = len ∧ e = .returned (.int .i64 (tot f len : Int)) ∨ K < len ∧ e = .panicked [{ v := fault 2 (K : Int), recovered := false }]) ∧ Below w.heap.size w w' := by
  have H := Lib.hid h
  have hlc := h.le_cap
  have hcm := h.cap_le
  have HE := Lib.hid hE
  have hKl := hE.le
  clear h hE
  go_enter Try.func19, Try.ntmps19
  go_wp2_with fail
  go_loopw [5, 10] (fun n i wr => ∃ k : Nat, k ≤ K ∧ i = .int .i64 (k : Int) ∧ n = .int .i64 (tot f k : Int) ∧ Hid (Below w.heap.size w wr)) (fun _ i _ => len - (intOf i).toNat)
  case atStart => exact ⟨0, Nat.zero_le _, rfl, rfl, Lib.hid (Below.refl _ _)⟩
  case round =>
    obtain ⟨k, hk, rfl, rfl, HB⟩ := hrel
    by_cases hlt : k < len
    · obtain ⟨b, off, rfl, ho⟩ := (H.out.below (Nat.le_refl _) HB.out).get hlt
      obtain ⟨c0, c1, c2, hbl, wf⟩ := ho
      have hs : tot f (k + 1) = tot f k + sz (f k) := rfl
      have hm := tot_mono f (k + 1) len hlt
      have hok : k < K → decide (May wide (f k)) = true ∧ ¬ (tot f k : Int) < (f k).dist := fun h => by
        obtain ⟨h1, h2⟩ := HE.out.good k h
        exact ⟨by simpa using h1, by omega⟩
      have hno : ¬ k < K → decide (May wide (f k)) = false ∨ decide (May wide (f k)) = true ∧ (tot f k : Int) < (f k).dist := fun h => by
        obtain rfl : k = K := by omega
        exact ok_no (HE.out.bad hlt)
      obtain ⟨N, hNe⟩ : ∃ N, N = tot f k := ⟨_, rfl⟩
      obtain ⟨t, hte⟩ : ∃ t, t = f k := ⟨_, rfl⟩
      obtain ⟨z, hze⟩ : ∃ z, z = sz t := ⟨_, rfl⟩
      obtain ⟨X, hX⟩ : ∃ X, X = wr.alloc (.cells (tc t) 26) := ⟨_, rfl⟩
      have HBL : Hid (Blk X wr.heap.size 26 (tc t)) := Lib.hid (by rw [hX]; exact Blk.new wr _ _)
      have HBX : Hid (Below w.heap.size w X) := Lib.hid (by rw [hX]; exact HB.out.alloc HB.out.size _)
      rw [← hte] at hs hok hno c0 c1 c2 wf
      rw [← hze] at hs
      rw [← hNe] at hs hok hno ⊢
      have HS := Lib.hid hs
      have hN : N ≤ 1000000 := by omega
      have hz : z ≤ 1000000 := by omega
      have hNz : N + z ≤ 1000000 := by omega
      have HZ := Lib.hid hze
      clear hs hm hNe hte hze
      go_upto_region 5 with (fail)
      unfold tc at hX
      rw [← hX]
      clear hX c0 c1 c2 hbl
      generalize wr.heap.size = g at *
      have x0 : X.cell? ⟨g, 0, none⟩ = some (.int .i64 t.len) := HBL.out.cell 0
      have x1 : X.cell? ⟨g, 1, none⟩ = some (.int .i64 t.dist) := HBL.out.cell 1
      have x2 : X.cell? ⟨g, 2, none⟩ = some (.int .u8 (t.byte.toNat : Int)) := HBL.out.cell 2
      go_wp2_with fail
      refine (may_any wide t X).mono ?_
      rintro e w1 ⟨rfl, hb⟩
      have HB1 : Hid (Below w.heap.size w w1) := Lib.hid (HBX.out.trans (hb.mono HBX.out.size))
      have HL1 : Hid (Blk w1 g 26 (tc t)) := Lib.hid (HBL.out.same (hb.block g HBL.out.lt))
      clear hb x0 x1 x2 HBL HBX
      have x0 : w1.cell? ⟨g, 0, none⟩ = some (.int .i64 t.len) := HL1.out.cell 0
      have x1 : w1.cell? ⟨g, 1, none⟩ = some (.int .i64 t.dist) := HL1.out.cell 1
      have x2 : w1.cell? ⟨g, 2, none⟩ = some (.int .u8 (t.byte.toNat : Int)) := HL1.out.cell 2
      by_cases hkK : k < K
      · obtain ⟨hm, hd⟩ := hok hkK
        clear hno hok
        rw [hm]
        clear hm
        go_wp2_with fail
        refine (size_any t w1).mono ?_
        rw [← HZ.out]
        rintro e w2 ⟨rfl, hb⟩
        have HB2 : Hid (Below w.heap.size w w2) := Lib.hid (HB1.out.trans (hb.mono HB1.out.size))
        clear hb
        go_wp2_with fail
        go_roundw
        case rel => exact ⟨k + 1, by omega, by go_num, by rw [HS.out]; go_num, HB2⟩
        case measure => simp [intOf]; omega
      · obtain rfl : k = K := by omega
        have hno := hno hkK
        clear hok
        rcases hno with hm | ⟨hm, hd⟩
        · rw [hm]
          clear hm
          go_wp2_with fail
          exact ⟨rfl, .inr ⟨hlt, rfl⟩, HB1.out⟩
        · rw [hm]
          clear hm
          go_wp2_with fail
          exact ⟨rfl, .inr ⟨hlt, rfl⟩, HB1.out⟩
    · obtain rfl : k = len := by omega
      obtain rfl : K = k := by omega
      go_wp2_with fail
      go_ret
      exact ⟨rfl, HB.out⟩
end Go.Proofs.Ytfjngfkehccigaa.LzC
